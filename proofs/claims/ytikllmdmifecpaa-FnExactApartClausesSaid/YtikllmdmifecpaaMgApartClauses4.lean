/- Texts merged, part 4. -/
import Derived.Test.YtikllmdmifecpaaMgApartClauses3
section
/- RenameOf: the inner functions. -/
namespace Go.Proofs.Ytikllmdmifecpaa
open Go.RowKit

set_option maxRecDepth 100000 in
set_option maxHeartbeats 400000 in
theorem l1Has_c (l h : Nat) (v : Value) (t : List Int) (n : Int) (w : World) (ht : t.length ≤ 1048576) (hv : SlI l h w v t) :
    Calls Try.prog 172 #[v, .int .i64 n] w (RetV w (.bool (decide (n ∈ t)))) := by
  obtain ⟨ad, cap, rfl⟩ := hv.form
  go_enter Try.func172, Try.ntmps172
  go_wp2_with fail
  go_loop [9] (fun i => ∃ k : Nat, k ≤ t.length ∧ i = .int .i64 k ∧ n ∉ t.take k) (fun i => t.length - (intOf i).toNat)
  case atStart => exact ⟨0, Nat.zero_le _, rfl, by simp⟩
  case round =>
    obtain ⟨k, hk, rfl, hn⟩ := hrel
    by_cases hlt : k < t.length
    · obtain ⟨b, off, rfl, -, hcell⟩ := hv.at k hlt
      have E1 := Lib.hid (fun h => not_take_succ hlt (n := n) h hn)
      have E2 := Lib.hid (show t.getD k 0 = n → n ∈ t from fun h => by rw [← h]; simp [List.getD, hlt])
      clear hn hv
      generalize t.getD k 0 = x at *
      by_cases hx : x = n
      · have E : Hid (decide (n ∈ t) = true) := by show _ = _; simpa using E2.out hx
        have hx' : (x == n) = true := by simpa using hx
        clear hx E1 E2
        go_wp2_with fail
        go_ret
        exact ⟨by rw [E.out]; rfl, Bel.rfl' _⟩
      · have E := Lib.hid (E1.out hx)
        have hx' : (x == n) = false := by simpa using hx
        clear hx E1 E2
        go_wp2_with fail
        go_round
        case rel => exact ⟨k+1, by omega, by go_num, E.out⟩
        case measure => simp [intOf]; omega
    · have E : Hid (decide (n ∈ t) = false) := by show _ = _; rw [List.take_of_length_le (by omega)] at hn; simpa using hn
      clear hn
      go_wp2_with fail
      go_ret
      exact ⟨by rw [E.out]; rfl, Bel.rfl' _⟩
theorem l1Has_v (l h : Nat) (v : Value) (t : List Int) (n : Int) (q : Bool) (w : World) (he : decide (n ∈ t) = q) (ht : t.length ≤ 1048576) (hv : SlI l h w v t) :
    Calls Try.prog 172 #[v, .int .i64 n] w (RetV w (.bool q)) := he ▸ l1Has_c l h v t n w ht hv

def rows40 (l : List (List Int)) : Prop := l.length ≤ 20 ∧ ∀ j, j < l.length → (l.getD j []).length ≤ 40 ∧ ∀ k, k < (l.getD j []).length → -12 ≤ (l.getD j []).getD k 0
theorem rows40.mem {l : List (List Int)} (h : rows40 l) : ∀ t ∈ l, t.length ≤ 40 := by
  intro t ht
  obtain ⟨j, hj, rfl⟩ := List.getElem_of_mem ht
  have := (h.2 j hj).1
  simpa [List.getD, hj] using this
theorem rows40.met {l : List (List Int)} (h : rows40 l) (k : Nat) : (metS [] (l.take k)).length ≤ 800 := by
  have h1 := metS_len (l := l.take k) [] (fun t ht => h.mem t (List.mem_of_mem_take ht))
  have h2 := h.1
  simp at h1
  omega
theorem news_oneV (w : World) (x : Value) (t : TypeId) : ∀ j u, [x][j]? = some u → (w.alloc (.cells #[x] t)).cell? ((⟨w.heap.size, 0, none⟩ : Addr).add j) = some u := news_one w x t
theorem one_slice (a : Option Addr) (n c : Nat) : ∀ u ∈ [Value.slice a n c], u.oneCell' = true := by intro u hu; simp at hu; subst hu; rfl

set_option maxRecDepth 100000 in
set_option maxHeartbeats 2000000 in
theorem l2Rename_c (lo hi : Nat) (v : Value) (l : List (List Int)) (w : World) (hl : rows40 l) (hv : SlS lo hi w v l) :
    Calls Try.prog 147 #[v] w (RetSS w (renS [] l)) := by
  obtain ⟨ad, cap, rfl⟩ := hv.form
  obtain ⟨i0, hi0, hz0, hz1, hz2⟩ := info_parts Try.info3
  obtain ⟨i1, hi1, hy0, hy1, hy2⟩ := info_parts Try.info22
  have hl20 := hl.1
  go_enter Try.func147, Try.ntmps147
  go_wp2_with fail
  go_loopw [3, 4, 14] (fun vm vo i wr => ∃ (k : Nat) (tag : Nat → Nat) (us : List Value), k ≤ l.length ∧ i = .int .i64 k ∧ OwnT w.heap.size tag 0 3 wr vm ((metS [] (l.take k)).map (Value.int .i64)) ∧ OwnT w.heap.size tag 2 22 wr vo us ∧ InT w.heap.size tag 3 wr us (renS [] (l.take k)) ∧ Bel w wr) (fun _ _ i _ => l.length - (intOf i).toNat)
  case atStart => exact ⟨0, fun _ => 0, [], Nat.zero_le _, rfl, OwnT.nil _ _ _ _ _, OwnT.nil _ _ _ _ _, InT.nil _ _ _ _, Bel.rfl' _⟩
  case round =>
    obtain ⟨k, tag, us, hk, rfl, hM, hO, hI, hb⟩ := hrel
    by_cases hlt : k < l.length
    · obtain ⟨b1, off1, p, rfl, hbl1, hc1w, hp⟩ := hv.at (Bel.rfl' w) k hlt
      have hc1 := hb.at hbl1 hc1w
      have hms := metS_succ [] l k hlt
      have hrs := renS_succ [] l k hlt
      have hml := hl.met k
      have hneg : negM (metS [] (l.take k)) := negM.metS (by intro x hx; simp at hx) _
      obtain ⟨ht40, htl⟩ := hl.2 k hlt
      have hiL : us.length = (renS [] (l.take k)).length := hI.1
      rw [renS_len, List.length_take] at hiL
      generalize hMt : metS [] (l.take k) = M at *
      generalize hRt : renS [] (l.take k) = R at *
      generalize hMt2 : metS [] (l.take (k+1)) = M2 at *
      generalize hRt2 : renS [] (l.take (k+1)) = R2 at *
      generalize l.getD k [] = t at *
      have HSS := Lib.hid (And.intro hms (And.intro hrs (And.intro hMt2 hRt2)))
      have HNG := Lib.hid hneg
      clear hms hrs hMt hRt hMt2 hRt2 hneg
      obtain ⟨ap, cp, rfl⟩ := hp.form
      go_wp2_with fail
      go_loopw [3, 7, 20] (fun vm vx i wr => ∃ (j : Nat) (tag : Nat → Nat), j ≤ t.length ∧ i = .int .i64 j ∧ OwnT w.heap.size tag 0 3 wr vm ((metT M (t.take j)).map (Value.int .i64)) ∧ OwnT w.heap.size tag 1 3 wr vx ((renT M (t.take j)).map (Value.int .i64)) ∧ OwnT w.heap.size tag 2 22 wr u4 us ∧ InT w.heap.size tag 3 wr us R ∧ Bel w wr) (fun _ _ i _ => t.length - (intOf i).toNat)
      case atStart => exact ⟨0, tag, Nat.zero_le _, rfl, hM, OwnT.nil _ _ _ _ _, hO, hI, hb⟩
      case round =>
        clear hM hO hI
        obtain ⟨i, tag1, hi, rfl, hM, hX, hO, hI, hb1⟩ := hrel
        by_cases hlt2 : i < t.length
        · obtain ⟨b2, off2, rfl, -, hc2⟩ := (hp.below hb1).at i hlt2
          have hsm := metT_succ M t i hlt2
          have hsr := renT_succ M t i hlt2
          have hn12 := htl i hlt2
          have hml2 := metT_len M (t.take i)
          have hxl := renT_len M (t.take i)
          rw [List.length_take] at hml2 hxl
          have hng := HNG.out.metT (t.take i)
          generalize hq1 : metT M (t.take i) = M1 at *
          generalize hq2 : renT M (t.take i) = X1 at *
          generalize hq3 : metT M (t.take (i+1)) = M3 at *
          generalize hq4 : renT M (t.take (i+1)) = X3 at *
          generalize t.getD i 0 = n at *
          have hst := hng.step n
          have hmem := stepM_mem M1 n
          by_cases hneg : n < 0
          · by_cases hin : n ∈ M1
            · rw [stepM_old hin] at hsm hsr hst hmem
              have HS := Lib.hid (And.intro (hq3.trans hsm) (hq4.trans hsr))
              have HN := Lib.hid hst
              have HE := Lib.hid hmem
              clear hq1 hq2 hq3 hq4 hsm hsr hst hmem hng
              obtain ⟨am, nm, cm, rfl⟩ := own_form hM.1
              have hnm := row_len hM.1
              rw [List.length_map] at hnm
              subst hnm
              have hin' : decide (n ∈ M1) = true := by simpa using hin
              clear hin
              go_wp2_with (go_at_call 172; refine (l1Has_v _ _ _ M1 n true _ hin' (by omega) hM.sl).mono ?_; rintro e w2 ⟨rfl, hb2⟩)
              replace hM := hM.bel hb2
              replace hX := hX.bel hb2
              replace hO := hO.bel hb2
              replace hI := hI.bel hb2
              have hbn := hb1.step hb2
              have hMs := hM.sl
              clear hb2
              go_wp2_with fail
              go_loop [9, 38] (fun x i => ∃ k : Nat, k ≤ (M1).length ∧ i = .int .i64 k ∧ x = .int .i64 n ∧ n ∉ (M1).take k) (fun _ i => (M1).length - (intOf i).toNat)
              case atStart => exact ⟨0, Nat.zero_le _, rfl, rfl, by simp⟩
              case round =>
                obtain ⟨j, hj, rfl, rfl, hnj⟩ := hrel
                by_cases hjl : j < (M1).length
                · obtain ⟨b3, off3, rfl, -, hcell3⟩ := hMs.at j hjl
                  have E1 := Lib.hid (fun h => not_take_succ hjl (n := n) h hnj)
                  have E2 := Lib.hid (fun h => val_found HN.out hjl (n := n) h hnj)
                  clear hnj hMs
                  generalize (M1).getD j 0 = y at *
                  by_cases hy : y = n
                  · have EV := Lib.hid (E2.out hy)
                    have hy' : (y == n) = true := by simpa using hy
                    clear hy E1 E2
                    have hw9 := IntWalk.i64_in (-1 - (j : Int)) (by omega)
                    go_wp2_with (at_builtin; refine wpList_append_own_at _ rfl _ _ 22 rfl w.heap.size 3 i0 (.int .i64 0) 1 8 Try.underlying22 hi0 hz0 hz1 hz2 rfl (by decide) _ _ _ rfl (hX.alloc _).1 _ _ _ [.int .i64 (-1 - (j : Int))] rfl rfl (news_one _ _ _) (one_int _) (by unfold maxLen; simp only [List.length_map]; omega) (by simp only [List.length_map]; omega) (by have := hbn.size; simp; omega) ?_; intro v' w1 hown' hgrow _ hat)
                    obtain ⟨tag3, hX3, hT3⟩ := tag_snoc (hX.alloc _) hown' hgrow hat
                    have hM3 := hT3 _ _ _ _ (by omega) (hM.alloc _)
                    have hO3 := hT3 _ _ _ _ (by omega) (hO.alloc _)
                    have hI3 := (hI.bel (Bel.alloc0 _ _)).step (by omega) hT3
                    have hb3 := hbn.grownT hX (Nat.le_refl _) hgrow
                    go_roundw
                    case rel => exact ⟨i+1, tag3, by omega, by go_num, by rw [HS.out.1]; exact hM3, by rw [HS.out.2, EV.out]; exact hX3, hO3, hI3, hb3⟩
                    case measure => simp [intOf]; omega
                  · have E := Lib.hid (E1.out hy)
                    have hy' : (y == n) = false := by simpa using hy
                    clear hy E1 E2
                    go_wp2_with fail
                    go_round
                    case rel => exact ⟨j+1, by omega, by go_num, rfl, E.out⟩
                    case measure => simp [intOf]; omega
                · have EV : Hid (valM (M1) n = n) := by show _ = _; exact val_end HE.out (by rw [List.take_of_length_le (by omega)] at hnj; exact hnj)
                  clear hnj
                  go_wp2_with (at_builtin; refine wpList_append_own_at _ rfl _ _ 22 rfl w.heap.size 3 i0 (.int .i64 0) 1 8 Try.underlying22 hi0 hz0 hz1 hz2 rfl (by decide) _ _ _ rfl (hX.alloc _).1 _ _ _ [.int .i64 (n)] rfl rfl (news_one _ _ _) (one_int _) (by unfold maxLen; simp only [List.length_map]; omega) (by simp only [List.length_map]; omega) (by have := hbn.size; simp; omega) ?_; intro v' w1 hown' hgrow _ hat)
                  obtain ⟨tag3, hX3, hT3⟩ := tag_snoc (hX.alloc _) hown' hgrow hat
                  have hM3 := hT3 _ _ _ _ (by omega) (hM.alloc _)
                  have hO3 := hT3 _ _ _ _ (by omega) (hO.alloc _)
                  have hI3 := (hI.bel (Bel.alloc0 _ _)).step (by omega) hT3
                  have hb3 := hbn.grownT hX (Nat.le_refl _) hgrow
                  go_roundw
                  case rel => exact ⟨i+1, tag3, by omega, by go_num, by rw [HS.out.1]; exact hM3, by rw [HS.out.2, EV.out]; exact hX3, hO3, hI3, hb3⟩
                  case measure => simp [intOf]; omega
            · rw [stepM_new hneg hin] at hsm hsr hst hmem
              have HS := Lib.hid (And.intro (hq3.trans hsm) (hq4.trans hsr))
              have HN := Lib.hid hst
              have HE := Lib.hid hmem
              clear hq1 hq2 hq3 hq4 hsm hsr hst hmem hng
              obtain ⟨am, nm, cm, rfl⟩ := own_form hM.1
              have hnm := row_len hM.1
              rw [List.length_map] at hnm
              subst hnm
              have hin' : decide (n ∈ M1) = false := by simpa using hin
              clear hin
              obtain ⟨M4, hM4⟩ : ∃ M4, M4 = M1 ++ [n] := ⟨_, rfl⟩
              have HM4 := Lib.hid hM4
              clear hM4
              go_wp2_with (first | (go_at_call 172; refine (l1Has_v _ _ _ M1 n false _ hin' (by omega) hM.sl).mono ?_; rintro e w2 ⟨rfl, hb2⟩; replace hM := hM.bel hb2; replace hX := hX.bel hb2; replace hO := hO.bel hb2; replace hI := hI.bel hb2; have hbn0 := hb1.step hb2; clear hb2) | (at_builtin; refine wpList_append_own_at _ rfl _ _ 22 rfl w.heap.size 3 i0 (.int .i64 0) 1 8 Try.underlying22 hi0 hz0 hz1 hz2 rfl (by decide) _ _ _ rfl (hM.alloc _).1 _ _ _ [.int .i64 n] rfl rfl (news_one _ _ _) (one_int _) (by unfold maxLen; simp only [List.length_map]; omega) (by simp only [List.length_map]; omega) (by have := hbn0.size; simp; omega) ?_; intro v' w1 hown' hgrow _ hat; obtain ⟨am2, nm2, cm2, rfl⟩ := own_form hown'; have hnm2 : nm2 = M4.length := (by have := row_len hown'; rw [HM4.out]; simpa using this); subst hnm2))
              obtain ⟨tag2, hM2, hT2⟩ := tag_snoc (hM.alloc _) hown' hgrow hat
              replace hX := hT2 _ _ _ _ (by omega) (hX.alloc _)
              replace hO := hT2 _ _ _ _ (by omega) (hO.alloc _)
              replace hI := (hI.bel (Bel.alloc0 _ _)).step (by omega) hT2
              have hbn := hbn0.grownT hM (Nat.le_refl _) hgrow
              clear hM hown' hgrow hat hT2 hbn0
              have hM := hM2
              clear hM2
              rw [← HM4.out] at hM HS HN HE
              have hMs := hM.sl
              have hml3 : M4.length ≤ 900 := by rw [HM4.out]; simp; omega
              go_wp2_with fail
              go_loop [9, 38] (fun x i => ∃ k : Nat, k ≤ (M4).length ∧ i = .int .i64 k ∧ x = .int .i64 n ∧ n ∉ (M4).take k) (fun _ i => (M4).length - (intOf i).toNat)
              case atStart => exact ⟨0, Nat.zero_le _, rfl, rfl, by simp⟩
              case round =>
                obtain ⟨j, hj, rfl, rfl, hnj⟩ := hrel
                by_cases hjl : j < (M4).length
                · obtain ⟨b3, off3, rfl, -, hcell3⟩ := hMs.at j hjl
                  have E1 := Lib.hid (fun h => not_take_succ hjl (n := n) h hnj)
                  have E2 := Lib.hid (fun h => val_found HN.out hjl (n := n) h hnj)
                  clear hnj hMs
                  generalize (M4).getD j 0 = y at *
                  by_cases hy : y = n
                  · have EV := Lib.hid (E2.out hy)
                    have hy' : (y == n) = true := by simpa using hy
                    clear hy E1 E2
                    have hw9 := IntWalk.i64_in (-1 - (j : Int)) (by omega)
                    go_wp2_with (at_builtin; refine wpList_append_own_at _ rfl _ _ 22 rfl w.heap.size 3 i0 (.int .i64 0) 1 8 Try.underlying22 hi0 hz0 hz1 hz2 rfl (by decide) _ _ _ rfl (hX.alloc _).1 _ _ _ [.int .i64 (-1 - (j : Int))] rfl rfl (news_one _ _ _) (one_int _) (by unfold maxLen; simp only [List.length_map]; omega) (by simp only [List.length_map]; omega) (by have := hbn.size; simp; omega) ?_; intro v'' w9 hown' hgrow _ hat)
                    obtain ⟨tag3, hX3, hT3⟩ := tag_snoc (hX.alloc _) hown' hgrow hat
                    have hM3 := hT3 _ _ _ _ (by omega) (hM.alloc _)
                    have hO3 := hT3 _ _ _ _ (by omega) (hO.alloc _)
                    have hI3 := (hI.bel (Bel.alloc0 _ _)).step (by omega) hT3
                    have hb3 := hbn.grownT hX (Nat.le_refl _) hgrow
                    go_roundw
                    case rel => exact ⟨i+1, tag3, by omega, by go_num, by rw [HS.out.1]; exact hM3, by rw [HS.out.2, EV.out]; exact hX3, hO3, hI3, hb3⟩
                    case measure => simp [intOf]; omega
                  · have E := Lib.hid (E1.out hy)
                    have hy' : (y == n) = false := by simpa using hy
                    clear hy E1 E2
                    go_wp2_with fail
                    go_round
                    case rel => exact ⟨j+1, by omega, by go_num, rfl, E.out⟩
                    case measure => simp [intOf]; omega
                · have EV : Hid (valM (M4) n = n) := by show _ = _; exact val_end HE.out (by rw [List.take_of_length_le (by omega)] at hnj; exact hnj)
                  clear hnj
                  go_wp2_with (at_builtin; refine wpList_append_own_at _ rfl _ _ 22 rfl w.heap.size 3 i0 (.int .i64 0) 1 8 Try.underlying22 hi0 hz0 hz1 hz2 rfl (by decide) _ _ _ rfl (hX.alloc _).1 _ _ _ [.int .i64 (n)] rfl rfl (news_one _ _ _) (one_int _) (by unfold maxLen; simp only [List.length_map]; omega) (by simp only [List.length_map]; omega) (by have := hbn.size; simp; omega) ?_; intro v'' w9 hown' hgrow _ hat)
                  obtain ⟨tag3, hX3, hT3⟩ := tag_snoc (hX.alloc _) hown' hgrow hat
                  have hM3 := hT3 _ _ _ _ (by omega) (hM.alloc _)
                  have hO3 := hT3 _ _ _ _ (by omega) (hO.alloc _)
                  have hI3 := (hI.bel (Bel.alloc0 _ _)).step (by omega) hT3
                  have hb3 := hbn.grownT hX (Nat.le_refl _) hgrow
                  go_roundw
                  case rel => exact ⟨i+1, tag3, by omega, by go_num, by rw [HS.out.1]; exact hM3, by rw [HS.out.2, EV.out]; exact hX3, hO3, hI3, hb3⟩
                  case measure => simp [intOf]; omega
          · rw [stepM_sym hneg] at hsm hsr hst hmem
            have HS := Lib.hid (And.intro (hq3.trans hsm) (hq4.trans hsr))
            have HN := Lib.hid hst
            have HE := Lib.hid hmem
            clear hq1 hq2 hq3 hq4 hsm hsr hst hmem hng
            obtain ⟨am, nm, cm, rfl⟩ := own_form hM.1
            have hnm := row_len hM.1
            rw [List.length_map] at hnm
            subst hnm
            have hbn := hb1
            have hMs := hM.sl
            go_wp2_with fail
            go_loop [9, 38] (fun x i => ∃ k : Nat, k ≤ (M1).length ∧ i = .int .i64 k ∧ x = .int .i64 n ∧ n ∉ (M1).take k) (fun _ i => (M1).length - (intOf i).toNat)
            case atStart => exact ⟨0, Nat.zero_le _, rfl, rfl, by simp⟩
            case round =>
              obtain ⟨j, hj, rfl, rfl, hnj⟩ := hrel
              by_cases hjl : j < (M1).length
              · obtain ⟨b3, off3, rfl, -, hcell3⟩ := hMs.at j hjl
                have E1 := Lib.hid (fun h => not_take_succ hjl (n := n) h hnj)
                have E2 := Lib.hid (fun h => val_found HN.out hjl (n := n) h hnj)
                clear hnj hMs
                generalize (M1).getD j 0 = y at *
                by_cases hy : y = n
                · have EV := Lib.hid (E2.out hy)
                  have hy' : (y == n) = true := by simpa using hy
                  clear hy E1 E2
                  have hw9 := IntWalk.i64_in (-1 - (j : Int)) (by omega)
                  go_wp2_with (at_builtin; refine wpList_append_own_at _ rfl _ _ 22 rfl w.heap.size 3 i0 (.int .i64 0) 1 8 Try.underlying22 hi0 hz0 hz1 hz2 rfl (by decide) _ _ _ rfl (hX.alloc _).1 _ _ _ [.int .i64 (-1 - (j : Int))] rfl rfl (news_one _ _ _) (one_int _) (by unfold maxLen; simp only [List.length_map]; omega) (by simp only [List.length_map]; omega) (by have := hbn.size; simp; omega) ?_; intro v' w1 hown' hgrow _ hat)
                  obtain ⟨tag3, hX3, hT3⟩ := tag_snoc (hX.alloc _) hown' hgrow hat
                  have hM3 := hT3 _ _ _ _ (by omega) (hM.alloc _)
                  have hO3 := hT3 _ _ _ _ (by omega) (hO.alloc _)
                  have hI3 := (hI.bel (Bel.alloc0 _ _)).step (by omega) hT3
                  have hb3 := hbn.grownT hX (Nat.le_refl _) hgrow
                  go_roundw
                  case rel => exact ⟨i+1, tag3, by omega, by go_num, by rw [HS.out.1]; exact hM3, by rw [HS.out.2, EV.out]; exact hX3, hO3, hI3, hb3⟩
                  case measure => simp [intOf]; omega
                · have E := Lib.hid (E1.out hy)
                  have hy' : (y == n) = false := by simpa using hy
                  clear hy E1 E2
                  go_wp2_with fail
                  go_round
                  case rel => exact ⟨j+1, by omega, by go_num, rfl, E.out⟩
                  case measure => simp [intOf]; omega
              · have EV : Hid (valM (M1) n = n) := by show _ = _; exact val_end HE.out (by rw [List.take_of_length_le (by omega)] at hnj; exact hnj)
                clear hnj
                go_wp2_with (at_builtin; refine wpList_append_own_at _ rfl _ _ 22 rfl w.heap.size 3 i0 (.int .i64 0) 1 8 Try.underlying22 hi0 hz0 hz1 hz2 rfl (by decide) _ _ _ rfl (hX.alloc _).1 _ _ _ [.int .i64 (n)] rfl rfl (news_one _ _ _) (one_int _) (by unfold maxLen; simp only [List.length_map]; omega) (by simp only [List.length_map]; omega) (by have := hbn.size; simp; omega) ?_; intro v' w1 hown' hgrow _ hat)
                obtain ⟨tag3, hX3, hT3⟩ := tag_snoc (hX.alloc _) hown' hgrow hat
                have hM3 := hT3 _ _ _ _ (by omega) (hM.alloc _)
                have hO3 := hT3 _ _ _ _ (by omega) (hO.alloc _)
                have hI3 := (hI.bel (Bel.alloc0 _ _)).step (by omega) hT3
                have hb3 := hbn.grownT hX (Nat.le_refl _) hgrow
                go_roundw
                case rel => exact ⟨i+1, tag3, by omega, by go_num, by rw [HS.out.1]; exact hM3, by rw [HS.out.2, EV.out]; exact hX3, hO3, hI3, hb3⟩
                case measure => simp [intOf]; omega
        · rw [List.take_of_length_le (by omega)] at hM hX
          obtain ⟨ax, nx, cx, rfl⟩ := own_form hX.1
          go_wp2_with (at_builtin; refine wpList_append_own_at _ rfl _ _ 26 rfl w.heap.size 22 i1 (.slice none 0 0) 1 24 Try.underlying26 hi1 hy0 hy1 hy2 rfl (by decide) _ _ _ rfl (hO.alloc _).1 _ _ _ [.slice ax nx cx] rfl rfl (news_oneV _ _ _) (one_slice _ _ _) (by unfold maxLen; omega) (by omega) (by have := hb1.size; simp; omega) ?_; intro v' w1 hown' hgrow _ hat)
          obtain ⟨tag3, hO3, hT3⟩ := tag_snocV (hO.alloc _) hown' hgrow hat
          have hM3 := hT3 _ _ _ _ (by omega) (hM.alloc _)
          have hX3 := hT3 _ _ _ _ (by omega) (hX.alloc _)
          have hI3 := (hI.bel (Bel.alloc0 _ _)).step (by omega) hT3
          obtain ⟨tag4, hI4, hT4⟩ := hI3.snoc hX3 (by omega)
          have hM4 := hT4 _ _ _ _ (by omega) hM3
          have hO4 := hT4 _ _ _ _ (by omega) hO3
          have hb3 := hb1.grownT hO (Nat.le_refl _) hgrow
          obtain ⟨e1, e2, e3, e4⟩ := HSS.out
          go_roundw
          case rel => exact ⟨k+1, tag4, us ++ [.slice ax nx cx], by omega, by go_num, by rw [e3, e1]; exact hM4, hO4, by rw [e4, e2]; exact hI4, hb3⟩
          case measure => simp [intOf]; omega
    · rw [List.take_of_length_le (by omega)] at hI
      obtain ⟨ao, no, co, rfl⟩ := own_form hO.1
      go_wp2_with fail
      go_ret
      exact ⟨_, _, _, rfl, OwnS.of_tag hO hI (by omega), hb⟩
end Go.Proofs.Ytikllmdmifecpaa
end
section
/- RenameOf: the program's inner function. -/
namespace Go.Proofs.Ytikllmdmifecpaa
open Go.RowKit

/-- Twelve ints. -/
def arrN (f : Nat → Int) : Array Value := #[.int .i64 (f 0), .int .i64 (f 1), .int .i64 (f 2), .int .i64 (f 3), .int .i64 (f 4), .int .i64 (f 5), .int .i64 (f 6), .int .i64 (f 7), .int .i64 (f 8), .int .i64 (f 9), .int .i64 (f 10), .int .i64 (f 11)]
theorem arrN_set (f : Nat → Int) (j : Nat) (b : Int) (h : j < 12) : (arrN f).setIfInBounds j (.int .i64 b) = arrN (fun i => if i = j then b else f i) := by
  match j, h with
  | 0, _ => rfl
  | 1, _ => rfl
  | 2, _ => rfl
  | 3, _ => rfl
  | 4, _ => rfl
  | 5, _ => rfl
  | 6, _ => rfl
  | 7, _ => rfl
  | 8, _ => rfl
  | 9, _ => rfl
  | 10, _ => rfl
  | 11, _ => rfl
theorem arrN_get (f : Nat → Int) (j : Nat) (h : j < 12) : (arrN f)[j]? = some (.int .i64 (f j)) := by
  match j, h with
  | 0, _ => rfl
  | 1, _ => rfl
  | 2, _ => rfl
  | 3, _ => rfl
  | 4, _ => rfl
  | 5, _ => rfl
  | 6, _ => rfl
  | 7, _ => rfl
  | 8, _ => rfl
  | 9, _ => rfl
  | 10, _ => rfl
  | 11, _ => rfl
def BlkN (w : World) (B : Nat) (T : TypeId) (f : Nat → Int) : Prop := w.heap[B]? = some (.cells (arrN f) T (0, 0))
theorem BlkN.cell {w : World} {B : Nat} {T : TypeId} {f : Nat → Int} (h : BlkN w B T f) (j : Nat) (hj : j < 12) : w.cell? ⟨B, j, none⟩ = some (.int .i64 (f j)) := by
  unfold BlkN at h
  simp [World.cell?, h, arrN_get f j hj]
theorem BlkN.free {w : World} {B : Nat} {T : TypeId} {f : Nat → Int} (h : BlkN w B T f) (j : Nat) : w.frozen? ⟨B, j, none⟩ = false := by
  unfold BlkN at h
  simp [World.frozen?, h]
theorem BlkN.lt {w : World} {B : Nat} {T : TypeId} {f : Nat → Int} (h : BlkN w B T f) : B < w.heap.size := (Array.getElem?_eq_some_iff.1 h).1
theorem BlkN.bel {w w' : World} {B : Nat} {T : TypeId} {f : Nat → Int} (h : BlkN w B T f) (hb : Bel w w') : BlkN w' B T f := (hb.block B h.lt).trans h
theorem BlkN.set {w : World} {B : Nat} {T : TypeId} {f : Nat → Int} (h : BlkN w B T f) (j : Nat) (hj : j < 12) (b : Int) : BlkN (w.setCell ⟨B, j, none⟩ (.int .i64 b)) B T (fun i => if i = j then b else f i) := by
  have hlt := h.lt
  have h' : w.heap[B] = .cells (arrN f) T (0, 0) := by unfold BlkN at h; simpa [Array.getElem?_eq_getElem hlt] using h
  show (w.heap.modify B _)[B]? = _
  rw [Array.getElem?_eq_getElem (by simpa using hlt), Array.getElem_modify_self, h']
  simp [arrN_set f j b hj]
theorem BlkN.other {w : World} {B : Nat} {T : TypeId} {f : Nat → Int} (h : BlkN w B T f) {p : Addr} (hp : p.block ≠ B) (v : Value) : BlkN (w.setCell p v) B T f :=
  (Below.heap_setCell w p v B (by omega)).trans h
theorem BlkN.grown {w w' : World} {o : Obj} {B : Nat} {T : TypeId} {f : Nat → Int} {base : Nat} {tag : Nat → Nat} {t : Nat} {e : TypeId} {v : Value} {xs : List Value} (h : BlkN w B T f) (hB : B < base) (hown : OwnT base tag t e w v xs) (hg : (w.alloc o).grownBy w' v.ownBlock) : BlkN w' B T f := by
  have hlt := h.lt
  refine (hg.block B (by simp; omega) (fun e => ?_)).trans ((Below.heap_alloc w o B hlt).trans h)
  have := own_base hown.1 B e.symm
  omega
/-- The names as the table holds them. -/
def nm (met : List Int) (v : Nat) : Int := if (-1 - (v : Int)) ∈ met then -1 - (met.idxOf (-1 - (v : Int)) : Int) else 0
theorem nm_nil : nm [] = fun _ => 0 := by funext v; simp [nm]
theorem nm_new {met : List Int} {n : Int} (h : n < 0) (hn : n ∉ met) : (fun i => if i = (-1 - n).toNat then -1 - (met.length : Int) else nm met i) = nm (met ++ [n]) := by
  funext i
  by_cases e : i = (-1 - n).toNat
  · have e2 : -1 - (i : Int) = n := by omega
    rw [if_pos e]; unfold nm
    rw [e2, if_pos (by simp), List.idxOf_append, if_neg hn]
    simp
  · have e2 : -1 - (i : Int) ≠ n := by omega
    rw [if_neg e]; unfold nm
    by_cases hm : (-1 - (i : Int)) ∈ met
    · rw [if_pos hm, if_pos (by simp [hm]), List.idxOf_append, if_pos hm]
    · rw [if_neg hm, if_neg (by simp [hm, e2])]
theorem nm_old {met : List Int} {n : Int} (h : n < 0) (hn : n ∈ met) : nm met (-1 - n).toNat = valM met n ∧ valM met n < 0 := by
  have e2 : -1 - (((-1 - n).toNat : Nat) : Int) = n := by omega
  unfold nm valM
  rw [e2, if_pos hn, if_pos h]
  exact ⟨rfl, by omega⟩
theorem nm_not {met : List Int} {n : Int} (h : n < 0) (hn : n ∉ met) : nm met (-1 - n).toNat = 0 := by
  have e2 : -1 - (((-1 - n).toNat : Nat) : Int) = n := by omega
  unfold nm
  rw [e2, if_neg hn]
theorem val_new {met : List Int} {n : Int} (h : n < 0) (hn : n ∉ met) : valM (met ++ [n]) n = -1 - (met.length : Int) := by
  unfold valM
  rw [if_pos h, List.idxOf_append, if_neg hn]
  simp
theorem val_sym {met : List Int} {n : Int} (h : ¬ n < 0) : valM met n = n := by unfold valM; rw [if_neg h]
theorem list_set_same {l : List Int} {i : Nat} {x : Int} (h : l[i]? = some x) : l.set i x = l := by
  apply List.ext_getElem?
  intro j
  rw [List.getElem?_set]
  by_cases e : i = j
  · subst e
    obtain ⟨h3, h4⟩ := List.getElem?_eq_some_iff.1 h
    simp [h3, h4]
  · simp [e]
/-- The first i are renamed. -/
def mix (M t : List Int) (i : Nat) : List Int := renT M (t.take i) ++ t.drop i
theorem mix_zero (M t : List Int) : mix M t 0 = t := by simp [mix, renT]
theorem mix_len (M t : List Int) (i : Nat) (h : i ≤ t.length) : (mix M t i).length = t.length := by simp [mix, renT_len]; omega
theorem mix_get (M t : List Int) (i : Nat) (h : i < t.length) : (mix M t i)[i]? = some (t.getD i 0) := by
  have hl : (renT M (t.take i)).length = i := by rw [renT_len, List.length_take]; omega
  unfold mix
  rw [List.getElem?_append_right (by omega), hl, Nat.sub_self]
  simp [List.getD, h]
theorem mix_succ (M t : List Int) (i : Nat) (h : i < t.length) : (mix M t i).set i (valM (stepM (metT M (t.take i)) (t.getD i 0)) (t.getD i 0)) = mix M t (i+1) := by
  have hl : (renT M (t.take i)).length = i := by rw [renT_len, List.length_take]; omega
  unfold mix
  rw [List.set_append_right _ _ (by omega), hl, Nat.sub_self, List.drop_eq_getElem_cons h, List.set_cons_zero, renT_succ M t i h]
  simp
theorem mix_sym (M t : List Int) (i : Nat) (h : i < t.length) (hs : ¬ t.getD i 0 < 0) : mix M t i = mix M t (i+1) := by
  have hl : (renT M (t.take i)).length = i := by rw [renT_len, List.length_take]; omega
  rw [← mix_succ M t i h, val_sym hs]
  exact (list_set_same (mix_get M t i h)).symm
theorem mix_all (M t : List Int) (i : Nat) (h : ¬ i < t.length) : mix M t i = renT M t := by
  unfold mix
  rw [List.take_of_length_le (by omega), List.drop_eq_nil_of_le (by omega), List.append_nil]

set_option maxRecDepth 100000 in
theorem clone_r (l h : Nat) (v : Value) (xs : List Int) (w : World) (hx : xs.length ≤ 1048576) (hv : SlI l h w v xs) :
    Calls Try.prog 127 #[v] w (RetR w xs) := by
  obtain ⟨i0, hi0, hz0, hz1, hz2⟩ := info_parts Try.info3
  have hv0 := hv
  obtain ⟨ad, cap, rfl, -, hm, hr⟩ := hv
  have hown : (w.alloc (.cells #[] 3)).ownsRow w.heap.size 3 1 (.slice (some ⟨w.heap.size, 0, none⟩) 0 0) ([] : List Int).length (([] : List Int).map (Value.int .i64)) :=
    World.ownsRow_lit w #[] 0 (Nat.le_refl _) (Nat.zero_le _) rfl
  cases ad with
  | none =>
    obtain rfl : xs = [] := by
      rcases Nat.eq_zero_or_pos xs.length with h0 | h0
      · exact List.length_eq_zero_iff.1 h0
      · obtain ⟨_, _, e, _⟩ := hr h0; simp at e
    obtain rfl : cap = 0 := hm.2 rfl
    clear hr hm hv0
    have hk := fun (w : World) (a : Option Addr) (n c : Nat) => Lib.run_eql_slice_nil (P := Try.prog) w 22 3 a n c 0 0 Try.underlying22
    go_enter Try.func127, Try.ntmps127
    go_wp2_with fail
    go_ret
    exact ⟨_, _, _, rfl, World.ownsRow_nil _ _ _ _, Bel.rfl' _⟩
  | some a =>
    have hn := news_of_sl (hv0.alloc (.cells #[] 3))
    clear hr hm
    have hk := fun (w : World) (a : Option Addr) (n c : Nat) => Lib.run_eql_slice_nil (P := Try.prog) w 22 3 a n c 0 0 Try.underlying22
    go_enter Try.func127, Try.ntmps127
    go_wp2_with (at_builtin; refine wpList_append_own _ rfl _ _ 22 rfl w.heap.size 3 i0 (.int .i64 0) 1 8 Try.underlying22 hi0 hz0 hz1 hz2 rfl (by decide) _ _ _ rfl hown a xs.length cap (xs.map (Value.int .i64)) rfl (by simp) hn (ones_int _) (by unfold maxLen; simp; omega) (by simp; omega) (by simp) ?_; intro v' w1 hown' hgrow _)
    have hb1 := (Bel.alloc0 w (.cells #[] 3)).grown hgrow (fun k hk => own_base hown k hk)
    have hown2 : w1.ownsRow w.heap.size 3 1 v' xs.length (xs.map (Value.int .i64)) := by simpa using hown'
    obtain ⟨g, n, c, rfl⟩ := own_form hown2
    go_ret
    exact ⟨_, _, _, rfl, hown2, hb1⟩

set_option maxRecDepth 100000 in
set_option maxHeartbeats 2000000 in
theorem renamed_c (lo hi : Nat) (v : Value) (l : List (List Int)) (w : World) (hl : rows40 l) (hv : SlS lo hi w v l) :
    Calls Try.prog 146 #[v] w (RetSS w (renS [] l)) := by
  obtain ⟨ad, cap, rfl⟩ := hv.form
  obtain ⟨i1, hi1, hy0, hy1, hy2⟩ := info_parts Try.info22
  have hl20 := hl.1
  go_enter Try.func146, Try.ntmps146
  go_wp2_with fail
  go_loopw [4, 5, 13] (fun nx vo i wr => ∃ (k : Nat) (tag : Nat → Nat) (us : List Value), k ≤ l.length ∧ i = .int .i64 k ∧ nx = .int .i64 (-1 - ((metS [] (l.take k)).length : Int)) ∧ OwnT (w.heap.size + 1) tag 2 22 wr vo us ∧ InT (w.heap.size + 1) tag 3 wr us (renS [] (l.take k)) ∧ BlkN wr w.heap.size 171 (nm (metS [] (l.take k))) ∧ Bel w wr) (fun _ _ i _ => l.length - (intOf i).toNat)
  case atStart =>
    refine ⟨0, fun _ => 0, [], Nat.zero_le _, rfl, rfl, OwnT.nil _ _ _ _ _, InT.nil _ _ _ _, ?_, Bel.alloc0 _ _⟩
    show BlkN _ _ _ (nm [])
    rw [nm_nil]
    exact heap_alloc_new w _
  case round =>
    obtain ⟨k, tag, us, hk, rfl, rfl, hO, hI, hN, hb⟩ := hrel
    by_cases hlt : k < l.length
    · obtain ⟨b1, off1, p, rfl, hbl1, hc1w, hp⟩ := hv.at (Bel.rfl' w) k hlt
      have hc1 := hb.at hbl1 hc1w
      have hms := metS_succ [] l k hlt
      have hrs := renS_succ [] l k hlt
      have hml := hl.met k
      obtain ⟨ht40, htl⟩ := hl.2 k hlt
      have hiL : us.length = (renS [] (l.take k)).length := hI.1
      rw [renS_len, List.length_take] at hiL
      generalize hMt : metS [] (l.take k) = M at *
      generalize hRt : renS [] (l.take k) = R at *
      generalize hMt2 : metS [] (l.take (k+1)) = M2 at *
      generalize hRt2 : renS [] (l.take (k+1)) = R2 at *
      generalize l.getD k [] = t at *
      have HSS := Lib.hid (And.intro hms (And.intro hrs (And.intro hMt2 hRt2)))
      clear hms hrs hMt hRt hMt2 hRt2
      have hcl := clone_r _ _ p t wr (by omega) (hp.below hb)
      obtain ⟨ap, cp, rfl⟩ := hp.form
      have HCL := Lib.hid hcl
      clear hcl
      have hsz1 : w.heap.size + 1 ≤ wr.heap.size := hN.lt
      go_wp2_with (go_at_call 127; refine HCL.out.mono ?_; rintro e w2 ⟨ax, nx, cx, rfl, hX0, hb2⟩; have hnx : nx = t.length := row_len hX0; subst hnx)
      obtain ⟨tag1, hX, hT1⟩ := tag_new (tag := tag) (base := (w.heap.size + 1)) (t := 1) (xs := t.map (Value.int .i64)) (by simpa using hX0) hb2 hsz1
      replace hO := hT1 _ _ _ _ hO
      replace hI := hI.all hT1
      replace hN := hN.bel hb2
      have hbn := hb.step hb2
      clear hb2 HCL hX0 hT1 hb
      go_loopw [4, 21] (fun nx i wr => ∃ (j : Nat), j ≤ t.length ∧ i = .int .i64 j ∧ nx = .int .i64 (-1 - ((metT M (t.take j)).length : Int)) ∧ OwnT (w.heap.size + 1) tag1 1 3 wr (.slice ax t.length cx) ((mix M t j).map (Value.int .i64)) ∧ OwnT (w.heap.size + 1) tag1 2 22 wr u5 us ∧ InT (w.heap.size + 1) tag1 3 wr us R ∧ BlkN wr w.heap.size 171 (nm (metT M (t.take j))) ∧ Bel w wr) (fun _ i _ => t.length - (intOf i).toNat)
      case atStart => exact ⟨0, Nat.zero_le _, rfl, rfl, by rw [mix_zero]; exact hX, hO, hI, hN, hbn⟩
      case round =>
        clear hX hO hI hN hbn
        obtain ⟨i, hi, rfl, rfl, hX, hO, hI, hN, hb1⟩ := hrel
        by_cases hlt2 : i < t.length
        · have hsm := metT_succ M t i hlt2
          have hmx := mix_succ M t i hlt2
          have hms := mix_sym M t i hlt2
          have hmg := mix_get M t i hlt2
          have hmlen := mix_len M t i hi
          have hn12 := htl i hlt2
          have hml2 := metT_len M (t.take i)
          rw [List.length_take] at hml2
          have hXf : ∃ g, ax = some ⟨g, 0, none⟩ ∧ (w.heap.size + 1) ≤ g := by
            rcases hX.1.2 with ⟨e1, _⟩ | ⟨g, cap2, cur, e1, h2, _⟩
            · simp only [Value.slice.injEq] at e1; omega
            · simp only [Value.slice.injEq] at e1; exact ⟨g, e1.1, h2⟩
          obtain ⟨g, rfl, hgB⟩ := hXf
          have hXr := hX.1
          rw [List.length_map, hmlen] at hXr
          have hcell := hXr.cellAt i (by omega)
          rw [List.getElem?_map, hmg, Option.map_some] at hcell
          clear hmg
          generalize hq1 : metT M (t.take i) = M1 at *
          generalize hq2 : mix M t i = X1 at *
          generalize hq3 : metT M (t.take (i+1)) = M3 at *
          generalize hq4 : mix M t (i+1) = X3 at *
          generalize t.getD i 0 = n at *
          by_cases hneg : n < 0
          · have hd : decide (0 ≤ n) = false := by simp; omega
            have hm12 : (-1 - n).toNat < 12 := by omega
            have hi0' : 0 ≤ -1 - n := by omega
            have hi1' : -1 - n < 12 := by omega
            have hcN := hN.cell _ hm12
            have hfN := hN.free (-1 - n).toNat
            by_cases hin : n ∈ M1
            · rw [stepM_old hin] at hsm hmx
              obtain ⟨e1, e2⟩ := nm_old hneg hin
              rw [e1] at hcN
              generalize valM M1 n = y at *
              have hy : (y == 0) = false := by simp; omega
              have HS := Lib.hid (And.intro (hq3.trans hsm) (hq4.trans hmx.symm))
              clear hq1 hq2 hq3 hq4 hsm hmx hms hin e1 e2
              have hst := tag_store hX i (.int .i64 y)
              rw [← List.map_set] at hst
              have hfX := hXr.frozenAt i
              have HST := Lib.hid hst
              have HN := Lib.hid hN
              clear hX hXr hst
              go_wp2_with fail
              go_roundw
              case rel =>
                obtain ⟨h1, h2⟩ := HST.out
                exact ⟨i+1, by omega, by go_num, by rw [HS.out.1], by rw [HS.out.2]; exact h1, h2 _ _ _ _ (by omega) hO, hI.step (by omega) h2, by rw [HS.out.1]; exact hN.other (by simp; omega) _, hb1.setCell (p := ⟨g, i, none⟩) (by simp; omega) _⟩
              case measure => simp [intOf]; omega
            · rw [stepM_new hneg hin] at hsm hmx
              have e1 := nm_not hneg hin
              have e2 := val_new hneg hin
              have e3 := nm_new hneg hin
              rw [e1] at hcN
              rw [e2] at hmx
              have hw14 := IntWalk.i64_in (-1 - (M1.length : Int) - 1) (by omega)
              have HS := Lib.hid (And.intro (hq3.trans hsm) (And.intro (hq4.trans hmx.symm) e3))
              clear hq1 hq2 hq3 hq4 hsm hmx hms hin e1 e2 e3
              have hN2 := hN.set _ hm12 (-1 - (M1.length : Int))
              have hcN2 := hN2.cell _ hm12
              simp only [if_true] at hcN2
              have hX2 := Tags.low (p := ⟨w.heap.size, (-1 - n).toNat, none⟩) (show w.heap.size < (w.heap.size + 1) by omega) (.int .i64 (-1 - (M1.length : Int))) _ _ _ hX
              have hO2 := Tags.low (p := ⟨w.heap.size, (-1 - n).toNat, none⟩) (show w.heap.size < (w.heap.size + 1) by omega) (.int .i64 (-1 - (M1.length : Int))) _ _ _ hO
              have hI2 : InT (w.heap.size + 1) tag1 3 (wr.setCell ⟨w.heap.size, (-1 - n).toNat, none⟩ (.int .i64 (-1 - (M1.length : Int)))) us R := hI.all (fun t' e' u zs h => Tags.low (show w.heap.size < (w.heap.size + 1) by omega) _ _ _ _ h)
              have hbs := hb1.setCell (p := ⟨w.heap.size, (-1 - n).toNat, none⟩) (Nat.le_refl _) (.int .i64 (-1 - (M1.length : Int)))
              have hst := tag_store hX2 i (.int .i64 (-1 - (M1.length : Int)))
              rw [← List.map_set] at hst
              have hXr2 := hX2.1
              rw [List.length_map, hmlen] at hXr2
              have hfX := hXr2.frozenAt i
              have hcell2 := hXr2.cellAt i (by omega)
              have HST := Lib.hid hst
              have HH := Lib.hid (And.intro hO2 (And.intro hI2 (And.intro hN2 hbs)))
              clear hX hX2 hst hO2 hI2 hN2 hbs hN hO hI hXr hXr2
              go_wp2_with fail
              go_roundw
              case rel =>
                obtain ⟨h1, h2⟩ := HST.out
                obtain ⟨hO2, hI2, hN2, hbs⟩ := HH.out
                exact ⟨i+1, by omega, by go_num, by rw [HS.out.1, List.length_append]; go_num, by rw [HS.out.2.1]; exact h1, h2 _ _ _ _ (by omega) hO2, hI2.step (by omega) h2, by rw [HS.out.1, ← HS.out.2.2]; exact hN2.other (by simp; omega) _, hbs.setCell (p := ⟨g, i, none⟩) (by simp; omega) _⟩
              case measure => simp [intOf]; omega
          · have hd : decide (0 ≤ n) = true := by simp; omega
            rw [stepM_sym hneg] at hsm
            have HS := Lib.hid (And.intro (hq3.trans hsm) (hq4.trans (hms hneg).symm))
            clear hq1 hq2 hq3 hq4 hsm hmx hms
            go_wp2_with fail
            go_roundw
            case rel => exact ⟨i+1, by omega, by go_num, by rw [HS.out.1], by rw [HS.out.2]; exact hX, hO, hI, by rw [HS.out.1]; exact hN, hb1⟩
            case measure => simp [intOf]; omega
        · rw [List.take_of_length_le (by omega)] at hN ⊢
          rw [mix_all M t i hlt2] at hX
          go_wp2_with (at_builtin; refine wpList_append_own_at _ rfl _ _ 26 rfl (w.heap.size + 1) 22 i1 (.slice none 0 0) 1 24 Try.underlying26 hi1 hy0 hy1 hy2 rfl (by decide) _ _ _ rfl (hO.alloc _).1 _ _ _ [.slice ax t.length cx] rfl rfl (news_oneV _ _ _) (one_slice _ _ _) (by unfold maxLen; omega) (by omega) (by have := hN.lt; simp; omega) ?_; intro v' w1 hown' hgrow _ hat)
          obtain ⟨tag3, hO3, hT3⟩ := tag_snocV (hO.alloc _) hown' hgrow hat
          have hX3 := hT3 _ _ _ _ (by omega) (hX.alloc _)
          have hI3 := (hI.bel (Bel.alloc0 _ _)).step (by omega) hT3
          obtain ⟨tag4, hI4, hT4⟩ := hI3.snoc hX3 (by omega)
          have hO4 := hT4 _ _ _ _ (by omega) hO3
          have hb3 := hb1.grownT hO (by omega) hgrow
          have hN3 := hN.grown (by omega) hO hgrow
          obtain ⟨e1, e2, e3, e4⟩ := HSS.out
          go_roundw
          case rel => exact ⟨k+1, tag4, us ++ [.slice ax t.length cx], by omega, by go_num, by rw [e3, e1], hO4, by rw [e4, e2]; exact hI4, by rw [e3, e1]; exact hN3, hb3⟩
          case measure => simp [intOf]; omega
    · rw [List.take_of_length_le (by omega)] at hI
      obtain ⟨ao, no, co, rfl⟩ := own_form hO.1
      go_wp2_with fail
      go_ret
      exact ⟨_, _, _, rfl, (OwnS.of_tag hO hI (by omega)).mono (by omega) (Nat.le_refl _), hb⟩
end Go.Proofs.Ytikllmdmifecpaa
end
section
/- Apply, IsUnifier: both functions; putting terms for variables. -/
namespace Go.Proofs.Ytikllmdmifecpaa
open Go.RowKit

/-- What stands for an entry of a term. -/
def one1 (b : List (List Int)) (n : Int) : List Int := if n < 0 ∧ 0 < (b.getD (-1 - n).toNat []).length then b.getD (-1 - n).toNat [] else [n]
def appT (b : List (List Int)) (t : List Int) : List Int := t.flatMap (one1 b)
theorem appT_nil (b : List (List Int)) : appT b [] = [] := rfl
theorem appT_succ (b : List (List Int)) (t : List Int) (k : Nat) (hk : k < t.length) : appT b (t.take (k+1)) = appT b (t.take k) ++ one1 b (t.getD k 0) := by
  unfold appT
  rw [List.take_succ_eq_append_getElem hk, List.flatMap_append]
  simp [List.getD, hk]
theorem one1_var {b : List (List Int)} {n : Int} (h : n < 0) (hp : 0 < (b.getD (-1 - n).toNat []).length) : one1 b n = b.getD (-1 - n).toNat [] := by unfold one1; rw [if_pos ⟨h, hp⟩]
theorem one1_free {b : List (List Int)} {n : Int} (hp : ¬ 0 < (b.getD (-1 - n).toNat []).length) : one1 b n = [n] := by unfold one1; rw [if_neg (fun h => hp h.2)]
theorem one1_sym {b : List (List Int)} {n : Int} (h : ¬ n < 0) : one1 b n = [n] := by unfold one1; rw [if_neg (fun h2 => h h2.1)]
def lens40 (b : List (List Int)) : Prop := ∀ j, j < b.length → (b.getD j []).length ≤ 40
theorem getD_len40 {b : List (List Int)} (h : lens40 b) (j : Nat) : (b.getD j []).length ≤ 40 := by
  by_cases hj : j < b.length
  · exact h j hj
  · simp [List.getD, hj]
theorem one1_len {b : List (List Int)} (h : lens40 b) (n : Int) : (one1 b n).length ≤ 40 := by
  unfold one1
  split
  · exact getD_len40 h _
  · simp
theorem appT_len {b : List (List Int)} (h : lens40 b) (t : List Int) : (appT b t).length ≤ 40 * t.length := by
  unfold appT
  induction t with
  | nil => simp
  | cons x r ih =>
    have := one1_len h x
    simp only [List.flatMap_cons, List.length_append, List.length_cons]
    omega
theorem row_app {w : World} {base e : Nat} {v : Value} {acc xs : List Int} (h : w.ownsRow base e 1 v (acc.length + xs.length) (acc.map (Value.int .i64) ++ xs.map (Value.int .i64))) :
    w.ownsRow base e 1 v (acc ++ xs).length ((acc ++ xs).map (Value.int .i64)) := by simpa using h

set_option maxRecDepth 100000 in
set_option maxHeartbeats 400000 in
theorem l2Apply_c (l h l' h' : Nat) (v u : Value) (b : List (List Int)) (t : List Int) (w : World) (hlen : b.length = 12) (hb : lens40 b) (ht : t.length ≤ 1024) (hlow : ∀ k, k < t.length → -12 ≤ t.getD k 0) (hu : SlS l' h' w u b) (hv : SlI l h w v t) :
    Calls Try.prog 84 #[u, v] w (RetI w (appT b t)) := by
  obtain ⟨i0, hi0, hz0, hz1, hz2⟩ := info_parts Try.info3
  obtain ⟨ad', cap', rfl⟩ := hu.form
  have HN := Lib.hid hlen; clear hlen
  obtain ⟨ad, cap, rfl, -, -, hr⟩ := hv
  go_enter Try.func84, Try.ntmps84
  go_wp2_with fail
  go_loopw [5, 10] (fun vs i wr => ∃ k : Nat, k ≤ t.length ∧ i = .int .i64 k ∧ wr.ownsRow w.heap.size 3 1 vs (appT b (t.take k)).length ((appT b (t.take k)).map (Value.int .i64)) ∧ Bel w wr) (fun _ i _ => t.length - (intOf i).toNat)
  case atStart => exact ⟨0, Nat.zero_le _, rfl, World.ownsRow_nil _ _ _ _, Bel.rfl' _⟩
  case round =>
    obtain ⟨k, hk, rfl, hown, hb2⟩ := hrel
    by_cases hlt : k < t.length
    · obtain ⟨bt, offt, rfl, hbl, hcell⟩ := rd hr hb2 k hlt
      have hx12 := hlow k hlt
      have hsucc := appT_succ b t k hlt
      have hal := appT_len hb (t.take k)
      have hal2 : (appT b (t.take k)).length ≤ 40960 := by simp at hal; omega
      have h40 := getD_len40 hb (-1 - t.getD k 0).toNat
      clear hr hlow hal
      generalize t.getD k 0 = x at *
      generalize appT b (t.take k) = acc at *
      generalize hq : appT b (t.take (k+1)) = nxt at *
      by_cases hx : x < 0
      · have hm : (-1 - x).toNat < b.length := by have hN : b.length = 12 := HN.out; omega
        have hi0' : 0 ≤ -1 - x := by omega
        have hi1 : -1 - x < b.length := by have hN : b.length = 12 := HN.out; omega
        obtain ⟨bb, off, p, rfl, -, hc, hp⟩ := hu.at hb2 _ hm
        have hv1 := fun h1 => one1_var (b := b) hx h1
        have hv2 := fun h1 => one1_free (b := b) (n := x) h1
        generalize b.getD (-1 - x).toNat [] = tt at *
        by_cases hpos : 0 < tt.length
        · rw [hv1 hpos] at hsucc
          obtain ⟨pb, po, pc, rfl, hpc⟩ := hp.plain hpos
          have hn := news_of_sl hp
          have HS := Lib.hid (And.intro hq hsucc)
          clear hv1 hv2 hq hsucc
          go_wp2_with (at_builtin; refine wpList_append_own _ rfl _ _ 22 rfl w.heap.size 3 i0 (.int .i64 0) 1 8 Try.underlying22 hi0 hz0 hz1 hz2 rfl (by decide) _ _ _ rfl hown ⟨pb, po, none⟩ tt.length pc (tt.map (Value.int .i64)) rfl (by simp) hn (ones_int _) (by unfold maxLen; first | omega | (simp; omega)) (by first | omega | (simp; omega)) (by have := hb2.size; first | omega | (simp; omega)) ?_; intro v' w1 hown' hgrow _)
          have hb3 := hb2.grown hgrow (fun k hk => own_base hown k hk)
          have hown2 := row_app (by simpa using hown')
          go_roundw
          case rel =>
            have e := HS.out.1.trans HS.out.2
            exact ⟨k+1, by omega, by go_num, by rw [HS.out.1, HS.out.2]; exact hown2, hb3⟩
          case measure => simp [intOf]; omega
        · rw [hv2 hpos] at hsucc
          have HS := Lib.hid (And.intro hq hsucc)
          have h0 : tt.length = 0 := by omega
          obtain ⟨ap, cp, rfl⟩ := hp.form
          rw [h0] at hc
          clear hv1 hv2 hp hpos h0 hq hsucc
          go_wp2_with (at_builtin; refine wpList_append_own _ rfl _ _ 22 rfl w.heap.size 3 i0 (.int .i64 0) 1 8 Try.underlying22 hi0 hz0 hz1 hz2 rfl (by decide) _ _ _ rfl (hown.alloc _) ⟨wr.heap.size, 0, none⟩ 1 1 [.int .i64 x] rfl rfl (news_one _ _ _) (one_int _) (by unfold maxLen; first | omega | (simp; omega)) (by first | omega | (simp; omega)) (by have := hb2.size; first | omega | (simp; omega)) ?_; intro v' w1 hown' hgrow _; have hb3 := (hb2.alloc (.cells #[.int .i64 x] 3)).grown hgrow (fun k hk => own_base hown k hk); have hown2 := row_snoc hown')
          go_roundw
          case rel => exact ⟨k+1, by omega, by go_num, by rw [HS.out.1, HS.out.2]; exact hown2, hb3⟩
          case measure => simp [intOf]; omega
      · rw [one1_sym hx] at hsucc
        have HS := Lib.hid (And.intro hq hsucc)
        clear hq hsucc
        go_wp2_with (at_builtin; refine wpList_append_own _ rfl _ _ 22 rfl w.heap.size 3 i0 (.int .i64 0) 1 8 Try.underlying22 hi0 hz0 hz1 hz2 rfl (by decide) _ _ _ rfl (hown.alloc _) ⟨wr.heap.size, 0, none⟩ 1 1 [.int .i64 x] rfl rfl (news_one _ _ _) (one_int _) (by unfold maxLen; first | omega | (simp; omega)) (by first | omega | (simp; omega)) (by have := hb2.size; first | omega | (simp; omega)) ?_; intro v' w1 hown' hgrow _; have hb3 := (hb2.alloc (.cells #[.int .i64 x] 3)).grown hgrow (fun k hk => own_base hown k hk); have hown2 := row_snoc hown')
        go_roundw
        case rel => exact ⟨k+1, by omega, by go_num, by rw [HS.out.1, HS.out.2]; exact hown2, hb3⟩
        case measure => simp [intOf]; omega
    · have e : t.take k = t := List.take_of_length_le (by omega)
      rw [e] at hown
      go_wp2_with fail
      obtain ⟨g, n, c, hv'⟩ := own_form hown
      subst hv'
      go_ret
      exact ⟨_, _, _, rfl, OwnI.of_row hown, hb2⟩

def app40 (b : List (List Int)) (t : List Int) : List Int := if 40 < (appT b t).length then [] else appT b t
def app40ok (b : List (List Int)) (t : List Int) : Bool := !decide (40 < (appT b t).length)
theorem app40_no {b : List (List Int)} {t : List Int} (h : 40 < (appT b t).length) : app40 b t = [] ∧ app40ok b t = false := by simp [app40, app40ok, h]
theorem app40_yes {b : List (List Int)} {t : List Int} (h : ¬ 40 < (appT b t).length) : app40 b t = appT b t ∧ app40ok b t = true := by simp [app40, app40ok, h]
theorem _root_.Go.World.ownsRow.len_eq {w : World} {base e s n m c : Nat} {ad : Option Addr} {xs : List Value} (h : w.ownsRow base e s (.slice ad n c) m xs) : n = m := by
  rcases h.2 with ⟨e1, h0⟩ | ⟨g, cap, cur, e1, _⟩
  · simp at e1; omega
  · simp at e1; exact e1.2.1

set_option maxRecDepth 100000 in
set_option maxHeartbeats 400000 in
theorem applied_c (l h l' h' : Nat) (v u : Value) (b : List (List Int)) (t : List Int) (w : World) (hlen : b.length = 12) (hb : lens40 b) (ht : t.length ≤ 1024) (hlow : ∀ k, k < t.length → -12 ≤ t.getD k 0) (hu : SlS l' h' w u b) (hv : SlI l h w v t) :
    Calls Try.prog 83 #[u, v] w (RetIB w (app40 b t) (app40ok b t)) := by
  obtain ⟨i0, hi0, hz0, hz1, hz2⟩ := info_parts Try.info3
  obtain ⟨ad', cap', rfl⟩ := hu.form
  have HN := Lib.hid hlen; clear hlen
  obtain ⟨ad, cap, rfl, -, -, hr⟩ := hv
  go_enter Try.func83, Try.ntmps83
  go_wp2_with fail
  go_loopw [6, 11] (fun vs i wr => ∃ k : Nat, k ≤ t.length ∧ i = .int .i64 k ∧ wr.ownsRow w.heap.size 3 1 vs (appT b (t.take k)).length ((appT b (t.take k)).map (Value.int .i64)) ∧ Bel w wr) (fun _ i _ => t.length - (intOf i).toNat)
  case atStart => exact ⟨0, Nat.zero_le _, rfl, World.ownsRow_nil _ _ _ _, Bel.rfl' _⟩
  case round =>
    obtain ⟨k, hk, rfl, hown, hb2⟩ := hrel
    by_cases hlt : k < t.length
    · obtain ⟨bt, offt, rfl, hbl, hcell⟩ := rd hr hb2 k hlt
      have hx12 := hlow k hlt
      have hsucc := appT_succ b t k hlt
      have hal := appT_len hb (t.take k)
      have hal2 : (appT b (t.take k)).length ≤ 40960 := by simp at hal; omega
      have h40 := getD_len40 hb (-1 - t.getD k 0).toNat
      clear hr hlow hal
      generalize t.getD k 0 = x at *
      generalize appT b (t.take k) = acc at *
      generalize hq : appT b (t.take (k+1)) = nxt at *
      by_cases hx : x < 0
      · have hm : (-1 - x).toNat < b.length := by have hN : b.length = 12 := HN.out; omega
        have hi0' : 0 ≤ -1 - x := by omega
        have hi1 : -1 - x < b.length := by have hN : b.length = 12 := HN.out; omega
        obtain ⟨bb, off, p, rfl, -, hc, hp⟩ := hu.at hb2 _ hm
        have hv1 := fun h1 => one1_var (b := b) hx h1
        have hv2 := fun h1 => one1_free (b := b) (n := x) h1
        generalize b.getD (-1 - x).toNat [] = tt at *
        by_cases hpos : 0 < tt.length
        · rw [hv1 hpos] at hsucc
          obtain ⟨pb, po, pc, rfl, hpc⟩ := hp.plain hpos
          have hn := news_of_sl hp
          have HS := Lib.hid (And.intro hq hsucc)
          clear hv1 hv2 hq hsucc
          go_wp2_with (at_builtin; refine wpList_append_own _ rfl _ _ 22 rfl w.heap.size 3 i0 (.int .i64 0) 1 8 Try.underlying22 hi0 hz0 hz1 hz2 rfl (by decide) _ _ _ rfl hown ⟨pb, po, none⟩ tt.length pc (tt.map (Value.int .i64)) rfl (by simp) hn (ones_int _) (by unfold maxLen; first | omega | (simp; omega)) (by first | omega | (simp; omega)) (by have := hb2.size; first | omega | (simp; omega)) ?_; intro v' w1 hown' hgrow _)
          have hb3 := hb2.grown hgrow (fun k hk => own_base hown k hk)
          have hown2 := row_app (by simpa using hown')
          go_roundw
          case rel =>
            have e := HS.out.1.trans HS.out.2
            exact ⟨k+1, by omega, by go_num, by rw [HS.out.1, HS.out.2]; exact hown2, hb3⟩
          case measure => simp [intOf]; omega
        · rw [hv2 hpos] at hsucc
          have HS := Lib.hid (And.intro hq hsucc)
          have h0 : tt.length = 0 := by omega
          obtain ⟨ap, cp, rfl⟩ := hp.form
          rw [h0] at hc
          clear hv1 hv2 hp hpos h0 hq hsucc
          go_wp2_with (at_builtin; refine wpList_append_own _ rfl _ _ 22 rfl w.heap.size 3 i0 (.int .i64 0) 1 8 Try.underlying22 hi0 hz0 hz1 hz2 rfl (by decide) _ _ _ rfl (hown.alloc _) ⟨wr.heap.size, 0, none⟩ 1 1 [.int .i64 x] rfl rfl (news_one _ _ _) (one_int _) (by unfold maxLen; first | omega | (simp; omega)) (by first | omega | (simp; omega)) (by have := hb2.size; first | omega | (simp; omega)) ?_; intro v' w1 hown' hgrow _; have hb3 := (hb2.alloc (.cells #[.int .i64 x] 3)).grown hgrow (fun k hk => own_base hown k hk); have hown2 := row_snoc hown')
          go_roundw
          case rel => exact ⟨k+1, by omega, by go_num, by rw [HS.out.1, HS.out.2]; exact hown2, hb3⟩
          case measure => simp [intOf]; omega
      · rw [one1_sym hx] at hsucc
        have HS := Lib.hid (And.intro hq hsucc)
        clear hq hsucc
        go_wp2_with (at_builtin; refine wpList_append_own _ rfl _ _ 22 rfl w.heap.size 3 i0 (.int .i64 0) 1 8 Try.underlying22 hi0 hz0 hz1 hz2 rfl (by decide) _ _ _ rfl (hown.alloc _) ⟨wr.heap.size, 0, none⟩ 1 1 [.int .i64 x] rfl rfl (news_one _ _ _) (one_int _) (by unfold maxLen; first | omega | (simp; omega)) (by first | omega | (simp; omega)) (by have := hb2.size; first | omega | (simp; omega)) ?_; intro v' w1 hown' hgrow _; have hb3 := (hb2.alloc (.cells #[.int .i64 x] 3)).grown hgrow (fun k hk => own_base hown k hk); have hown2 := row_snoc hown')
        go_roundw
        case rel => exact ⟨k+1, by omega, by go_num, by rw [HS.out.1, HS.out.2]; exact hown2, hb3⟩
        case measure => simp [intOf]; omega
    · have e : t.take k = t := List.take_of_length_le (by omega)
      rw [e] at hown
      obtain ⟨g, n, c, hv'⟩ := own_form hown
      subst hv'
      have hn : n = (appT b t).length := hown.len_eq
      subst hn
      by_cases h40 : 40 < (appT b t).length
      · have E := Lib.hid (app40_no h40)
        go_wp2_with fail
        go_ret2
        exact ⟨_, _, _, by rw [E.out.2]; rfl, by rw [E.out.1]; exact OwnI.nil _ _ _, hb2⟩
      · have E := Lib.hid (app40_yes h40)
        go_wp2_with fail
        go_ret2
        exact ⟨_, _, _, by rw [E.out.2]; rfl, by rw [E.out.1]; exact OwnI.of_row hown, hb2⟩
end Go.Proofs.Ytikllmdmifecpaa
end
section
/- Replacing a subterm in a valid term. No program. -/
namespace Go.Proofs.Ytikllmdmifecpaa

theorem endGo_shift (ar : List Int) : ∀ (r : List Int) (n p d : Nat), endGo ar r n (p + d) = (endGo ar r n p).map (· + d) := by
  intro r
  induction r with
  | nil => intro n p d; cases n <;> simp [endGo]
  | cons x r ih =>
    intro n p d
    cases n with
    | zero => simp [endGo_zero]
    | succ n =>
      rw [endGo_cons, endGo_cons]
      split
      · rw [show p + d + 1 = (p + 1) + d from by omega, ih]
      · rfl

theorem endGo_ext (ar : List Int) : ∀ (r s : List Int) (n p e : Nat), endGo ar r n p = some e → endGo ar (r ++ s) n p = some e := by
  intro r
  induction r with
  | nil =>
    intro s n p e h
    cases n with
    | zero => rw [endGo_zero] at h ⊢; exact h
    | succ n => simp [endGo_nil] at h
  | cons x r ih =>
    intro s n p e h
    cases n with
    | zero => rw [endGo_zero] at h ⊢; exact h
    | succ n =>
      rw [endGo_cons] at h
      rw [List.cons_append, endGo_cons]
      split at h
      · rw [if_pos ‹_›]; exact ih _ _ _ _ h
      · simp at h

/-- What is cut off behind the end does not matter. -/
theorem endGo_cut (ar : List Int) : ∀ (r s : List Int) (n p e : Nat), endGo ar (r ++ s) n p = some e → e ≤ p + r.length → endGo ar r n p = some e := by
  intro r
  induction r with
  | nil =>
    intro s n p e h he
    cases n with
    | zero => rw [endGo_zero] at h ⊢; exact h
    | succ n => have := endGo_gt _ _ _ _ _ h; simp at he; omega
  | cons x r ih =>
    intro s n p e h he
    cases n with
    | zero => rw [endGo_zero] at h ⊢; exact h
    | succ n =>
      rw [List.cons_append, endGo_cons] at h
      rw [endGo_cons]
      split at h
      · rw [if_pos ‹_›]; exact ih s _ _ _ h (by simp at he; omega)
      · simp at h

/-- Behind a head that does not come to the end. -/
theorem endGo_head (ar : List Int) : ∀ (a : List Int) (n p : Nat) (r : List Int) (e : Nat), endGo ar (a ++ r) n p = some e → p + a.length < e → ∃ m, ∀ s, endGo ar (a ++ s) n p = endGo ar s (m + 1) (p + a.length) := by
  intro a
  induction a with
  | nil =>
    intro n p r e h he
    cases n with
    | zero => rw [endGo_zero] at h; simp at h he; omega
    | succ n => exact ⟨n, fun s => by simp⟩
  | cons x a ih =>
    intro n p r e h he
    cases n with
    | zero => rw [endGo_zero] at h; simp at h he; omega
    | succ n =>
      rw [List.cons_append, endGo_cons] at h
      split at h
      · rename_i hx
        obtain ⟨m, hm⟩ := ih _ _ _ _ h (by simp at he; omega)
        exact ⟨m, fun s => by rw [List.cons_append, endGo_cons, if_pos hx, hm, List.length_cons]; congr 1; omega⟩
      · simp at h

/-- The term with the subterm at i, which ends at e, replaced by u. -/
def replaced (t : List Int) (i e : Nat) (u : List Int) : List Int := t.take i ++ u ++ t.drop e
theorem replaced_len (t u : List Int) (i e : Nat) (h1 : i ≤ e) (h2 : e ≤ t.length) : (replaced t i e u).length = i + u.length + (t.length - e) := by
  simp [replaced]; omega

theorem replaced_end (ar t u : List Int) (i e : Nat) (ht : okTerm ar t = true) (hu : okTerm ar u = true) (hi : i < t.length) (he : endOf ar t i = some e) :
    endOf ar (replaced t i e u) 0 = some (replaced t i e u).length := by
  obtain ⟨_, _, h3⟩ := (okTerm_iff ar t).1 ht
  obtain ⟨hu1, _, h4⟩ := (okTerm_iff ar u).1 hu
  unfold endOf at h3 h4 he ⊢
  rw [List.drop_zero] at h3 h4 ⊢
  have hge := endGo_ge _ _ _ _ _ he
  have hgt := endGo_gt _ _ _ _ _ he
  simp at hge
  have hcut : t = t.take i ++ t.drop i := (List.take_append_drop i t).symm
  rw [hcut] at h3
  have hl : (t.take i).length = i := by simp; omega
  obtain ⟨m, hm⟩ := endGo_head ar (t.take i) 1 0 (t.drop i) _ h3 (by rw [hl]; simp; omega)
  rw [hm, hl, Nat.zero_add, show m + 1 = 1 + m from by omega, endGo_add, he] at h3
  simp only [Option.bind_some, List.drop_drop, show i + (e - i) = e from by omega] at h3
  unfold replaced
  rw [List.append_assoc, hm, hl, Nat.zero_add, show m + 1 = 1 + m from by omega, endGo_add]
  have h5 : endGo ar (u ++ t.drop e) 1 i = some (u.length + i) := by
    have := endGo_shift ar (u ++ t.drop e) 1 0 i
    rw [Nat.zero_add] at this
    rw [this, endGo_ext ar u _ _ _ _ h4]; rfl
  rw [h5]
  simp only [Option.bind_some, show u.length + i - i = u.length from by omega, List.drop_left']
  have h6 := endGo_shift ar (t.drop e) m 0 e
  rw [Nat.zero_add, h3] at h6
  have h7 := endGo_shift ar (t.drop e) m 0 (u.length + i)
  rw [Nat.zero_add] at h7
  rw [h7]
  cases h8 : endGo ar (t.drop e) m 0 with
  | none => rw [h8] at h6; simp at h6
  | some z =>
    rw [h8] at h6
    simp only [Option.map_some, Option.some.injEq] at h6 ⊢
    simp at h6 ⊢
    omega

theorem replaced_ok (ar t u : List Int) (i e : Nat) (ht : okTerm ar t = true) (hu : okTerm ar u = true) (hi : i < t.length) (he : endOf ar t i = some e) :
    okTerm ar (replaced t i e u) = decide ((replaced t i e u).length ≤ 40) := by
  have h1 := replaced_end ar t u i e ht hu hi he
  have h2 := ((okTerm_iff ar u).1 hu).1
  have hge := endGo_ge _ _ _ _ _ he
  simp at hge
  have h3 := replaced_len t u i e (by omega) (by omega)
  rw [Bool.eq_iff_iff, okTerm_iff, decide_eq_true_eq]
  constructor
  · exact fun h => h.2.1
  · exact fun h => ⟨by omega, h, h1⟩

/-- A subterm is a term. -/
def partOf (t : List Int) (i e : Nat) : List Int := (t.drop i).take (e - i)
theorem partOf_len (t : List Int) (i e : Nat) (h : e ≤ t.length) : (partOf t i e).length = e - i := by simp [partOf]; omega
theorem partOf_ok (ar t : List Int) (i e : Nat) (ht : okTerm ar t = true) (hi : i < t.length) (he : endOf ar t i = some e) : okTerm ar (partOf t i e) = true := by
  have h1 := ((okTerm_iff ar t).1 ht).2.1
  have hge := endGo_ge _ _ _ _ _ he
  have hgt := endGo_gt _ _ _ _ _ he
  simp at hge
  have hl := partOf_len t i e (by omega)
  rw [okTerm_iff]
  refine ⟨by omega, by omega, ?_⟩
  unfold endOf at he ⊢
  rw [List.drop_zero, hl]
  have h2 : t.drop i = partOf t i e ++ (t.drop i).drop (e - i) := by unfold partOf; rw [List.take_append_drop]
  rw [h2] at he
  have h3 := endGo_cut ar _ _ _ _ _ he (by omega)
  have h4 := endGo_shift ar (partOf t i e) 1 0 i
  rw [Nat.zero_add, h3] at h4
  cases h5 : endGo ar (partOf t i e) 1 0 with
  | none => rw [h5] at h4; simp at h4
  | some z => rw [h5] at h4; simp at h4 ⊢; omega
theorem replaced_self (t : List Int) (i e : Nat) (h1 : i ≤ e) : replaced t i e (partOf t i e) = t := by
  unfold replaced partOf
  rw [List.append_assoc]
  have : List.take (e - i) (List.drop i t) ++ List.drop e t = List.drop i t := by
    have h := List.take_append_drop (e - i) (List.drop i t)
    rw [List.drop_drop, show i + (e - i) = e from by omega] at h
    exact h
  rw [this, List.take_append_drop]
end Go.Proofs.Ytikllmdmifecpaa
end
