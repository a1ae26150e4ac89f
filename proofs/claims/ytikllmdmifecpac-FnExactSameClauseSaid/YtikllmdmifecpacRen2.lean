/- RenameOf: the inner functions. -/
import Derived.Test.YtikllmdmifecpacRen
import Derived.Test.YtikllmdmifecpacSlice
import Derived.Test.YtikllmdmifecpacSS2
namespace Go.Proofs.Ytikllmdmifecpac
open Go.RowKit

set_option maxRecDepth 100000 in
set_option maxHeartbeats 400000 in
theorem l1Has_c (l h : Nat) (v : Value) (t : List Int) (n : Int) (w : World) (ht : t.length ≤ 1048576) (hv : SlI l h w v t) :
    Calls Try.prog 43 #[v, .int .i64 n] w (RetV w (.bool (decide (n ∈ t)))) := by
  obtain ⟨ad, cap, rfl⟩ := hv.form
  go_enter Try.func43, Try.ntmps43
  go_wp2_with fail
  go_loop [9] (fun i => ∃ k : Nat, k ≤ t.length ∧ i = .int .i64 k ∧ n ∉ t.take k) (fun i => t.length - (intOf i).toNat)
  case atStart => exact ⟨0, Nat.zero_le _, rfl, by simp⟩
  case round =>
    obtain ⟨k, hk, rfl, hn⟩ := hrel
    by_cases hlt : k < t.length
    · obtain ⟨b, off, rfl, -, hcell⟩ := hv.at k hlt
      have E1 := Lib.hid (fun h => not_take_succ hlt (n := n) h hn)
      have E2 := Lib.hid (show t.getD k 0 = n → n ∈ t from fun h => by rw [← h]; simp [List.getD, hlt])
      clear hn hv
      generalize t.getD k 0 = x at *
      by_cases hx : x = n
      · have E : Hid (decide (n ∈ t) = true) := by show _ = _; simpa using E2.out hx
        have hx' : (x == n) = true := by simpa using hx
        clear hx E1 E2
        go_wp2_with fail
        go_ret
        exact ⟨by rw [E.out]; rfl, Bel.rfl' _⟩
      · have E := Lib.hid (E1.out hx)
        have hx' : (x == n) = false := by simpa using hx
        clear hx E1 E2
        go_wp2_with fail
        go_round
        case rel => exact ⟨k+1, by omega, by go_num, E.out⟩
        case measure => simp [intOf]; omega
    · have E : Hid (decide (n ∈ t) = false) := by show _ = _; rw [List.take_of_length_le (by omega)] at hn; simpa using hn
      clear hn
      go_wp2_with fail
      go_ret
      exact ⟨by rw [E.out]; rfl, Bel.rfl' _⟩
theorem l1Has_v (l h : Nat) (v : Value) (t : List Int) (n : Int) (q : Bool) (w : World) (he : decide (n ∈ t) = q) (ht : t.length ≤ 1048576) (hv : SlI l h w v t) :
    Calls Try.prog 43 #[v, .int .i64 n] w (RetV w (.bool q)) := he ▸ l1Has_c l h v t n w ht hv

def rows40 (l : List (List Int)) : Prop := l.length ≤ 20 ∧ ∀ j, j < l.length → (l.getD j []).length ≤ 40 ∧ ∀ k, k < (l.getD j []).length → -12 ≤ (l.getD j []).getD k 0
theorem rows40.mem {l : List (List Int)} (h : rows40 l) : ∀ t ∈ l, t.length ≤ 40 := by
  intro t ht
  obtain ⟨j, hj, rfl⟩ := List.getElem_of_mem ht
  have := (h.2 j hj).1
  simpa [List.getD, hj] using this
theorem rows40.met {l : List (List Int)} (h : rows40 l) (k : Nat) : (metS [] (l.take k)).length ≤ 800 := by
  have h1 := metS_len (l := l.take k) [] (fun t ht => h.mem t (List.mem_of_mem_take ht))
  have h2 := h.1
  simp at h1
  omega
theorem news_oneV (w : World) (x : Value) (t : TypeId) : ∀ j u, [x][j]? = some u → (w.alloc (.cells #[x] t)).cell? ((⟨w.heap.size, 0, none⟩ : Addr).add j) = some u := news_one w x t
theorem one_slice (a : Option Addr) (n c : Nat) : ∀ u ∈ [Value.slice a n c], u.oneCell' = true := by intro u hu; simp at hu; subst hu; rfl

set_option maxRecDepth 100000 in
set_option maxHeartbeats 2000000 in
theorem l2Rename_c (lo hi : Nat) (v : Value) (l : List (List Int)) (w : World) (hl : rows40 l) (hv : SlS lo hi w v l) :
    Calls Try.prog 37 #[v] w (RetSS w (renS [] l)) := by
  obtain ⟨ad, cap, rfl⟩ := hv.form
  obtain ⟨i0, hi0, hz0, hz1, hz2⟩ := info_parts Try.info3
  obtain ⟨i1, hi1, hy0, hy1, hy2⟩ := info_parts Try.info22
  have hl20 := hl.1
  go_enter Try.func37, Try.ntmps37
  go_wp2_with fail
  go_loopw [3, 4, 14] (fun vm vo i wr => ∃ (k : Nat) (tag : Nat → Nat) (us : List Value), k ≤ l.length ∧ i = .int .i64 k ∧ OwnT w.heap.size tag 0 3 wr vm ((metS [] (l.take k)).map (Value.int .i64)) ∧ OwnT w.heap.size tag 2 22 wr vo us ∧ InT w.heap.size tag 3 wr us (renS [] (l.take k)) ∧ Bel w wr) (fun _ _ i _ => l.length - (intOf i).toNat)
  case atStart => exact ⟨0, fun _ => 0, [], Nat.zero_le _, rfl, OwnT.nil _ _ _ _ _, OwnT.nil _ _ _ _ _, InT.nil _ _ _ _, Bel.rfl' _⟩
  case round =>
    obtain ⟨k, tag, us, hk, rfl, hM, hO, hI, hb⟩ := hrel
    by_cases hlt : k < l.length
    · obtain ⟨b1, off1, p, rfl, hbl1, hc1w, hp⟩ := hv.at (Bel.rfl' w) k hlt
      have hc1 := hb.at hbl1 hc1w
      have hms := metS_succ [] l k hlt
      have hrs := renS_succ [] l k hlt
      have hml := hl.met k
      have hneg : negM (metS [] (l.take k)) := negM.metS (by intro x hx; simp at hx) _
      obtain ⟨ht40, htl⟩ := hl.2 k hlt
      have hiL : us.length = (renS [] (l.take k)).length := hI.1
      rw [renS_len, List.length_take] at hiL
      generalize hMt : metS [] (l.take k) = M at *
      generalize hRt : renS [] (l.take k) = R at *
      generalize hMt2 : metS [] (l.take (k+1)) = M2 at *
      generalize hRt2 : renS [] (l.take (k+1)) = R2 at *
      generalize l.getD k [] = t at *
      have HSS := Lib.hid (And.intro hms (And.intro hrs (And.intro hMt2 hRt2)))
      have HNG := Lib.hid hneg
      clear hms hrs hMt hRt hMt2 hRt2 hneg
      obtain ⟨ap, cp, rfl⟩ := hp.form
      go_wp2_with fail
      go_loopw [3, 7, 20] (fun vm vx i wr => ∃ (j : Nat) (tag : Nat → Nat), j ≤ t.length ∧ i = .int .i64 j ∧ OwnT w.heap.size tag 0 3 wr vm ((metT M (t.take j)).map (Value.int .i64)) ∧ OwnT w.heap.size tag 1 3 wr vx ((renT M (t.take j)).map (Value.int .i64)) ∧ OwnT w.heap.size tag 2 22 wr u4 us ∧ InT w.heap.size tag 3 wr us R ∧ Bel w wr) (fun _ _ i _ => t.length - (intOf i).toNat)
      case atStart => exact ⟨0, tag, Nat.zero_le _, rfl, hM, OwnT.nil _ _ _ _ _, hO, hI, hb⟩
      case round =>
        clear hM hO hI
        obtain ⟨i, tag1, hi, rfl, hM, hX, hO, hI, hb1⟩ := hrel
        by_cases hlt2 : i < t.length
        · obtain ⟨b2, off2, rfl, -, hc2⟩ := (hp.below hb1).at i hlt2
          have hsm := metT_succ M t i hlt2
          have hsr := renT_succ M t i hlt2
          have hn12 := htl i hlt2
          have hml2 := metT_len M (t.take i)
          have hxl := renT_len M (t.take i)
          rw [List.length_take] at hml2 hxl
          have hng := HNG.out.metT (t.take i)
          generalize hq1 : metT M (t.take i) = M1 at *
          generalize hq2 : renT M (t.take i) = X1 at *
          generalize hq3 : metT M (t.take (i+1)) = M3 at *
          generalize hq4 : renT M (t.take (i+1)) = X3 at *
          generalize t.getD i 0 = n at *
          have hst := hng.step n
          have hmem := stepM_mem M1 n
          by_cases hneg : n < 0
          · by_cases hin : n ∈ M1
            · rw [stepM_old hin] at hsm hsr hst hmem
              have HS := Lib.hid (And.intro (hq3.trans hsm) (hq4.trans hsr))
              have HN := Lib.hid hst
              have HE := Lib.hid hmem
              clear hq1 hq2 hq3 hq4 hsm hsr hst hmem hng
              obtain ⟨am, nm, cm, rfl⟩ := own_form hM.1
              have hnm := row_len hM.1
              rw [List.length_map] at hnm
              subst hnm
              have hin' : decide (n ∈ M1) = true := by simpa using hin
              clear hin
              go_wp2_with (go_at_call 43; refine (l1Has_v _ _ _ M1 n true _ hin' (by omega) hM.sl).mono ?_; rintro e w2 ⟨rfl, hb2⟩)
              replace hM := hM.bel hb2
              replace hX := hX.bel hb2
              replace hO := hO.bel hb2
              replace hI := hI.bel hb2
              have hbn := hb1.step hb2
              have hMs := hM.sl
              clear hb2
              go_wp2_with fail
              go_loop [9, 38] (fun x i => ∃ k : Nat, k ≤ (M1).length ∧ i = .int .i64 k ∧ x = .int .i64 n ∧ n ∉ (M1).take k) (fun _ i => (M1).length - (intOf i).toNat)
              case atStart => exact ⟨0, Nat.zero_le _, rfl, rfl, by simp⟩
              case round =>
                obtain ⟨j, hj, rfl, rfl, hnj⟩ := hrel
                by_cases hjl : j < (M1).length
                · obtain ⟨b3, off3, rfl, -, hcell3⟩ := hMs.at j hjl
                  have E1 := Lib.hid (fun h => not_take_succ hjl (n := n) h hnj)
                  have E2 := Lib.hid (fun h => val_found HN.out hjl (n := n) h hnj)
                  clear hnj hMs
                  generalize (M1).getD j 0 = y at *
                  by_cases hy : y = n
                  · have EV := Lib.hid (E2.out hy)
                    have hy' : (y == n) = true := by simpa using hy
                    clear hy E1 E2
                    have hw9 := IntWalk.i64_in (-1 - (j : Int)) (by omega)
                    go_wp2_with (at_builtin; refine wpList_append_own_at _ rfl _ _ 22 rfl w.heap.size 3 i0 (.int .i64 0) 1 8 Try.underlying22 hi0 hz0 hz1 hz2 rfl (by decide) _ _ _ rfl (hX.alloc _).1 _ _ _ [.int .i64 (-1 - (j : Int))] rfl rfl (news_one _ _ _) (one_int _) (by unfold maxLen; simp only [List.length_map]; omega) (by simp only [List.length_map]; omega) (by have := hbn.size; simp; omega) ?_; intro v' w1 hown' hgrow _ hat)
                    obtain ⟨tag3, hX3, hT3⟩ := tag_snoc (hX.alloc _) hown' hgrow hat
                    have hM3 := hT3 _ _ _ _ (by omega) (hM.alloc _)
                    have hO3 := hT3 _ _ _ _ (by omega) (hO.alloc _)
                    have hI3 := (hI.bel (Bel.alloc0 _ _)).step (by omega) hT3
                    have hb3 := hbn.grownT hX (Nat.le_refl _) hgrow
                    go_roundw
                    case rel => exact ⟨i+1, tag3, by omega, by go_num, by rw [HS.out.1]; exact hM3, by rw [HS.out.2, EV.out]; exact hX3, hO3, hI3, hb3⟩
                    case measure => simp [intOf]; omega
                  · have E := Lib.hid (E1.out hy)
                    have hy' : (y == n) = false := by simpa using hy
                    clear hy E1 E2
                    go_wp2_with fail
                    go_round
                    case rel => exact ⟨j+1, by omega, by go_num, rfl, E.out⟩
                    case measure => simp [intOf]; omega
                · have EV : Hid (valM (M1) n = n) := by show _ = _; exact val_end HE.out (by rw [List.take_of_length_le (by omega)] at hnj; exact hnj)
                  clear hnj
                  go_wp2_with (at_builtin; refine wpList_append_own_at _ rfl _ _ 22 rfl w.heap.size 3 i0 (.int .i64 0) 1 8 Try.underlying22 hi0 hz0 hz1 hz2 rfl (by decide) _ _ _ rfl (hX.alloc _).1 _ _ _ [.int .i64 (n)] rfl rfl (news_one _ _ _) (one_int _) (by unfold maxLen; simp only [List.length_map]; omega) (by simp only [List.length_map]; omega) (by have := hbn.size; simp; omega) ?_; intro v' w1 hown' hgrow _ hat)
                  obtain ⟨tag3, hX3, hT3⟩ := tag_snoc (hX.alloc _) hown' hgrow hat
                  have hM3 := hT3 _ _ _ _ (by omega) (hM.alloc _)
                  have hO3 := hT3 _ _ _ _ (by omega) (hO.alloc _)
                  have hI3 := (hI.bel (Bel.alloc0 _ _)).step (by omega) hT3
                  have hb3 := hbn.grownT hX (Nat.le_refl _) hgrow
                  go_roundw
                  case rel => exact ⟨i+1, tag3, by omega, by go_num, by rw [HS.out.1]; exact hM3, by rw [HS.out.2, EV.out]; exact hX3, hO3, hI3, hb3⟩
                  case measure => simp [intOf]; omega
            · rw [stepM_new hneg hin] at hsm hsr hst hmem
              have HS := Lib.hid (And.intro (hq3.trans hsm) (hq4.trans hsr))
              have HN := Lib.hid hst
              have HE := Lib.hid hmem
              clear hq1 hq2 hq3 hq4 hsm hsr hst hmem hng
              obtain ⟨am, nm, cm, rfl⟩ := own_form hM.1
              have hnm := row_len hM.1
              rw [List.length_map] at hnm
              subst hnm
              have hin' : decide (n ∈ M1) = false := by simpa using hin
              clear hin
              obtain ⟨M4, hM4⟩ : ∃ M4, M4 = M1 ++ [n] := ⟨_, rfl⟩
              have HM4 := Lib.hid hM4
              clear hM4
              go_wp2_with (first | (go_at_call 43; refine (l1Has_v _ _ _ M1 n false _ hin' (by omega) hM.sl).mono ?_; rintro e w2 ⟨rfl, hb2⟩; replace hM := hM.bel hb2; replace hX := hX.bel hb2; replace hO := hO.bel hb2; replace hI := hI.bel hb2; have hbn0 := hb1.step hb2; clear hb2) | (at_builtin; refine wpList_append_own_at _ rfl _ _ 22 rfl w.heap.size 3 i0 (.int .i64 0) 1 8 Try.underlying22 hi0 hz0 hz1 hz2 rfl (by decide) _ _ _ rfl (hM.alloc _).1 _ _ _ [.int .i64 n] rfl rfl (news_one _ _ _) (one_int _) (by unfold maxLen; simp only [List.length_map]; omega) (by simp only [List.length_map]; omega) (by have := hbn0.size; simp; omega) ?_; intro v' w1 hown' hgrow _ hat; obtain ⟨am2, nm2, cm2, rfl⟩ := own_form hown'; have hnm2 : nm2 = M4.length := (by have := row_len hown'; rw [HM4.out]; simpa using this); subst hnm2))
              obtain ⟨tag2, hM2, hT2⟩ := tag_snoc (hM.alloc _) hown' hgrow hat
              replace hX := hT2 _ _ _ _ (by omega) (hX.alloc _)
              replace hO := hT2 _ _ _ _ (by omega) (hO.alloc _)
              replace hI := (hI.bel (Bel.alloc0 _ _)).step (by omega) hT2
              have hbn := hbn0.grownT hM (Nat.le_refl _) hgrow
              clear hM hown' hgrow hat hT2 hbn0
              have hM := hM2
              clear hM2
              rw [← HM4.out] at hM HS HN HE
              have hMs := hM.sl
              have hml3 : M4.length ≤ 900 := by rw [HM4.out]; simp; omega
              go_wp2_with fail
              go_loop [9, 38] (fun x i => ∃ k : Nat, k ≤ (M4).length ∧ i = .int .i64 k ∧ x = .int .i64 n ∧ n ∉ (M4).take k) (fun _ i => (M4).length - (intOf i).toNat)
              case atStart => exact ⟨0, Nat.zero_le _, rfl, rfl, by simp⟩
              case round =>
                obtain ⟨j, hj, rfl, rfl, hnj⟩ := hrel
                by_cases hjl : j < (M4).length
                · obtain ⟨b3, off3, rfl, -, hcell3⟩ := hMs.at j hjl
                  have E1 := Lib.hid (fun h => not_take_succ hjl (n := n) h hnj)
                  have E2 := Lib.hid (fun h => val_found HN.out hjl (n := n) h hnj)
                  clear hnj hMs
                  generalize (M4).getD j 0 = y at *
                  by_cases hy : y = n
                  · have EV := Lib.hid (E2.out hy)
                    have hy' : (y == n) = true := by simpa using hy
                    clear hy E1 E2
                    have hw9 := IntWalk.i64_in (-1 - (j : Int)) (by omega)
                    go_wp2_with (at_builtin; refine wpList_append_own_at _ rfl _ _ 22 rfl w.heap.size 3 i0 (.int .i64 0) 1 8 Try.underlying22 hi0 hz0 hz1 hz2 rfl (by decide) _ _ _ rfl (hX.alloc _).1 _ _ _ [.int .i64 (-1 - (j : Int))] rfl rfl (news_one _ _ _) (one_int _) (by unfold maxLen; simp only [List.length_map]; omega) (by simp only [List.length_map]; omega) (by have := hbn.size; simp; omega) ?_; intro v'' w9 hown' hgrow _ hat)
                    obtain ⟨tag3, hX3, hT3⟩ := tag_snoc (hX.alloc _) hown' hgrow hat
                    have hM3 := hT3 _ _ _ _ (by omega) (hM.alloc _)
                    have hO3 := hT3 _ _ _ _ (by omega) (hO.alloc _)
                    have hI3 := (hI.bel (Bel.alloc0 _ _)).step (by omega) hT3
                    have hb3 := hbn.grownT hX (Nat.le_refl _) hgrow
                    go_roundw
                    case rel => exact ⟨i+1, tag3, by omega, by go_num, by rw [HS.out.1]; exact hM3, by rw [HS.out.2, EV.out]; exact hX3, hO3, hI3, hb3⟩
                    case measure => simp [intOf]; omega
                  · have E := Lib.hid (E1.out hy)
                    have hy' : (y == n) = false := by simpa using hy
                    clear hy E1 E2
                    go_wp2_with fail
                    go_round
                    case rel => exact ⟨j+1, by omega, by go_num, rfl, E.out⟩
                    case measure => simp [intOf]; omega
                · have EV : Hid (valM (M4) n = n) := by show _ = _; exact val_end HE.out (by rw [List.take_of_length_le (by omega)] at hnj; exact hnj)
                  clear hnj
                  go_wp2_with (at_builtin; refine wpList_append_own_at _ rfl _ _ 22 rfl w.heap.size 3 i0 (.int .i64 0) 1 8 Try.underlying22 hi0 hz0 hz1 hz2 rfl (by decide) _ _ _ rfl (hX.alloc _).1 _ _ _ [.int .i64 (n)] rfl rfl (news_one _ _ _) (one_int _) (by unfold maxLen; simp only [List.length_map]; omega) (by simp only [List.length_map]; omega) (by have := hbn.size; simp; omega) ?_; intro v'' w9 hown' hgrow _ hat)
                  obtain ⟨tag3, hX3, hT3⟩ := tag_snoc (hX.alloc _) hown' hgrow hat
                  have hM3 := hT3 _ _ _ _ (by omega) (hM.alloc _)
                  have hO3 := hT3 _ _ _ _ (by omega) (hO.alloc _)
                  have hI3 := (hI.bel (Bel.alloc0 _ _)).step (by omega) hT3
                  have hb3 := hbn.grownT hX (Nat.le_refl _) hgrow
                  go_roundw
                  case rel => exact ⟨i+1, tag3, by omega, by go_num, by rw [HS.out.1]; exact hM3, by rw [HS.out.2, EV.out]; exact hX3, hO3, hI3, hb3⟩
                  case measure => simp [intOf]; omega
          · rw [stepM_sym hneg] at hsm hsr hst hmem
            have HS := Lib.hid (And.intro (hq3.trans hsm) (hq4.trans hsr))
            have HN := Lib.hid hst
            have HE := Lib.hid hmem
            clear hq1 hq2 hq3 hq4 hsm hsr hst hmem hng
            obtain ⟨am, nm, cm, rfl⟩ := own_form hM.1
            have hnm := row_len hM.1
            rw [List.length_map] at hnm
            subst hnm
            have hbn := hb1
            have hMs := hM.sl
            go_wp2_with fail
            go_loop [9, 38] (fun x i => ∃ k : Nat, k ≤ (M1).length ∧ i = .int .i64 k ∧ x = .int .i64 n ∧ n ∉ (M1).take k) (fun _ i => (M1).length - (intOf i).toNat)
            case atStart => exact ⟨0, Nat.zero_le _, rfl, rfl, by simp⟩
            case round =>
              obtain ⟨j, hj, rfl, rfl, hnj⟩ := hrel
              by_cases hjl : j < (M1).length
              · obtain ⟨b3, off3, rfl, -, hcell3⟩ := hMs.at j hjl
                have E1 := Lib.hid (fun h => not_take_succ hjl (n := n) h hnj)
                have E2 := Lib.hid (fun h => val_found HN.out hjl (n := n) h hnj)
                clear hnj hMs
                generalize (M1).getD j 0 = y at *
                by_cases hy : y = n
                · have EV := Lib.hid (E2.out hy)
                  have hy' : (y == n) = true := by simpa using hy
                  clear hy E1 E2
                  have hw9 := IntWalk.i64_in (-1 - (j : Int)) (by omega)
                  go_wp2_with (at_builtin; refine wpList_append_own_at _ rfl _ _ 22 rfl w.heap.size 3 i0 (.int .i64 0) 1 8 Try.underlying22 hi0 hz0 hz1 hz2 rfl (by decide) _ _ _ rfl (hX.alloc _).1 _ _ _ [.int .i64 (-1 - (j : Int))] rfl rfl (news_one _ _ _) (one_int _) (by unfold maxLen; simp only [List.length_map]; omega) (by simp only [List.length_map]; omega) (by have := hbn.size; simp; omega) ?_; intro v' w1 hown' hgrow _ hat)
                  obtain ⟨tag3, hX3, hT3⟩ := tag_snoc (hX.alloc _) hown' hgrow hat
                  have hM3 := hT3 _ _ _ _ (by omega) (hM.alloc _)
                  have hO3 := hT3 _ _ _ _ (by omega) (hO.alloc _)
                  have hI3 := (hI.bel (Bel.alloc0 _ _)).step (by omega) hT3
                  have hb3 := hbn.grownT hX (Nat.le_refl _) hgrow
                  go_roundw
                  case rel => exact ⟨i+1, tag3, by omega, by go_num, by rw [HS.out.1]; exact hM3, by rw [HS.out.2, EV.out]; exact hX3, hO3, hI3, hb3⟩
                  case measure => simp [intOf]; omega
                · have E := Lib.hid (E1.out hy)
                  have hy' : (y == n) = false := by simpa using hy
                  clear hy E1 E2
                  go_wp2_with fail
                  go_round
                  case rel => exact ⟨j+1, by omega, by go_num, rfl, E.out⟩
                  case measure => simp [intOf]; omega
              · have EV : Hid (valM (M1) n = n) := by show _ = _; exact val_end HE.out (by rw [List.take_of_length_le (by omega)] at hnj; exact hnj)
                clear hnj
                go_wp2_with (at_builtin; refine wpList_append_own_at _ rfl _ _ 22 rfl w.heap.size 3 i0 (.int .i64 0) 1 8 Try.underlying22 hi0 hz0 hz1 hz2 rfl (by decide) _ _ _ rfl (hX.alloc _).1 _ _ _ [.int .i64 (n)] rfl rfl (news_one _ _ _) (one_int _) (by unfold maxLen; simp only [List.length_map]; omega) (by simp only [List.length_map]; omega) (by have := hbn.size; simp; omega) ?_; intro v' w1 hown' hgrow _ hat)
                obtain ⟨tag3, hX3, hT3⟩ := tag_snoc (hX.alloc _) hown' hgrow hat
                have hM3 := hT3 _ _ _ _ (by omega) (hM.alloc _)
                have hO3 := hT3 _ _ _ _ (by omega) (hO.alloc _)
                have hI3 := (hI.bel (Bel.alloc0 _ _)).step (by omega) hT3
                have hb3 := hbn.grownT hX (Nat.le_refl _) hgrow
                go_roundw
                case rel => exact ⟨i+1, tag3, by omega, by go_num, by rw [HS.out.1]; exact hM3, by rw [HS.out.2, EV.out]; exact hX3, hO3, hI3, hb3⟩
                case measure => simp [intOf]; omega
        · rw [List.take_of_length_le (by omega)] at hM hX
          obtain ⟨ax, nx, cx, rfl⟩ := own_form hX.1
          go_wp2_with (at_builtin; refine wpList_append_own_at _ rfl _ _ 53 rfl w.heap.size 22 i1 (.slice none 0 0) 1 24 Try.underlying53 hi1 hy0 hy1 hy2 rfl (by decide) _ _ _ rfl (hO.alloc _).1 _ _ _ [.slice ax nx cx] rfl rfl (news_oneV _ _ _) (one_slice _ _ _) (by unfold maxLen; omega) (by omega) (by have := hb1.size; simp; omega) ?_; intro v' w1 hown' hgrow _ hat)
          obtain ⟨tag3, hO3, hT3⟩ := tag_snocV (hO.alloc _) hown' hgrow hat
          have hM3 := hT3 _ _ _ _ (by omega) (hM.alloc _)
          have hX3 := hT3 _ _ _ _ (by omega) (hX.alloc _)
          have hI3 := (hI.bel (Bel.alloc0 _ _)).step (by omega) hT3
          obtain ⟨tag4, hI4, hT4⟩ := hI3.snoc hX3 (by omega)
          have hM4 := hT4 _ _ _ _ (by omega) hM3
          have hO4 := hT4 _ _ _ _ (by omega) hO3
          have hb3 := hb1.grownT hO (Nat.le_refl _) hgrow
          obtain ⟨e1, e2, e3, e4⟩ := HSS.out
          go_roundw
          case rel => exact ⟨k+1, tag4, us ++ [.slice ax nx cx], by omega, by go_num, by rw [e3, e1]; exact hM4, hO4, by rw [e4, e2]; exact hI4, hb3⟩
          case measure => simp [intOf]; omega
    · rw [List.take_of_length_le (by omega)] at hI
      obtain ⟨ao, no, co, rfl⟩ := own_form hO.1
      go_wp2_with fail
      go_ret
      exact ⟨_, _, _, rfl, OwnS.of_tag hO hI (by omega), hb⟩
end Go.Proofs.Ytikllmdmifecpac
