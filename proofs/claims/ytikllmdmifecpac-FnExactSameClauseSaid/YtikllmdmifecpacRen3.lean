/- RenameOf: the program's inner function. -/
import Derived.Test.YtikllmdmifecpacRen2
namespace Go.Proofs.Ytikllmdmifecpac
open Go.RowKit

/-- Twelve ints. -/
def arrN (f : Nat → Int) : Array Value := #[.int .i64 (f 0), .int .i64 (f 1), .int .i64 (f 2), .int .i64 (f 3), .int .i64 (f 4), .int .i64 (f 5), .int .i64 (f 6), .int .i64 (f 7), .int .i64 (f 8), .int .i64 (f 9), .int .i64 (f 10), .int .i64 (f 11)]
theorem arrN_set (f : Nat → Int) (j : Nat) (b : Int) (h : j < 12) : (arrN f).setIfInBounds j (.int .i64 b) = arrN (fun i => if i = j then b else f i) := by
  match j, h with
  | 0, _ => rfl
  | 1, _ => rfl
  | 2, _ => rfl
  | 3, _ => rfl
  | 4, _ => rfl
  | 5, _ => rfl
  | 6, _ => rfl
  | 7, _ => rfl
  | 8, _ => rfl
  | 9, _ => rfl
  | 10, _ => rfl
  | 11, _ => rfl
theorem arrN_get (f : Nat → Int) (j : Nat) (h : j < 12) : (arrN f)[j]? = some (.int .i64 (f j)) := by
  match j, h with
  | 0, _ => rfl
  | 1, _ => rfl
  | 2, _ => rfl
  | 3, _ => rfl
  | 4, _ => rfl
  | 5, _ => rfl
  | 6, _ => rfl
  | 7, _ => rfl
  | 8, _ => rfl
  | 9, _ => rfl
  | 10, _ => rfl
  | 11, _ => rfl
def BlkN (w : World) (B : Nat) (T : TypeId) (f : Nat → Int) : Prop := w.heap[B]? = some (.cells (arrN f) T (0, 0))
theorem BlkN.cell {w : World} {B : Nat} {T : TypeId} {f : Nat → Int} (h : BlkN w B T f) (j : Nat) (hj : j < 12) : w.cell? ⟨B, j, none⟩ = some (.int .i64 (f j)) := by
  unfold BlkN at h
  simp [World.cell?, h, arrN_get f j hj]
theorem BlkN.free {w : World} {B : Nat} {T : TypeId} {f : Nat → Int} (h : BlkN w B T f) (j : Nat) : w.frozen? ⟨B, j, none⟩ = false := by
  unfold BlkN at h
  simp [World.frozen?, h]
theorem BlkN.lt {w : World} {B : Nat} {T : TypeId} {f : Nat → Int} (h : BlkN w B T f) : B < w.heap.size := (Array.getElem?_eq_some_iff.1 h).1
theorem BlkN.bel {w w' : World} {B : Nat} {T : TypeId} {f : Nat → Int} (h : BlkN w B T f) (hb : Bel w w') : BlkN w' B T f := (hb.block B h.lt).trans h
theorem BlkN.set {w : World} {B : Nat} {T : TypeId} {f : Nat → Int} (h : BlkN w B T f) (j : Nat) (hj : j < 12) (b : Int) : BlkN (w.setCell ⟨B, j, none⟩ (.int .i64 b)) B T (fun i => if i = j then b else f i) := by
  have hlt := h.lt
  have h' : w.heap[B] = .cells (arrN f) T (0, 0) := by unfold BlkN at h; simpa [Array.getElem?_eq_getElem hlt] using h
  show (w.heap.modify B _)[B]? = _
  rw [Array.getElem?_eq_getElem (by simpa using hlt), Array.getElem_modify_self, h']
  simp [arrN_set f j b hj]
theorem BlkN.other {w : World} {B : Nat} {T : TypeId} {f : Nat → Int} (h : BlkN w B T f) {p : Addr} (hp : p.block ≠ B) (v : Value) : BlkN (w.setCell p v) B T f :=
  (Below.heap_setCell w p v B (by omega)).trans h
theorem BlkN.grown {w w' : World} {o : Obj} {B : Nat} {T : TypeId} {f : Nat → Int} {base : Nat} {tag : Nat → Nat} {t : Nat} {e : TypeId} {v : Value} {xs : List Value} (h : BlkN w B T f) (hB : B < base) (hown : OwnT base tag t e w v xs) (hg : (w.alloc o).grownBy w' v.ownBlock) : BlkN w' B T f := by
  have hlt := h.lt
  refine (hg.block B (by simp; omega) (fun e => ?_)).trans ((Below.heap_alloc w o B hlt).trans h)
  have := own_base hown.1 B e.symm
  omega
/-- The names as the table holds them. -/
def nm (met : List Int) (v : Nat) : Int := if (-1 - (v : Int)) ∈ met then -1 - (met.idxOf (-1 - (v : Int)) : Int) else 0
theorem nm_nil : nm [] = fun _ => 0 := by funext v; simp [nm]
theorem nm_new {met : List Int} {n : Int} (h : n < 0) (hn : n ∉ met) : (fun i => if i = (-1 - n).toNat then -1 - (met.length : Int) else nm met i) = nm (met ++ [n]) := by
  funext i
  by_cases e : i = (-1 - n).toNat
  · have e2 : -1 - (i : Int) = n := by omega
    rw [if_pos e]; unfold nm
    rw [e2, if_pos (by simp), List.idxOf_append, if_neg hn]
    simp
  · have e2 : -1 - (i : Int) ≠ n := by omega
    rw [if_neg e]; unfold nm
    by_cases hm : (-1 - (i : Int)) ∈ met
    · rw [if_pos hm, if_pos (by simp [hm]), List.idxOf_append, if_pos hm]
    · rw [if_neg hm, if_neg (by simp [hm, e2])]
theorem nm_old {met : List Int} {n : Int} (h : n < 0) (hn : n ∈ met) : nm met (-1 - n).toNat = valM met n ∧ valM met n < 0 := by
  have e2 : -1 - (((-1 - n).toNat : Nat) : Int) = n := by omega
  unfold nm valM
  rw [e2, if_pos hn, if_pos h]
  exact ⟨rfl, by omega⟩
theorem nm_not {met : List Int} {n : Int} (h : n < 0) (hn : n ∉ met) : nm met (-1 - n).toNat = 0 := by
  have e2 : -1 - (((-1 - n).toNat : Nat) : Int) = n := by omega
  unfold nm
  rw [e2, if_neg hn]
theorem val_new {met : List Int} {n : Int} (h : n < 0) (hn : n ∉ met) : valM (met ++ [n]) n = -1 - (met.length : Int) := by
  unfold valM
  rw [if_pos h, List.idxOf_append, if_neg hn]
  simp
theorem val_sym {met : List Int} {n : Int} (h : ¬ n < 0) : valM met n = n := by unfold valM; rw [if_neg h]
theorem list_set_same {l : List Int} {i : Nat} {x : Int} (h : l[i]? = some x) : l.set i x = l := by
  apply List.ext_getElem?
  intro j
  rw [List.getElem?_set]
  by_cases e : i = j
  · subst e
    obtain ⟨h3, h4⟩ := List.getElem?_eq_some_iff.1 h
    simp [h3, h4]
  · simp [e]
/-- The first i are renamed. -/
def mix (M t : List Int) (i : Nat) : List Int := renT M (t.take i) ++ t.drop i
theorem mix_zero (M t : List Int) : mix M t 0 = t := by simp [mix, renT]
theorem mix_len (M t : List Int) (i : Nat) (h : i ≤ t.length) : (mix M t i).length = t.length := by simp [mix, renT_len]; omega
theorem mix_get (M t : List Int) (i : Nat) (h : i < t.length) : (mix M t i)[i]? = some (t.getD i 0) := by
  have hl : (renT M (t.take i)).length = i := by rw [renT_len, List.length_take]; omega
  unfold mix
  rw [List.getElem?_append_right (by omega), hl, Nat.sub_self]
  simp [List.getD, h]
theorem mix_succ (M t : List Int) (i : Nat) (h : i < t.length) : (mix M t i).set i (valM (stepM (metT M (t.take i)) (t.getD i 0)) (t.getD i 0)) = mix M t (i+1) := by
  have hl : (renT M (t.take i)).length = i := by rw [renT_len, List.length_take]; omega
  unfold mix
  rw [List.set_append_right _ _ (by omega), hl, Nat.sub_self, List.drop_eq_getElem_cons h, List.set_cons_zero, renT_succ M t i h]
  simp
theorem mix_sym (M t : List Int) (i : Nat) (h : i < t.length) (hs : ¬ t.getD i 0 < 0) : mix M t i = mix M t (i+1) := by
  have hl : (renT M (t.take i)).length = i := by rw [renT_len, List.length_take]; omega
  rw [← mix_succ M t i h, val_sym hs]
  exact (list_set_same (mix_get M t i h)).symm
theorem mix_all (M t : List Int) (i : Nat) (h : ¬ i < t.length) : mix M t i = renT M t := by
  unfold mix
  rw [List.take_of_length_le (by omega), List.drop_eq_nil_of_le (by omega), List.append_nil]

set_option maxRecDepth 100000 in
theorem clone_r (l h : Nat) (v : Value) (xs : List Int) (w : World) (hx : xs.length ≤ 1048576) (hv : SlI l h w v xs) :
    Calls Try.prog 41 #[v] w (RetR w xs) := by
  obtain ⟨i0, hi0, hz0, hz1, hz2⟩ := info_parts Try.info3
  have hv0 := hv
  obtain ⟨ad, cap, rfl, -, hm, hr⟩ := hv
  have hown : (w.alloc (.cells #[] 3)).ownsRow w.heap.size 3 1 (.slice (some ⟨w.heap.size, 0, none⟩) 0 0) ([] : List Int).length (([] : List Int).map (Value.int .i64)) :=
    World.ownsRow_lit w #[] 0 (Nat.le_refl _) (Nat.zero_le _) rfl
  cases ad with
  | none =>
    obtain rfl : xs = [] := by
      rcases Nat.eq_zero_or_pos xs.length with h0 | h0
      · exact List.length_eq_zero_iff.1 h0
      · obtain ⟨_, _, e, _⟩ := hr h0; simp at e
    obtain rfl : cap = 0 := hm.2 rfl
    clear hr hm hv0
    have hk := fun (w : World) (a : Option Addr) (n c : Nat) => Lib.run_eql_slice_nil (P := Try.prog) w 22 3 a n c 0 0 Try.underlying22
    go_enter Try.func41, Try.ntmps41
    go_wp2_with fail
    go_ret
    exact ⟨_, _, _, rfl, World.ownsRow_nil _ _ _ _, Bel.rfl' _⟩
  | some a =>
    have hn := news_of_sl (hv0.alloc (.cells #[] 3))
    clear hr hm
    have hk := fun (w : World) (a : Option Addr) (n c : Nat) => Lib.run_eql_slice_nil (P := Try.prog) w 22 3 a n c 0 0 Try.underlying22
    go_enter Try.func41, Try.ntmps41
    go_wp2_with (at_builtin; refine wpList_append_own _ rfl _ _ 22 rfl w.heap.size 3 i0 (.int .i64 0) 1 8 Try.underlying22 hi0 hz0 hz1 hz2 rfl (by decide) _ _ _ rfl hown a xs.length cap (xs.map (Value.int .i64)) rfl (by simp) hn (ones_int _) (by unfold maxLen; simp; omega) (by simp; omega) (by simp) ?_; intro v' w1 hown' hgrow _)
    have hb1 := (Bel.alloc0 w (.cells #[] 3)).grown hgrow (fun k hk => own_base hown k hk)
    have hown2 : w1.ownsRow w.heap.size 3 1 v' xs.length (xs.map (Value.int .i64)) := by simpa using hown'
    obtain ⟨g, n, c, rfl⟩ := own_form hown2
    go_ret
    exact ⟨_, _, _, rfl, hown2, hb1⟩

set_option maxRecDepth 100000 in
set_option maxHeartbeats 2000000 in
theorem renamed_c (lo hi : Nat) (v : Value) (l : List (List Int)) (w : World) (hl : rows40 l) (hv : SlS lo hi w v l) :
    Calls Try.prog 32 #[v] w (RetSS w (renS [] l)) := by
  obtain ⟨ad, cap, rfl⟩ := hv.form
  obtain ⟨i1, hi1, hy0, hy1, hy2⟩ := info_parts Try.info22
  have hl20 := hl.1
  go_enter Try.func32, Try.ntmps32
  go_wp2_with fail
  go_loopw [4, 5, 13] (fun nx vo i wr => ∃ (k : Nat) (tag : Nat → Nat) (us : List Value), k ≤ l.length ∧ i = .int .i64 k ∧ nx = .int .i64 (-1 - ((metS [] (l.take k)).length : Int)) ∧ OwnT (w.heap.size + 1) tag 2 22 wr vo us ∧ InT (w.heap.size + 1) tag 3 wr us (renS [] (l.take k)) ∧ BlkN wr w.heap.size 60 (nm (metS [] (l.take k))) ∧ Bel w wr) (fun _ _ i _ => l.length - (intOf i).toNat)
  case atStart =>
    refine ⟨0, fun _ => 0, [], Nat.zero_le _, rfl, rfl, OwnT.nil _ _ _ _ _, InT.nil _ _ _ _, ?_, Bel.alloc0 _ _⟩
    show BlkN _ _ _ (nm [])
    rw [nm_nil]
    exact heap_alloc_new w _
  case round =>
    obtain ⟨k, tag, us, hk, rfl, rfl, hO, hI, hN, hb⟩ := hrel
    by_cases hlt : k < l.length
    · obtain ⟨b1, off1, p, rfl, hbl1, hc1w, hp⟩ := hv.at (Bel.rfl' w) k hlt
      have hc1 := hb.at hbl1 hc1w
      have hms := metS_succ [] l k hlt
      have hrs := renS_succ [] l k hlt
      have hml := hl.met k
      obtain ⟨ht40, htl⟩ := hl.2 k hlt
      have hiL : us.length = (renS [] (l.take k)).length := hI.1
      rw [renS_len, List.length_take] at hiL
      generalize hMt : metS [] (l.take k) = M at *
      generalize hRt : renS [] (l.take k) = R at *
      generalize hMt2 : metS [] (l.take (k+1)) = M2 at *
      generalize hRt2 : renS [] (l.take (k+1)) = R2 at *
      generalize l.getD k [] = t at *
      have HSS := Lib.hid (And.intro hms (And.intro hrs (And.intro hMt2 hRt2)))
      clear hms hrs hMt hRt hMt2 hRt2
      have hcl := clone_r _ _ p t wr (by omega) (hp.below hb)
      obtain ⟨ap, cp, rfl⟩ := hp.form
      have HCL := Lib.hid hcl
      clear hcl
      have hsz1 : w.heap.size + 1 ≤ wr.heap.size := hN.lt
      go_wp2_with (go_at_call 41; refine HCL.out.mono ?_; rintro e w2 ⟨ax, nx, cx, rfl, hX0, hb2⟩; have hnx : nx = t.length := row_len hX0; subst hnx)
      obtain ⟨tag1, hX, hT1⟩ := tag_new (tag := tag) (base := (w.heap.size + 1)) (t := 1) (xs := t.map (Value.int .i64)) (by simpa using hX0) hb2 hsz1
      replace hO := hT1 _ _ _ _ hO
      replace hI := hI.all hT1
      replace hN := hN.bel hb2
      have hbn := hb.step hb2
      clear hb2 HCL hX0 hT1 hb
      go_loopw [4, 21] (fun nx i wr => ∃ (j : Nat), j ≤ t.length ∧ i = .int .i64 j ∧ nx = .int .i64 (-1 - ((metT M (t.take j)).length : Int)) ∧ OwnT (w.heap.size + 1) tag1 1 3 wr (.slice ax t.length cx) ((mix M t j).map (Value.int .i64)) ∧ OwnT (w.heap.size + 1) tag1 2 22 wr u5 us ∧ InT (w.heap.size + 1) tag1 3 wr us R ∧ BlkN wr w.heap.size 60 (nm (metT M (t.take j))) ∧ Bel w wr) (fun _ i _ => t.length - (intOf i).toNat)
      case atStart => exact ⟨0, Nat.zero_le _, rfl, rfl, by rw [mix_zero]; exact hX, hO, hI, hN, hbn⟩
      case round =>
        clear hX hO hI hN hbn
        obtain ⟨i, hi, rfl, rfl, hX, hO, hI, hN, hb1⟩ := hrel
        by_cases hlt2 : i < t.length
        · have hsm := metT_succ M t i hlt2
          have hmx := mix_succ M t i hlt2
          have hms := mix_sym M t i hlt2
          have hmg := mix_get M t i hlt2
          have hmlen := mix_len M t i hi
          have hn12 := htl i hlt2
          have hml2 := metT_len M (t.take i)
          rw [List.length_take] at hml2
          have hXf : ∃ g, ax = some ⟨g, 0, none⟩ ∧ (w.heap.size + 1) ≤ g := by
            rcases hX.1.2 with ⟨e1, _⟩ | ⟨g, cap2, cur, e1, h2, _⟩
            · simp only [Value.slice.injEq] at e1; omega
            · simp only [Value.slice.injEq] at e1; exact ⟨g, e1.1, h2⟩
          obtain ⟨g, rfl, hgB⟩ := hXf
          have hXr := hX.1
          rw [List.length_map, hmlen] at hXr
          have hcell := hXr.cellAt i (by omega)
          rw [List.getElem?_map, hmg, Option.map_some] at hcell
          clear hmg
          generalize hq1 : metT M (t.take i) = M1 at *
          generalize hq2 : mix M t i = X1 at *
          generalize hq3 : metT M (t.take (i+1)) = M3 at *
          generalize hq4 : mix M t (i+1) = X3 at *
          generalize t.getD i 0 = n at *
          by_cases hneg : n < 0
          · have hd : decide (0 ≤ n) = false := by simp; omega
            have hm12 : (-1 - n).toNat < 12 := by omega
            have hi0' : 0 ≤ -1 - n := by omega
            have hi1' : -1 - n < 12 := by omega
            have hcN := hN.cell _ hm12
            have hfN := hN.free (-1 - n).toNat
            by_cases hin : n ∈ M1
            · rw [stepM_old hin] at hsm hmx
              obtain ⟨e1, e2⟩ := nm_old hneg hin
              rw [e1] at hcN
              generalize valM M1 n = y at *
              have hy : (y == 0) = false := by simp; omega
              have HS := Lib.hid (And.intro (hq3.trans hsm) (hq4.trans hmx.symm))
              clear hq1 hq2 hq3 hq4 hsm hmx hms hin e1 e2
              have hst := tag_store hX i (.int .i64 y)
              rw [← List.map_set] at hst
              have hfX := hXr.frozenAt i
              have HST := Lib.hid hst
              have HN := Lib.hid hN
              clear hX hXr hst
              go_wp2_with fail
              go_roundw
              case rel =>
                obtain ⟨h1, h2⟩ := HST.out
                exact ⟨i+1, by omega, by go_num, by rw [HS.out.1], by rw [HS.out.2]; exact h1, h2 _ _ _ _ (by omega) hO, hI.step (by omega) h2, by rw [HS.out.1]; exact hN.other (by simp; omega) _, hb1.setCell (p := ⟨g, i, none⟩) (by simp; omega) _⟩
              case measure => simp [intOf]; omega
            · rw [stepM_new hneg hin] at hsm hmx
              have e1 := nm_not hneg hin
              have e2 := val_new hneg hin
              have e3 := nm_new hneg hin
              rw [e1] at hcN
              rw [e2] at hmx
              have hw14 := IntWalk.i64_in (-1 - (M1.length : Int) - 1) (by omega)
              have HS := Lib.hid (And.intro (hq3.trans hsm) (And.intro (hq4.trans hmx.symm) e3))
              clear hq1 hq2 hq3 hq4 hsm hmx hms hin e1 e2 e3
              have hN2 := hN.set _ hm12 (-1 - (M1.length : Int))
              have hcN2 := hN2.cell _ hm12
              simp only [if_true] at hcN2
              have hX2 := Tags.low (p := ⟨w.heap.size, (-1 - n).toNat, none⟩) (show w.heap.size < (w.heap.size + 1) by omega) (.int .i64 (-1 - (M1.length : Int))) _ _ _ hX
              have hO2 := Tags.low (p := ⟨w.heap.size, (-1 - n).toNat, none⟩) (show w.heap.size < (w.heap.size + 1) by omega) (.int .i64 (-1 - (M1.length : Int))) _ _ _ hO
              have hI2 : InT (w.heap.size + 1) tag1 3 (wr.setCell ⟨w.heap.size, (-1 - n).toNat, none⟩ (.int .i64 (-1 - (M1.length : Int)))) us R := hI.all (fun t' e' u zs h => Tags.low (show w.heap.size < (w.heap.size + 1) by omega) _ _ _ _ h)
              have hbs := hb1.setCell (p := ⟨w.heap.size, (-1 - n).toNat, none⟩) (Nat.le_refl _) (.int .i64 (-1 - (M1.length : Int)))
              have hst := tag_store hX2 i (.int .i64 (-1 - (M1.length : Int)))
              rw [← List.map_set] at hst
              have hXr2 := hX2.1
              rw [List.length_map, hmlen] at hXr2
              have hfX := hXr2.frozenAt i
              have hcell2 := hXr2.cellAt i (by omega)
              have HST := Lib.hid hst
              have HH := Lib.hid (And.intro hO2 (And.intro hI2 (And.intro hN2 hbs)))
              clear hX hX2 hst hO2 hI2 hN2 hbs hN hO hI hXr hXr2
              go_wp2_with fail
              go_roundw
              case rel =>
                obtain ⟨h1, h2⟩ := HST.out
                obtain ⟨hO2, hI2, hN2, hbs⟩ := HH.out
                exact ⟨i+1, by omega, by go_num, by rw [HS.out.1, List.length_append]; go_num, by rw [HS.out.2.1]; exact h1, h2 _ _ _ _ (by omega) hO2, hI2.step (by omega) h2, by rw [HS.out.1, ← HS.out.2.2]; exact hN2.other (by simp; omega) _, hbs.setCell (p := ⟨g, i, none⟩) (by simp; omega) _⟩
              case measure => simp [intOf]; omega
          · have hd : decide (0 ≤ n) = true := by simp; omega
            rw [stepM_sym hneg] at hsm
            have HS := Lib.hid (And.intro (hq3.trans hsm) (hq4.trans (hms hneg).symm))
            clear hq1 hq2 hq3 hq4 hsm hmx hms
            go_wp2_with fail
            go_roundw
            case rel => exact ⟨i+1, by omega, by go_num, by rw [HS.out.1], by rw [HS.out.2]; exact hX, hO, hI, by rw [HS.out.1]; exact hN, hb1⟩
            case measure => simp [intOf]; omega
        · rw [List.take_of_length_le (by omega)] at hN ⊢
          rw [mix_all M t i hlt2] at hX
          go_wp2_with (at_builtin; refine wpList_append_own_at _ rfl _ _ 53 rfl (w.heap.size + 1) 22 i1 (.slice none 0 0) 1 24 Try.underlying53 hi1 hy0 hy1 hy2 rfl (by decide) _ _ _ rfl (hO.alloc _).1 _ _ _ [.slice ax t.length cx] rfl rfl (news_oneV _ _ _) (one_slice _ _ _) (by unfold maxLen; omega) (by omega) (by have := hN.lt; simp; omega) ?_; intro v' w1 hown' hgrow _ hat)
          obtain ⟨tag3, hO3, hT3⟩ := tag_snocV (hO.alloc _) hown' hgrow hat
          have hX3 := hT3 _ _ _ _ (by omega) (hX.alloc _)
          have hI3 := (hI.bel (Bel.alloc0 _ _)).step (by omega) hT3
          obtain ⟨tag4, hI4, hT4⟩ := hI3.snoc hX3 (by omega)
          have hO4 := hT4 _ _ _ _ (by omega) hO3
          have hb3 := hb1.grownT hO (by omega) hgrow
          have hN3 := hN.grown (by omega) hO hgrow
          obtain ⟨e1, e2, e3, e4⟩ := HSS.out
          go_roundw
          case rel => exact ⟨k+1, tag4, us ++ [.slice ax t.length cx], by omega, by go_num, by rw [e3, e1], hO4, by rw [e4, e2]; exact hI4, by rw [e3, e1]; exact hN3, hb3⟩
          case measure => simp [intOf]; omega
    · rw [List.take_of_length_le (by omega)] at hI
      obtain ⟨ao, no, co, rfl⟩ := own_form hO.1
      go_wp2_with fail
      go_ret
      exact ⟨_, _, _, rfl, (OwnS.of_tag hO hI (by omega)).mono (by omega) (Nat.le_refl _), hb⟩
end Go.Proofs.Ytikllmdmifecpac
