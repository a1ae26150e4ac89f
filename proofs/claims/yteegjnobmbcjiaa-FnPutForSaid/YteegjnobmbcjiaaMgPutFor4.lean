/- Texts merged, part 4. -/
import Derived.Deep.RegionHeld3
import Derived.Test.YteegjnobmbcjiaaMgPutFor3
section
/- RenameOf: the program's inner function. -/
namespace Go.Proofs.Yteegjnobmbcjiaa
open Go.RowKit

/-- Twelve ints. -/
def arrN (f : Nat → Int) : Array Value := #[.int .i64 (f 0), .int .i64 (f 1), .int .i64 (f 2), .int .i64 (f 3), .int .i64 (f 4), .int .i64 (f 5), .int .i64 (f 6), .int .i64 (f 7), .int .i64 (f 8), .int .i64 (f 9), .int .i64 (f 10), .int .i64 (f 11)]
theorem arrN_set (f : Nat → Int) (j : Nat) (b : Int) (h : j < 12) : (arrN f).setIfInBounds j (.int .i64 b) = arrN (fun i => if i = j then b else f i) := by
  match j, h with
  | 0, _ => rfl
  | 1, _ => rfl
  | 2, _ => rfl
  | 3, _ => rfl
  | 4, _ => rfl
  | 5, _ => rfl
  | 6, _ => rfl
  | 7, _ => rfl
  | 8, _ => rfl
  | 9, _ => rfl
  | 10, _ => rfl
  | 11, _ => rfl
theorem arrN_get (f : Nat → Int) (j : Nat) (h : j < 12) : (arrN f)[j]? = some (.int .i64 (f j)) := by
  match j, h with
  | 0, _ => rfl
  | 1, _ => rfl
  | 2, _ => rfl
  | 3, _ => rfl
  | 4, _ => rfl
  | 5, _ => rfl
  | 6, _ => rfl
  | 7, _ => rfl
  | 8, _ => rfl
  | 9, _ => rfl
  | 10, _ => rfl
  | 11, _ => rfl
def BlkN (w : World) (B : Nat) (T : TypeId) (f : Nat → Int) : Prop := w.heap[B]? = some (.cells (arrN f) T (0, 0))
theorem BlkN.cell {w : World} {B : Nat} {T : TypeId} {f : Nat → Int} (h : BlkN w B T f) (j : Nat) (hj : j < 12) : w.cell? ⟨B, j, none⟩ = some (.int .i64 (f j)) := by
  unfold BlkN at h
  simp [World.cell?, h, arrN_get f j hj]
theorem BlkN.free {w : World} {B : Nat} {T : TypeId} {f : Nat → Int} (h : BlkN w B T f) (j : Nat) : w.frozen? ⟨B, j, none⟩ = false := by
  unfold BlkN at h
  simp [World.frozen?, h]
theorem BlkN.lt {w : World} {B : Nat} {T : TypeId} {f : Nat → Int} (h : BlkN w B T f) : B < w.heap.size := (Array.getElem?_eq_some_iff.1 h).1
theorem BlkN.bel {w w' : World} {B : Nat} {T : TypeId} {f : Nat → Int} (h : BlkN w B T f) (hb : Bel w w') : BlkN w' B T f := (hb.block B h.lt).trans h
theorem BlkN.set {w : World} {B : Nat} {T : TypeId} {f : Nat → Int} (h : BlkN w B T f) (j : Nat) (hj : j < 12) (b : Int) : BlkN (w.setCell ⟨B, j, none⟩ (.int .i64 b)) B T (fun i => if i = j then b else f i) := by
  have hlt := h.lt
  have h' : w.heap[B] = .cells (arrN f) T (0, 0) := by unfold BlkN at h; simpa [Array.getElem?_eq_getElem hlt] using h
  show (w.heap.modify B _)[B]? = _
  rw [Array.getElem?_eq_getElem (by simpa using hlt), Array.getElem_modify_self, h']
  simp [arrN_set f j b hj]
theorem BlkN.other {w : World} {B : Nat} {T : TypeId} {f : Nat → Int} (h : BlkN w B T f) {p : Addr} (hp : p.block ≠ B) (v : Value) : BlkN (w.setCell p v) B T f :=
  (Below.heap_setCell w p v B (by omega)).trans h
theorem BlkN.grown {w w' : World} {o : Obj} {B : Nat} {T : TypeId} {f : Nat → Int} {base : Nat} {tag : Nat → Nat} {t : Nat} {e : TypeId} {v : Value} {xs : List Value} (h : BlkN w B T f) (hB : B < base) (hown : OwnT base tag t e w v xs) (hg : (w.alloc o).grownBy w' v.ownBlock) : BlkN w' B T f := by
  have hlt := h.lt
  refine (hg.block B (by simp; omega) (fun e => ?_)).trans ((Below.heap_alloc w o B hlt).trans h)
  have := own_base hown.1 B e.symm
  omega
/-- The names as the table holds them. -/
def nm (met : List Int) (v : Nat) : Int := if (-1 - (v : Int)) ∈ met then -1 - (met.idxOf (-1 - (v : Int)) : Int) else 0
theorem nm_nil : nm [] = fun _ => 0 := by funext v; simp [nm]
theorem nm_new {met : List Int} {n : Int} (h : n < 0) (hn : n ∉ met) : (fun i => if i = (-1 - n).toNat then -1 - (met.length : Int) else nm met i) = nm (met ++ [n]) := by
  funext i
  by_cases e : i = (-1 - n).toNat
  · have e2 : -1 - (i : Int) = n := by omega
    rw [if_pos e]; unfold nm
    rw [e2, if_pos (by simp), List.idxOf_append, if_neg hn]
    simp
  · have e2 : -1 - (i : Int) ≠ n := by omega
    rw [if_neg e]; unfold nm
    by_cases hm : (-1 - (i : Int)) ∈ met
    · rw [if_pos hm, if_pos (by simp [hm]), List.idxOf_append, if_pos hm]
    · rw [if_neg hm, if_neg (by simp [hm, e2])]
theorem nm_old {met : List Int} {n : Int} (h : n < 0) (hn : n ∈ met) : nm met (-1 - n).toNat = valM met n ∧ valM met n < 0 := by
  have e2 : -1 - (((-1 - n).toNat : Nat) : Int) = n := by omega
  unfold nm valM
  rw [e2, if_pos hn, if_pos h]
  exact ⟨rfl, by omega⟩
theorem nm_not {met : List Int} {n : Int} (h : n < 0) (hn : n ∉ met) : nm met (-1 - n).toNat = 0 := by
  have e2 : -1 - (((-1 - n).toNat : Nat) : Int) = n := by omega
  unfold nm
  rw [e2, if_neg hn]
theorem val_new {met : List Int} {n : Int} (h : n < 0) (hn : n ∉ met) : valM (met ++ [n]) n = -1 - (met.length : Int) := by
  unfold valM
  rw [if_pos h, List.idxOf_append, if_neg hn]
  simp
theorem val_sym {met : List Int} {n : Int} (h : ¬ n < 0) : valM met n = n := by unfold valM; rw [if_neg h]
theorem list_set_same {l : List Int} {i : Nat} {x : Int} (h : l[i]? = some x) : l.set i x = l := by
  apply List.ext_getElem?
  intro j
  rw [List.getElem?_set]
  by_cases e : i = j
  · subst e
    obtain ⟨h3, h4⟩ := List.getElem?_eq_some_iff.1 h
    simp [h3, h4]
  · simp [e]
/-- The first i are renamed. -/
def mix (M t : List Int) (i : Nat) : List Int := renT M (t.take i) ++ t.drop i
theorem mix_zero (M t : List Int) : mix M t 0 = t := by simp [mix, renT]
theorem mix_len (M t : List Int) (i : Nat) (h : i ≤ t.length) : (mix M t i).length = t.length := by simp [mix, renT_len]; omega
theorem mix_get (M t : List Int) (i : Nat) (h : i < t.length) : (mix M t i)[i]? = some (t.getD i 0) := by
  have hl : (renT M (t.take i)).length = i := by rw [renT_len, List.length_take]; omega
  unfold mix
  rw [List.getElem?_append_right (by omega), hl, Nat.sub_self]
  simp [List.getD, h]
theorem mix_succ (M t : List Int) (i : Nat) (h : i < t.length) : (mix M t i).set i (valM (stepM (metT M (t.take i)) (t.getD i 0)) (t.getD i 0)) = mix M t (i+1) := by
  have hl : (renT M (t.take i)).length = i := by rw [renT_len, List.length_take]; omega
  unfold mix
  rw [List.set_append_right _ _ (by omega), hl, Nat.sub_self, List.drop_eq_getElem_cons h, List.set_cons_zero, renT_succ M t i h]
  simp
theorem mix_sym (M t : List Int) (i : Nat) (h : i < t.length) (hs : ¬ t.getD i 0 < 0) : mix M t i = mix M t (i+1) := by
  have hl : (renT M (t.take i)).length = i := by rw [renT_len, List.length_take]; omega
  rw [← mix_succ M t i h, val_sym hs]
  exact (list_set_same (mix_get M t i h)).symm
theorem mix_all (M t : List Int) (i : Nat) (h : ¬ i < t.length) : mix M t i = renT M t := by
  unfold mix
  rw [List.take_of_length_le (by omega), List.drop_eq_nil_of_le (by omega), List.append_nil]

set_option maxRecDepth 100000 in
theorem clone_r (l h : Nat) (v : Value) (xs : List Int) (w : World) (hx : xs.length ≤ 1048576) (hv : SlI l h w v xs) :
    Calls Try.prog 117 #[v] w (RetR w xs) := by
  obtain ⟨i0, hi0, hz0, hz1, hz2⟩ := info_parts Try.info3
  have hv0 := hv
  obtain ⟨ad, cap, rfl, -, hm, hr⟩ := hv
  have hown : (w.alloc (.cells #[] 3)).ownsRow w.heap.size 3 1 (.slice (some ⟨w.heap.size, 0, none⟩) 0 0) ([] : List Int).length (([] : List Int).map (Value.int .i64)) :=
    World.ownsRow_lit w #[] 0 (Nat.le_refl _) (Nat.zero_le _) rfl
  cases ad with
  | none =>
    obtain rfl : xs = [] := by
      rcases Nat.eq_zero_or_pos xs.length with h0 | h0
      · exact List.length_eq_zero_iff.1 h0
      · obtain ⟨_, _, e, _⟩ := hr h0; simp at e
    obtain rfl : cap = 0 := hm.2 rfl
    clear hr hm hv0
    have hk := fun (w : World) (a : Option Addr) (n c : Nat) => Lib.run_eql_slice_nil (P := Try.prog) w 22 3 a n c 0 0 Try.underlying22
    go_enter Try.func117, Try.ntmps117
    go_wp2_with fail
    go_ret
    exact ⟨_, _, _, rfl, World.ownsRow_nil _ _ _ _, Bel.rfl' _⟩
  | some a =>
    have hn := news_of_sl (hv0.alloc (.cells #[] 3))
    clear hr hm
    have hk := fun (w : World) (a : Option Addr) (n c : Nat) => Lib.run_eql_slice_nil (P := Try.prog) w 22 3 a n c 0 0 Try.underlying22
    go_enter Try.func117, Try.ntmps117
    go_wp2_with (at_builtin; refine wpList_append_own _ rfl _ _ 22 rfl w.heap.size 3 i0 (.int .i64 0) 1 8 Try.underlying22 hi0 hz0 hz1 hz2 rfl (by decide) _ _ _ rfl hown a xs.length cap (xs.map (Value.int .i64)) rfl (by simp) hn (ones_int _) (by unfold maxLen; simp; omega) (by simp; omega) (by simp) ?_; intro v' w1 hown' hgrow _)
    have hb1 := (Bel.alloc0 w (.cells #[] 3)).grown hgrow (fun k hk => own_base hown k hk)
    have hown2 : w1.ownsRow w.heap.size 3 1 v' xs.length (xs.map (Value.int .i64)) := by simpa using hown'
    obtain ⟨g, n, c, rfl⟩ := own_form hown2
    go_ret
    exact ⟨_, _, _, rfl, hown2, hb1⟩

set_option maxRecDepth 100000 in
set_option maxHeartbeats 2000000 in
theorem renamed_c (lo hi : Nat) (v : Value) (l : List (List Int)) (w : World) (hl : rows40 l) (hv : SlS lo hi w v l) :
    Calls Try.prog 122 #[v] w (RetSS w (renS [] l)) := by
  obtain ⟨ad, cap, rfl⟩ := hv.form
  obtain ⟨i1, hi1, hy0, hy1, hy2⟩ := info_parts Try.info22
  have hl20 := hl.1
  go_enter Try.func122, Try.ntmps122
  go_wp2_with fail
  go_loopw [4, 5, 13] (fun nx vo i wr => ∃ (k : Nat) (tag : Nat → Nat) (us : List Value), k ≤ l.length ∧ i = .int .i64 k ∧ nx = .int .i64 (-1 - ((metS [] (l.take k)).length : Int)) ∧ OwnT (w.heap.size + 1) tag 2 22 wr vo us ∧ InT (w.heap.size + 1) tag 3 wr us (renS [] (l.take k)) ∧ BlkN wr w.heap.size 159 (nm (metS [] (l.take k))) ∧ Bel w wr) (fun _ _ i _ => l.length - (intOf i).toNat)
  case atStart =>
    refine ⟨0, fun _ => 0, [], Nat.zero_le _, rfl, rfl, OwnT.nil _ _ _ _ _, InT.nil _ _ _ _, ?_, Bel.alloc0 _ _⟩
    show BlkN _ _ _ (nm [])
    rw [nm_nil]
    exact heap_alloc_new w _
  case round =>
    obtain ⟨k, tag, us, hk, rfl, rfl, hO, hI, hN, hb⟩ := hrel
    by_cases hlt : k < l.length
    · obtain ⟨b1, off1, p, rfl, hbl1, hc1w, hp⟩ := hv.at (Bel.rfl' w) k hlt
      have hc1 := hb.at hbl1 hc1w
      have hms := metS_succ [] l k hlt
      have hrs := renS_succ [] l k hlt
      have hml := hl.met k
      obtain ⟨ht40, htl⟩ := hl.2 k hlt
      have hiL : us.length = (renS [] (l.take k)).length := hI.1
      rw [renS_len, List.length_take] at hiL
      generalize hMt : metS [] (l.take k) = M at *
      generalize hRt : renS [] (l.take k) = R at *
      generalize hMt2 : metS [] (l.take (k+1)) = M2 at *
      generalize hRt2 : renS [] (l.take (k+1)) = R2 at *
      generalize l.getD k [] = t at *
      have HSS := Lib.hid (And.intro hms (And.intro hrs (And.intro hMt2 hRt2)))
      clear hms hrs hMt hRt hMt2 hRt2
      have hcl := clone_r _ _ p t wr (by omega) (hp.below hb)
      obtain ⟨ap, cp, rfl⟩ := hp.form
      have HCL := Lib.hid hcl
      clear hcl
      have hsz1 : w.heap.size + 1 ≤ wr.heap.size := hN.lt
      go_wp2_with (go_at_call 117; refine HCL.out.mono ?_; rintro e w2 ⟨ax, nx, cx, rfl, hX0, hb2⟩; have hnx : nx = t.length := row_len hX0; subst hnx)
      obtain ⟨tag1, hX, hT1⟩ := tag_new (tag := tag) (base := (w.heap.size + 1)) (t := 1) (xs := t.map (Value.int .i64)) (by simpa using hX0) hb2 hsz1
      replace hO := hT1 _ _ _ _ hO
      replace hI := hI.all hT1
      replace hN := hN.bel hb2
      have hbn := hb.step hb2
      clear hb2 HCL hX0 hT1 hb
      go_loopw [4, 21] (fun nx i wr => ∃ (j : Nat), j ≤ t.length ∧ i = .int .i64 j ∧ nx = .int .i64 (-1 - ((metT M (t.take j)).length : Int)) ∧ OwnT (w.heap.size + 1) tag1 1 3 wr (.slice ax t.length cx) ((mix M t j).map (Value.int .i64)) ∧ OwnT (w.heap.size + 1) tag1 2 22 wr u5 us ∧ InT (w.heap.size + 1) tag1 3 wr us R ∧ BlkN wr w.heap.size 159 (nm (metT M (t.take j))) ∧ Bel w wr) (fun _ i _ => t.length - (intOf i).toNat)
      case atStart => exact ⟨0, Nat.zero_le _, rfl, rfl, by rw [mix_zero]; exact hX, hO, hI, hN, hbn⟩
      case round =>
        clear hX hO hI hN hbn
        obtain ⟨i, hi, rfl, rfl, hX, hO, hI, hN, hb1⟩ := hrel
        by_cases hlt2 : i < t.length
        · have hsm := metT_succ M t i hlt2
          have hmx := mix_succ M t i hlt2
          have hms := mix_sym M t i hlt2
          have hmg := mix_get M t i hlt2
          have hmlen := mix_len M t i hi
          have hn12 := htl i hlt2
          have hml2 := metT_len M (t.take i)
          rw [List.length_take] at hml2
          have hXf : ∃ g, ax = some ⟨g, 0, none⟩ ∧ (w.heap.size + 1) ≤ g := by
            rcases hX.1.2 with ⟨e1, _⟩ | ⟨g, cap2, cur, e1, h2, _⟩
            · simp only [Value.slice.injEq] at e1; omega
            · simp only [Value.slice.injEq] at e1; exact ⟨g, e1.1, h2⟩
          obtain ⟨g, rfl, hgB⟩ := hXf
          have hXr := hX.1
          rw [List.length_map, hmlen] at hXr
          have hcell := hXr.cellAt i (by omega)
          rw [List.getElem?_map, hmg, Option.map_some] at hcell
          clear hmg
          generalize hq1 : metT M (t.take i) = M1 at *
          generalize hq2 : mix M t i = X1 at *
          generalize hq3 : metT M (t.take (i+1)) = M3 at *
          generalize hq4 : mix M t (i+1) = X3 at *
          generalize t.getD i 0 = n at *
          by_cases hneg : n < 0
          · have hd : decide (0 ≤ n) = false := by simp; omega
            have hm12 : (-1 - n).toNat < 12 := by omega
            have hi0' : 0 ≤ -1 - n := by omega
            have hi1' : -1 - n < 12 := by omega
            have hcN := hN.cell _ hm12
            have hfN := hN.free (-1 - n).toNat
            by_cases hin : n ∈ M1
            · rw [stepM_old hin] at hsm hmx
              obtain ⟨e1, e2⟩ := nm_old hneg hin
              rw [e1] at hcN
              generalize valM M1 n = y at *
              have hy : (y == 0) = false := by simp; omega
              have HS := Lib.hid (And.intro (hq3.trans hsm) (hq4.trans hmx.symm))
              clear hq1 hq2 hq3 hq4 hsm hmx hms hin e1 e2
              have hst := tag_store hX i (.int .i64 y)
              rw [← List.map_set] at hst
              have hfX := hXr.frozenAt i
              have HST := Lib.hid hst
              have HN := Lib.hid hN
              clear hX hXr hst
              go_wp2_with fail
              go_roundw
              case rel =>
                obtain ⟨h1, h2⟩ := HST.out
                exact ⟨i+1, by omega, by go_num, by rw [HS.out.1], by rw [HS.out.2]; exact h1, h2 _ _ _ _ (by omega) hO, hI.step (by omega) h2, by rw [HS.out.1]; exact hN.other (by simp; omega) _, hb1.setCell (p := ⟨g, i, none⟩) (by simp; omega) _⟩
              case measure => simp [intOf]; omega
            · rw [stepM_new hneg hin] at hsm hmx
              have e1 := nm_not hneg hin
              have e2 := val_new hneg hin
              have e3 := nm_new hneg hin
              rw [e1] at hcN
              rw [e2] at hmx
              have hw14 := IntWalk.i64_in (-1 - (M1.length : Int) - 1) (by omega)
              have HS := Lib.hid (And.intro (hq3.trans hsm) (And.intro (hq4.trans hmx.symm) e3))
              clear hq1 hq2 hq3 hq4 hsm hmx hms hin e1 e2 e3
              have hN2 := hN.set _ hm12 (-1 - (M1.length : Int))
              have hcN2 := hN2.cell _ hm12
              simp only [if_true] at hcN2
              have hX2 := Tags.low (p := ⟨w.heap.size, (-1 - n).toNat, none⟩) (show w.heap.size < (w.heap.size + 1) by omega) (.int .i64 (-1 - (M1.length : Int))) _ _ _ hX
              have hO2 := Tags.low (p := ⟨w.heap.size, (-1 - n).toNat, none⟩) (show w.heap.size < (w.heap.size + 1) by omega) (.int .i64 (-1 - (M1.length : Int))) _ _ _ hO
              have hI2 : InT (w.heap.size + 1) tag1 3 (wr.setCell ⟨w.heap.size, (-1 - n).toNat, none⟩ (.int .i64 (-1 - (M1.length : Int)))) us R := hI.all (fun t' e' u zs h => Tags.low (show w.heap.size < (w.heap.size + 1) by omega) _ _ _ _ h)
              have hbs := hb1.setCell (p := ⟨w.heap.size, (-1 - n).toNat, none⟩) (Nat.le_refl _) (.int .i64 (-1 - (M1.length : Int)))
              have hst := tag_store hX2 i (.int .i64 (-1 - (M1.length : Int)))
              rw [← List.map_set] at hst
              have hXr2 := hX2.1
              rw [List.length_map, hmlen] at hXr2
              have hfX := hXr2.frozenAt i
              have hcell2 := hXr2.cellAt i (by omega)
              have HST := Lib.hid hst
              have HH := Lib.hid (And.intro hO2 (And.intro hI2 (And.intro hN2 hbs)))
              clear hX hX2 hst hO2 hI2 hN2 hbs hN hO hI hXr hXr2
              go_wp2_with fail
              go_roundw
              case rel =>
                obtain ⟨h1, h2⟩ := HST.out
                obtain ⟨hO2, hI2, hN2, hbs⟩ := HH.out
                exact ⟨i+1, by omega, by go_num, by rw [HS.out.1, List.length_append]; go_num, by rw [HS.out.2.1]; exact h1, h2 _ _ _ _ (by omega) hO2, hI2.step (by omega) h2, by rw [HS.out.1, ← HS.out.2.2]; exact hN2.other (by simp; omega) _, hbs.setCell (p := ⟨g, i, none⟩) (by simp; omega) _⟩
              case measure => simp [intOf]; omega
          · have hd : decide (0 ≤ n) = true := by simp; omega
            rw [stepM_sym hneg] at hsm
            have HS := Lib.hid (And.intro (hq3.trans hsm) (hq4.trans (hms hneg).symm))
            clear hq1 hq2 hq3 hq4 hsm hmx hms
            go_wp2_with fail
            go_roundw
            case rel => exact ⟨i+1, by omega, by go_num, by rw [HS.out.1], by rw [HS.out.2]; exact hX, hO, hI, by rw [HS.out.1]; exact hN, hb1⟩
            case measure => simp [intOf]; omega
        · rw [List.take_of_length_le (by omega)] at hN ⊢
          rw [mix_all M t i hlt2] at hX
          go_wp2_with (at_builtin; refine wpList_append_own_at _ rfl _ _ 56 rfl (w.heap.size + 1) 22 i1 (.slice none 0 0) 1 24 Try.underlying56 hi1 hy0 hy1 hy2 rfl (by decide) _ _ _ rfl (hO.alloc _).1 _ _ _ [.slice ax t.length cx] rfl rfl (news_oneV _ _ _) (one_slice _ _ _) (by unfold maxLen; omega) (by omega) (by have := hN.lt; simp; omega) ?_; intro v' w1 hown' hgrow _ hat)
          obtain ⟨tag3, hO3, hT3⟩ := tag_snocV (hO.alloc _) hown' hgrow hat
          have hX3 := hT3 _ _ _ _ (by omega) (hX.alloc _)
          have hI3 := (hI.bel (Bel.alloc0 _ _)).step (by omega) hT3
          obtain ⟨tag4, hI4, hT4⟩ := hI3.snoc hX3 (by omega)
          have hO4 := hT4 _ _ _ _ (by omega) hO3
          have hb3 := hb1.grownT hO (by omega) hgrow
          have hN3 := hN.grown (by omega) hO hgrow
          obtain ⟨e1, e2, e3, e4⟩ := HSS.out
          go_roundw
          case rel => exact ⟨k+1, tag4, us ++ [.slice ax t.length cx], by omega, by go_num, by rw [e3, e1], hO4, by rw [e4, e2]; exact hI4, by rw [e3, e1]; exact hN3, hb3⟩
          case measure => simp [intOf]; omega
    · rw [List.take_of_length_le (by omega)] at hI
      obtain ⟨ao, no, co, rfl⟩ := own_form hO.1
      go_wp2_with fail
      go_ret
      exact ⟨_, _, _, rfl, (OwnS.of_tag hO hI (by omega)).mono (by omega) (Nat.le_refl _), hb⟩
end Go.Proofs.Yteegjnobmbcjiaa
end
section
/- A map of bindings as a substitution. -/
namespace Go.Proofs.Yteegjnobmbcjiaa
open Go.RowKit Go.Maps

/-- A slice does not lie in a map's block. -/
theorem SlI.chgMap {lo hi : Nat} {w w' : World} {v : Value} {xs : List Int} {b m : Nat} {f : Nat → Option Value} (h : SlI lo hi w v xs) (hM : MapV w b m f) (k : Chg b (b+1) w w') : SlI lo hi w' v xs := by
  obtain ⟨ad, cap, rfl, hc, hm, hr⟩ := h
  refine ⟨ad, cap, rfl, hc, hm, fun hp => ?_⟩
  obtain ⟨b0, off, e, a1, a2, a3⟩ := hr hp
  have hne : b0 ≠ b := by
    intro e0
    subst e0
    obtain ⟨n, D, _, ⟨es, clock, hb, _⟩, _⟩ := hM
    have := a3 0 hp
    simp [World.cell?, hb] at this
  exact ⟨b0, off, e, a1, a2, fun j hj => k.cell (World.block_lt_of_cell? w ⟨b0, off + j, none⟩ (a3 j hj)) (by omega) (a3 j hj)⟩
theorem MapV.row_ne {w : World} {b m : Nat} {f : Nat → Option Value} (_h : MapV w b m f) {base : Nat} {tag : Nat → Nat} {t : Nat} {e : TypeId} {v : Value} {xs : List Value} (ho : OwnT base tag t e w v xs) (hb : b < base) : some b ≠ v.ownBlock := by
  intro e
  have := own_base ho.1 b e.symm
  omega
theorem OwnT.chgMap {w w' : World} {b : Nat} {base : Nat} {tag : Nat → Nat} {t : Nat} {e : TypeId} {v : Value} {xs : List Value} (ho : OwnT base tag t e w v xs) (hb : b < base) (k : Chg b (b+1) w w') : OwnT base tag t e w' v xs := by
  refine ⟨⟨ho.1.1, ?_⟩, ho.2⟩
  rcases ho.1.2 with h0 | ⟨g, cap, cur, e1, e2, hh, r⟩
  · exact .inl h0
  · exact .inr ⟨g, cap, cur, e1, e2, by rw [k.block g (Array.getElem?_eq_some_iff.1 hh).1 (by omega)]; exact hh, r⟩
theorem chg_of_grown {w w' : World} {b : Nat} (h : w.grownBy w' (some b)) : Chg b (b+1) w w' := ⟨h.os, h.tape, h.output, h.size, fun k hk ho => h.block k hk (by simp; omega)⟩
/-- A new row at index v, where there was none. -/
theorem InT.put {base : Nat} {tag tag' : Nat → Nat} {ei : TypeId} {w w' : World} {us : List Value} {xss : List (List Int)} {u : Value} {xs : List Int} (h : InT base tag ei w us xss) (v : Nat) (hv : v < us.length)
    (hall : ∀ t' e' u zs, OwnT base tag t' e' w u zs → OwnT base tag' t' e' w' u zs) (hu : OwnT base tag' (10 + v) ei w' u (xs.map (Value.int .i64))) : InT base tag' ei w' (us.set v u) (xss.set v xs) := by
  refine ⟨by simp [h.1], fun j x hj => ?_⟩
  by_cases e : j = v
  · subst e
    rw [List.getElem?_set_self hv] at hj
    simp at hj
    subst hj
    rw [show (xss.set j xs).getD j [] = xs from by simp [List.getD, show j < xss.length by rw [← h.1]; exact hv]]
    exact hu
  · rw [List.getElem?_set_ne (Ne.symm e)] at hj
    rw [show (xss.set v xs).getD j [] = xss.getD j [] from by simp [List.getD, List.getElem?_set_ne (Ne.symm e)]]
    exact hall _ _ _ _ (h.2 j x hj)

theorem getD_rep (n j : Nat) : (List.replicate n ([] : List Int)).getD j [] = [] := by simp only [List.getD, List.getElem?_replicate]; split <;> rfl
theorem Chg.setNew {lo hi : Nat} {w w' : World} (h : Chg lo hi w w') {p : Addr} (hp : w.heap.size ≤ p.block) (u : Value) : Chg lo hi w (w'.setCell p u) :=
  ⟨h.os, h.tape, h.output, by simpa using h.size, fun b hb ho => (Below.heap_setCell w' p u b (by omega)).trans (h.block b hb ho)⟩
theorem MapV.set {w : World} {b m : Nat} {f : Nat → Option Value} (h : MapV w b m f) {p : Addr} (hp : b ≠ p.block) (u : Value) : MapV (w.setCell p u) b m f := by
  obtain ⟨n, D, hn, ho, hk⟩ := h
  exact ⟨n, D, hn, ho.setCell hp u, hk⟩
theorem SlI.lit {w : World} (x : Int) (T : TypeId) : SlI w.heap.size (w.heap.size + 1) (w.alloc (.cells #[.int .i64 x] T)) (.slice (some ⟨w.heap.size, 0, none⟩) 1 1) [x] := by
  refine ⟨_, 1, rfl, Nat.le_refl _, ⟨by unfold maxLen; omega, fun h => by simp at h⟩, fun _ => ⟨w.heap.size, 0, rfl, Nat.le_refl _, Nat.lt_succ_self _, fun j hj => ?_⟩⟩
  obtain rfl : j = 0 := by simp at hj; omega
  rw [World.cell?_alloc_new w]; rfl
/-- What a substitution holds for v. -/
def stayF (F : Nat → List Int) (v : Nat) : List Int := if F v = [-1 - (v : Int)] then [] else F v
def substL (F : Nat → List Int) : List (List Int) := (List.range 12).map (stayF F)
/-- .. after some of the variables. -/
def partL (F : Nat → List Int) (ys : List Int) : List (List Int) := (List.range 12).map fun (v : Nat) => if (v : Int) ∈ ys then stayF F v else []
theorem partL_nil (F : Nat → List Int) : partL F [] = List.replicate 12 [] := by simp [partL, List.range_succ, List.replicate]
theorem partL_len (F : Nat → List Int) (ys : List Int) : (partL F ys).length = 12 := by simp [partL]
theorem partL_snoc (F : Nat → List Int) (ys : List Int) (v : Nat) (hv : v < 12) : (partL F ys).set v (stayF F v) = partL F (ys ++ [(v : Int)]) := by
  apply List.ext_getElem?
  intro i
  rw [List.getElem?_set]
  unfold partL
  by_cases e : v = i
  · subst e; simp [hv]
  · by_cases hi : i < 12
    · have h1 : (List.range 12)[i]? = some i := by simp [hi]
      have e2 : ¬ (i : Int) = (v : Int) := by omega
      rw [if_neg e, List.getElem?_map, List.getElem?_map, h1]
      simp only [Option.map_some, List.mem_append, List.mem_singleton, e2, or_false]
    · rw [if_neg e, List.getElem?_eq_none (by simp; omega), List.getElem?_eq_none (by simp; omega)]
theorem partL_all (F : Nat → List Int) (ys : List Int) (h : ∀ v : Nat, v < 12 → (v : Int) ∉ ys → F v = []) : partL F ys = substL F := by
  unfold partL substL
  apply List.map_congr_left
  intro v hv
  rw [List.mem_range] at hv
  by_cases hm : (v : Int) ∈ ys
  · rw [if_pos hm]
  · rw [if_neg hm]; unfold stayF; rw [h v hv hm]; simp
def RetSub (F : Nat → List Int) (b : Nat) (w : World) (e : Ending) (w' : World) : Prop :=
  ∃ ad n c, e = .returned (.slice ad n c) ∧ OwnS w.heap.size w'.heap.size w' (.slice ad n c) (substL F) ∧ Chg b (b+1) w w'

end Go.Proofs.Yteegjnobmbcjiaa
end
section
/- Compose: what is put together. -/
namespace Go.Proofs.Yteegjnobmbcjiaa
open Go.RowKit

theorem ok_var (ar : List Int) (v : Nat) (hv : v < 12) : okTerm ar [-1 - (v : Int)] = true := by
  have hs : okSym ar (-1 - (v : Int)) = true := by simp [okSym, inB]; omega
  rw [okTerm_iff]
  refine ⟨by simp, by simp, ?_⟩
  unfold endOf
  rw [List.drop_zero, endGo_cons, if_pos hs, arOf_neg (by omega)]
  rfl
def compT (a : List (List Int)) (v : Nat) : List Int := if 0 < (a.getD v []).length then a.getD v [] else [-1 - (v : Int)]
def compF (a b : List (List Int)) (v : Nat) : List Int := appT b (compT a v)
theorem compT_pos {a : List (List Int)} {v : Nat} (h : 0 < (a.getD v []).length) : compT a v = a.getD v [] := by unfold compT; rw [if_pos h]
theorem compT_zero {a : List (List Int)} {v : Nat} (h : ¬ 0 < (a.getD v []).length) : compT a v = [-1 - (v : Int)] := by unfold compT; rw [if_neg h]
theorem compT_ok {ar : List Int} {a : List (List Int)} (h : goodSubst ar a = true) (v : Nat) (hv : v < 12) : okTerm ar (compT a v) = true := by
  by_cases hp : 0 < (a.getD v []).length
  · rw [compT_pos hp]; exact okEmpty_get (goodSubst_iff.1 h).2.2 v hp
  · rw [compT_zero hp]; exact ok_var ar v hv
def composeOk (ar : List Int) (a b : List (List Int)) : Bool := goodSubst ar a && goodSubst ar b && (List.range 12).all (fun v => app40ok b (compT a v))
def composeAns (ar : List Int) (a b : List (List Int)) : List (List Int) := if composeOk ar a b then substL (compF a b) else []
theorem composeAns_no {ar : List Int} {a b : List (List Int)} (h : composeOk ar a b = false) : composeAns ar a b = [] := by simp [composeAns, h]
theorem composeAns_yes {ar : List Int} {a b : List (List Int)} (h : composeOk ar a b = true) : composeAns ar a b = substL (compF a b) := by simp [composeAns, h]
theorem compose_bad {ar : List Int} {a b : List (List Int)} {v : Nat} (hv : v < 12) (h : app40ok b (compT a v) = false) : composeOk ar a b = false := by
  have : (List.range 12).all (fun v => app40ok b (compT a v)) = false := by
    rw [List.all_eq_false]
    exact ⟨v, by simpa using hv, by simp [h]⟩
  unfold composeOk
  rw [this, Bool.and_false]
theorem compose_good {ar : List Int} {a b : List (List Int)} (h1 : goodSubst ar a = true) (h2 : goodSubst ar b = true) (h : ∀ v, v < 12 → app40ok b (compT a v) = true) : composeOk ar a b = true := by
  unfold composeOk
  rw [h1, h2, Bool.true_and, Bool.true_and, List.all_eq_true]
  intro v hv
  exact h v (by simpa using hv)
theorem stayF_le (F : Nat → List Int) (v : Nat) : (stayF F v).length ≤ (F v).length := by unfold stayF; split <;> simp
theorem sumL_map_le (g : Nat → List Int) (c : Nat) : ∀ l : List Nat, (∀ v ∈ l, (g v).length ≤ c) → sumL (l.map g) ≤ c * l.length := by
  intro l
  induction l with
  | nil => intro _; simp [sumL]
  | cons x r ih =>
    intro h
    have h1 := ih (fun v hv => h v (List.mem_cons_of_mem _ hv))
    have h2 := h x List.mem_cons_self
    unfold sumL at h1 ⊢
    simp only [List.map_cons, List.sum_cons, List.length_cons] at h1 ⊢
    rw [Nat.mul_add]
    omega
theorem substL_tot (F : Nat → List Int) (h : ∀ v, v < 12 → (F v).length ≤ 40) : tot (substL F) ≤ 1048576 := by
  have h1 := sumL_map_le (stayF F) 40 (List.range 12) (fun v hv => by have h1 := stayF_le F v; have h2 := h v (by simpa using hv); omega)
  have h2 : (substL F).length = 12 := by simp [substL]
  unfold tot
  rw [h2]
  simp only [List.length_range] at h1
  unfold substL
  omega
theorem composeAns_len (ar : List Int) (a b : List (List Int)) : tot (composeAns ar a b) ≤ 1048576 := by
  unfold composeAns
  split
  · rename_i h
    unfold composeOk at h
    simp only [Bool.and_eq_true, List.all_eq_true] at h
    exact substL_tot _ fun v hv => by
      have := h.2 v (by simpa using hv)
      simp [app40ok] at this
      exact this
  · simp [tot, sumL]
theorem castL_range (k : Nat) : castL (List.range (k+1)) = castL (List.range k) ++ [(k : Int)] := by rw [List.range_succ, castL_snoc]

end Go.Proofs.Yteegjnobmbcjiaa
end
section
/- Match: what is found. -/
namespace Go.Proofs.Yteegjnobmbcjiaa
open Go.RowKit Go.Maps

def upd {α : Type} (F : Nat → α) (v : Nat) (x : α) : Nat → α := fun i => if i = v then x else F i
theorem upd_same {α : Type} (F : Nat → α) (v : Nat) (x : α) : upd F v x v = x := by simp [upd]
theorem upd_other {α : Type} (F : Nat → α) {v i : Nat} (x : α) (h : i ≠ v) : upd F v x i = F i := by simp [upd, h]
def matchGo (ar t : List Int) : List Int → Nat → (Nat → List Int) → Option (Nat → List Int)
  | [], _, F => some F
  | n :: r, j, F =>
    if 0 ≤ n then (if t.getD j 0 = n then matchGo ar t r (j+1) F else none)
    else if F (-1 - n).toNat = [] ∨ F (-1 - n).toNat = partOf t j ((endOf ar t j).getD 0) then matchGo ar t r ((endOf ar t j).getD 0) (upd F (-1 - n).toNat (partOf t j ((endOf ar t j).getD 0))) else none
theorem mg_sym {ar t r : List Int} {n : Int} {j : Nat} {F : Nat → List Int} (h : 0 ≤ n) (he : t.getD j 0 = n) : matchGo ar t (n :: r) j F = matchGo ar t r (j+1) F := by rw [matchGo, if_pos h, if_pos he]
theorem mg_symno {ar t r : List Int} {n : Int} {j : Nat} {F : Nat → List Int} (h : 0 ≤ n) (he : ¬ t.getD j 0 = n) : matchGo ar t (n :: r) j F = none := by rw [matchGo, if_pos h, if_neg he]
theorem mg_var {ar t r : List Int} {n : Int} {j e : Nat} {F : Nat → List Int} (h : ¬ 0 ≤ n) (he : endOf ar t j = some e) (hF : F (-1 - n).toNat = [] ∨ F (-1 - n).toNat = partOf t j e) :
    matchGo ar t (n :: r) j F = matchGo ar t r e (upd F (-1 - n).toNat (partOf t j e)) := by
  rw [matchGo, if_neg h, he]
  simp only [Option.getD_some]
  rw [if_pos hF]
theorem mg_varno {ar t r : List Int} {n : Int} {j e : Nat} {F : Nat → List Int} (h : ¬ 0 ≤ n) (he : endOf ar t j = some e) (hF : ¬ (F (-1 - n).toNat = [] ∨ F (-1 - n).toNat = partOf t j e)) :
    matchGo ar t (n :: r) j F = none := by
  rw [matchGo, if_neg h, he]
  simp only [Option.getD_some]
  rw [if_neg hF]

/-- Both terms have as many terms to come. -/
def Pair2 (ar p t : List Int) (i j : Nat) : Prop := ∃ m, endGo ar (p.drop i) m i = some p.length ∧ endGo ar (t.drop j) m j = some t.length
theorem Pair2.start {ar p t : List Int} (hp : okTerm ar p = true) (ht : okTerm ar t = true) : Pair2 ar p t 0 0 := ⟨1, ((okTerm_iff _ _).1 hp).2.2, ((okTerm_iff _ _).1 ht).2.2⟩
theorem need_pos {ar p : List Int} {i m : Nat} (h : endGo ar (p.drop i) m i = some p.length) (hi : i < p.length) : ∃ m', m = m' + 1 := by
  cases m with
  | zero => rw [endGo_zero] at h; simp at h; omega
  | succ m => exact ⟨m, rfl⟩
theorem need_lt {ar t : List Int} {j m : Nat} (h : endGo ar (t.drop j) (m+1) j = some t.length) : j < t.length := by
  rcases Nat.lt_or_ge j t.length with h1 | h1
  · exact h1
  · rw [List.drop_eq_nil_of_le h1, endGo_nil] at h; simp at h
theorem Pair2.lt {ar p t : List Int} {i j : Nat} (h : Pair2 ar p t i j) (hi : i < p.length) : j < t.length := by
  obtain ⟨m, h1, h2⟩ := h
  obtain ⟨m, rfl⟩ := need_pos h1 hi
  exact need_lt h2
theorem Pair2.sym {ar p t : List Int} {i j : Nat} (h : Pair2 ar p t i j) (hi : i < p.length) (he : t.getD j 0 = p.getD i 0) : Pair2 ar p t (i+1) (j+1) := by
  have hj := h.lt hi
  obtain ⟨m, h1, h2⟩ := h
  obtain ⟨m, rfl⟩ := need_pos h1 hi
  rw [drop_cons p i hi, endGo_cons] at h1
  rw [drop_cons t j hj, endGo_cons, he] at h2
  split at h1
  · rename_i hs
    rw [if_pos hs] at h2
    exact ⟨_, h1, h2⟩
  · simp at h1
theorem Pair2.var {ar p t : List Int} {i j : Nat} (h : Pair2 ar p t i j) (hi : i < p.length) (hn : p.getD i 0 < 0) : ∃ e, endOf ar t j = some e ∧ j < e ∧ e ≤ t.length ∧ Pair2 ar p t (i+1) e := by
  obtain ⟨m, h1, h2⟩ := h
  obtain ⟨m, rfl⟩ := need_pos h1 hi
  rw [drop_cons p i hi, endGo_cons, arOf_neg hn] at h1
  split at h1
  · obtain ⟨e, he, hr, hlt, hle⟩ := ends_step ar t j m t.length h2
    exact ⟨e, he, hlt, hle, m, h1, hr⟩
  · simp at h1
def matchOk0 (ar p t : List Int) : Bool := goodTerm ar p && okTerm ar t
def matchR (ar p t : List Int) : Option (Nat → List Int) := matchGo ar t p 0 (fun _ => [])
def matchOk (ar p t : List Int) : Bool := matchOk0 ar p t && (matchR ar p t).isSome
def matchAns (ar p t : List Int) : List (List Int) := if matchOk0 ar p t then (match matchR ar p t with | some F => substL F | none => []) else []
theorem match_no0 {ar p t : List Int} (h : matchOk0 ar p t = false) : matchAns ar p t = [] ∧ matchOk ar p t = false := by simp [matchAns, matchOk, h]
theorem match_no {ar p t : List Int} (h : matchR ar p t = none) : matchAns ar p t = [] ∧ matchOk ar p t = false := by
  unfold matchAns matchOk
  rw [h]
  simp
theorem match_yes {ar p t : List Int} {F : Nat → List Int} (h0 : matchOk0 ar p t = true) (h : matchR ar p t = some F) : matchAns ar p t = substL F ∧ matchOk ar p t = true := by
  unfold matchAns matchOk
  rw [h, h0]
  simp
/-- The terms found are not long. -/
theorem mg_len {ar t : List Int} (ht : okTerm ar t = true) (p0 : List Int) : ∀ (k i j : Nat) (F G : Nat → List Int), k = p0.length - i → i ≤ p0.length → Pair2 ar p0 t i j → (∀ v, (F v).length ≤ 40) → matchGo ar t (p0.drop i) j F = some G → ∀ v, (G v).length ≤ 40 := by
  intro k
  induction k with
  | zero =>
    intro i j F G hk hi hP hF h
    rw [List.drop_eq_nil_of_le (by omega), matchGo] at h
    simp at h
    rw [← h]; exact hF
  | succ k ih =>
    intro i j F G hk hi hP hF h
    have hlt : i < p0.length := by omega
    rw [drop_cons p0 i hlt] at h
    by_cases hn : 0 ≤ p0.getD i 0
    · by_cases he : t.getD j 0 = p0.getD i 0
      · rw [mg_sym hn he] at h
        exact ih (i+1) (j+1) F G (by omega) (by omega) (hP.sym hlt he) hF h
      · rw [mg_symno hn he] at h; simp at h
    · obtain ⟨e, h1, h2, h3, h4⟩ := hP.var hlt (by omega)
      by_cases hc : F (-1 - p0.getD i 0).toNat = [] ∨ F (-1 - p0.getD i 0).toNat = partOf t j e
      · rw [mg_var hn h1 hc] at h
        refine ih (i+1) e _ G (by omega) (by omega) h4 (fun v => ?_) h
        unfold upd
        split
        · rw [partOf_len t j e h3]; have := ((okTerm_iff _ _).1 ht).2.1; omega
        · exact hF v
      · rw [mg_varno hn h1 hc] at h; simp at h
theorem matchAns_len (ar p t : List Int) : tot (matchAns ar p t) ≤ 1048576 := by
  unfold matchAns
  split
  · rename_i h0
    simp only [matchOk0, Bool.and_eq_true] at h0
    have hp := (goodTerm_iff.1 h0.1).2
    cases h : matchR ar p t with
    | none => simp [tot, sumL]
    | some F =>
      have := mg_len h0.2 p p.length 0 0 (fun _ => []) F (by omega) (by omega) (Pair2.start hp h0.2) (by simp) (by simpa [matchR] using h)
      exact substL_tot F (fun v _ => this v)
  · simp [tot, sumL]
end Go.Proofs.Yteegjnobmbcjiaa
end
section
/- Match: the reference's. -/
namespace Go.Proofs.Yteegjnobmbcjiaa
open Go.RowKit Go.Maps

def rawL (F : Nat → List Int) : List (List Int) := (List.range 12).map F
theorem rawL_len (F : Nat → List Int) : (rawL F).length = 12 := by simp [rawL]
theorem rawL_get (F : Nat → List Int) (v : Nat) (hv : v < 12) : (rawL F).getD v [] = F v := by simp [rawL, List.getD, hv]
theorem rawL_set (F : Nat → List Int) (v : Nat) (hv : v < 12) (x : List Int) : (rawL F).set v x = rawL (upd F v x) := by
  apply List.ext_getElem?
  intro i
  rw [List.getElem?_set]
  unfold rawL upd
  by_cases e : v = i
  · subst e; simp [hv]
  · by_cases hi : i < 12
    · have h1 : (List.range 12)[i]? = some i := by simp [hi]
      rw [if_neg e, List.getElem?_map, List.getElem?_map, h1]
      simp only [Option.map_some]
      rw [if_neg (Ne.symm e)]
    · rw [if_neg e, List.getElem?_eq_none (by simp; omega), List.getElem?_eq_none (by simp; omega)]
/-- The array of the terms found, in block B. -/
def Arr (base B : Nat) (tag : Nat → Nat) (w : World) (us : List Value) (F : Nat → List Int) : Prop :=
  us.length = 12 ∧ OwnT base tag 2 22 w (.slice (some ⟨B, 0, none⟩) 12 12) us ∧ InT base tag 3 w us (rawL F)
theorem Arr.bel {base B : Nat} {tag : Nat → Nat} {w w' : World} {us : List Value} {F : Nat → List Int} (h : Arr base B tag w us F) (hb : Bel w w') : Arr base B tag w' us F := ⟨h.1, h.2.1.bel hb, h.2.2.bel hb⟩
theorem Arr.all {base B : Nat} {tag tag' : Nat → Nat} {w w' : World} {us : List Value} {F : Nat → List Int} (h : Arr base B tag w us F) (k : ∀ t' e' u zs, OwnT base tag t' e' w u zs → OwnT base tag' t' e' w' u zs) : Arr base B tag' w' us F := ⟨h.1, k _ _ _ _ h.2.1, h.2.2.all k⟩
theorem Arr.cell {base B : Nat} {tag : Nat → Nat} {w : World} {us : List Value} {F : Nat → List Int} (h : Arr base B tag w us F) (v : Nat) (hv : v < 12) :
    ∃ a c, w.cell? ⟨B, v, none⟩ = some (.slice a (F v).length c) ∧ us[v]? = some (.slice a (F v).length c) ∧ w.frozen? ⟨B, v, none⟩ = false ∧ OwnT base tag (10 + v) 3 w (.slice a (F v).length c) ((F v).map (Value.int .i64)) := by
  obtain ⟨hl, hO, hI⟩ := h
  have hOr := hO.1
  rw [hl] at hOr
  have hu : us[v]? = some us[v] := List.getElem?_eq_getElem (by omega)
  have hi := hI.2 v _ hu
  rw [rawL_get F v hv] at hi
  obtain ⟨a, n, c, e⟩ := own_form hi.1
  rw [e] at hi hu
  have hn := row_len hi.1
  rw [List.length_map] at hn
  subst hn
  exact ⟨a, c, (hOr.cellAt v (by omega)).trans hu, hu, hOr.frozenAt v, hi⟩
theorem Arr.set {base B : Nat} {tag tag' : Nat → Nat} {w w' : World} {us : List Value} {F : Nat → List Int} {x : List Int} {u : Value} (h : Arr base B tag w us F) (v : Nat) (hv : v < 12)
    (hall : ∀ t' e' u zs, OwnT base tag t' e' w u zs → OwnT base tag' t' e' w' u zs) (hu : OwnT base tag' (10 + v) 3 w' u (x.map (Value.int .i64))) : Arr base B tag' (w'.setCell ⟨B, v, none⟩ u) (us.set v u) (upd F v x) := by
  obtain ⟨hl, hO, hI⟩ := h
  have hst := tag_store (hall _ _ _ _ hO) v u
  refine ⟨by simpa using hl, hst.1, ?_⟩
  rw [← rawL_set F v hv]
  exact (hI.put v (by omega) hall hu).step (by omega) hst.2
theorem Arr.fresh {base B : Nat} {tag : Nat → Nat} {w : World} (h : OwnT base tag 2 22 w (.slice (some ⟨B, 0, none⟩) 12 12) (List.replicate 12 (Value.slice none 0 0))) : Arr base B tag w (List.replicate 12 (Value.slice none 0 0)) (fun _ => []) := by
  refine ⟨by simp, h, by simp [rawL], fun j u hj => ?_⟩
  have hlt := (List.getElem?_eq_some_iff.1 hj).1
  rw [List.getElem?_replicate, if_pos (by simpa using hlt)] at hj
  simp at hj
  subst hj
  rw [show (rawL (fun _ => [])).getD j [] = [] from by rw [rawL_get _ _ (by simpa using hlt)]]
  exact OwnT.nil _ _ _ _ _
def RetL2 (base B : Nat) (R : Option (Nat → List Int)) (w : World) (e : Ending) (w' : World) : Prop :=
  Chg B (B+1) w w' ∧ match R with
    | none => e = .returned (.tuple #[.slice none 0 0, .bool false])
    | some F => e = .returned (.tuple #[.slice (some ⟨B, 0, none⟩) 12 12, .bool true]) ∧ ∃ tag us, Arr base B tag w' us F

end Go.Proofs.Yteegjnobmbcjiaa
end
section
/- Rows of terms, parts, instances: what needs no more than that. No program. -/
namespace Go.Proofs.Yteegjnobmbcjiaa
open Go.RowKit

/-- A row of k terms. -/
def seqT (ar : List Int) (k : Nat) (r : List Int) : Prop := endGo ar r k 0 = some r.length
theorem seqT_nil {ar : List Int} {k : Nat} (h : seqT ar k []) : k = 0 := by
  cases k with
  | zero => rfl
  | succ k => simp [seqT, endGo_nil] at h
theorem seqT_zero {ar r : List Int} (h : seqT ar 0 r) : r = [] := by
  unfold seqT at h
  rw [endGo_zero] at h
  simp at h
  exact List.length_eq_zero_iff.1 h.symm
theorem seqT_cons {ar : List Int} {k : Nat} {x : Int} {r : List Int} : seqT ar (k+1) (x :: r) ↔ okSym ar x = true ∧ seqT ar (k + arOf ar x) r := by
  unfold seqT
  rw [endGo_cons]
  constructor
  · intro h
    split at h
    · rename_i hs
      refine ⟨hs, ?_⟩
      have := endGo_shift ar r (k + arOf ar x) 0 1
      rw [Nat.zero_add] at this
      rw [Nat.zero_add, this] at h
      cases h2 : endGo ar r (k + arOf ar x) 0 with
      | none => rw [h2] at h; simp at h
      | some e => rw [h2] at h; simp at h; rw [h]
    · simp at h
  · rintro ⟨hs, h⟩
    rw [if_pos hs]
    have := endGo_shift ar r (k + arOf ar x) 0 1
    rw [Nat.zero_add] at this
    rw [Nat.zero_add, this, h]
    simp
theorem seqT_append {ar : List Int} : ∀ {r s : List Int} {a b : Nat}, seqT ar a r → seqT ar b s → seqT ar (a + b) (r ++ s) := by
  intro r
  induction r with
  | nil => intro s a b h1 h2; rw [seqT_nil h1, Nat.zero_add]; exact h2
  | cons x r ih =>
    intro s a b h1 h2
    cases a with
    | zero => have := seqT_zero h1; simp at this
    | succ a =>
      obtain ⟨hs, h1⟩ := seqT_cons.1 h1
      rw [List.cons_append, Nat.succ_add]
      refine seqT_cons.2 ⟨hs, ?_⟩
      have := ih h1 h2
      rwa [show a + b + arOf ar x = a + arOf ar x + b by omega]
theorem seq_prefix {ar : List Int} : ∀ {a b r s : List Int} {k : Nat}, seqT ar k a → seqT ar k b → a ++ r = b ++ s → a = b
  | [], b, _, _, k, ha, hb, _ => by rw [seqT_nil ha] at hb; exact (seqT_zero hb).symm
  | x :: a, b, r, s, k, ha, hb, e => by
    cases k with
    | zero => have := seqT_zero ha; simp at this
    | succ k =>
      cases b with
      | nil => have := seqT_nil hb; omega
      | cons y b =>
        rw [List.cons_append, List.cons_append, List.cons.injEq] at e
        obtain ⟨rfl, e⟩ := e
        rw [seq_prefix (seqT_cons.1 ha).2 (seqT_cons.1 hb).2 e]
theorem appT_append (V : List (List Int)) (s t : List Int) : appT V (s ++ t) = appT V s ++ appT V t := by simp [appT]
theorem appT_one (V : List (List Int)) (n : Int) : appT V [n] = one1 V n := by simp [appT]
theorem part_split {t : List Int} {p q e : Nat} (h1 : p ≤ q) (h2 : q ≤ e) : partOf t p e = partOf t p q ++ partOf t q e := by
  unfold partOf
  rw [show e - p = (q - p) + (e - q) by omega, List.take_add, List.drop_drop, show p + (q - p) = q by omega]
end Go.Proofs.Yteegjnobmbcjiaa
end
section
/- Unify: what is found. -/
namespace Go.Proofs.Yteegjnobmbcjiaa
open Go.RowKit Go.Maps

theorem okTerm_seq {ar t : List Int} : okTerm ar t = true ↔ t.length ≤ 40 ∧ seqT ar 1 t := by
  rw [okTerm_iff]
  unfold endOf seqT
  rw [List.drop_zero]
  constructor
  · exact fun h => h.2
  · intro h
    refine ⟨?_, h⟩
    have := endGo_gt ar t 0 0 t.length h.2
    omega
theorem okTerm_long {ar t : List Int} (h : 40 < t.length) : okTerm ar t = false := by
  cases h2 : okTerm ar t with
  | false => rfl
  | true => have := ((okTerm_iff _ _).1 h2).2.1; omega

def putFor (n : Int) (u t : List Int) : List Int := t.flatMap fun m => if m = n then u else [m]
theorem putFor_nil (n : Int) (u : List Int) : putFor n u [] = [] := rfl
theorem putFor_cons (n : Int) (u : List Int) (m : Int) (t : List Int) : putFor n u (m :: t) = (if m = n then u else [m]) ++ putFor n u t := by simp [putFor]
theorem putFor_append (n : Int) (u s t : List Int) : putFor n u (s ++ t) = putFor n u s ++ putFor n u t := by simp [putFor]
theorem putFor_not {n : Int} {u t : List Int} (h : n ∉ t) : putFor n u t = t := by
  induction t with
  | nil => rfl
  | cons m t ih =>
    simp at h
    rw [putFor_cons, if_neg (Ne.symm h.1), ih h.2]; rfl
theorem putFor_mem {n k : Int} {u t : List Int} (h : k ∈ putFor n u t) : k ∈ u ∨ (k ∈ t ∧ k ≠ n) := by
  unfold putFor at h
  rw [List.mem_flatMap] at h
  obtain ⟨m, hm, hk⟩ := h
  split at hk
  · exact .inl hk
  · rename_i hne
    simp at hk; subst hk; exact .inr ⟨hm, hne⟩
theorem putFor_ne {n : Int} {u t : List Int} (hu : u ≠ []) (ht : t ≠ []) : putFor n u t ≠ [] := by
  cases t with
  | nil => exact absurd rfl ht
  | cons m t => rw [putFor_cons]; split <;> simp [hu]
theorem putFor_seq {ar : List Int} {n : Int} {u : List Int} (hn : n < 0) (hu : seqT ar 1 u) : ∀ {t : List Int} {k : Nat}, seqT ar k t → seqT ar k (putFor n u t) := by
  intro t
  induction t with
  | nil => intro k h; exact h
  | cons m t ih =>
    intro k h
    cases k with
    | zero => have := seqT_zero h; simp at this
    | succ k =>
      obtain ⟨hs, h1⟩ := seqT_cons.1 h
      rw [putFor_cons]
      split
      · rename_i e
        subst e
        rw [arOf_neg hn] at h1
        have := seqT_append hu (ih h1)
        rwa [show 1 + (k + 0) = k + 1 by omega] at this
      · exact seqT_cons.2 ⟨hs, ih h1⟩
theorem putFor_len {n : Int} {u t : List Int} {c : Nat} (hu : u.length ≤ c) (hc : 1 ≤ c) : (putFor n u t).length ≤ c * t.length := by
  induction t with
  | nil => simp [putFor_nil]
  | cons m t ih =>
    rw [putFor_cons, List.length_append, List.length_cons, Nat.mul_succ]
    have : (if m = n then u else [m]).length ≤ c := by
      split
      · exact hu
      · simpa using hc
    omega
theorem putFor_infix {n : Int} {u s t : List Int} (h : s <:+: t) : putFor n u s <:+: putFor n u t := by
  obtain ⟨a, b, e⟩ := h
  exact ⟨putFor n u a, putFor n u b, by rw [← putFor_append, ← putFor_append, e]⟩

/-- The first index at which two rows differ. -/
def dif : List Int → List Int → Nat
  | a :: r, b :: s => if a = b then dif r s + 1 else 0
  | _, _ => 0
theorem dif_same : ∀ (t : List Int), dif t t = t.length
  | [] => rfl
  | a :: r => by rw [dif, if_pos rfl, dif_same r]; rfl
theorem dif_before : ∀ (x y : List Int) (i : Nat), i < dif x y → i < x.length ∧ i < y.length ∧ x.getD i 0 = y.getD i 0 := by
  intro x
  induction x with
  | nil => intro y i h; simp [dif] at h
  | cons a r ih =>
    intro y i h
    cases y with
    | nil => simp [dif] at h
    | cons b s =>
      rw [dif] at h
      split at h
      · rename_i e
        subst e
        cases i with
        | zero => simp
        | succ i =>
          obtain ⟨h1, h2, h3⟩ := ih s i (by omega)
          exact ⟨by simp; omega, by simp; omega, by simpa using h3⟩
      · omega
theorem dif_at {ar : List Int} : ∀ {x y : List Int} {k : Nat}, seqT ar k x → seqT ar k y → x ≠ y → dif x y < x.length ∧ dif x y < y.length ∧ x.getD (dif x y) 0 ≠ y.getD (dif x y) 0 := by
  intro x
  induction x with
  | nil =>
    intro y k h1 h2 hne
    rw [seqT_nil h1] at h2
    exact absurd (seqT_zero h2).symm hne
  | cons a r ih =>
    intro y k h1 h2 hne
    cases k with
    | zero => have := seqT_zero h1; simp at this
    | succ k =>
      cases y with
      | nil => have := seqT_nil h2; omega
      | cons b s =>
        rw [dif]
        by_cases e : a = b
        · subst e
          rw [if_pos rfl]
          obtain ⟨-, h1⟩ := seqT_cons.1 h1
          obtain ⟨-, h2⟩ := seqT_cons.1 h2
          obtain ⟨a1, a2, a3⟩ := ih h1 h2 (by intro e; exact hne (by rw [e]))
          exact ⟨by simp; omega, by simp; omega, by simpa using a3⟩
        · rw [if_neg e]
          exact ⟨by simp, by simp, by simpa using e⟩

/-- The integer of the variable that is replaced, and the row with its term. -/
def lowN (x y : List Int) : Int := if y.getD (dif x y) 0 < x.getD (dif x y) 0 then y.getD (dif x y) 0 else x.getD (dif x y) 0
def other (x y : List Int) : List Int := if y.getD (dif x y) 0 < x.getD (dif x y) 0 then x else y
def putU (ar x y : List Int) : List Int := partOf (other x y) (dif x y) ((endOf ar (other x y) (dif x y)).getD 0)
def nextF (n : Int) (u : List Int) (F : Nat → List Int) : Nat → List Int := upd (fun v => putFor n u (F v)) (-1 - n).toNat u
def badU (ar x y : List Int) : Prop := 0 ≤ lowN x y ∨ lowN x y ∈ putU ar x y
instance (ar x y : List Int) : Decidable (badU ar x y) := by unfold badU; infer_instance
def longU (ar x y : List Int) : Prop := 40 < (putFor (lowN x y) (putU ar x y) x).length ∨ 40 < (putFor (lowN x y) (putU ar x y) y).length
instance (ar x y : List Int) : Decidable (longU ar x y) := by unfold longU; infer_instance
def uniGo (ar : List Int) : Nat → List Int → List Int → (Nat → List Int) → Option (Nat → List Int)
  | 0, _, _, _ => none
  | k+1, x, y, F =>
    if x = y then some F
    else if badU ar x y then none
    else if longU ar x y then none
    else uniGo ar k (putFor (lowN x y) (putU ar x y) x) (putFor (lowN x y) (putU ar x y) y) (nextF (lowN x y) (putU ar x y) F)
theorem ug_same {ar x y : List Int} {k : Nat} {F : Nat → List Int} (h : x = y) : uniGo ar (k+1) x y F = some F := by rw [uniGo, if_pos h]
theorem ug_bad {ar x y : List Int} {k : Nat} {F : Nat → List Int} (h : x ≠ y) (hb : badU ar x y) : uniGo ar (k+1) x y F = none := by rw [uniGo, if_neg h, if_pos hb]
theorem ug_long {ar x y : List Int} {k : Nat} {F : Nat → List Int} (h : x ≠ y) (hb : ¬ badU ar x y) (hl : longU ar x y) : uniGo ar (k+1) x y F = none := by rw [uniGo, if_neg h, if_neg hb, if_pos hl]
theorem ug_next {ar x y : List Int} {k : Nat} {F : Nat → List Int} (h : x ≠ y) (hb : ¬ badU ar x y) (hl : ¬ longU ar x y) : uniGo ar (k+1) x y F = uniGo ar k (putFor (lowN x y) (putU ar x y) x) (putFor (lowN x y) (putU ar x y) y) (nextF (lowN x y) (putU ar x y) F) := by rw [uniGo, if_neg h, if_neg hb, if_neg hl]

/-- How many variables are bound. -/
def cnt (F : Nat → List Int) : Nat → Nat
  | 0 => 0
  | k+1 => cnt F k + (if F k = [] then 0 else 1)
theorem cnt_le (F : Nat → List Int) : ∀ k, cnt F k ≤ k
  | 0 => Nat.le_refl _
  | k+1 => by have := cnt_le F k; rw [cnt]; split <;> omega
theorem cnt_same {F G : Nat → List Int} : ∀ {k : Nat}, (∀ v, v < k → (F v = [] ↔ G v = [])) → cnt F k = cnt G k
  | 0, _ => rfl
  | k+1, h => by
    rw [cnt, cnt, cnt_same (fun v hv => h v (by omega))]
    have := h k (Nat.lt_succ_self _)
    by_cases e : F k = []
    · rw [if_pos e, if_pos (this.1 e)]
    · rw [if_neg e, if_neg (fun h => e (this.2 h))]
theorem cnt_new {F G : Nat → List Int} {u : Nat} (hF : F u = []) (hG : G u ≠ []) (hs : ∀ v, v ≠ u → (F v = [] ↔ G v = [])) : ∀ {k : Nat}, u < k → cnt G k = cnt F k + 1
  | 0, h => by omega
  | k+1, h => by
    rw [cnt, cnt]
    by_cases e : u = k
    · subst e
      rw [if_pos hF, if_neg hG, cnt_same (fun v hv => (hs v (by omega)).symm)]
    · rw [cnt_new hF hG hs (k := k) (by omega)]
      have := hs k (Ne.symm e)
      by_cases e2 : F k = []
      · rw [if_pos e2, if_pos (this.1 e2)]
      · rw [if_neg e2, if_neg (fun h => e2 (this.2 h))]
theorem cnt_room {F : Nat → List Int} {u : Nat} (hF : F u = []) : ∀ {k : Nat}, u < k → cnt F k < k
  | 0, h => by omega
  | k+1, h => by
    rw [cnt]
    by_cases e : u = k
    · subst e; rw [if_pos hF]; have := cnt_le F u; omega
    · have := cnt_room hF (k := k) (by omega)
      split <;> omega

/-- What holds between two rounds. -/
structure UInv (ar a0 b0 x y : List Int) (F : Nat → List Int) : Prop where
  okx : okTerm ar x = true
  oky : okTerm ar y = true
  appx : x = appT (rawL F) a0
  appy : y = appT (rawL F) b0
  inf : ∀ v, F v ≠ [] → F v <:+: x ∨ F v <:+: y
  seq : ∀ v, F v ≠ [] → seqT ar 1 (F v)
  notx : ∀ v : Nat, F v ≠ [] → (-1 - (v : Int)) ∉ x
  noty : ∀ v : Nat, F v ≠ [] → (-1 - (v : Int)) ∉ y
  low : ∀ v, 12 ≤ v → F v = []
theorem UInv.len40 {ar a0 b0 x y : List Int} {F : Nat → List Int} (h : UInv ar a0 b0 x y F) (v : Nat) : (F v).length ≤ 40 := by
  by_cases e : F v = []
  · rw [e]; simp
  · have hx := (okTerm_seq.1 h.okx).1
    have hy := (okTerm_seq.1 h.oky).1
    rcases h.inf v e with h1 | h1
    · have := h1.length_le; omega
    · have := h1.length_le; omega
theorem UInv.stay {ar a0 b0 x y : List Int} {F : Nat → List Int} (h : UInv ar a0 b0 x y F) (v : Nat) : stayF F v = F v := by
  unfold stayF
  split
  · rename_i e
    have hne : F v ≠ [] := by rw [e]; simp
    rcases h.inf v hne with h1 | h1
    · exact absurd (h1.subset (by rw [e]; simp)) (h.notx v hne)
    · exact absurd (h1.subset (by rw [e]; simp)) (h.noty v hne)
  · rfl
theorem UInv.raw {ar a0 b0 x y : List Int} {F : Nat → List Int} (h : UInv ar a0 b0 x y F) : rawL F = substL F := by
  unfold rawL substL
  exact List.map_congr_left fun v _ => (h.stay v).symm
theorem appT_none (t : List Int) : appT (rawL fun _ => []) t = t := by
  induction t with
  | nil => rfl
  | cons n t ih =>
    have : one1 (rawL fun _ => []) n = [n] := by
      apply one1_free
      have : (rawL (fun _ => [])).getD (-1 - n).toNat [] = [] := by
        unfold rawL
        simp only [List.getD, List.getElem?_map]
        cases (List.range 12)[(-1 - n).toNat]? <;> rfl
      rw [this]; simp
    unfold appT at ih ⊢
    rw [List.flatMap_cons, this, ih]; rfl
theorem UInv.start {ar a b : List Int} (ha : okTerm ar a = true) (hb : okTerm ar b = true) : UInv ar a b a b (fun _ => []) :=
  ⟨ha, hb, (appT_none a).symm, (appT_none b).symm, fun _ h => absurd rfl h, fun _ h => absurd rfl h, fun _ h => absurd rfl h, fun _ h => absurd rfl h, fun _ _ => rfl⟩
end Go.Proofs.Yteegjnobmbcjiaa
end
section
/- The draws: a term. -/
namespace Go.Proofs.Yteegjnobmbcjiaa
open Go.RowKit

theorem row_chg {w w' : World} {b base : Nat} {e : TypeId} {v : Value} {m : Nat} {xs : List Value} (h : w.ownsRow base e 1 v m xs) (hb : b < base) (k : Chg b (b+1) w w') : w'.ownsRow base e 1 v m xs := by
  refine ⟨h.1, ?_⟩
  rcases h.2 with h0 | ⟨g, cap, cur, e1, e2, hh, r⟩
  · exact .inl h0
  · exact .inr ⟨g, cap, cur, e1, e2, by rw [k.block g (Array.getElem?_eq_some_iff.1 hh).1 (by omega)]; exact hh, r⟩
theorem lit_row (w : World) (x : Int) : (w.alloc (.cells #[.int .i64 x] 3)).ownsRow w.heap.size 3 1 (.slice (some ⟨w.heap.size, 0, none⟩) 1 1) [x].length ([x].map (Value.int .i64)) :=
  World.ownsRow_lit w #[.int .i64 x] 1 (Nat.le_refl _) (by unfold maxLen; omega) rfl
theorem lit_row' (w : World) (x : Int) (B : Nat) (hB : B = w.heap.size) : (w.alloc (.cells #[.int .i64 x] 3)).ownsRow B 3 1 (.slice (some ⟨B, 0, none⟩) 1 1) [x].length ([x].map (Value.int .i64)) := hB ▸ lit_row w x
theorem drawn_len {ar : List Int} (h : drawn ar) : ar.length ≤ 6 := by rcases h with rfl | rfl | rfl | rfl <;> simp
theorem drawn_get {ar : List Int} (h : drawn ar) (n : Nat) : 0 ≤ ar.getD n 0 ∧ ar.getD n 0 ≤ 3 := by
  have hl := drawn_len h
  by_cases hn : n < ar.length
  · have : ∀ x ∈ ar, 0 ≤ x ∧ x ≤ 3 := by rcases h with rfl | rfl | rfl | rfl <;> simp
    exact this _ (by simp [List.getD, hn])
  · simp [List.getD, hn]
/-- How long a term of the draws may be, and how many bytes it may take. -/
def tl : Nat → Nat
  | 0 => 1
  | d + 1 => 1 + 3 * tl d
def dk : Nat → Nat
  | 0 => 8
  | d + 1 => 8 + 3 * dk d
theorem tl_pos (d : Nat) : 1 ≤ tl d := by cases d <;> simp [tl]
theorem tl_le (d : Nat) (h : d ≤ 5) : tl d ≤ 400 := by
  match d, h with
  | 0, _ => simp [tl]
  | 1, _ => simp [tl]
  | 2, _ => simp [tl]
  | 3, _ => simp [tl]
  | 4, _ => simp [tl]
  | 5, _ => simp [tl]
theorem dk_le (d : Nat) (h : d ≤ 5) : dk d ≤ 4000 := by
  match d, h with
  | 0, _ => simp [dk]
  | 1, _ => simp [dk]
  | 2, _ => simp [dk]
  | 3, _ => simp [dk]
  | 4, _ => simp [dk]
  | 5, _ => simp [dk]
theorem open_sym {ar : List Int} {x : Nat} (hx : x < ar.length) (s : List Int) (h : seqT ar (ar.getD x 0).toNat s) : seqT ar 1 ((x : Int) :: s) := by
  refine seqT_cons.2 ⟨by unfold okSym inB; simp; omega, ?_⟩
  have : arOf ar (x : Int) = (ar.getD x 0).toNat := by unfold arOf; rw [if_neg (by omega)]; rfl
  rw [this, Nat.zero_add]; exact h
theorem seq_nil (ar : List Int) : seqT ar 0 [] := rfl
theorem seq_var {ar : List Int} (hl : 0 < ar.length) {x : Nat} (hx : x < 12) : seqT ar 1 [-1 - (x : Int)] := by
  refine seqT_cons.2 ⟨by unfold okSym inB; simp; omega, ?_⟩
  rw [arOf_neg (by omega)]; exact seq_nil ar
theorem seq_zero {ar : List Int} (hg : goodSign ar = true) : seqT ar 1 [0] := by
  have h1 := sign_len ar hg
  have h0 : ar.getD 0 0 = 0 := by
    simp only [goodSign, Bool.and_eq_true] at hg
    simpa using hg.2
  have := open_sym (ar := ar) (x := 0) (by omega) [] (by rw [h0]; exact seq_nil ar)
  exact this
/-- A term of the draws: of the call's own; a term where the signature is one. -/
def RetTm (ar : List Int) (b n k d L : Nat) (w : World) (e : Ending) (w' : World) : Prop :=
  ∃ (ad : Option Addr) (m c : Nat) (t : List Int) (k' : Nat), e = .returned (.slice ad m c) ∧ w'.ownsRow w.heap.size 3 1 (.slice ad m c) t.length (t.map (Value.int .i64)) ∧ 1 ≤ t.length ∧ t.length ≤ L ∧ (goodSign ar = true → seqT ar 1 t) ∧ k ≤ k' ∧ k' ≤ k + d ∧ Cur b n k' w' ∧ Chg b (b+1) w w'

set_option maxRecDepth 100000 in
set_option maxHeartbeats 2000000 in
theorem term_c (b n : Nat) (hn : n ≤ 1099511627776) : ∀ (deep : Nat), 1 ≤ deep → deep ≤ 5 → ∀ (k vars lo hi : Nat) (v : Value) (ar : List Int) (w : World), drawn ar → b < lo → vars ≤ 12 → k + dk deep ≤ 549755813888 → Cur b n k w → SlI lo hi w v ar →
    Calls Try.prog 135 #[.pointer (some ⟨b, 0, none⟩), .agg #[v], .int .i64 deep, .int .i64 vars] w (RetTm ar b n k (dk deep) (tl deep) w) := by
  intro deep
  induction deep with
  | zero => intro h; omega
  | succ d ih =>
    intro _ hd5 k vars lo hi v ar w hdr hblo hvars hk hc hv
    have hbl := hc.lt
    have hal := drawn_len hdr
    have hag := drawn_get hdr
    have hdk := dk_le d (by omega)
    have htl := tl_le d (by omega)
    have htp := tl_pos d
    have hDK : Hid (dk (d+1) = 8 + 3 * dk d) := rfl
    have hTL : Hid (tl (d+1) = 1 + 3 * tl d) := rfl
    have hkd : k + (8 + 3 * dk d) ≤ 549755813888 := hk
    clear hk
    generalize dk (d+1) = DK at *
    generalize tl (d+1) = TL at *
    obtain ⟨va, vc, rfl⟩ := hv.form
    have hv1 := hv.alloc (.cells #[.slice va ar.length vc] 30)
    have hc1 := hc.below (Bel.alloc0 w (.cells #[.slice va ar.length vc] 30))
    have hbox : (w.alloc (.cells #[.slice va ar.length vc] 30)).cell? ⟨w.heap.size, 0, none⟩ = some (.slice va ar.length vc) := by rw [World.cell?_alloc_new w]; rfl
    have hB0 : Bel w (w.alloc (.cells #[.slice va ar.length vc] 30)) := Bel.alloc0 _ _
    have hz0 : (w.alloc (.cells #[.slice va ar.length vc] 30)).heap.size = w.heap.size + 1 := by simp
    obtain ⟨i0, hi0, hz0', hz1, hz2⟩ := info_parts Try.info3
    generalize hzv : (vars : Int) = zv
    have HZV := Lib.hid hzv
    have hzv0 : 0 ≤ zv := by omega
    clear hzv
    generalize hzd : ((d + 1 : Nat) : Int) = zd
    have HZ := Lib.hid hzd
    clear hzd
    go_enter Try.func135, Try.ntmps135
    rcases Nat.eq_zero_or_pos ar.length with h0 | hpos
    · obtain rfl : ar = [] := List.length_eq_zero_iff.1 h0
      simp only [List.length_nil] at hbox
      go_wp2_with fail
      go_ret
      exact ⟨_, 1, 1, [0], k, rfl, row_mono (lit_row' _ 0 _ (by simp)) (by simp), by simp, by have := hTL.out; simp; omega, fun h => by simp [goodSign, inB] at h, Nat.le_refl _, by omega, hc1.below (Bel.alloc0 _ _), Chg.of_bel (Bel.alloc2 _ _ _)⟩
    · have hne : ((ar.length : Int) == 0) = false := by rw [beq_eq_false_iff_ne]; omega
      by_cases hv0 : 0 < zv
      · go_wp2_with fail
        refine (one_c b n k _ 3 _ rfl hn (by omega) (by omega) hc1).mono ?_; rintro e w1 ⟨q, k1, rfl, hk1, hk2, hcW, hgW⟩
        have hbW0 := hgW.cell (by simp) (by omega) hbox
        cases q with
        | true =>
          go_wp2_with fail
          refine (pick_c b n k1 zv vars _ HZV.out.symm hn (by omega) (by omega) hcW).mono ?_; rintro e w2 ⟨x, k2, rfl, hx, hk3, hk4, hc3, hg2⟩
          have hw26 := IntWalk.i64_in (-1 - (x : Int)) (by omega)
          have hvp : 0 < vars := by have := HZV.out; omega
          go_wp2_with fail
          go_ret
          have hg3 := hgW.trans hg2
          have hB := (Chg.of_bel (lo := b) (hi := b+1) hB0).trans hg3
          exact ⟨_, 1, 1, [-1 - (x : Int)], k2, rfl, row_mono (lit_row w2 _) (by have := hg3.size; simp at this; omega), by simp, by have := hTL.out; simp; omega, fun _ => seq_var hpos (by omega), by omega, by have := hDK.out; omega, hc3.below (Bel.alloc0 _ _), hB.trans (Chg.of_bel (Bel.alloc0 _ _))⟩
        | false =>
          go_wp2_with fail
          refine (pick_c b n k1 _ ar.length _ rfl hn (by omega) (by omega) hcW).mono ?_; rintro e w2 ⟨x, k2, rfl, hx, hk3, hk4, hc3, hg2⟩
          have hx6 : x < ar.length := by omega
          replace hgW := hgW.trans hg2
          replace hcW := hc3
          have hbW := hgW.cell (by simp) (by omega) hbox
          have hv2 := hv1.chg hgW (by omega)
          obtain ⟨sb, so, rfl, hsb, hcellA⟩ := hv2.at x hx6
          have hax := hag x
          have HOp := Lib.hid (open_sym (ar := ar) hx6)
          generalize ar.getD x 0 = a1 at *
          have hxl : (x : Int) < ar.length := by omega
          clear hc3 hg2
          by_cases ha0 : 0 < a1
          · by_cases hd0 : d = 0
            · have hdle : zd ≤ 1 := by have := HZ.out; omega
              go_wp2_with fail
              refine (pick_c b n k2 _ ar.length _ rfl hn (by omega) (by omega) hcW).mono ?_; rintro e w5 ⟨y, k5, rfl, hy, hk5, hk6, hc5, hg5⟩
              have hy6 : y / 2 < ar.length := by omega
              clear hcellA hbW hv2 hsb HOp
              clear hax
              replace hgW := hgW.trans hg5
              replace hcW := hc5
              have hbW := hgW.cell (by simp) (by omega) hbox
              have hv2 := hv1.chg hgW (by omega)
              obtain ⟨sb2, so2, e2, hsb, hcellA⟩ := hv2.at (y / 2) hy6
              simp only [Option.some.injEq, Addr.mk.injEq, and_true] at e2
              obtain ⟨rfl, rfl⟩ := e2
              have hax := hag (y / 2)
              have hyl : ((y : Int) / 2) < ar.length := by omega
              have hyt : ((y : Int) / 2).toNat = y / 2 := by omega
              have hy0 : 0 ≤ (y : Int) / 2 := by omega
              have hyc : (((y / 2 : Nat)) : Int) = (y : Int) / 2 := by omega
              have HOp := open_sym (ar := ar) hy6
              rw [hyc] at HOp
              replace HOp := Lib.hid HOp
              clear hc5 hg5
              generalize ar.getD (y / 2) 0 = a2 at *
              have hcellB := hcellA
              rw [← hyt] at hcellA
              clear hyt
              by_cases ha2 : 0 < a2
              · go_wp2_with fail
                go_ret
                have hB := (Chg.of_bel (lo := b) (hi := b+1) hB0).trans hgW
                exact ⟨_, 1, 1, [0], k5, rfl, row_mono (lit_row w5 0) (by have := hgW.size; simp at this; omega), by simp, by have := hTL.out; simp; omega, fun hgs => seq_zero hgs, by omega, by have := hDK.out; omega, hcW.below (Bel.alloc0 _ _), hB.trans (Chg.of_bel (Bel.alloc0 _ _))⟩
              · have ha2d : ¬ 0 < a2 := ha2
                have hq : (a2.toNat : Int) = a2 := by omega
                have hq3 : a2.toNat ≤ 3 := by omega
                have hszW := hgW.size
                simp only [World.size_alloc] at hszW
                have hbW4 := (Bel.alloc0 w5 (.cells #[.int .i64 ((y : Int) / 2)] 3)).at (by omega) hbW
                have hcell4 := (Bel.alloc0 w5 (.cells #[.int .i64 ((y : Int) / 2)] 3)).at hsb hcellA
                have hcell5 := (Bel.alloc0 w5 (.cells #[.int .i64 ((y : Int) / 2)] 3)).at hsb hcellB
                have hrow := row_mono (lit_row w5 ((y : Int) / 2)) (show w.heap.size + 1 ≤ w5.heap.size by omega)
                have hcW4 := hcW.below (Bel.alloc0 w5 (.cells #[.int .i64 ((y : Int) / 2)] 3))
                have hgW4 := hgW.trans (Chg.of_bel (Bel.alloc0 w5 (.cells #[.int .i64 ((y : Int) / 2)] 3)))
                have HR := Lib.hid (And.intro hrow (And.intro hcW4 (And.intro hgW4 HOp.out)))
                clear hrow hcW4 hgW4 hcW hgW HOp
                go_wp2_with fail
                go_loopw [10, 11] (fun vo i wr => ∃ (j : Nat) (acc : List Int) (k9 : Nat), j ≤ a2.toNat ∧ i = .int .i64 j ∧ wr.ownsRow (w.heap.size + 1) 3 1 vo acc.length (acc.map (Value.int .i64)) ∧ 1 ≤ acc.length ∧ acc.length ≤ 1 + (3 - j) * tl d ∧ k5 ≤ k9 ∧ k9 ≤ k5 + (3 - j) * dk d ∧ Cur b n k9 wr ∧ Chg b (b+1) (w.alloc (.cells #[.slice (some ⟨sb, so, none⟩) ar.length vc] 30)) wr ∧ Hid (goodSign ar = true → ∀ s, seqT ar j s → seqT ar 1 (acc ++ s))) (fun _ i _ => (intOf i).toNat)
                case atStart => exact ⟨a2.toNat, [(y : Int) / 2], k5, Nat.le_refl _, by rw [hq], HR.out.1, by simp, by simp, Nat.le_refl _, by omega, HR.out.2.1, HR.out.2.2.1, Lib.hid (fun _ s h => HR.out.2.2.2 s h)⟩
                case round =>
                  obtain ⟨j, acc, k9, hj, rfl, hown, ha1, ha2, hk91, hk92, hc9, hg9, hop9⟩ := hrel
                  have hsz9 := hg9.size
                  simp only [World.size_alloc] at hsz9
                  by_cases hj0 : 0 < j
                  · exact absurd hj0 (by omega)
                  · obtain rfl : j = 0 := by omega
                    obtain ⟨ao, no, co, rfl⟩ := own_form hown
                    have hB := (Chg.of_bel (lo := b) (hi := b+1) hB0).trans hg9
                    have hDK2 := hDK.out
                    have hTL2 := hTL.out
                    clear hcell4 hbW4
                    go_wp2_with fail
                    go_ret
                    exact ⟨ao, no, co, acc, k9, rfl, row_mono hown (by omega), ha1, by omega, fun hgs => (by have := hop9.out hgs [] (seq_nil ar); rwa [List.append_nil] at this), by omega, by omega, hc9, hB⟩
            · have hdle : ¬ zd ≤ 1 := by have := HZ.out; omega
              have hq : (a1.toNat : Int) = a1 := by omega
              have hq3 : a1.toNat ≤ 3 := by omega
              have hszW := hgW.size
              simp only [World.size_alloc] at hszW
              have hbW4 := (Bel.alloc0 w2 (.cells #[.int .i64 ((x : Int))] 3)).at (by omega) hbW
              have hcell4 := (Bel.alloc0 w2 (.cells #[.int .i64 ((x : Int))] 3)).at hsb hcellA
              have hrow := row_mono (lit_row w2 ((x : Int))) (show w.heap.size + 1 ≤ w2.heap.size by omega)
              have hcW4 := hcW.below (Bel.alloc0 w2 (.cells #[.int .i64 ((x : Int))] 3))
              have hgW4 := hgW.trans (Chg.of_bel (Bel.alloc0 w2 (.cells #[.int .i64 ((x : Int))] 3)))
              have HR := Lib.hid (And.intro hrow (And.intro hcW4 (And.intro hgW4 HOp.out)))
              clear hrow hcW4 hgW4 hcW hgW HOp
              go_wp2_with fail
              go_loopw [10, 11] (fun vo i wr => ∃ (j : Nat) (acc : List Int) (k9 : Nat), j ≤ a1.toNat ∧ i = .int .i64 j ∧ wr.ownsRow (w.heap.size + 1) 3 1 vo acc.length (acc.map (Value.int .i64)) ∧ 1 ≤ acc.length ∧ acc.length ≤ 1 + (3 - j) * tl d ∧ k2 ≤ k9 ∧ k9 ≤ k2 + (3 - j) * dk d ∧ Cur b n k9 wr ∧ Chg b (b+1) (w.alloc (.cells #[.slice (some ⟨sb, so, none⟩) ar.length vc] 30)) wr ∧ Hid (goodSign ar = true → ∀ s, seqT ar j s → seqT ar 1 (acc ++ s))) (fun _ i _ => (intOf i).toNat)
              case atStart => exact ⟨a1.toNat, [(x : Int)], k2, Nat.le_refl _, by rw [hq], HR.out.1, by simp, by simp, Nat.le_refl _, by omega, HR.out.2.1, HR.out.2.2.1, Lib.hid (fun _ s h => HR.out.2.2.2 s h)⟩
              case round =>
                obtain ⟨j, acc, k9, hj, rfl, hown, ha1, ha2, hk91, hk92, hc9, hg9, hop9⟩ := hrel
                have hsz9 := hg9.size
                simp only [World.size_alloc] at hsz9
                by_cases hj0 : 0 < j
                · have hd1 : 1 ≤ d := by omega
                  have hbx9 := hg9.cell (by simp) (by omega) hbox
                  have hv9 := hv1.chg hg9 (by omega)
                  have hm1 : (3 - (j - 1)) * tl d = (3 - j) * tl d + tl d := by
                    have : 3 - (j - 1) = (3 - j) + 1 := by omega
                    rw [this, Nat.add_mul, Nat.one_mul]
                  have hm2 : (3 - (j - 1)) * dk d = (3 - j) * dk d + dk d := by
                    have : 3 - (j - 1) = (3 - j) + 1 := by omega
                    rw [this, Nat.add_mul, Nat.one_mul]
                  have hm3 : (3 - j) * dk d ≤ 3 * dk d := Nat.mul_le_mul_right _ (by omega)
                  have hm4 : (3 - j) * tl d ≤ 3 * tl d := Nat.mul_le_mul_right _ (by omega)
                  have hm5 : (3 - (j - 1)) * dk d ≤ 3 * dk d := Nat.mul_le_mul_right _ (by omega)
                  have HT := ih hd1 (by omega) k9 vars lo hi _ ar wr hdr hblo hvars (by omega) hc9 hv9
                  have hzd2 : zd - 1 = d := by have := HZ.out; omega
                  rw [HZV.out] at HT
                  replace HT := Lib.hid HT
                  have hw75 := IntWalk.i64_in (zd - 1) (by omega)
                  have hw70 := IntWalk.i64_in ((j : Int) - 1) (by omega)
                  have HM := Lib.hid (And.intro hm1 (And.intro hm2 (And.intro hm3 hm4)))
                  clear hm1 hm2 hm3 hm4 hm5 hcell4 hbW4
                  go_wp2_with (first | (go_at_call 135; refine HT.out.mono ?_; rintro e w7 ⟨a7, m7, c7, t7, k7, rfl, hrow7, ht1, ht2, hseq7, hk71, hk72, hc7, hg7⟩; have hm7 : m7 = t7.length := row_len hrow7; subst hm7; have hown7 := row_chg hown (by omega) hg7; have hs7 := (OwnI.of_row hrow7).sl; obtain ⟨tb, tof, tc, e7, -⟩ := hs7.plain (by omega); cases e7; have hn7 := news_of_sl hs7; have hsz7 := hg7.size) | (at_builtin; refine wpList_append_own _ rfl _ _ 22 rfl (w.heap.size + 1) 3 i0 (.int .i64 0) 1 8 Try.underlying22 hi0 hz0' hz1 hz2 rfl (by decide) _ _ _ rfl hown7 _ t7.length _ (t7.map (Value.int .i64)) rfl (by simp) hn7 (ones_int _) (by unfold maxLen; have := HM.out.2.2.2; omega) (by have := HM.out.2.2.2; omega) (by omega) ?_; intro v' w8 hown' hgrow _))
                  obtain ⟨hm1, hm2, hm3, hm4⟩ := HM.out
                  have hg8 : Chg (w.heap.size + 1) w8.heap.size w7 w8 := ⟨hgrow.os, hgrow.tape, hgrow.output, hgrow.size, fun i hi ho => hgrow.block i hi (fun e => by have := own_base hown7 i e.symm; have := hgrow.size; omega)⟩
                  have hown8 : w8.ownsRow (w.heap.size + 1) 3 1 v' (acc ++ t7).length ((acc ++ t7).map (Value.int .i64)) := by simpa using hown'
                  have hop8 : Hid (goodSign ar = true → ∀ s, seqT ar (j - 1) s → seqT ar 1 ((acc ++ t7) ++ s)) := Lib.hid (fun hgs s hs => by
                    rw [List.append_assoc]
                    refine hop9.out hgs (t7 ++ s) ?_
                    have := seqT_append (hseq7 hgs) hs
                    rwa [show 1 + (j - 1) = j by omega] at this)
                  go_roundw
                  case rel => exact ⟨j - 1, acc ++ t7, k7, by omega, by go_num, hown8, by simp; omega, by rw [List.length_append, hm1]; omega, by omega, by rw [hm2]; omega, hc7.chg hg8 (by omega), (hg9.trans hg7).news hg8 (by simp), hop8⟩
                  case measure => simp [intOf]; omega
                · obtain rfl : j = 0 := by omega
                  obtain ⟨ao, no, co, rfl⟩ := own_form hown
                  have hB := (Chg.of_bel (lo := b) (hi := b+1) hB0).trans hg9
                  have hDK2 := hDK.out
                  have hTL2 := hTL.out
                  clear hcell4 hbW4
                  go_wp2_with fail
                  go_ret
                  exact ⟨ao, no, co, acc, k9, rfl, row_mono hown (by omega), ha1, by omega, fun hgs => (by have := hop9.out hgs [] (seq_nil ar); rwa [List.append_nil] at this), by omega, by omega, hc9, hB⟩
          · have ha1d : ¬ 0 < a1 := ha0
            have hq : (a1.toNat : Int) = a1 := by omega
            have hq3 : a1.toNat ≤ 3 := by omega
            have hszW := hgW.size
            simp only [World.size_alloc] at hszW
            have hbW4 := (Bel.alloc0 w2 (.cells #[.int .i64 ((x : Int))] 3)).at (by omega) hbW
            have hcell4 := (Bel.alloc0 w2 (.cells #[.int .i64 ((x : Int))] 3)).at hsb hcellA
            have hrow := row_mono (lit_row w2 ((x : Int))) (show w.heap.size + 1 ≤ w2.heap.size by omega)
            have hcW4 := hcW.below (Bel.alloc0 w2 (.cells #[.int .i64 ((x : Int))] 3))
            have hgW4 := hgW.trans (Chg.of_bel (Bel.alloc0 w2 (.cells #[.int .i64 ((x : Int))] 3)))
            have HR := Lib.hid (And.intro hrow (And.intro hcW4 (And.intro hgW4 HOp.out)))
            clear hrow hcW4 hgW4 hcW hgW HOp
            go_wp2_with fail
            go_loopw [10, 11] (fun vo i wr => ∃ (j : Nat) (acc : List Int) (k9 : Nat), j ≤ a1.toNat ∧ i = .int .i64 j ∧ wr.ownsRow (w.heap.size + 1) 3 1 vo acc.length (acc.map (Value.int .i64)) ∧ 1 ≤ acc.length ∧ acc.length ≤ 1 + (3 - j) * tl d ∧ k2 ≤ k9 ∧ k9 ≤ k2 + (3 - j) * dk d ∧ Cur b n k9 wr ∧ Chg b (b+1) (w.alloc (.cells #[.slice (some ⟨sb, so, none⟩) ar.length vc] 30)) wr ∧ Hid (goodSign ar = true → ∀ s, seqT ar j s → seqT ar 1 (acc ++ s))) (fun _ i _ => (intOf i).toNat)
            case atStart => exact ⟨a1.toNat, [(x : Int)], k2, Nat.le_refl _, by rw [hq], HR.out.1, by simp, by simp, Nat.le_refl _, by omega, HR.out.2.1, HR.out.2.2.1, Lib.hid (fun _ s h => HR.out.2.2.2 s h)⟩
            case round =>
              obtain ⟨j, acc, k9, hj, rfl, hown, ha1, ha2, hk91, hk92, hc9, hg9, hop9⟩ := hrel
              have hsz9 := hg9.size
              simp only [World.size_alloc] at hsz9
              by_cases hj0 : 0 < j
              · exact absurd hj0 (by omega)
              · obtain rfl : j = 0 := by omega
                obtain ⟨ao, no, co, rfl⟩ := own_form hown
                have hB := (Chg.of_bel (lo := b) (hi := b+1) hB0).trans hg9
                have hDK2 := hDK.out
                have hTL2 := hTL.out
                clear hcell4 hbW4
                go_wp2_with fail
                go_ret
                exact ⟨ao, no, co, acc, k9, rfl, row_mono hown (by omega), ha1, by omega, fun hgs => (by have := hop9.out hgs [] (seq_nil ar); rwa [List.append_nil] at this), by omega, by omega, hc9, hB⟩
      · have hk1 : k ≤ k := Nat.le_refl _
        have hk2 : k ≤ k + 2 := by omega
        have hcW := hc1
        have hgW := Chg.refl b (b+1) (w.alloc (.cells #[.slice va ar.length vc] 30))
        go_wp2_with fail
        refine (pick_c b n k _ ar.length _ rfl hn (by omega) (by omega) hcW).mono ?_; rintro e w2 ⟨x, k2, rfl, hx, hk3, hk4, hc3, hg2⟩
        have hx6 : x < ar.length := by omega
        replace hgW := hgW.trans hg2
        replace hcW := hc3
        have hbW := hgW.cell (by simp) (by omega) hbox
        have hv2 := hv1.chg hgW (by omega)
        obtain ⟨sb, so, rfl, hsb, hcellA⟩ := hv2.at x hx6
        have hax := hag x
        have HOp := Lib.hid (open_sym (ar := ar) hx6)
        generalize ar.getD x 0 = a1 at *
        have hxl : (x : Int) < ar.length := by omega
        clear hc3 hg2
        by_cases ha0 : 0 < a1
        · by_cases hd0 : d = 0
          · have hdle : zd ≤ 1 := by have := HZ.out; omega
            go_wp2_with fail
            refine (pick_c b n k2 _ ar.length _ rfl hn (by omega) (by omega) hcW).mono ?_; rintro e w5 ⟨y, k5, rfl, hy, hk5, hk6, hc5, hg5⟩
            have hy6 : y / 2 < ar.length := by omega
            clear hcellA hbW hv2 hsb HOp
            clear hax
            replace hgW := hgW.trans hg5
            replace hcW := hc5
            have hbW := hgW.cell (by simp) (by omega) hbox
            have hv2 := hv1.chg hgW (by omega)
            obtain ⟨sb2, so2, e2, hsb, hcellA⟩ := hv2.at (y / 2) hy6
            simp only [Option.some.injEq, Addr.mk.injEq, and_true] at e2
            obtain ⟨rfl, rfl⟩ := e2
            have hax := hag (y / 2)
            have hyl : ((y : Int) / 2) < ar.length := by omega
            have hyt : ((y : Int) / 2).toNat = y / 2 := by omega
            have hy0 : 0 ≤ (y : Int) / 2 := by omega
            have hyc : (((y / 2 : Nat)) : Int) = (y : Int) / 2 := by omega
            have HOp := open_sym (ar := ar) hy6
            rw [hyc] at HOp
            replace HOp := Lib.hid HOp
            clear hc5 hg5
            generalize ar.getD (y / 2) 0 = a2 at *
            have hcellB := hcellA
            rw [← hyt] at hcellA
            clear hyt
            by_cases ha2 : 0 < a2
            · go_wp2_with fail
              go_ret
              have hB := (Chg.of_bel (lo := b) (hi := b+1) hB0).trans hgW
              exact ⟨_, 1, 1, [0], k5, rfl, row_mono (lit_row w5 0) (by have := hgW.size; simp at this; omega), by simp, by have := hTL.out; simp; omega, fun hgs => seq_zero hgs, by omega, by have := hDK.out; omega, hcW.below (Bel.alloc0 _ _), hB.trans (Chg.of_bel (Bel.alloc0 _ _))⟩
            · have ha2d : ¬ 0 < a2 := ha2
              have hq : (a2.toNat : Int) = a2 := by omega
              have hq3 : a2.toNat ≤ 3 := by omega
              have hszW := hgW.size
              simp only [World.size_alloc] at hszW
              have hbW4 := (Bel.alloc0 w5 (.cells #[.int .i64 ((y : Int) / 2)] 3)).at (by omega) hbW
              have hcell4 := (Bel.alloc0 w5 (.cells #[.int .i64 ((y : Int) / 2)] 3)).at hsb hcellA
              have hcell5 := (Bel.alloc0 w5 (.cells #[.int .i64 ((y : Int) / 2)] 3)).at hsb hcellB
              have hrow := row_mono (lit_row w5 ((y : Int) / 2)) (show w.heap.size + 1 ≤ w5.heap.size by omega)
              have hcW4 := hcW.below (Bel.alloc0 w5 (.cells #[.int .i64 ((y : Int) / 2)] 3))
              have hgW4 := hgW.trans (Chg.of_bel (Bel.alloc0 w5 (.cells #[.int .i64 ((y : Int) / 2)] 3)))
              have HR := Lib.hid (And.intro hrow (And.intro hcW4 (And.intro hgW4 HOp.out)))
              clear hrow hcW4 hgW4 hcW hgW HOp
              go_wp2_with fail
              go_loopw [10, 11] (fun vo i wr => ∃ (j : Nat) (acc : List Int) (k9 : Nat), j ≤ a2.toNat ∧ i = .int .i64 j ∧ wr.ownsRow (w.heap.size + 1) 3 1 vo acc.length (acc.map (Value.int .i64)) ∧ 1 ≤ acc.length ∧ acc.length ≤ 1 + (3 - j) * tl d ∧ k5 ≤ k9 ∧ k9 ≤ k5 + (3 - j) * dk d ∧ Cur b n k9 wr ∧ Chg b (b+1) (w.alloc (.cells #[.slice (some ⟨sb, so, none⟩) ar.length vc] 30)) wr ∧ Hid (goodSign ar = true → ∀ s, seqT ar j s → seqT ar 1 (acc ++ s))) (fun _ i _ => (intOf i).toNat)
              case atStart => exact ⟨a2.toNat, [(y : Int) / 2], k5, Nat.le_refl _, by rw [hq], HR.out.1, by simp, by simp, Nat.le_refl _, by omega, HR.out.2.1, HR.out.2.2.1, Lib.hid (fun _ s h => HR.out.2.2.2 s h)⟩
              case round =>
                obtain ⟨j, acc, k9, hj, rfl, hown, ha1, ha2, hk91, hk92, hc9, hg9, hop9⟩ := hrel
                have hsz9 := hg9.size
                simp only [World.size_alloc] at hsz9
                by_cases hj0 : 0 < j
                · exact absurd hj0 (by omega)
                · obtain rfl : j = 0 := by omega
                  obtain ⟨ao, no, co, rfl⟩ := own_form hown
                  have hB := (Chg.of_bel (lo := b) (hi := b+1) hB0).trans hg9
                  have hDK2 := hDK.out
                  have hTL2 := hTL.out
                  clear hcell4 hbW4
                  go_wp2_with fail
                  go_ret
                  exact ⟨ao, no, co, acc, k9, rfl, row_mono hown (by omega), ha1, by omega, fun hgs => (by have := hop9.out hgs [] (seq_nil ar); rwa [List.append_nil] at this), by omega, by omega, hc9, hB⟩
          · have hdle : ¬ zd ≤ 1 := by have := HZ.out; omega
            have hq : (a1.toNat : Int) = a1 := by omega
            have hq3 : a1.toNat ≤ 3 := by omega
            have hszW := hgW.size
            simp only [World.size_alloc] at hszW
            have hbW4 := (Bel.alloc0 w2 (.cells #[.int .i64 ((x : Int))] 3)).at (by omega) hbW
            have hcell4 := (Bel.alloc0 w2 (.cells #[.int .i64 ((x : Int))] 3)).at hsb hcellA
            have hrow := row_mono (lit_row w2 ((x : Int))) (show w.heap.size + 1 ≤ w2.heap.size by omega)
            have hcW4 := hcW.below (Bel.alloc0 w2 (.cells #[.int .i64 ((x : Int))] 3))
            have hgW4 := hgW.trans (Chg.of_bel (Bel.alloc0 w2 (.cells #[.int .i64 ((x : Int))] 3)))
            have HR := Lib.hid (And.intro hrow (And.intro hcW4 (And.intro hgW4 HOp.out)))
            clear hrow hcW4 hgW4 hcW hgW HOp
            go_wp2_with fail
            go_loopw [10, 11] (fun vo i wr => ∃ (j : Nat) (acc : List Int) (k9 : Nat), j ≤ a1.toNat ∧ i = .int .i64 j ∧ wr.ownsRow (w.heap.size + 1) 3 1 vo acc.length (acc.map (Value.int .i64)) ∧ 1 ≤ acc.length ∧ acc.length ≤ 1 + (3 - j) * tl d ∧ k2 ≤ k9 ∧ k9 ≤ k2 + (3 - j) * dk d ∧ Cur b n k9 wr ∧ Chg b (b+1) (w.alloc (.cells #[.slice (some ⟨sb, so, none⟩) ar.length vc] 30)) wr ∧ Hid (goodSign ar = true → ∀ s, seqT ar j s → seqT ar 1 (acc ++ s))) (fun _ i _ => (intOf i).toNat)
            case atStart => exact ⟨a1.toNat, [(x : Int)], k2, Nat.le_refl _, by rw [hq], HR.out.1, by simp, by simp, Nat.le_refl _, by omega, HR.out.2.1, HR.out.2.2.1, Lib.hid (fun _ s h => HR.out.2.2.2 s h)⟩
            case round =>
              obtain ⟨j, acc, k9, hj, rfl, hown, ha1, ha2, hk91, hk92, hc9, hg9, hop9⟩ := hrel
              have hsz9 := hg9.size
              simp only [World.size_alloc] at hsz9
              by_cases hj0 : 0 < j
              · have hd1 : 1 ≤ d := by omega
                have hbx9 := hg9.cell (by simp) (by omega) hbox
                have hv9 := hv1.chg hg9 (by omega)
                have hm1 : (3 - (j - 1)) * tl d = (3 - j) * tl d + tl d := by
                  have : 3 - (j - 1) = (3 - j) + 1 := by omega
                  rw [this, Nat.add_mul, Nat.one_mul]
                have hm2 : (3 - (j - 1)) * dk d = (3 - j) * dk d + dk d := by
                  have : 3 - (j - 1) = (3 - j) + 1 := by omega
                  rw [this, Nat.add_mul, Nat.one_mul]
                have hm3 : (3 - j) * dk d ≤ 3 * dk d := Nat.mul_le_mul_right _ (by omega)
                have hm4 : (3 - j) * tl d ≤ 3 * tl d := Nat.mul_le_mul_right _ (by omega)
                have hm5 : (3 - (j - 1)) * dk d ≤ 3 * dk d := Nat.mul_le_mul_right _ (by omega)
                have HT := ih hd1 (by omega) k9 vars lo hi _ ar wr hdr hblo hvars (by omega) hc9 hv9
                have hzd2 : zd - 1 = d := by have := HZ.out; omega
                rw [HZV.out] at HT
                replace HT := Lib.hid HT
                have hw75 := IntWalk.i64_in (zd - 1) (by omega)
                have hw70 := IntWalk.i64_in ((j : Int) - 1) (by omega)
                have HM := Lib.hid (And.intro hm1 (And.intro hm2 (And.intro hm3 hm4)))
                clear hm1 hm2 hm3 hm4 hm5 hcell4 hbW4
                go_wp2_with (first | (go_at_call 135; refine HT.out.mono ?_; rintro e w7 ⟨a7, m7, c7, t7, k7, rfl, hrow7, ht1, ht2, hseq7, hk71, hk72, hc7, hg7⟩; have hm7 : m7 = t7.length := row_len hrow7; subst hm7; have hown7 := row_chg hown (by omega) hg7; have hs7 := (OwnI.of_row hrow7).sl; obtain ⟨tb, tof, tc, e7, -⟩ := hs7.plain (by omega); cases e7; have hn7 := news_of_sl hs7; have hsz7 := hg7.size) | (at_builtin; refine wpList_append_own _ rfl _ _ 22 rfl (w.heap.size + 1) 3 i0 (.int .i64 0) 1 8 Try.underlying22 hi0 hz0' hz1 hz2 rfl (by decide) _ _ _ rfl hown7 _ t7.length _ (t7.map (Value.int .i64)) rfl (by simp) hn7 (ones_int _) (by unfold maxLen; have := HM.out.2.2.2; omega) (by have := HM.out.2.2.2; omega) (by omega) ?_; intro v' w8 hown' hgrow _))
                obtain ⟨hm1, hm2, hm3, hm4⟩ := HM.out
                have hg8 : Chg (w.heap.size + 1) w8.heap.size w7 w8 := ⟨hgrow.os, hgrow.tape, hgrow.output, hgrow.size, fun i hi ho => hgrow.block i hi (fun e => by have := own_base hown7 i e.symm; have := hgrow.size; omega)⟩
                have hown8 : w8.ownsRow (w.heap.size + 1) 3 1 v' (acc ++ t7).length ((acc ++ t7).map (Value.int .i64)) := by simpa using hown'
                have hop8 : Hid (goodSign ar = true → ∀ s, seqT ar (j - 1) s → seqT ar 1 ((acc ++ t7) ++ s)) := Lib.hid (fun hgs s hs => by
                  rw [List.append_assoc]
                  refine hop9.out hgs (t7 ++ s) ?_
                  have := seqT_append (hseq7 hgs) hs
                  rwa [show 1 + (j - 1) = j by omega] at this)
                go_roundw
                case rel => exact ⟨j - 1, acc ++ t7, k7, by omega, by go_num, hown8, by simp; omega, by rw [List.length_append, hm1]; omega, by omega, by rw [hm2]; omega, hc7.chg hg8 (by omega), (hg9.trans hg7).news hg8 (by simp), hop8⟩
                case measure => simp [intOf]; omega
              · obtain rfl : j = 0 := by omega
                obtain ⟨ao, no, co, rfl⟩ := own_form hown
                have hB := (Chg.of_bel (lo := b) (hi := b+1) hB0).trans hg9
                have hDK2 := hDK.out
                have hTL2 := hTL.out
                clear hcell4 hbW4
                go_wp2_with fail
                go_ret
                exact ⟨ao, no, co, acc, k9, rfl, row_mono hown (by omega), ha1, by omega, fun hgs => (by have := hop9.out hgs [] (seq_nil ar); rwa [List.append_nil] at this), by omega, by omega, hc9, hB⟩
        · have ha1d : ¬ 0 < a1 := ha0
          have hq : (a1.toNat : Int) = a1 := by omega
          have hq3 : a1.toNat ≤ 3 := by omega
          have hszW := hgW.size
          simp only [World.size_alloc] at hszW
          have hbW4 := (Bel.alloc0 w2 (.cells #[.int .i64 ((x : Int))] 3)).at (by omega) hbW
          have hcell4 := (Bel.alloc0 w2 (.cells #[.int .i64 ((x : Int))] 3)).at hsb hcellA
          have hrow := row_mono (lit_row w2 ((x : Int))) (show w.heap.size + 1 ≤ w2.heap.size by omega)
          have hcW4 := hcW.below (Bel.alloc0 w2 (.cells #[.int .i64 ((x : Int))] 3))
          have hgW4 := hgW.trans (Chg.of_bel (Bel.alloc0 w2 (.cells #[.int .i64 ((x : Int))] 3)))
          have HR := Lib.hid (And.intro hrow (And.intro hcW4 (And.intro hgW4 HOp.out)))
          clear hrow hcW4 hgW4 hcW hgW HOp
          go_wp2_with fail
          go_loopw [10, 11] (fun vo i wr => ∃ (j : Nat) (acc : List Int) (k9 : Nat), j ≤ a1.toNat ∧ i = .int .i64 j ∧ wr.ownsRow (w.heap.size + 1) 3 1 vo acc.length (acc.map (Value.int .i64)) ∧ 1 ≤ acc.length ∧ acc.length ≤ 1 + (3 - j) * tl d ∧ k2 ≤ k9 ∧ k9 ≤ k2 + (3 - j) * dk d ∧ Cur b n k9 wr ∧ Chg b (b+1) (w.alloc (.cells #[.slice (some ⟨sb, so, none⟩) ar.length vc] 30)) wr ∧ Hid (goodSign ar = true → ∀ s, seqT ar j s → seqT ar 1 (acc ++ s))) (fun _ i _ => (intOf i).toNat)
          case atStart => exact ⟨a1.toNat, [(x : Int)], k2, Nat.le_refl _, by rw [hq], HR.out.1, by simp, by simp, Nat.le_refl _, by omega, HR.out.2.1, HR.out.2.2.1, Lib.hid (fun _ s h => HR.out.2.2.2 s h)⟩
          case round =>
            obtain ⟨j, acc, k9, hj, rfl, hown, ha1, ha2, hk91, hk92, hc9, hg9, hop9⟩ := hrel
            have hsz9 := hg9.size
            simp only [World.size_alloc] at hsz9
            by_cases hj0 : 0 < j
            · exact absurd hj0 (by omega)
            · obtain rfl : j = 0 := by omega
              obtain ⟨ao, no, co, rfl⟩ := own_form hown
              have hB := (Chg.of_bel (lo := b) (hi := b+1) hB0).trans hg9
              have hDK2 := hDK.out
              have hTL2 := hTL.out
              clear hcell4 hbW4
              go_wp2_with fail
              go_ret
              exact ⟨ao, no, co, acc, k9, rfl, row_mono hown (by omega), ha1, by omega, fun hgs => (by have := hop9.out hgs [] (seq_nil ar); rwa [List.append_nil] at this), by omega, by omega, hc9, hB⟩
end Go.Proofs.Yteegjnobmbcjiaa
end
section
/- The draws: any term. -/
namespace Go.Proofs.Yteegjnobmbcjiaa
open Go.RowKit

set_option maxRecDepth 100000 in
set_option maxHeartbeats 400000 in
theorem among_c (b n k lo hi : Nat) (v : Value) (l : List Int) (w : World) (hn : n ≤ 1099511627776) (hk : k ≤ 1099511627775) (hl0 : 0 < l.length) (hl : l.length ≤ 200) (hblo : b < lo) (hc : Cur b n k w) (hv : SlI lo hi w v l) :
    Calls Try.prog 137 #[.pointer (some ⟨b, 0, none⟩), v] w (fun e w' => ∃ (z : Int) (k' : Nat), e = .returned (.int .i64 z) ∧ z ∈ l ∧ k ≤ k' ∧ k' ≤ k + 2 ∧ Cur b n k' w' ∧ Chg b (b+1) w w') := by
  obtain ⟨ad, cap, rfl⟩ := hv.form
  go_enter Try.func137, Try.ntmps137
  go_wp2_with (go_at_call 134; refine (pick_c b n k _ l.length w rfl hn hk (by omega) hc).mono ?_; rintro e w1 ⟨x, k1, rfl, hx, hk1, hk2, hc1, hg1⟩; obtain ⟨bb, off, e1, -, hcell⟩ := (hv.chg hg1 (by omega)).at x (by omega); cases e1; have hxl : (x : Int) < l.length := by omega)
  go_ret
  exact ⟨l.getD x 0, k1, rfl, by rw [show l.getD x 0 = l[x]'(by omega) from by simp [List.getD, show x < l.length by omega]]; exact List.getElem_mem _, hk1, hk2, hc1, hg1⟩
theorem term_z (b n : Nat) (deep vars k lo hi : Nat) (z y : Int) (v : Value) (ar : List Int) (w : World) (hz : z = deep) (hy : y = vars) (hn : n ≤ 1099511627776) (h1 : 1 ≤ deep) (h5 : deep ≤ 5) (hdr : drawn ar) (hblo : b < lo) (hvars : vars ≤ 12) (hk : k ≤ 500000000000) (hc : Cur b n k w) (hv : SlI lo hi w v ar) :
    Calls Try.prog 135 #[.pointer (some ⟨b, 0, none⟩), .agg #[v], .int .i64 z, .int .i64 y] w (RetTm ar b n k 4000 (tl deep) w) := by
  subst hz hy
  have hd := dk_le deep h5
  refine (term_c b n hn deep h1 h5 k vars lo hi v ar w hdr hblo hvars (by omega) hc hv).mono ?_
  rintro e w' ⟨ad, m, c, t, k', h⟩
  exact ⟨ad, m, c, t, k', h.1, h.2.1, h.2.2.1, h.2.2.2.1, h.2.2.2.2.1, h.2.2.2.2.2.1, by have := h.2.2.2.2.2.2.1; omega, h.2.2.2.2.2.2.2⟩
theorem row_off {w : World} {base e m n c g o : Nat} {xs : List Value} (h : w.ownsRow base e 1 (.slice (some ⟨g, o, none⟩) n c) m xs) : o = 0 := by
  rcases h.2 with ⟨e1, _⟩ | ⟨g', cap, cur, e1, _⟩
  · simp at e1
  · simp at e1; exact e1.1.2
/-- What anyTerm gives: of blocks that are new. -/
def RetA (b n k d : Nat) (w : World) (e : Ending) (w' : World) : Prop :=
  ∃ (ad : Option Addr) (c : Nat) (t : List Int) (k' : Nat), e = .returned (.slice ad t.length c) ∧ SlI w.heap.size w'.heap.size w' (.slice ad t.length c) t ∧ t.length ≤ 1000 ∧ k ≤ k' ∧ k' ≤ k + d ∧ Cur b n k' w' ∧ Chg b (b+1) w w'

set_option maxRecDepth 100000 in
set_option maxHeartbeats 1000000 in
theorem anyTerm_c (b n k lo hi : Nat) (v : Value) (ar : List Int) (w : World) (hn : n ≤ 1099511627776) (hk : k ≤ 1000000000) (hdr : drawn ar) (hblo : b < lo) (hc : Cur b n k w) (hv : SlI lo hi w v ar) :
    Calls Try.prog 88 #[.pointer (some ⟨b, 0, none⟩), .agg #[v]] w (RetA b n k 5000 w) := by
  have hbl := hc.lt
  have hc1 := hc.below (Bel.alloc0 w (.cells #[v] 30))
  have hv1 := hv.alloc (.cells #[v] 30)
  have hbox : (w.alloc (.cells #[v] 30)).cell? ⟨w.heap.size, 0, none⟩ = some v := by rw [World.cell?_alloc_new w]; rfl
  have HP := Lib.hid (fun w' (h : Bel (w.alloc (.cells #[v] 30)) w') => pick_c b n k 4 4 w' rfl hn (by omega) (by omega) (hc1.below h))
  have hbl1 : w.heap.size < (w.alloc (.cells #[v] 30)).heap.size := by simp
  go_enter Try.func88, Try.ntmps88
  go_wp2_with fail
  go_region_held3 (fun w' => w'.cell? ⟨w.heap.size, 0, none⟩ = some v)
    (first | exact hbox | exact hbx2 | exact hbx3 | fail)
    (first
      | (go_at_call 134; refine (HP.out _ (Bel.drew0 _)).mono ?_; rintro e w2 ⟨x, k1, rfl, hx, hk1, hk2, hc2, hg2⟩; replace hg2 := (Chg.of_bel (lo := b) (hi := b+1) (Bel.drew0 _)).trans hg2; have hbx2 : w2.cell? ⟨w.heap.size, 0, none⟩ = some v := hg2.cell (by simp) (by omega) hbox; have hw10 := IntWalk.i64_in (1 + (x : Int)) (by omega))
      | (go_at_call 135; clear hw10; refine (term_z b n (1 + x) 3 k1 lo hi _ 3 v ar w2 (by omega) rfl hn (by omega) (by omega) hdr hblo (by omega) (by omega) hc2 (hv1.chg hg2 (by omega))).mono ?_; rintro e w3 ⟨a3, m3, c3, t3, k3, rfl, hrow3, ht1, ht2, -, hk3, hk4, hc3, hg3⟩; have hbx3 : w3.cell? ⟨w.heap.size, 0, none⟩ = some v := hg3.cell (Nat.lt_of_lt_of_le hbl1 hg2.size) (by omega) hbx2)
      | fail)
  have hsz3 : w.heap.size + 1 ≤ w3.heap.size := by have := hbl1; have := hg2.size; have := hg3.size; exact Nat.le_trans hbl1 (Nat.le_trans hg2.size hg3.size)
  have hgA : Chg b (b+1) w w3 := ((Chg.of_bel (lo := b) (hi := b+1) (Bel.alloc0 w (.cells #[v] 30))).trans hg2).trans hg3
  have hgB := hg2
  have hsz23 : w2.heap.size ≤ w3.heap.size := hg3.size
  clear hbx2 hbx3 hg2 hg3 hc2 HP
  have hm3 := row_len hrow3
  subst hm3
  obtain ⟨i0, hi0, hz0', hz1, hz2⟩ := info_parts Try.info3
  have hsz2 : w.heap.size + 1 ≤ w2.heap.size := Nat.le_trans hbl1 hgB.size
  clear hgB
  have htl := tl_le (1 + x) (by omega)
  have HH := Lib.hid (pick_c b n k3 40 40 w3 rfl hn (by omega) (by omega) hc3)
  go_wp2_with fail
  refine HH.out.mono ?_; rintro e w4 ⟨y, k4, rfl, hy, hk5, hk6, hc4, hg4⟩
  have hrow4 := row_chg hrow3 (by omega) hg4
  have hsz4 : w3.heap.size ≤ w4.heap.size := hg4.size
  have hgW := hgA.trans hg4
  obtain ⟨tb, toff, tc, e3, hcap3⟩ := (OwnI.of_row hrow4).sl.plain (by omega)
  cases e3
  clear hc3 hg4 hrow3 HH
  generalize hzy : (y : Int) = z
  have hz0 : 0 ≤ z := by omega
  clear hzy hy
  have hcase : z = 0 ∨ z = 1 ∨ z = 2 ∨ 2 < z := by omega
  rcases hcase with rfl | rfl | rfl | hz3
  · go_wp2_with (at_builtin; refine wpList_append_own _ rfl _ _ 22 rfl w2.heap.size 3 i0 (.int .i64 0) 1 8 Try.underlying22 hi0 hz0' hz1 hz2 rfl (by decide) _ _ _ rfl (hrow4.alloc _) ⟨w4.heap.size, 0, none⟩ 1 1 [.int .i64 1] rfl rfl (news_one _ _ _) (one_int _) (by unfold maxLen; first | omega | (simp; omega)) (by first | omega | (simp; omega)) (by first | omega | (simp; omega)) ?_; intro v' w5 hown' hgrow _)
    have hown5 : w5.ownsRow w2.heap.size 3 1 v' (t3 ++ [1]).length ((t3 ++ [1]).map (Value.int .i64)) := by simpa using hown'
    obtain ⟨ao, no, co, rfl⟩ := own_form hown5
    have hno := row_len hown5
    subst hno
    have hg5 : Chg w2.heap.size (w5.heap.size + 1) (w4.alloc (.cells #[.int .i64 1] 3)) w5 := ⟨hgrow.os, hgrow.tape, hgrow.output, hgrow.size, fun i hi ho => hgrow.block i hi (fun e => by have := own_base hrow4 i e.symm; have := hgrow.size; simp at hi this; omega)⟩
    have hg6 := (Chg.of_bel (lo := w2.heap.size) (hi := w5.heap.size + 1) (Bel.alloc0 w4 (.cells #[.int .i64 1] 3))).trans hg5
    go_ret
    exact ⟨ao, co, t3 ++ [1], k4, rfl, (OwnI.of_row hown5).sl.mono (by omega) (Nat.le_refl _), by simp; omega, by omega, by omega, hc4.chg hg6 (by omega), hgW.news hg6 (by omega)⟩
  · have hB2 := Bel.alloc0 w4 (.cells #[.int .i64 (-13), .int .i64 (-12), .int .i64 10, .int .i64 9] 3)
    have hS2 : SlI w4.heap.size (w4.heap.size + 1) (w4.alloc (.cells #[.int .i64 (-13), .int .i64 (-12), .int .i64 10, .int .i64 9] 3)) (.slice (some ⟨w4.heap.size, 0, none⟩) 4 4) [-13, -12, 10, 9] := SlI.arr (xs := [-13, -12, 10, 9]) rfl rfl (by decide) (Nat.le_refl _) (Nat.lt_succ_self _)
    have hc5 := hc4.below hB2
    have hrow5 := ownsRow_bel hrow4 hB2
    have hbl4 := hc4.lt
    have HA := Lib.hid (among_c b n k4 _ _ _ [-13, -12, 10, 9] _ hn (by omega) (by decide) (by decide) (by omega) hc5 hS2)
    go_wp2_with fail
    refine HA.out.mono ?_; rintro e w5 ⟨zq, k5, rfl, -, hk7, hk8, hc6, hg6⟩
    have hrow6 := row_chg hrow5 (by omega) hg6
    have ht0 := row_off hrow6
    subst ht0
    obtain ⟨tb2, to2, e4, -, hcell6⟩ := (OwnI.of_row hrow6).sl.at 0 (by omega)
    cases e4
    have hf6 := hrow6.frozenAt 0
    have htb : w2.heap.size ≤ tb := own_base hrow6 tb rfl
    have hst := (hrow6.stored 0 (.int .i64 zq)).1
    rw [show (t3.map (Value.int .i64)).set 0 (.int .i64 zq) = (t3.set 0 zq).map (Value.int .i64) from by rw [List.map_set], show t3.length = (t3.set 0 zq).length from by rw [List.length_set]] at hst
    have hlen : (t3.set 0 zq).length = t3.length := List.length_set
    have hgn := hgW.news ((Chg.of_bel (lo := w4.heap.size) (hi := w4.heap.size) hB2)) (by omega)
    have hgs := Chg.set (lo := w2.heap.size) (hi := w5.heap.size + tb + 1) (p := ⟨tb, 0, none⟩) w5 htb (by simp; omega) (.int .i64 zq)
    have hcF := hc6.chg hgs (by omega)
    have hgF := (hgn.trans hg6).news hgs (by omega)
    clear hrow4 hrow5 hB2 hS2 hc4 hc5 HA hgn
    go_wp2_with fail
    go_ret
    exact ⟨_, c3, t3.set 0 zq, k5, by rw [hlen]; rfl, by rw [hlen]; rw [hlen] at hst; exact ((OwnI.of_row (by rw [hlen]; exact hst)).sl).mono (by omega) (Nat.le_refl _), by rw [hlen]; omega, by omega, by omega, hcF, hgF⟩
  · have hsl := (OwnI.of_row hrow4).sl
    by_cases hc1 : c3 = 1
    · subst hc1
      go_wp2_with fail
      go_ret
      have h0 : t3.length - 1 = 0 := by omega
      exact ⟨some ⟨tb, toff, none⟩, 0, [], k4, by first | rfl | (rw [h0]; rfl), ⟨_, 0, rfl, Nat.le_refl _, ⟨Nat.zero_le _, fun h => by simp at h⟩, fun h => absurd h (by simp)⟩, by simp, by omega, by omega, hc4, hgW⟩
    · have hcut := hsl.cut 1 t3.length (by omega) (Nat.le_refl _)
      have hle : ((t3.drop 1).take (t3.length - 1)).length = t3.length - 1 := by simp
      have hc2 : (1 : Int) < c3 := by omega
      go_wp2_with fail
      go_ret
      exact ⟨some ⟨tb, toff + 1, none⟩, c3 - 1, (t3.drop 1).take (t3.length - 1), k4, by rw [hle]; rfl, by rw [hle]; exact hcut.mono (by omega) (Nat.le_refl _), by rw [hle]; omega, by omega, by omega, hc4, hgW⟩
  · have e0 : (z == 0) = false := by rw [beq_eq_false_iff_ne]; omega
    have e1 : (z == 1) = false := by rw [beq_eq_false_iff_ne]; omega
    have e2 : (z == 2) = false := by rw [beq_eq_false_iff_ne]; omega
    go_wp2_with fail
    go_ret
    exact ⟨_, c3, t3, k4, rfl, (OwnI.of_row hrow4).sl.mono (by omega) (Nat.le_refl _), by omega, by omega, by omega, hc4, hgW⟩
end Go.Proofs.Yteegjnobmbcjiaa
end
section
/- The draws: arguments of functions of chapter 1. -/
namespace Go.Proofs.Yteegjnobmbcjiaa
open Go.RowKit

/-- A cursor at its beginning. -/
theorem Cur.new {w : World} {v : Value} {n : Nat} {T : TypeId} (h : SlB w.heap.size w v n) : Cur w.heap.size n 0 (w.alloc (.cells #[v, .int .i64 0, .int .u64 0] T)) := by
  refine ⟨v, 0, by simp, h.chg (Chg.of_bel (lo := w.heap.size) (hi := w.heap.size) (Bel.alloc0 _ _)) (Nat.le_refl _), ?_, ?_, ?_, fun j => by simp [go_sem]; try rfl⟩
  · rw [World.cell?_alloc_new w]; rfl
  · rw [World.cell?_alloc_new w]; rfl
  · rw [World.cell?_alloc_new w]; rfl

def RetDR (w : World) (e : Ending) (w' : World) : Prop :=
  ∃ (sv tv uv : Value) (ar t u : List Int) (z : Int), e = .returned (.tuple #[.agg #[sv], tv, .int .i64 z, uv]) ∧ drawn ar ∧ SlI w.heap.size w'.heap.size w' sv ar ∧ SlI w.heap.size w'.heap.size w' tv t ∧ t.length ≤ 1000 ∧ -1 ≤ z ∧ z ≤ 1000 ∧ SlI w.heap.size w'.heap.size w' uv u ∧ u.length ≤ 1000 ∧ Bel w w'
def RetDC (w : World) (e : Ending) (w' : World) : Prop :=
  ∃ (sv tv : Value) (ar t : List Int) (z : Int), e = .returned (.tuple #[.agg #[sv], tv, .int .i64 z]) ∧ drawn ar ∧ SlI w.heap.size w'.heap.size w' sv ar ∧ SlI w.heap.size w'.heap.size w' tv t ∧ t.length ≤ 1000 ∧ -1000 ≤ z ∧ z ≤ 1000 ∧ Bel w w'
end Go.Proofs.Yteegjnobmbcjiaa
end
section
/- Contracts with the answers named. -/
namespace Go.Proofs.Yteegjnobmbcjiaa
open Go.RowKit

theorem SlB.bel {w w' : World} {v : Value} {n : Nat} (h : SlB w.heap.size w v n) (hb : Bel w w') : SlB w'.heap.size w' v n := by
  obtain ⟨ad, cap, e, hc, hr⟩ := h.chg (Chg.of_bel (lo := w.heap.size) (hi := w.heap.size) hb) (Nat.le_refl _)
  exact ⟨ad, cap, e, hc, fun hp => by obtain ⟨b, off, e1, e2, e3⟩ := hr hp; exact ⟨b, off, e1, Nat.lt_of_lt_of_le e2 hb.size, e3⟩⟩
theorem slI_n {lo hi : Nat} {w : World} {ad : Option Addr} {n c : Nat} {xs : List Int} (h : SlI lo hi w (.slice ad n c) xs) : n = xs.length := by
  obtain ⟨ad', c', e⟩ := h.form
  simp only [Value.slice.injEq] at e
  exact e.2.1
theorem SlB.form {hi : Nat} {w : World} {v : Value} {n : Nat} (h : SlB hi w v n) : ∃ a c, v = .slice a n c := by obtain ⟨a, c, e, _⟩ := h; exact ⟨a, c, e⟩
end Go.Proofs.Yteegjnobmbcjiaa
end
