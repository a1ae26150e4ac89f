/- A map of bindings as a substitution. -/
import Derived.Test.YtikllmdmifecpaaMapVars
import Derived.Test.YtikllmdmifecpaaRen3
import Derived.Test.YtikllmdmifecpaaSame
namespace Go.Proofs.Ytikllmdmifecpaa
open Go.RowKit Go.Maps

/-- A slice does not lie in a map's block. -/
theorem SlI.chgMap {lo hi : Nat} {w w' : World} {v : Value} {xs : List Int} {b m : Nat} {f : Nat → Option Value} (h : SlI lo hi w v xs) (hM : MapV w b m f) (k : Chg b (b+1) w w') : SlI lo hi w' v xs := by
  obtain ⟨ad, cap, rfl, hc, hm, hr⟩ := h
  refine ⟨ad, cap, rfl, hc, hm, fun hp => ?_⟩
  obtain ⟨b0, off, e, a1, a2, a3⟩ := hr hp
  have hne : b0 ≠ b := by
    intro e0
    subst e0
    obtain ⟨n, D, _, ⟨es, clock, hb, _⟩, _⟩ := hM
    have := a3 0 hp
    simp [World.cell?, hb] at this
  exact ⟨b0, off, e, a1, a2, fun j hj => k.cell (World.block_lt_of_cell? w ⟨b0, off + j, none⟩ (a3 j hj)) (by omega) (a3 j hj)⟩
theorem MapV.row_ne {w : World} {b m : Nat} {f : Nat → Option Value} (h : MapV w b m f) {base : Nat} {tag : Nat → Nat} {t : Nat} {e : TypeId} {v : Value} {xs : List Value} (ho : OwnT base tag t e w v xs) (hb : b < base) : some b ≠ v.ownBlock := by
  intro e
  have := own_base ho.1 b e.symm
  omega
theorem OwnT.chgMap {w w' : World} {b : Nat} {base : Nat} {tag : Nat → Nat} {t : Nat} {e : TypeId} {v : Value} {xs : List Value} (ho : OwnT base tag t e w v xs) (hb : b < base) (k : Chg b (b+1) w w') : OwnT base tag t e w' v xs := by
  refine ⟨⟨ho.1.1, ?_⟩, ho.2⟩
  rcases ho.1.2 with h0 | ⟨g, cap, cur, e1, e2, hh, r⟩
  · exact .inl h0
  · exact .inr ⟨g, cap, cur, e1, e2, by rw [k.block g (Array.getElem?_eq_some_iff.1 hh).1 (by omega)]; exact hh, r⟩
theorem chg_of_grown {w w' : World} {b : Nat} (h : w.grownBy w' (some b)) : Chg b (b+1) w w' := ⟨h.os, h.tape, h.output, h.size, fun k hk ho => h.block k hk (by simp; omega)⟩
/-- A new row at index v, where there was none. -/
theorem InT.put {base : Nat} {tag tag' : Nat → Nat} {ei : TypeId} {w w' : World} {us : List Value} {xss : List (List Int)} {u : Value} {xs : List Int} (h : InT base tag ei w us xss) (v : Nat) (hv : v < us.length)
    (hall : ∀ t' e' u zs, OwnT base tag t' e' w u zs → OwnT base tag' t' e' w' u zs) (hu : OwnT base tag' (10 + v) ei w' u (xs.map (Value.int .i64))) : InT base tag' ei w' (us.set v u) (xss.set v xs) := by
  refine ⟨by simp [h.1], fun j x hj => ?_⟩
  by_cases e : j = v
  · subst e
    rw [List.getElem?_set_self hv] at hj
    simp at hj
    subst hj
    rw [show (xss.set j xs).getD j [] = xs from by simp [List.getD, show j < xss.length by rw [← h.1]; exact hv]]
    exact hu
  · rw [List.getElem?_set_ne (Ne.symm e)] at hj
    rw [show (xss.set v xs).getD j [] = xss.getD j [] from by simp [List.getD, List.getElem?_set_ne (Ne.symm e)]]
    exact hall _ _ _ _ (h.2 j x hj)

theorem getD_rep (n j : Nat) : (List.replicate n ([] : List Int)).getD j [] = [] := by simp only [List.getD, List.getElem?_replicate]; split <;> rfl
theorem Chg.setNew {lo hi : Nat} {w w' : World} (h : Chg lo hi w w') {p : Addr} (hp : w.heap.size ≤ p.block) (u : Value) : Chg lo hi w (w'.setCell p u) :=
  ⟨h.os, h.tape, h.output, by simpa using h.size, fun b hb ho => (Below.heap_setCell w' p u b (by omega)).trans (h.block b hb ho)⟩
theorem MapV.set {w : World} {b m : Nat} {f : Nat → Option Value} (h : MapV w b m f) {p : Addr} (hp : b ≠ p.block) (u : Value) : MapV (w.setCell p u) b m f := by
  obtain ⟨n, D, hn, ho, hk⟩ := h
  exact ⟨n, D, hn, ho.setCell hp u, hk⟩
theorem SlI.lit {w : World} (x : Int) (T : TypeId) : SlI w.heap.size (w.heap.size + 1) (w.alloc (.cells #[.int .i64 x] T)) (.slice (some ⟨w.heap.size, 0, none⟩) 1 1) [x] := by
  refine ⟨_, 1, rfl, Nat.le_refl _, ⟨by unfold maxLen; omega, fun h => by simp at h⟩, fun _ => ⟨w.heap.size, 0, rfl, Nat.le_refl _, Nat.lt_succ_self _, fun j hj => ?_⟩⟩
  obtain rfl : j = 0 := by simp at hj; omega
  rw [World.cell?_alloc_new w]; rfl
/-- What a substitution holds for v. -/
def stayF (F : Nat → List Int) (v : Nat) : List Int := if F v = [-1 - (v : Int)] then [] else F v
def substL (F : Nat → List Int) : List (List Int) := (List.range 12).map (stayF F)
/-- .. after some of the variables. -/
def partL (F : Nat → List Int) (ys : List Int) : List (List Int) := (List.range 12).map fun (v : Nat) => if (v : Int) ∈ ys then stayF F v else []
theorem partL_nil (F : Nat → List Int) : partL F [] = List.replicate 12 [] := by simp [partL, List.range_succ, List.replicate]
theorem partL_len (F : Nat → List Int) (ys : List Int) : (partL F ys).length = 12 := by simp [partL]
theorem partL_snoc (F : Nat → List Int) (ys : List Int) (v : Nat) (hv : v < 12) : (partL F ys).set v (stayF F v) = partL F (ys ++ [(v : Int)]) := by
  apply List.ext_getElem?
  intro i
  rw [List.getElem?_set]
  unfold partL
  by_cases e : v = i
  · subst e; simp [hv]
  · by_cases hi : i < 12
    · have h1 : (List.range 12)[i]? = some i := by simp [hi]
      have e2 : ¬ (i : Int) = (v : Int) := by omega
      rw [if_neg e, List.getElem?_map, List.getElem?_map, h1]
      simp only [Option.map_some, List.mem_append, List.mem_singleton, e2, or_false]
    · rw [if_neg e, List.getElem?_eq_none (by simp; omega), List.getElem?_eq_none (by simp; omega)]
theorem partL_all (F : Nat → List Int) (ys : List Int) (h : ∀ v : Nat, v < 12 → (v : Int) ∉ ys → F v = []) : partL F ys = substL F := by
  unfold partL substL
  apply List.map_congr_left
  intro v hv
  rw [List.mem_range] at hv
  by_cases hm : (v : Int) ∈ ys
  · rw [if_pos hm]
  · rw [if_neg hm]; unfold stayF; rw [h v hv hm]; simp
def RetSub (F : Nat → List Int) (b : Nat) (w : World) (e : Ending) (w' : World) : Prop :=
  ∃ ad n c, e = .returned (.slice ad n c) ∧ OwnS w.heap.size w'.heap.size w' (.slice ad n c) (substL F) ∧ Chg b (b+1) w w'

set_option maxRecDepth 100000 in
set_option maxHeartbeats 1000000 in
theorem subst_c (b m : Nat) (f : Nat → Option Value) (F : Nat → List Int) (w : World) (hM : MapV w b m f) (hF : ∀ v, v < 12 → (F v).length ≤ 1048576 ∧ ∃ lo hi, SlI lo hi w ((f v).getD (.slice none 0 0)) (F v)) :
    Calls Try.prog 76 #[.map (some b)] w (RetSub F b w) := by
  obtain ⟨i0, hi, hz0, hz1, hz2⟩ := info_parts Try.info22
  have hbl := hM.lt
  go_enter Try.func76, Try.ntmps76
  go_wp2_with (at_make; refine wpList_make_full _ rfl _ _ 26 rfl w.heap.size 22 i0 (.slice none 0 0) 1 Try.underlying26 hi hz0 hz1 _ _ _ _ 12 rfl rfl rfl rfl (by rw [hz2]; omega) (by unfold maxLen; omega) (Nat.le_refl _) ?_; intro w1 hown hg)
  have hb0 : Bel w w1 := (Bel.rfl' w).grown hg (by simp)
  have hO1 : OwnT w.heap.size (fun _ => 2) 2 22 w1 (.slice (some ⟨w.heap.size, 0, none⟩) 12 12) (List.replicate 12 (Value.slice none 0 0)) := by
    refine ⟨?_, fun _ _ => rfl⟩
    have hz3 : (madeCells (Value.slice none 0 0).cells (12 * 1)).toList = List.replicate 12 (Value.slice none 0 0) := by
      rw [Nat.mul_one]; show (madeCells #[_] _).toList = _; rw [toList_madeCells_one]
    rw [hz3] at hown
    simpa using hown
  have hs1 : w.heap.size < w1.heap.size := hO1.lt rfl
  clear hown hg
  refine (vars_c b m f w1 (hM.bel hb0)).mono ?_; rintro e w2 ⟨ay, ny, cy, ys, rfl, hY, hy12, hnd, hyv, hys, hb1⟩
  have hny : ny = ys.length := by obtain ⟨ad, c, e, _⟩ := hY.sl; simp at e; exact e.2.1
  subst hny
  have hsw := (hb0.step hb1).size
  have hI0 : InT w.heap.size (fun _ => 2) 3 w2 (List.replicate 12 (Value.slice none 0 0)) (partL F []) := by
    rw [partL_nil]
    refine ⟨by simp, fun j u hj => ?_⟩
    have hlt := (List.getElem?_eq_some_iff.1 hj).1
    rw [List.getElem?_replicate, if_pos (by simpa using hlt)] at hj
    simp at hj
    subst hj
    rw [getD_rep]
    exact OwnT.nil _ _ _ _ _
  go_wp2_with fail
  go_loopw [10] (fun i wr => ∃ (k : Nat) (tag : Nat → Nat) (us : List Value) (f' : Nat → Option Value), k ≤ ys.length ∧ i = .int .i64 k ∧ us.length = 12 ∧ OwnT w.heap.size tag 2 22 wr (.slice (some ⟨w.heap.size, 0, none⟩) 12 12) us ∧ InT w.heap.size tag 3 wr us (partL F (ys.take k)) ∧
      MapV wr b m f' ∧ (∀ v : Nat, v < 12 → (v : Int) ∉ ys.take k → f' v = f v) ∧ Chg b (b+1) w wr ∧ SlI w1.heap.size w2.heap.size wr (.slice ay ys.length cy) ys ∧ w2.heap.size ≤ wr.heap.size) (fun i _ => ys.length - (intOf i).toNat)
  case atStart => exact ⟨0, _, _, f, Nat.zero_le _, rfl, by simp, hO1.bel hb1, by rw [List.take_zero]; exact hI0, (hM.bel hb0).bel hb1, fun _ _ _ => rfl, Chg.of_bel (hb0.step hb1), hY.sl, Nat.le_refl _⟩
  case round =>
    clear hO1 hI0
    obtain ⟨k, tag, us, f', hk, rfl, hul, hO, hI, hMw, hf', hch, hYw, hsz⟩ := hrel
    by_cases hlt : k < ys.length
    · obtain ⟨by_, offy, rfl, hbyl, hcy⟩ := hYw.at k hlt
      obtain ⟨v, hv12, hyk⟩ := hyv (ys.getD k 0) (by simp [List.getD, hlt])
      have hnot : (v : Int) ∉ ys.take k := by
        rw [← hyk]
        intro hm
        have hmd : ys.getD k 0 ∈ ys.drop k := by rw [List.drop_eq_getElem_cons hlt, show ys.getD k 0 = ys[k] from by simp [List.getD, hlt]]; exact List.mem_cons_self
        have h1 := hnd
        rw [← List.take_append_drop k ys, List.nodup_append] at h1
        exact h1.2.2 _ hm _ hmd rfl
      have htk : ys.take (k+1) = ys.take k ++ [(v : Int)] := by
        rw [List.take_succ_eq_append_getElem hlt]
        have : ys[k] = v := by simpa [List.getD, hlt] using hyk
        rw [this]
      rw [hyk] at hcy
      have hfv := hf' v hv12 hnot
      obtain ⟨hFl, lo, hi2, hFs⟩ := hF v hv12
      have hFw := hFs.chgMap hM hch
      have hlook := hMw.look hv12
      rw [hfv] at hlook
      generalize hU : (f v).getD (.slice none 0 0) = U at *
      obtain ⟨au, cu, rfl⟩ := hFw.form
      have hw18 := IntWalk.i64_in (-1 - (v : Int)) (by omega)
      have hset := partL_snoc F (ys.take k) v hv12
      rw [← htk] at hset
      have hvl : (v : Int) < 12 := by omega
      by_cases hEq : F v = [-1 - (v : Int)]
      · have hst0 : stayF F v = [] := by unfold stayF; rw [if_pos hEq]
        have hdec : decide (F v = [-1 - (v : Int)]) = true := by simpa using hEq
        have HS := Lib.hid (And.intro hset (And.intro hst0 (And.intro hEq hf')))
        clear hset hst0 hEq hf'
        go_wp2_with fail
        refine (slEqual_v _ _ _ _ _ _ (F v) [-1 - (v : Int)] true _ hdec hFl (by simp) (hFw.alloc _) (SlI.lit _ _)).mono ?_; rintro e w3 ⟨rfl, hb3⟩
        obtain ⟨n4, D4, hn4, hown4, hK4⟩ := hMw.bel hb3.of_alloc
        go_wp2_with (at_delete; refine wpList_delete_own _ rfl _ _ 88 3 rfl 22 keyInt Try.underlying88 _ b n4 D4 rfl hown4 _ _ rfl (kv_key hv12) ?_; intro w4 hown5 hturn; have hM4 : MapV w4 b m (fun i => if i = v then none else f' i) := ⟨n4, _, hn4, hown5, hK4.del v⟩; have hlk4 : (Instr.lookup 88 (.map (some b)) (.int .i64 (v : Int)) false).run Try.prog w4 = .ok (.slice none 0 0) w4 := (by have := hM4.look hv12; simpa using this))
        have hch4 := chg_of_grown hturn.grown
        have hO4 := ((hO.alloc _).bel hb3).chgMap hbl hch4
        have hI4 : InT w.heap.size tag 3 w4 us (partL F (ys.take k)) := ⟨hI.1, fun j u hj => (((hI.2 j u hj).alloc _).bel hb3).chgMap hbl hch4⟩
        have hc4 := (hch.trans (Chg.of_bel hb3.of_alloc)).trans hch4
        have hY4 := (hYw.below hb3.of_alloc).chgMap (hMw.bel hb3.of_alloc) hch4
        have hz4 : w.heap.size ≤ w4.heap.size := by have h1 := hb3.of_alloc.size; have h2 := hch4.size; omega
        have hz5 : w2.heap.size ≤ w4.heap.size := by have h1 := hb3.of_alloc.size; have h2 := hch4.size; omega
        have hF4 : ∀ u : Nat, u < 12 → (u : Int) ∉ ys.take (k+1) → (if u = v then none else f' u) = f u := by
          intro u hu hn
          rw [htk] at hn
          have h1 : (u : Int) ∉ ys.take k := fun h => hn (List.mem_append_left _ h)
          have h2 : u ≠ v := fun h => hn (by rw [h]; simp)
          rw [if_neg h2]; exact HS.out.2.2.2 u hu h1
        have hset := HS.out.1
        refine (clone_r _ _ _ [] _ (by simp) (SlI.nil 0 0 _)).mono ?_; rintro e w5 ⟨ax, nx, cx, rfl, hX0, hb5⟩
        obtain ⟨tag', hX, hT⟩ := tag_new (tag := tag) (base := w.heap.size) (t := 10 + v) (xs := ([] : List Int).map (Value.int .i64)) (by simpa using hX0) hb5 hz4
        have hO5 := hT _ _ _ _ hO4
        have hI5 := hI4.put v (by omega) hT hX
        have hO5r := hO5.1
        rw [hul] at hO5r
        have hcell5 := hO5r.cellAt v (by omega)
        rw [List.getElem?_eq_getElem (by omega)] at hcell5
        have hfr5 := hO5r.frozenAt v
        go_wp2_with fail
        have hst := tag_store hO5 v (.slice ax nx cx)
        have hI6 := hI5.step (by omega) hst.2
        have hM6 := (hM4.bel hb5).set (p := ⟨w.heap.size, v, none⟩) (by simp; omega) (.slice ax nx cx)
        have hc6 := (hc4.trans (Chg.of_bel hb5)).setNew (p := ⟨w.heap.size, v, none⟩) (Nat.le_refl _) (.slice ax nx cx)
        have hY6 := (hY4.below hb5).set (p := ⟨w.heap.size, v, none⟩) (.inl hs1) (.slice ax nx cx)
        have hz6 := hb5.size
        go_roundw
        case rel => exact ⟨k+1, tag', us.set v (.slice ax nx cx), _, by omega, by go_num, by simpa using hul, hst.1, by rw [← hset]; rw [HS.out.2.1]; exact hI6, hM6, hF4, hc6, hY6, by simp; omega⟩
        case measure => simp [intOf]; omega
      · have hst0 : stayF F v = F v := by unfold stayF; rw [if_neg hEq]
        have hdec : decide (F v = [-1 - (v : Int)]) = false := by simpa using hEq
        have HS := Lib.hid (And.intro hset (And.intro hst0 (And.intro hEq hf')))
        clear hset hst0 hEq hf'
        go_wp2_with fail
        refine (slEqual_v _ _ _ _ _ _ (F v) [-1 - (v : Int)] false _ hdec hFl (by simp) (hFw.alloc _) (SlI.lit _ _)).mono ?_
        rintro e w4 ⟨rfl, hb3⟩
        have hM4 := hMw.bel hb3.of_alloc
        have hlk4 := hM4.look hv12
        rw [hfv, hU] at hlk4
        have hO4 := (hO.alloc _).bel hb3
        have hI4 := (hI.bel (Bel.alloc0 _ _)).bel hb3
        have hc4 := hch.trans (Chg.of_bel hb3.of_alloc)
        have hY4 := hYw.below hb3.of_alloc
        have hz4 : w.heap.size ≤ w4.heap.size := (by have h1 := hb3.of_alloc.size; omega)
        have hz5 : w2.heap.size ≤ w4.heap.size := (by have h1 := hb3.of_alloc.size; omega)
        go_wp2_with fail
        have hF4 : ∀ u : Nat, u < 12 → (u : Int) ∉ ys.take (k+1) → f' u = f u := by
          intro u hu hn
          rw [htk] at hn
          exact HS.out.2.2.2 u hu (fun h => hn (List.mem_append_left _ h))
        have hset := HS.out.1
        refine (clone_r _ _ _ (F v) _ hFl (hFw.below hb3.of_alloc)).mono ?_; rintro e w5 ⟨ax, nx, cx, rfl, hX0, hb5⟩
        obtain ⟨tag', hX, hT⟩ := tag_new (tag := tag) (base := w.heap.size) (t := 10 + v) (xs := (F v).map (Value.int .i64)) (by simpa using hX0) hb5 hz4
        have hO5 := hT _ _ _ _ hO4
        have hI5 := hI4.put v (by omega) hT hX
        have hO5r := hO5.1
        rw [hul] at hO5r
        have hcell5 := hO5r.cellAt v (by omega)
        rw [List.getElem?_eq_getElem (by omega)] at hcell5
        have hfr5 := hO5r.frozenAt v
        go_wp2_with fail
        have hst := tag_store hO5 v (.slice ax nx cx)
        have hI6 := hI5.step (by omega) hst.2
        have hM6 := (hM4.bel hb5).set (p := ⟨w.heap.size, v, none⟩) (by simp; omega) (.slice ax nx cx)
        have hc6 := (hc4.trans (Chg.of_bel hb5)).setNew (p := ⟨w.heap.size, v, none⟩) (Nat.le_refl _) (.slice ax nx cx)
        have hY6 := (hY4.below hb5).set (p := ⟨w.heap.size, v, none⟩) (.inl hs1) (.slice ax nx cx)
        have hz6 := hb5.size
        go_roundw
        case rel => exact ⟨k+1, tag', us.set v (.slice ax nx cx), _, by omega, by go_num, by simpa using hul, hst.1, by rw [← hset]; rw [HS.out.2.1]; exact hI6, hM6, hF4, hc6, hY6, by simp; omega⟩
        case measure => simp [intOf]; omega
    · have hys2 : ∀ v : Nat, v < 12 → (v : Int) ∉ ys → F v = [] := by
        intro v hv hn
        have h1 : (f v).isSome = false := by
          cases h2 : (f v).isSome with
          | false => rfl
          | true => exact absurd ((hys v hv).2 h2) hn
        obtain ⟨_, lo, hi2, hFs⟩ := hF v hv
        cases h3 : f v with
        | some u => rw [h3] at h1; simp at h1
        | none =>
          rw [h3] at hFs
          obtain ⟨ad, c, e⟩ := hFs.form
          simp at e
          exact List.length_eq_zero_iff.1 e.2.1.symm
      rw [List.take_of_length_le (by omega), partL_all F ys hys2] at hI
      go_wp2_with fail
      go_ret
      exact ⟨_, _, _, rfl, (OwnS.of_tag hO hI (by omega)).mono (Nat.le_refl _) (Nat.le_refl _), hch⟩
end Go.Proofs.Ytikllmdmifecpaa
