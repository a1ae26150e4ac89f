/- Texts merged, part 4. -/
import Derived.Deep.RegionHeld3
import Derived.Test.YtlcjcihohclmhaaMgWorlds3
section
/- RenameOf: the program's inner function. -/
namespace Go.Proofs.Ytlcjcihohclmhaa
open Go.RowKit

/-- Twelve ints. -/
def arrN (f : Nat → Int) : Array Value := #[.int .i64 (f 0), .int .i64 (f 1), .int .i64 (f 2), .int .i64 (f 3), .int .i64 (f 4), .int .i64 (f 5), .int .i64 (f 6), .int .i64 (f 7), .int .i64 (f 8), .int .i64 (f 9), .int .i64 (f 10), .int .i64 (f 11)]
theorem arrN_set (f : Nat → Int) (j : Nat) (b : Int) (h : j < 12) : (arrN f).setIfInBounds j (.int .i64 b) = arrN (fun i => if i = j then b else f i) := by
  match j, h with
  | 0, _ => rfl
  | 1, _ => rfl
  | 2, _ => rfl
  | 3, _ => rfl
  | 4, _ => rfl
  | 5, _ => rfl
  | 6, _ => rfl
  | 7, _ => rfl
  | 8, _ => rfl
  | 9, _ => rfl
  | 10, _ => rfl
  | 11, _ => rfl
theorem arrN_get (f : Nat → Int) (j : Nat) (h : j < 12) : (arrN f)[j]? = some (.int .i64 (f j)) := by
  match j, h with
  | 0, _ => rfl
  | 1, _ => rfl
  | 2, _ => rfl
  | 3, _ => rfl
  | 4, _ => rfl
  | 5, _ => rfl
  | 6, _ => rfl
  | 7, _ => rfl
  | 8, _ => rfl
  | 9, _ => rfl
  | 10, _ => rfl
  | 11, _ => rfl
def BlkN (w : World) (B : Nat) (T : TypeId) (f : Nat → Int) : Prop := w.heap[B]? = some (.cells (arrN f) T (0, 0))
theorem BlkN.cell {w : World} {B : Nat} {T : TypeId} {f : Nat → Int} (h : BlkN w B T f) (j : Nat) (hj : j < 12) : w.cell? ⟨B, j, none⟩ = some (.int .i64 (f j)) := by
  unfold BlkN at h
  simp [World.cell?, h, arrN_get f j hj]
theorem BlkN.free {w : World} {B : Nat} {T : TypeId} {f : Nat → Int} (h : BlkN w B T f) (j : Nat) : w.frozen? ⟨B, j, none⟩ = false := by
  unfold BlkN at h
  simp [World.frozen?, h]
theorem BlkN.lt {w : World} {B : Nat} {T : TypeId} {f : Nat → Int} (h : BlkN w B T f) : B < w.heap.size := (Array.getElem?_eq_some_iff.1 h).1
theorem BlkN.bel {w w' : World} {B : Nat} {T : TypeId} {f : Nat → Int} (h : BlkN w B T f) (hb : Bel w w') : BlkN w' B T f := (hb.block B h.lt).trans h
theorem BlkN.set {w : World} {B : Nat} {T : TypeId} {f : Nat → Int} (h : BlkN w B T f) (j : Nat) (hj : j < 12) (b : Int) : BlkN (w.setCell ⟨B, j, none⟩ (.int .i64 b)) B T (fun i => if i = j then b else f i) := by
  have hlt := h.lt
  have h' : w.heap[B] = .cells (arrN f) T (0, 0) := by unfold BlkN at h; simpa [Array.getElem?_eq_getElem hlt] using h
  show (w.heap.modify B _)[B]? = _
  rw [Array.getElem?_eq_getElem (by simpa using hlt), Array.getElem_modify_self, h']
  simp [arrN_set f j b hj]
theorem BlkN.other {w : World} {B : Nat} {T : TypeId} {f : Nat → Int} (h : BlkN w B T f) {p : Addr} (hp : p.block ≠ B) (v : Value) : BlkN (w.setCell p v) B T f :=
  (Below.heap_setCell w p v B (by omega)).trans h
theorem BlkN.grown {w w' : World} {o : Obj} {B : Nat} {T : TypeId} {f : Nat → Int} {base : Nat} {tag : Nat → Nat} {t : Nat} {e : TypeId} {v : Value} {xs : List Value} (h : BlkN w B T f) (hB : B < base) (hown : OwnT base tag t e w v xs) (hg : (w.alloc o).grownBy w' v.ownBlock) : BlkN w' B T f := by
  have hlt := h.lt
  refine (hg.block B (by simp; omega) (fun e => ?_)).trans ((Below.heap_alloc w o B hlt).trans h)
  have := own_base hown.1 B e.symm
  omega
/-- The names as the table holds them. -/
def nm (met : List Int) (v : Nat) : Int := if (-1 - (v : Int)) ∈ met then -1 - (met.idxOf (-1 - (v : Int)) : Int) else 0
theorem nm_nil : nm [] = fun _ => 0 := by funext v; simp [nm]
theorem nm_new {met : List Int} {n : Int} (h : n < 0) (hn : n ∉ met) : (fun i => if i = (-1 - n).toNat then -1 - (met.length : Int) else nm met i) = nm (met ++ [n]) := by
  funext i
  by_cases e : i = (-1 - n).toNat
  · have e2 : -1 - (i : Int) = n := by omega
    rw [if_pos e]; unfold nm
    rw [e2, if_pos (by simp), List.idxOf_append, if_neg hn]
    simp
  · have e2 : -1 - (i : Int) ≠ n := by omega
    rw [if_neg e]; unfold nm
    by_cases hm : (-1 - (i : Int)) ∈ met
    · rw [if_pos hm, if_pos (by simp [hm]), List.idxOf_append, if_pos hm]
    · rw [if_neg hm, if_neg (by simp [hm, e2])]
theorem nm_old {met : List Int} {n : Int} (h : n < 0) (hn : n ∈ met) : nm met (-1 - n).toNat = valM met n ∧ valM met n < 0 := by
  have e2 : -1 - (((-1 - n).toNat : Nat) : Int) = n := by omega
  unfold nm valM
  rw [e2, if_pos hn, if_pos h]
  exact ⟨rfl, by omega⟩
theorem nm_not {met : List Int} {n : Int} (h : n < 0) (hn : n ∉ met) : nm met (-1 - n).toNat = 0 := by
  have e2 : -1 - (((-1 - n).toNat : Nat) : Int) = n := by omega
  unfold nm
  rw [e2, if_neg hn]
theorem val_new {met : List Int} {n : Int} (h : n < 0) (hn : n ∉ met) : valM (met ++ [n]) n = -1 - (met.length : Int) := by
  unfold valM
  rw [if_pos h, List.idxOf_append, if_neg hn]
  simp
theorem val_sym {met : List Int} {n : Int} (h : ¬ n < 0) : valM met n = n := by unfold valM; rw [if_neg h]
theorem list_set_same {l : List Int} {i : Nat} {x : Int} (h : l[i]? = some x) : l.set i x = l := by
  apply List.ext_getElem?
  intro j
  rw [List.getElem?_set]
  by_cases e : i = j
  · subst e
    obtain ⟨h3, h4⟩ := List.getElem?_eq_some_iff.1 h
    simp [h3, h4]
  · simp [e]
/-- The first i are renamed. -/
def mix (M t : List Int) (i : Nat) : List Int := renT M (t.take i) ++ t.drop i
theorem mix_zero (M t : List Int) : mix M t 0 = t := by simp [mix, renT]
theorem mix_len (M t : List Int) (i : Nat) (h : i ≤ t.length) : (mix M t i).length = t.length := by simp [mix, renT_len]; omega
theorem mix_get (M t : List Int) (i : Nat) (h : i < t.length) : (mix M t i)[i]? = some (t.getD i 0) := by
  have hl : (renT M (t.take i)).length = i := by rw [renT_len, List.length_take]; omega
  unfold mix
  rw [List.getElem?_append_right (by omega), hl, Nat.sub_self]
  simp [List.getD, h]
theorem mix_succ (M t : List Int) (i : Nat) (h : i < t.length) : (mix M t i).set i (valM (stepM (metT M (t.take i)) (t.getD i 0)) (t.getD i 0)) = mix M t (i+1) := by
  have hl : (renT M (t.take i)).length = i := by rw [renT_len, List.length_take]; omega
  unfold mix
  rw [List.set_append_right _ _ (by omega), hl, Nat.sub_self, List.drop_eq_getElem_cons h, List.set_cons_zero, renT_succ M t i h]
  simp
theorem mix_sym (M t : List Int) (i : Nat) (h : i < t.length) (hs : ¬ t.getD i 0 < 0) : mix M t i = mix M t (i+1) := by
  have hl : (renT M (t.take i)).length = i := by rw [renT_len, List.length_take]; omega
  rw [← mix_succ M t i h, val_sym hs]
  exact (list_set_same (mix_get M t i h)).symm
theorem mix_all (M t : List Int) (i : Nat) (h : ¬ i < t.length) : mix M t i = renT M t := by
  unfold mix
  rw [List.take_of_length_le (by omega), List.drop_eq_nil_of_le (by omega), List.append_nil]

end Go.Proofs.Ytlcjcihohclmhaa
end
section
/- A map of bindings as a substitution. -/
namespace Go.Proofs.Ytlcjcihohclmhaa
open Go.RowKit Go.Maps

/-- A slice does not lie in a map's block. -/
theorem SlI.chgMap {lo hi : Nat} {w w' : World} {v : Value} {xs : List Int} {b m : Nat} {f : Nat → Option Value} (h : SlI lo hi w v xs) (hM : MapV w b m f) (k : Chg b (b+1) w w') : SlI lo hi w' v xs := by
  obtain ⟨ad, cap, rfl, hc, hm, hr⟩ := h
  refine ⟨ad, cap, rfl, hc, hm, fun hp => ?_⟩
  obtain ⟨b0, off, e, a1, a2, a3⟩ := hr hp
  have hne : b0 ≠ b := by
    intro e0
    subst e0
    obtain ⟨n, D, _, ⟨es, clock, hb, _⟩, _⟩ := hM
    have := a3 0 hp
    simp [World.cell?, hb] at this
  exact ⟨b0, off, e, a1, a2, fun j hj => k.cell (World.block_lt_of_cell? w ⟨b0, off + j, none⟩ (a3 j hj)) (by omega) (a3 j hj)⟩
theorem MapV.row_ne {w : World} {b m : Nat} {f : Nat → Option Value} (_h : MapV w b m f) {base : Nat} {tag : Nat → Nat} {t : Nat} {e : TypeId} {v : Value} {xs : List Value} (ho : OwnT base tag t e w v xs) (hb : b < base) : some b ≠ v.ownBlock := by
  intro e
  have := own_base ho.1 b e.symm
  omega
theorem OwnT.chgMap {w w' : World} {b : Nat} {base : Nat} {tag : Nat → Nat} {t : Nat} {e : TypeId} {v : Value} {xs : List Value} (ho : OwnT base tag t e w v xs) (hb : b < base) (k : Chg b (b+1) w w') : OwnT base tag t e w' v xs := by
  refine ⟨⟨ho.1.1, ?_⟩, ho.2⟩
  rcases ho.1.2 with h0 | ⟨g, cap, cur, e1, e2, hh, r⟩
  · exact .inl h0
  · exact .inr ⟨g, cap, cur, e1, e2, by rw [k.block g (Array.getElem?_eq_some_iff.1 hh).1 (by omega)]; exact hh, r⟩
theorem chg_of_grown {w w' : World} {b : Nat} (h : w.grownBy w' (some b)) : Chg b (b+1) w w' := ⟨h.os, h.tape, h.output, h.size, fun k hk ho => h.block k hk (by simp; omega)⟩
/-- A new row at index v, where there was none. -/
theorem InT.put {base : Nat} {tag tag' : Nat → Nat} {ei : TypeId} {w w' : World} {us : List Value} {xss : List (List Int)} {u : Value} {xs : List Int} (h : InT base tag ei w us xss) (v : Nat) (hv : v < us.length)
    (hall : ∀ t' e' u zs, OwnT base tag t' e' w u zs → OwnT base tag' t' e' w' u zs) (hu : OwnT base tag' (10 + v) ei w' u (xs.map (Value.int .i64))) : InT base tag' ei w' (us.set v u) (xss.set v xs) := by
  refine ⟨by simp [h.1], fun j x hj => ?_⟩
  by_cases e : j = v
  · subst e
    rw [List.getElem?_set_self hv] at hj
    simp at hj
    subst hj
    rw [show (xss.set j xs).getD j [] = xs from by simp [List.getD, show j < xss.length by rw [← h.1]; exact hv]]
    exact hu
  · rw [List.getElem?_set_ne (Ne.symm e)] at hj
    rw [show (xss.set v xs).getD j [] = xss.getD j [] from by simp [List.getD, List.getElem?_set_ne (Ne.symm e)]]
    exact hall _ _ _ _ (h.2 j x hj)

theorem getD_rep (n j : Nat) : (List.replicate n ([] : List Int)).getD j [] = [] := by simp only [List.getD, List.getElem?_replicate]; split <;> rfl
theorem Chg.setNew {lo hi : Nat} {w w' : World} (h : Chg lo hi w w') {p : Addr} (hp : w.heap.size ≤ p.block) (u : Value) : Chg lo hi w (w'.setCell p u) :=
  ⟨h.os, h.tape, h.output, by simpa using h.size, fun b hb ho => (Below.heap_setCell w' p u b (by omega)).trans (h.block b hb ho)⟩
theorem MapV.set {w : World} {b m : Nat} {f : Nat → Option Value} (h : MapV w b m f) {p : Addr} (hp : b ≠ p.block) (u : Value) : MapV (w.setCell p u) b m f := by
  obtain ⟨n, D, hn, ho, hk⟩ := h
  exact ⟨n, D, hn, ho.setCell hp u, hk⟩
theorem SlI.lit {w : World} (x : Int) (T : TypeId) : SlI w.heap.size (w.heap.size + 1) (w.alloc (.cells #[.int .i64 x] T)) (.slice (some ⟨w.heap.size, 0, none⟩) 1 1) [x] := by
  refine ⟨_, 1, rfl, Nat.le_refl _, ⟨by unfold maxLen; omega, fun h => by simp at h⟩, fun _ => ⟨w.heap.size, 0, rfl, Nat.le_refl _, Nat.lt_succ_self _, fun j hj => ?_⟩⟩
  obtain rfl : j = 0 := by simp at hj; omega
  rw [World.cell?_alloc_new w]; rfl
/-- What a substitution holds for v. -/
def stayF (F : Nat → List Int) (v : Nat) : List Int := if F v = [-1 - (v : Int)] then [] else F v
def substL (F : Nat → List Int) : List (List Int) := (List.range 12).map (stayF F)
/-- .. after some of the variables. -/
def partL (F : Nat → List Int) (ys : List Int) : List (List Int) := (List.range 12).map fun (v : Nat) => if (v : Int) ∈ ys then stayF F v else []
theorem partL_nil (F : Nat → List Int) : partL F [] = List.replicate 12 [] := by simp [partL, List.range_succ, List.replicate]
theorem partL_len (F : Nat → List Int) (ys : List Int) : (partL F ys).length = 12 := by simp [partL]
theorem partL_snoc (F : Nat → List Int) (ys : List Int) (v : Nat) (hv : v < 12) : (partL F ys).set v (stayF F v) = partL F (ys ++ [(v : Int)]) := by
  apply List.ext_getElem?
  intro i
  rw [List.getElem?_set]
  unfold partL
  by_cases e : v = i
  · subst e; simp [hv]
  · by_cases hi : i < 12
    · have h1 : (List.range 12)[i]? = some i := by simp [hi]
      have e2 : ¬ (i : Int) = (v : Int) := by omega
      rw [if_neg e, List.getElem?_map, List.getElem?_map, h1]
      simp only [Option.map_some, List.mem_append, List.mem_singleton, e2, or_false]
    · rw [if_neg e, List.getElem?_eq_none (by simp; omega), List.getElem?_eq_none (by simp; omega)]
theorem partL_all (F : Nat → List Int) (ys : List Int) (h : ∀ v : Nat, v < 12 → (v : Int) ∉ ys → F v = []) : partL F ys = substL F := by
  unfold partL substL
  apply List.map_congr_left
  intro v hv
  rw [List.mem_range] at hv
  by_cases hm : (v : Int) ∈ ys
  · rw [if_pos hm]
  · rw [if_neg hm]; unfold stayF; rw [h v hv hm]; simp
def RetSub (F : Nat → List Int) (b : Nat) (w : World) (e : Ending) (w' : World) : Prop :=
  ∃ ad n c, e = .returned (.slice ad n c) ∧ OwnS w.heap.size w'.heap.size w' (.slice ad n c) (substL F) ∧ Chg b (b+1) w w'

end Go.Proofs.Ytlcjcihohclmhaa
end
section
/- Compose: what is put together. -/
namespace Go.Proofs.Ytlcjcihohclmhaa
open Go.RowKit

theorem ok_var (ar : List Int) (v : Nat) (hv : v < 12) : okTerm ar [-1 - (v : Int)] = true := by
  have hs : okSym ar (-1 - (v : Int)) = true := by simp [okSym, inB]; omega
  rw [okTerm_iff]
  refine ⟨by simp, by simp, ?_⟩
  unfold endOf
  rw [List.drop_zero, endGo_cons, if_pos hs, arOf_neg (by omega)]
  rfl
def compT (a : List (List Int)) (v : Nat) : List Int := if 0 < (a.getD v []).length then a.getD v [] else [-1 - (v : Int)]
def compF (a b : List (List Int)) (v : Nat) : List Int := appT b (compT a v)
theorem compT_pos {a : List (List Int)} {v : Nat} (h : 0 < (a.getD v []).length) : compT a v = a.getD v [] := by unfold compT; rw [if_pos h]
theorem compT_zero {a : List (List Int)} {v : Nat} (h : ¬ 0 < (a.getD v []).length) : compT a v = [-1 - (v : Int)] := by unfold compT; rw [if_neg h]
theorem compT_ok {ar : List Int} {a : List (List Int)} (h : goodSubst ar a = true) (v : Nat) (hv : v < 12) : okTerm ar (compT a v) = true := by
  by_cases hp : 0 < (a.getD v []).length
  · rw [compT_pos hp]; exact okEmpty_get (goodSubst_iff.1 h).2.2 v hp
  · rw [compT_zero hp]; exact ok_var ar v hv
def composeOk (ar : List Int) (a b : List (List Int)) : Bool := goodSubst ar a && goodSubst ar b && (List.range 12).all (fun v => app40ok b (compT a v))
def composeAns (ar : List Int) (a b : List (List Int)) : List (List Int) := if composeOk ar a b then substL (compF a b) else []
theorem composeAns_no {ar : List Int} {a b : List (List Int)} (h : composeOk ar a b = false) : composeAns ar a b = [] := by simp [composeAns, h]
theorem composeAns_yes {ar : List Int} {a b : List (List Int)} (h : composeOk ar a b = true) : composeAns ar a b = substL (compF a b) := by simp [composeAns, h]
theorem compose_bad {ar : List Int} {a b : List (List Int)} {v : Nat} (hv : v < 12) (h : app40ok b (compT a v) = false) : composeOk ar a b = false := by
  have : (List.range 12).all (fun v => app40ok b (compT a v)) = false := by
    rw [List.all_eq_false]
    exact ⟨v, by simpa using hv, by simp [h]⟩
  unfold composeOk
  rw [this, Bool.and_false]
theorem compose_good {ar : List Int} {a b : List (List Int)} (h1 : goodSubst ar a = true) (h2 : goodSubst ar b = true) (h : ∀ v, v < 12 → app40ok b (compT a v) = true) : composeOk ar a b = true := by
  unfold composeOk
  rw [h1, h2, Bool.true_and, Bool.true_and, List.all_eq_true]
  intro v hv
  exact h v (by simpa using hv)
theorem stayF_le (F : Nat → List Int) (v : Nat) : (stayF F v).length ≤ (F v).length := by unfold stayF; split <;> simp
theorem sumL_map_le (g : Nat → List Int) (c : Nat) : ∀ l : List Nat, (∀ v ∈ l, (g v).length ≤ c) → sumL (l.map g) ≤ c * l.length := by
  intro l
  induction l with
  | nil => intro _; simp [sumL]
  | cons x r ih =>
    intro h
    have h1 := ih (fun v hv => h v (List.mem_cons_of_mem _ hv))
    have h2 := h x List.mem_cons_self
    unfold sumL at h1 ⊢
    simp only [List.map_cons, List.sum_cons, List.length_cons] at h1 ⊢
    rw [Nat.mul_add]
    omega
theorem substL_tot (F : Nat → List Int) (h : ∀ v, v < 12 → (F v).length ≤ 40) : tot (substL F) ≤ 1048576 := by
  have h1 := sumL_map_le (stayF F) 40 (List.range 12) (fun v hv => by have h1 := stayF_le F v; have h2 := h v (by simpa using hv); omega)
  have h2 : (substL F).length = 12 := by simp [substL]
  unfold tot
  rw [h2]
  simp only [List.length_range] at h1
  unfold substL
  omega
theorem composeAns_len (ar : List Int) (a b : List (List Int)) : tot (composeAns ar a b) ≤ 1048576 := by
  unfold composeAns
  split
  · rename_i h
    unfold composeOk at h
    simp only [Bool.and_eq_true, List.all_eq_true] at h
    exact substL_tot _ fun v hv => by
      have := h.2 v (by simpa using hv)
      simp [app40ok] at this
      exact this
  · simp [tot, sumL]
theorem castL_range (k : Nat) : castL (List.range (k+1)) = castL (List.range k) ++ [(k : Int)] := by rw [List.range_succ, castL_snoc]

end Go.Proofs.Ytlcjcihohclmhaa
end
section
/- Match: what is found. -/
namespace Go.Proofs.Ytlcjcihohclmhaa
open Go.RowKit Go.Maps

def upd {α : Type} (F : Nat → α) (v : Nat) (x : α) : Nat → α := fun i => if i = v then x else F i
theorem upd_same {α : Type} (F : Nat → α) (v : Nat) (x : α) : upd F v x v = x := by simp [upd]
theorem upd_other {α : Type} (F : Nat → α) {v i : Nat} (x : α) (h : i ≠ v) : upd F v x i = F i := by simp [upd, h]
def matchGo (ar t : List Int) : List Int → Nat → (Nat → List Int) → Option (Nat → List Int)
  | [], _, F => some F
  | n :: r, j, F =>
    if 0 ≤ n then (if t.getD j 0 = n then matchGo ar t r (j+1) F else none)
    else if F (-1 - n).toNat = [] ∨ F (-1 - n).toNat = partOf t j ((endOf ar t j).getD 0) then matchGo ar t r ((endOf ar t j).getD 0) (upd F (-1 - n).toNat (partOf t j ((endOf ar t j).getD 0))) else none
theorem mg_sym {ar t r : List Int} {n : Int} {j : Nat} {F : Nat → List Int} (h : 0 ≤ n) (he : t.getD j 0 = n) : matchGo ar t (n :: r) j F = matchGo ar t r (j+1) F := by rw [matchGo, if_pos h, if_pos he]
theorem mg_symno {ar t r : List Int} {n : Int} {j : Nat} {F : Nat → List Int} (h : 0 ≤ n) (he : ¬ t.getD j 0 = n) : matchGo ar t (n :: r) j F = none := by rw [matchGo, if_pos h, if_neg he]
theorem mg_var {ar t r : List Int} {n : Int} {j e : Nat} {F : Nat → List Int} (h : ¬ 0 ≤ n) (he : endOf ar t j = some e) (hF : F (-1 - n).toNat = [] ∨ F (-1 - n).toNat = partOf t j e) :
    matchGo ar t (n :: r) j F = matchGo ar t r e (upd F (-1 - n).toNat (partOf t j e)) := by
  rw [matchGo, if_neg h, he]
  simp only [Option.getD_some]
  rw [if_pos hF]
theorem mg_varno {ar t r : List Int} {n : Int} {j e : Nat} {F : Nat → List Int} (h : ¬ 0 ≤ n) (he : endOf ar t j = some e) (hF : ¬ (F (-1 - n).toNat = [] ∨ F (-1 - n).toNat = partOf t j e)) :
    matchGo ar t (n :: r) j F = none := by
  rw [matchGo, if_neg h, he]
  simp only [Option.getD_some]
  rw [if_neg hF]

/-- Both terms have as many terms to come. -/
def Pair2 (ar p t : List Int) (i j : Nat) : Prop := ∃ m, endGo ar (p.drop i) m i = some p.length ∧ endGo ar (t.drop j) m j = some t.length
theorem Pair2.start {ar p t : List Int} (hp : okTerm ar p = true) (ht : okTerm ar t = true) : Pair2 ar p t 0 0 := ⟨1, ((okTerm_iff _ _).1 hp).2.2, ((okTerm_iff _ _).1 ht).2.2⟩
theorem need_pos {ar p : List Int} {i m : Nat} (h : endGo ar (p.drop i) m i = some p.length) (hi : i < p.length) : ∃ m', m = m' + 1 := by
  cases m with
  | zero => rw [endGo_zero] at h; simp at h; omega
  | succ m => exact ⟨m, rfl⟩
theorem need_lt {ar t : List Int} {j m : Nat} (h : endGo ar (t.drop j) (m+1) j = some t.length) : j < t.length := by
  rcases Nat.lt_or_ge j t.length with h1 | h1
  · exact h1
  · rw [List.drop_eq_nil_of_le h1, endGo_nil] at h; simp at h
theorem Pair2.lt {ar p t : List Int} {i j : Nat} (h : Pair2 ar p t i j) (hi : i < p.length) : j < t.length := by
  obtain ⟨m, h1, h2⟩ := h
  obtain ⟨m, rfl⟩ := need_pos h1 hi
  exact need_lt h2
theorem Pair2.sym {ar p t : List Int} {i j : Nat} (h : Pair2 ar p t i j) (hi : i < p.length) (he : t.getD j 0 = p.getD i 0) : Pair2 ar p t (i+1) (j+1) := by
  have hj := h.lt hi
  obtain ⟨m, h1, h2⟩ := h
  obtain ⟨m, rfl⟩ := need_pos h1 hi
  rw [drop_cons p i hi, endGo_cons] at h1
  rw [drop_cons t j hj, endGo_cons, he] at h2
  split at h1
  · rename_i hs
    rw [if_pos hs] at h2
    exact ⟨_, h1, h2⟩
  · simp at h1
theorem Pair2.var {ar p t : List Int} {i j : Nat} (h : Pair2 ar p t i j) (hi : i < p.length) (hn : p.getD i 0 < 0) : ∃ e, endOf ar t j = some e ∧ j < e ∧ e ≤ t.length ∧ Pair2 ar p t (i+1) e := by
  obtain ⟨m, h1, h2⟩ := h
  obtain ⟨m, rfl⟩ := need_pos h1 hi
  rw [drop_cons p i hi, endGo_cons, arOf_neg hn] at h1
  split at h1
  · obtain ⟨e, he, hr, hlt, hle⟩ := ends_step ar t j m t.length h2
    exact ⟨e, he, hlt, hle, m, h1, hr⟩
  · simp at h1
def matchOk0 (ar p t : List Int) : Bool := goodTerm ar p && okTerm ar t
def matchR (ar p t : List Int) : Option (Nat → List Int) := matchGo ar t p 0 (fun _ => [])
def matchOk (ar p t : List Int) : Bool := matchOk0 ar p t && (matchR ar p t).isSome
def matchAns (ar p t : List Int) : List (List Int) := if matchOk0 ar p t then (match matchR ar p t with | some F => substL F | none => []) else []
theorem match_no0 {ar p t : List Int} (h : matchOk0 ar p t = false) : matchAns ar p t = [] ∧ matchOk ar p t = false := by simp [matchAns, matchOk, h]
theorem match_no {ar p t : List Int} (h : matchR ar p t = none) : matchAns ar p t = [] ∧ matchOk ar p t = false := by
  unfold matchAns matchOk
  rw [h]
  simp
theorem match_yes {ar p t : List Int} {F : Nat → List Int} (h0 : matchOk0 ar p t = true) (h : matchR ar p t = some F) : matchAns ar p t = substL F ∧ matchOk ar p t = true := by
  unfold matchAns matchOk
  rw [h, h0]
  simp
/-- The terms found are not long. -/
theorem mg_len {ar t : List Int} (ht : okTerm ar t = true) (p0 : List Int) : ∀ (k i j : Nat) (F G : Nat → List Int), k = p0.length - i → i ≤ p0.length → Pair2 ar p0 t i j → (∀ v, (F v).length ≤ 40) → matchGo ar t (p0.drop i) j F = some G → ∀ v, (G v).length ≤ 40 := by
  intro k
  induction k with
  | zero =>
    intro i j F G hk hi hP hF h
    rw [List.drop_eq_nil_of_le (by omega), matchGo] at h
    simp at h
    rw [← h]; exact hF
  | succ k ih =>
    intro i j F G hk hi hP hF h
    have hlt : i < p0.length := by omega
    rw [drop_cons p0 i hlt] at h
    by_cases hn : 0 ≤ p0.getD i 0
    · by_cases he : t.getD j 0 = p0.getD i 0
      · rw [mg_sym hn he] at h
        exact ih (i+1) (j+1) F G (by omega) (by omega) (hP.sym hlt he) hF h
      · rw [mg_symno hn he] at h; simp at h
    · obtain ⟨e, h1, h2, h3, h4⟩ := hP.var hlt (by omega)
      by_cases hc : F (-1 - p0.getD i 0).toNat = [] ∨ F (-1 - p0.getD i 0).toNat = partOf t j e
      · rw [mg_var hn h1 hc] at h
        refine ih (i+1) e _ G (by omega) (by omega) h4 (fun v => ?_) h
        unfold upd
        split
        · rw [partOf_len t j e h3]; have := ((okTerm_iff _ _).1 ht).2.1; omega
        · exact hF v
      · rw [mg_varno hn h1 hc] at h; simp at h
theorem matchAns_len (ar p t : List Int) : tot (matchAns ar p t) ≤ 1048576 := by
  unfold matchAns
  split
  · rename_i h0
    simp only [matchOk0, Bool.and_eq_true] at h0
    have hp := (goodTerm_iff.1 h0.1).2
    cases h : matchR ar p t with
    | none => simp [tot, sumL]
    | some F =>
      have := mg_len h0.2 p p.length 0 0 (fun _ => []) F (by omega) (by omega) (Pair2.start hp h0.2) (by simp) (by simpa [matchR] using h)
      exact substL_tot F (fun v _ => this v)
  · simp [tot, sumL]
end Go.Proofs.Ytlcjcihohclmhaa
end
section
/- Match: the reference's. -/
namespace Go.Proofs.Ytlcjcihohclmhaa
open Go.RowKit Go.Maps

def rawL (F : Nat → List Int) : List (List Int) := (List.range 12).map F
theorem rawL_len (F : Nat → List Int) : (rawL F).length = 12 := by simp [rawL]
theorem rawL_get (F : Nat → List Int) (v : Nat) (hv : v < 12) : (rawL F).getD v [] = F v := by simp [rawL, List.getD, hv]
theorem rawL_set (F : Nat → List Int) (v : Nat) (hv : v < 12) (x : List Int) : (rawL F).set v x = rawL (upd F v x) := by
  apply List.ext_getElem?
  intro i
  rw [List.getElem?_set]
  unfold rawL upd
  by_cases e : v = i
  · subst e; simp [hv]
  · by_cases hi : i < 12
    · have h1 : (List.range 12)[i]? = some i := by simp [hi]
      rw [if_neg e, List.getElem?_map, List.getElem?_map, h1]
      simp only [Option.map_some]
      rw [if_neg (Ne.symm e)]
    · rw [if_neg e, List.getElem?_eq_none (by simp; omega), List.getElem?_eq_none (by simp; omega)]
/-- The array of the terms found, in block B. -/
def Arr (base B : Nat) (tag : Nat → Nat) (w : World) (us : List Value) (F : Nat → List Int) : Prop :=
  us.length = 12 ∧ OwnT base tag 2 24 w (.slice (some ⟨B, 0, none⟩) 12 12) us ∧ InT base tag 3 w us (rawL F)
theorem Arr.bel {base B : Nat} {tag : Nat → Nat} {w w' : World} {us : List Value} {F : Nat → List Int} (h : Arr base B tag w us F) (hb : Bel w w') : Arr base B tag w' us F := ⟨h.1, h.2.1.bel hb, h.2.2.bel hb⟩
theorem Arr.all {base B : Nat} {tag tag' : Nat → Nat} {w w' : World} {us : List Value} {F : Nat → List Int} (h : Arr base B tag w us F) (k : ∀ t' e' u zs, OwnT base tag t' e' w u zs → OwnT base tag' t' e' w' u zs) : Arr base B tag' w' us F := ⟨h.1, k _ _ _ _ h.2.1, h.2.2.all k⟩
theorem Arr.cell {base B : Nat} {tag : Nat → Nat} {w : World} {us : List Value} {F : Nat → List Int} (h : Arr base B tag w us F) (v : Nat) (hv : v < 12) :
    ∃ a c, w.cell? ⟨B, v, none⟩ = some (.slice a (F v).length c) ∧ us[v]? = some (.slice a (F v).length c) ∧ w.frozen? ⟨B, v, none⟩ = false ∧ OwnT base tag (10 + v) 3 w (.slice a (F v).length c) ((F v).map (Value.int .i64)) := by
  obtain ⟨hl, hO, hI⟩ := h
  have hOr := hO.1
  rw [hl] at hOr
  have hu : us[v]? = some us[v] := List.getElem?_eq_getElem (by omega)
  have hi := hI.2 v _ hu
  rw [rawL_get F v hv] at hi
  obtain ⟨a, n, c, e⟩ := own_form hi.1
  rw [e] at hi hu
  have hn := row_len hi.1
  rw [List.length_map] at hn
  subst hn
  exact ⟨a, c, (hOr.cellAt v (by omega)).trans hu, hu, hOr.frozenAt v, hi⟩
theorem Arr.set {base B : Nat} {tag tag' : Nat → Nat} {w w' : World} {us : List Value} {F : Nat → List Int} {x : List Int} {u : Value} (h : Arr base B tag w us F) (v : Nat) (hv : v < 12)
    (hall : ∀ t' e' u zs, OwnT base tag t' e' w u zs → OwnT base tag' t' e' w' u zs) (hu : OwnT base tag' (10 + v) 3 w' u (x.map (Value.int .i64))) : Arr base B tag' (w'.setCell ⟨B, v, none⟩ u) (us.set v u) (upd F v x) := by
  obtain ⟨hl, hO, hI⟩ := h
  have hst := tag_store (hall _ _ _ _ hO) v u
  refine ⟨by simpa using hl, hst.1, ?_⟩
  rw [← rawL_set F v hv]
  exact (hI.put v (by omega) hall hu).step (by omega) hst.2
theorem Arr.fresh {base B : Nat} {tag : Nat → Nat} {w : World} (h : OwnT base tag 2 24 w (.slice (some ⟨B, 0, none⟩) 12 12) (List.replicate 12 (Value.slice none 0 0))) : Arr base B tag w (List.replicate 12 (Value.slice none 0 0)) (fun _ => []) := by
  refine ⟨by simp, h, by simp [rawL], fun j u hj => ?_⟩
  have hlt := (List.getElem?_eq_some_iff.1 hj).1
  rw [List.getElem?_replicate, if_pos (by simpa using hlt)] at hj
  simp at hj
  subst hj
  rw [show (rawL (fun _ => [])).getD j [] = [] from by rw [rawL_get _ _ (by simpa using hlt)]]
  exact OwnT.nil _ _ _ _ _
def RetL2 (base B : Nat) (R : Option (Nat → List Int)) (w : World) (e : Ending) (w' : World) : Prop :=
  Chg B (B+1) w w' ∧ match R with
    | none => e = .returned (.tuple #[.slice none 0 0, .bool false])
    | some F => e = .returned (.tuple #[.slice (some ⟨B, 0, none⟩) 12 12, .bool true]) ∧ ∃ tag us, Arr base B tag w' us F

end Go.Proofs.Ytlcjcihohclmhaa
end
section
/- Rows of terms, parts, instances: what needs no more than that. No program. -/
namespace Go.Proofs.Ytlcjcihohclmhaa
open Go.RowKit

/-- A row of k terms. -/
def seqT (ar : List Int) (k : Nat) (r : List Int) : Prop := endGo ar r k 0 = some r.length
theorem seqT_nil {ar : List Int} {k : Nat} (h : seqT ar k []) : k = 0 := by
  cases k with
  | zero => rfl
  | succ k => simp [seqT, endGo_nil] at h
theorem seqT_zero {ar r : List Int} (h : seqT ar 0 r) : r = [] := by
  unfold seqT at h
  rw [endGo_zero] at h
  simp at h
  exact List.length_eq_zero_iff.1 h.symm
theorem seqT_cons {ar : List Int} {k : Nat} {x : Int} {r : List Int} : seqT ar (k+1) (x :: r) ↔ okSym ar x = true ∧ seqT ar (k + arOf ar x) r := by
  unfold seqT
  rw [endGo_cons]
  constructor
  · intro h
    split at h
    · rename_i hs
      refine ⟨hs, ?_⟩
      have := endGo_shift ar r (k + arOf ar x) 0 1
      rw [Nat.zero_add] at this
      rw [Nat.zero_add, this] at h
      cases h2 : endGo ar r (k + arOf ar x) 0 with
      | none => rw [h2] at h; simp at h
      | some e => rw [h2] at h; simp at h; rw [h]
    · simp at h
  · rintro ⟨hs, h⟩
    rw [if_pos hs]
    have := endGo_shift ar r (k + arOf ar x) 0 1
    rw [Nat.zero_add] at this
    rw [Nat.zero_add, this, h]
    simp
theorem seqT_append {ar : List Int} : ∀ {r s : List Int} {a b : Nat}, seqT ar a r → seqT ar b s → seqT ar (a + b) (r ++ s) := by
  intro r
  induction r with
  | nil => intro s a b h1 h2; rw [seqT_nil h1, Nat.zero_add]; exact h2
  | cons x r ih =>
    intro s a b h1 h2
    cases a with
    | zero => have := seqT_zero h1; simp at this
    | succ a =>
      obtain ⟨hs, h1⟩ := seqT_cons.1 h1
      rw [List.cons_append, Nat.succ_add]
      refine seqT_cons.2 ⟨hs, ?_⟩
      have := ih h1 h2
      rwa [show a + b + arOf ar x = a + arOf ar x + b by omega]
theorem seq_prefix {ar : List Int} : ∀ {a b r s : List Int} {k : Nat}, seqT ar k a → seqT ar k b → a ++ r = b ++ s → a = b
  | [], b, _, _, k, ha, hb, _ => by rw [seqT_nil ha] at hb; exact (seqT_zero hb).symm
  | x :: a, b, r, s, k, ha, hb, e => by
    cases k with
    | zero => have := seqT_zero ha; simp at this
    | succ k =>
      cases b with
      | nil => have := seqT_nil hb; omega
      | cons y b =>
        rw [List.cons_append, List.cons_append, List.cons.injEq] at e
        obtain ⟨rfl, e⟩ := e
        rw [seq_prefix (seqT_cons.1 ha).2 (seqT_cons.1 hb).2 e]
theorem appT_append (V : List (List Int)) (s t : List Int) : appT V (s ++ t) = appT V s ++ appT V t := by simp [appT]
theorem appT_one (V : List (List Int)) (n : Int) : appT V [n] = one1 V n := by simp [appT]
theorem part_split {t : List Int} {p q e : Nat} (h1 : p ≤ q) (h2 : q ≤ e) : partOf t p e = partOf t p q ++ partOf t q e := by
  unfold partOf
  rw [show e - p = (q - p) + (e - q) by omega, List.take_add, List.drop_drop, show p + (q - p) = q by omega]
end Go.Proofs.Ytlcjcihohclmhaa
end
section
/- Unify: what is found. -/
namespace Go.Proofs.Ytlcjcihohclmhaa
open Go.RowKit Go.Maps

theorem okTerm_seq {ar t : List Int} : okTerm ar t = true ↔ t.length ≤ 40 ∧ seqT ar 1 t := by
  rw [okTerm_iff]
  unfold endOf seqT
  rw [List.drop_zero]
  constructor
  · exact fun h => h.2
  · intro h
    refine ⟨?_, h⟩
    have := endGo_gt ar t 0 0 t.length h.2
    omega
theorem okTerm_long {ar t : List Int} (h : 40 < t.length) : okTerm ar t = false := by
  cases h2 : okTerm ar t with
  | false => rfl
  | true => have := ((okTerm_iff _ _).1 h2).2.1; omega

def putFor (n : Int) (u t : List Int) : List Int := t.flatMap fun m => if m = n then u else [m]
theorem putFor_nil (n : Int) (u : List Int) : putFor n u [] = [] := rfl
theorem putFor_cons (n : Int) (u : List Int) (m : Int) (t : List Int) : putFor n u (m :: t) = (if m = n then u else [m]) ++ putFor n u t := by simp [putFor]
theorem putFor_append (n : Int) (u s t : List Int) : putFor n u (s ++ t) = putFor n u s ++ putFor n u t := by simp [putFor]
theorem putFor_not {n : Int} {u t : List Int} (h : n ∉ t) : putFor n u t = t := by
  induction t with
  | nil => rfl
  | cons m t ih =>
    simp at h
    rw [putFor_cons, if_neg (Ne.symm h.1), ih h.2]; rfl
theorem putFor_mem {n k : Int} {u t : List Int} (h : k ∈ putFor n u t) : k ∈ u ∨ (k ∈ t ∧ k ≠ n) := by
  unfold putFor at h
  rw [List.mem_flatMap] at h
  obtain ⟨m, hm, hk⟩ := h
  split at hk
  · exact .inl hk
  · rename_i hne
    simp at hk; subst hk; exact .inr ⟨hm, hne⟩
theorem putFor_ne {n : Int} {u t : List Int} (hu : u ≠ []) (ht : t ≠ []) : putFor n u t ≠ [] := by
  cases t with
  | nil => exact absurd rfl ht
  | cons m t => rw [putFor_cons]; split <;> simp [hu]
theorem putFor_seq {ar : List Int} {n : Int} {u : List Int} (hn : n < 0) (hu : seqT ar 1 u) : ∀ {t : List Int} {k : Nat}, seqT ar k t → seqT ar k (putFor n u t) := by
  intro t
  induction t with
  | nil => intro k h; exact h
  | cons m t ih =>
    intro k h
    cases k with
    | zero => have := seqT_zero h; simp at this
    | succ k =>
      obtain ⟨hs, h1⟩ := seqT_cons.1 h
      rw [putFor_cons]
      split
      · rename_i e
        subst e
        rw [arOf_neg hn] at h1
        have := seqT_append hu (ih h1)
        rwa [show 1 + (k + 0) = k + 1 by omega] at this
      · exact seqT_cons.2 ⟨hs, ih h1⟩
theorem putFor_len {n : Int} {u t : List Int} {c : Nat} (hu : u.length ≤ c) (hc : 1 ≤ c) : (putFor n u t).length ≤ c * t.length := by
  induction t with
  | nil => simp [putFor_nil]
  | cons m t ih =>
    rw [putFor_cons, List.length_append, List.length_cons, Nat.mul_succ]
    have : (if m = n then u else [m]).length ≤ c := by
      split
      · exact hu
      · simpa using hc
    omega
theorem putFor_infix {n : Int} {u s t : List Int} (h : s <:+: t) : putFor n u s <:+: putFor n u t := by
  obtain ⟨a, b, e⟩ := h
  exact ⟨putFor n u a, putFor n u b, by rw [← putFor_append, ← putFor_append, e]⟩

/-- The first index at which two rows differ. -/
def dif : List Int → List Int → Nat
  | a :: r, b :: s => if a = b then dif r s + 1 else 0
  | _, _ => 0
theorem dif_same : ∀ (t : List Int), dif t t = t.length
  | [] => rfl
  | a :: r => by rw [dif, if_pos rfl, dif_same r]; rfl
theorem dif_before : ∀ (x y : List Int) (i : Nat), i < dif x y → i < x.length ∧ i < y.length ∧ x.getD i 0 = y.getD i 0 := by
  intro x
  induction x with
  | nil => intro y i h; simp [dif] at h
  | cons a r ih =>
    intro y i h
    cases y with
    | nil => simp [dif] at h
    | cons b s =>
      rw [dif] at h
      split at h
      · rename_i e
        subst e
        cases i with
        | zero => simp
        | succ i =>
          obtain ⟨h1, h2, h3⟩ := ih s i (by omega)
          exact ⟨by simp; omega, by simp; omega, by simpa using h3⟩
      · omega
theorem dif_at {ar : List Int} : ∀ {x y : List Int} {k : Nat}, seqT ar k x → seqT ar k y → x ≠ y → dif x y < x.length ∧ dif x y < y.length ∧ x.getD (dif x y) 0 ≠ y.getD (dif x y) 0 := by
  intro x
  induction x with
  | nil =>
    intro y k h1 h2 hne
    rw [seqT_nil h1] at h2
    exact absurd (seqT_zero h2).symm hne
  | cons a r ih =>
    intro y k h1 h2 hne
    cases k with
    | zero => have := seqT_zero h1; simp at this
    | succ k =>
      cases y with
      | nil => have := seqT_nil h2; omega
      | cons b s =>
        rw [dif]
        by_cases e : a = b
        · subst e
          rw [if_pos rfl]
          obtain ⟨-, h1⟩ := seqT_cons.1 h1
          obtain ⟨-, h2⟩ := seqT_cons.1 h2
          obtain ⟨a1, a2, a3⟩ := ih h1 h2 (by intro e; exact hne (by rw [e]))
          exact ⟨by simp; omega, by simp; omega, by simpa using a3⟩
        · rw [if_neg e]
          exact ⟨by simp, by simp, by simpa using e⟩

/-- The integer of the variable that is replaced, and the row with its term. -/
def lowN (x y : List Int) : Int := if y.getD (dif x y) 0 < x.getD (dif x y) 0 then y.getD (dif x y) 0 else x.getD (dif x y) 0
def other (x y : List Int) : List Int := if y.getD (dif x y) 0 < x.getD (dif x y) 0 then x else y
def putU (ar x y : List Int) : List Int := partOf (other x y) (dif x y) ((endOf ar (other x y) (dif x y)).getD 0)
def nextF (n : Int) (u : List Int) (F : Nat → List Int) : Nat → List Int := upd (fun v => putFor n u (F v)) (-1 - n).toNat u
def badU (ar x y : List Int) : Prop := 0 ≤ lowN x y ∨ lowN x y ∈ putU ar x y
instance (ar x y : List Int) : Decidable (badU ar x y) := by unfold badU; infer_instance
def longU (ar x y : List Int) : Prop := 40 < (putFor (lowN x y) (putU ar x y) x).length ∨ 40 < (putFor (lowN x y) (putU ar x y) y).length
instance (ar x y : List Int) : Decidable (longU ar x y) := by unfold longU; infer_instance
def uniGo (ar : List Int) : Nat → List Int → List Int → (Nat → List Int) → Option (Nat → List Int)
  | 0, _, _, _ => none
  | k+1, x, y, F =>
    if x = y then some F
    else if badU ar x y then none
    else if longU ar x y then none
    else uniGo ar k (putFor (lowN x y) (putU ar x y) x) (putFor (lowN x y) (putU ar x y) y) (nextF (lowN x y) (putU ar x y) F)
theorem ug_same {ar x y : List Int} {k : Nat} {F : Nat → List Int} (h : x = y) : uniGo ar (k+1) x y F = some F := by rw [uniGo, if_pos h]
theorem ug_bad {ar x y : List Int} {k : Nat} {F : Nat → List Int} (h : x ≠ y) (hb : badU ar x y) : uniGo ar (k+1) x y F = none := by rw [uniGo, if_neg h, if_pos hb]
theorem ug_long {ar x y : List Int} {k : Nat} {F : Nat → List Int} (h : x ≠ y) (hb : ¬ badU ar x y) (hl : longU ar x y) : uniGo ar (k+1) x y F = none := by rw [uniGo, if_neg h, if_neg hb, if_pos hl]
theorem ug_next {ar x y : List Int} {k : Nat} {F : Nat → List Int} (h : x ≠ y) (hb : ¬ badU ar x y) (hl : ¬ longU ar x y) : uniGo ar (k+1) x y F = uniGo ar k (putFor (lowN x y) (putU ar x y) x) (putFor (lowN x y) (putU ar x y) y) (nextF (lowN x y) (putU ar x y) F) := by rw [uniGo, if_neg h, if_neg hb, if_neg hl]

/-- How many variables are bound. -/
def cnt (F : Nat → List Int) : Nat → Nat
  | 0 => 0
  | k+1 => cnt F k + (if F k = [] then 0 else 1)
theorem cnt_le (F : Nat → List Int) : ∀ k, cnt F k ≤ k
  | 0 => Nat.le_refl _
  | k+1 => by have := cnt_le F k; rw [cnt]; split <;> omega
theorem cnt_same {F G : Nat → List Int} : ∀ {k : Nat}, (∀ v, v < k → (F v = [] ↔ G v = [])) → cnt F k = cnt G k
  | 0, _ => rfl
  | k+1, h => by
    rw [cnt, cnt, cnt_same (fun v hv => h v (by omega))]
    have := h k (Nat.lt_succ_self _)
    by_cases e : F k = []
    · rw [if_pos e, if_pos (this.1 e)]
    · rw [if_neg e, if_neg (fun h => e (this.2 h))]
theorem cnt_new {F G : Nat → List Int} {u : Nat} (hF : F u = []) (hG : G u ≠ []) (hs : ∀ v, v ≠ u → (F v = [] ↔ G v = [])) : ∀ {k : Nat}, u < k → cnt G k = cnt F k + 1
  | 0, h => by omega
  | k+1, h => by
    rw [cnt, cnt]
    by_cases e : u = k
    · subst e
      rw [if_pos hF, if_neg hG, cnt_same (fun v hv => (hs v (by omega)).symm)]
    · rw [cnt_new hF hG hs (k := k) (by omega)]
      have := hs k (Ne.symm e)
      by_cases e2 : F k = []
      · rw [if_pos e2, if_pos (this.1 e2)]
      · rw [if_neg e2, if_neg (fun h => e2 (this.2 h))]
theorem cnt_room {F : Nat → List Int} {u : Nat} (hF : F u = []) : ∀ {k : Nat}, u < k → cnt F k < k
  | 0, h => by omega
  | k+1, h => by
    rw [cnt]
    by_cases e : u = k
    · subst e; rw [if_pos hF]; have := cnt_le F u; omega
    · have := cnt_room hF (k := k) (by omega)
      split <;> omega

/-- What holds between two rounds. -/
structure UInv (ar a0 b0 x y : List Int) (F : Nat → List Int) : Prop where
  okx : okTerm ar x = true
  oky : okTerm ar y = true
  appx : x = appT (rawL F) a0
  appy : y = appT (rawL F) b0
  inf : ∀ v, F v ≠ [] → F v <:+: x ∨ F v <:+: y
  seq : ∀ v, F v ≠ [] → seqT ar 1 (F v)
  notx : ∀ v : Nat, F v ≠ [] → (-1 - (v : Int)) ∉ x
  noty : ∀ v : Nat, F v ≠ [] → (-1 - (v : Int)) ∉ y
  low : ∀ v, 12 ≤ v → F v = []
theorem UInv.len40 {ar a0 b0 x y : List Int} {F : Nat → List Int} (h : UInv ar a0 b0 x y F) (v : Nat) : (F v).length ≤ 40 := by
  by_cases e : F v = []
  · rw [e]; simp
  · have hx := (okTerm_seq.1 h.okx).1
    have hy := (okTerm_seq.1 h.oky).1
    rcases h.inf v e with h1 | h1
    · have := h1.length_le; omega
    · have := h1.length_le; omega
theorem UInv.stay {ar a0 b0 x y : List Int} {F : Nat → List Int} (h : UInv ar a0 b0 x y F) (v : Nat) : stayF F v = F v := by
  unfold stayF
  split
  · rename_i e
    have hne : F v ≠ [] := by rw [e]; simp
    rcases h.inf v hne with h1 | h1
    · exact absurd (h1.subset (by rw [e]; simp)) (h.notx v hne)
    · exact absurd (h1.subset (by rw [e]; simp)) (h.noty v hne)
  · rfl
theorem UInv.raw {ar a0 b0 x y : List Int} {F : Nat → List Int} (h : UInv ar a0 b0 x y F) : rawL F = substL F := by
  unfold rawL substL
  exact List.map_congr_left fun v _ => (h.stay v).symm
theorem appT_none (t : List Int) : appT (rawL fun _ => []) t = t := by
  induction t with
  | nil => rfl
  | cons n t ih =>
    have : one1 (rawL fun _ => []) n = [n] := by
      apply one1_free
      have : (rawL (fun _ => [])).getD (-1 - n).toNat [] = [] := by
        unfold rawL
        simp only [List.getD, List.getElem?_map]
        cases (List.range 12)[(-1 - n).toNat]? <;> rfl
      rw [this]; simp
    unfold appT at ih ⊢
    rw [List.flatMap_cons, this, ih]; rfl
theorem UInv.start {ar a b : List Int} (ha : okTerm ar a = true) (hb : okTerm ar b = true) : UInv ar a b a b (fun _ => []) :=
  ⟨ha, hb, (appT_none a).symm, (appT_none b).symm, fun _ h => absurd rfl h, fun _ h => absurd rfl h, fun _ h => absurd rfl h, fun _ h => absurd rfl h, fun _ _ => rfl⟩
end Go.Proofs.Ytlcjcihohclmhaa
end
section
/- The draws: a term. -/
namespace Go.Proofs.Ytlcjcihohclmhaa
open Go.RowKit

theorem row_chg {w w' : World} {b base : Nat} {e : TypeId} {v : Value} {m : Nat} {xs : List Value} (h : w.ownsRow base e 1 v m xs) (hb : b < base) (k : Chg b (b+1) w w') : w'.ownsRow base e 1 v m xs := by
  refine ⟨h.1, ?_⟩
  rcases h.2 with h0 | ⟨g, cap, cur, e1, e2, hh, r⟩
  · exact .inl h0
  · exact .inr ⟨g, cap, cur, e1, e2, by rw [k.block g (Array.getElem?_eq_some_iff.1 hh).1 (by omega)]; exact hh, r⟩
theorem lit_row (w : World) (x : Int) : (w.alloc (.cells #[.int .i64 x] 3)).ownsRow w.heap.size 3 1 (.slice (some ⟨w.heap.size, 0, none⟩) 1 1) [x].length ([x].map (Value.int .i64)) :=
  World.ownsRow_lit w #[.int .i64 x] 1 (Nat.le_refl _) (by unfold maxLen; omega) rfl
theorem lit_row' (w : World) (x : Int) (B : Nat) (hB : B = w.heap.size) : (w.alloc (.cells #[.int .i64 x] 3)).ownsRow B 3 1 (.slice (some ⟨B, 0, none⟩) 1 1) [x].length ([x].map (Value.int .i64)) := hB ▸ lit_row w x
theorem drawn_len {ar : List Int} (h : drawn ar) : ar.length ≤ 6 := by rcases h with rfl | rfl | rfl | rfl | rfl <;> simp
theorem drawn_get {ar : List Int} (h : drawn ar) (n : Nat) : 0 ≤ ar.getD n 0 ∧ ar.getD n 0 ≤ 3 := by
  have hl := drawn_len h
  by_cases hn : n < ar.length
  · have : ∀ x ∈ ar, 0 ≤ x ∧ x ≤ 3 := by rcases h with rfl | rfl | rfl | rfl | rfl <;> simp
    exact this _ (by simp [List.getD, hn])
  · simp [List.getD, hn]
/-- How long a term of the draws may be, and how many bytes it may take. -/
def tl : Nat → Nat
  | 0 => 1
  | d + 1 => 1 + 3 * tl d
def dk : Nat → Nat
  | 0 => 8
  | d + 1 => 8 + 3 * dk d
theorem tl_pos (d : Nat) : 1 ≤ tl d := by cases d <;> simp [tl]
theorem tl_le (d : Nat) (h : d ≤ 5) : tl d ≤ 400 := by
  match d, h with
  | 0, _ => simp [tl]
  | 1, _ => simp [tl]
  | 2, _ => simp [tl]
  | 3, _ => simp [tl]
  | 4, _ => simp [tl]
  | 5, _ => simp [tl]
theorem dk_le (d : Nat) (h : d ≤ 5) : dk d ≤ 4000 := by
  match d, h with
  | 0, _ => simp [dk]
  | 1, _ => simp [dk]
  | 2, _ => simp [dk]
  | 3, _ => simp [dk]
  | 4, _ => simp [dk]
  | 5, _ => simp [dk]
theorem open_sym {ar : List Int} {x : Nat} (hx : x < ar.length) (s : List Int) (h : seqT ar (ar.getD x 0).toNat s) : seqT ar 1 ((x : Int) :: s) := by
  refine seqT_cons.2 ⟨by unfold okSym inB; simp; omega, ?_⟩
  have : arOf ar (x : Int) = (ar.getD x 0).toNat := by unfold arOf; rw [if_neg (by omega)]; rfl
  rw [this, Nat.zero_add]; exact h
theorem seq_nil (ar : List Int) : seqT ar 0 [] := rfl
theorem seq_var {ar : List Int} (hl : 0 < ar.length) {x : Nat} (hx : x < 12) : seqT ar 1 [-1 - (x : Int)] := by
  refine seqT_cons.2 ⟨by unfold okSym inB; simp; omega, ?_⟩
  rw [arOf_neg (by omega)]; exact seq_nil ar
theorem seq_zero {ar : List Int} (hg : goodSign ar = true) : seqT ar 1 [0] := by
  have h1 := sign_len ar hg
  have h0 : ar.getD 0 0 = 0 := by
    simp only [goodSign, Bool.and_eq_true] at hg
    simpa using hg.2
  have := open_sym (ar := ar) (x := 0) (by omega) [] (by rw [h0]; exact seq_nil ar)
  exact this
/-- A term of the draws: of the call's own; a term where the signature is one. -/
def RetTm (ar : List Int) (b n k d L : Nat) (w : World) (e : Ending) (w' : World) : Prop :=
  ∃ (ad : Option Addr) (m c : Nat) (t : List Int) (k' : Nat), e = .returned (.slice ad m c) ∧ w'.ownsRow w.heap.size 3 1 (.slice ad m c) t.length (t.map (Value.int .i64)) ∧ 1 ≤ t.length ∧ t.length ≤ L ∧ (goodSign ar = true → seqT ar 1 t) ∧ k ≤ k' ∧ k' ≤ k + d ∧ Cur b n k' w' ∧ Chg b (b+1) w w'

set_option maxRecDepth 100000 in
set_option maxHeartbeats 2000000 in
theorem term_c (b n : Nat) (hn : n ≤ 1099511627776) : ∀ (deep : Nat), 1 ≤ deep → deep ≤ 5 → ∀ (k vars lo hi : Nat) (v : Value) (ar : List Int) (w : World), drawn ar → b < lo → vars ≤ 12 → k + dk deep ≤ 549755813888 → Cur b n k w → SlI lo hi w v ar →
    Calls Try.prog 85 #[.pointer (some ⟨b, 0, none⟩), .agg #[v], .int .i64 deep, .int .i64 vars] w (RetTm ar b n k (dk deep) (tl deep) w) := by
  intro deep
  induction deep with
  | zero => intro h; omega
  | succ d ih =>
    intro _ hd5 k vars lo hi v ar w hdr hblo hvars hk hc hv
    have hbl := hc.lt
    have hal := drawn_len hdr
    have hag := drawn_get hdr
    have hdk := dk_le d (by omega)
    have htl := tl_le d (by omega)
    have htp := tl_pos d
    have hDK : Hid (dk (d+1) = 8 + 3 * dk d) := rfl
    have hTL : Hid (tl (d+1) = 1 + 3 * tl d) := rfl
    have hkd : k + (8 + 3 * dk d) ≤ 549755813888 := hk
    clear hk
    generalize dk (d+1) = DK at *
    generalize tl (d+1) = TL at *
    obtain ⟨va, vc, rfl⟩ := hv.form
    have hv1 := hv.alloc (.cells #[.slice va ar.length vc] 26)
    have hc1 := hc.below (Bel.alloc0 w (.cells #[.slice va ar.length vc] 26))
    have hbox : (w.alloc (.cells #[.slice va ar.length vc] 26)).cell? ⟨w.heap.size, 0, none⟩ = some (.slice va ar.length vc) := by rw [World.cell?_alloc_new w]; rfl
    have hB0 : Bel w (w.alloc (.cells #[.slice va ar.length vc] 26)) := Bel.alloc0 _ _
    have hz0 : (w.alloc (.cells #[.slice va ar.length vc] 26)).heap.size = w.heap.size + 1 := by simp
    obtain ⟨i0, hi0, hz0', hz1, hz2⟩ := info_parts Try.info3
    generalize hzv : (vars : Int) = zv
    have HZV := Lib.hid hzv
    have hzv0 : 0 ≤ zv := by omega
    clear hzv
    generalize hzd : ((d + 1 : Nat) : Int) = zd
    have HZ := Lib.hid hzd
    clear hzd
    go_enter Try.func85, Try.ntmps85
    rcases Nat.eq_zero_or_pos ar.length with h0 | hpos
    · obtain rfl : ar = [] := List.length_eq_zero_iff.1 h0
      simp only [List.length_nil] at hbox
      go_wp2_with fail
      go_ret
      exact ⟨_, 1, 1, [0], k, rfl, row_mono (lit_row' _ 0 _ (by simp)) (by simp), by simp, by have := hTL.out; simp; omega, fun h => by simp [goodSign, inB] at h, Nat.le_refl _, by omega, hc1.below (Bel.alloc0 _ _), Chg.of_bel (Bel.alloc2 _ _ _)⟩
    · have hne : ((ar.length : Int) == 0) = false := by rw [beq_eq_false_iff_ne]; omega
      by_cases hv0 : 0 < zv
      · go_wp2_with fail
        refine (one_c b n k _ 3 _ rfl hn (by omega) (by omega) hc1).mono ?_; rintro e w1 ⟨q, k1, rfl, hk1, hk2, hcW, hgW⟩
        have hbW0 := hgW.cell (by simp) (by omega) hbox
        cases q with
        | true =>
          go_wp2_with fail
          refine (pick_c b n k1 zv vars _ HZV.out.symm hn (by omega) (by omega) hcW).mono ?_; rintro e w2 ⟨x, k2, rfl, hx, hk3, hk4, hc3, hg2⟩
          have hw26 := IntWalk.i64_in (-1 - (x : Int)) (by omega)
          have hvp : 0 < vars := by have := HZV.out; omega
          go_wp2_with fail
          go_ret
          have hg3 := hgW.trans hg2
          have hB := (Chg.of_bel (lo := b) (hi := b+1) hB0).trans hg3
          exact ⟨_, 1, 1, [-1 - (x : Int)], k2, rfl, row_mono (lit_row w2 _) (by have := hg3.size; simp at this; omega), by simp, by have := hTL.out; simp; omega, fun _ => seq_var hpos (by omega), by omega, by have := hDK.out; omega, hc3.below (Bel.alloc0 _ _), hB.trans (Chg.of_bel (Bel.alloc0 _ _))⟩
        | false =>
          go_wp2_with fail
          refine (pick_c b n k1 _ ar.length _ rfl hn (by omega) (by omega) hcW).mono ?_; rintro e w2 ⟨x, k2, rfl, hx, hk3, hk4, hc3, hg2⟩
          have hx6 : x < ar.length := by omega
          replace hgW := hgW.trans hg2
          replace hcW := hc3
          have hbW := hgW.cell (by simp) (by omega) hbox
          have hv2 := hv1.chg hgW (by omega)
          obtain ⟨sb, so, rfl, hsb, hcellA⟩ := hv2.at x hx6
          have hax := hag x
          have HOp := Lib.hid (open_sym (ar := ar) hx6)
          generalize ar.getD x 0 = a1 at *
          have hxl : (x : Int) < ar.length := by omega
          clear hc3 hg2
          by_cases ha0 : 0 < a1
          · by_cases hd0 : d = 0
            · have hdle : zd ≤ 1 := by have := HZ.out; omega
              go_wp2_with fail
              refine (pick_c b n k2 _ ar.length _ rfl hn (by omega) (by omega) hcW).mono ?_; rintro e w5 ⟨y, k5, rfl, hy, hk5, hk6, hc5, hg5⟩
              have hy6 : y / 2 < ar.length := by omega
              clear hcellA hbW hv2 hsb HOp
              clear hax
              replace hgW := hgW.trans hg5
              replace hcW := hc5
              have hbW := hgW.cell (by simp) (by omega) hbox
              have hv2 := hv1.chg hgW (by omega)
              obtain ⟨sb2, so2, e2, hsb, hcellA⟩ := hv2.at (y / 2) hy6
              simp only [Option.some.injEq, Addr.mk.injEq, and_true] at e2
              obtain ⟨rfl, rfl⟩ := e2
              have hax := hag (y / 2)
              have hyl : ((y : Int) / 2) < ar.length := by omega
              have hyt : ((y : Int) / 2).toNat = y / 2 := by omega
              have hy0 : 0 ≤ (y : Int) / 2 := by omega
              have hyc : (((y / 2 : Nat)) : Int) = (y : Int) / 2 := by omega
              have HOp := open_sym (ar := ar) hy6
              rw [hyc] at HOp
              replace HOp := Lib.hid HOp
              clear hc5 hg5
              generalize ar.getD (y / 2) 0 = a2 at *
              have hcellB := hcellA
              rw [← hyt] at hcellA
              clear hyt
              by_cases ha2 : 0 < a2
              · go_wp2_with fail
                go_ret
                have hB := (Chg.of_bel (lo := b) (hi := b+1) hB0).trans hgW
                exact ⟨_, 1, 1, [0], k5, rfl, row_mono (lit_row w5 0) (by have := hgW.size; simp at this; omega), by simp, by have := hTL.out; simp; omega, fun hgs => seq_zero hgs, by omega, by have := hDK.out; omega, hcW.below (Bel.alloc0 _ _), hB.trans (Chg.of_bel (Bel.alloc0 _ _))⟩
              · have ha2d : ¬ 0 < a2 := ha2
                have hq : (a2.toNat : Int) = a2 := by omega
                have hq3 : a2.toNat ≤ 3 := by omega
                have hszW := hgW.size
                simp only [World.size_alloc] at hszW
                have hbW4 := (Bel.alloc0 w5 (.cells #[.int .i64 ((y : Int) / 2)] 3)).at (by omega) hbW
                have hcell4 := (Bel.alloc0 w5 (.cells #[.int .i64 ((y : Int) / 2)] 3)).at hsb hcellA
                have hcell5 := (Bel.alloc0 w5 (.cells #[.int .i64 ((y : Int) / 2)] 3)).at hsb hcellB
                have hrow := row_mono (lit_row w5 ((y : Int) / 2)) (show w.heap.size + 1 ≤ w5.heap.size by omega)
                have hcW4 := hcW.below (Bel.alloc0 w5 (.cells #[.int .i64 ((y : Int) / 2)] 3))
                have hgW4 := hgW.trans (Chg.of_bel (Bel.alloc0 w5 (.cells #[.int .i64 ((y : Int) / 2)] 3)))
                have HR := Lib.hid (And.intro hrow (And.intro hcW4 (And.intro hgW4 HOp.out)))
                clear hrow hcW4 hgW4 hcW hgW HOp
                go_wp2_with fail
                go_loopw [10, 11] (fun vo i wr => ∃ (j : Nat) (acc : List Int) (k9 : Nat), j ≤ a2.toNat ∧ i = .int .i64 j ∧ wr.ownsRow (w.heap.size + 1) 3 1 vo acc.length (acc.map (Value.int .i64)) ∧ 1 ≤ acc.length ∧ acc.length ≤ 1 + (3 - j) * tl d ∧ k5 ≤ k9 ∧ k9 ≤ k5 + (3 - j) * dk d ∧ Cur b n k9 wr ∧ Chg b (b+1) (w.alloc (.cells #[.slice (some ⟨sb, so, none⟩) ar.length vc] 26)) wr ∧ Hid (goodSign ar = true → ∀ s, seqT ar j s → seqT ar 1 (acc ++ s))) (fun _ i _ => (intOf i).toNat)
                case atStart => exact ⟨a2.toNat, [(y : Int) / 2], k5, Nat.le_refl _, by rw [hq], HR.out.1, by simp, by simp, Nat.le_refl _, by omega, HR.out.2.1, HR.out.2.2.1, Lib.hid (fun _ s h => HR.out.2.2.2 s h)⟩
                case round =>
                  obtain ⟨j, acc, k9, hj, rfl, hown, ha1, ha2, hk91, hk92, hc9, hg9, hop9⟩ := hrel
                  have hsz9 := hg9.size
                  simp only [World.size_alloc] at hsz9
                  by_cases hj0 : 0 < j
                  · exact absurd hj0 (by omega)
                  · obtain rfl : j = 0 := by omega
                    obtain ⟨ao, no, co, rfl⟩ := own_form hown
                    have hB := (Chg.of_bel (lo := b) (hi := b+1) hB0).trans hg9
                    have hDK2 := hDK.out
                    have hTL2 := hTL.out
                    clear hcell4 hbW4
                    go_wp2_with fail
                    go_ret
                    exact ⟨ao, no, co, acc, k9, rfl, row_mono hown (by omega), ha1, by omega, fun hgs => (by have := hop9.out hgs [] (seq_nil ar); rwa [List.append_nil] at this), by omega, by omega, hc9, hB⟩
            · have hdle : ¬ zd ≤ 1 := by have := HZ.out; omega
              have hq : (a1.toNat : Int) = a1 := by omega
              have hq3 : a1.toNat ≤ 3 := by omega
              have hszW := hgW.size
              simp only [World.size_alloc] at hszW
              have hbW4 := (Bel.alloc0 w2 (.cells #[.int .i64 ((x : Int))] 3)).at (by omega) hbW
              have hcell4 := (Bel.alloc0 w2 (.cells #[.int .i64 ((x : Int))] 3)).at hsb hcellA
              have hrow := row_mono (lit_row w2 ((x : Int))) (show w.heap.size + 1 ≤ w2.heap.size by omega)
              have hcW4 := hcW.below (Bel.alloc0 w2 (.cells #[.int .i64 ((x : Int))] 3))
              have hgW4 := hgW.trans (Chg.of_bel (Bel.alloc0 w2 (.cells #[.int .i64 ((x : Int))] 3)))
              have HR := Lib.hid (And.intro hrow (And.intro hcW4 (And.intro hgW4 HOp.out)))
              clear hrow hcW4 hgW4 hcW hgW HOp
              go_wp2_with fail
              go_loopw [10, 11] (fun vo i wr => ∃ (j : Nat) (acc : List Int) (k9 : Nat), j ≤ a1.toNat ∧ i = .int .i64 j ∧ wr.ownsRow (w.heap.size + 1) 3 1 vo acc.length (acc.map (Value.int .i64)) ∧ 1 ≤ acc.length ∧ acc.length ≤ 1 + (3 - j) * tl d ∧ k2 ≤ k9 ∧ k9 ≤ k2 + (3 - j) * dk d ∧ Cur b n k9 wr ∧ Chg b (b+1) (w.alloc (.cells #[.slice (some ⟨sb, so, none⟩) ar.length vc] 26)) wr ∧ Hid (goodSign ar = true → ∀ s, seqT ar j s → seqT ar 1 (acc ++ s))) (fun _ i _ => (intOf i).toNat)
              case atStart => exact ⟨a1.toNat, [(x : Int)], k2, Nat.le_refl _, by rw [hq], HR.out.1, by simp, by simp, Nat.le_refl _, by omega, HR.out.2.1, HR.out.2.2.1, Lib.hid (fun _ s h => HR.out.2.2.2 s h)⟩
              case round =>
                obtain ⟨j, acc, k9, hj, rfl, hown, ha1, ha2, hk91, hk92, hc9, hg9, hop9⟩ := hrel
                have hsz9 := hg9.size
                simp only [World.size_alloc] at hsz9
                by_cases hj0 : 0 < j
                · have hd1 : 1 ≤ d := by omega
                  have hbx9 := hg9.cell (by simp) (by omega) hbox
                  have hv9 := hv1.chg hg9 (by omega)
                  have hm1 : (3 - (j - 1)) * tl d = (3 - j) * tl d + tl d := by
                    have : 3 - (j - 1) = (3 - j) + 1 := by omega
                    rw [this, Nat.add_mul, Nat.one_mul]
                  have hm2 : (3 - (j - 1)) * dk d = (3 - j) * dk d + dk d := by
                    have : 3 - (j - 1) = (3 - j) + 1 := by omega
                    rw [this, Nat.add_mul, Nat.one_mul]
                  have hm3 : (3 - j) * dk d ≤ 3 * dk d := Nat.mul_le_mul_right _ (by omega)
                  have hm4 : (3 - j) * tl d ≤ 3 * tl d := Nat.mul_le_mul_right _ (by omega)
                  have hm5 : (3 - (j - 1)) * dk d ≤ 3 * dk d := Nat.mul_le_mul_right _ (by omega)
                  have HT := ih hd1 (by omega) k9 vars lo hi _ ar wr hdr hblo hvars (by omega) hc9 hv9
                  have hzd2 : zd - 1 = d := by have := HZ.out; omega
                  rw [HZV.out] at HT
                  replace HT := Lib.hid HT
                  have hw75 := IntWalk.i64_in (zd - 1) (by omega)
                  have hw70 := IntWalk.i64_in ((j : Int) - 1) (by omega)
                  have HM := Lib.hid (And.intro hm1 (And.intro hm2 (And.intro hm3 hm4)))
                  clear hm1 hm2 hm3 hm4 hm5 hcell4 hbW4
                  go_wp2_with (first | (go_at_call 85; refine HT.out.mono ?_; rintro e w7 ⟨a7, m7, c7, t7, k7, rfl, hrow7, ht1, ht2, hseq7, hk71, hk72, hc7, hg7⟩; have hm7 : m7 = t7.length := row_len hrow7; subst hm7; have hown7 := row_chg hown (by omega) hg7; have hs7 := (OwnI.of_row hrow7).sl; obtain ⟨tb, tof, tc, e7, -⟩ := hs7.plain (by omega); cases e7; have hn7 := news_of_sl hs7; have hsz7 := hg7.size) | (at_builtin; refine wpList_append_own _ rfl _ _ 24 rfl (w.heap.size + 1) 3 i0 (.int .i64 0) 1 8 Try.underlying24 hi0 hz0' hz1 hz2 rfl (by decide) _ _ _ rfl hown7 _ t7.length _ (t7.map (Value.int .i64)) rfl (by simp) hn7 (ones_int _) (by unfold maxLen; have := HM.out.2.2.2; omega) (by have := HM.out.2.2.2; omega) (by omega) ?_; intro v' w8 hown' hgrow _))
                  obtain ⟨hm1, hm2, hm3, hm4⟩ := HM.out
                  have hg8 : Chg (w.heap.size + 1) w8.heap.size w7 w8 := ⟨hgrow.os, hgrow.tape, hgrow.output, hgrow.size, fun i hi ho => hgrow.block i hi (fun e => by have := own_base hown7 i e.symm; have := hgrow.size; omega)⟩
                  have hown8 : w8.ownsRow (w.heap.size + 1) 3 1 v' (acc ++ t7).length ((acc ++ t7).map (Value.int .i64)) := by simpa using hown'
                  have hop8 : Hid (goodSign ar = true → ∀ s, seqT ar (j - 1) s → seqT ar 1 ((acc ++ t7) ++ s)) := Lib.hid (fun hgs s hs => by
                    rw [List.append_assoc]
                    refine hop9.out hgs (t7 ++ s) ?_
                    have := seqT_append (hseq7 hgs) hs
                    rwa [show 1 + (j - 1) = j by omega] at this)
                  go_roundw
                  case rel => exact ⟨j - 1, acc ++ t7, k7, by omega, by go_num, hown8, by simp; omega, by rw [List.length_append, hm1]; omega, by omega, by rw [hm2]; omega, hc7.chg hg8 (by omega), (hg9.trans hg7).news hg8 (by simp), hop8⟩
                  case measure => simp [intOf]; omega
                · obtain rfl : j = 0 := by omega
                  obtain ⟨ao, no, co, rfl⟩ := own_form hown
                  have hB := (Chg.of_bel (lo := b) (hi := b+1) hB0).trans hg9
                  have hDK2 := hDK.out
                  have hTL2 := hTL.out
                  clear hcell4 hbW4
                  go_wp2_with fail
                  go_ret
                  exact ⟨ao, no, co, acc, k9, rfl, row_mono hown (by omega), ha1, by omega, fun hgs => (by have := hop9.out hgs [] (seq_nil ar); rwa [List.append_nil] at this), by omega, by omega, hc9, hB⟩
          · have ha1d : ¬ 0 < a1 := ha0
            have hq : (a1.toNat : Int) = a1 := by omega
            have hq3 : a1.toNat ≤ 3 := by omega
            have hszW := hgW.size
            simp only [World.size_alloc] at hszW
            have hbW4 := (Bel.alloc0 w2 (.cells #[.int .i64 ((x : Int))] 3)).at (by omega) hbW
            have hcell4 := (Bel.alloc0 w2 (.cells #[.int .i64 ((x : Int))] 3)).at hsb hcellA
            have hrow := row_mono (lit_row w2 ((x : Int))) (show w.heap.size + 1 ≤ w2.heap.size by omega)
            have hcW4 := hcW.below (Bel.alloc0 w2 (.cells #[.int .i64 ((x : Int))] 3))
            have hgW4 := hgW.trans (Chg.of_bel (Bel.alloc0 w2 (.cells #[.int .i64 ((x : Int))] 3)))
            have HR := Lib.hid (And.intro hrow (And.intro hcW4 (And.intro hgW4 HOp.out)))
            clear hrow hcW4 hgW4 hcW hgW HOp
            go_wp2_with fail
            go_loopw [10, 11] (fun vo i wr => ∃ (j : Nat) (acc : List Int) (k9 : Nat), j ≤ a1.toNat ∧ i = .int .i64 j ∧ wr.ownsRow (w.heap.size + 1) 3 1 vo acc.length (acc.map (Value.int .i64)) ∧ 1 ≤ acc.length ∧ acc.length ≤ 1 + (3 - j) * tl d ∧ k2 ≤ k9 ∧ k9 ≤ k2 + (3 - j) * dk d ∧ Cur b n k9 wr ∧ Chg b (b+1) (w.alloc (.cells #[.slice (some ⟨sb, so, none⟩) ar.length vc] 26)) wr ∧ Hid (goodSign ar = true → ∀ s, seqT ar j s → seqT ar 1 (acc ++ s))) (fun _ i _ => (intOf i).toNat)
            case atStart => exact ⟨a1.toNat, [(x : Int)], k2, Nat.le_refl _, by rw [hq], HR.out.1, by simp, by simp, Nat.le_refl _, by omega, HR.out.2.1, HR.out.2.2.1, Lib.hid (fun _ s h => HR.out.2.2.2 s h)⟩
            case round =>
              obtain ⟨j, acc, k9, hj, rfl, hown, ha1, ha2, hk91, hk92, hc9, hg9, hop9⟩ := hrel
              have hsz9 := hg9.size
              simp only [World.size_alloc] at hsz9
              by_cases hj0 : 0 < j
              · exact absurd hj0 (by omega)
              · obtain rfl : j = 0 := by omega
                obtain ⟨ao, no, co, rfl⟩ := own_form hown
                have hB := (Chg.of_bel (lo := b) (hi := b+1) hB0).trans hg9
                have hDK2 := hDK.out
                have hTL2 := hTL.out
                clear hcell4 hbW4
                go_wp2_with fail
                go_ret
                exact ⟨ao, no, co, acc, k9, rfl, row_mono hown (by omega), ha1, by omega, fun hgs => (by have := hop9.out hgs [] (seq_nil ar); rwa [List.append_nil] at this), by omega, by omega, hc9, hB⟩
      · have hk1 : k ≤ k := Nat.le_refl _
        have hk2 : k ≤ k + 2 := by omega
        have hcW := hc1
        have hgW := Chg.refl b (b+1) (w.alloc (.cells #[.slice va ar.length vc] 26))
        go_wp2_with fail
        refine (pick_c b n k _ ar.length _ rfl hn (by omega) (by omega) hcW).mono ?_; rintro e w2 ⟨x, k2, rfl, hx, hk3, hk4, hc3, hg2⟩
        have hx6 : x < ar.length := by omega
        replace hgW := hgW.trans hg2
        replace hcW := hc3
        have hbW := hgW.cell (by simp) (by omega) hbox
        have hv2 := hv1.chg hgW (by omega)
        obtain ⟨sb, so, rfl, hsb, hcellA⟩ := hv2.at x hx6
        have hax := hag x
        have HOp := Lib.hid (open_sym (ar := ar) hx6)
        generalize ar.getD x 0 = a1 at *
        have hxl : (x : Int) < ar.length := by omega
        clear hc3 hg2
        by_cases ha0 : 0 < a1
        · by_cases hd0 : d = 0
          · have hdle : zd ≤ 1 := by have := HZ.out; omega
            go_wp2_with fail
            refine (pick_c b n k2 _ ar.length _ rfl hn (by omega) (by omega) hcW).mono ?_; rintro e w5 ⟨y, k5, rfl, hy, hk5, hk6, hc5, hg5⟩
            have hy6 : y / 2 < ar.length := by omega
            clear hcellA hbW hv2 hsb HOp
            clear hax
            replace hgW := hgW.trans hg5
            replace hcW := hc5
            have hbW := hgW.cell (by simp) (by omega) hbox
            have hv2 := hv1.chg hgW (by omega)
            obtain ⟨sb2, so2, e2, hsb, hcellA⟩ := hv2.at (y / 2) hy6
            simp only [Option.some.injEq, Addr.mk.injEq, and_true] at e2
            obtain ⟨rfl, rfl⟩ := e2
            have hax := hag (y / 2)
            have hyl : ((y : Int) / 2) < ar.length := by omega
            have hyt : ((y : Int) / 2).toNat = y / 2 := by omega
            have hy0 : 0 ≤ (y : Int) / 2 := by omega
            have hyc : (((y / 2 : Nat)) : Int) = (y : Int) / 2 := by omega
            have HOp := open_sym (ar := ar) hy6
            rw [hyc] at HOp
            replace HOp := Lib.hid HOp
            clear hc5 hg5
            generalize ar.getD (y / 2) 0 = a2 at *
            have hcellB := hcellA
            rw [← hyt] at hcellA
            clear hyt
            by_cases ha2 : 0 < a2
            · go_wp2_with fail
              go_ret
              have hB := (Chg.of_bel (lo := b) (hi := b+1) hB0).trans hgW
              exact ⟨_, 1, 1, [0], k5, rfl, row_mono (lit_row w5 0) (by have := hgW.size; simp at this; omega), by simp, by have := hTL.out; simp; omega, fun hgs => seq_zero hgs, by omega, by have := hDK.out; omega, hcW.below (Bel.alloc0 _ _), hB.trans (Chg.of_bel (Bel.alloc0 _ _))⟩
            · have ha2d : ¬ 0 < a2 := ha2
              have hq : (a2.toNat : Int) = a2 := by omega
              have hq3 : a2.toNat ≤ 3 := by omega
              have hszW := hgW.size
              simp only [World.size_alloc] at hszW
              have hbW4 := (Bel.alloc0 w5 (.cells #[.int .i64 ((y : Int) / 2)] 3)).at (by omega) hbW
              have hcell4 := (Bel.alloc0 w5 (.cells #[.int .i64 ((y : Int) / 2)] 3)).at hsb hcellA
              have hcell5 := (Bel.alloc0 w5 (.cells #[.int .i64 ((y : Int) / 2)] 3)).at hsb hcellB
              have hrow := row_mono (lit_row w5 ((y : Int) / 2)) (show w.heap.size + 1 ≤ w5.heap.size by omega)
              have hcW4 := hcW.below (Bel.alloc0 w5 (.cells #[.int .i64 ((y : Int) / 2)] 3))
              have hgW4 := hgW.trans (Chg.of_bel (Bel.alloc0 w5 (.cells #[.int .i64 ((y : Int) / 2)] 3)))
              have HR := Lib.hid (And.intro hrow (And.intro hcW4 (And.intro hgW4 HOp.out)))
              clear hrow hcW4 hgW4 hcW hgW HOp
              go_wp2_with fail
              go_loopw [10, 11] (fun vo i wr => ∃ (j : Nat) (acc : List Int) (k9 : Nat), j ≤ a2.toNat ∧ i = .int .i64 j ∧ wr.ownsRow (w.heap.size + 1) 3 1 vo acc.length (acc.map (Value.int .i64)) ∧ 1 ≤ acc.length ∧ acc.length ≤ 1 + (3 - j) * tl d ∧ k5 ≤ k9 ∧ k9 ≤ k5 + (3 - j) * dk d ∧ Cur b n k9 wr ∧ Chg b (b+1) (w.alloc (.cells #[.slice (some ⟨sb, so, none⟩) ar.length vc] 26)) wr ∧ Hid (goodSign ar = true → ∀ s, seqT ar j s → seqT ar 1 (acc ++ s))) (fun _ i _ => (intOf i).toNat)
              case atStart => exact ⟨a2.toNat, [(y : Int) / 2], k5, Nat.le_refl _, by rw [hq], HR.out.1, by simp, by simp, Nat.le_refl _, by omega, HR.out.2.1, HR.out.2.2.1, Lib.hid (fun _ s h => HR.out.2.2.2 s h)⟩
              case round =>
                obtain ⟨j, acc, k9, hj, rfl, hown, ha1, ha2, hk91, hk92, hc9, hg9, hop9⟩ := hrel
                have hsz9 := hg9.size
                simp only [World.size_alloc] at hsz9
                by_cases hj0 : 0 < j
                · exact absurd hj0 (by omega)
                · obtain rfl : j = 0 := by omega
                  obtain ⟨ao, no, co, rfl⟩ := own_form hown
                  have hB := (Chg.of_bel (lo := b) (hi := b+1) hB0).trans hg9
                  have hDK2 := hDK.out
                  have hTL2 := hTL.out
                  clear hcell4 hbW4
                  go_wp2_with fail
                  go_ret
                  exact ⟨ao, no, co, acc, k9, rfl, row_mono hown (by omega), ha1, by omega, fun hgs => (by have := hop9.out hgs [] (seq_nil ar); rwa [List.append_nil] at this), by omega, by omega, hc9, hB⟩
          · have hdle : ¬ zd ≤ 1 := by have := HZ.out; omega
            have hq : (a1.toNat : Int) = a1 := by omega
            have hq3 : a1.toNat ≤ 3 := by omega
            have hszW := hgW.size
            simp only [World.size_alloc] at hszW
            have hbW4 := (Bel.alloc0 w2 (.cells #[.int .i64 ((x : Int))] 3)).at (by omega) hbW
            have hcell4 := (Bel.alloc0 w2 (.cells #[.int .i64 ((x : Int))] 3)).at hsb hcellA
            have hrow := row_mono (lit_row w2 ((x : Int))) (show w.heap.size + 1 ≤ w2.heap.size by omega)
            have hcW4 := hcW.below (Bel.alloc0 w2 (.cells #[.int .i64 ((x : Int))] 3))
            have hgW4 := hgW.trans (Chg.of_bel (Bel.alloc0 w2 (.cells #[.int .i64 ((x : Int))] 3)))
            have HR := Lib.hid (And.intro hrow (And.intro hcW4 (And.intro hgW4 HOp.out)))
            clear hrow hcW4 hgW4 hcW hgW HOp
            go_wp2_with fail
            go_loopw [10, 11] (fun vo i wr => ∃ (j : Nat) (acc : List Int) (k9 : Nat), j ≤ a1.toNat ∧ i = .int .i64 j ∧ wr.ownsRow (w.heap.size + 1) 3 1 vo acc.length (acc.map (Value.int .i64)) ∧ 1 ≤ acc.length ∧ acc.length ≤ 1 + (3 - j) * tl d ∧ k2 ≤ k9 ∧ k9 ≤ k2 + (3 - j) * dk d ∧ Cur b n k9 wr ∧ Chg b (b+1) (w.alloc (.cells #[.slice (some ⟨sb, so, none⟩) ar.length vc] 26)) wr ∧ Hid (goodSign ar = true → ∀ s, seqT ar j s → seqT ar 1 (acc ++ s))) (fun _ i _ => (intOf i).toNat)
            case atStart => exact ⟨a1.toNat, [(x : Int)], k2, Nat.le_refl _, by rw [hq], HR.out.1, by simp, by simp, Nat.le_refl _, by omega, HR.out.2.1, HR.out.2.2.1, Lib.hid (fun _ s h => HR.out.2.2.2 s h)⟩
            case round =>
              obtain ⟨j, acc, k9, hj, rfl, hown, ha1, ha2, hk91, hk92, hc9, hg9, hop9⟩ := hrel
              have hsz9 := hg9.size
              simp only [World.size_alloc] at hsz9
              by_cases hj0 : 0 < j
              · have hd1 : 1 ≤ d := by omega
                have hbx9 := hg9.cell (by simp) (by omega) hbox
                have hv9 := hv1.chg hg9 (by omega)
                have hm1 : (3 - (j - 1)) * tl d = (3 - j) * tl d + tl d := by
                  have : 3 - (j - 1) = (3 - j) + 1 := by omega
                  rw [this, Nat.add_mul, Nat.one_mul]
                have hm2 : (3 - (j - 1)) * dk d = (3 - j) * dk d + dk d := by
                  have : 3 - (j - 1) = (3 - j) + 1 := by omega
                  rw [this, Nat.add_mul, Nat.one_mul]
                have hm3 : (3 - j) * dk d ≤ 3 * dk d := Nat.mul_le_mul_right _ (by omega)
                have hm4 : (3 - j) * tl d ≤ 3 * tl d := Nat.mul_le_mul_right _ (by omega)
                have hm5 : (3 - (j - 1)) * dk d ≤ 3 * dk d := Nat.mul_le_mul_right _ (by omega)
                have HT := ih hd1 (by omega) k9 vars lo hi _ ar wr hdr hblo hvars (by omega) hc9 hv9
                have hzd2 : zd - 1 = d := by have := HZ.out; omega
                rw [HZV.out] at HT
                replace HT := Lib.hid HT
                have hw75 := IntWalk.i64_in (zd - 1) (by omega)
                have hw70 := IntWalk.i64_in ((j : Int) - 1) (by omega)
                have HM := Lib.hid (And.intro hm1 (And.intro hm2 (And.intro hm3 hm4)))
                clear hm1 hm2 hm3 hm4 hm5 hcell4 hbW4
                go_wp2_with (first | (go_at_call 85; refine HT.out.mono ?_; rintro e w7 ⟨a7, m7, c7, t7, k7, rfl, hrow7, ht1, ht2, hseq7, hk71, hk72, hc7, hg7⟩; have hm7 : m7 = t7.length := row_len hrow7; subst hm7; have hown7 := row_chg hown (by omega) hg7; have hs7 := (OwnI.of_row hrow7).sl; obtain ⟨tb, tof, tc, e7, -⟩ := hs7.plain (by omega); cases e7; have hn7 := news_of_sl hs7; have hsz7 := hg7.size) | (at_builtin; refine wpList_append_own _ rfl _ _ 24 rfl (w.heap.size + 1) 3 i0 (.int .i64 0) 1 8 Try.underlying24 hi0 hz0' hz1 hz2 rfl (by decide) _ _ _ rfl hown7 _ t7.length _ (t7.map (Value.int .i64)) rfl (by simp) hn7 (ones_int _) (by unfold maxLen; have := HM.out.2.2.2; omega) (by have := HM.out.2.2.2; omega) (by omega) ?_; intro v' w8 hown' hgrow _))
                obtain ⟨hm1, hm2, hm3, hm4⟩ := HM.out
                have hg8 : Chg (w.heap.size + 1) w8.heap.size w7 w8 := ⟨hgrow.os, hgrow.tape, hgrow.output, hgrow.size, fun i hi ho => hgrow.block i hi (fun e => by have := own_base hown7 i e.symm; have := hgrow.size; omega)⟩
                have hown8 : w8.ownsRow (w.heap.size + 1) 3 1 v' (acc ++ t7).length ((acc ++ t7).map (Value.int .i64)) := by simpa using hown'
                have hop8 : Hid (goodSign ar = true → ∀ s, seqT ar (j - 1) s → seqT ar 1 ((acc ++ t7) ++ s)) := Lib.hid (fun hgs s hs => by
                  rw [List.append_assoc]
                  refine hop9.out hgs (t7 ++ s) ?_
                  have := seqT_append (hseq7 hgs) hs
                  rwa [show 1 + (j - 1) = j by omega] at this)
                go_roundw
                case rel => exact ⟨j - 1, acc ++ t7, k7, by omega, by go_num, hown8, by simp; omega, by rw [List.length_append, hm1]; omega, by omega, by rw [hm2]; omega, hc7.chg hg8 (by omega), (hg9.trans hg7).news hg8 (by simp), hop8⟩
                case measure => simp [intOf]; omega
              · obtain rfl : j = 0 := by omega
                obtain ⟨ao, no, co, rfl⟩ := own_form hown
                have hB := (Chg.of_bel (lo := b) (hi := b+1) hB0).trans hg9
                have hDK2 := hDK.out
                have hTL2 := hTL.out
                clear hcell4 hbW4
                go_wp2_with fail
                go_ret
                exact ⟨ao, no, co, acc, k9, rfl, row_mono hown (by omega), ha1, by omega, fun hgs => (by have := hop9.out hgs [] (seq_nil ar); rwa [List.append_nil] at this), by omega, by omega, hc9, hB⟩
        · have ha1d : ¬ 0 < a1 := ha0
          have hq : (a1.toNat : Int) = a1 := by omega
          have hq3 : a1.toNat ≤ 3 := by omega
          have hszW := hgW.size
          simp only [World.size_alloc] at hszW
          have hbW4 := (Bel.alloc0 w2 (.cells #[.int .i64 ((x : Int))] 3)).at (by omega) hbW
          have hcell4 := (Bel.alloc0 w2 (.cells #[.int .i64 ((x : Int))] 3)).at hsb hcellA
          have hrow := row_mono (lit_row w2 ((x : Int))) (show w.heap.size + 1 ≤ w2.heap.size by omega)
          have hcW4 := hcW.below (Bel.alloc0 w2 (.cells #[.int .i64 ((x : Int))] 3))
          have hgW4 := hgW.trans (Chg.of_bel (Bel.alloc0 w2 (.cells #[.int .i64 ((x : Int))] 3)))
          have HR := Lib.hid (And.intro hrow (And.intro hcW4 (And.intro hgW4 HOp.out)))
          clear hrow hcW4 hgW4 hcW hgW HOp
          go_wp2_with fail
          go_loopw [10, 11] (fun vo i wr => ∃ (j : Nat) (acc : List Int) (k9 : Nat), j ≤ a1.toNat ∧ i = .int .i64 j ∧ wr.ownsRow (w.heap.size + 1) 3 1 vo acc.length (acc.map (Value.int .i64)) ∧ 1 ≤ acc.length ∧ acc.length ≤ 1 + (3 - j) * tl d ∧ k2 ≤ k9 ∧ k9 ≤ k2 + (3 - j) * dk d ∧ Cur b n k9 wr ∧ Chg b (b+1) (w.alloc (.cells #[.slice (some ⟨sb, so, none⟩) ar.length vc] 26)) wr ∧ Hid (goodSign ar = true → ∀ s, seqT ar j s → seqT ar 1 (acc ++ s))) (fun _ i _ => (intOf i).toNat)
          case atStart => exact ⟨a1.toNat, [(x : Int)], k2, Nat.le_refl _, by rw [hq], HR.out.1, by simp, by simp, Nat.le_refl _, by omega, HR.out.2.1, HR.out.2.2.1, Lib.hid (fun _ s h => HR.out.2.2.2 s h)⟩
          case round =>
            obtain ⟨j, acc, k9, hj, rfl, hown, ha1, ha2, hk91, hk92, hc9, hg9, hop9⟩ := hrel
            have hsz9 := hg9.size
            simp only [World.size_alloc] at hsz9
            by_cases hj0 : 0 < j
            · exact absurd hj0 (by omega)
            · obtain rfl : j = 0 := by omega
              obtain ⟨ao, no, co, rfl⟩ := own_form hown
              have hB := (Chg.of_bel (lo := b) (hi := b+1) hB0).trans hg9
              have hDK2 := hDK.out
              have hTL2 := hTL.out
              clear hcell4 hbW4
              go_wp2_with fail
              go_ret
              exact ⟨ao, no, co, acc, k9, rfl, row_mono hown (by omega), ha1, by omega, fun hgs => (by have := hop9.out hgs [] (seq_nil ar); rwa [List.append_nil] at this), by omega, by omega, hc9, hB⟩
end Go.Proofs.Ytlcjcihohclmhaa
end
section
/- The draws: any term. -/
namespace Go.Proofs.Ytlcjcihohclmhaa
open Go.RowKit

set_option maxRecDepth 100000 in
set_option maxHeartbeats 400000 in
theorem among_c (b n k lo hi : Nat) (v : Value) (l : List Int) (w : World) (hn : n ≤ 1099511627776) (hk : k ≤ 1099511627775) (hl0 : 0 < l.length) (hl : l.length ≤ 200) (hblo : b < lo) (hc : Cur b n k w) (hv : SlI lo hi w v l) :
    Calls Try.prog 68 #[.pointer (some ⟨b, 0, none⟩), v] w (fun e w' => ∃ (z : Int) (k' : Nat), e = .returned (.int .i64 z) ∧ z ∈ l ∧ k ≤ k' ∧ k' ≤ k + 2 ∧ Cur b n k' w' ∧ Chg b (b+1) w w') := by
  obtain ⟨ad, cap, rfl⟩ := hv.form
  go_enter Try.func68, Try.ntmps68
  go_wp2_with (go_at_call 48; refine (pick_c b n k _ l.length w rfl hn hk (by omega) hc).mono ?_; rintro e w1 ⟨x, k1, rfl, hx, hk1, hk2, hc1, hg1⟩; obtain ⟨bb, off, e1, -, hcell⟩ := (hv.chg hg1 (by omega)).at x (by omega); cases e1; have hxl : (x : Int) < l.length := by omega)
  go_ret
  exact ⟨l.getD x 0, k1, rfl, by rw [show l.getD x 0 = l[x]'(by omega) from by simp [List.getD, show x < l.length by omega]]; exact List.getElem_mem _, hk1, hk2, hc1, hg1⟩
theorem term_z (b n : Nat) (deep vars k lo hi : Nat) (z y : Int) (v : Value) (ar : List Int) (w : World) (hz : z = deep) (hy : y = vars) (hn : n ≤ 1099511627776) (h1 : 1 ≤ deep) (h5 : deep ≤ 5) (hdr : drawn ar) (hblo : b < lo) (hvars : vars ≤ 12) (hk : k ≤ 500000000000) (hc : Cur b n k w) (hv : SlI lo hi w v ar) :
    Calls Try.prog 85 #[.pointer (some ⟨b, 0, none⟩), .agg #[v], .int .i64 z, .int .i64 y] w (RetTm ar b n k 4000 (tl deep) w) := by
  subst hz hy
  have hd := dk_le deep h5
  refine (term_c b n hn deep h1 h5 k vars lo hi v ar w hdr hblo hvars (by omega) hc hv).mono ?_
  rintro e w' ⟨ad, m, c, t, k', h⟩
  exact ⟨ad, m, c, t, k', h.1, h.2.1, h.2.2.1, h.2.2.2.1, h.2.2.2.2.1, h.2.2.2.2.2.1, by have := h.2.2.2.2.2.2.1; omega, h.2.2.2.2.2.2.2⟩
theorem row_off {w : World} {base e m n c g o : Nat} {xs : List Value} (h : w.ownsRow base e 1 (.slice (some ⟨g, o, none⟩) n c) m xs) : o = 0 := by
  rcases h.2 with ⟨e1, _⟩ | ⟨g', cap, cur, e1, _⟩
  · simp at e1
  · simp at e1; exact e1.1.2
/-- What anyTerm gives: of blocks that are new. -/
def RetA (b n k d : Nat) (w : World) (e : Ending) (w' : World) : Prop :=
  ∃ (ad : Option Addr) (c : Nat) (t : List Int) (k' : Nat), e = .returned (.slice ad t.length c) ∧ SlI w.heap.size w'.heap.size w' (.slice ad t.length c) t ∧ t.length ≤ 1000 ∧ k ≤ k' ∧ k' ≤ k + d ∧ Cur b n k' w' ∧ Chg b (b+1) w w'

end Go.Proofs.Ytlcjcihohclmhaa
end
section
/- The draws: arguments of functions of chapter 1. -/
namespace Go.Proofs.Ytlcjcihohclmhaa
open Go.RowKit

/-- A cursor at its beginning. -/
theorem Cur.new {w : World} {v : Value} {n : Nat} {T : TypeId} (h : SlB w.heap.size w v n) : Cur w.heap.size n 0 (w.alloc (.cells #[v, .int .i64 0, .int .u64 0] T)) := by
  refine ⟨v, 0, by simp, h.chg (Chg.of_bel (lo := w.heap.size) (hi := w.heap.size) (Bel.alloc0 _ _)) (Nat.le_refl _), ?_, ?_, ?_, fun j => by simp [go_sem]; try rfl⟩
  · rw [World.cell?_alloc_new w]; rfl
  · rw [World.cell?_alloc_new w]; rfl
  · rw [World.cell?_alloc_new w]; rfl

def RetDR (w : World) (e : Ending) (w' : World) : Prop :=
  ∃ (sv tv uv : Value) (ar t u : List Int) (z : Int), e = .returned (.tuple #[.agg #[sv], tv, .int .i64 z, uv]) ∧ drawn ar ∧ SlI w.heap.size w'.heap.size w' sv ar ∧ SlI w.heap.size w'.heap.size w' tv t ∧ t.length ≤ 1000 ∧ -1 ≤ z ∧ z ≤ 1000 ∧ SlI w.heap.size w'.heap.size w' uv u ∧ u.length ≤ 1000 ∧ Bel w w'
def RetDC (w : World) (e : Ending) (w' : World) : Prop :=
  ∃ (sv tv : Value) (ar t : List Int) (z : Int), e = .returned (.tuple #[.agg #[sv], tv, .int .i64 z]) ∧ drawn ar ∧ SlI w.heap.size w'.heap.size w' sv ar ∧ SlI w.heap.size w'.heap.size w' tv t ∧ t.length ≤ 1000 ∧ -1000 ≤ z ∧ z ≤ 1000 ∧ Bel w w'
end Go.Proofs.Ytlcjcihohclmhaa
end
section
/- Contracts with the answers named. -/
namespace Go.Proofs.Ytlcjcihohclmhaa
open Go.RowKit

theorem SlB.bel {w w' : World} {v : Value} {n : Nat} (h : SlB w.heap.size w v n) (hb : Bel w w') : SlB w'.heap.size w' v n := by
  obtain ⟨ad, cap, e, hc, hr⟩ := h.chg (Chg.of_bel (lo := w.heap.size) (hi := w.heap.size) hb) (Nat.le_refl _)
  exact ⟨ad, cap, e, hc, fun hp => by obtain ⟨b, off, e1, e2, e3⟩ := hr hp; exact ⟨b, off, e1, Nat.lt_of_lt_of_le e2 hb.size, e3⟩⟩
theorem slI_n {lo hi : Nat} {w : World} {ad : Option Addr} {n c : Nat} {xs : List Int} (h : SlI lo hi w (.slice ad n c) xs) : n = xs.length := by
  obtain ⟨ad', c', e⟩ := h.form
  simp only [Value.slice.injEq] at e
  exact e.2.1
theorem SlB.form {hi : Nat} {w : World} {v : Value} {n : Nat} (h : SlB hi w v n) : ∃ a c, v = .slice a n c := by obtain ⟨a, c, e, _⟩ := h; exact ⟨a, c, e⟩
end Go.Proofs.Ytlcjcihohclmhaa
end
section
/- Slices of literals (a sign and two slices of ints): read (SlC), or of the call's own (OwnC); marks. No program. -/
namespace Go.Proofs.Ytlcjcihohclmhaa
open Go.RowKit

/-- A literal: its sign, its two terms. -/
abbrev Lt := Bool × List Int × List Int
def lt0 : Lt := (false, [], [])
def wC (x : Lt) : Nat := 1 + x.2.1.length + x.2.2.length
def sumC (c : List Lt) : Nat := (c.map wC).sum
theorem sumC_take (c : List Lt) (k : Nat) (h : k < c.length) : sumC (c.take (k+1)) = sumC (c.take k) + wC (c.getD k lt0) := by
  unfold sumC
  rw [List.take_succ_eq_append_getElem h, List.map_append, List.sum_append]
  simp [List.getD, h]
theorem sumC_all (c : List Lt) (k : Nat) (h : ¬ k < c.length) : sumC (c.take k) = sumC c := by rw [List.take_of_length_le (by omega)]
theorem sumC_le (c : List Lt) (k : Nat) : sumC (c.take k) ≤ sumC c := by
  conv => rhs; rw [← List.take_append_drop k c]
  unfold sumC
  rw [List.map_append, List.sum_append]
  omega
theorem sumC_get (c : List Lt) (k : Nat) (h : k < c.length) : sumC (c.take k) + wC (c.getD k lt0) ≤ sumC c := by
  rw [← sumC_take c k h]; exact sumC_le _ _
theorem sumC_len (c : List Lt) : c.length ≤ sumC c := by
  induction c with
  | nil => simp [sumC]
  | cons x r ih => simp only [sumC, List.map_cons, List.sum_cons, List.length_cons, wC] at *; omega
def shortC (c : List Lt) : Prop := c.length ≤ 1048576 ∧ ∀ j, j < c.length → (c.getD j lt0).2.1.length ≤ 1048576 ∧ (c.getD j lt0).2.2.length ≤ 1048576
theorem shortC_of_sum {c : List Lt} (h : sumC c ≤ 1048576) : shortC c := by
  have := sumC_len c
  refine ⟨by omega, fun j hj => ?_⟩
  have := sumC_get c j hj
  unfold wC at this
  omega
/-- Its terms, literal by literal. -/
def flatC (c : List Lt) : List (List Int) := c.flatMap fun x => [x.2.1, x.2.2]
theorem flatC_nil : flatC [] = [] := rfl
theorem flatC_cons (x : Lt) (c : List Lt) : flatC (x :: c) = x.2.1 :: x.2.2 :: flatC c := rfl
theorem flatC_len (c : List Lt) : (flatC c).length = 2 * c.length := by
  induction c with
  | nil => rfl
  | cons x r ih => rw [flatC_cons]; simp [ih]; omega
theorem flatC_app (c d : List Lt) : flatC (c ++ d) = flatC c ++ flatC d := by simp [flatC]
theorem flatC_get (c : List Lt) (j : Nat) : (flatC c).getD (2*j) [] = (c.getD j lt0).2.1 ∧ (flatC c).getD (2*j+1) [] = (c.getD j lt0).2.2 := by
  induction c generalizing j with
  | nil => simp [flatC, lt0]
  | cons x r ih =>
    cases j with
    | zero => simp [flatC_cons]
    | succ j =>
      rw [flatC_cons, show 2 * (j+1) = (2*j+1) + 1 from by omega]
      simpa [List.getD] using ih j

def marksC (k : Nat) : List Lt → List Lt
  | [] => []
  | x :: r => (decide (k % 3 = 0), marks (k+1) x.2.1.length, marks (k+1+x.2.1.length) x.2.2.length) :: marksC (k + wC x) r
theorem marksC_len (k : Nat) (c : List Lt) : (marksC k c).length = c.length := by
  induction c generalizing k with
  | nil => rfl
  | cons x r ih => simp [marksC, ih]
theorem marksC_app (k : Nat) (c d : List Lt) : marksC k (c ++ d) = marksC k c ++ marksC (k + sumC c) d := by
  induction c generalizing k with
  | nil => simp [marksC, sumC]
  | cons x r ih => simp [marksC, ih, sumC, Nat.add_assoc]
def mark1 (k : Nat) (x : Lt) : Lt := (decide (k % 3 = 0), marks (k+1) x.2.1.length, marks (k+1+x.2.1.length) x.2.2.length)
theorem marksC_get (k : Nat) (c : List Lt) (j : Nat) (h : j < c.length) : (marksC k c).getD j lt0 = mark1 (k + sumC (c.take j)) (c.getD j lt0) := by
  conv => lhs; rw [← List.take_append_drop j c, marksC_app, List.drop_eq_getElem_cons h]
  have hl : (marksC k (c.take j)).length = j := by rw [marksC_len, List.length_take]; omega
  simp only [List.getD]
  rw [List.getElem?_append_right (by omega), hl, Nat.sub_self]
  simp [marksC, mark1, h]
/-- The first j are marked. -/
def markedC (c : List Lt) (k j : Nat) : List Lt := marksC k (c.take j) ++ c.drop j
theorem markedC_zero (c : List Lt) (k : Nat) : markedC c k 0 = c := by simp [markedC, marksC]
theorem markedC_len (c : List Lt) (k j : Nat) (h : j ≤ c.length) : (markedC c k j).length = c.length := by simp [markedC, marksC_len]; omega
theorem markedC_all (c : List Lt) (k j : Nat) (h : ¬ j < c.length) : markedC c k j = marksC k c := by
  unfold markedC
  rw [List.take_of_length_le (by omega), List.drop_eq_nil_of_le (by omega), List.append_nil]
theorem markedC_get (c : List Lt) (k j : Nat) (h : j < c.length) : (markedC c k j).getD j lt0 = c.getD j lt0 := by
  have hl : (marksC k (c.take j)).length = j := by rw [marksC_len, List.length_take]; omega
  unfold markedC
  simp only [List.getD]
  rw [List.getElem?_append_right (by omega), hl, Nat.sub_self]
  simp
theorem markedC_succ (c : List Lt) (k j : Nat) (h : j < c.length) : (markedC c k j).set j (mark1 (k + sumC (c.take j)) (c.getD j lt0)) = markedC c k (j+1) := by
  have hl : (marksC k (c.take j)).length = j := by rw [marksC_len, List.length_take]; omega
  unfold markedC
  rw [List.set_append_right _ _ (by omega), hl, Nat.sub_self, List.drop_eq_getElem_cons h, List.set_cons_zero, List.take_succ_eq_append_getElem h, marksC_app]
  simp [marksC, mark1, List.getD, h]

/-- The slice value v holds literals. -/
def SlC (lo hi : Nat) (w : World) (v : Value) (c : List Lt) : Prop :=
  ∃ ad cap, v = .slice ad c.length cap ∧ c.length ≤ cap ∧ (cap ≤ maxLen ∧ (ad = none → cap = 0)) ∧
    (0 < c.length → ∃ b off, ad = some ⟨b, off, none⟩ ∧ lo ≤ b ∧ b < hi ∧ ∀ j, j < c.length → ∃ u1 u2, w.cell? ⟨b, off + j * 3, none⟩ = some (.bool (c.getD j lt0).1) ∧ w.cell? ⟨b, off + j * 3 + 1, none⟩ = some u1 ∧ w.cell? ⟨b, off + j * 3 + 2, none⟩ = some u2 ∧ SlI lo hi w u1 (c.getD j lt0).2.1 ∧ SlI lo hi w u2 (c.getD j lt0).2.2)
theorem SlC.form {lo hi w v c} (h : SlC lo hi w v c) : ∃ ad k, v = .slice ad c.length k := by obtain ⟨ad, k, h, _⟩ := h; exact ⟨ad, k, h⟩
theorem SlC.mono {lo hi lo' hi' w v c} (h : SlC lo hi w v c) (h1 : lo' ≤ lo) (h2 : hi ≤ hi') : SlC lo' hi' w v c := by
  obtain ⟨ad, cap, rfl, hc, hm, hr⟩ := h
  refine ⟨ad, cap, rfl, hc, hm, fun hp => ?_⟩
  obtain ⟨b, off, e, a1, a2, a3⟩ := hr hp
  refine ⟨b, off, e, by omega, by omega, fun j hj => ?_⟩
  obtain ⟨u1, u2, c1, c2, c3, s1, s2⟩ := a3 j hj
  exact ⟨u1, u2, c1, c2, c3, s1.mono h1 h2, s2.mono h1 h2⟩
theorem cell_same {w w' : World} {a : Addr} {v : Value} (hs : a.block < w.heap.size → w'.heap[a.block]? = w.heap[a.block]?) (h : w.cell? a = some v) : w'.cell? a = some v := by
  rw [World.cell?_of_block (w := w) (a := a) (hs (World.block_lt_of_cell? w a h))]; exact h
theorem SlC.same {lo hi w w' v c} (h : SlC lo hi w v c) (hs : ∀ b, lo ≤ b → b < hi → b < w.heap.size → w'.heap[b]? = w.heap[b]?) : SlC lo hi w' v c := by
  obtain ⟨ad, cap, rfl, hc, hm, hr⟩ := h
  refine ⟨ad, cap, rfl, hc, hm, fun hp => ?_⟩
  obtain ⟨b, off, e, a1, a2, a3⟩ := hr hp
  refine ⟨b, off, e, a1, a2, fun j hj => ?_⟩
  obtain ⟨u1, u2, c1, c2, c3, s1, s2⟩ := a3 j hj
  exact ⟨u1, u2, cell_same (hs b a1 a2) c1, cell_same (hs b a1 a2) c2, cell_same (hs b a1 a2) c3, s1.same hs, s2.same hs⟩
theorem SlC.below {lo hi w w' v c} (h : SlC lo hi w v c) (hb : Bel w w') : SlC lo hi w' v c := h.same fun b _ _ h3 => hb.block b h3
theorem SlC.alloc {lo hi w v c} (h : SlC lo hi w v c) (o : Obj) : SlC lo hi (w.alloc o) v c := h.below (Bel.alloc0 w o)
theorem SlC.k {lo hi w v c} (h : SlC lo hi w v c) : K (fun w => SlC lo hi w v c) w := fun _ hb => h.below hb
theorem SlC.chg {lo hi lo' hi' w w' v c} (h : SlC lo hi w v c) (k : Chg lo' hi' w w') (hd : hi ≤ lo' ∨ hi' ≤ lo) : SlC lo hi w' v c :=
  h.same fun b h1 h2 h3 => k.block b h3 (by omega)
theorem SlC.nil (lo hi : Nat) (w : World) : SlC lo hi w (.slice none 0 0) [] := ⟨none, 0, rfl, Nat.le_refl _, ⟨Nat.zero_le _, fun _ => rfl⟩, fun h => absurd h (by simp)⟩
theorem SlC.len {lo hi : Nat} {w : World} {ad : Option Addr} {k n : Nat} {c : List Lt} (h : SlC lo hi w (.slice ad n k) c) : n = c.length := by
  obtain ⟨ad', cap, e, _⟩ := h
  simp only [Value.slice.injEq] at e
  exact e.2.1
/-- Reading the j-th. -/
theorem SlC.at {lo hi : Nat} {w wr : World} {ad : Option Addr} {k n : Nat} {c : List Lt} (h : SlC lo hi w (.slice ad n k) c) (hb : Bel w wr) (j : Nat) (hj : j < c.length) :
    ∃ b off u1 u2, ad = some ⟨b, off, none⟩ ∧ b < w.heap.size ∧ wr.cell? ⟨b, off + j * 3, none⟩ = some (.bool (c.getD j lt0).1) ∧ wr.cell? ⟨b, off + j * 3 + 1, none⟩ = some u1 ∧ wr.cell? ⟨b, off + j * 3 + 2, none⟩ = some u2 ∧ SlI lo hi wr u1 (c.getD j lt0).2.1 ∧ SlI lo hi wr u2 (c.getD j lt0).2.2 := by
  obtain ⟨ad', cap, e, _, _, hr⟩ := h
  obtain ⟨b, off, e2, _, _, hc⟩ := hr (by omega)
  obtain ⟨u1, u2, c1, c2, c3, s1, s2⟩ := hc j hj
  have h1 := World.block_lt_of_cell? w ⟨b, off + j * 3, none⟩ c1
  simp only [Value.slice.injEq] at e
  exact ⟨b, off, u1, u2, e.1.trans e2, h1, cell_same (fun h => hb.block b h) c1, cell_same (fun h => hb.block b h) c2, cell_same (fun h => hb.block b h) c3, s1.below hb, s2.below hb⟩

/-- A literal's three cells. -/
abbrev LV := Bool × Value × Value
def cellsC (zs : List LV) : List Value := zs.flatMap fun z => [.bool z.1, z.2.1, z.2.2]
def rowsC (zs : List LV) : List Value := zs.flatMap fun z => [z.2.1, z.2.2]
theorem cellsC_len (zs : List LV) : (cellsC zs).length = zs.length * 3 := by
  induction zs with
  | nil => rfl
  | cons x r ih => show (_ :: _ :: _ :: cellsC r).length = _; simp [ih]; omega
theorem rowsC_len (zs : List LV) : (rowsC zs).length = 2 * zs.length := by
  induction zs with
  | nil => rfl
  | cons x r ih => show (_ :: _ :: rowsC r).length = _; simp [ih]; omega
theorem cellsC_get (zs : List LV) (j : Nat) (z : LV) (h : zs[j]? = some z) : (cellsC zs)[j * 3]? = some (.bool z.1) ∧ (cellsC zs)[j * 3 + 1]? = some z.2.1 ∧ (cellsC zs)[j * 3 + 2]? = some z.2.2 := by
  induction zs generalizing j with
  | nil => simp at h
  | cons x r ih =>
    have e : cellsC (x :: r) = .bool x.1 :: x.2.1 :: x.2.2 :: cellsC r := rfl
    cases j with
    | zero => simp at h; subst h; rw [e]; simp
    | succ j =>
      rw [e, show (j + 1) * 3 = j * 3 + 1 + 1 + 1 from by omega]
      simpa using ih j (by simpa using h)
theorem rowsC_get (zs : List LV) (j : Nat) (z : LV) (h : zs[j]? = some z) : (rowsC zs)[2 * j]? = some z.2.1 ∧ (rowsC zs)[2 * j + 1]? = some z.2.2 := by
  induction zs generalizing j with
  | nil => simp at h
  | cons x r ih =>
    have e : rowsC (x :: r) = x.2.1 :: x.2.2 :: rowsC r := rfl
    cases j with
    | zero => simp at h; subst h; rw [e]; simp
    | succ j =>
      rw [e, show 2 * (j + 1) = 2 * j + 1 + 1 from by omega]
      simpa using ih j (by simpa using h)
theorem rowsC_app (zs ys : List LV) : rowsC (zs ++ ys) = rowsC zs ++ rowsC ys := by simp [rowsC]
theorem cellsC_app (zs ys : List LV) : cellsC (zs ++ ys) = cellsC zs ++ cellsC ys := by simp [cellsC]
theorem cellsC_one (zs : List LV) (h : ∀ z ∈ zs, z.2.1.oneCell' = true ∧ z.2.2.oneCell' = true) : ∀ u ∈ cellsC zs, u.oneCell' = true := by
  intro u hu
  obtain ⟨z, hz, hm⟩ := List.mem_flatMap.1 hu
  have := h z hz
  simp at hm
  rcases hm with rfl | rfl | rfl
  · rfl
  · exact this.1
  · exact this.2

/-- Literals of the call's own, each term in a block of its own. -/
def OwnC (lo hi : Nat) (w : World) (v : Value) (c : List Lt) : Prop :=
  ∃ ad cap, v = .slice ad c.length cap ∧ c.length ≤ cap ∧ (cap ≤ maxLen ∧ (ad = none → cap = 0)) ∧
    (0 < c.length → ∃ b off zs bs, ad = some ⟨b, off, none⟩ ∧ lo ≤ b ∧ b < hi ∧ zs.length = c.length ∧
      (∀ j z, zs[j]? = some z → z.1 = (c.getD j lt0).1 ∧ w.cell? ⟨b, off + j * 3, none⟩ = some (.bool z.1) ∧ w.cell? ⟨b, off + j * 3 + 1, none⟩ = some z.2.1 ∧ w.cell? ⟨b, off + j * 3 + 2, none⟩ = some z.2.2) ∧
      (∀ i, w.frozen? ⟨b, i, none⟩ = false) ∧ Ins lo hi b w (rowsC zs) (flatC c) bs)
theorem OwnC.sl {lo hi w v c} (h : OwnC lo hi w v c) : SlC lo hi w v c := by
  obtain ⟨ad, cap, rfl, hc, hm, hr⟩ := h
  refine ⟨ad, cap, rfl, hc, hm, fun hp => ?_⟩
  obtain ⟨b, off, zs, bs, e, a1, a2, hl, a3, _, hi⟩ := hr hp
  refine ⟨b, off, e, a1, a2, fun j hj => ?_⟩
  have hz : zs[j]? = some zs[j] := List.getElem?_eq_getElem (by omega)
  obtain ⟨e1, c1, c2, c3⟩ := a3 j _ hz
  obtain ⟨r1, r2⟩ := rowsC_get zs j _ hz
  have s1 := hi.sl _ _ r1
  have s2 := hi.sl _ _ r2
  rw [(flatC_get c j).1] at s1
  rw [(flatC_get c j).2] at s2
  exact ⟨_, _, by rw [← e1]; exact c1, c2, c3, s1, s2⟩
theorem OwnC.same {lo hi w w' v c} (h : OwnC lo hi w v c) (hs : ∀ b, lo ≤ b → b < hi → b < w.heap.size → w'.heap[b]? = w.heap[b]?) : OwnC lo hi w' v c := by
  obtain ⟨ad, cap, rfl, hc, hm, hr⟩ := h
  refine ⟨ad, cap, rfl, hc, hm, fun hp => ?_⟩
  obtain ⟨b, off, zs, bs, e, a1, a2, hl, a3, hf, hi⟩ := hr hp
  have hb : b < w.heap.size := by
    have hz : zs[0]? = some zs[0] := List.getElem?_eq_getElem (by omega)
    exact World.block_lt_of_cell? w ⟨b, off + 0 * 3, none⟩ (a3 0 _ hz).2.1
  refine ⟨b, off, zs, bs, e, a1, a2, hl, fun j z hz => ?_, fun i => ?_, hi.same hs⟩
  · obtain ⟨e1, c1, c2, c3⟩ := a3 j z hz
    exact ⟨e1, cell_same (hs b a1 a2) c1, cell_same (hs b a1 a2) c2, cell_same (hs b a1 a2) c3⟩
  · rw [World.frozen?_of_block (w := w) (a := ⟨b, i, none⟩) (hs b a1 a2 hb)]; exact hf i
theorem OwnC.below {lo hi w w' v c} (h : OwnC lo hi w v c) (hb : Bel w w') : OwnC lo hi w' v c := h.same fun b _ _ h3 => hb.block b h3
theorem OwnC.alloc {lo hi w v c} (h : OwnC lo hi w v c) (o : Obj) : OwnC lo hi (w.alloc o) v c := h.below (Bel.alloc0 w o)
theorem OwnC.k {lo hi w v c} (h : OwnC lo hi w v c) : K (fun w => OwnC lo hi w v c) w := fun _ hb => h.below hb
theorem OwnC.chg {lo hi lo' hi' w w' v c} (h : OwnC lo hi w v c) (k : Chg lo' hi' w w') (hd : hi ≤ lo' ∨ hi' ≤ lo) : OwnC lo hi w' v c :=
  h.same fun b h1 h2 h3 => k.block b h3 (by omega)
theorem OwnC.mono {lo hi lo' hi' w v c} (h : OwnC lo hi w v c) (h1 : lo' ≤ lo) (h2 : hi ≤ hi') : OwnC lo' hi' w v c := by
  obtain ⟨ad, cap, rfl, hc, hm, hr⟩ := h
  refine ⟨ad, cap, rfl, hc, hm, fun hp => ?_⟩
  obtain ⟨b, off, zs, bs, e, a1, a2, hl, a3, hf, hi⟩ := hr hp
  exact ⟨b, off, zs, bs, e, by omega, by omega, hl, a3, hf, hi.mono h1 h2⟩
theorem OwnC.nil (lo hi : Nat) (w : World) : OwnC lo hi w (.slice none 0 0) [] := ⟨none, 0, rfl, Nat.le_refl _, ⟨Nat.zero_le _, fun _ => rfl⟩, fun h => absurd h (by simp)⟩
/-- A row that the call itself made, as a slice of literals. -/
theorem OwnC.of_row {w : World} {base e hi : Nat} {v : Value} {zs : List LV} {c : List Lt} {bs : Nat → Nat} (h : w.ownsRow base e 3 v c.length (cellsC zs)) (hi' : w.heap.size ≤ hi)
    (hp : zs.map (·.1) = c.map (·.1)) (hin : ∀ g, v.ownBlock = some g → Ins base hi g w (rowsC zs) (flatC c) bs) : OwnC base hi w v c := by
  have h0 := h
  have hzl : zs.length = c.length := by simpa using congrArg List.length hp
  obtain ⟨h1, h2⟩ := h
  rcases h2 with ⟨rfl, hn⟩ | ⟨g, cap, cur, rfl, hg, hh, hn, hc, hs, ht⟩
  · obtain rfl : c = [] := List.length_eq_zero_iff.1 hn
    exact OwnC.nil _ _ _
  · have hgs : g < w.heap.size := (Array.getElem?_eq_some_iff.1 hh).1
    refine ⟨_, cap, rfl, hn, ⟨hc, fun h => by simp at h⟩, fun _ => ⟨g, 0, zs, bs, rfl, hg, by omega, hzl, fun j z hz => ?_, fun i => ?_, hin g rfl⟩⟩
    · have hj : j < zs.length := (List.getElem?_eq_some_iff.1 hz).1
      obtain ⟨c1, c2, c3⟩ := cellsC_get zs j z hz
      have hcell : ∀ i, i < c.length * 3 → w.cell? ⟨g, 0 + i, none⟩ = (cellsC zs)[i]? := fun i hi => by rw [Nat.zero_add]; exact h0.cellAt i hi
      refine ⟨?_, by rw [hcell _ (by omega)]; exact c1, by rw [Nat.add_assoc, hcell _ (by omega)]; exact c2, by rw [Nat.add_assoc, hcell _ (by omega)]; exact c3⟩
      have := congrArg (fun l => l[j]?) hp
      simp only [List.getElem?_map, hz, Option.map_some] at this
      rw [List.getD_eq_getElem?_getD]
      cases hcj : c[j]? with
      | none => rw [hcj] at this; simp at this
      | some y => rw [hcj] at this; simpa using this
    · simp [World.frozen?, hh]
def RetC (w : World) (c : List Lt) (e : Ending) (w' : World) : Prop := ∃ ad n k, e = .returned (.slice ad n k) ∧ OwnC w.heap.size w'.heap.size w' (.slice ad n k) c ∧ Bel w w'
def RetCB (w : World) (c : List Lt) (ok : Bool) (e : Ending) (w' : World) : Prop := ∃ ad n k, e = .returned (.tuple #[.slice ad n k, .bool ok]) ∧ OwnC w.heap.size w'.heap.size w' (.slice ad n k) c ∧ Bel w w'
end Go.Proofs.Ytlcjcihohclmhaa
end
