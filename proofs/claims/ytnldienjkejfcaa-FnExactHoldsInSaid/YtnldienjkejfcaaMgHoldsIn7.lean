/- Texts merged, part 7. -/
import Derived.Test.YtnldienjkejfcaaMgHoldsIn6
section
/- Lists of terms, plainly: what remains, who dominates, how they compare. No program. -/
namespace Go.Proofs.Ytnldienjkejfcaa
open Go.RowKit

theorem minus_nil_left (b : List (List Int)) : minus [] b = [] := by
  induction b with
  | nil => rfl
  | cons y b ih => rw [minus_cons]; simpa using ih
theorem take_snoc {α : Type} (l : List α) (k : Nat) (d : α) (hk : k < l.length) : l.take (k+1) = l.take k ++ [l.getD k d] := by
  rw [List.take_succ_eq_append_getElem hk]; simp [List.getD, hk]
theorem drop_get {α : Type} (l : List α) (k : Nat) (d : α) (hk : k < l.length) : l.drop k = l.getD k d :: l.drop (k+1) := by
  rw [List.drop_eq_getElem_cons hk]; simp [List.getD, hk]
theorem minus_take (a b : List (List Int)) (k : Nat) (hk : k < b.length) : minus a (b.take (k+1)) = (minus a (b.take k)).erase (b.getD k []) := by
  rw [take_snoc b k [] hk]; simp [minus, List.foldl_append]
theorem erase_at {X : List (List Int)} {t : List Int} {j : Nat} (hj : j < X.length) (hn : t ∉ X.take j) (he : X.getD j [] = t) : X.erase t = X.eraseIdx j := by
  induction X generalizing j with
  | nil => simp at hj
  | cons x X ih =>
    cases j with
    | zero =>
      have he : x = t := by simpa using he
      subst he; simp
    | succ j =>
      simp only [List.take_succ_cons, List.mem_cons, not_or] at hn
      rw [List.erase_cons_tail (by simpa using fun h => hn.1 h.symm), List.eraseIdx_cons_succ, ih (by simpa using hj) hn.2 (by simpa using he)]
theorem erase_none {X : List (List Int)} {t : List Int} {j : Nat} (hj : ¬ j < X.length) (hn : t ∉ X.take j) : X.erase t = X := by
  rw [List.take_of_length_le (by omega)] at hn
  exact List.erase_of_not_mem hn
theorem not_take {X : List (List Int)} {t : List Int} {j : Nat} (hj : j < X.length) (hn : t ∉ X.take j) (he : X.getD j [] ≠ t) : t ∉ X.take (j+1) := by
  rw [take_snoc X j [] hj, List.mem_append, List.mem_singleton, not_or]
  exact ⟨hn, fun h => he h.symm⟩
theorem eraseIdx_perm {l : List (List Int)} {i : Nat} (hi : i < l.length) : (l.getD i [] :: l.eraseIdx i).Perm l := by
  induction l generalizing i with
  | nil => simp at hi
  | cons x l ih =>
    cases i with
    | zero => simp
    | succ i =>
      have := ih (i := i) (by simpa using hi)
      rw [show (x :: l).getD (i+1) [] = l.getD i [] from by simp [List.getD], List.eraseIdx_cons_succ]
      exact (List.Perm.swap _ _ _).trans (this.cons x)
/-- The reference's loop: what is out, what is left. -/
theorem left_in {a b out left : List (List Int)} {k i : Nat} (h : minus a b = out ++ minus (a.drop k) left) (hk : k < a.length) (hi : i < left.length) (he : left.getD i [] = a.getD k []) :
    minus a b = out ++ minus (a.drop (k+1)) (left.eraseIdx i) := by
  rw [h, drop_get a k [] hk, minus_front]
  generalize a.getD k [] = t at *
  have hx : left[i] = t := by rw [← he]; simp [List.getD, hi]
  have hm : t ∈ left := by rw [← hx]; exact List.getElem_mem hi
  rw [if_pos hm]
  have hp : (left.erase t).Perm (left.eraseIdx i) := by
    have h1 := eraseIdx_perm hi
    rw [he] at h1
    exact (List.perm_cons t).1 ((List.perm_cons_erase hm).symm.trans h1.symm)
  rw [minus_perm hp]
theorem left_out {a b out left : List (List Int)} {k : Nat} (h : minus a b = out ++ minus (a.drop k) left) (hk : k < a.length) (hn : a.getD k [] ∉ left) :
    minus a b = (out ++ [a.getD k []]) ++ minus (a.drop (k+1)) left := by
  rw [h, drop_get a k [] hk, minus_front, if_neg hn, List.append_assoc]; rfl
theorem left_end {a b out left : List (List Int)} {k : Nat} (h : minus a b = out ++ minus (a.drop k) left) (hk : ¬ k < a.length) : minus a b = out := by
  rw [h, List.drop_eq_nil_of_le (by omega), minus_nil_left, List.append_nil]
theorem minus_get {a b : List (List Int)} {P : List Int → Prop} (h : ∀ t ∈ a, P t) : ∀ t ∈ minus a b, P t := fun t ht => h t (minus_sub ht)

theorem dom_no {a b : List (List Int)} {k : Nat} (hk : k < b.length) (h : (a.any fun u => above u (b.getD k [])) = false) : dom a b = false := by
  rw [Bool.eq_false_iff]
  intro hd
  unfold dom at hd
  rw [List.all_eq_true] at hd
  have := hd (b.getD k []) (by simp [List.getD, hk])
  rw [h] at this; simp at this
theorem dom_take {a b : List (List Int)} {k : Nat} (hk : k < b.length) (h : dom a (b.take k) = true) (h2 : (a.any fun u => above u (b.getD k [])) = true) : dom a (b.take (k+1)) = true := by
  unfold dom at *
  rw [take_snoc b k [] hk, List.all_append, h]
  simpa using h2
theorem dom_all {a b : List (List Int)} {k : Nat} (hk : ¬ k < b.length) (h : dom a (b.take k) = true) : dom a b = true := by
  rwa [List.take_of_length_le (by omega)] at h
theorem any_take {a : List (List Int)} {t : List Int} {i : Nat} (hi : i < a.length) (h : ((a.take i).any fun u => above u t) = false) : ((a.take (i+1)).any fun u => above u t) = above (a.getD i []) t := by
  rw [take_snoc a i [] hi, List.any_append, h]; simp
theorem any_yes {a : List (List Int)} {t : List Int} {i : Nat} (hi : i < a.length) (h : above (a.getD i []) t = true) : (a.any fun u => above u t) = true := by
  rw [List.any_eq_true]; exact ⟨_, by simp [List.getD, hi], h⟩
theorem any_end {a : List (List Int)} {t : List Int} {i : Nat} {q : Bool} (hi : ¬ i < a.length) (h : ((a.take i).any fun u => above u t) = q) : (a.any fun u => above u t) = q := by
  rwa [List.take_of_length_le (by omega)] at h
theorem cmpL_0 {a b : List (List Int)} (h1 : minus a b = []) (h2 : minus b a = []) : cmpL a b = 0 := cmpL_zero.2 ⟨h1, h2⟩
theorem cmpL_1 {a b : List (List Int)} (h0 : ¬ (minus a b = [] ∧ minus b a = [])) (h : dom (minus a b) (minus b a) = true) : cmpL a b = 1 := by unfold cmpL; rw [if_neg h0, if_pos h]
theorem cmpL_m {a b : List (List Int)} (h0 : ¬ (minus a b = [] ∧ minus b a = [])) (h : dom (minus a b) (minus b a) = false) (k : dom (minus b a) (minus a b) = true) : cmpL a b = -1 := by
  unfold cmpL; rw [if_neg h0, if_neg (by rw [h]; simp), if_pos k]
theorem cmpL_2 {a b : List (List Int)} (h0 : ¬ (minus a b = [] ∧ minus b a = [])) (h : dom (minus a b) (minus b a) = false) (k : dom (minus b a) (minus a b) = false) : cmpL a b = 2 := by
  unfold cmpL; rw [if_neg h0, if_neg (by rw [h]; simp), if_neg (by rw [k]; simp)]
/-- The reference asks also that something is there. -/
theorem dom_some {x y : List (List Int)} (h0 : ¬ (x = [] ∧ y = [])) (h : dom x y = true) : 0 < x.length := by
  cases x with
  | nil =>
    cases y with
    | nil => exact absurd ⟨rfl, rfl⟩ h0
    | cons t r => obtain ⟨u, hu, _⟩ := dom_iff.1 h t List.mem_cons_self; simp at hu
  | cons u r => simp
/-- Falling. -/
theorem falls_no {l : List (List Int)} {i : Nat} (h1 : 0 < i) (hi : i < l.length) (h : above (l.getD (i-1) []) (l.getD i []) = false) : falls l = false := by
  rw [Bool.eq_false_iff]; intro hf
  have := falls_pair hf i (i-1) (by omega) hi
  rw [h] at this; simp at this
def fallTo (l : List (List Int)) (i : Nat) : Prop := ∀ j, 0 < j → j < i → above (l.getD (j-1) []) (l.getD j []) = true
theorem fallTo.step {l : List (List Int)} {i : Nat} (h : fallTo l i) (hi : 0 < i → above (l.getD (i-1) []) (l.getD i []) = true) : fallTo l (i+1) := fun j h1 h2 => by
  by_cases e : j = i
  · subst e; exact hi h1
  · exact h j h1 (by omega)
theorem fallTo.done {l : List (List Int)} {i : Nat} (h : fallTo l i) (hi : ¬ i < l.length) : falls l = true := by
  unfold falls
  rw [List.all_eq_true]
  intro j hj
  rw [List.mem_range] at hj
  exact h (j+1) (by omega) (by omega)

def lisOk (ar : List Int) (a b : List (List Int)) : Bool := goodTerms ar a 8 && goodTerms ar b 8
def lisAns (ar : List Int) (a b : List (List Int)) : Int := if lisOk ar a b then cmpL a b else 0
theorem lisOk_iff {ar : List Int} {a b : List (List Int)} : lisOk ar a b = true ↔ goodTerms ar a 8 = true ∧ goodTerms ar b 8 = true := by simp [lisOk]
theorem lis_no {ar : List Int} {a b : List (List Int)} (h : lisOk ar a b = false) : lisAns ar a b = 0 := by simp [lisAns, h]
theorem lis_yes {ar : List Int} {a b : List (List Int)} (h : lisOk ar a b = true) : lisAns ar a b = cmpL a b := by simp [lisAns, h]
def falAns (ar : List Int) (l : List (List Int)) : Bool := goodTerms ar l 8 && falls l
theorem fal_no {ar : List Int} {l : List (List Int)} (h : goodTerms ar l 8 = false) : falAns ar l = false := by simp [falAns, h]
theorem fal_yes {ar : List Int} {l : List (List Int)} (h : goodTerms ar l 8 = true) : falAns ar l = falls l := by simp [falAns, h]
theorem goodTerms_get {ar : List Int} {b : List (List Int)} {m : Nat} (h : goodTerms ar b m = true) (j : Nat) (hj : j < b.length) : okTerm ar (b.getD j []) = true :=
  (goodTerms_iff.1 h).2.2 _ (by simp [List.getD, hj])
end Go.Proofs.Ytnldienjkejfcaa
end
section
/- Chapter 4: the answers, as plain functions. No program. -/
namespace Go.Proofs.Ytnldienjkejfcaa
open Go.RowKit

def okLit (ar : List Int) (x : Lt) : Bool := okTerm ar x.2.1 && okTerm ar x.2.2
def okLits (ar : List Int) (c : List Lt) : Bool := decide (c.length ≤ 8) && c.all (okLit ar)
def goodClause (ar : List Int) (c : List Lt) : Bool := goodSign ar && okLits ar c
theorem okLit_iff {ar : List Int} {x : Lt} : okLit ar x = true ↔ okTerm ar x.2.1 = true ∧ okTerm ar x.2.2 = true := by simp [okLit]
theorem okLits_iff {ar : List Int} {c : List Lt} : okLits ar c = true ↔ c.length ≤ 8 ∧ ∀ x ∈ c, okLit ar x = true := by simp [okLits]
theorem goodClause_iff {ar : List Int} {c : List Lt} : goodClause ar c = true ↔ goodSign ar = true ∧ c.length ≤ 8 ∧ ∀ x ∈ c, okLit ar x = true := by simp [goodClause, okLits]
theorem okLits_get {ar : List Int} {c : List Lt} (h : ∀ x ∈ c, okLit ar x = true) (j : Nat) (hj : j < c.length) : okTerm ar (c.getD j lt0).2.1 = true ∧ okTerm ar (c.getD j lt0).2.2 = true :=
  okLit_iff.1 (h _ (by simp [List.getD, hj]))
theorem okLits_bad {ar : List Int} {c : List Lt} {j : Nat} (hj : j < c.length) (h : okLit ar (c.getD j lt0) = false) : okLits ar c = false := by
  rw [Bool.eq_false_iff]; intro k
  have := (okLits_iff.1 k).2 (c.getD j lt0) (by simp [List.getD, hj])
  rw [h] at this; simp at this
/-- The first k literals are valid. -/
def okTo (ar : List Int) (c : List Lt) (k : Nat) : Prop := ∀ j, j < k → okLit ar (c.getD j lt0) = true
theorem okTo.step {ar : List Int} {c : List Lt} {k : Nat} (h : okTo ar c k) (hk : okLit ar (c.getD k lt0) = true) : okTo ar c (k+1) := fun j hj => by
  by_cases e : j = k
  · subst e; exact hk
  · exact h j (by omega)
theorem okTo.done {ar : List Int} {c : List Lt} (h : okTo ar c c.length) : okLits ar c = decide (c.length ≤ 8) := by
  unfold okLits
  have : c.all (okLit ar) = true := by
    rw [List.all_eq_true]
    intro x hx
    obtain ⟨j, hj, rfl⟩ := List.getElem_of_mem hx
    have := h j hj
    simpa [List.getD, hj] using this
  rw [this, Bool.and_true]

/-- The same two terms, perhaps exchanged. -/
def sameTs (x y : Lt) : Bool := (decide (x.2.1 = y.2.1) && decide (x.2.2 = y.2.2)) || (decide (x.2.1 = y.2.2) && decide (x.2.2 = y.2.1))
def eqvL (x y : Lt) : Bool := (x.1 == y.1) && sameTs x y
def tidyStep (out : List Lt) (x : Lt) : List Lt := if !x.1 && decide (x.2.1 = x.2.2) then out else if out.any (eqvL x) then out else out ++ [x]
def tidyC (c : List Lt) : List Lt := c.foldl tidyStep []
theorem tidyC_snoc (c : List Lt) (k : Nat) (h : k < c.length) : tidyC (c.take (k+1)) = tidyStep (tidyC (c.take k)) (c.getD k lt0) := by
  unfold tidyC
  rw [List.take_succ_eq_append_getElem h, List.foldl_append]
  simp [List.getD, h]
def tidyAns (ar : List Int) (c : List Lt) : List Lt := if goodClause ar c then tidyC c else []

/-- A tautology's place: the literal k alone, or with an earlier one. -/
def tautAt (c : List Lt) (k : Nat) : Bool := ((c.getD k lt0).1 && decide ((c.getD k lt0).2.1 = (c.getD k lt0).2.2)) || (c.take k).any fun y => ((c.getD k lt0).1 != y.1) && sameTs (c.getD k lt0) y
def tautC (c : List Lt) : Bool := (List.range c.length).any (tautAt c)
def tautAns (ar : List Int) (c : List Lt) : Bool := goodClause ar c && tautC c

def weightAns (ar : List Int) (c : List Lt) : Int := if goodClause ar c then (sumL (flatC c) : Int) else 0

def listL (x : Lt) : List (List Int) := if x.1 then [x.2.1, x.2.2] else [x.2.1, x.2.2, x.2.1, x.2.2]
def litsOk (ar : List Int) (x y : Lt) : Bool := goodSign ar && (okLit ar x && okLit ar y)
def litsAns (ar : List Int) (x y : Lt) : Int := if litsOk ar x y then cmpL (listL x) (listL y) else 0
def maxAt (c : List Lt) (k : Nat) : Bool := (List.range c.length).all fun i => decide (i = k) || !decide (cmpL (listL (c.getD i lt0)) (listL (c.getD k lt0)) = 1)
def maxC (c : List Lt) : List Nat := (List.range c.length).filter (maxAt c)

/-- The signs of one, the terms of another list. -/
def zipC : List Lt → List (List Int) → List Lt
  | x :: c, l :: r :: ts => (x.1, l, r) :: zipC c ts
  | _, _ => []
end Go.Proofs.Ytnldienjkejfcaa
end
section
/- Chapter 4, the reference: literals and clauses that are valid, weights. -/
namespace Go.Proofs.Ytnldienjkejfcaa
open Go.RowKit

set_option maxRecDepth 100000 in
set_option maxHeartbeats 400000 in
theorem l4Lit_c (l h l' h' : Nat) (v u1 u2 : Value) (ar xl xr : List Int) (p : Bool) (w : World) (hg : goodSign ar = true) (hl : xl.length ≤ 1048576) (hr : xr.length ≤ 1048576) (hv : SlI l h w v ar) (h1 : SlI l' h' w u1 xl) (h2 : SlI l' h' w u2 xr) :
    Calls Try.prog 60 #[.agg #[v], .agg #[.bool p, u1, u2]] w (RetV w (.bool (okTerm ar xl && okTerm ar xr))) := by
  have HB : Bel w ((w.alloc (.cells #[v] 30)).alloc (.cells #[.bool p, u1, u2] 59)) := Bel.alloc2 _ _ _
  cases e1 : okTerm ar xl with
  | false =>
    have HC := Lib.hid (fun (w' : World) (hb : Bel w w') => l1Term_v l h l' h' v u1 ar xl false w' e1 hg hl (hv.below hb) (h1.below hb))
    clear hv h1 h2 e1
    go_enter Try.func60, Try.ntmps60
    go_wp2_with fail
    refine (HC.out _ HB).mono ?_; rintro e w1 ⟨rfl, hb1⟩
    go_wp2_with fail
    go_ret
    exact ⟨rfl, HB.step hb1⟩
  | true =>
    rw [Bool.true_and]
    have HC := Lib.hid (fun (w' : World) (hb : Bel w w') => l1Term_v l h l' h' v u1 ar xl true w' e1 hg hl (hv.below hb) (h1.below hb))
    have HD := Lib.hid (fun (w' : World) (hb : Bel w w') => l1Term_c l h l' h' v u2 ar xr w' hg hr (hv.below hb) (h2.below hb))
    clear hv h1 h2 e1
    go_enter Try.func60, Try.ntmps60
    go_wp2_with fail
    refine (HC.out _ HB).mono ?_; rintro e w1 ⟨rfl, hb1⟩
    have k0 := hb1.at (b := w.heap.size) (off := 0) (by simp; omega) (show World.cell? _ _ = some v by simp [go_sem])
    have k2 := hb1.at (b := w.heap.size + 1) (off := 2) (by simp) (show World.cell? _ _ = some u2 by simp [go_sem])
    go_wp2_with fail
    refine (HD.out _ (HB.step hb1)).mono ?_; rintro e w2 ⟨rfl, hb2⟩
    go_wp2_with fail
    go_ret
    exact ⟨rfl, (HB.step hb1).step hb2⟩
end Go.Proofs.Ytnldienjkejfcaa
end
section
/- VarsOf: both functions. -/
namespace Go.Proofs.Ytnldienjkejfcaa
open Go.RowKit

/-- Twelve bools. -/
def arr (f : Nat → Bool) : Array Value := #[.bool (f 0), .bool (f 1), .bool (f 2), .bool (f 3), .bool (f 4), .bool (f 5), .bool (f 6), .bool (f 7), .bool (f 8), .bool (f 9), .bool (f 10), .bool (f 11)]
def anyB (f : Nat → Bool) : Bool := f 0 || f 1 || f 2 || f 3 || f 4 || f 5 || f 6 || f 7 || f 8 || f 9 || f 10 || f 11
theorem arr_set (f : Nat → Bool) (j : Nat) (b : Bool) (h : j < 12) : (arr f).setIfInBounds j (.bool b) = arr (fun i => if i = j then b else f i) := by
  match j, h with
  | 0, _ => rfl
  | 1, _ => rfl
  | 2, _ => rfl
  | 3, _ => rfl
  | 4, _ => rfl
  | 5, _ => rfl
  | 6, _ => rfl
  | 7, _ => rfl
  | 8, _ => rfl
  | 9, _ => rfl
  | 10, _ => rfl
  | 11, _ => rfl
theorem arr_get (f : Nat → Bool) (j : Nat) (h : j < 12) : (arr f)[j]? = some (.bool (f j)) := by
  match j, h with
  | 0, _ => rfl
  | 1, _ => rfl
  | 2, _ => rfl
  | 3, _ => rfl
  | 4, _ => rfl
  | 5, _ => rfl
  | 6, _ => rfl
  | 7, _ => rfl
  | 8, _ => rfl
  | 9, _ => rfl
  | 10, _ => rfl
  | 11, _ => rfl

theorem eq12 (w : World) (b0 b1 b2 b3 b4 b5 b6 b7 b8 b9 b10 b11 : Bool) :
    (Op.equalIn 10000 102 (.agg #[.bool b0, .bool b1, .bool b2, .bool b3, .bool b4, .bool b5, .bool b6, .bool b7, .bool b8, .bool b9, .bool b10, .bool b11]) (.agg #[.bool false, .bool false, .bool false, .bool false, .bool false, .bool false, .bool false, .bool false, .bool false, .bool false, .bool false, .bool false])).run Try.prog w = .ok (!(b0 || b1 || b2 || b3 || b4 || b5 || b6 || b7 || b8 || b9 || b10 || b11)) w := by
  cases b0
  · cases b1
    · cases b2
      · cases b3
        · cases b4
          · cases b5
            · cases b6
              · cases b7
                · cases b8
                  · cases b9
                    · cases b10
                      · cases b11 <;> kernel_rfl
                      · kernel_rfl
                    · kernel_rfl
                  · kernel_rfl
                · kernel_rfl
              · kernel_rfl
            · kernel_rfl
          · kernel_rfl
        · kernel_rfl
      · kernel_rfl
    · kernel_rfl
  · kernel_rfl

def BlkIs (w : World) (B : Nat) (T : TypeId) (f : Nat → Bool) : Prop := w.heap[B]? = some (.cells (arr f) T (0, 0))
theorem BlkIs.cell {w : World} {B : Nat} {T : TypeId} {f : Nat → Bool} (h : BlkIs w B T f) (j : Nat) (hj : j < 12) : w.cell? ⟨B, j, none⟩ = some (.bool (f j)) := by
  unfold BlkIs at h
  simp [World.cell?, h, arr_get f j hj]
theorem BlkIs.free {w : World} {B : Nat} {T : TypeId} {f : Nat → Bool} (h : BlkIs w B T f) (j : Nat) : w.frozen? ⟨B, j, none⟩ = false := by
  unfold BlkIs at h
  simp [World.frozen?, h]
theorem BlkIs.lt {w : World} {B : Nat} {T : TypeId} {f : Nat → Bool} (h : BlkIs w B T f) : B < w.heap.size := (Array.getElem?_eq_some_iff.1 h).1
theorem BlkIs.bel {w w' : World} {B : Nat} {T : TypeId} {f : Nat → Bool} (h : BlkIs w B T f) (hb : Bel w w') : BlkIs w' B T f := (hb.block B h.lt).trans h
theorem BlkIs.set {w : World} {B : Nat} {T : TypeId} {f : Nat → Bool} (h : BlkIs w B T f) (j : Nat) (hj : j < 12) (b : Bool) : BlkIs (w.setCell ⟨B, j, none⟩ (.bool b)) B T (fun i => if i = j then b else f i) := by
  have hlt := h.lt
  have h' : w.heap[B] = .cells (arr f) T (0, 0) := by unfold BlkIs at h; simpa [Array.getElem?_eq_getElem hlt] using h
  show (w.heap.modify B _)[B]? = _
  rw [Array.getElem?_eq_getElem (by simpa using hlt), Array.getElem_modify_self, h']
  simp [arr_set f j b hj]
theorem BlkIs.other {w : World} {B : Nat} {T : TypeId} {f : Nat → Bool} (h : BlkIs w B T f) {p : Addr} (hp : p.block ≠ B) (v : Value) : BlkIs (w.setCell p v) B T f :=
  (Below.heap_setCell w p v B (by omega)).trans h

/-- .. while a row of the call's own, behind it, has grown. -/
theorem blk_grown {w w' : World} {o : Obj} {B : Nat} {T e : TypeId} {f : Nat → Bool} {v : Value} {n sz : Nat} {xs : List Value} (h : BlkIs w B T f) (hown : w.ownsRow (B + 1) e sz v n xs) (hg : (w.alloc o).grownBy w' v.ownBlock) : BlkIs w' B T f := by
  have hlt := h.lt
  refine (hg.block B (by simp; omega) (fun e => ?_)).trans ((Below.heap_alloc w o B hlt).trans h)
  have := own_base hown B e.symm
  omega
def mk (t : List Int) (j : Nat) : Bool := decide ((-1 - (j : Int)) ∈ t)
theorem mk_step (t : List Int) (k m : Nat) (hk : k < t.length) (hx : t.getD k 0 = -1 - (m : Int)) : (fun i => if i = m then true else mk (t.take k) i) = mk (t.take (k+1)) := by
  funext i
  unfold mk
  rw [List.take_succ_eq_append_getElem hk]
  have e : t[k] = -1 - (m : Int) := by simpa [List.getD, hk] using hx
  rw [e]
  by_cases h : i = m
  · subst h; simp
  · rw [if_neg h]
    have : (-1 - (i : Int)) ≠ -1 - (m : Int) := by omega
    simp [this]
theorem mk_skip (t : List Int) (k : Nat) (hk : k < t.length) (hx : 0 ≤ t.getD k 0) : mk (t.take k) = mk (t.take (k+1)) := by
  funext i
  unfold mk
  rw [List.take_succ_eq_append_getElem hk]
  have e : 0 ≤ t[k] := by simpa [List.getD, hk] using hx
  have h1 : (-1 - (i : Int)) ≠ t[k] := by omega
  have h2 : (-1 - (i : Int) ∈ t.take k) ↔ (-1 - (i : Int) ∈ t.take k ++ [t[k]]) := by
    rw [List.mem_append, List.mem_singleton]
    exact ⟨Or.inl, fun h => h.resolve_right h1⟩
  exact decide_eq_decide.2 h2

theorem results_cell_one {fn : Func} {p : Tmp} {ty : TypeId} (h : fn.results = #[.cell p ty]) (tmps : Array Value) (P : Program) (w : World) :
    (results fn tmps).run P w = ((asAddr (tmps.getD p undef)).run P w).andThen fun a w₁ => (loadVar ty a).run P w₁ := by
  simp only [results, h]
  simp [Sem.run_bind, Result.andThen]
theorem arr_all (f : Nat → Bool) : (arr f).all (·.oneCell') = true := by simp [arr, Value.oneCell']
theorem Try.info102 : (Try.prog.info? 102).map (·.size) = some 12 := by kernel_rfl
theorem zero12 : (#[.bool false, .bool false, .bool false, .bool false, .bool false, .bool false, .bool false, .bool false, .bool false, .bool false, .bool false, .bool false] : Array Value) = arr (fun _ => false) := rfl

set_option maxRecDepth 100000 in
set_option maxHeartbeats 400000 in
theorem marksOf_c (l h : Nat) (v : Value) (t : List Int) (w : World) (ht : t.length ≤ 1048576) (hlow : ∀ k, k < t.length → -12 ≤ t.getD k 0) (hv : SlI l h w v t) :
    Calls Try.prog 82 #[v] w (RetV w (.agg (arr (mk t)))) := by
  obtain ⟨ad, cap, rfl, -, -, hr⟩ := hv
  go_enter Try.func82, Try.ntmps82
  go_wp2_with fail
  go_loopw [8] (fun i wr => ∃ k : Nat, k ≤ t.length ∧ i = .int .i64 k ∧ BlkIs wr (w.heap.size + 1) 102 (mk (t.take k)) ∧ BlkIs wr w.heap.size 102 (fun _ => false) ∧ Bel w wr) (fun i _ => t.length - (intOf i).toNat)
  case atStart =>
    refine ⟨0, Nat.zero_le _, rfl, ?_, ?_, Bel.alloc2 _ _ _⟩
    · have e : mk (t.take 0) = fun _ => false := by funext i; simp [mk]
      rw [e]; unfold BlkIs; rw [← zero12]
      have := heap_alloc_new (w.alloc (.cells (arr fun _ => false) 102)) (.cells (arr fun _ => false) 102)
      simpa [zero12] using this
    · unfold BlkIs; rw [← zero12]
      rw [Below.heap_alloc _ _ _ (by simp)]
      exact heap_alloc_new w _
  case round =>
    obtain ⟨k, hk, rfl, hB1, hB0, hb⟩ := hrel
    by_cases hlt : k < t.length
    · obtain ⟨b, off, rfl, -, hcell⟩ := rd hr hb k hlt
      have hx12 := hlow k hlt
      have E1 := Lib.hid (fun m => mk_step t k m hlt)
      have E2 := Lib.hid (mk_skip t k hlt)
      clear hr hlow
      generalize t.getD k 0 = x at *
      by_cases hx : x < 0
      · have hm : (-1 - x).toNat < 12 := by omega
        have hc := hB1.cell _ hm
        have hf := hB1.free (-1 - x).toNat
        have hi0 : 0 ≤ -1 - x := by omega
        have hi1 : -1 - x < 12 := by omega
        have HS := Lib.hid (hB1.set _ hm true)
        have H0 := Lib.hid (hB0.other (p := ⟨w.heap.size + 1, (-1 - x).toNat, none⟩) (by simp) (.bool true))
        have hbs := hb.set (p := ⟨w.heap.size + 1, (-1 - x).toNat, none⟩) (by simp) (.bool true)
        have hbb := Lib.hid hbs
        clear hB1 hB0 hbs
        go_wp2_with fail
        go_roundw
        case rel => exact ⟨k+1, by omega, by go_num, by rw [← E1.out (-1 - x).toNat (by omega)]; exact HS.out, H0.out, hbb.out⟩
        case measure => simp [intOf]; omega
      · go_wp2_with fail
        go_roundw
        case rel => exact ⟨k+1, by omega, by go_num, by rw [← E2.out (by omega)]; exact hB1, hB0, hb⟩
        case measure => simp [intOf]; omega
    · rw [show t.take k = t from List.take_of_length_le (by omega)] at hB1
      go_wp2_with (first | (refine wpList_load_row rfl 102 (.tmp 3) rfl (w.heap.size + 1) rfl _ _ _ _ hB1 Try.underlying102 rfl Try.info102 ?_) | (refine wpList_store_row rfl 102 (.tmp 2) (.tmp 18) rfl w.heap.size (arr (mk t)) rfl rfl _ _ hB0 Try.info102 rfl (arr_all _) ?_))
      have hrun := run_loadVar_row (P := Try.prog) (wr.setRow w.heap.size (arr (mk t))) w.heap.size 102 102 (arr (mk t)) (0, 0) _ (setRow_heap wr w.heap.size _ (arr (mk t)) 102 (0, 0) hB0) Try.underlying102 rfl Try.info102
      refine bodyPost_ret (v := .agg (arr (mk t))) ?_ rfl ⟨rfl, below_setRow hb (Nat.le_refl _) _⟩
      rw [results_cell_one Try.results82]
      exact hrun
/-- From v on what is left of f. -/
def leftF (f : Nat → Bool) (v j : Nat) : Bool := f j && decide (v ≤ j)
def varsTo (f : Nat → Bool) (v : Nat) : List Nat := (List.range v).filter f
theorem varsTo_succ (f : Nat → Bool) (v : Nat) : varsTo f (v + 1) = if f v then varsTo f v ++ [v] else varsTo f v := by
  unfold varsTo
  rw [List.range_succ, List.filter_append]
  by_cases h : f v <;> simp [h]
theorem left_zero (f : Nat → Bool) : leftF f 0 = f := by funext j; simp [leftF]
theorem left_clear (f : Nat → Bool) (v : Nat) : (fun i => if i = v then false else leftF f v i) = leftF f (v + 1) := by
  funext i
  unfold leftF
  by_cases h : i = v
  · subst h; simp
  · rw [if_neg h]
    congr 1
    rw [decide_eq_decide]; omega
theorem left_skip (f : Nat → Bool) (v : Nat) (h : f v = false) : leftF f v = leftF f (v + 1) := by
  rw [← left_clear]
  funext i
  by_cases e : i = v
  · subst e; simp [leftF, h]
  · rw [if_neg e]
theorem anyB_iff (f : Nat → Bool) : anyB f = true ↔ ∃ j, j < 12 ∧ f j = true := by
  constructor
  · intro h
    simp only [anyB, Bool.or_eq_true] at h
    rcases h with ((((((((((( h | h) | h) | h) | h) | h) | h) | h) | h) | h) | h) | h)
    · exact ⟨0, by omega, h⟩
    · exact ⟨1, by omega, h⟩
    · exact ⟨2, by omega, h⟩
    · exact ⟨3, by omega, h⟩
    · exact ⟨4, by omega, h⟩
    · exact ⟨5, by omega, h⟩
    · exact ⟨6, by omega, h⟩
    · exact ⟨7, by omega, h⟩
    · exact ⟨8, by omega, h⟩
    · exact ⟨9, by omega, h⟩
    · exact ⟨10, by omega, h⟩
    · exact ⟨11, by omega, h⟩
  · rintro ⟨j, hj, h⟩
    match j, hj with
    | 0, _ => simp [anyB, h]
    | 1, _ => simp [anyB, h]
    | 2, _ => simp [anyB, h]
    | 3, _ => simp [anyB, h]
    | 4, _ => simp [anyB, h]
    | 5, _ => simp [anyB, h]
    | 6, _ => simp [anyB, h]
    | 7, _ => simp [anyB, h]
    | 8, _ => simp [anyB, h]
    | 9, _ => simp [anyB, h]
    | 10, _ => simp [anyB, h]
    | 11, _ => simp [anyB, h]
theorem left_some {f : Nat → Bool} {v : Nat} (h : anyB (leftF f v) = true) : v < 12 := by
  obtain ⟨j, hj, h1⟩ := (anyB_iff _).1 h
  simp [leftF] at h1
  omega
theorem left_none {f : Nat → Bool} {v : Nat} (h : anyB (leftF f v) = false) (hv : v ≤ 12) : varsTo f v = varsTo f 12 := by
  have hz : ∀ j, v ≤ j → j < 12 → f j = false := by
    intro j h1 h2
    cases hf : f j with
    | false => rfl
    | true =>
      have : anyB (leftF f v) = true := (anyB_iff _).2 ⟨j, h2, by simp [leftF, hf, h1]⟩
      rw [h] at this; simp at this
  have : ∀ n, v + n ≤ 12 → varsTo f (v + n) = varsTo f v := by
    intro n
    induction n with
    | zero => intro _; rfl
    | succ n ih =>
      intro hn
      rw [show v + (n + 1) = (v + n) + 1 from rfl, varsTo_succ, hz (v + n) (by omega) (by omega), if_neg (by simp), ih (by omega)]
  have h2 := this (12 - v) (by omega)
  rw [show v + (12 - v) = 12 from by omega] at h2
  exact h2.symm
theorem varsTo_len (f : Nat → Bool) (v : Nat) : (varsTo f v).length ≤ v := by
  have := List.length_filter_le f (List.range v)
  simpa [varsTo] using this

def varsAns (ar t : List Int) : List Int := if goodTerm ar t then natsI (varsTo (mk t) 12) else []
theorem varsAns_len (ar t : List Int) : (varsAns ar t).length ≤ 1048576 := by
  unfold varsAns
  split
  · rw [natsI_len]; exact Nat.le_trans (varsTo_len _ _) (by omega)
  · exact Nat.zero_le _
theorem vars_no {ar t : List Int} (h : goodTerm ar t = false) : varsAns ar t = [] := by simp [varsAns, h]
theorem vars_yes {ar t : List Int} (h : goodTerm ar t = true) : varsAns ar t = natsI (varsTo (mk t) 12) := by simp [varsAns, h]
theorem low_of_good {ar t : List Int} (h : goodTerm ar t = true) : ∀ k, k < t.length → -12 ≤ t.getD k 0 := by
  intro k hk
  have := good_sym ar t (goodTerm_iff.1 h).2 k hk
  simp [okSym, inB] at this
  simp only [List.getD]
  omega

set_option maxRecDepth 100000 in
set_option maxHeartbeats 1000000 in
theorem mvars_c (f : Nat → Bool) (w : World) : Calls Try.prog 84 #[.agg (arr f)] w (RetI w (natsI (varsTo f 12))) := by
  obtain ⟨i0, hi0, hz0, hz1, hz2⟩ := info_parts Try.info3
  have hneq := fun (W : World) (f : Nat → Bool) => eq12 W (f 0) (f 1) (f 2) (f 3) (f 4) (f 5) (f 6) (f 7) (f 8) (f 9) (f 10) (f 11)
  have HNEQ : Hid (∀ (W : World) (f : Nat → Bool), (Op.equalIn 10000 102 (.agg (arr f)) (.agg #[.bool false, .bool false, .bool false, .bool false, .bool false, .bool false, .bool false, .bool false, .bool false, .bool false, .bool false, .bool false])).run Try.prog W = .ok (!anyB f) W) := hneq
  clear hneq
  have HBB : Hid ((w.alloc (.cells (arr f) 102)).heap[w.heap.size]? = some (.cells (arr f) 102 (0, 0))) := heap_alloc_new w _
  go_enter Try.func84, Try.ntmps84
  go_wp2_with fail
  go_loopw [3, 4] (fun o x wr => ∃ vv : Nat, vv ≤ 12 ∧ x = .int .i64 vv ∧ BlkIs wr w.heap.size 102 (leftF f vv) ∧
      wr.ownsRow (w.heap.size + 1) 3 1 o (natsI (varsTo f vv)).length ((natsI (varsTo f vv)).map (Value.int .i64)) ∧ Bel w wr ∧ w.heap.size + 1 ≤ wr.heap.size) (fun _ x _ => 12 - (intOf x).toNat)
  case atStart => exact ⟨0, Nat.zero_le _, rfl, by rw [left_zero]; exact HBB.out, World.ownsRow_nil _ _ _ _, Bel.alloc0 w _, by simp⟩
  case round =>
    obtain ⟨vv, hvv, rfl, hB, hown, hbr, hsz⟩ := hrel
    have hq := HNEQ.out wr (leftF f vv)
    have hvl := varsTo_len f vv
    have ES := Lib.hid (varsTo_succ f vv)
    have hnl : (natsI (varsTo f vv)).length ≤ 12 := by rw [natsI_len]; omega
    cases hany : anyB (leftF f vv) with
    | false =>
      rw [hany] at hq
      have EN := Lib.hid (left_none hany hvv)
      clear hany
      obtain ⟨g, m2, c2, hv'⟩ := own_form hown
      subst hv'
      go_wp2_with (refine wpList_load_row rfl 102 (.tmp 1) rfl w.heap.size rfl _ _ _ _ hB Try.underlying102 rfl Try.info102 ?_)
      go_ret
      exact ⟨_, _, _, rfl, by rw [← EN.out]; exact (OwnI.of_row hown).mono (by omega) (Nat.le_refl _), hbr⟩
    | true =>
      rw [hany] at hq
      have hv12 := left_some hany
      have hcell := hB.cell vv hv12
      have hfree := hB.free vv
      have hvi : (vv : Int) < 12 := by omega
      cases hf : f vv with
      | false =>
        have hl : leftF f vv vv = false := by simp [leftF, hf]
        rw [hl] at hcell
        have EL := Lib.hid (left_skip f vv hf)
        have EV : Hid (varsTo f (vv + 1) = varsTo f vv) := by show _ = _; rw [ES.out, hf]; rfl
        have HB := Lib.hid hB
        clear hany hf hl
        go_wp2_with (refine wpList_load_row rfl 102 (.tmp 1) rfl w.heap.size rfl _ _ _ _ HB.out Try.underlying102 rfl Try.info102 ?_)
        go_roundw
        case rel => exact ⟨vv + 1, by omega, by go_num, by rw [← EL.out]; exact HB.out, by rw [EV.out]; exact hown, hbr, hsz⟩
        case measure => simp [intOf]; omega
      | true =>
        have hl : leftF f vv vv = true := by simp [leftF, hf]
        rw [hl] at hcell
        have EV : Hid (natsI (varsTo f (vv + 1)) = natsI (varsTo f vv) ++ [(vv : Int)]) := by show _ = _; rw [ES.out, hf, if_pos rfl, natsI_snoc]
        have HB := Lib.hid hB
        clear hany hf hl
        go_wp2_with (first | (at_builtin; refine wpList_append_own _ rfl _ _ 22 rfl (w.heap.size + 1) 3 i0 (.int .i64 0) 1 8 Try.underlying22 hi0 hz0 hz1 hz2 rfl (by decide) _ _ _ rfl (hown.alloc _) ⟨wr.heap.size, 0, none⟩ 1 1 [.int .i64 vv] rfl rfl (news_one _ _ _) (one_int _) (by unfold maxLen; omega) (by omega) (by simp; omega) ?_; intro v' w3 hown' hgrow _; have hB3 := blk_grown HB.out hown hgrow; have hcell3 := hB3.cell vv hv12; have hfree3 := hB3.free vv) | (refine wpList_load_row rfl 102 (.tmp 1) rfl w.heap.size rfl _ _ _ _ HB.out Try.underlying102 rfl Try.info102 ?_))
        have hB4 := hB3.set vv hv12 false
        rw [left_clear] at hB4
        have hown4 := ownsRow_setCell_below (row_snoc hown') (a := ⟨w.heap.size, vv, none⟩) (by simp) (.bool false)
        rw [← EV.out] at hown4
        have hbr4 := ((hbr.alloc (.cells #[.int .i64 (vv : Int)] 3)).grown hgrow (fun k hk => by have := own_base hown k hk; omega)).set (p := ⟨w.heap.size, vv, none⟩) (Nat.le_refl _) (.bool false)
        have hsz4 : w.heap.size + 1 ≤ (w3.setCell ⟨w.heap.size, vv, none⟩ (.bool false)).heap.size := by have := hgrow.size; simp at this ⊢; omega
        go_roundw
        case rel => exact ⟨vv + 1, by omega, by go_num, hB4, hown4, hbr4, hsz4⟩
        case measure => simp [intOf]; omega

end Go.Proofs.Ytnldienjkejfcaa
end
section
/- Chapter 4: facts on the answers. No program. -/
namespace Go.Proofs.Ytnldienjkejfcaa
open Go.RowKit

theorem flat_all (ar : List Int) (c : List Lt) : (flatC c).all (okTerm ar) = c.all (okLit ar) := by
  induction c with
  | nil => rfl
  | cons x r ih => rw [flatC_cons]; simp only [List.all_cons, ih, okLit, Bool.and_assoc]
theorem goodTerms_flat (ar : List Int) {c : List Lt} (h : c.length ≤ 8) : goodTerms ar (flatC c) 16 = goodClause ar c := by
  unfold goodTerms goodClause okLits
  rw [flat_all, flatC_len, decide_eq_true (show 2 * c.length ≤ 16 by omega), decide_eq_true h, Bool.and_true, Bool.true_and]
theorem goodClause_long (ar : List Int) {c : List Lt} (h : ¬ c.length ≤ 8) : goodClause ar c = false := by
  unfold goodClause okLits
  rw [decide_eq_false h]; simp
theorem flat_mem {c : List Lt} {t : List Int} (h : t ∈ flatC c) : ∃ x ∈ c, t = x.2.1 ∨ t = x.2.2 := by
  unfold flatC at h
  obtain ⟨x, hx, ht⟩ := List.mem_flatMap.1 h
  exact ⟨x, hx, by simpa using ht⟩
theorem flat_ok {ar : List Int} {c : List Lt} (h : ∀ x ∈ c, okLit ar x = true) {t : List Int} (ht : t ∈ flatC c) : okTerm ar t = true := by
  obtain ⟨x, hx, e⟩ := flat_mem ht
  have := okLit_iff.1 (h x hx)
  rcases e with rfl | rfl
  · exact this.1
  · exact this.2
theorem mem_getD {α : Type} (l : List α) (d : α) (j : Nat) (h : j < l.length) : l.getD j d ∈ l := by
  rw [List.getD_eq_getElem?_getD, List.getElem?_eq_getElem h]; exact List.getElem_mem h
theorem ok_litC {ar : List Int} {c : List Lt} (h : goodClause ar c = true) {j : Nat} (hj : j < c.length) : okTerm ar (c.getD j lt0).2.1 = true ∧ okTerm ar (c.getD j lt0).2.2 = true :=
  okLits_get (goodClause_iff.1 h).2.2 j hj

theorem low_memC {t : List Int} (h : ∀ n ∈ t, -12 ≤ n) : ∀ k, k < t.length → -12 ≤ t.getD k 0 := fun k hk => h _ (mem_getD t 0 k hk)
theorem ok_low {ar t : List Int} (h : okTerm ar t = true) {n : Int} (hn : n ∈ t) : -12 ≤ n := by
  obtain ⟨k, hk, rfl⟩ := List.getElem_of_mem hn
  have := good_sym ar t h k hk
  simp [okSym, inB, hk] at this
  exact this.1
theorem flat_low {ar : List Int} {c : List Lt} (h : goodClause ar c = true) : ∀ k, k < (flatC c).flatten.length → -12 ≤ (flatC c).flatten.getD k 0 := by
  refine low_memC fun n hn => ?_
  obtain ⟨t, ht, hnt⟩ := List.mem_flatten.1 hn
  exact ok_low (flat_ok (goodClause_iff.1 h).2.2 ht) hnt

/-- The signs of c, those terms. -/
theorem zipC_len (c : List Lt) : ∀ ts : List (List Int), ts.length = 2 * c.length → (zipC c ts).length = c.length := by
  induction c with
  | nil => intro ts _; rfl
  | cons x c ih =>
    intro ts h
    match ts, h with
    | l :: r :: ts, h => simp [zipC, ih ts (by simp at h; omega)]
theorem zipC_flat (c : List Lt) : ∀ ts : List (List Int), ts.length = 2 * c.length → flatC (zipC c ts) = ts := by
  induction c with
  | nil => intro ts h; simp at h; subst h; rfl
  | cons x c ih =>
    intro ts h
    match ts, h with
    | l :: r :: ts, h => simp only [zipC, flatC_cons]; rw [ih ts (by simp at h; omega)]
theorem zipC_signs (c : List Lt) : ∀ ts : List (List Int), ts.length = 2 * c.length → (zipC c ts).map (·.1) = c.map (·.1) := by
  induction c with
  | nil => intro ts _; rfl
  | cons x c ih =>
    intro ts h
    match ts, h with
    | l :: r :: ts, h => simp [zipC, ih ts (by simp at h; omega)]
theorem zipC_get (c : List Lt) : ∀ (ts : List (List Int)) (j : Nat), ts.length = 2 * c.length → j < c.length → (zipC c ts).getD j lt0 = ((c.getD j lt0).1, ts.getD (2*j) [], ts.getD (2*j+1) []) := by
  induction c with
  | nil => intro ts j _ h; simp at h
  | cons x c ih =>
    intro ts j h hj
    match ts, h with
    | l :: r :: ts, h =>
      cases j with
      | zero => simp [zipC]
      | succ j =>
        have := ih ts j (by simp at h; omega) (by simpa using hj)
        simpa [zipC, show 2 * (j + 1) = 2 * j + 1 + 1 from by omega] using this
theorem zipC_map (f : List Int → List Int) (c : List Lt) : zipC c ((flatC c).map f) = c.map fun x => (x.1, f x.2.1, f x.2.2) := by
  induction c with
  | nil => rfl
  | cons x c ih => rw [flatC_cons]; simp [zipC, ih]

def varsInAns (ar : List Int) (c : List Lt) : List Int := if goodClause ar c then natsI (varsTo (mk (flatC c).flatten) 12) else []
theorem varsInAns_len (ar : List Int) (c : List Lt) : (varsInAns ar c).length ≤ 1048576 := by
  unfold varsInAns
  split
  · rw [natsI_len]; exact Nat.le_trans (varsTo_len _ _) (by omega)
  · exact Nat.zero_le _

def applyC (b : List (List Int)) (c : List Lt) : List Lt := c.map fun x => (x.1, appT b x.2.1, appT b x.2.2)
def applyCok (ar : List Int) (b : List (List Int)) (c : List Lt) : Bool := (goodSubst ar b && okLits ar c) && okLits ar (applyC b c)
def applyCAns (ar : List Int) (b : List (List Int)) (c : List Lt) : List Lt := if applyCok ar b c then applyC b c else []
theorem applyC_flat (b : List (List Int)) (c : List Lt) : flatC (applyC b c) = (flatC c).map (appT b) := by
  induction c with
  | nil => rfl
  | cons x c ih => rw [flatC_cons, show applyC b (x :: c) = (x.1, appT b x.2.1, appT b x.2.2) :: applyC b c from rfl, flatC_cons, ih]; rfl
theorem applyC_ok {ar : List Int} {b : List (List Int)} {c : List Lt} (hb : goodSubst ar b = true) (hc : okLits ar c = true) : okLits ar (applyC b c) = (flatC c).all (app40ok b) := by
  obtain ⟨hl, h⟩ := okLits_iff.1 hc
  unfold okLits
  rw [← flat_all, applyC_flat, show (applyC b c).length = c.length from by simp [applyC], decide_eq_true hl, Bool.true_and, List.all_map]
  rw [Bool.eq_iff_iff, List.all_eq_true, List.all_eq_true]
  constructor
  · intro k t ht
    rw [← app_ok hb (flat_ok h ht)]; exact k t ht
  · intro k t ht
    show okTerm ar (appT b t) = true
    rw [app_ok hb (flat_ok h ht)]; exact k t ht

def renC (c : List Lt) : List Lt := zipC c (renS [] (flatC c))
def renCAns (ar : List Int) (c : List Lt) : List Lt := if goodClause ar c then renC c else []
end Go.Proofs.Ytnldienjkejfcaa
end
section
/- The laws' helpers over literals and slices of literals, by contracts: sizes and copies. -/
namespace Go.Proofs.Ytnldienjkejfcaa
open Go.RowKit

set_option maxRecDepth 100000 in
set_option maxHeartbeats 400000 in
theorem szLit_c (l h : Nat) (p : Bool) (u1 u2 : Value) (xl xr : List Int) (left : Int) (w : World) (hl : xl.length ≤ 9223372036854775807) (hr : xr.length ≤ 9223372036854775807) (h0 : 0 ≤ left) (h1 : left ≤ 1048576) (hv1 : SlI l h w u1 xl) (hv2 : SlI l h w u2 xr) :
    Calls Try.prog 30 #[.agg #[.bool p, u1, u2], .int .i64 left] w (RetV w (.int .i64 (szI (xl.length + xr.length) left))) := by
  have HB := Bel.alloc0 w (.cells #[.bool p, u1, u2] 57)
  by_cases hs : left - xl.length < 0
  · have E : Hid (szI (xl.length + xr.length) left = -1) := by show szI _ _ = _; unfold szI; rw [if_pos (by omega)]
    have e1 : szI xl.length left = -1 := by unfold szI; rw [if_pos hs]
    have HC := Lib.hid (szIntS_c l h u1 xl left _ hl h0 h1 (hv1.below HB))
    rw [e1] at HC
    clear hv1 hv2 hs e1
    go_enter Try.func30, Try.ntmps30
    go_wp2_with (go_at_call 29; refine HC.out.mono ?_; rintro e w' ⟨rfl, hb1⟩)
    go_ret
    exact ⟨by rw [E.out]; rfl, HB.step hb1⟩
  · have e1 : szI xl.length left = left - xl.length := by unfold szI; rw [if_neg hs]
    have HC := Lib.hid (szIntS_c l h u1 xl left _ hl h0 h1 (hv1.below HB))
    rw [e1] at HC
    have hz0 : 0 ≤ left - (xl.length : Int) := by omega
    have hz1 : left - (xl.length : Int) ≤ 1048576 := by omega
    by_cases hs2 : left - xl.length - xr.length < 0
    · have E : Hid (szI (xl.length + xr.length) left = -1) := by show szI _ _ = _; unfold szI; rw [if_pos (by omega)]
      have e2 : szI xr.length (left - xl.length) = -1 := by unfold szI; rw [if_pos hs2]
      have HD := Lib.hid (fun (w' : World) (hb : Bel (w.alloc (.cells #[.bool p, u1, u2] 57)) w') => szIntS_c l h u2 xr (left - xl.length) w' hr hz0 hz1 ((hv2.below HB).below hb))
      rw [e2] at HD
      clear hv1 hv2 hs e1 hs2 e2
      generalize left - (xl.length : Int) = z at *
      go_enter Try.func30, Try.ntmps30
      go_wp2_with fail
      refine HC.out.mono ?_; rintro e w1 ⟨rfl, hb1⟩
      have hbx := hb1.at (b := w.heap.size) (off := 2) (by simp) (show (w.alloc (.cells #[.bool p, u1, u2] 57)).cell? ⟨w.heap.size, 2, none⟩ = some u2 by simp)
      go_wp2_with fail
      refine (HD.out _ hb1).mono ?_; rintro e w2 ⟨rfl, hb2⟩
      go_wp2_with fail
      go_ret
      exact ⟨by rw [E.out]; rfl, (HB.step hb1).step hb2⟩
    · have E : Hid (szI (xl.length + xr.length) left = left - xl.length - xr.length) := by show szI _ _ = _; unfold szI; rw [if_neg (by omega)]; omega
      have e2 : szI xr.length (left - xl.length) = left - xl.length - xr.length := by unfold szI; rw [if_neg hs2]
      have HD := Lib.hid (fun (w' : World) (hb : Bel (w.alloc (.cells #[.bool p, u1, u2] 57)) w') => szIntS_c l h u2 xr (left - xl.length) w' hr hz0 hz1 ((hv2.below HB).below hb))
      rw [e2] at HD
      have hy0 : 0 ≤ left - (xl.length : Int) - xr.length := by omega
      clear hv1 hv2 hs e1 hs2 e2
      generalize left - (xl.length : Int) - (xr.length : Int) = y at *
      generalize left - (xl.length : Int) = z at *
      go_enter Try.func30, Try.ntmps30
      go_wp2_with fail
      refine HC.out.mono ?_; rintro e w1 ⟨rfl, hb1⟩
      have hbx := hb1.at (b := w.heap.size) (off := 2) (by simp) (show (w.alloc (.cells #[.bool p, u1, u2] 57)).cell? ⟨w.heap.size, 2, none⟩ = some u2 by simp)
      go_wp2_with fail
      refine (HD.out _ hb1).mono ?_; rintro e w2 ⟨rfl, hb2⟩
      go_wp2_with fail
      go_ret
      exact ⟨by rw [E.out]; rfl, (HB.step hb1).step hb2⟩

def szC (c : List Lt) (left : Int) : Int := if left - (sumC c : Nat) < 0 then -1 else left - (sumC c : Nat)
def lenC (c : List Lt) : Nat := sumL (flatC c)
theorem sumC_eq (c : List Lt) : sumC c = c.length + lenC c := by
  unfold lenC
  induction c with
  | nil => rfl
  | cons x r ih => rw [flatC_cons]; simp only [sumC, sumL, List.map_cons, List.sum_cons, List.length_cons, wC] at *; omega
theorem lenC_take (c : List Lt) (k : Nat) (h : k < c.length) : lenC (c.take (k+1)) = lenC (c.take k) + ((c.getD k lt0).2.1.length + (c.getD k lt0).2.2.length) := by
  have h1 := sumC_take c k h
  rw [sumC_eq, sumC_eq] at h1
  have e1 : (c.take (k+1)).length = k + 1 := by rw [List.length_take]; omega
  have e2 : (c.take k).length = k := by rw [List.length_take]; omega
  unfold wC at h1
  omega
theorem lenC_all (c : List Lt) (k : Nat) (h : ¬ k < c.length) : lenC (c.take k) = lenC c := by rw [List.take_of_length_le (by omega)]
theorem lenC_get (c : List Lt) (k : Nat) (h : k < c.length) : lenC (c.take k) + ((c.getD k lt0).2.1.length + (c.getD k lt0).2.2.length) ≤ lenC c := by
  rw [← lenC_take c k h]
  conv => rhs; rw [← List.take_append_drop (k+1) c]
  unfold lenC
  rw [flatC_app]; unfold sumL; rw [List.map_append, List.sum_append]; omega
theorem SlC.max {lo hi w v c} (h : SlC lo hi w v c) : c.length ≤ 9223372036854775807 ∧ ∀ j, j < c.length → (c.getD j lt0).2.1.length ≤ 9223372036854775807 ∧ (c.getD j lt0).2.2.length ≤ 9223372036854775807 := by
  obtain ⟨ad, cap, e, hc, hm, hr⟩ := h
  have hml : maxLen = 9223372036854775807 := rfl
  refine ⟨by omega, fun j hj => ?_⟩
  obtain ⟨b, off, _, _, _, hx⟩ := hr (by omega)
  obtain ⟨u1, u2, _, _, _, ⟨ad2, cap2, _, hc2, hm2, _⟩, ⟨ad3, cap3, _, hc3, hm3, _⟩⟩ := hx j hj
  omega

set_option maxRecDepth 100000 in
set_option maxHeartbeats 400000 in
theorem szLitS_c (l h : Nat) (v : Value) (c : List Lt) (left : Int) (w : World) (h0 : 0 ≤ left) (h1 : left ≤ 1048576) (hv : SlC l h w v c) :
    Calls Try.prog 9 #[v, .int .i64 left] w (RetV w (.int .i64 (szC c left))) := by
  obtain ⟨ad, cap, rfl⟩ := hv.form
  obtain ⟨hx, hmax⟩ := hv.max
  have hse := sumC_eq c
  by_cases hs : left - c.length < 0
  · have E : Hid (szC c left = -1) := by show szC _ _ = _; unfold szC; rw [if_pos (by omega)]
    go_enter Try.func9, Try.ntmps9
    go_wp2_with fail
    go_ret
    exact ⟨by rw [E.out]; rfl, Bel.rfl' _⟩
  · have hw1 := IntWalk.i64_in (left - c.length) (by omega)
    go_enter Try.func9, Try.ntmps9
    go_wp2_with fail
    go_loopw [1, 5] (fun m i wr => ∃ (k : Nat) (z : Int), k ≤ c.length ∧ i = .int .i64 k ∧ m = .int .i64 z ∧ 0 ≤ z ∧ z = left - c.length - (lenC (c.take k) : Nat) ∧ Bel w wr) (fun _ i _ => c.length - (intOf i).toNat)
    case atStart => exact ⟨0, _, Nat.zero_le _, rfl, by go_num, by omega, by simp [lenC, flatC, sumL], Bel.rfl' _⟩
    case round =>
      obtain ⟨k, z, hk, rfl, rfl, hz0, hz, hb⟩ := hrel
      by_cases hlt : k < c.length
      · obtain ⟨b, off, u1, u2, rfl, -, c1, c2, c3, s1, s2⟩ := hv.at hb k hlt
        obtain ⟨hm1, hm2⟩ := hmax k hlt
        have hst := lenC_take c k hlt
        have hsl := lenC_get c k hlt
        have hcall := szLit_c l h (c.getD k lt0).1 u1 u2 (c.getD k lt0).2.1 (c.getD k lt0).2.2 z wr hm1 hm2 hz0 (by omega) s1 s2
        have hin0 : (0 : Int) ≤ k := by omega
        have hin1 : (k : Int) < c.length := by omega
        generalize hp : (c.getD k lt0).1 = p at *
        generalize hxl : (c.getD k lt0).2.1 = xl at *
        generalize hxr : (c.getD k lt0).2.2 = xr at *
        by_cases hneg : z - (xl.length + xr.length : Int) < 0
        · have e1 : szI (xl.length + xr.length) z = -1 := by unfold szI; rw [if_pos hneg]
          have E : Hid (szC c left = -1) := by show szC _ _ = _; unfold szC; rw [if_pos (by omega)]
          rw [e1] at hcall
          have HC := Lib.hid hcall
          clear hcall hv s1 s2 hmax hst hsl e1 hneg hz hse hxl hxr hp
          go_wp2_with (go_at_call 30; refine HC.out.mono ?_; rintro e w' ⟨rfl, hb1⟩)
          go_ret
          exact ⟨by rw [E.out]; rfl, hb.step hb1⟩
        · have e1 : szI (xl.length + xr.length) z = z - (xl.length + xr.length) := by unfold szI; rw [if_neg hneg]
          have hz' : z - ((xl.length : Int) + xr.length) = left - c.length - (lenC (c.take (k+1)) : Nat) := by omega
          rw [e1] at hcall
          have HC := Lib.hid hcall
          have HZ := Lib.hid hz'
          have hz2 : 0 ≤ z - ((xl.length : Int) + xr.length) := by omega
          clear hcall hv s1 s2 hmax hst hsl e1 hneg hz hz' hse hxl hxr hp
          generalize z - ((xl.length : Int) + xr.length) = z2 at *
          go_wp2_with (go_at_call 30; refine HC.out.mono ?_; rintro e w' ⟨rfl, hb1⟩)
          go_roundw
          case rel => exact ⟨k+1, z2, by omega, by go_num, rfl, hz2, HZ.out, hb.step hb1⟩
          case measure => simp [intOf]; omega
      · have E : Hid (szC c left = z) := by
          show szC _ _ = _
          rw [lenC_all c k hlt] at hz
          unfold szC; rw [if_neg (by omega)]; omega
        clear hz
        go_wp2_with fail
        go_ret
        exact ⟨by rw [E.out]; rfl, hb⟩
end Go.Proofs.Ytnldienjkejfcaa
end
section
/- Chapter 4, the reference: valid clauses, weights. -/
namespace Go.Proofs.Ytnldienjkejfcaa
open Go.RowKit

theorem okTerm_len {ar t : List Int} (h : okTerm ar t = true) : 1 ≤ t.length ∧ t.length ≤ 40 := ⟨((okTerm_iff ar t).1 h).1, ((okTerm_iff ar t).1 h).2.1⟩
theorem l4Lit_v (l h l' h' : Nat) (v u1 u2 : Value) (ar xl xr : List Int) (p q : Bool) (w : World) (hq : (okTerm ar xl && okTerm ar xr) = q) (hg : goodSign ar = true) (hl : xl.length ≤ 1048576) (hr : xr.length ≤ 1048576) (hv : SlI l h w v ar) (h1 : SlI l' h' w u1 xl) (h2 : SlI l' h' w u2 xr) :
    Calls Try.prog 60 #[.agg #[v], .agg #[.bool p, u1, u2]] w (RetV w (.bool q)) := by subst hq; exact l4Lit_c l h l' h' v u1 u2 ar xl xr p w hg hl hr hv h1 h2

set_option maxRecDepth 100000 in
set_option maxHeartbeats 400000 in
theorem l4Clause_c (l h l' h' : Nat) (v u : Value) (ar : List Int) (c : List Lt) (w : World) (hg : goodSign ar = true) (hx : shortC c) (hv : SlI l h w v ar) (hu : SlC l' h' w u c) :
    Calls Try.prog 46 #[.agg #[v], u] w (RetV w (.bool (okLits ar c))) := by
  obtain ⟨ad, cap, rfl⟩ := hu.form
  obtain ⟨hxl, hxj⟩ := hx
  go_enter Try.func46, Try.ntmps46
  go_wp2_with fail
  go_loopw [9] (fun i wr => ∃ k : Nat, k ≤ c.length ∧ i = .int .i64 k ∧ okTo ar c k ∧ Bel (w.alloc (.cells #[v] 30)) wr) (fun i _ => c.length - (intOf i).toNat)
  case atStart => exact ⟨0, Nat.zero_le _, rfl, fun j hj => absurd hj (by omega), Bel.rfl' _⟩
  case round =>
    obtain ⟨k, hk, rfl, hto, hb⟩ := hrel
    have hbox := boxc hb 0 _ rfl
    by_cases hlt : k < c.length
    · obtain ⟨b, off, u1, u2, rfl, hbs, c1, c2, c3, s1, s2⟩ := hu.at hb.of_alloc k hlt
      obtain ⟨hm1, hm2⟩ := hxj k hlt
      have hstep := hto.step (k := k)
      have hbad := okLits_bad (ar := ar) hlt
      have hin1 : (k : Int) < c.length := by omega
      have hvr := hv.below hb.of_alloc
      clear hu hv hxj hto
      unfold okLit at hstep hbad
      generalize c.getD k lt0 = x at *
      obtain ⟨p, xl, xr⟩ := x
      simp only at *
      obtain ⟨a1, d1, rfl⟩ := s1.form
      obtain ⟨a2, d2, rfl⟩ := s2.form
      have hbox2 := boxc (hb.alloc (.cells #[.bool p, .slice a1 xl.length d1, .slice a2 xr.length d2] 59)) 0 _ rfl
      cases hq : (okTerm ar xl && okTerm ar xr) with
      | false =>
        have E := Lib.hid (hbad hq)
        have HQ := Lib.hid hq
        clear hstep hbad hq
        go_wp2_with fail
        refine (l4Lit_v l h l' h' v _ _ ar xl xr p false _ HQ.out hg hm1 hm2 (hvr.alloc _) (s1.alloc _) (s2.alloc _)).mono ?_; rintro e w1 ⟨rfl, hb1⟩
        go_wp2_with fail
        go_ret
        exact ⟨by rw [E.out]; rfl, hb.of_alloc.step ((Bel.alloc0 _ _).step hb1)⟩
      | true =>
        have E := Lib.hid (hstep hq)
        have HQ := Lib.hid hq
        clear hstep hbad hq
        go_wp2_with fail
        refine (l4Lit_v l h l' h' v _ _ ar xl xr p true _ HQ.out hg hm1 hm2 (hvr.alloc _) (s1.alloc _) (s2.alloc _)).mono ?_; rintro e w1 ⟨rfl, hb1⟩
        go_wp2_with fail
        go_roundw
        case rel => exact ⟨k+1, by omega, by go_num, E.out, hb.step ((Bel.alloc0 _ _).step hb1)⟩
        case measure => simp [intOf]; omega
    · obtain rfl : k = c.length := by omega
      have E := Lib.hid hto.done
      have hd : decide ((c.length : Int) ≤ 8) = decide (c.length ≤ 8) := by rw [decide_eq_decide]; omega
      go_wp2_with fail
      go_ret
      exact ⟨by rw [E.out, ← hd]; rfl, hb.of_alloc⟩

set_option maxRecDepth 100000 in
set_option maxHeartbeats 400000 in
theorem l4Weight_c (l h : Nat) (v : Value) (c : List Lt) (w : World) (hx : sumC c ≤ 1048576) (hv : SlC l h w v c) :
    Calls Try.prog 36 #[v] w (RetV w (.int .i64 (lenC c : Nat))) := by
  obtain ⟨ad, cap, rfl⟩ := hv.form
  have hse := sumC_eq c
  go_enter Try.func36, Try.ntmps36
  go_wp2_with fail
  go_loopw [3, 8] (fun m i wr => ∃ k : Nat, k ≤ c.length ∧ i = .int .i64 k ∧ m = .int .i64 (lenC (c.take k) : Nat) ∧ Bel w wr) (fun _ i _ => c.length - (intOf i).toNat)
  case atStart => exact ⟨0, Nat.zero_le _, rfl, by simp [lenC, flatC, sumL], Bel.rfl' _⟩
  case round =>
    obtain ⟨k, hk, rfl, rfl, hb⟩ := hrel
    by_cases hlt : k < c.length
    · obtain ⟨b, off, u1, u2, rfl, hbs, c1, c2, c3, s1, s2⟩ := hv.at hb k hlt
      have hst := lenC_take c k hlt
      have hsl := lenC_get c k hlt
      have hin1 : (k : Int) < c.length := by omega
      clear hv
      generalize c.getD k lt0 = x at *
      obtain ⟨p, xl, xr⟩ := x
      simp only at *
      obtain ⟨a1, d1, rfl⟩ := s1.form
      obtain ⟨a2, d2, rfl⟩ := s2.form
      have HE : Hid (((lenC (c.take k) : Nat) : Int) + ((xl.length : Int) + xr.length) = (lenC (c.take (k+1)) : Nat)) := by show _ = _; omega
      have i1 := IntWalk.i64_in ((xl.length : Int) + xr.length) (by omega)
      have i2 := IntWalk.i64_in (((lenC (c.take k) : Nat) : Int) + ((xl.length : Int) + xr.length)) (by omega)
      clear s1 s2 hst hsl
      go_wp2_with fail
      go_roundw
      case rel => exact ⟨k+1, by omega, by go_num, by rw [← HE.out], hb.alloc _⟩
      case measure => simp [intOf]; omega
    · rw [lenC_all c k hlt]
      go_wp2_with fail
      go_ret
      exact ⟨rfl, hb⟩
end Go.Proofs.Ytnldienjkejfcaa
end
section
/- Chapter 4, the reference: GoodClause, WeightOf. -/
namespace Go.Proofs.Ytnldienjkejfcaa
open Go.RowKit

set_option maxRecDepth 100000 in
set_option maxHeartbeats 400000 in
theorem sGoodClause_t {l h l' h' : Nat} {v u : Value} {ar : List Int} {c : List Lt} {w : World} (ha : ar.length ≤ 1048576) (hv : SlI l h w v ar) (hc : sumC c ≤ 1048576) (hu : SlC l' h' w u c) :
    Calls Try.prog 31 #[.agg #[v], u] w (RetV w (.bool (goodClause ar c))) := by
  unfold goodClause
  cases hg : goodSign ar with
  | false =>
    rw [Bool.false_and]
    have HG := Lib.hid hg; clear hg
    go_enter Try.func31, Try.ntmps31
    go_wp2_with fail
    refine (sGoodSign_v _ _ _ _ _ _ HG.out ha (hv.alloc _)).mono ?_; rintro e w1 ⟨rfl, hb1⟩
    go_wp2_with fail
    go_ret
    exact ⟨rfl, hb1.of_alloc⟩
  | true =>
    rw [Bool.true_and]
    have HG := Lib.hid hg
    have HC := Lib.hid (fun (w' : World) (hb : Bel w w') => l4Clause_c l h l' h' v u ar c w' hg (shortC_of_sum hc) (hv.below hb) (hu.below hb))
    clear hg hc
    go_enter Try.func31, Try.ntmps31
    go_wp2_with fail
    refine (sGoodSign_v _ _ _ _ _ _ HG.out ha (hv.alloc _)).mono ?_; rintro e w1 ⟨rfl, hb1⟩
    have hbox := boxc hb1 0 _ rfl
    go_wp2_with fail
    refine (HC.out _ hb1.of_alloc).mono ?_; rintro e w2 ⟨rfl, hb2⟩
    go_wp2_with fail
    go_ret
    exact ⟨rfl, hb1.of_alloc.step hb2⟩
theorem sGoodClause_v {l h l' h' : Nat} {v u : Value} {ar : List Int} {c : List Lt} {w : World} {q : Bool} (he : goodClause ar c = q) (ha : ar.length ≤ 1048576) (hv : SlI l h w v ar) (hc : sumC c ≤ 1048576) (hu : SlC l' h' w u c) :
    Calls Try.prog 31 #[.agg #[v], u] w (RetV w (.bool q)) := by subst he; exact sGoodClause_t ha hv hc hu

set_option maxRecDepth 100000 in
set_option maxHeartbeats 400000 in
theorem sWeightOf_t {l h l' h' : Nat} {v u : Value} {ar : List Int} {c : List Lt} {w : World} (ha : ar.length ≤ 1048576) (hv : SlI l h w v ar) (hc : sumC c ≤ 1048576) (hu : SlC l' h' w u c) :
    Calls Try.prog 16 #[.agg #[v], u] w (RetV w (.tuple #[.int .i64 (weightAns ar c), .bool (goodClause ar c)])) := by
  unfold weightAns
  cases hg : goodClause ar c with
  | false =>
    rw [if_neg (by simp)]
    have HG := Lib.hid hg; clear hg
    go_enter Try.func16, Try.ntmps16
    go_wp2_with fail
    refine (sGoodClause_v HG.out ha (hv.alloc _) hc (hu.alloc _)).mono ?_; rintro e w1 ⟨rfl, hb1⟩
    go_wp2_with fail
    go_ret2
    exact ⟨rfl, hb1.of_alloc⟩
  | true =>
    rw [if_pos rfl]
    have HG := Lib.hid hg; clear hg
    have HC := Lib.hid (fun (w' : World) (hb : Bel w w') => l4Weight_c l' h' u c w' hc (hu.below hb))
    go_enter Try.func16, Try.ntmps16
    go_wp2_with fail
    refine (sGoodClause_v HG.out ha (hv.alloc _) hc (hu.alloc _)).mono ?_; rintro e w1 ⟨rfl, hb1⟩
    clear hc
    go_wp2_with fail
    refine (HC.out _ hb1.of_alloc).mono ?_; rintro e w2 ⟨rfl, hb2⟩
    go_wp2_with fail
    go_ret2
    exact ⟨rfl, hb1.of_alloc.step hb2⟩
end Go.Proofs.Ytnldienjkejfcaa
end
section
/- Chapter 5, the reference: HoldsAt. -/
namespace Go.Proofs.Ytnldienjkejfcaa
open Go.RowKit

/-- A literal, a clause holds at an assignment. -/
def litH (ar : List Int) (sz : Int) (tb : List (List Int)) (env : List Int) (x : Lt) : Bool := (evT ar sz tb env x.2.1 == evT ar sz tb env x.2.2) == x.1
def clH (ar : List Int) (sz : Int) (tb : List (List Int)) (env : List Int) (c : List Lt) : Bool := c.any (litH ar sz tb env)
theorem any_split (c : List Lt) (p : Lt → Bool) (k : Nat) (hk : k < c.length) (h : (c.take k).any p = false) : (c.take (k+1)).any p = p (c.getD k lt0) := by
  rw [List.take_succ_eq_append_getElem hk, List.any_append, h]
  simp [List.getD, hk]
theorem any_true (c : List Lt) (p : Lt → Bool) (k : Nat) (hk : k < c.length) (h : p (c.getD k lt0) = true) : c.any p = true := by
  rw [List.any_eq_true]
  exact ⟨c[k], List.getElem_mem hk, by simpa [List.getD, hk] using h⟩
theorem beq_eval (a b : Int) : ((a : Int) == b) = decide (a = b) := by
  rw [Bool.eq_iff_iff]; simp

set_option maxRecDepth 100000 in
set_option maxHeartbeats 2000000 in
theorem l5At_c (l h l' h' l2 h2 l3 h3 : Nat) (v u vc ve : Value) (ar : List Int) (sz : Int) (tb : List (List Int)) (c : List Lt) (env : List Int) (w : World) (hg : goodSign ar = true) (hw : isWorld ar sz tb = true) (he : okEnv sz env = true) (hok : okLits ar c = true)
    (hv : SlI l h w v ar) (hu : SlS l' h' w u tb) (hc : SlC l2 h2 w vc c) (hve : SlI l3 h3 w ve env) :
    Calls Try.prog 48 #[.agg #[v], .agg #[.int .i64 sz, u], vc, ve] w (RetV w (.bool (clH ar sz tb env c))) := by
  obtain ⟨ac, kc, rfl⟩ := hc.form
  have h8 := (okLits_iff.1 hok).1
  have HE := Lib.hid (fun (t : List Int) (vt : Value) (a b : Nat) (w' : World) (hq : okTerm ar t = true) (hb : Bel w w') (ht : SlI a b w' vt t) => l5Eval_c l h l' h' a b l3 h3 v u vt ve ar sz tb t env hg hw he hq t.length 0 w' (by omega) (((okTerm_iff ar t).1 hq).1) (hv.below hb) (hu.below hb) ht (hve.below hb))
  have HE : Hid (∀ (t : List Int) (vt : Value) (a b : Nat) (w' : World), okTerm ar t = true → Bel w w' → SlI a b w' vt t → Calls Try.prog 61 #[.agg #[v], .agg #[.int .i64 sz, u], vt, .int .i64 0, ve] w' (RetV w' (.int .i64 (evT ar sz tb env t)))) := HE
  have HOK := Lib.hid (fun k hk => okLits_get (okLits_iff.1 hok).2 k hk)
  clear hv hu hve hg hw he hok
  have HS1 := Lib.hid (fun k hk h => any_split c (litH ar sz tb env) k hk h)
  have HS2 := Lib.hid (fun k hk h => any_true c (litH ar sz tb env) k hk h)
  unfold clH
  have HL : Hid (∀ x : Lt, litH ar sz tb env x = ((evT ar sz tb env x.2.1 == evT ar sz tb env x.2.2) == x.1)) := fun _ => rfl
  generalize litH ar sz tb env = LH at *
  generalize evT ar sz tb env = EV at *
  go_enter Try.func48, Try.ntmps48
  go_wp2_with fail
  obtain ⟨W, hW⟩ : ∃ W, W = (w.alloc (.cells #[v] 30)).alloc (.cells #[.int .i64 sz, u] 44) := ⟨_, rfl⟩
  have hB : Bel w W := by rw [hW]; exact Bel.alloc2 _ _ _
  have zW : w.heap.size + 1 < W.heap.size := by rw [hW]; simp
  have k0 : W.cell? ⟨w.heap.size, 0, none⟩ = some v := by rw [hW]; simp [go_sem]
  have k1 : W.cell? ⟨w.heap.size + 1, 0, none⟩ = some (.int .i64 sz) := by rw [hW]; simp [go_sem]
  have k2 : W.cell? ⟨w.heap.size + 1, 1, none⟩ = some u := by rw [hW]; simp [go_sem]
  rw [← hW]
  clear hW
  go_loopw [13] (fun i wr => ∃ k : Nat, k ≤ c.length ∧ i = .int .i64 k ∧ (c.take k).any LH = false ∧ Bel W wr) (fun i _ => c.length - (intOf i).toNat)
  case atStart => exact ⟨0, Nat.zero_le _, rfl, by simp, Bel.rfl' _⟩
  case round =>
    obtain ⟨k, hk, rfl, hany, hb⟩ := hrel
    by_cases hlt : k < c.length
    · obtain ⟨b, off, u1, u2, rfl, hbs, c1, c2, c3, s1, s2⟩ := hc.at (hB.step hb) k hlt
      obtain ⟨o1, o2⟩ := HOK.out k hlt
      have hin1 : (k : Int) < c.length := by omega
      have HS := HS1.out k hlt hany
      have HT := HS2.out k hlt
      rw [HL.out] at HS HT
      clear HS1 HS2 HOK hany hc
      generalize c.getD k lt0 = x at *
      obtain ⟨p, xl, xr⟩ := x
      simp only at *
      obtain ⟨a1, d1, rfl⟩ := s1.form
      obtain ⟨a2, d2, rfl⟩ := s2.form
      have hBx := hb.alloc (.cells #[.bool p, .slice a1 xl.length d1, .slice a2 xr.length d2] 59)
      have zl1 : w.heap.size + 1 < wr.heap.size := Nat.lt_of_lt_of_le zW hb.size
      have KX : Hid (∀ w', Bel (wr.alloc (.cells #[.bool p, .slice a1 xl.length d1, .slice a2 xr.length d2] 59)) w' → w'.cell? ⟨w.heap.size, 0, none⟩ = some v ∧ w'.cell? ⟨w.heap.size + 1, 0, none⟩ = some (.int .i64 sz) ∧ w'.cell? ⟨w.heap.size + 1, 1, none⟩ = some u ∧ w'.cell? ⟨wr.heap.size, 0, none⟩ = some (.bool p) ∧ w'.cell? ⟨wr.heap.size, 1, none⟩ = some (.slice a1 xl.length d1) ∧ w'.cell? ⟨wr.heap.size, 2, none⟩ = some (.slice a2 xr.length d2)) := fun w' hq =>
        ⟨(hBx.step hq).at (by omega) k0, (hBx.step hq).at zW k1, (hBx.step hq).at zW k2, boxc hq 0 _ rfl, boxc hq 1 _ rfl, boxc hq 2 _ rfl⟩
      have HC1 := Lib.hid (fun (w' : World) (hq : Bel (wr.alloc (.cells #[.bool p, .slice a1 xl.length d1, .slice a2 xr.length d2] 59)) w') => HE.out xl _ _ _ w' o1 ((hB.step hBx).step hq) ((s1.alloc _).below hq))
      have HC2 := Lib.hid (fun (w' : World) (hq : Bel (wr.alloc (.cells #[.bool p, .slice a1 xl.length d1, .slice a2 xr.length d2] 59)) w') => HE.out xr _ _ _ w' o2 ((hB.step hBx).step hq) ((s2.alloc _).below hq))
      clear s1 s2 o1 o2 HE HL
      generalize EV xl = e1 at *
      generalize EV xr = e2 at *
      have KR := KX.out _ (Bel.drew0 _)
      cases hq : ((e1 : Int) == e2) with
      | false =>
        rw [hq] at HS HT
        cases p with
        | false =>
          go_wp2_with fail
          go_region_held3 (fun w' => Bel (wr.alloc (.cells #[.bool false, .slice a1 xl.length d1, .slice a2 xr.length d2] 59)) w' ∧ w'.cell? ⟨w.heap.size, 0, none⟩ = some v ∧ w'.cell? ⟨w.heap.size + 1, 0, none⟩ = some (.int .i64 sz) ∧ w'.cell? ⟨w.heap.size + 1, 1, none⟩ = some u ∧ w'.cell? ⟨wr.heap.size, 0, none⟩ = some (.bool false) ∧ w'.cell? ⟨wr.heap.size, 1, none⟩ = some (.slice a1 xl.length d1) ∧ w'.cell? ⟨wr.heap.size, 2, none⟩ = some (.slice a2 xr.length d2))
            (first | exact ⟨Bel.drew0 _, KX.out _ (Bel.drew0 _)⟩ | exact ⟨B8, KX.out _ B8⟩ | exact ⟨B8.step hb9, KX.out _ (B8.step hb9)⟩ | fail)
            (first | (go_at_call 61; refine (HC2.out _ B8).mono ?_; rintro e w9 ⟨rfl, hb9⟩) | (go_at_call 61; refine (HC1.out _ (Bel.drew0 _)).mono ?_; rintro e w8 ⟨rfl, hb8⟩; have B8 := (Bel.drew0 _).step hb8) | fail)
          go_wp2_with fail
          go_ret
          exact ⟨by rw [HT rfl]; rfl, (hB.step hBx).step (B8.step hb9)⟩
        | true =>
          go_wp2_with fail
          go_region_held3 (fun w' => Bel (wr.alloc (.cells #[.bool true, .slice a1 xl.length d1, .slice a2 xr.length d2] 59)) w' ∧ w'.cell? ⟨w.heap.size, 0, none⟩ = some v ∧ w'.cell? ⟨w.heap.size + 1, 0, none⟩ = some (.int .i64 sz) ∧ w'.cell? ⟨w.heap.size + 1, 1, none⟩ = some u ∧ w'.cell? ⟨wr.heap.size, 0, none⟩ = some (.bool true) ∧ w'.cell? ⟨wr.heap.size, 1, none⟩ = some (.slice a1 xl.length d1) ∧ w'.cell? ⟨wr.heap.size, 2, none⟩ = some (.slice a2 xr.length d2))
            (first | exact ⟨Bel.drew0 _, KX.out _ (Bel.drew0 _)⟩ | exact ⟨B8, KX.out _ B8⟩ | exact ⟨B8.step hb9, KX.out _ (B8.step hb9)⟩ | fail)
            (first | (go_at_call 61; refine (HC2.out _ B8).mono ?_; rintro e w9 ⟨rfl, hb9⟩) | (go_at_call 61; refine (HC1.out _ (Bel.drew0 _)).mono ?_; rintro e w8 ⟨rfl, hb8⟩; have B8 := (Bel.drew0 _).step hb8) | fail)
          go_wp2_with fail
          go_roundw
          case rel => exact ⟨k+1, by omega, by go_num, HS, hBx.step (B8.step hb9)⟩
          case measure => simp [intOf]; omega
      | true =>
        rw [hq] at HS HT
        cases p with
        | false =>
          go_wp2_with fail
          go_region_held3 (fun w' => Bel (wr.alloc (.cells #[.bool false, .slice a1 xl.length d1, .slice a2 xr.length d2] 59)) w' ∧ w'.cell? ⟨w.heap.size, 0, none⟩ = some v ∧ w'.cell? ⟨w.heap.size + 1, 0, none⟩ = some (.int .i64 sz) ∧ w'.cell? ⟨w.heap.size + 1, 1, none⟩ = some u ∧ w'.cell? ⟨wr.heap.size, 0, none⟩ = some (.bool false) ∧ w'.cell? ⟨wr.heap.size, 1, none⟩ = some (.slice a1 xl.length d1) ∧ w'.cell? ⟨wr.heap.size, 2, none⟩ = some (.slice a2 xr.length d2))
            (first | exact ⟨Bel.drew0 _, KX.out _ (Bel.drew0 _)⟩ | exact ⟨B8, KX.out _ B8⟩ | exact ⟨B8.step hb9, KX.out _ (B8.step hb9)⟩ | fail)
            (first | (go_at_call 61; refine (HC2.out _ B8).mono ?_; rintro e w9 ⟨rfl, hb9⟩) | (go_at_call 61; refine (HC1.out _ (Bel.drew0 _)).mono ?_; rintro e w8 ⟨rfl, hb8⟩; have B8 := (Bel.drew0 _).step hb8) | fail)
          go_wp2_with fail
          go_roundw
          case rel => exact ⟨k+1, by omega, by go_num, HS, hBx.step (B8.step hb9)⟩
          case measure => simp [intOf]; omega
        | true =>
          go_wp2_with fail
          go_region_held3 (fun w' => Bel (wr.alloc (.cells #[.bool true, .slice a1 xl.length d1, .slice a2 xr.length d2] 59)) w' ∧ w'.cell? ⟨w.heap.size, 0, none⟩ = some v ∧ w'.cell? ⟨w.heap.size + 1, 0, none⟩ = some (.int .i64 sz) ∧ w'.cell? ⟨w.heap.size + 1, 1, none⟩ = some u ∧ w'.cell? ⟨wr.heap.size, 0, none⟩ = some (.bool true) ∧ w'.cell? ⟨wr.heap.size, 1, none⟩ = some (.slice a1 xl.length d1) ∧ w'.cell? ⟨wr.heap.size, 2, none⟩ = some (.slice a2 xr.length d2))
            (first | exact ⟨Bel.drew0 _, KX.out _ (Bel.drew0 _)⟩ | exact ⟨B8, KX.out _ B8⟩ | exact ⟨B8.step hb9, KX.out _ (B8.step hb9)⟩ | fail)
            (first | (go_at_call 61; refine (HC2.out _ B8).mono ?_; rintro e w9 ⟨rfl, hb9⟩) | (go_at_call 61; refine (HC1.out _ (Bel.drew0 _)).mono ?_; rintro e w8 ⟨rfl, hb8⟩; have B8 := (Bel.drew0 _).step hb8) | fail)
          go_wp2_with fail
          go_ret
          exact ⟨by rw [HT rfl]; rfl, (hB.step hBx).step (B8.step hb9)⟩
    · obtain rfl : k = c.length := by omega
      rw [List.take_length] at hany
      have HY := Lib.hid hany
      clear hany
      go_wp2_with fail
      go_ret
      exact ⟨by rw [HY.out]; rfl, hB.step hb⟩
end Go.Proofs.Ytnldienjkejfcaa
end
