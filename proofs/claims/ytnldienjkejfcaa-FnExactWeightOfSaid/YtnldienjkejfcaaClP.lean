/- Chapter 4: the answers, as plain functions. No program. -/
import Derived.Test.YtnldienjkejfcaaSC
import Derived.Test.YtnldienjkejfcaaGoods
import Derived.Test.YtnldienjkejfcaaKbo
import Derived.Test.YtnldienjkejfcaaLisP0
namespace Go.Proofs.Ytnldienjkejfcaa
open Go.RowKit

def okLit (ar : List Int) (x : Lt) : Bool := okTerm ar x.2.1 && okTerm ar x.2.2
def okLits (ar : List Int) (c : List Lt) : Bool := decide (c.length ≤ 8) && c.all (okLit ar)
def goodClause (ar : List Int) (c : List Lt) : Bool := goodSign ar && okLits ar c
theorem okLit_iff {ar : List Int} {x : Lt} : okLit ar x = true ↔ okTerm ar x.2.1 = true ∧ okTerm ar x.2.2 = true := by simp [okLit]
theorem okLits_iff {ar : List Int} {c : List Lt} : okLits ar c = true ↔ c.length ≤ 8 ∧ ∀ x ∈ c, okLit ar x = true := by simp [okLits]
theorem goodClause_iff {ar : List Int} {c : List Lt} : goodClause ar c = true ↔ goodSign ar = true ∧ c.length ≤ 8 ∧ ∀ x ∈ c, okLit ar x = true := by simp [goodClause, okLits]
theorem okLits_get {ar : List Int} {c : List Lt} (h : ∀ x ∈ c, okLit ar x = true) (j : Nat) (hj : j < c.length) : okTerm ar (c.getD j lt0).2.1 = true ∧ okTerm ar (c.getD j lt0).2.2 = true :=
  okLit_iff.1 (h _ (by simp [List.getD, hj]))
theorem okLits_bad {ar : List Int} {c : List Lt} {j : Nat} (hj : j < c.length) (h : okLit ar (c.getD j lt0) = false) : okLits ar c = false := by
  rw [Bool.eq_false_iff]; intro k
  have := (okLits_iff.1 k).2 (c.getD j lt0) (by simp [List.getD, hj])
  rw [h] at this; simp at this
/-- The first k literals are valid. -/
def okTo (ar : List Int) (c : List Lt) (k : Nat) : Prop := ∀ j, j < k → okLit ar (c.getD j lt0) = true
theorem okTo.step {ar : List Int} {c : List Lt} {k : Nat} (h : okTo ar c k) (hk : okLit ar (c.getD k lt0) = true) : okTo ar c (k+1) := fun j hj => by
  by_cases e : j = k
  · subst e; exact hk
  · exact h j (by omega)
theorem okTo.done {ar : List Int} {c : List Lt} (h : okTo ar c c.length) : okLits ar c = decide (c.length ≤ 8) := by
  unfold okLits
  have : c.all (okLit ar) = true := by
    rw [List.all_eq_true]
    intro x hx
    obtain ⟨j, hj, rfl⟩ := List.getElem_of_mem hx
    have := h j hj
    simpa [List.getD, hj] using this
  rw [this, Bool.and_true]

/-- The same two terms, perhaps exchanged. -/
def sameTs (x y : Lt) : Bool := (decide (x.2.1 = y.2.1) && decide (x.2.2 = y.2.2)) || (decide (x.2.1 = y.2.2) && decide (x.2.2 = y.2.1))
def eqvL (x y : Lt) : Bool := (x.1 == y.1) && sameTs x y
def tidyStep (out : List Lt) (x : Lt) : List Lt := if !x.1 && decide (x.2.1 = x.2.2) then out else if out.any (eqvL x) then out else out ++ [x]
def tidyC (c : List Lt) : List Lt := c.foldl tidyStep []
theorem tidyC_snoc (c : List Lt) (k : Nat) (h : k < c.length) : tidyC (c.take (k+1)) = tidyStep (tidyC (c.take k)) (c.getD k lt0) := by
  unfold tidyC
  rw [List.take_succ_eq_append_getElem h, List.foldl_append]
  simp [List.getD, h]
def tidyAns (ar : List Int) (c : List Lt) : List Lt := if goodClause ar c then tidyC c else []

/-- A tautology's place: the literal k alone, or with an earlier one. -/
def tautAt (c : List Lt) (k : Nat) : Bool := ((c.getD k lt0).1 && decide ((c.getD k lt0).2.1 = (c.getD k lt0).2.2)) || (c.take k).any fun y => ((c.getD k lt0).1 != y.1) && sameTs (c.getD k lt0) y
def tautC (c : List Lt) : Bool := (List.range c.length).any (tautAt c)
def tautAns (ar : List Int) (c : List Lt) : Bool := goodClause ar c && tautC c

def weightAns (ar : List Int) (c : List Lt) : Int := if goodClause ar c then (sumL (flatC c) : Int) else 0

def listL (x : Lt) : List (List Int) := if x.1 then [x.2.1, x.2.2] else [x.2.1, x.2.2, x.2.1, x.2.2]
def litsOk (ar : List Int) (x y : Lt) : Bool := goodSign ar && (okLit ar x && okLit ar y)
def litsAns (ar : List Int) (x y : Lt) : Int := if litsOk ar x y then cmpL (listL x) (listL y) else 0
def maxAt (c : List Lt) (k : Nat) : Bool := (List.range c.length).all fun i => decide (i = k) || !decide (cmpL (listL (c.getD i lt0)) (listL (c.getD k lt0)) = 1)
def maxC (c : List Lt) : List Nat := (List.range c.length).filter (maxAt c)

/-- The signs of one, the terms of another list. -/
def zipC : List Lt → List (List Int) → List Lt
  | x :: c, l :: r :: ts => (x.1, l, r) :: zipC c ts
  | _, _ => []
end Go.Proofs.Ytnldienjkejfcaa
