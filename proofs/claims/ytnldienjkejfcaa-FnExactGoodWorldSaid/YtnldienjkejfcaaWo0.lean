/- Chapter 5: worlds, how many there are, the n-th. No program. -/
import Derived.Test.YtnldienjkejfcaaGood2
import Derived.Test.YtnldienjkejfcaaSS
namespace Go.Proofs.Ytnldienjkejfcaa
open Go.RowKit

theorem mem_gd {α : Type} (l : List α) (d : α) (j : Nat) (h : j < l.length) : l.getD j d ∈ l := by
  rw [List.getD_eq_getElem?_getD, List.getElem?_eq_getElem h]; exact List.getElem_mem h
theorem gd_eq {α : Type} (l : List α) (d : α) (j : Nat) (h : j < l.length) : l.getD j d = l[j] := by simp [List.getD, h]
/-- How many lists of arguments. -/
def longW (sz a : Int) : Nat := sz.toNat ^ a.toNat
def okTab (sz a : Int) (t : List Int) : Bool := decide (t.length = longW sz a) && t.all (fun x => inB x 0 (sz - 1))
def okTabs (ar : List Int) (sz : Int) (tb : List (List Int)) (n : Nat) : Bool := (List.range n).all fun k => okTab sz (ar.getD k 0) (tb.getD k [])
def isWorld (ar : List Int) (sz : Int) (tb : List (List Int)) : Bool := inB sz 1 3 && (decide (tb.length = ar.length) && okTabs ar sz tb tb.length)
def goodWorld (ar : List Int) (sz : Int) (tb : List (List Int)) : Bool := goodSign ar && isWorld ar sz tb
def okEnv (sz : Int) (env : List Int) : Bool := decide (env.length = 12) && env.all (fun x => inB x 0 (sz - 1))
theorem okTabs_zero (ar : List Int) (sz : Int) (tb : List (List Int)) : okTabs ar sz tb 0 = true := rfl
theorem okTabs_succ (ar : List Int) (sz : Int) (tb : List (List Int)) (k : Nat) : okTabs ar sz tb (k+1) = (okTabs ar sz tb k && okTab sz (ar.getD k 0) (tb.getD k [])) := by
  unfold okTabs
  rw [List.range_succ, List.all_append]
  simp
theorem okTabs_false {ar : List Int} {sz : Int} {tb : List (List Int)} {k n : Nat} (h : okTab sz (ar.getD k 0) (tb.getD k []) = false) (hk : k < n) : okTabs ar sz tb n = false := by
  unfold okTabs
  rw [List.all_eq_false]
  exact ⟨k, List.mem_range.2 hk, by rw [h]; simp⟩
theorem longW_le {sz a : Int} (h1 : sz ≤ 3) (h2 : a ≤ 3) : longW sz a ≤ 27 := by
  unfold longW
  calc sz.toNat ^ a.toNat ≤ 3 ^ a.toNat := Nat.pow_le_pow_left (by omega) _
    _ ≤ 3 ^ 3 := Nat.pow_le_pow_right (by omega) (by omega)
theorem longW_pos {sz a : Int} (h1 : 1 ≤ sz) : 1 ≤ longW sz a := Nat.one_le_iff_ne_zero.2 (Nat.pos_iff_ne_zero.1 (Nat.pow_pos (by omega)))
theorem isWorld_iff {ar : List Int} {sz : Int} {tb : List (List Int)} : isWorld ar sz tb = true ↔ 1 ≤ sz ∧ sz ≤ 3 ∧ tb.length = ar.length ∧ ∀ k, k < tb.length → (tb.getD k []).length = longW sz (ar.getD k 0) ∧ ∀ j, j < (tb.getD k []).length → 0 ≤ (tb.getD k []).getD j 0 ∧ (tb.getD k []).getD j 0 ≤ sz - 1 := by
  unfold isWorld okTabs okTab inB
  simp only [Bool.and_eq_true, decide_eq_true_eq, List.all_eq_true, List.mem_range]
  constructor
  · rintro ⟨⟨h1, h2⟩, h3, h4⟩
    refine ⟨h1, h2, h3, fun k hk => ⟨(h4 k hk).1, fun j hj => ?_⟩⟩
    exact (h4 k hk).2 _ (mem_gd _ 0 j hj)
  · rintro ⟨h1, h2, h3, h4⟩
    refine ⟨⟨h1, h2⟩, h3, fun k hk => ⟨(h4 k hk).1, fun x hx => ?_⟩⟩
    obtain ⟨j, hj, rfl⟩ := List.getElem_of_mem hx
    have := (h4 k hk).2 j hj
    rwa [gd_eq _ _ j hj] at this
theorem goodWorld_iff {ar : List Int} {sz : Int} {tb : List (List Int)} : goodWorld ar sz tb = true ↔ goodSign ar = true ∧ isWorld ar sz tb = true := by
  unfold goodWorld; rw [Bool.and_eq_true]
theorem okEnv_iff {sz : Int} {env : List Int} : okEnv sz env = true ↔ env.length = 12 ∧ ∀ j, j < 12 → 0 ≤ env.getD j 0 ∧ env.getD j 0 ≤ sz - 1 := by
  unfold okEnv inB
  simp only [Bool.and_eq_true, decide_eq_true_eq, List.all_eq_true]
  constructor
  · rintro ⟨h1, h2⟩
    exact ⟨h1, fun j hj => h2 _ (mem_gd _ 0 j (by omega))⟩
  · rintro ⟨h1, h2⟩
    refine ⟨h1, fun x hx => ?_⟩
    obtain ⟨j, hj, rfl⟩ := List.getElem_of_mem hx
    have := h2 j (by omega)
    rwa [gd_eq _ _ j hj] at this

/-- How many worlds: at most 10000 are counted. -/
def cwN (sz : Int) : Nat → Int
  | 0 => 1
  | n + 1 => min (cwN sz n * sz) 10000
theorem cwN_bd {sz : Int} (h1 : 1 ≤ sz) (n : Nat) : 1 ≤ cwN sz n ∧ cwN sz n ≤ 10000 := by
  induction n with
  | zero => exact ⟨Int.le_refl 1, show (1 : Int) ≤ 10000 by decide⟩
  | succ n ih =>
    rw [cwN]
    have := Int.mul_le_mul (show (1 : Int) ≤ cwN sz n from ih.1) h1 (by decide) (by omega)
    omega
theorem cwN_top {sz : Int} (h1 : 1 ≤ sz) {n : Nat} (h : cwN sz n = 10000) (m : Nat) : cwN sz (n + m) = 10000 := by
  induction m with
  | zero => exact h
  | succ m ih =>
    show min (cwN sz (n + m) * sz) 10000 = 10000
    rw [ih]; omega
/-- The lists of arguments of the first k symbols. -/
def sumW (ar : List Int) (sz : Int) : Nat → Nat
  | 0 => 0
  | k + 1 => sumW ar sz k + longW sz (ar.getD k 0)
def worldsAns (ar : List Int) (sz : Int) : Int := if goodSign ar && inB sz 1 3 then cwN sz (sumW ar sz ar.length) else 0

/-- The digits of no, and what is left of it. -/
def digW (sz no : Int) : Nat → List Int
  | 0 => []
  | k + 1 => digW sz no k ++ [no / sz ^ k % sz]
def tabsW (ar : List Int) (sz no : Int) : Nat → List (List Int)
  | 0 => []
  | k + 1 => tabsW ar sz no k ++ [digW sz (no / sz ^ sumW ar sz k) (longW sz (ar.getD k 0))]
theorem digW_len (sz no : Int) (k : Nat) : (digW sz no k).length = k := by
  induction k with
  | zero => rfl
  | succ k ih => simp [digW, ih]
theorem tabsW_len (ar : List Int) (sz no : Int) (k : Nat) : (tabsW ar sz no k).length = k := by
  induction k with
  | zero => rfl
  | succ k ih => simp [tabsW, ih]
end Go.Proofs.Ytnldienjkejfcaa
