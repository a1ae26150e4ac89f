/- Chapter 5: the world of a number. No program but the frame of a row. -/
import Derived.Test.YtfhljkjcjnfjfaaWo0
import Derived.Test.YtfhljkjcjnfjfaaRwO
namespace Go.Proofs.Ytfhljkjcjnfjfaa
open Go.RowKit

def digN (Z N : Nat) : Nat → List Int
  | 0 => []
  | k + 1 => digN Z N k ++ [((N / Z ^ k % Z : Nat) : Int)]
def tabN (ar : List Int) (Z N : Nat) : Nat → List (List Int)
  | 0 => []
  | k + 1 => tabN ar Z N k ++ [digN Z (N / Z ^ sumW ar Z k) (longW Z (ar.getD k 0))]
theorem digN_len (Z N k : Nat) : (digN Z N k).length = k := by
  induction k with
  | zero => rfl
  | succ k ih => simp [digN, ih]
theorem tabN_len (ar : List Int) (Z N k : Nat) : (tabN ar Z N k).length = k := by
  induction k with
  | zero => rfl
  | succ k ih => simp [tabN, ih]
theorem digN_get (Z N : Nat) : ∀ (k j : Nat), j < k → (digN Z N k).getD j 0 = ((N / Z ^ j % Z : Nat) : Int) := by
  intro k
  induction k with
  | zero => intro j h; omega
  | succ k ih =>
    intro j h
    have hl := digN_len Z N k
    by_cases e : j = k
    · subst e
      rw [digN, List.getD_eq_getElem?_getD, List.getElem?_append_right (by omega), hl]
      simp
    · have := ih j (by omega)
      rw [digN, List.getD_eq_getElem?_getD, List.getElem?_append_left (by omega), ← List.getD_eq_getElem?_getD]
      exact this
theorem div_step (Z N k : Nat) : N / Z ^ k / Z = N / Z ^ (k + 1) := by rw [Nat.div_div_eq_div_mul, Nat.pow_succ]
theorem div_sum (Z N a b : Nat) : N / Z ^ a / Z ^ b = N / Z ^ (a + b) := by rw [Nat.div_div_eq_div_mul, Nat.pow_add]
theorem tabN_tot (ar : List Int) (Z N : Nat) (hg : ∀ k, longW Z (ar.getD k 0) ≤ 27) : ∀ k, tot (tabN ar Z N k) ≤ 28 * k := by
  intro k
  induction k with
  | zero => simp [tabN, tot, sumL]
  | succ k ih =>
    have := hg k
    unfold tot sumL at ih ⊢
    rw [tabN]
    generalize longW Z (ar.getD k 0) = L at *
    generalize tabN ar Z N k = T at *
    simp only [List.length_append, List.map_append, List.sum_append, List.map_cons, List.map_nil, List.sum_cons, List.sum_nil, digN_len, List.length_cons, List.length_nil]
    omega

/-- A change that lies below the row leaves it. -/
theorem RowO.cur {b base : Nat} {w w' : World} {v : Value} {xss : List (List Int)} (h : RowO base w v xss) (hb : b < base) (k : Chg b (b+1) w w') : RowO base w' v xss := by
  obtain ⟨us, bs, ho, hi⟩ := h
  have ho2 : w'.ownsRow base 22 1 v us.length us := by
    obtain ⟨h1, h2⟩ := ho
    refine ⟨h1, ?_⟩
    rcases h2 with ⟨e, hn⟩ | ⟨g, cap, cur, e, hg, hh, hn, hc, hs, ht⟩
    · exact .inl ⟨e, hn⟩
    · refine .inr ⟨g, cap, cur, e, hg, ?_, hn, hc, hs, ht⟩
      have hlt : g < w.heap.size := (Array.getElem?_eq_some_iff.1 hh).1
      exact (k.block g hlt (.inr (by omega))).trans hh
  refine ⟨us, bs, ho2, ((hi.same fun x h1 h2 h3 => k.block x h3 (.inr (by omega))).mono (Nat.le_refl _) k.size).blk fun j hj hp => ?_⟩
  have hr := hi.rng j hj hp
  unfold rowBlk at hr ⊢
  cases hv : v.ownBlock with
  | none => have := k.size; simp only [Option.getD_none]; omega
  | some g => rw [hv] at hr; simp only [Option.getD_some] at hr ⊢; exact hr.2.2
end Go.Proofs.Ytfhljkjcjnfjfaa
