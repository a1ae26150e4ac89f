/- Apply, IsUnifier: both functions; putting terms for variables. -/
import Derived.Test.YtnldienjkejfcaaSubst
import Derived.Test.YtnldienjkejfcaaSlice
namespace Go.Proofs.Ytnldienjkejfcaa
open Go.RowKit

/-- What stands for an entry of a term. -/
def one1 (b : List (List Int)) (n : Int) : List Int := if n < 0 ∧ 0 < (b.getD (-1 - n).toNat []).length then b.getD (-1 - n).toNat [] else [n]
def appT (b : List (List Int)) (t : List Int) : List Int := t.flatMap (one1 b)
theorem appT_nil (b : List (List Int)) : appT b [] = [] := rfl
theorem appT_succ (b : List (List Int)) (t : List Int) (k : Nat) (hk : k < t.length) : appT b (t.take (k+1)) = appT b (t.take k) ++ one1 b (t.getD k 0) := by
  unfold appT
  rw [List.take_succ_eq_append_getElem hk, List.flatMap_append]
  simp [List.getD, hk]
theorem one1_var {b : List (List Int)} {n : Int} (h : n < 0) (hp : 0 < (b.getD (-1 - n).toNat []).length) : one1 b n = b.getD (-1 - n).toNat [] := by unfold one1; rw [if_pos ⟨h, hp⟩]
theorem one1_free {b : List (List Int)} {n : Int} (hp : ¬ 0 < (b.getD (-1 - n).toNat []).length) : one1 b n = [n] := by unfold one1; rw [if_neg (fun h => hp h.2)]
theorem one1_sym {b : List (List Int)} {n : Int} (h : ¬ n < 0) : one1 b n = [n] := by unfold one1; rw [if_neg (fun h2 => h h2.1)]
def lens40 (b : List (List Int)) : Prop := ∀ j, j < b.length → (b.getD j []).length ≤ 40
theorem getD_len40 {b : List (List Int)} (h : lens40 b) (j : Nat) : (b.getD j []).length ≤ 40 := by
  by_cases hj : j < b.length
  · exact h j hj
  · simp [List.getD, hj]
theorem one1_len {b : List (List Int)} (h : lens40 b) (n : Int) : (one1 b n).length ≤ 40 := by
  unfold one1
  split
  · exact getD_len40 h _
  · simp
theorem appT_len {b : List (List Int)} (h : lens40 b) (t : List Int) : (appT b t).length ≤ 40 * t.length := by
  unfold appT
  induction t with
  | nil => simp
  | cons x r ih =>
    have := one1_len h x
    simp only [List.flatMap_cons, List.length_append, List.length_cons]
    omega
theorem row_app {w : World} {base e : Nat} {v : Value} {acc xs : List Int} (h : w.ownsRow base e 1 v (acc.length + xs.length) (acc.map (Value.int .i64) ++ xs.map (Value.int .i64))) :
    w.ownsRow base e 1 v (acc ++ xs).length ((acc ++ xs).map (Value.int .i64)) := by simpa using h

def app40 (b : List (List Int)) (t : List Int) : List Int := if 40 < (appT b t).length then [] else appT b t
def app40ok (b : List (List Int)) (t : List Int) : Bool := !decide (40 < (appT b t).length)
theorem app40_no {b : List (List Int)} {t : List Int} (h : 40 < (appT b t).length) : app40 b t = [] ∧ app40ok b t = false := by simp [app40, app40ok, h]
theorem app40_yes {b : List (List Int)} {t : List Int} (h : ¬ 40 < (appT b t).length) : app40 b t = appT b t ∧ app40ok b t = true := by simp [app40, app40ok, h]
theorem _root_.Go.World.ownsRow.len_eq {w : World} {base e s n m c : Nat} {ad : Option Addr} {xs : List Value} (h : w.ownsRow base e s (.slice ad n c) m xs) : n = m := by
  rcases h.2 with ⟨e1, h0⟩ | ⟨g, cap, cur, e1, _⟩
  · simp at e1; omega
  · simp at e1; exact e1.2.1

end Go.Proofs.Ytnldienjkejfcaa
