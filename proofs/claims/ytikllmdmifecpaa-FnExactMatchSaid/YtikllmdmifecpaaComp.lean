/- Compose: what is put together. -/
import Derived.Test.YtikllmdmifecpaaApplyR
import Derived.Test.YtikllmdmifecpaaApply2
import Derived.Test.YtikllmdmifecpaaMapSub
namespace Go.Proofs.Ytikllmdmifecpaa
open Go.RowKit

theorem ok_var (ar : List Int) (v : Nat) (hv : v < 12) : okTerm ar [-1 - (v : Int)] = true := by
  have hs : okSym ar (-1 - (v : Int)) = true := by simp [okSym, inB]; omega
  rw [okTerm_iff]
  refine ⟨by simp, by simp, ?_⟩
  unfold endOf
  rw [List.drop_zero, endGo_cons, if_pos hs, arOf_neg (by omega)]
  rfl
def compT (a : List (List Int)) (v : Nat) : List Int := if 0 < (a.getD v []).length then a.getD v [] else [-1 - (v : Int)]
def compF (a b : List (List Int)) (v : Nat) : List Int := appT b (compT a v)
theorem compT_pos {a : List (List Int)} {v : Nat} (h : 0 < (a.getD v []).length) : compT a v = a.getD v [] := by unfold compT; rw [if_pos h]
theorem compT_zero {a : List (List Int)} {v : Nat} (h : ¬ 0 < (a.getD v []).length) : compT a v = [-1 - (v : Int)] := by unfold compT; rw [if_neg h]
theorem compT_ok {ar : List Int} {a : List (List Int)} (h : goodSubst ar a = true) (v : Nat) (hv : v < 12) : okTerm ar (compT a v) = true := by
  by_cases hp : 0 < (a.getD v []).length
  · rw [compT_pos hp]; exact okEmpty_get (goodSubst_iff.1 h).2.2 v hp
  · rw [compT_zero hp]; exact ok_var ar v hv
def composeOk (ar : List Int) (a b : List (List Int)) : Bool := goodSubst ar a && goodSubst ar b && (List.range 12).all (fun v => app40ok b (compT a v))
def composeAns (ar : List Int) (a b : List (List Int)) : List (List Int) := if composeOk ar a b then substL (compF a b) else []
theorem composeAns_no {ar : List Int} {a b : List (List Int)} (h : composeOk ar a b = false) : composeAns ar a b = [] := by simp [composeAns, h]
theorem composeAns_yes {ar : List Int} {a b : List (List Int)} (h : composeOk ar a b = true) : composeAns ar a b = substL (compF a b) := by simp [composeAns, h]
theorem compose_bad {ar : List Int} {a b : List (List Int)} {v : Nat} (hv : v < 12) (h : app40ok b (compT a v) = false) : composeOk ar a b = false := by
  have : (List.range 12).all (fun v => app40ok b (compT a v)) = false := by
    rw [List.all_eq_false]
    exact ⟨v, by simpa using hv, by simp [h]⟩
  unfold composeOk
  rw [this, Bool.and_false]
theorem compose_good {ar : List Int} {a b : List (List Int)} (h1 : goodSubst ar a = true) (h2 : goodSubst ar b = true) (h : ∀ v, v < 12 → app40ok b (compT a v) = true) : composeOk ar a b = true := by
  unfold composeOk
  rw [h1, h2, Bool.true_and, Bool.true_and, List.all_eq_true]
  intro v hv
  exact h v (by simpa using hv)
theorem stayF_le (F : Nat → List Int) (v : Nat) : (stayF F v).length ≤ (F v).length := by unfold stayF; split <;> simp
theorem sumL_map_le (g : Nat → List Int) (c : Nat) : ∀ l : List Nat, (∀ v ∈ l, (g v).length ≤ c) → sumL (l.map g) ≤ c * l.length := by
  intro l
  induction l with
  | nil => intro _; simp [sumL]
  | cons x r ih =>
    intro h
    have h1 := ih (fun v hv => h v (List.mem_cons_of_mem _ hv))
    have h2 := h x List.mem_cons_self
    unfold sumL at h1 ⊢
    simp only [List.map_cons, List.sum_cons, List.length_cons] at h1 ⊢
    rw [Nat.mul_add]
    omega
theorem substL_tot (F : Nat → List Int) (h : ∀ v, v < 12 → (F v).length ≤ 40) : tot (substL F) ≤ 1048576 := by
  have h1 := sumL_map_le (stayF F) 40 (List.range 12) (fun v hv => by have h1 := stayF_le F v; have h2 := h v (by simpa using hv); omega)
  have h2 : (substL F).length = 12 := by simp [substL]
  unfold tot
  rw [h2]
  simp only [List.length_range] at h1
  unfold substL
  omega
theorem composeAns_len (ar : List Int) (a b : List (List Int)) : tot (composeAns ar a b) ≤ 1048576 := by
  unfold composeAns
  split
  · rename_i h
    unfold composeOk at h
    simp only [Bool.and_eq_true, List.all_eq_true] at h
    exact substL_tot _ fun v hv => by
      have := h.2 v (by simpa using hv)
      simp [app40ok] at this
      exact this
  · simp [tot, sumL]
theorem castL_range (k : Nat) : castL (List.range (k+1)) = castL (List.range k) ++ [(k : Int)] := by rw [List.range_succ, castL_snoc]

theorem l2Stay_y (l h : Nat) (x : Value) (t : List Int) (v : Nat) (w : World) (hv : v < 12) (ht : t = [-1 - (v : Int)]) (hx : SlI l h w x t) :
    Calls Try.prog 73 #[.int .i64 v, x] w (RetV w (.slice none 0 0)) := by
  subst ht
  obtain ⟨ad, cap, rfl⟩ := hx.form
  obtain ⟨b, off, rfl, -, hc⟩ := hx.at 0 (by simp)
  simp only [List.getD, List.getElem?_cons_zero, Option.getD_some, Nat.add_zero] at hc
  have hw := IntWalk.i64_in (-1 - (v : Int)) (by omega)
  simp only [List.length_cons, List.length_nil]
  clear hx
  go_enter Try.func73, Try.ntmps73
  go_wp2_with fail
  go_ret
  exact ⟨rfl, Bel.rfl' _⟩
theorem l2Stay_n (l h : Nat) (x : Value) (t : List Int) (v : Nat) (w : World) (hv : v < 12) (ht : t ≠ [-1 - (v : Int)]) (hx : SlI l h w x t) :
    Calls Try.prog 73 #[.int .i64 v, x] w (RetV w x) := by
  obtain ⟨ad, cap, rfl⟩ := hx.form
  have hw := IntWalk.i64_in (-1 - (v : Int)) (by omega)
  by_cases h1 : t.length = 1
  · obtain ⟨b, off, rfl, -, hc⟩ := hx.at 0 (by omega)
    obtain ⟨y, rfl⟩ : ∃ y, t = [y] := by
      cases t with
      | nil => simp at h1
      | cons y r => cases r with
        | nil => exact ⟨y, rfl⟩
        | cons z q => simp at h1
    simp only [List.getD, List.getElem?_cons_zero, Option.getD_some, Nat.add_zero] at hc
    have hy : (y == -1 - (v : Int)) = false := by simpa using fun e => ht (by rw [e])
    simp only [List.length_cons, List.length_nil]
    clear hx h1 ht
    go_enter Try.func73, Try.ntmps73
    go_wp2_with fail
    go_ret
    exact ⟨rfl, Bel.rfl' _⟩
  · have h2 : ((t.length : Int) == 1) = false := by simp; omega
    clear hx ht
    go_enter Try.func73, Try.ntmps73
    go_wp2_with fail
    go_ret
    exact ⟨rfl, Bel.rfl' _⟩
end Go.Proofs.Ytikllmdmifecpaa
