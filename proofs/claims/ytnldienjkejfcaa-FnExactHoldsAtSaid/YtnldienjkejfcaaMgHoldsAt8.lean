/- Texts merged, part 8. -/
import Derived.Test.YtnldienjkejfcaaMgHoldsAt7
section
/- The ordering, plainly. No program. -/
namespace Go.Proofs.Ytnldienjkejfcaa
open Go.RowKit

theorem cntI_count (t : List Int) (n : Int) : cntI t n = t.count n := by unfold cntI; rw [List.count_eq_countP, List.countP_eq_length_filter]
/-- Every variable occurs in a at least as often. -/
def covers (a b : List Int) : Bool := b.all fun n => decide (0 ≤ n) || decide (cntI b n ≤ cntI a n)
theorem covers_iff {a b : List Int} : covers a b = true ↔ ∀ n, n < 0 → b.count n ≤ a.count n := by
  unfold covers
  rw [List.all_eq_true]
  constructor
  · intro h n hn
    by_cases hm : n ∈ b
    · have := h n hm
      simp only [Bool.or_eq_true, decide_eq_true_eq, cntI_count] at this
      omega
    · rw [List.count_eq_zero_of_not_mem hm]; omega
  · intro h n _
    by_cases hn : 0 ≤ n
    · simp [hn]
    · have := h n (by omega)
      simp only [Bool.or_eq_true, decide_eq_true_eq, cntI_count]
      omega
/-- At the first difference both have symbols, and the first's is the greater one. -/
def winF : List Int → List Int → Bool
  | x :: a, y :: b => if x = y then winF a b else decide (0 ≤ y) && decide (y < x)
  | _, _ => false
theorem winF_irrefl (a : List Int) : winF a a = false := by
  induction a with
  | nil => rfl
  | cons x a ih => simp [winF, ih]
theorem winF_asymm (a b : List Int) (h : winF a b = true) : winF b a = false := by
  induction a generalizing b with
  | nil => simp [winF] at h
  | cons x a ih =>
    cases b with
    | nil => simp [winF] at h
    | cons y b =>
      unfold winF at h ⊢
      by_cases e : x = y
      · rw [if_pos e] at h; rw [if_pos e.symm]; exact ih b h
      · rw [if_neg e] at h; rw [if_neg (Ne.symm e)]
        simp only [Bool.and_eq_true, decide_eq_true_eq] at h
        simp; omega
theorem winF_trans (a b c : List Int) (h : winF a b = true) (k : winF b c = true) : winF a c = true := by
  induction a generalizing b c with
  | nil => simp [winF] at h
  | cons x a ih =>
    cases b with
    | nil => simp [winF] at h
    | cons y b =>
      cases c with
      | nil => simp [winF] at k
      | cons z c =>
        unfold winF at h k ⊢
        by_cases e : x = y
        · rw [if_pos e] at h
          by_cases e2 : y = z
          · rw [if_pos e2] at k; rw [if_pos (e.trans e2)]; exact ih b c h k
          · rw [if_neg e2] at k; rw [if_neg (by rw [e]; exact e2), e]; exact k
        · rw [if_neg e] at h
          simp only [Bool.and_eq_true, decide_eq_true_eq] at h
          by_cases e2 : y = z
          · rw [if_neg (by omega)]; simp; omega
          · rw [if_neg e2] at k
            simp only [Bool.and_eq_true, decide_eq_true_eq] at k
            rw [if_neg (by omega)]; simp; omega
theorem winF_left (p a b : List Int) : winF (p ++ a) (p ++ b) = winF a b := by
  induction p with
  | nil => rfl
  | cons x p ih => simp [winF, ih]
theorem winF_right (a b q r : List Int) (h : winF a b = true) : winF (a ++ q) (b ++ r) = true := by
  induction a generalizing b with
  | nil => simp [winF] at h
  | cons x a ih =>
    cases b with
    | nil => simp [winF] at h
    | cons y b =>
      simp only [List.cons_append]
      unfold winF at h ⊢
      by_cases e : x = y
      · rw [if_pos e] at h ⊢; exact ih b h
      · rw [if_neg e] at h ⊢; exact h
theorem winF_total (a b : List Int) (hl : a.length = b.length) (ha : ∀ n ∈ a, 0 ≤ n) (hb : ∀ n ∈ b, 0 ≤ n) (hne : a ≠ b) : winF a b = true ∨ winF b a = true := by
  induction a generalizing b with
  | nil => cases b with
    | nil => exact absurd rfl hne
    | cons y b => simp at hl
  | cons x a ih =>
    cases b with
    | nil => simp at hl
    | cons y b =>
      unfold winF
      by_cases e : x = y
      · rw [if_pos e, if_pos e.symm]
        exact ih b (by simpa using hl) (fun n h => ha n (List.mem_cons_of_mem _ h)) (fun n h => hb n (List.mem_cons_of_mem _ h)) (by rintro rfl; exact hne (by rw [e]))
      · rw [if_neg e, if_neg (Ne.symm e)]
        have h1 := ha x List.mem_cons_self
        have h2 := hb y List.mem_cons_self
        simp only [Bool.and_eq_true, decide_eq_true_eq]
        omega
theorem one1_sym0 {s : List (List Int)} {n : Int} (h : 0 ≤ n) : one1 s n = [n] := by unfold one1; rw [if_neg (by omega)]
theorem one1_posK (s : List (List Int)) (n : Int) : 1 ≤ (one1 s n).length := by
  unfold one1; split
  · rename_i h; exact h.2
  · simp
theorem winF_app (s : List (List Int)) (a b : List Int) (h : winF a b = true) : winF (appT s a) (appT s b) = true := by
  induction a generalizing b with
  | nil => simp [winF] at h
  | cons x a ih =>
    cases b with
    | nil => simp [winF] at h
    | cons y b =>
      unfold winF at h
      by_cases e : x = y
      · rw [if_pos e] at h
        have := ih b h
        unfold appT at this ⊢
        rw [List.flatMap_cons, List.flatMap_cons, e, winF_left]; exact this
      · rw [if_neg e] at h
        simp only [Bool.and_eq_true, decide_eq_true_eq] at h
        unfold appT
        rw [List.flatMap_cons, List.flatMap_cons, one1_sym0 (s := s) h.1, one1_sym0 (s := s) (n := x) (by omega)]
        simp only [List.cons_append, List.nil_append]
        unfold winF
        rw [if_neg e]; simp; omega

/-- a is greater than b. -/
def above (a b : List Int) : Bool := covers a b && (decide (b.length < a.length) || (decide (a.length = b.length) && winF a b))
theorem above_iff {a b : List Int} : above a b = true ↔ (∀ n, n < 0 → b.count n ≤ a.count n) ∧ (b.length < a.length ∨ (a.length = b.length ∧ winF a b = true)) := by
  unfold above
  simp only [Bool.and_eq_true, Bool.or_eq_true, decide_eq_true_eq, covers_iff]
theorem above_irrefl (a : List Int) : above a a = false := by
  rw [Bool.eq_false_iff]; intro h
  obtain ⟨_, h | h⟩ := above_iff.1 h
  · omega
  · rw [winF_irrefl] at h; simp at h
theorem above_asymm {a b : List Int} (h : above a b = true) : above b a = false := by
  rw [Bool.eq_false_iff]; intro k
  obtain ⟨_, h⟩ := above_iff.1 h
  obtain ⟨_, k⟩ := above_iff.1 k
  rcases h with h | ⟨h, hw⟩ <;> rcases k with k | ⟨k, kw⟩
  · omega
  · omega
  · omega
  · rw [winF_asymm _ _ hw] at kw; simp at kw
theorem above_trans {a b c : List Int} (h : above a b = true) (k : above b c = true) : above a c = true := by
  obtain ⟨h1, h⟩ := above_iff.1 h
  obtain ⟨k1, k⟩ := above_iff.1 k
  refine above_iff.2 ⟨fun n hn => Nat.le_trans (k1 n hn) (h1 n hn), ?_⟩
  rcases h with h | ⟨h, hw⟩ <;> rcases k with k | ⟨k, kw⟩
  · left; omega
  · left; omega
  · left; omega
  · exact .inr ⟨by omega, winF_trans _ _ _ hw kw⟩
theorem above_total {a b : List Int} (ha : ∀ n ∈ a, 0 ≤ n) (hb : ∀ n ∈ b, 0 ≤ n) (hne : a ≠ b) : above a b = true ∨ above b a = true := by
  have z : ∀ (l : List Int), (∀ n ∈ l, 0 ≤ n) → ∀ n, n < 0 → l.count n = 0 := fun l hl n hn => List.count_eq_zero_of_not_mem fun hm => by have := hl n hm; omega
  have c1 : ∀ n, n < 0 → b.count n ≤ a.count n := fun n hn => by rw [z b hb n hn]; omega
  have c2 : ∀ n, n < 0 → a.count n ≤ b.count n := fun n hn => by rw [z a ha n hn]; omega
  rcases Nat.lt_trichotomy a.length b.length with h | h | h
  · exact .inr (above_iff.2 ⟨c2, .inl h⟩)
  · rcases winF_total a b h ha hb hne with k | k
    · exact .inl (above_iff.2 ⟨c1, .inr ⟨h, k⟩⟩)
    · exact .inr (above_iff.2 ⟨c2, .inr ⟨h.symm, k⟩⟩)
  · exact .inl (above_iff.2 ⟨c1, .inl h⟩)
theorem above_ctx {a b : List Int} (p q : List Int) (h : above a b = true) : above (p ++ a ++ q) (p ++ b ++ q) = true := by
  obtain ⟨h1, h⟩ := above_iff.1 h
  refine above_iff.2 ⟨fun n hn => ?_, ?_⟩
  · have := h1 n hn; simp only [List.count_append]; omega
  · rcases h with h | ⟨h, hw⟩
    · left; simp only [List.length_append]; omega
    · refine .inr ⟨by simp only [List.length_append]; omega, ?_⟩
      rw [List.append_assoc, List.append_assoc, winF_left]; exact winF_right _ _ _ _ hw
theorem above_part (p u q : List Int) (h : 0 < p.length + q.length) : above (p ++ u ++ q) u = true := by
  refine above_iff.2 ⟨fun n _ => ?_, .inl ?_⟩
  · simp only [List.count_append]; omega
  · simp only [List.length_append]; omega
theorem sum_perm {a b : List Int} (g : Int → Nat) (h : a.Perm b) : (a.map g).sum = (b.map g).sum := by
  induction h with
  | nil => rfl
  | cons x _ ih => simp [ih]
  | swap x y l => simp; omega
  | trans _ _ h1 h2 => exact h1.trans h2
theorem sum_mono (g : Int → Nat) (hg : ∀ n, 0 ≤ n → g n = 0) (a b : List Int) (h : ∀ n, n < 0 → b.count n ≤ a.count n) : (b.map g).sum ≤ (a.map g).sum := by
  induction b generalizing a with
  | nil => simp
  | cons n b ih =>
    by_cases hn : 0 ≤ n
    · have := ih a (fun m hm => by have h2 := h m hm; rw [List.count_cons] at h2; omega)
      simp [hg n hn]; exact this
    · have h1 := h n (by omega)
      rw [List.count_cons_self] at h1
      have hm : n ∈ a := List.count_pos_iff.1 (by omega)
      have hp := List.perm_cons_erase hm
      rw [sum_perm g hp]
      have := ih (a.erase n) (fun m hm => by
        have h2 := h m hm
        have h3 := hp.count_eq m
        rw [List.count_cons] at h2 h3
        omega)
      simp; exact this
theorem count_app (s : List (List Int)) (a : List Int) (n : Int) (hn : n < 0) : (appT s a).count n = (a.map fun m => if m < 0 then (one1 s m).count n else 0).sum := by
  unfold appT
  induction a with
  | nil => rfl
  | cons m a ih =>
    rw [List.flatMap_cons, List.count_append, ih, List.map_cons, List.sum_cons]
    congr 1
    by_cases hm : m < 0
    · rw [if_pos hm]
    · rw [if_neg hm, one1_sym0 (by omega)]
      exact List.count_eq_zero_of_not_mem (by simp; omega)
theorem len_app (s : List (List Int)) (a : List Int) : (appT s a).length = a.length + (a.map fun m => if m < 0 then (one1 s m).length - 1 else 0).sum := by
  unfold appT
  induction a with
  | nil => rfl
  | cons m a ih =>
    rw [List.flatMap_cons, List.length_append, ih, List.map_cons, List.sum_cons, List.length_cons]
    have := one1_posK s m
    by_cases hm : m < 0
    · rw [if_pos hm]; omega
    · rw [if_neg hm, one1_sym0 (by omega)]; simp; omega
theorem above_app {a b : List Int} (s : List (List Int)) (h : above a b = true) : above (appT s a) (appT s b) = true := by
  obtain ⟨h1, h⟩ := above_iff.1 h
  have hl := sum_mono (fun m => if m < 0 then (one1 s m).length - 1 else 0) (fun n hn => by show (if _ then _ else _) = 0; rw [if_neg (by omega)]) a b h1
  have e1 := len_app s a
  have e2 := len_app s b
  refine above_iff.2 ⟨fun n hn => ?_, ?_⟩
  · rw [count_app s a n hn, count_app s b n hn]
    exact sum_mono _ (fun m hm => by show (if _ then _ else _) = 0; rw [if_neg (by omega)]) a b h1
  · by_cases hlt : (appT s b).length < (appT s a).length
    · exact .inl hlt
    · rcases h with h | ⟨h, hw⟩
      · omega
      · exact .inr ⟨by omega, winF_app s a b hw⟩

/-- How two terms compare. -/
def cmpT (a b : List Int) : Int := if a = b then 0 else if above a b then 1 else if above b a then -1 else 2
theorem cmpT_one {a b : List Int} : cmpT a b = 1 ↔ above a b = true := by
  unfold cmpT
  by_cases e : a = b
  · rw [if_pos e, e, above_irrefl]; simp
  · rw [if_neg e]
    cases h : above a b
    · cases h2 : above b a <;> simp
    · simp
theorem cmpT_zero {a b : List Int} : cmpT a b = 0 ↔ a = b := by
  unfold cmpT
  by_cases e : a = b
  · simp [e]
  · rw [if_neg e]
    cases h : above a b
    · cases h2 : above b a <;> simp [e]
    · simp [e]
theorem cmpT_neg {a b : List Int} : cmpT a b = -1 ↔ above b a = true := by
  unfold cmpT
  by_cases e : a = b
  · rw [if_pos e, e, above_irrefl]; simp
  · rw [if_neg e]
    cases h : above a b
    · cases h2 : above b a <;> simp
    · have := above_asymm h; simp [this]
theorem cmpT_two {a b : List Int} : cmpT a b = 2 ↔ a ≠ b ∧ above a b = false ∧ above b a = false := by
  unfold cmpT
  by_cases e : a = b
  · simp [e]
  · rw [if_neg e]
    cases h : above a b
    · cases h2 : above b a <;> simp [e]
    · simp
theorem cmpT_flip {a b : List Int} : (cmpT a b = 1 → cmpT b a = -1) ∧ (cmpT a b = 0 → cmpT b a = 0) ∧ (cmpT a b = 2 → cmpT b a = 2) := by
  refine ⟨fun h => cmpT_neg.2 (cmpT_one.1 h), fun h => cmpT_zero.2 (cmpT_zero.1 h).symm, fun h => ?_⟩
  obtain ⟨h1, h2, h3⟩ := cmpT_two.1 h
  exact cmpT_two.2 ⟨Ne.symm h1, h3, h2⟩

/-- What remains of a. -/
def minus (a b : List (List Int)) : List (List Int) := b.foldl List.erase a
theorem minus_nil (a : List (List Int)) : minus a [] = a := rfl
theorem minus_cons (a : List (List Int)) (t : List Int) (b : List (List Int)) : minus a (t :: b) = minus (a.erase t) b := rfl
theorem minus_count (a b : List (List Int)) (t : List Int) : (minus a b).count t = a.count t - b.count t := by
  induction b generalizing a with
  | nil => simp [minus]
  | cons y b ih =>
    rw [minus_cons, ih, List.count_erase, List.count_cons]
    by_cases e : y = t
    · simp [e]; omega
    · simp [e]
theorem minus_mem {a b : List (List Int)} {t : List Int} : t ∈ minus a b ↔ b.count t < a.count t := by
  rw [← List.count_pos_iff, minus_count]; omega
theorem minus_len (a b : List (List Int)) : (minus a b).length ≤ a.length := by
  induction b generalizing a with
  | nil => exact Nat.le_refl _
  | cons y b ih => rw [minus_cons]; exact Nat.le_trans (ih _) (List.length_erase_le)
theorem minus_sub {a b : List (List Int)} {t : List Int} (h : t ∈ minus a b) : t ∈ a := List.count_pos_iff.1 (by have := minus_mem.1 h; omega)
/-- From the front of a: what b has is left out. -/
theorem minus_front (x : List Int) (a b : List (List Int)) : minus (x :: a) b = if x ∈ b then minus a (b.erase x) else x :: minus a b := by
  induction b generalizing a with
  | nil => simp [minus]
  | cons y b ih =>
    rw [minus_cons]
    by_cases e : x = y
    · subst e; simp
    · rw [List.erase_cons_tail (by simpa using e), ih]
      have h1 : (x ∈ y :: b) ↔ x ∈ b := by simp [e]
      have h2 : (y :: b).erase x = y :: b.erase x := List.erase_cons_tail (by simpa using Ne.symm e)
      by_cases h : x ∈ b
      · rw [if_pos h, if_pos (h1.2 h), h2, minus_cons]
      · rw [if_neg h, if_neg (fun k => h (h1.1 k)), minus_cons]
theorem minus_perm {b c : List (List Int)} (h : b.Perm c) (a : List (List Int)) : minus a b = minus a c := by
  induction h generalizing a with
  | nil => rfl
  | cons x _ ih => rw [minus_cons, minus_cons, ih]
  | swap x y l => rw [minus_cons, minus_cons, minus_cons, minus_cons, List.erase_comm]
  | trans _ _ h1 h2 => exact (h1 a).trans (h2 a)

def dom (a b : List (List Int)) : Bool := b.all fun t => a.any fun u => above u t
theorem dom_iff {a b : List (List Int)} : dom a b = true ↔ ∀ t ∈ b, ∃ u ∈ a, above u t = true := by
  unfold dom; simp only [List.all_eq_true, List.any_eq_true]
/-- Some element is below none. -/
theorem top_of (l : List (List Int)) (h : l ≠ []) : ∃ m ∈ l, ∀ x ∈ l, above x m = false := by
  induction l with
  | nil => exact absurd rfl h
  | cons y l ih =>
    by_cases hl : l = []
    · subst hl
      exact ⟨y, List.mem_cons_self, fun x hx => by simp at hx; subst hx; exact above_irrefl _⟩
    · obtain ⟨m, hm, hmax⟩ := ih hl
      cases hy : above y m with
      | false => exact ⟨m, List.mem_cons_of_mem _ hm, fun x hx => by rcases List.mem_cons.1 hx with rfl | hx; exact hy; exact hmax x hx⟩
      | true =>
        refine ⟨y, List.mem_cons_self, fun x hx => ?_⟩
        rcases List.mem_cons.1 hx with rfl | hx
        · exact above_irrefl _
        · rw [Bool.eq_false_iff]; intro hxy
          have := hmax x hx
          rw [above_trans hxy hy] at this; simp at this
theorem dom_asymm {a b : List (List Int)} (ha : a ≠ []) (h : dom a b = true) : dom b a = false := by
  rw [Bool.eq_false_iff]; intro k
  obtain ⟨m, hm, hmax⟩ := top_of a ha
  obtain ⟨u, hu, h1⟩ := dom_iff.1 k m hm
  obtain ⟨x, hx, h2⟩ := dom_iff.1 h u hu
  have := hmax x hx
  rw [above_trans h2 h1] at this; simp at this
/-- How two lists compare. -/
def cmpL (a b : List (List Int)) : Int := if minus a b = [] ∧ minus b a = [] then 0 else if dom (minus a b) (minus b a) then 1 else if dom (minus b a) (minus a b) then -1 else 2
theorem cmpL_zero {a b : List (List Int)} : cmpL a b = 0 ↔ minus a b = [] ∧ minus b a = [] := by
  unfold cmpL
  by_cases e : minus a b = [] ∧ minus b a = []
  · simp [e]
  · rw [if_neg e]; simp only [e, iff_false]; split
    · omega
    · split <;> omega
theorem cmpL_one {a b : List (List Int)} : cmpL a b = 1 ↔ minus a b ≠ [] ∧ dom (minus a b) (minus b a) = true := by
  unfold cmpL
  by_cases e : minus a b = [] ∧ minus b a = []
  · rw [if_pos e]; simp [e.1]
  · rw [if_neg e]
    cases h : dom (minus a b) (minus b a)
    · simp; split <;> omega
    · simp
      intro h0
      refine e ⟨h0, ?_⟩
      rw [h0] at h
      cases h2 : minus b a with
      | nil => rfl
      | cons t r => obtain ⟨u, hu, _⟩ := dom_iff.1 h t (by rw [h2]; exact List.mem_cons_self); simp at hu
theorem cmpL_neg {a b : List (List Int)} : cmpL a b = -1 ↔ minus b a ≠ [] ∧ dom (minus b a) (minus a b) = true := by
  constructor
  · intro h
    have h1 : cmpL a b ≠ 1 := by omega
    have h0 : cmpL a b ≠ 0 := by omega
    unfold cmpL at h
    by_cases e : minus a b = [] ∧ minus b a = []
    · rw [if_pos e] at h; omega
    · rw [if_neg e] at h
      cases hd : dom (minus a b) (minus b a)
      · rw [hd] at h
        cases hd2 : dom (minus b a) (minus a b)
        · rw [hd2] at h; simp at h
        · refine ⟨fun hb => e ⟨?_, hb⟩, rfl⟩
          rw [hb] at hd2
          cases h2 : minus a b with
          | nil => rfl
          | cons t r => obtain ⟨u, hu, _⟩ := dom_iff.1 hd2 t (by rw [h2]; exact List.mem_cons_self); simp at hu
      · rw [hd] at h; simp at h
  · rintro ⟨h1, h2⟩
    have h3 := dom_asymm h1 h2
    unfold cmpL
    rw [if_neg (fun e => h1 e.2), h3, h2]; simp
theorem cmpL_flip (a b : List (List Int)) : (cmpL a b = 1 ↔ cmpL b a = -1) ∧ (cmpL a b = 0 ↔ cmpL b a = 0) := by
  refine ⟨by rw [cmpL_one, cmpL_neg], by rw [cmpL_zero, cmpL_zero]; exact And.comm⟩
theorem nil_iff {l : List (List Int)} : l = [] ↔ ∀ t, t ∉ l := List.eq_nil_iff_forall_not_mem
theorem dom_congr {a b a' b' : List (List Int)} (h1 : ∀ t, t ∈ a ↔ t ∈ a') (h2 : ∀ t, t ∈ b ↔ t ∈ b') : dom a b = dom a' b' := by
  rw [Bool.eq_iff_iff, dom_iff, dom_iff]
  constructor
  · intro h t ht; obtain ⟨u, hu, k⟩ := h t ((h2 t).2 ht); exact ⟨u, (h1 u).1 hu, k⟩
  · intro h t ht; obtain ⟨u, hu, k⟩ := h t ((h2 t).1 ht); exact ⟨u, (h1 u).2 hu, k⟩
/-- What is put behind both changes nothing. -/
theorem cmpL_snoc (a b : List (List Int)) (g : List Int) : cmpL (a ++ [g]) (b ++ [g]) = cmpL a b := by
  have h1 : ∀ (a b : List (List Int)) t, t ∈ minus (a ++ [g]) (b ++ [g]) ↔ t ∈ minus a b := fun a b t => by
    rw [minus_mem, minus_mem, List.count_append, List.count_append]; omega
  unfold cmpL
  rw [dom_congr (h1 a b) (h1 b a), dom_congr (h1 b a) (h1 a b)]
  have h2 : ∀ a b : List (List Int), minus (a ++ [g]) (b ++ [g]) = [] ↔ minus a b = [] := fun a b => by
    rw [nil_iff, nil_iff]; exact forall_congr' fun t => not_congr (h1 a b t)
  simp only [h2]
def falls (l : List (List Int)) : Bool := (List.range (l.length - 1)).all fun i => above (l.getD i []) (l.getD (i+1) [])
theorem falls_pair {l : List (List Int)} (h : falls l = true) : ∀ (i j : Nat), j < i → i < l.length → above (l.getD j []) (l.getD i []) = true := by
  unfold falls at h
  rw [List.all_eq_true] at h
  intro i
  induction i with
  | zero => intro j hj; omega
  | succ i ih =>
    intro j hj hi
    have h1 := h i (by rw [List.mem_range]; omega)
    by_cases e : j = i
    · rw [e]; exact h1
    · exact above_trans (ih j (by omega) (by omega)) h1
end Go.Proofs.Ytnldienjkejfcaa
end
section
/- Lists of terms, plainly: what remains, who dominates, how they compare. No program. -/
namespace Go.Proofs.Ytnldienjkejfcaa
open Go.RowKit

theorem minus_nil_left (b : List (List Int)) : minus [] b = [] := by
  induction b with
  | nil => rfl
  | cons y b ih => rw [minus_cons]; simpa using ih
theorem take_snoc {α : Type} (l : List α) (k : Nat) (d : α) (hk : k < l.length) : l.take (k+1) = l.take k ++ [l.getD k d] := by
  rw [List.take_succ_eq_append_getElem hk]; simp [List.getD, hk]
theorem drop_get {α : Type} (l : List α) (k : Nat) (d : α) (hk : k < l.length) : l.drop k = l.getD k d :: l.drop (k+1) := by
  rw [List.drop_eq_getElem_cons hk]; simp [List.getD, hk]
theorem minus_take (a b : List (List Int)) (k : Nat) (hk : k < b.length) : minus a (b.take (k+1)) = (minus a (b.take k)).erase (b.getD k []) := by
  rw [take_snoc b k [] hk]; simp [minus, List.foldl_append]
theorem erase_at {X : List (List Int)} {t : List Int} {j : Nat} (hj : j < X.length) (hn : t ∉ X.take j) (he : X.getD j [] = t) : X.erase t = X.eraseIdx j := by
  induction X generalizing j with
  | nil => simp at hj
  | cons x X ih =>
    cases j with
    | zero =>
      have he : x = t := by simpa using he
      subst he; simp
    | succ j =>
      simp only [List.take_succ_cons, List.mem_cons, not_or] at hn
      rw [List.erase_cons_tail (by simpa using fun h => hn.1 h.symm), List.eraseIdx_cons_succ, ih (by simpa using hj) hn.2 (by simpa using he)]
theorem erase_none {X : List (List Int)} {t : List Int} {j : Nat} (hj : ¬ j < X.length) (hn : t ∉ X.take j) : X.erase t = X := by
  rw [List.take_of_length_le (by omega)] at hn
  exact List.erase_of_not_mem hn
theorem not_take {X : List (List Int)} {t : List Int} {j : Nat} (hj : j < X.length) (hn : t ∉ X.take j) (he : X.getD j [] ≠ t) : t ∉ X.take (j+1) := by
  rw [take_snoc X j [] hj, List.mem_append, List.mem_singleton, not_or]
  exact ⟨hn, fun h => he h.symm⟩
theorem eraseIdx_perm {l : List (List Int)} {i : Nat} (hi : i < l.length) : (l.getD i [] :: l.eraseIdx i).Perm l := by
  induction l generalizing i with
  | nil => simp at hi
  | cons x l ih =>
    cases i with
    | zero => simp
    | succ i =>
      have := ih (i := i) (by simpa using hi)
      rw [show (x :: l).getD (i+1) [] = l.getD i [] from by simp [List.getD], List.eraseIdx_cons_succ]
      exact (List.Perm.swap _ _ _).trans (this.cons x)
/-- The reference's loop: what is out, what is left. -/
theorem left_in {a b out left : List (List Int)} {k i : Nat} (h : minus a b = out ++ minus (a.drop k) left) (hk : k < a.length) (hi : i < left.length) (he : left.getD i [] = a.getD k []) :
    minus a b = out ++ minus (a.drop (k+1)) (left.eraseIdx i) := by
  rw [h, drop_get a k [] hk, minus_front]
  generalize a.getD k [] = t at *
  have hx : left[i] = t := by rw [← he]; simp [List.getD, hi]
  have hm : t ∈ left := by rw [← hx]; exact List.getElem_mem hi
  rw [if_pos hm]
  have hp : (left.erase t).Perm (left.eraseIdx i) := by
    have h1 := eraseIdx_perm hi
    rw [he] at h1
    exact (List.perm_cons t).1 ((List.perm_cons_erase hm).symm.trans h1.symm)
  rw [minus_perm hp]
theorem left_out {a b out left : List (List Int)} {k : Nat} (h : minus a b = out ++ minus (a.drop k) left) (hk : k < a.length) (hn : a.getD k [] ∉ left) :
    minus a b = (out ++ [a.getD k []]) ++ minus (a.drop (k+1)) left := by
  rw [h, drop_get a k [] hk, minus_front, if_neg hn, List.append_assoc]; rfl
theorem left_end {a b out left : List (List Int)} {k : Nat} (h : minus a b = out ++ minus (a.drop k) left) (hk : ¬ k < a.length) : minus a b = out := by
  rw [h, List.drop_eq_nil_of_le (by omega), minus_nil_left, List.append_nil]
theorem minus_get {a b : List (List Int)} {P : List Int → Prop} (h : ∀ t ∈ a, P t) : ∀ t ∈ minus a b, P t := fun t ht => h t (minus_sub ht)

theorem dom_no {a b : List (List Int)} {k : Nat} (hk : k < b.length) (h : (a.any fun u => above u (b.getD k [])) = false) : dom a b = false := by
  rw [Bool.eq_false_iff]
  intro hd
  unfold dom at hd
  rw [List.all_eq_true] at hd
  have := hd (b.getD k []) (by simp [List.getD, hk])
  rw [h] at this; simp at this
theorem dom_take {a b : List (List Int)} {k : Nat} (hk : k < b.length) (h : dom a (b.take k) = true) (h2 : (a.any fun u => above u (b.getD k [])) = true) : dom a (b.take (k+1)) = true := by
  unfold dom at *
  rw [take_snoc b k [] hk, List.all_append, h]
  simpa using h2
theorem dom_all {a b : List (List Int)} {k : Nat} (hk : ¬ k < b.length) (h : dom a (b.take k) = true) : dom a b = true := by
  rwa [List.take_of_length_le (by omega)] at h
theorem any_take {a : List (List Int)} {t : List Int} {i : Nat} (hi : i < a.length) (h : ((a.take i).any fun u => above u t) = false) : ((a.take (i+1)).any fun u => above u t) = above (a.getD i []) t := by
  rw [take_snoc a i [] hi, List.any_append, h]; simp
theorem any_yes {a : List (List Int)} {t : List Int} {i : Nat} (hi : i < a.length) (h : above (a.getD i []) t = true) : (a.any fun u => above u t) = true := by
  rw [List.any_eq_true]; exact ⟨_, by simp [List.getD, hi], h⟩
theorem any_end {a : List (List Int)} {t : List Int} {i : Nat} {q : Bool} (hi : ¬ i < a.length) (h : ((a.take i).any fun u => above u t) = q) : (a.any fun u => above u t) = q := by
  rwa [List.take_of_length_le (by omega)] at h
theorem cmpL_0 {a b : List (List Int)} (h1 : minus a b = []) (h2 : minus b a = []) : cmpL a b = 0 := cmpL_zero.2 ⟨h1, h2⟩
theorem cmpL_1 {a b : List (List Int)} (h0 : ¬ (minus a b = [] ∧ minus b a = [])) (h : dom (minus a b) (minus b a) = true) : cmpL a b = 1 := by unfold cmpL; rw [if_neg h0, if_pos h]
theorem cmpL_m {a b : List (List Int)} (h0 : ¬ (minus a b = [] ∧ minus b a = [])) (h : dom (minus a b) (minus b a) = false) (k : dom (minus b a) (minus a b) = true) : cmpL a b = -1 := by
  unfold cmpL; rw [if_neg h0, if_neg (by rw [h]; simp), if_pos k]
theorem cmpL_2 {a b : List (List Int)} (h0 : ¬ (minus a b = [] ∧ minus b a = [])) (h : dom (minus a b) (minus b a) = false) (k : dom (minus b a) (minus a b) = false) : cmpL a b = 2 := by
  unfold cmpL; rw [if_neg h0, if_neg (by rw [h]; simp), if_neg (by rw [k]; simp)]
/-- The reference asks also that something is there. -/
theorem dom_some {x y : List (List Int)} (h0 : ¬ (x = [] ∧ y = [])) (h : dom x y = true) : 0 < x.length := by
  cases x with
  | nil =>
    cases y with
    | nil => exact absurd ⟨rfl, rfl⟩ h0
    | cons t r => obtain ⟨u, hu, _⟩ := dom_iff.1 h t List.mem_cons_self; simp at hu
  | cons u r => simp
/-- Falling. -/
theorem falls_no {l : List (List Int)} {i : Nat} (h1 : 0 < i) (hi : i < l.length) (h : above (l.getD (i-1) []) (l.getD i []) = false) : falls l = false := by
  rw [Bool.eq_false_iff]; intro hf
  have := falls_pair hf i (i-1) (by omega) hi
  rw [h] at this; simp at this
def fallTo (l : List (List Int)) (i : Nat) : Prop := ∀ j, 0 < j → j < i → above (l.getD (j-1) []) (l.getD j []) = true
theorem fallTo.step {l : List (List Int)} {i : Nat} (h : fallTo l i) (hi : 0 < i → above (l.getD (i-1) []) (l.getD i []) = true) : fallTo l (i+1) := fun j h1 h2 => by
  by_cases e : j = i
  · subst e; exact hi h1
  · exact h j h1 (by omega)
theorem fallTo.done {l : List (List Int)} {i : Nat} (h : fallTo l i) (hi : ¬ i < l.length) : falls l = true := by
  unfold falls
  rw [List.all_eq_true]
  intro j hj
  rw [List.mem_range] at hj
  exact h (j+1) (by omega) (by omega)

def lisOk (ar : List Int) (a b : List (List Int)) : Bool := goodTerms ar a 8 && goodTerms ar b 8
def lisAns (ar : List Int) (a b : List (List Int)) : Int := if lisOk ar a b then cmpL a b else 0
theorem lisOk_iff {ar : List Int} {a b : List (List Int)} : lisOk ar a b = true ↔ goodTerms ar a 8 = true ∧ goodTerms ar b 8 = true := by simp [lisOk]
theorem lis_no {ar : List Int} {a b : List (List Int)} (h : lisOk ar a b = false) : lisAns ar a b = 0 := by simp [lisAns, h]
theorem lis_yes {ar : List Int} {a b : List (List Int)} (h : lisOk ar a b = true) : lisAns ar a b = cmpL a b := by simp [lisAns, h]
def falAns (ar : List Int) (l : List (List Int)) : Bool := goodTerms ar l 8 && falls l
theorem fal_no {ar : List Int} {l : List (List Int)} (h : goodTerms ar l 8 = false) : falAns ar l = false := by simp [falAns, h]
theorem fal_yes {ar : List Int} {l : List (List Int)} (h : goodTerms ar l 8 = true) : falAns ar l = falls l := by simp [falAns, h]
theorem goodTerms_get {ar : List Int} {b : List (List Int)} {m : Nat} (h : goodTerms ar b m = true) (j : Nat) (hj : j < b.length) : okTerm ar (b.getD j []) = true :=
  (goodTerms_iff.1 h).2.2 _ (by simp [List.getD, hj])
end Go.Proofs.Ytnldienjkejfcaa
end
section
/- Chapter 4: the answers, as plain functions. No program. -/
namespace Go.Proofs.Ytnldienjkejfcaa
open Go.RowKit

def okLit (ar : List Int) (x : Lt) : Bool := okTerm ar x.2.1 && okTerm ar x.2.2
def okLits (ar : List Int) (c : List Lt) : Bool := decide (c.length ≤ 8) && c.all (okLit ar)
def goodClause (ar : List Int) (c : List Lt) : Bool := goodSign ar && okLits ar c
theorem okLit_iff {ar : List Int} {x : Lt} : okLit ar x = true ↔ okTerm ar x.2.1 = true ∧ okTerm ar x.2.2 = true := by simp [okLit]
theorem okLits_iff {ar : List Int} {c : List Lt} : okLits ar c = true ↔ c.length ≤ 8 ∧ ∀ x ∈ c, okLit ar x = true := by simp [okLits]
theorem goodClause_iff {ar : List Int} {c : List Lt} : goodClause ar c = true ↔ goodSign ar = true ∧ c.length ≤ 8 ∧ ∀ x ∈ c, okLit ar x = true := by simp [goodClause, okLits]
theorem okLits_get {ar : List Int} {c : List Lt} (h : ∀ x ∈ c, okLit ar x = true) (j : Nat) (hj : j < c.length) : okTerm ar (c.getD j lt0).2.1 = true ∧ okTerm ar (c.getD j lt0).2.2 = true :=
  okLit_iff.1 (h _ (by simp [List.getD, hj]))
theorem okLits_bad {ar : List Int} {c : List Lt} {j : Nat} (hj : j < c.length) (h : okLit ar (c.getD j lt0) = false) : okLits ar c = false := by
  rw [Bool.eq_false_iff]; intro k
  have := (okLits_iff.1 k).2 (c.getD j lt0) (by simp [List.getD, hj])
  rw [h] at this; simp at this
/-- The first k literals are valid. -/
def okTo (ar : List Int) (c : List Lt) (k : Nat) : Prop := ∀ j, j < k → okLit ar (c.getD j lt0) = true
theorem okTo.step {ar : List Int} {c : List Lt} {k : Nat} (h : okTo ar c k) (hk : okLit ar (c.getD k lt0) = true) : okTo ar c (k+1) := fun j hj => by
  by_cases e : j = k
  · subst e; exact hk
  · exact h j (by omega)
theorem okTo.done {ar : List Int} {c : List Lt} (h : okTo ar c c.length) : okLits ar c = decide (c.length ≤ 8) := by
  unfold okLits
  have : c.all (okLit ar) = true := by
    rw [List.all_eq_true]
    intro x hx
    obtain ⟨j, hj, rfl⟩ := List.getElem_of_mem hx
    have := h j hj
    simpa [List.getD, hj] using this
  rw [this, Bool.and_true]

/-- The same two terms, perhaps exchanged. -/
def sameTs (x y : Lt) : Bool := (decide (x.2.1 = y.2.1) && decide (x.2.2 = y.2.2)) || (decide (x.2.1 = y.2.2) && decide (x.2.2 = y.2.1))
def eqvL (x y : Lt) : Bool := (x.1 == y.1) && sameTs x y
def tidyStep (out : List Lt) (x : Lt) : List Lt := if !x.1 && decide (x.2.1 = x.2.2) then out else if out.any (eqvL x) then out else out ++ [x]
def tidyC (c : List Lt) : List Lt := c.foldl tidyStep []
theorem tidyC_snoc (c : List Lt) (k : Nat) (h : k < c.length) : tidyC (c.take (k+1)) = tidyStep (tidyC (c.take k)) (c.getD k lt0) := by
  unfold tidyC
  rw [List.take_succ_eq_append_getElem h, List.foldl_append]
  simp [List.getD, h]
def tidyAns (ar : List Int) (c : List Lt) : List Lt := if goodClause ar c then tidyC c else []

/-- A tautology's place: the literal k alone, or with an earlier one. -/
def tautAt (c : List Lt) (k : Nat) : Bool := ((c.getD k lt0).1 && decide ((c.getD k lt0).2.1 = (c.getD k lt0).2.2)) || (c.take k).any fun y => ((c.getD k lt0).1 != y.1) && sameTs (c.getD k lt0) y
def tautC (c : List Lt) : Bool := (List.range c.length).any (tautAt c)
def tautAns (ar : List Int) (c : List Lt) : Bool := goodClause ar c && tautC c

def weightAns (ar : List Int) (c : List Lt) : Int := if goodClause ar c then (sumL (flatC c) : Int) else 0

def listL (x : Lt) : List (List Int) := if x.1 then [x.2.1, x.2.2] else [x.2.1, x.2.2, x.2.1, x.2.2]
def litsOk (ar : List Int) (x y : Lt) : Bool := goodSign ar && (okLit ar x && okLit ar y)
def litsAns (ar : List Int) (x y : Lt) : Int := if litsOk ar x y then cmpL (listL x) (listL y) else 0
def maxAt (c : List Lt) (k : Nat) : Bool := (List.range c.length).all fun i => decide (i = k) || !decide (cmpL (listL (c.getD i lt0)) (listL (c.getD k lt0)) = 1)
def maxC (c : List Lt) : List Nat := (List.range c.length).filter (maxAt c)

/-- The signs of one, the terms of another list. -/
def zipC : List Lt → List (List Int) → List Lt
  | x :: c, l :: r :: ts => (x.1, l, r) :: zipC c ts
  | _, _ => []
end Go.Proofs.Ytnldienjkejfcaa
end
section
/- Chapter 4, the reference: literals and clauses that are valid, weights. -/
namespace Go.Proofs.Ytnldienjkejfcaa
open Go.RowKit

set_option maxRecDepth 100000 in
set_option maxHeartbeats 400000 in
theorem l4Lit_c (l h l' h' : Nat) (v u1 u2 : Value) (ar xl xr : List Int) (p : Bool) (w : World) (hg : goodSign ar = true) (hl : xl.length ≤ 1048576) (hr : xr.length ≤ 1048576) (hv : SlI l h w v ar) (h1 : SlI l' h' w u1 xl) (h2 : SlI l' h' w u2 xr) :
    Calls Try.prog 60 #[.agg #[v], .agg #[.bool p, u1, u2]] w (RetV w (.bool (okTerm ar xl && okTerm ar xr))) := by
  have HB : Bel w ((w.alloc (.cells #[v] 30)).alloc (.cells #[.bool p, u1, u2] 59)) := Bel.alloc2 _ _ _
  cases e1 : okTerm ar xl with
  | false =>
    have HC := Lib.hid (fun (w' : World) (hb : Bel w w') => l1Term_v l h l' h' v u1 ar xl false w' e1 hg hl (hv.below hb) (h1.below hb))
    clear hv h1 h2 e1
    go_enter Try.func60, Try.ntmps60
    go_wp2_with fail
    refine (HC.out _ HB).mono ?_; rintro e w1 ⟨rfl, hb1⟩
    go_wp2_with fail
    go_ret
    exact ⟨rfl, HB.step hb1⟩
  | true =>
    rw [Bool.true_and]
    have HC := Lib.hid (fun (w' : World) (hb : Bel w w') => l1Term_v l h l' h' v u1 ar xl true w' e1 hg hl (hv.below hb) (h1.below hb))
    have HD := Lib.hid (fun (w' : World) (hb : Bel w w') => l1Term_c l h l' h' v u2 ar xr w' hg hr (hv.below hb) (h2.below hb))
    clear hv h1 h2 e1
    go_enter Try.func60, Try.ntmps60
    go_wp2_with fail
    refine (HC.out _ HB).mono ?_; rintro e w1 ⟨rfl, hb1⟩
    have k0 := hb1.at (b := w.heap.size) (off := 0) (by simp; omega) (show World.cell? _ _ = some v by simp [go_sem])
    have k2 := hb1.at (b := w.heap.size + 1) (off := 2) (by simp) (show World.cell? _ _ = some u2 by simp [go_sem])
    go_wp2_with fail
    refine (HD.out _ (HB.step hb1)).mono ?_; rintro e w2 ⟨rfl, hb2⟩
    go_wp2_with fail
    go_ret
    exact ⟨rfl, (HB.step hb1).step hb2⟩
end Go.Proofs.Ytnldienjkejfcaa
end
section
/- VarsOf: both functions. -/
namespace Go.Proofs.Ytnldienjkejfcaa
open Go.RowKit

/-- Twelve bools. -/
def arr (f : Nat → Bool) : Array Value := #[.bool (f 0), .bool (f 1), .bool (f 2), .bool (f 3), .bool (f 4), .bool (f 5), .bool (f 6), .bool (f 7), .bool (f 8), .bool (f 9), .bool (f 10), .bool (f 11)]
def anyB (f : Nat → Bool) : Bool := f 0 || f 1 || f 2 || f 3 || f 4 || f 5 || f 6 || f 7 || f 8 || f 9 || f 10 || f 11
theorem arr_set (f : Nat → Bool) (j : Nat) (b : Bool) (h : j < 12) : (arr f).setIfInBounds j (.bool b) = arr (fun i => if i = j then b else f i) := by
  match j, h with
  | 0, _ => rfl
  | 1, _ => rfl
  | 2, _ => rfl
  | 3, _ => rfl
  | 4, _ => rfl
  | 5, _ => rfl
  | 6, _ => rfl
  | 7, _ => rfl
  | 8, _ => rfl
  | 9, _ => rfl
  | 10, _ => rfl
  | 11, _ => rfl
theorem arr_get (f : Nat → Bool) (j : Nat) (h : j < 12) : (arr f)[j]? = some (.bool (f j)) := by
  match j, h with
  | 0, _ => rfl
  | 1, _ => rfl
  | 2, _ => rfl
  | 3, _ => rfl
  | 4, _ => rfl
  | 5, _ => rfl
  | 6, _ => rfl
  | 7, _ => rfl
  | 8, _ => rfl
  | 9, _ => rfl
  | 10, _ => rfl
  | 11, _ => rfl

theorem eq12 (w : World) (b0 b1 b2 b3 b4 b5 b6 b7 b8 b9 b10 b11 : Bool) :
    (Op.equalIn 10000 102 (.agg #[.bool b0, .bool b1, .bool b2, .bool b3, .bool b4, .bool b5, .bool b6, .bool b7, .bool b8, .bool b9, .bool b10, .bool b11]) (.agg #[.bool false, .bool false, .bool false, .bool false, .bool false, .bool false, .bool false, .bool false, .bool false, .bool false, .bool false, .bool false])).run Try.prog w = .ok (!(b0 || b1 || b2 || b3 || b4 || b5 || b6 || b7 || b8 || b9 || b10 || b11)) w := by
  cases b0
  · cases b1
    · cases b2
      · cases b3
        · cases b4
          · cases b5
            · cases b6
              · cases b7
                · cases b8
                  · cases b9
                    · cases b10
                      · cases b11 <;> kernel_rfl
                      · kernel_rfl
                    · kernel_rfl
                  · kernel_rfl
                · kernel_rfl
              · kernel_rfl
            · kernel_rfl
          · kernel_rfl
        · kernel_rfl
      · kernel_rfl
    · kernel_rfl
  · kernel_rfl

def BlkIs (w : World) (B : Nat) (T : TypeId) (f : Nat → Bool) : Prop := w.heap[B]? = some (.cells (arr f) T (0, 0))
theorem BlkIs.cell {w : World} {B : Nat} {T : TypeId} {f : Nat → Bool} (h : BlkIs w B T f) (j : Nat) (hj : j < 12) : w.cell? ⟨B, j, none⟩ = some (.bool (f j)) := by
  unfold BlkIs at h
  simp [World.cell?, h, arr_get f j hj]
theorem BlkIs.free {w : World} {B : Nat} {T : TypeId} {f : Nat → Bool} (h : BlkIs w B T f) (j : Nat) : w.frozen? ⟨B, j, none⟩ = false := by
  unfold BlkIs at h
  simp [World.frozen?, h]
theorem BlkIs.lt {w : World} {B : Nat} {T : TypeId} {f : Nat → Bool} (h : BlkIs w B T f) : B < w.heap.size := (Array.getElem?_eq_some_iff.1 h).1
theorem BlkIs.bel {w w' : World} {B : Nat} {T : TypeId} {f : Nat → Bool} (h : BlkIs w B T f) (hb : Bel w w') : BlkIs w' B T f := (hb.block B h.lt).trans h
theorem BlkIs.set {w : World} {B : Nat} {T : TypeId} {f : Nat → Bool} (h : BlkIs w B T f) (j : Nat) (hj : j < 12) (b : Bool) : BlkIs (w.setCell ⟨B, j, none⟩ (.bool b)) B T (fun i => if i = j then b else f i) := by
  have hlt := h.lt
  have h' : w.heap[B] = .cells (arr f) T (0, 0) := by unfold BlkIs at h; simpa [Array.getElem?_eq_getElem hlt] using h
  show (w.heap.modify B _)[B]? = _
  rw [Array.getElem?_eq_getElem (by simpa using hlt), Array.getElem_modify_self, h']
  simp [arr_set f j b hj]
theorem BlkIs.other {w : World} {B : Nat} {T : TypeId} {f : Nat → Bool} (h : BlkIs w B T f) {p : Addr} (hp : p.block ≠ B) (v : Value) : BlkIs (w.setCell p v) B T f :=
  (Below.heap_setCell w p v B (by omega)).trans h

/-- .. while a row of the call's own, behind it, has grown. -/
theorem blk_grown {w w' : World} {o : Obj} {B : Nat} {T e : TypeId} {f : Nat → Bool} {v : Value} {n sz : Nat} {xs : List Value} (h : BlkIs w B T f) (hown : w.ownsRow (B + 1) e sz v n xs) (hg : (w.alloc o).grownBy w' v.ownBlock) : BlkIs w' B T f := by
  have hlt := h.lt
  refine (hg.block B (by simp; omega) (fun e => ?_)).trans ((Below.heap_alloc w o B hlt).trans h)
  have := own_base hown B e.symm
  omega
def mk (t : List Int) (j : Nat) : Bool := decide ((-1 - (j : Int)) ∈ t)
theorem mk_step (t : List Int) (k m : Nat) (hk : k < t.length) (hx : t.getD k 0 = -1 - (m : Int)) : (fun i => if i = m then true else mk (t.take k) i) = mk (t.take (k+1)) := by
  funext i
  unfold mk
  rw [List.take_succ_eq_append_getElem hk]
  have e : t[k] = -1 - (m : Int) := by simpa [List.getD, hk] using hx
  rw [e]
  by_cases h : i = m
  · subst h; simp
  · rw [if_neg h]
    have : (-1 - (i : Int)) ≠ -1 - (m : Int) := by omega
    simp [this]
theorem mk_skip (t : List Int) (k : Nat) (hk : k < t.length) (hx : 0 ≤ t.getD k 0) : mk (t.take k) = mk (t.take (k+1)) := by
  funext i
  unfold mk
  rw [List.take_succ_eq_append_getElem hk]
  have e : 0 ≤ t[k] := by simpa [List.getD, hk] using hx
  have h1 : (-1 - (i : Int)) ≠ t[k] := by omega
  have h2 : (-1 - (i : Int) ∈ t.take k) ↔ (-1 - (i : Int) ∈ t.take k ++ [t[k]]) := by
    rw [List.mem_append, List.mem_singleton]
    exact ⟨Or.inl, fun h => h.resolve_right h1⟩
  exact decide_eq_decide.2 h2

theorem results_cell_one {fn : Func} {p : Tmp} {ty : TypeId} (h : fn.results = #[.cell p ty]) (tmps : Array Value) (P : Program) (w : World) :
    (results fn tmps).run P w = ((asAddr (tmps.getD p undef)).run P w).andThen fun a w₁ => (loadVar ty a).run P w₁ := by
  simp only [results, h]
  simp [Sem.run_bind, Result.andThen]
theorem arr_all (f : Nat → Bool) : (arr f).all (·.oneCell') = true := by simp [arr, Value.oneCell']
theorem Try.info102 : (Try.prog.info? 102).map (·.size) = some 12 := by kernel_rfl
theorem zero12 : (#[.bool false, .bool false, .bool false, .bool false, .bool false, .bool false, .bool false, .bool false, .bool false, .bool false, .bool false, .bool false] : Array Value) = arr (fun _ => false) := rfl

set_option maxRecDepth 100000 in
set_option maxHeartbeats 400000 in
theorem marksOf_c (l h : Nat) (v : Value) (t : List Int) (w : World) (ht : t.length ≤ 1048576) (hlow : ∀ k, k < t.length → -12 ≤ t.getD k 0) (hv : SlI l h w v t) :
    Calls Try.prog 82 #[v] w (RetV w (.agg (arr (mk t)))) := by
  obtain ⟨ad, cap, rfl, -, -, hr⟩ := hv
  go_enter Try.func82, Try.ntmps82
  go_wp2_with fail
  go_loopw [8] (fun i wr => ∃ k : Nat, k ≤ t.length ∧ i = .int .i64 k ∧ BlkIs wr (w.heap.size + 1) 102 (mk (t.take k)) ∧ BlkIs wr w.heap.size 102 (fun _ => false) ∧ Bel w wr) (fun i _ => t.length - (intOf i).toNat)
  case atStart =>
    refine ⟨0, Nat.zero_le _, rfl, ?_, ?_, Bel.alloc2 _ _ _⟩
    · have e : mk (t.take 0) = fun _ => false := by funext i; simp [mk]
      rw [e]; unfold BlkIs; rw [← zero12]
      have := heap_alloc_new (w.alloc (.cells (arr fun _ => false) 102)) (.cells (arr fun _ => false) 102)
      simpa [zero12] using this
    · unfold BlkIs; rw [← zero12]
      rw [Below.heap_alloc _ _ _ (by simp)]
      exact heap_alloc_new w _
  case round =>
    obtain ⟨k, hk, rfl, hB1, hB0, hb⟩ := hrel
    by_cases hlt : k < t.length
    · obtain ⟨b, off, rfl, -, hcell⟩ := rd hr hb k hlt
      have hx12 := hlow k hlt
      have E1 := Lib.hid (fun m => mk_step t k m hlt)
      have E2 := Lib.hid (mk_skip t k hlt)
      clear hr hlow
      generalize t.getD k 0 = x at *
      by_cases hx : x < 0
      · have hm : (-1 - x).toNat < 12 := by omega
        have hc := hB1.cell _ hm
        have hf := hB1.free (-1 - x).toNat
        have hi0 : 0 ≤ -1 - x := by omega
        have hi1 : -1 - x < 12 := by omega
        have HS := Lib.hid (hB1.set _ hm true)
        have H0 := Lib.hid (hB0.other (p := ⟨w.heap.size + 1, (-1 - x).toNat, none⟩) (by simp) (.bool true))
        have hbs := hb.set (p := ⟨w.heap.size + 1, (-1 - x).toNat, none⟩) (by simp) (.bool true)
        have hbb := Lib.hid hbs
        clear hB1 hB0 hbs
        go_wp2_with fail
        go_roundw
        case rel => exact ⟨k+1, by omega, by go_num, by rw [← E1.out (-1 - x).toNat (by omega)]; exact HS.out, H0.out, hbb.out⟩
        case measure => simp [intOf]; omega
      · go_wp2_with fail
        go_roundw
        case rel => exact ⟨k+1, by omega, by go_num, by rw [← E2.out (by omega)]; exact hB1, hB0, hb⟩
        case measure => simp [intOf]; omega
    · rw [show t.take k = t from List.take_of_length_le (by omega)] at hB1
      go_wp2_with (first | (refine wpList_load_row rfl 102 (.tmp 3) rfl (w.heap.size + 1) rfl _ _ _ _ hB1 Try.underlying102 rfl Try.info102 ?_) | (refine wpList_store_row rfl 102 (.tmp 2) (.tmp 18) rfl w.heap.size (arr (mk t)) rfl rfl _ _ hB0 Try.info102 rfl (arr_all _) ?_))
      have hrun := run_loadVar_row (P := Try.prog) (wr.setRow w.heap.size (arr (mk t))) w.heap.size 102 102 (arr (mk t)) (0, 0) _ (setRow_heap wr w.heap.size _ (arr (mk t)) 102 (0, 0) hB0) Try.underlying102 rfl Try.info102
      refine bodyPost_ret (v := .agg (arr (mk t))) ?_ rfl ⟨rfl, below_setRow hb (Nat.le_refl _) _⟩
      rw [results_cell_one Try.results82]
      exact hrun
/-- From v on what is left of f. -/
def leftF (f : Nat → Bool) (v j : Nat) : Bool := f j && decide (v ≤ j)
def varsTo (f : Nat → Bool) (v : Nat) : List Nat := (List.range v).filter f
theorem varsTo_succ (f : Nat → Bool) (v : Nat) : varsTo f (v + 1) = if f v then varsTo f v ++ [v] else varsTo f v := by
  unfold varsTo
  rw [List.range_succ, List.filter_append]
  by_cases h : f v <;> simp [h]
theorem left_zero (f : Nat → Bool) : leftF f 0 = f := by funext j; simp [leftF]
theorem left_clear (f : Nat → Bool) (v : Nat) : (fun i => if i = v then false else leftF f v i) = leftF f (v + 1) := by
  funext i
  unfold leftF
  by_cases h : i = v
  · subst h; simp
  · rw [if_neg h]
    congr 1
    rw [decide_eq_decide]; omega
theorem left_skip (f : Nat → Bool) (v : Nat) (h : f v = false) : leftF f v = leftF f (v + 1) := by
  rw [← left_clear]
  funext i
  by_cases e : i = v
  · subst e; simp [leftF, h]
  · rw [if_neg e]
theorem anyB_iff (f : Nat → Bool) : anyB f = true ↔ ∃ j, j < 12 ∧ f j = true := by
  constructor
  · intro h
    simp only [anyB, Bool.or_eq_true] at h
    rcases h with ((((((((((( h | h) | h) | h) | h) | h) | h) | h) | h) | h) | h) | h)
    · exact ⟨0, by omega, h⟩
    · exact ⟨1, by omega, h⟩
    · exact ⟨2, by omega, h⟩
    · exact ⟨3, by omega, h⟩
    · exact ⟨4, by omega, h⟩
    · exact ⟨5, by omega, h⟩
    · exact ⟨6, by omega, h⟩
    · exact ⟨7, by omega, h⟩
    · exact ⟨8, by omega, h⟩
    · exact ⟨9, by omega, h⟩
    · exact ⟨10, by omega, h⟩
    · exact ⟨11, by omega, h⟩
  · rintro ⟨j, hj, h⟩
    match j, hj with
    | 0, _ => simp [anyB, h]
    | 1, _ => simp [anyB, h]
    | 2, _ => simp [anyB, h]
    | 3, _ => simp [anyB, h]
    | 4, _ => simp [anyB, h]
    | 5, _ => simp [anyB, h]
    | 6, _ => simp [anyB, h]
    | 7, _ => simp [anyB, h]
    | 8, _ => simp [anyB, h]
    | 9, _ => simp [anyB, h]
    | 10, _ => simp [anyB, h]
    | 11, _ => simp [anyB, h]
theorem left_some {f : Nat → Bool} {v : Nat} (h : anyB (leftF f v) = true) : v < 12 := by
  obtain ⟨j, hj, h1⟩ := (anyB_iff _).1 h
  simp [leftF] at h1
  omega
theorem left_none {f : Nat → Bool} {v : Nat} (h : anyB (leftF f v) = false) (hv : v ≤ 12) : varsTo f v = varsTo f 12 := by
  have hz : ∀ j, v ≤ j → j < 12 → f j = false := by
    intro j h1 h2
    cases hf : f j with
    | false => rfl
    | true =>
      have : anyB (leftF f v) = true := (anyB_iff _).2 ⟨j, h2, by simp [leftF, hf, h1]⟩
      rw [h] at this; simp at this
  have : ∀ n, v + n ≤ 12 → varsTo f (v + n) = varsTo f v := by
    intro n
    induction n with
    | zero => intro _; rfl
    | succ n ih =>
      intro hn
      rw [show v + (n + 1) = (v + n) + 1 from rfl, varsTo_succ, hz (v + n) (by omega) (by omega), if_neg (by simp), ih (by omega)]
  have h2 := this (12 - v) (by omega)
  rw [show v + (12 - v) = 12 from by omega] at h2
  exact h2.symm
theorem varsTo_len (f : Nat → Bool) (v : Nat) : (varsTo f v).length ≤ v := by
  have := List.length_filter_le f (List.range v)
  simpa [varsTo] using this

def varsAns (ar t : List Int) : List Int := if goodTerm ar t then natsI (varsTo (mk t) 12) else []
theorem varsAns_len (ar t : List Int) : (varsAns ar t).length ≤ 1048576 := by
  unfold varsAns
  split
  · rw [natsI_len]; exact Nat.le_trans (varsTo_len _ _) (by omega)
  · exact Nat.zero_le _
theorem vars_no {ar t : List Int} (h : goodTerm ar t = false) : varsAns ar t = [] := by simp [varsAns, h]
theorem vars_yes {ar t : List Int} (h : goodTerm ar t = true) : varsAns ar t = natsI (varsTo (mk t) 12) := by simp [varsAns, h]
theorem low_of_good {ar t : List Int} (h : goodTerm ar t = true) : ∀ k, k < t.length → -12 ≤ t.getD k 0 := by
  intro k hk
  have := good_sym ar t (goodTerm_iff.1 h).2 k hk
  simp [okSym, inB] at this
  simp only [List.getD]
  omega

set_option maxRecDepth 100000 in
set_option maxHeartbeats 1000000 in
theorem mvars_c (f : Nat → Bool) (w : World) : Calls Try.prog 84 #[.agg (arr f)] w (RetI w (natsI (varsTo f 12))) := by
  obtain ⟨i0, hi0, hz0, hz1, hz2⟩ := info_parts Try.info3
  have hneq := fun (W : World) (f : Nat → Bool) => eq12 W (f 0) (f 1) (f 2) (f 3) (f 4) (f 5) (f 6) (f 7) (f 8) (f 9) (f 10) (f 11)
  have HNEQ : Hid (∀ (W : World) (f : Nat → Bool), (Op.equalIn 10000 102 (.agg (arr f)) (.agg #[.bool false, .bool false, .bool false, .bool false, .bool false, .bool false, .bool false, .bool false, .bool false, .bool false, .bool false, .bool false])).run Try.prog W = .ok (!anyB f) W) := hneq
  clear hneq
  have HBB : Hid ((w.alloc (.cells (arr f) 102)).heap[w.heap.size]? = some (.cells (arr f) 102 (0, 0))) := heap_alloc_new w _
  go_enter Try.func84, Try.ntmps84
  go_wp2_with fail
  go_loopw [3, 4] (fun o x wr => ∃ vv : Nat, vv ≤ 12 ∧ x = .int .i64 vv ∧ BlkIs wr w.heap.size 102 (leftF f vv) ∧
      wr.ownsRow (w.heap.size + 1) 3 1 o (natsI (varsTo f vv)).length ((natsI (varsTo f vv)).map (Value.int .i64)) ∧ Bel w wr ∧ w.heap.size + 1 ≤ wr.heap.size) (fun _ x _ => 12 - (intOf x).toNat)
  case atStart => exact ⟨0, Nat.zero_le _, rfl, by rw [left_zero]; exact HBB.out, World.ownsRow_nil _ _ _ _, Bel.alloc0 w _, by simp⟩
  case round =>
    obtain ⟨vv, hvv, rfl, hB, hown, hbr, hsz⟩ := hrel
    have hq := HNEQ.out wr (leftF f vv)
    have hvl := varsTo_len f vv
    have ES := Lib.hid (varsTo_succ f vv)
    have hnl : (natsI (varsTo f vv)).length ≤ 12 := by rw [natsI_len]; omega
    cases hany : anyB (leftF f vv) with
    | false =>
      rw [hany] at hq
      have EN := Lib.hid (left_none hany hvv)
      clear hany
      obtain ⟨g, m2, c2, hv'⟩ := own_form hown
      subst hv'
      go_wp2_with (refine wpList_load_row rfl 102 (.tmp 1) rfl w.heap.size rfl _ _ _ _ hB Try.underlying102 rfl Try.info102 ?_)
      go_ret
      exact ⟨_, _, _, rfl, by rw [← EN.out]; exact (OwnI.of_row hown).mono (by omega) (Nat.le_refl _), hbr⟩
    | true =>
      rw [hany] at hq
      have hv12 := left_some hany
      have hcell := hB.cell vv hv12
      have hfree := hB.free vv
      have hvi : (vv : Int) < 12 := by omega
      cases hf : f vv with
      | false =>
        have hl : leftF f vv vv = false := by simp [leftF, hf]
        rw [hl] at hcell
        have EL := Lib.hid (left_skip f vv hf)
        have EV : Hid (varsTo f (vv + 1) = varsTo f vv) := by show _ = _; rw [ES.out, hf]; rfl
        have HB := Lib.hid hB
        clear hany hf hl
        go_wp2_with (refine wpList_load_row rfl 102 (.tmp 1) rfl w.heap.size rfl _ _ _ _ HB.out Try.underlying102 rfl Try.info102 ?_)
        go_roundw
        case rel => exact ⟨vv + 1, by omega, by go_num, by rw [← EL.out]; exact HB.out, by rw [EV.out]; exact hown, hbr, hsz⟩
        case measure => simp [intOf]; omega
      | true =>
        have hl : leftF f vv vv = true := by simp [leftF, hf]
        rw [hl] at hcell
        have EV : Hid (natsI (varsTo f (vv + 1)) = natsI (varsTo f vv) ++ [(vv : Int)]) := by show _ = _; rw [ES.out, hf, if_pos rfl, natsI_snoc]
        have HB := Lib.hid hB
        clear hany hf hl
        go_wp2_with (first | (at_builtin; refine wpList_append_own _ rfl _ _ 22 rfl (w.heap.size + 1) 3 i0 (.int .i64 0) 1 8 Try.underlying22 hi0 hz0 hz1 hz2 rfl (by decide) _ _ _ rfl (hown.alloc _) ⟨wr.heap.size, 0, none⟩ 1 1 [.int .i64 vv] rfl rfl (news_one _ _ _) (one_int _) (by unfold maxLen; omega) (by omega) (by simp; omega) ?_; intro v' w3 hown' hgrow _; have hB3 := blk_grown HB.out hown hgrow; have hcell3 := hB3.cell vv hv12; have hfree3 := hB3.free vv) | (refine wpList_load_row rfl 102 (.tmp 1) rfl w.heap.size rfl _ _ _ _ HB.out Try.underlying102 rfl Try.info102 ?_))
        have hB4 := hB3.set vv hv12 false
        rw [left_clear] at hB4
        have hown4 := ownsRow_setCell_below (row_snoc hown') (a := ⟨w.heap.size, vv, none⟩) (by simp) (.bool false)
        rw [← EV.out] at hown4
        have hbr4 := ((hbr.alloc (.cells #[.int .i64 (vv : Int)] 3)).grown hgrow (fun k hk => by have := own_base hown k hk; omega)).set (p := ⟨w.heap.size, vv, none⟩) (Nat.le_refl _) (.bool false)
        have hsz4 : w.heap.size + 1 ≤ (w3.setCell ⟨w.heap.size, vv, none⟩ (.bool false)).heap.size := by have := hgrow.size; simp at this ⊢; omega
        go_roundw
        case rel => exact ⟨vv + 1, by omega, by go_num, hB4, hown4, hbr4, hsz4⟩
        case measure => simp [intOf]; omega

end Go.Proofs.Ytnldienjkejfcaa
end
