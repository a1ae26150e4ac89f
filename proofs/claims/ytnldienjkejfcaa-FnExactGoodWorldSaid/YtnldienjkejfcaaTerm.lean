/- Terms as lists, plainly: where a subterm ends, its arguments, valid terms. No program. -/
import Derived.Test.YtnldienjkejfcaaBase
namespace Go.Proofs.Ytnldienjkejfcaa

def goodSign (ar : List Int) : Bool := inB ar.length 1 10 && ar.all (inB · 0 3) && (ar.getD 0 0 == 0)

/-- The arity of an entry. -/
def arOf (ar : List Int) (x : Int) : Nat := if x < 0 then 0 else (ar.getD x.toNat 0).toNat
def okSym (ar : List Int) (x : Int) : Bool := inB x (-12) ((ar.length : Int) - 1)

def endGo (ar : List Int) : List Int → Nat → Nat → Option Nat
  | _, 0, p => some p
  | [], _ + 1, _ => none
  | x :: r, n + 1, p => if okSym ar x then endGo ar r (n + arOf ar x) (p + 1) else none

theorem endGo_zero (ar r : List Int) (p : Nat) : endGo ar r 0 p = some p := by cases r <;> rfl
theorem endGo_nil (ar : List Int) (n p : Nat) : endGo ar [] (n + 1) p = none := rfl
theorem endGo_cons (ar : List Int) (x : Int) (r : List Int) (n p : Nat) : endGo ar (x :: r) (n + 1) p = if okSym ar x then endGo ar r (n + arOf ar x) (p + 1) else none := rfl

theorem endGo_ge (ar : List Int) : ∀ (r : List Int) (n p e : Nat), endGo ar r n p = some e → p ≤ e ∧ e ≤ p + r.length := by
  intro r
  induction r with
  | nil =>
    intro n p e h
    cases n with
    | zero => rw [endGo_zero] at h; simp at h; omega
    | succ n => simp [endGo_nil] at h
  | cons x r ih =>
    intro n p e h
    cases n with
    | zero => rw [endGo_zero] at h; simp at h; subst h; simp
    | succ n =>
      rw [endGo_cons] at h
      split at h
      · have := ih _ _ _ h; simp; omega
      · simp at h

theorem endGo_gt (ar r : List Int) (n p e : Nat) (h : endGo ar r (n + 1) p = some e) : p < e := by
  cases r with
  | nil => simp [endGo_nil] at h
  | cons x r =>
    rw [endGo_cons] at h
    split at h
    · have := endGo_ge _ _ _ _ _ h; omega
    · simp at h

theorem endGo_add (ar : List Int) : ∀ (r : List Int) (a b p : Nat), endGo ar r (a + b) p = (endGo ar r a p).bind fun e => endGo ar (r.drop (e - p)) b e := by
  intro r
  induction r with
  | nil =>
    intro a b p
    cases a with
    | zero => simp [endGo_zero]
    | succ a => rw [show a + 1 + b = (a + b) + 1 from by omega, endGo_nil, endGo_nil]; rfl
  | cons x r ih =>
    intro a b p
    cases a with
    | zero => simp [endGo_zero]
    | succ a =>
      rw [show a + 1 + b = (a + b) + 1 from by omega, endGo_cons, endGo_cons]
      split
      · rw [show a + b + arOf ar x = (a + arOf ar x) + b from by omega, ih]
        cases h : endGo ar r (a + arOf ar x) (p + 1) with
        | none => rfl
        | some e =>
          have := endGo_ge _ _ _ _ _ h
          simp only [Option.bind_some]
          rw [show e - p = (e - (p + 1)) + 1 from by omega, List.drop_succ_cons]
      · rfl

/-- The index behind the subterm at an index. -/
def endOf (ar t : List Int) (i : Nat) : Option Nat := endGo ar (t.drop i) 1 i
def okTerm (ar t : List Int) : Bool := inB t.length 1 40 && (endOf ar t 0 == some t.length)
def goodTerm (ar t : List Int) : Bool := goodSign ar && okTerm ar t

theorem okTerm_iff (ar t : List Int) : okTerm ar t = true ↔ 1 ≤ t.length ∧ t.length ≤ 40 ∧ endOf ar t 0 = some t.length := by
  unfold okTerm inB
  simp only [Bool.and_eq_true, decide_eq_true_eq, beq_iff_eq]
  constructor
  · rintro ⟨⟨h1, h2⟩, h3⟩; exact ⟨by omega, by omega, h3⟩
  · rintro ⟨h1, h2, h3⟩; exact ⟨⟨by omega, by omega⟩, h3⟩

theorem drop_cons (t : List Int) (i : Nat) (h : i < t.length) : t.drop i = t.getD i 0 :: t.drop (i + 1) := by
  rw [List.drop_eq_getElem_cons h]; simp [List.getD, h]

/-- In a valid term each place has what is still to come. -/
theorem good_need (ar t : List Int) (h : okTerm ar t = true) : ∀ i, i ≤ t.length → ∃ m, endGo ar (t.drop i) m i = some t.length ∧ (i < t.length → 0 < m) := by
  obtain ⟨h1, h2, h3⟩ := (okTerm_iff ar t).1 h
  intro i
  induction i with
  | zero => intro _; exact ⟨1, h3, fun _ => by omega⟩
  | succ i ih =>
    intro hi
    obtain ⟨m, hm, hp⟩ := ih (by omega)
    rw [drop_cons t i (by omega)] at hm
    obtain ⟨m, rfl⟩ : ∃ m', m = m' + 1 := ⟨m - 1, by have := hp (by omega); omega⟩
    rw [endGo_cons] at hm
    split at hm
    · refine ⟨_, hm, fun hl => ?_⟩
      rcases Nat.eq_zero_or_pos (m + arOf ar (t.getD i 0)) with h0 | h0
      · rw [h0, endGo_zero] at hm; simp at hm; omega
      · exact h0
    · simp at hm

theorem good_end (ar t : List Int) (h : okTerm ar t = true) (i : Nat) (hi : i < t.length) : ∃ e, endOf ar t i = some e ∧ i < e ∧ e ≤ t.length := by
  obtain ⟨m, hm, hp⟩ := good_need ar t h i (by omega)
  obtain ⟨m, rfl⟩ : ∃ m', m = 1 + m' := ⟨m - 1, by have := hp hi; omega⟩
  rw [endGo_add] at hm
  cases h1 : endGo ar (t.drop i) 1 i with
  | none => rw [h1] at hm; simp at hm
  | some e =>
    refine ⟨e, h1, endGo_gt _ _ _ _ _ h1, ?_⟩
    have := endGo_ge _ _ _ _ _ h1
    simp at this
    omega

theorem good_sym (ar t : List Int) (h : okTerm ar t = true) (i : Nat) (hi : i < t.length) : okSym ar (t.getD i 0) = true := by
  obtain ⟨e, he, _, _⟩ := good_end ar t h i hi
  unfold endOf at he
  rw [drop_cons t i hi, endGo_cons] at he
  by_cases h1 : okSym ar (t.getD i 0) = true
  · exact h1
  · rw [if_neg h1] at he; simp at he

/-- The ends of k terms, one behind the other. -/
theorem good_args (ar t : List Int) (h : okTerm ar t = true) (i : Nat) (hi : i < t.length) : ∃ e, endGo ar (t.drop (i + 1)) (arOf ar (t.getD i 0)) (i + 1) = some e ∧ e ≤ t.length := by
  obtain ⟨e, he, _, h2⟩ := good_end ar t h i hi
  have hs := good_sym ar t h i hi
  unfold endOf at he
  rw [drop_cons t i hi, endGo_cons, if_pos hs, Nat.zero_add] at he
  exact ⟨e, he, h2⟩

/-- From a place on where k + 1 terms stand: the first one's end, and the others behind it. -/
theorem ends_step (ar t : List Int) (p k e : Nat) (h : endGo ar (t.drop p) (k + 1) p = some e) : ∃ q, endOf ar t p = some q ∧ endGo ar (t.drop q) k q = some e ∧ p < q ∧ q ≤ e := by
  rw [show k + 1 = 1 + k from by omega, endGo_add] at h
  cases h1 : endGo ar (t.drop p) 1 p with
  | none => rw [h1] at h; simp at h
  | some q =>
    rw [h1] at h
    have hg := endGo_gt _ _ _ _ _ h1
    simp only [Option.bind_some, List.drop_drop, show p + (q - p) = q from by omega] at h
    exact ⟨q, h1, h, hg, (endGo_ge _ _ _ _ _ h).1⟩

/-- The places of k arguments from p on. -/
def argsGo (ar t : List Int) : Nat → Nat → List Nat
  | 0, _ => []
  | k + 1, p => p :: argsGo ar t k ((endOf ar t p).getD 0)
def argsOf (ar t : List Int) (i : Nat) : List Nat := argsGo ar t (arOf ar (t.getD i 0)) (i + 1)

theorem argsGo_len (ar t : List Int) : ∀ k p, (argsGo ar t k p).length = k := by
  intro k; induction k with
  | zero => intro p; rfl
  | succ k ih => intro p; simp [argsGo, ih]

theorem arOf_le (ar : List Int) (h : goodSign ar = true) (x : Int) : arOf ar x ≤ 3 := by
  unfold arOf
  split
  · omega
  · simp [goodSign, inB] at h
    by_cases hx : x.toNat < ar.length
    · have := h.1.2 (ar.getD x.toNat 0) (by simp [List.getD, hx])
      omega
    · simp [List.getD, hx]
theorem ar_nonneg (ar : List Int) (h : goodSign ar = true) (i : Nat) : 0 ≤ ar.getD i 0 ∧ ar.getD i 0 ≤ 3 := by
  simp [goodSign, inB] at h
  by_cases hx : i < ar.length
  · exact h.1.2 (ar.getD i 0) (by simp [List.getD, hx])
  · simp [List.getD, hx]
theorem sign_len (ar : List Int) (h : goodSign ar = true) : 1 ≤ ar.length ∧ ar.length ≤ 10 := by simp [goodSign, inB] at h; omega
end Go.Proofs.Ytnldienjkejfcaa
