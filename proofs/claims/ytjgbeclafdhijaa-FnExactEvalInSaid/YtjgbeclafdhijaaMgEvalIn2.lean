/- Texts merged, part 2. -/
import Derived.Test.YtjgbeclafdhijaaProg
import Derived.IntWalk
import Derived.Test.YtjgbeclafdhijaaMgEvalIn1
section
namespace Go.Proofs.Ytjgbeclafdhijaa
open Go.RowKit

theorem l1In_q (n lo hi : Int) (w : World) : Calls Try.prog 33 #[.int .i64 n, .int .i64 lo, .int .i64 hi] w fun e w' => e = .returned (.bool (inB n lo hi)) ∧ w' = w := by
  unfold inB
  go_enter Try.func33, Try.ntmps33
  by_cases h1 : lo ≤ n
  · by_cases h2 : n ≤ hi
    · go_wp2
      go_ret
      exact ⟨by simp [h1, h2], rfl⟩
    · go_wp2
      go_ret
      exact ⟨by simp; omega, rfl⟩
  · go_wp2
    go_ret
    exact ⟨by simp; omega, rfl⟩
theorem l1In_qv (n lo hi : Int) (b : Bool) (h : inB n lo hi = b) (w : World) : Calls Try.prog 33 #[.int .i64 n, .int .i64 lo, .int .i64 hi] w fun e w' => e = .returned (.bool b) ∧ w' = w := h ▸ l1In_q n lo hi w
theorem l1In_c (n lo hi : Int) (w : World) : Calls Try.prog 33 #[.int .i64 n, .int .i64 lo, .int .i64 hi] w (RetV w (.bool (inB n lo hi))) :=
  (l1In_q n lo hi w).mono fun _ _ ⟨h1, h2⟩ => ⟨h1, h2 ▸ Bel.rfl' w⟩
theorem l1In_t (n lo hi : Int) (w : World) (h : inB n lo hi = true) : Calls Try.prog 33 #[.int .i64 n, .int .i64 lo, .int .i64 hi] w (RetV w (.bool true)) := by
  rw [← h]; exact l1In_c n lo hi w
theorem l1In_f (n lo hi : Int) (w : World) (h : inB n lo hi = false) : Calls Try.prog 33 #[.int .i64 n, .int .i64 lo, .int .i64 hi] w (RetV w (.bool false)) := by
  rw [← h]; exact l1In_c n lo hi w

theorem l1All_c (l h : Nat) (v : Value) (xs : List Int) (lo hi : Int) (w : World) (hx : xs.length ≤ 1048576) (hv : SlI l h w v xs) :
    Calls Try.prog 43 #[v, .int .i64 lo, .int .i64 hi] w (RetV w (.bool (xs.all (inB · lo hi)))) := by
  obtain ⟨ad, cap, rfl, -, -, hr⟩ := hv
  go_enter Try.func43, Try.ntmps43
  go_wp2
  go_loopw [11] (fun i wr => ∃ k : Nat, k ≤ xs.length ∧ i = .int .i64 k ∧ (xs.take k).all (inB · lo hi) = true ∧ Bel w wr) (fun i _ => xs.length - (intOf i).toNat)
  case atStart => exact ⟨0, Nat.zero_le _, rfl, by simp, Bel.rfl' _⟩
  case round =>
    obtain ⟨k, hk, rfl, ha, hb⟩ := hrel
    by_cases hlt : k < xs.length
    · obtain ⟨b, off, rfl, -, hcell⟩ := rd hr hb k hlt
      have E1 := Lib.hid (all_split xs (inB · lo hi) k hlt ha)
      have E2 := Lib.hid (all_false xs (inB · lo hi) k hlt)
      clear hr ha
      generalize xs.getD k 0 = x at *
      by_cases hp : inB x lo hi = true
      · have HP := Lib.hid hp; clear hp
        go_wp2_with (go_at_call 33; refine (l1In_t _ _ _ _ HP.out).mono ?_; rintro e w' ⟨rfl, hb1⟩)
        go_roundw
        case rel => exact ⟨k+1, by omega, by go_num, by rw [E1.out]; exact HP.out, hb.step hb1⟩
        case measure => simp [intOf]; omega
      · have HP := Lib.hid (by simpa using hp : inB x lo hi = false); clear hp
        go_wp2_with (go_at_call 33; refine (l1In_f _ _ _ _ HP.out).mono ?_; rintro e w' ⟨rfl, hb1⟩)
        go_ret
        exact ⟨by rw [E2.out HP.out]; rfl, hb.step hb1⟩
    · have HA := Lib.hid ha; clear ha
      go_wp2_with fail
      go_ret
      exact ⟨by rw [all_done xs _ k hk hlt HA.out]; rfl, hb⟩
end Go.Proofs.Ytjgbeclafdhijaa
end
section
/- Terms as lists, plainly: where a subterm ends, its arguments, valid terms. No program. -/
namespace Go.Proofs.Ytjgbeclafdhijaa

def goodSign (ar : List Int) : Bool := inB ar.length 1 10 && ar.all (inB · 0 3) && (ar.getD 0 0 == 0)

/-- The arity of an entry. -/
def arOf (ar : List Int) (x : Int) : Nat := if x < 0 then 0 else (ar.getD x.toNat 0).toNat
def okSym (ar : List Int) (x : Int) : Bool := inB x (-12) ((ar.length : Int) - 1)

def endGo (ar : List Int) : List Int → Nat → Nat → Option Nat
  | _, 0, p => some p
  | [], _ + 1, _ => none
  | x :: r, n + 1, p => if okSym ar x then endGo ar r (n + arOf ar x) (p + 1) else none

theorem endGo_zero (ar r : List Int) (p : Nat) : endGo ar r 0 p = some p := by cases r <;> rfl
theorem endGo_nil (ar : List Int) (n p : Nat) : endGo ar [] (n + 1) p = none := rfl
theorem endGo_cons (ar : List Int) (x : Int) (r : List Int) (n p : Nat) : endGo ar (x :: r) (n + 1) p = if okSym ar x then endGo ar r (n + arOf ar x) (p + 1) else none := rfl

theorem endGo_ge (ar : List Int) : ∀ (r : List Int) (n p e : Nat), endGo ar r n p = some e → p ≤ e ∧ e ≤ p + r.length := by
  intro r
  induction r with
  | nil =>
    intro n p e h
    cases n with
    | zero => rw [endGo_zero] at h; simp at h; omega
    | succ n => simp [endGo_nil] at h
  | cons x r ih =>
    intro n p e h
    cases n with
    | zero => rw [endGo_zero] at h; simp at h; subst h; simp
    | succ n =>
      rw [endGo_cons] at h
      split at h
      · have := ih _ _ _ h; simp; omega
      · simp at h

theorem endGo_gt (ar r : List Int) (n p e : Nat) (h : endGo ar r (n + 1) p = some e) : p < e := by
  cases r with
  | nil => simp [endGo_nil] at h
  | cons x r =>
    rw [endGo_cons] at h
    split at h
    · have := endGo_ge _ _ _ _ _ h; omega
    · simp at h

theorem endGo_add (ar : List Int) : ∀ (r : List Int) (a b p : Nat), endGo ar r (a + b) p = (endGo ar r a p).bind fun e => endGo ar (r.drop (e - p)) b e := by
  intro r
  induction r with
  | nil =>
    intro a b p
    cases a with
    | zero => simp [endGo_zero]
    | succ a => rw [show a + 1 + b = (a + b) + 1 from by omega, endGo_nil, endGo_nil]; rfl
  | cons x r ih =>
    intro a b p
    cases a with
    | zero => simp [endGo_zero]
    | succ a =>
      rw [show a + 1 + b = (a + b) + 1 from by omega, endGo_cons, endGo_cons]
      split
      · rw [show a + b + arOf ar x = (a + arOf ar x) + b from by omega, ih]
        cases h : endGo ar r (a + arOf ar x) (p + 1) with
        | none => rfl
        | some e =>
          have := endGo_ge _ _ _ _ _ h
          simp only [Option.bind_some]
          rw [show e - p = (e - (p + 1)) + 1 from by omega, List.drop_succ_cons]
      · rfl

/-- The index behind the subterm at an index. -/
def endOf (ar t : List Int) (i : Nat) : Option Nat := endGo ar (t.drop i) 1 i
def okTerm (ar t : List Int) : Bool := inB t.length 1 40 && (endOf ar t 0 == some t.length)
def goodTerm (ar t : List Int) : Bool := goodSign ar && okTerm ar t

theorem okTerm_iff (ar t : List Int) : okTerm ar t = true ↔ 1 ≤ t.length ∧ t.length ≤ 40 ∧ endOf ar t 0 = some t.length := by
  unfold okTerm inB
  simp only [Bool.and_eq_true, decide_eq_true_eq, beq_iff_eq]
  constructor
  · rintro ⟨⟨h1, h2⟩, h3⟩; exact ⟨by omega, by omega, h3⟩
  · rintro ⟨h1, h2, h3⟩; exact ⟨⟨by omega, by omega⟩, h3⟩

theorem drop_cons (t : List Int) (i : Nat) (h : i < t.length) : t.drop i = t.getD i 0 :: t.drop (i + 1) := by
  rw [List.drop_eq_getElem_cons h]; simp [List.getD, h]

/-- In a valid term each place has what is still to come. -/
theorem good_need (ar t : List Int) (h : okTerm ar t = true) : ∀ i, i ≤ t.length → ∃ m, endGo ar (t.drop i) m i = some t.length ∧ (i < t.length → 0 < m) := by
  obtain ⟨h1, h2, h3⟩ := (okTerm_iff ar t).1 h
  intro i
  induction i with
  | zero => intro _; exact ⟨1, h3, fun _ => by omega⟩
  | succ i ih =>
    intro hi
    obtain ⟨m, hm, hp⟩ := ih (by omega)
    rw [drop_cons t i (by omega)] at hm
    obtain ⟨m, rfl⟩ : ∃ m', m = m' + 1 := ⟨m - 1, by have := hp (by omega); omega⟩
    rw [endGo_cons] at hm
    split at hm
    · refine ⟨_, hm, fun hl => ?_⟩
      rcases Nat.eq_zero_or_pos (m + arOf ar (t.getD i 0)) with h0 | h0
      · rw [h0, endGo_zero] at hm; simp at hm; omega
      · exact h0
    · simp at hm

theorem good_end (ar t : List Int) (h : okTerm ar t = true) (i : Nat) (hi : i < t.length) : ∃ e, endOf ar t i = some e ∧ i < e ∧ e ≤ t.length := by
  obtain ⟨m, hm, hp⟩ := good_need ar t h i (by omega)
  obtain ⟨m, rfl⟩ : ∃ m', m = 1 + m' := ⟨m - 1, by have := hp hi; omega⟩
  rw [endGo_add] at hm
  cases h1 : endGo ar (t.drop i) 1 i with
  | none => rw [h1] at hm; simp at hm
  | some e =>
    refine ⟨e, h1, endGo_gt _ _ _ _ _ h1, ?_⟩
    have := endGo_ge _ _ _ _ _ h1
    simp at this
    omega

theorem good_sym (ar t : List Int) (h : okTerm ar t = true) (i : Nat) (hi : i < t.length) : okSym ar (t.getD i 0) = true := by
  obtain ⟨e, he, _, _⟩ := good_end ar t h i hi
  unfold endOf at he
  rw [drop_cons t i hi, endGo_cons] at he
  by_cases h1 : okSym ar (t.getD i 0) = true
  · exact h1
  · rw [if_neg h1] at he; simp at he

/-- The ends of k terms, one behind the other. -/
theorem good_args (ar t : List Int) (h : okTerm ar t = true) (i : Nat) (hi : i < t.length) : ∃ e, endGo ar (t.drop (i + 1)) (arOf ar (t.getD i 0)) (i + 1) = some e ∧ e ≤ t.length := by
  obtain ⟨e, he, _, h2⟩ := good_end ar t h i hi
  have hs := good_sym ar t h i hi
  unfold endOf at he
  rw [drop_cons t i hi, endGo_cons, if_pos hs, Nat.zero_add] at he
  exact ⟨e, he, h2⟩

/-- From a place on where k + 1 terms stand: the first one's end, and the others behind it. -/
theorem ends_step (ar t : List Int) (p k e : Nat) (h : endGo ar (t.drop p) (k + 1) p = some e) : ∃ q, endOf ar t p = some q ∧ endGo ar (t.drop q) k q = some e ∧ p < q ∧ q ≤ e := by
  rw [show k + 1 = 1 + k from by omega, endGo_add] at h
  cases h1 : endGo ar (t.drop p) 1 p with
  | none => rw [h1] at h; simp at h
  | some q =>
    rw [h1] at h
    have hg := endGo_gt _ _ _ _ _ h1
    simp only [Option.bind_some, List.drop_drop, show p + (q - p) = q from by omega] at h
    exact ⟨q, h1, h, hg, (endGo_ge _ _ _ _ _ h).1⟩

/-- The places of k arguments from p on. -/
def argsGo (ar t : List Int) : Nat → Nat → List Nat
  | 0, _ => []
  | k + 1, p => p :: argsGo ar t k ((endOf ar t p).getD 0)
def argsOf (ar t : List Int) (i : Nat) : List Nat := argsGo ar t (arOf ar (t.getD i 0)) (i + 1)

theorem argsGo_len (ar t : List Int) : ∀ k p, (argsGo ar t k p).length = k := by
  intro k; induction k with
  | zero => intro p; rfl
  | succ k ih => intro p; simp [argsGo, ih]

theorem arOf_le (ar : List Int) (h : goodSign ar = true) (x : Int) : arOf ar x ≤ 3 := by
  unfold arOf
  split
  · omega
  · simp [goodSign, inB] at h
    by_cases hx : x.toNat < ar.length
    · have := h.1.2 (ar.getD x.toNat 0) (by simp [List.getD, hx])
      omega
    · simp [List.getD, hx]
theorem ar_nonneg (ar : List Int) (h : goodSign ar = true) (i : Nat) : 0 ≤ ar.getD i 0 ∧ ar.getD i 0 ≤ 3 := by
  simp [goodSign, inB] at h
  by_cases hx : i < ar.length
  · exact h.1.2 (ar.getD i 0) (by simp [List.getD, hx])
  · simp [List.getD, hx]
theorem sign_len (ar : List Int) (h : goodSign ar = true) : 1 ≤ ar.length ∧ ar.length ≤ 10 := by simp [goodSign, inB] at h; omega
end Go.Proofs.Ytjgbeclafdhijaa
end
section
namespace Go.Proofs.Ytjgbeclafdhijaa
open Go.RowKit



theorem l1All_v (l h : Nat) (v : Value) (xs : List Int) (lo hi : Int) (w : World) (b : Bool) (he : xs.all (inB · lo hi) = b) (hx : xs.length ≤ 1048576) (hv : SlI l h w v xs) :
    Calls Try.prog 43 #[v, .int .i64 lo, .int .i64 hi] w (RetV w (.bool b)) := he ▸ l1All_c l h v xs lo hi w hx hv

theorem sGoodSign_c (l h : Nat) (v : Value) (xs : List Int) (w : World) (hx : xs.length ≤ 1048576) (hv : SlI l h w v xs) :
    Calls Try.prog 40 #[.agg #[v]] w (RetV w (.bool (goodSign xs))) := by
  have hv0 := hv
  obtain ⟨ad, cap, rfl, -, -, hr⟩ := hv
  unfold goodSign
  by_cases h1 : inB xs.length 1 10 = true
  · have hp : 0 < xs.length := by simp [inB] at h1; omega
    have H1 := Lib.hid h1; clear h1
    cases h2 : xs.all (inB · 0 3)
    · have H2 := Lib.hid h2; clear h2
      go_enter Try.func40, Try.ntmps40
      go_wp2_with (first | (go_at_call 33; refine (l1In_t _ _ _ _ H1.out).mono ?_; rintro e w' ⟨rfl, hb1⟩; have hx1 := boxc hb1 0 _ rfl) | (go_at_call 43; refine (l1All_v _ _ _ _ _ _ _ _ H2.out hx (hv0.below hb1.of_alloc)).mono ?_; rintro e w' ⟨rfl, hb2⟩))
      go_ret
      exact ⟨by simp, hb1.of_alloc.step hb2⟩
    · have H2 := Lib.hid h2; clear h2
      obtain ⟨b, off, rfl, hlt, hcell⟩ := rd0 hr hp
      generalize xs.getD 0 0 = x at *
      go_enter Try.func40, Try.ntmps40
      go_wp2_with (first | (go_at_call 33; refine (l1In_t _ _ _ _ H1.out).mono ?_; rintro e w' ⟨rfl, hb1⟩; have hx1 := boxc hb1 0 _ rfl) | (go_at_call 43; refine (l1All_v _ _ _ _ _ _ _ _ H2.out hx (hv0.below hb1.of_alloc)).mono ?_; rintro e w' ⟨rfl, hb2⟩; have hx2 := boxc (hb1.step hb2) 0 _ rfl; have hcell2 := (hb1.of_alloc.step hb2).at hlt hcell))
      go_ret
      exact ⟨by rw [H1.out]; simp, hb1.of_alloc.step hb2⟩
  · have H1 := Lib.hid (by simpa using h1 : inB xs.length 1 10 = false); clear h1
    go_enter Try.func40, Try.ntmps40
    go_wp2_with (first | (go_at_call 33; refine (l1In_f _ _ _ _ H1.out).mono ?_; rintro e w' ⟨rfl, hb1⟩; have hx1 := boxc hb1 0 _ rfl))
    go_ret
    exact ⟨by rw [H1.out]; simp, hb1.of_alloc⟩
end Go.Proofs.Ytjgbeclafdhijaa
end
section
namespace Go.Proofs.Ytjgbeclafdhijaa
open Go.RowKit

theorem goodSign_none (xs : List Int) (h : ¬ inB xs.length 1 10 = true) : goodSign xs = false := by simp [goodSign, h]

theorem iGoodSign_c (l h : Nat) (v : Value) (xs : List Int) (w : World) (hx : xs.length ≤ 1048576) (hv : SlI l h w v xs) :
    Calls Try.prog 48 #[.agg #[v]] w (RetV w (.bool (goodSign xs))) := by
  obtain ⟨ad, cap, rfl, -, -, hr⟩ := hv
  by_cases h1 : xs.length < 1
  · have e1 : Hid (goodSign xs = false) := goodSign_none xs (by simp [inB]; omega)
    have h1' : decide ((xs.length : Int) < 1) = true := by simp; omega
    go_enter Try.func48, Try.ntmps48
    go_wp2_with fail
    go_ret
    exact ⟨by rw [e1.out]; rfl, Bel.alloc0 _ _⟩
  · by_cases h2 : 10 < xs.length
    · have e1 : Hid (goodSign xs = false) := goodSign_none xs (by simp [inB]; omega)
      go_enter Try.func48, Try.ntmps48
      go_wp2_with fail
      go_ret
      exact ⟨by rw [e1.out]; rfl, Bel.alloc0 _ _⟩
    · obtain ⟨b, off, rfl, hlt, hcell⟩ := rd0 hr (by omega)
      have hin : inB xs.length 1 10 = true := by simp [inB]; omega
      by_cases h3 : xs.getD 0 0 = 0
      · have E3 : Hid (goodSign xs = xs.all (inB · 0 3)) := by show goodSign xs = _; unfold goodSign; rw [hin, h3]; simp
        rw [h3] at hcell
        clear h3
        go_enter Try.func48, Try.ntmps48
        go_wp2_with fail
        go_loop [25] (fun i => ∃ k : Nat, k ≤ xs.length ∧ i = .int .i64 k ∧ (xs.take k).all (inB · 0 3) = true) (fun i => xs.length - (intOf i).toNat)
        case atStart => exact ⟨0, Nat.zero_le _, rfl, by simp⟩
        case round =>
          obtain ⟨k, hk, rfl, ha⟩ := hrel
          by_cases hltk : k < xs.length
          · obtain ⟨b', off', he, hb', hcell'⟩ := rd hr (Bel.alloc0 w (.cells #[.slice (some ⟨b, off, none⟩) xs.length cap] 32)) k hltk
            simp only [Option.some.injEq, Addr.mk.injEq, and_true] at he
            obtain ⟨rfl, rfl⟩ := he
            have E1 := Lib.hid (all_split xs (inB · 0 3) k hltk ha)
            have E2 := Lib.hid (all_false xs (inB · 0 3) k hltk)
            clear hr ha
            generalize xs.getD k 0 = x at *
            by_cases hp : x < 0
            · go_wp2_with fail
              go_ret
              exact ⟨by rw [E3.out, E2.out (by simp [inB]; omega)]; rfl, Bel.alloc0 _ _⟩
            · by_cases hp2 : 3 < x
              · go_wp2_with fail
                go_ret
                exact ⟨by rw [E3.out, E2.out (by simp [inB]; omega)]; rfl, Bel.alloc0 _ _⟩
              · go_wp2_with fail
                go_round
                case rel => exact ⟨k+1, by omega, by go_num, by rw [E1.out]; simp [inB]; omega⟩
                case measure => simp [intOf]; omega
          · have HA := Lib.hid ha; clear ha
            go_wp2_with fail
            go_ret
            exact ⟨by rw [E3.out, all_done xs _ k hk hltk HA.out]; rfl, Bel.alloc0 _ _⟩
      · have e1 : Hid (goodSign xs = false) := by show goodSign xs = _; unfold goodSign; rw [beq_eq_false_iff_ne.2 h3]; simp
        have h3' : (xs.getD 0 0 != 0) = true := by simpa using h3
        clear h3
        generalize xs.getD 0 0 = x at *
        go_enter Try.func48, Try.ntmps48
        go_wp2_with fail
        go_ret
        exact ⟨by rw [e1.out]; rfl, Bel.alloc0 _ _⟩
end Go.Proofs.Ytjgbeclafdhijaa
end
section
namespace Go.Proofs.Ytjgbeclafdhijaa
open Go.RowKit

def endI (ar t : List Int) (i : Nat) : Int := match endOf ar t i with | none => -1 | some e => e
theorem endI_none {ar t : List Int} {i : Nat} (h : endOf ar t i = none) : endI ar t i = -1 := by simp [endI, h]
theorem endI_some {ar t : List Int} {i e : Nat} (h : endOf ar t i = some e) : endI ar t i = e := by simp [endI, h]

theorem go_step_ok {ar t : List Int} {n p i : Nat} (h : endGo ar (t.drop p) (n + 1) p = endOf ar t i) (hp : p < t.length) (hs : okSym ar (t.getD p 0) = true) : endGo ar (t.drop (p + 1)) (n + arOf ar (t.getD p 0)) (p + 1) = endOf ar t i := by
  rw [← h, drop_cons t p hp, endGo_cons, if_pos hs]
theorem go_step_no {ar t : List Int} {n p i : Nat} (h : endGo ar (t.drop p) (n + 1) p = endOf ar t i) (hp : p < t.length) (hs : okSym ar (t.getD p 0) = false) : endOf ar t i = none := by
  rw [← h, drop_cons t p hp, endGo_cons, hs]; rfl
theorem go_step_end {ar t : List Int} {n p i : Nat} (h : endGo ar (t.drop p) (n + 1) p = endOf ar t i) (hp : ¬ p < t.length) : endOf ar t i = none := by
  rw [← h, List.drop_eq_nil_of_le (by omega), endGo_nil]
theorem go_step_done {ar t : List Int} {p i : Nat} (h : endGo ar (t.drop p) 0 p = endOf ar t i) : endOf ar t i = some p := by
  rw [← h, endGo_zero]
theorem arOf_nat {ar : List Int} (n : Nat) : arOf ar (n : Int) = (ar.getD n 0).toNat := by
  unfold arOf; rw [if_neg (by omega)]; simp
theorem arOf_neg {ar : List Int} {x : Int} (h : x < 0) : arOf ar x = 0 := by unfold arOf; rw [if_pos h]
theorem okSym_lt {ar : List Int} {n : Nat} (h : okSym ar (n : Int) = true) : n < ar.length := by simp [okSym, inB] at h; omega

set_option maxRecDepth 100000 in
set_option maxHeartbeats 1000000 in
theorem l1End_c (l h l' h' : Nat) (v u : Value) (ar t : List Int) (i : Nat) (w : World) (hg : goodSign ar = true) (ht : t.length ≤ 1048576) (hi : i ≤ t.length) (hv : SlI l h w v ar) (hu : SlI l' h' w u t) :
    Calls Try.prog 42 #[.agg #[v], u, .int .i64 i] w (RetV w (.int .i64 (endI ar t i))) := by
  obtain ⟨ad, cap, rfl, -, -, hr⟩ := hv
  obtain ⟨ad', cap', rfl, -, -, hr'⟩ := hu
  have hlen := sign_len ar hg
  go_enter Try.func42, Try.ntmps42
  go_wp2_with fail
  go_loopw [2, 7] (fun a n wr => ∃ p m : Nat, p ≤ t.length ∧ m ≤ 1 + 3 * p ∧ a = .int .i64 p ∧ n = .int .i64 m ∧ endGo ar (t.drop p) m p = endOf ar t i ∧ Bel (w.alloc (.cells #[.slice ad ar.length cap] 32)) wr) (fun a _ _ => t.length + 1 - (intOf a).toNat)
  case atStart => exact ⟨i, 1, hi, by omega, rfl, rfl, rfl, Bel.rfl' _⟩
  case round =>
    obtain ⟨p, m, hp, hm, rfl, rfl, hgo, hb⟩ := hrel
    have hbox := boxc hb 0 _ rfl
    cases m with
    | zero =>
      have E := Lib.hid (endI_some (go_step_done hgo))
      clear hgo
      go_wp2_with fail
      go_ret
      exact ⟨by rw [E.out]; rfl, hb.of_alloc⟩
    | succ m =>
      by_cases hlt : p < t.length
      · obtain ⟨b', off', rfl, -, hcell'⟩ := rd hr' hb.of_alloc p hlt
        have E1 := Lib.hid (go_step_ok hgo hlt)
        have E2 := Lib.hid (go_step_no hgo hlt)
        have ha3 := arOf_le ar hg (t.getD p 0)
        clear hgo hr'
        generalize t.getD p 0 = x at *
        have hm1 : ((m + 1 : Nat) : Int) = (m : Int) + 1 := by omega
        rw [hm1]
        clear hm1
        cases hs : okSym ar x with
        | false =>
          have E := Lib.hid (endI_none (E2.out hs))
          have HS := Lib.hid (show inB x (-12) ((ar.length : Int) - 1) = false from hs); clear hs
          have hw1 := IntWalk.i64_in ((ar.length : Int) - 1) (by omega)
          go_wp2_with fail
          go_quiet ((go_at_call 33; exact Calls.quiet_of_same (l1In_qv _ _ _ _ HS.out _)))
          go_wp2
          go_ret
          exact ⟨by rw [E.out]; rfl, hb.of_alloc.drewN _⟩
        | true =>
          have HS := Lib.hid (show inB x (-12) ((ar.length : Int) - 1) = true from hs)
          have hw1 := IntWalk.i64_in ((ar.length : Int) - 1) (by omega)
          by_cases hx : x < 0
          · have E := Lib.hid (E1.out hs)
            rw [arOf_neg hx] at E
            clear hs
            have hx' : decide (x ≥ 0) = false := by simp; omega
            go_wp2_with fail
            go_quiet ((go_at_call 33; exact Calls.quiet_of_same (l1In_qv _ _ _ _ HS.out _)))
            go_wp2
            go_roundw
            case rel => exact ⟨p+1, m, by omega, by omega, by go_num, rfl, E.out, hb.drewN _⟩
            case measure => simp [intOf]; omega
          · obtain ⟨k, rfl⟩ : ∃ k : Nat, x = k := ⟨x.toNat, by omega⟩
            have E := Lib.hid (E1.out hs)
            have hk := okSym_lt hs
            clear hs
            obtain ⟨b, off, rfl, -, hcell⟩ := rd hr hb.of_alloc k hk
            have hn := ar_nonneg ar hg k
            rw [arOf_nat] at E
            clear hr E1 E2 ha3
            obtain ⟨q, hq⟩ : ∃ q : Nat, ar.getD k 0 = q := ⟨(ar.getD k 0).toNat, by omega⟩
            rw [hq] at hcell E hn
            rw [show ((q : Int)).toNat = q from by omega] at E
            clear hq
            have hk2 : (k : Int) < ar.length := by omega
            have hw2 := IntWalk.i64_in ((m : Int) + (q : Int)) (by omega)
            go_wp2_with fail
            go_quiet ((go_at_call 33; exact Calls.quiet_of_same (l1In_qv _ _ _ _ HS.out _)))
            go_wp2
            go_quiet (fail)
            go_wp2
            go_roundw
            case rel => exact ⟨p+1, m + q, by omega, by omega, by go_num, by go_num, E.out, hb.drewN _⟩
            case measure => simp [intOf]; omega
      · have E := Lib.hid (endI_none (go_step_end hgo hlt))
        clear hgo
        have hm1 : ((m + 1 : Nat) : Int) = (m : Int) + 1 := by omega
        rw [hm1]
        clear hm1
        have hge : decide ((p : Int) ≥ t.length) = true := by simp; omega
        go_wp2_with fail
        go_quiet (fail)
        go_wp2
        go_ret
        exact ⟨by rw [E.out]; rfl, hb.of_alloc.drewN _⟩
end Go.Proofs.Ytjgbeclafdhijaa
end
