/- Texts merged, part 2. -/
import Derived.Test.YteegjnobmbcjiaaProg
import Derived.IntWalk
import Derived.Test.YteegjnobmbcjiaaMgUnitsOf1
section
/- The laws' helpers over literals and slices of literals, by contracts: sizes and copies. -/
namespace Go.Proofs.Yteegjnobmbcjiaa
open Go.RowKit

set_option maxRecDepth 100000 in
set_option maxHeartbeats 400000 in
theorem szLit_c (l h : Nat) (p : Bool) (u1 u2 : Value) (xl xr : List Int) (left : Int) (w : World) (hl : xl.length ≤ 9223372036854775807) (hr : xr.length ≤ 9223372036854775807) (h0 : 0 ≤ left) (h1 : left ≤ 1048576) (hv1 : SlI l h w u1 xl) (hv2 : SlI l h w u2 xr) :
    Calls Try.prog 144 #[.agg #[.bool p, u1, u2], .int .i64 left] w (RetV w (.int .i64 (szI (xl.length + xr.length) left))) := by
  have HB := Bel.alloc0 w (.cells #[.bool p, u1, u2] 155)
  by_cases hs : left - xl.length < 0
  · have E : Hid (szI (xl.length + xr.length) left = -1) := by show szI _ _ = _; unfold szI; rw [if_pos (by omega)]
    have e1 : szI xl.length left = -1 := by unfold szI; rw [if_pos hs]
    have HC := Lib.hid (szIntS_c l h u1 xl left _ hl h0 h1 (hv1.below HB))
    rw [e1] at HC
    clear hv1 hv2 hs e1
    go_enter Try.func144, Try.ntmps144
    go_wp2_with (go_at_call 53; refine HC.out.mono ?_; rintro e w' ⟨rfl, hb1⟩)
    go_ret
    exact ⟨by rw [E.out]; rfl, HB.step hb1⟩
  · have e1 : szI xl.length left = left - xl.length := by unfold szI; rw [if_neg hs]
    have HC := Lib.hid (szIntS_c l h u1 xl left _ hl h0 h1 (hv1.below HB))
    rw [e1] at HC
    have hz0 : 0 ≤ left - (xl.length : Int) := by omega
    have hz1 : left - (xl.length : Int) ≤ 1048576 := by omega
    by_cases hs2 : left - xl.length - xr.length < 0
    · have E : Hid (szI (xl.length + xr.length) left = -1) := by show szI _ _ = _; unfold szI; rw [if_pos (by omega)]
      have e2 : szI xr.length (left - xl.length) = -1 := by unfold szI; rw [if_pos hs2]
      have HD := Lib.hid (fun (w' : World) (hb : Bel (w.alloc (.cells #[.bool p, u1, u2] 155)) w') => szIntS_c l h u2 xr (left - xl.length) w' hr hz0 hz1 ((hv2.below HB).below hb))
      rw [e2] at HD
      clear hv1 hv2 hs e1 hs2 e2
      generalize left - (xl.length : Int) = z at *
      go_enter Try.func144, Try.ntmps144
      go_wp2_with fail
      refine HC.out.mono ?_; rintro e w1 ⟨rfl, hb1⟩
      have hbx := hb1.at (b := w.heap.size) (off := 2) (by simp) (show (w.alloc (.cells #[.bool p, u1, u2] 155)).cell? ⟨w.heap.size, 2, none⟩ = some u2 by simp)
      go_wp2_with fail
      refine (HD.out _ hb1).mono ?_; rintro e w2 ⟨rfl, hb2⟩
      go_wp2_with fail
      go_ret
      exact ⟨by rw [E.out]; rfl, (HB.step hb1).step hb2⟩
    · have E : Hid (szI (xl.length + xr.length) left = left - xl.length - xr.length) := by show szI _ _ = _; unfold szI; rw [if_neg (by omega)]; omega
      have e2 : szI xr.length (left - xl.length) = left - xl.length - xr.length := by unfold szI; rw [if_neg hs2]
      have HD := Lib.hid (fun (w' : World) (hb : Bel (w.alloc (.cells #[.bool p, u1, u2] 155)) w') => szIntS_c l h u2 xr (left - xl.length) w' hr hz0 hz1 ((hv2.below HB).below hb))
      rw [e2] at HD
      have hy0 : 0 ≤ left - (xl.length : Int) - xr.length := by omega
      clear hv1 hv2 hs e1 hs2 e2
      generalize left - (xl.length : Int) - (xr.length : Int) = y at *
      generalize left - (xl.length : Int) = z at *
      go_enter Try.func144, Try.ntmps144
      go_wp2_with fail
      refine HC.out.mono ?_; rintro e w1 ⟨rfl, hb1⟩
      have hbx := hb1.at (b := w.heap.size) (off := 2) (by simp) (show (w.alloc (.cells #[.bool p, u1, u2] 155)).cell? ⟨w.heap.size, 2, none⟩ = some u2 by simp)
      go_wp2_with fail
      refine (HD.out _ hb1).mono ?_; rintro e w2 ⟨rfl, hb2⟩
      go_wp2_with fail
      go_ret
      exact ⟨by rw [E.out]; rfl, (HB.step hb1).step hb2⟩

def szC (c : List Lt) (left : Int) : Int := if left - (sumC c : Nat) < 0 then -1 else left - (sumC c : Nat)
def lenC (c : List Lt) : Nat := sumL (flatC c)
theorem sumC_eq (c : List Lt) : sumC c = c.length + lenC c := by
  unfold lenC
  induction c with
  | nil => rfl
  | cons x r ih => rw [flatC_cons]; simp only [sumC, sumL, List.map_cons, List.sum_cons, List.length_cons, wC] at *; omega
theorem lenC_take (c : List Lt) (k : Nat) (h : k < c.length) : lenC (c.take (k+1)) = lenC (c.take k) + ((c.getD k lt0).2.1.length + (c.getD k lt0).2.2.length) := by
  have h1 := sumC_take c k h
  rw [sumC_eq, sumC_eq] at h1
  have e1 : (c.take (k+1)).length = k + 1 := by rw [List.length_take]; omega
  have e2 : (c.take k).length = k := by rw [List.length_take]; omega
  unfold wC at h1
  omega
theorem lenC_all (c : List Lt) (k : Nat) (h : ¬ k < c.length) : lenC (c.take k) = lenC c := by rw [List.take_of_length_le (by omega)]
theorem lenC_get (c : List Lt) (k : Nat) (h : k < c.length) : lenC (c.take k) + ((c.getD k lt0).2.1.length + (c.getD k lt0).2.2.length) ≤ lenC c := by
  rw [← lenC_take c k h]
  conv => rhs; rw [← List.take_append_drop (k+1) c]
  unfold lenC
  rw [flatC_app]; unfold sumL; rw [List.map_append, List.sum_append]; omega
theorem SlC.max {lo hi w v c} (h : SlC lo hi w v c) : c.length ≤ 9223372036854775807 ∧ ∀ j, j < c.length → (c.getD j lt0).2.1.length ≤ 9223372036854775807 ∧ (c.getD j lt0).2.2.length ≤ 9223372036854775807 := by
  obtain ⟨ad, cap, e, hc, hm, hr⟩ := h
  have hml : maxLen = 9223372036854775807 := rfl
  refine ⟨by omega, fun j hj => ?_⟩
  obtain ⟨b, off, _, _, _, hx⟩ := hr (by omega)
  obtain ⟨u1, u2, _, _, _, ⟨ad2, cap2, _, hc2, hm2, _⟩, ⟨ad3, cap3, _, hc3, hm3, _⟩⟩ := hx j hj
  omega

set_option maxRecDepth 100000 in
set_option maxHeartbeats 400000 in
theorem szLitS_c (l h : Nat) (v : Value) (c : List Lt) (left : Int) (w : World) (h0 : 0 ≤ left) (h1 : left ≤ 1048576) (hv : SlC l h w v c) :
    Calls Try.prog 103 #[v, .int .i64 left] w (RetV w (.int .i64 (szC c left))) := by
  obtain ⟨ad, cap, rfl⟩ := hv.form
  obtain ⟨hx, hmax⟩ := hv.max
  have hse := sumC_eq c
  by_cases hs : left - c.length < 0
  · have E : Hid (szC c left = -1) := by show szC _ _ = _; unfold szC; rw [if_pos (by omega)]
    go_enter Try.func103, Try.ntmps103
    go_wp2_with fail
    go_ret
    exact ⟨by rw [E.out]; rfl, Bel.rfl' _⟩
  · have hw1 := IntWalk.i64_in (left - c.length) (by omega)
    go_enter Try.func103, Try.ntmps103
    go_wp2_with fail
    go_loopw [1, 5] (fun m i wr => ∃ (k : Nat) (z : Int), k ≤ c.length ∧ i = .int .i64 k ∧ m = .int .i64 z ∧ 0 ≤ z ∧ z = left - c.length - (lenC (c.take k) : Nat) ∧ Bel w wr) (fun _ i _ => c.length - (intOf i).toNat)
    case atStart => exact ⟨0, _, Nat.zero_le _, rfl, by go_num, by omega, by simp [lenC, flatC, sumL], Bel.rfl' _⟩
    case round =>
      obtain ⟨k, z, hk, rfl, rfl, hz0, hz, hb⟩ := hrel
      by_cases hlt : k < c.length
      · obtain ⟨b, off, u1, u2, rfl, -, c1, c2, c3, s1, s2⟩ := hv.at hb k hlt
        obtain ⟨hm1, hm2⟩ := hmax k hlt
        have hst := lenC_take c k hlt
        have hsl := lenC_get c k hlt
        have hcall := szLit_c l h (c.getD k lt0).1 u1 u2 (c.getD k lt0).2.1 (c.getD k lt0).2.2 z wr hm1 hm2 hz0 (by omega) s1 s2
        have hin0 : (0 : Int) ≤ k := by omega
        have hin1 : (k : Int) < c.length := by omega
        generalize hp : (c.getD k lt0).1 = p at *
        generalize hxl : (c.getD k lt0).2.1 = xl at *
        generalize hxr : (c.getD k lt0).2.2 = xr at *
        by_cases hneg : z - (xl.length + xr.length : Int) < 0
        · have e1 : szI (xl.length + xr.length) z = -1 := by unfold szI; rw [if_pos hneg]
          have E : Hid (szC c left = -1) := by show szC _ _ = _; unfold szC; rw [if_pos (by omega)]
          rw [e1] at hcall
          have HC := Lib.hid hcall
          clear hcall hv s1 s2 hmax hst hsl e1 hneg hz hse hxl hxr hp
          go_wp2_with (go_at_call 144; refine HC.out.mono ?_; rintro e w' ⟨rfl, hb1⟩)
          go_ret
          exact ⟨by rw [E.out]; rfl, hb.step hb1⟩
        · have e1 : szI (xl.length + xr.length) z = z - (xl.length + xr.length) := by unfold szI; rw [if_neg hneg]
          have hz' : z - ((xl.length : Int) + xr.length) = left - c.length - (lenC (c.take (k+1)) : Nat) := by omega
          rw [e1] at hcall
          have HC := Lib.hid hcall
          have HZ := Lib.hid hz'
          have hz2 : 0 ≤ z - ((xl.length : Int) + xr.length) := by omega
          clear hcall hv s1 s2 hmax hst hsl e1 hneg hz hz' hse hxl hxr hp
          generalize z - ((xl.length : Int) + xr.length) = z2 at *
          go_wp2_with (go_at_call 144; refine HC.out.mono ?_; rintro e w' ⟨rfl, hb1⟩)
          go_roundw
          case rel => exact ⟨k+1, z2, by omega, by go_num, rfl, hz2, HZ.out, hb.step hb1⟩
          case measure => simp [intOf]; omega
      · have E : Hid (szC c left = z) := by
          show szC _ _ = _
          rw [lenC_all c k hlt] at hz
          unfold szC; rw [if_neg (by omega)]; omega
        clear hz
        go_wp2_with fail
        go_ret
        exact ⟨by rw [E.out]; rfl, hb⟩
end Go.Proofs.Yteegjnobmbcjiaa
end
section
namespace Go.Proofs.Yteegjnobmbcjiaa
open Go.RowKit

theorem l1In_q (n lo hi : Int) (w : World) : Calls Try.prog 104 #[.int .i64 n, .int .i64 lo, .int .i64 hi] w fun e w' => e = .returned (.bool (inB n lo hi)) ∧ w' = w := by
  unfold inB
  go_enter Try.func104, Try.ntmps104
  by_cases h1 : lo ≤ n
  · by_cases h2 : n ≤ hi
    · go_wp2
      go_ret
      exact ⟨by simp [h1, h2], rfl⟩
    · go_wp2
      go_ret
      exact ⟨by simp; omega, rfl⟩
  · go_wp2
    go_ret
    exact ⟨by simp; omega, rfl⟩
theorem l1In_qv (n lo hi : Int) (b : Bool) (h : inB n lo hi = b) (w : World) : Calls Try.prog 104 #[.int .i64 n, .int .i64 lo, .int .i64 hi] w fun e w' => e = .returned (.bool b) ∧ w' = w := h ▸ l1In_q n lo hi w
theorem l1In_c (n lo hi : Int) (w : World) : Calls Try.prog 104 #[.int .i64 n, .int .i64 lo, .int .i64 hi] w (RetV w (.bool (inB n lo hi))) :=
  (l1In_q n lo hi w).mono fun _ _ ⟨h1, h2⟩ => ⟨h1, h2 ▸ Bel.rfl' w⟩
theorem l1In_t (n lo hi : Int) (w : World) (h : inB n lo hi = true) : Calls Try.prog 104 #[.int .i64 n, .int .i64 lo, .int .i64 hi] w (RetV w (.bool true)) := by
  rw [← h]; exact l1In_c n lo hi w
theorem l1In_f (n lo hi : Int) (w : World) (h : inB n lo hi = false) : Calls Try.prog 104 #[.int .i64 n, .int .i64 lo, .int .i64 hi] w (RetV w (.bool false)) := by
  rw [← h]; exact l1In_c n lo hi w

theorem l1All_c (l h : Nat) (v : Value) (xs : List Int) (lo hi : Int) (w : World) (hx : xs.length ≤ 1048576) (hv : SlI l h w v xs) :
    Calls Try.prog 56 #[v, .int .i64 lo, .int .i64 hi] w (RetV w (.bool (xs.all (inB · lo hi)))) := by
  obtain ⟨ad, cap, rfl, -, -, hr⟩ := hv
  go_enter Try.func56, Try.ntmps56
  go_wp2
  go_loopw [11] (fun i wr => ∃ k : Nat, k ≤ xs.length ∧ i = .int .i64 k ∧ (xs.take k).all (inB · lo hi) = true ∧ Bel w wr) (fun i _ => xs.length - (intOf i).toNat)
  case atStart => exact ⟨0, Nat.zero_le _, rfl, by simp, Bel.rfl' _⟩
  case round =>
    obtain ⟨k, hk, rfl, ha, hb⟩ := hrel
    by_cases hlt : k < xs.length
    · obtain ⟨b, off, rfl, -, hcell⟩ := rd hr hb k hlt
      have E1 := Lib.hid (all_split xs (inB · lo hi) k hlt ha)
      have E2 := Lib.hid (all_false xs (inB · lo hi) k hlt)
      clear hr ha
      generalize xs.getD k 0 = x at *
      by_cases hp : inB x lo hi = true
      · have HP := Lib.hid hp; clear hp
        go_wp2_with (go_at_call 104; refine (l1In_t _ _ _ _ HP.out).mono ?_; rintro e w' ⟨rfl, hb1⟩)
        go_roundw
        case rel => exact ⟨k+1, by omega, by go_num, by rw [E1.out]; exact HP.out, hb.step hb1⟩
        case measure => simp [intOf]; omega
      · have HP := Lib.hid (by simpa using hp : inB x lo hi = false); clear hp
        go_wp2_with (go_at_call 104; refine (l1In_f _ _ _ _ HP.out).mono ?_; rintro e w' ⟨rfl, hb1⟩)
        go_ret
        exact ⟨by rw [E2.out HP.out]; rfl, hb.step hb1⟩
    · have HA := Lib.hid ha; clear ha
      go_wp2_with fail
      go_ret
      exact ⟨by rw [all_done xs _ k hk hlt HA.out]; rfl, hb⟩
end Go.Proofs.Yteegjnobmbcjiaa
end
section
/- Terms as lists, plainly: where a subterm ends, its arguments, valid terms. No program. -/
namespace Go.Proofs.Yteegjnobmbcjiaa

def goodSign (ar : List Int) : Bool := inB ar.length 1 10 && ar.all (inB · 0 3) && (ar.getD 0 0 == 0)

/-- The arity of an entry. -/
def arOf (ar : List Int) (x : Int) : Nat := if x < 0 then 0 else (ar.getD x.toNat 0).toNat
def okSym (ar : List Int) (x : Int) : Bool := inB x (-12) ((ar.length : Int) - 1)

def endGo (ar : List Int) : List Int → Nat → Nat → Option Nat
  | _, 0, p => some p
  | [], _ + 1, _ => none
  | x :: r, n + 1, p => if okSym ar x then endGo ar r (n + arOf ar x) (p + 1) else none

theorem endGo_zero (ar r : List Int) (p : Nat) : endGo ar r 0 p = some p := by cases r <;> rfl
theorem endGo_nil (ar : List Int) (n p : Nat) : endGo ar [] (n + 1) p = none := rfl
theorem endGo_cons (ar : List Int) (x : Int) (r : List Int) (n p : Nat) : endGo ar (x :: r) (n + 1) p = if okSym ar x then endGo ar r (n + arOf ar x) (p + 1) else none := rfl

theorem endGo_ge (ar : List Int) : ∀ (r : List Int) (n p e : Nat), endGo ar r n p = some e → p ≤ e ∧ e ≤ p + r.length := by
  intro r
  induction r with
  | nil =>
    intro n p e h
    cases n with
    | zero => rw [endGo_zero] at h; simp at h; omega
    | succ n => simp [endGo_nil] at h
  | cons x r ih =>
    intro n p e h
    cases n with
    | zero => rw [endGo_zero] at h; simp at h; subst h; simp
    | succ n =>
      rw [endGo_cons] at h
      split at h
      · have := ih _ _ _ h; simp; omega
      · simp at h

theorem endGo_gt (ar r : List Int) (n p e : Nat) (h : endGo ar r (n + 1) p = some e) : p < e := by
  cases r with
  | nil => simp [endGo_nil] at h
  | cons x r =>
    rw [endGo_cons] at h
    split at h
    · have := endGo_ge _ _ _ _ _ h; omega
    · simp at h

theorem endGo_add (ar : List Int) : ∀ (r : List Int) (a b p : Nat), endGo ar r (a + b) p = (endGo ar r a p).bind fun e => endGo ar (r.drop (e - p)) b e := by
  intro r
  induction r with
  | nil =>
    intro a b p
    cases a with
    | zero => simp [endGo_zero]
    | succ a => rw [show a + 1 + b = (a + b) + 1 from by omega, endGo_nil, endGo_nil]; rfl
  | cons x r ih =>
    intro a b p
    cases a with
    | zero => simp [endGo_zero]
    | succ a =>
      rw [show a + 1 + b = (a + b) + 1 from by omega, endGo_cons, endGo_cons]
      split
      · rw [show a + b + arOf ar x = (a + arOf ar x) + b from by omega, ih]
        cases h : endGo ar r (a + arOf ar x) (p + 1) with
        | none => rfl
        | some e =>
          have := endGo_ge _ _ _ _ _ h
          simp only [Option.bind_some]
          rw [show e - p = (e - (p + 1)) + 1 from by omega, List.drop_succ_cons]
      · rfl

/-- The index behind the subterm at an index. -/
def endOf (ar t : List Int) (i : Nat) : Option Nat := endGo ar (t.drop i) 1 i
def okTerm (ar t : List Int) : Bool := inB t.length 1 40 && (endOf ar t 0 == some t.length)
def goodTerm (ar t : List Int) : Bool := goodSign ar && okTerm ar t

theorem okTerm_iff (ar t : List Int) : okTerm ar t = true ↔ 1 ≤ t.length ∧ t.length ≤ 40 ∧ endOf ar t 0 = some t.length := by
  unfold okTerm inB
  simp only [Bool.and_eq_true, decide_eq_true_eq, beq_iff_eq]
  constructor
  · rintro ⟨⟨h1, h2⟩, h3⟩; exact ⟨by omega, by omega, h3⟩
  · rintro ⟨h1, h2, h3⟩; exact ⟨⟨by omega, by omega⟩, h3⟩

theorem drop_cons (t : List Int) (i : Nat) (h : i < t.length) : t.drop i = t.getD i 0 :: t.drop (i + 1) := by
  rw [List.drop_eq_getElem_cons h]; simp [List.getD, h]

/-- In a valid term each place has what is still to come. -/
theorem good_need (ar t : List Int) (h : okTerm ar t = true) : ∀ i, i ≤ t.length → ∃ m, endGo ar (t.drop i) m i = some t.length ∧ (i < t.length → 0 < m) := by
  obtain ⟨h1, h2, h3⟩ := (okTerm_iff ar t).1 h
  intro i
  induction i with
  | zero => intro _; exact ⟨1, h3, fun _ => by omega⟩
  | succ i ih =>
    intro hi
    obtain ⟨m, hm, hp⟩ := ih (by omega)
    rw [drop_cons t i (by omega)] at hm
    obtain ⟨m, rfl⟩ : ∃ m', m = m' + 1 := ⟨m - 1, by have := hp (by omega); omega⟩
    rw [endGo_cons] at hm
    split at hm
    · refine ⟨_, hm, fun hl => ?_⟩
      rcases Nat.eq_zero_or_pos (m + arOf ar (t.getD i 0)) with h0 | h0
      · rw [h0, endGo_zero] at hm; simp at hm; omega
      · exact h0
    · simp at hm

theorem good_end (ar t : List Int) (h : okTerm ar t = true) (i : Nat) (hi : i < t.length) : ∃ e, endOf ar t i = some e ∧ i < e ∧ e ≤ t.length := by
  obtain ⟨m, hm, hp⟩ := good_need ar t h i (by omega)
  obtain ⟨m, rfl⟩ : ∃ m', m = 1 + m' := ⟨m - 1, by have := hp hi; omega⟩
  rw [endGo_add] at hm
  cases h1 : endGo ar (t.drop i) 1 i with
  | none => rw [h1] at hm; simp at hm
  | some e =>
    refine ⟨e, h1, endGo_gt _ _ _ _ _ h1, ?_⟩
    have := endGo_ge _ _ _ _ _ h1
    simp at this
    omega

theorem good_sym (ar t : List Int) (h : okTerm ar t = true) (i : Nat) (hi : i < t.length) : okSym ar (t.getD i 0) = true := by
  obtain ⟨e, he, _, _⟩ := good_end ar t h i hi
  unfold endOf at he
  rw [drop_cons t i hi, endGo_cons] at he
  by_cases h1 : okSym ar (t.getD i 0) = true
  · exact h1
  · rw [if_neg h1] at he; simp at he

/-- The ends of k terms, one behind the other. -/
theorem good_args (ar t : List Int) (h : okTerm ar t = true) (i : Nat) (hi : i < t.length) : ∃ e, endGo ar (t.drop (i + 1)) (arOf ar (t.getD i 0)) (i + 1) = some e ∧ e ≤ t.length := by
  obtain ⟨e, he, _, h2⟩ := good_end ar t h i hi
  have hs := good_sym ar t h i hi
  unfold endOf at he
  rw [drop_cons t i hi, endGo_cons, if_pos hs, Nat.zero_add] at he
  exact ⟨e, he, h2⟩

/-- From a place on where k + 1 terms stand: the first one's end, and the others behind it. -/
theorem ends_step (ar t : List Int) (p k e : Nat) (h : endGo ar (t.drop p) (k + 1) p = some e) : ∃ q, endOf ar t p = some q ∧ endGo ar (t.drop q) k q = some e ∧ p < q ∧ q ≤ e := by
  rw [show k + 1 = 1 + k from by omega, endGo_add] at h
  cases h1 : endGo ar (t.drop p) 1 p with
  | none => rw [h1] at h; simp at h
  | some q =>
    rw [h1] at h
    have hg := endGo_gt _ _ _ _ _ h1
    simp only [Option.bind_some, List.drop_drop, show p + (q - p) = q from by omega] at h
    exact ⟨q, h1, h, hg, (endGo_ge _ _ _ _ _ h).1⟩

/-- The places of k arguments from p on. -/
def argsGo (ar t : List Int) : Nat → Nat → List Nat
  | 0, _ => []
  | k + 1, p => p :: argsGo ar t k ((endOf ar t p).getD 0)
def argsOf (ar t : List Int) (i : Nat) : List Nat := argsGo ar t (arOf ar (t.getD i 0)) (i + 1)

theorem argsGo_len (ar t : List Int) : ∀ k p, (argsGo ar t k p).length = k := by
  intro k; induction k with
  | zero => intro p; rfl
  | succ k ih => intro p; simp [argsGo, ih]

theorem arOf_le (ar : List Int) (h : goodSign ar = true) (x : Int) : arOf ar x ≤ 3 := by
  unfold arOf
  split
  · omega
  · simp [goodSign, inB] at h
    by_cases hx : x.toNat < ar.length
    · have := h.1.2 (ar.getD x.toNat 0) (by simp [List.getD, hx])
      omega
    · simp [List.getD, hx]
theorem ar_nonneg (ar : List Int) (h : goodSign ar = true) (i : Nat) : 0 ≤ ar.getD i 0 ∧ ar.getD i 0 ≤ 3 := by
  simp [goodSign, inB] at h
  by_cases hx : i < ar.length
  · exact h.1.2 (ar.getD i 0) (by simp [List.getD, hx])
  · simp [List.getD, hx]
theorem sign_len (ar : List Int) (h : goodSign ar = true) : 1 ≤ ar.length ∧ ar.length ≤ 10 := by simp [goodSign, inB] at h; omega
end Go.Proofs.Yteegjnobmbcjiaa
end
section
namespace Go.Proofs.Yteegjnobmbcjiaa
open Go.RowKit



theorem l1All_v (l h : Nat) (v : Value) (xs : List Int) (lo hi : Int) (w : World) (b : Bool) (he : xs.all (inB · lo hi) = b) (hx : xs.length ≤ 1048576) (hv : SlI l h w v xs) :
    Calls Try.prog 56 #[v, .int .i64 lo, .int .i64 hi] w (RetV w (.bool b)) := he ▸ l1All_c l h v xs lo hi w hx hv

theorem sGoodSign_c (l h : Nat) (v : Value) (xs : List Int) (w : World) (hx : xs.length ≤ 1048576) (hv : SlI l h w v xs) :
    Calls Try.prog 76 #[.agg #[v]] w (RetV w (.bool (goodSign xs))) := by
  have hv0 := hv
  obtain ⟨ad, cap, rfl, -, -, hr⟩ := hv
  unfold goodSign
  by_cases h1 : inB xs.length 1 10 = true
  · have hp : 0 < xs.length := by simp [inB] at h1; omega
    have H1 := Lib.hid h1; clear h1
    cases h2 : xs.all (inB · 0 3)
    · have H2 := Lib.hid h2; clear h2
      go_enter Try.func76, Try.ntmps76
      go_wp2_with (first | (go_at_call 104; refine (l1In_t _ _ _ _ H1.out).mono ?_; rintro e w' ⟨rfl, hb1⟩; have hx1 := boxc hb1 0 _ rfl) | (go_at_call 56; refine (l1All_v _ _ _ _ _ _ _ _ H2.out hx (hv0.below hb1.of_alloc)).mono ?_; rintro e w' ⟨rfl, hb2⟩))
      go_ret
      exact ⟨by simp, hb1.of_alloc.step hb2⟩
    · have H2 := Lib.hid h2; clear h2
      obtain ⟨b, off, rfl, hlt, hcell⟩ := rd0 hr hp
      generalize xs.getD 0 0 = x at *
      go_enter Try.func76, Try.ntmps76
      go_wp2_with (first | (go_at_call 104; refine (l1In_t _ _ _ _ H1.out).mono ?_; rintro e w' ⟨rfl, hb1⟩; have hx1 := boxc hb1 0 _ rfl) | (go_at_call 56; refine (l1All_v _ _ _ _ _ _ _ _ H2.out hx (hv0.below hb1.of_alloc)).mono ?_; rintro e w' ⟨rfl, hb2⟩; have hx2 := boxc (hb1.step hb2) 0 _ rfl; have hcell2 := (hb1.of_alloc.step hb2).at hlt hcell))
      go_ret
      exact ⟨by rw [H1.out]; simp, hb1.of_alloc.step hb2⟩
  · have H1 := Lib.hid (by simpa using h1 : inB xs.length 1 10 = false); clear h1
    go_enter Try.func76, Try.ntmps76
    go_wp2_with (first | (go_at_call 104; refine (l1In_f _ _ _ _ H1.out).mono ?_; rintro e w' ⟨rfl, hb1⟩; have hx1 := boxc hb1 0 _ rfl))
    go_ret
    exact ⟨by rw [H1.out]; simp, hb1.of_alloc⟩
end Go.Proofs.Yteegjnobmbcjiaa
end
section
namespace Go.Proofs.Yteegjnobmbcjiaa
open Go.RowKit

theorem goodSign_none (xs : List Int) (h : ¬ inB xs.length 1 10 = true) : goodSign xs = false := by simp [goodSign, h]

theorem iGoodSign_c (l h : Nat) (v : Value) (xs : List Int) (w : World) (hx : xs.length ≤ 1048576) (hv : SlI l h w v xs) :
    Calls Try.prog 125 #[.agg #[v]] w (RetV w (.bool (goodSign xs))) := by
  obtain ⟨ad, cap, rfl, -, -, hr⟩ := hv
  by_cases h1 : xs.length < 1
  · have e1 : Hid (goodSign xs = false) := goodSign_none xs (by simp [inB]; omega)
    have h1' : decide ((xs.length : Int) < 1) = true := by simp; omega
    go_enter Try.func125, Try.ntmps125
    go_wp2_with fail
    go_ret
    exact ⟨by rw [e1.out]; rfl, Bel.alloc0 _ _⟩
  · by_cases h2 : 10 < xs.length
    · have e1 : Hid (goodSign xs = false) := goodSign_none xs (by simp [inB]; omega)
      go_enter Try.func125, Try.ntmps125
      go_wp2_with fail
      go_ret
      exact ⟨by rw [e1.out]; rfl, Bel.alloc0 _ _⟩
    · obtain ⟨b, off, rfl, hlt, hcell⟩ := rd0 hr (by omega)
      have hin : inB xs.length 1 10 = true := by simp [inB]; omega
      by_cases h3 : xs.getD 0 0 = 0
      · have E3 : Hid (goodSign xs = xs.all (inB · 0 3)) := by show goodSign xs = _; unfold goodSign; rw [hin, h3]; simp
        rw [h3] at hcell
        clear h3
        go_enter Try.func125, Try.ntmps125
        go_wp2_with fail
        go_loop [25] (fun i => ∃ k : Nat, k ≤ xs.length ∧ i = .int .i64 k ∧ (xs.take k).all (inB · 0 3) = true) (fun i => xs.length - (intOf i).toNat)
        case atStart => exact ⟨0, Nat.zero_le _, rfl, by simp⟩
        case round =>
          obtain ⟨k, hk, rfl, ha⟩ := hrel
          by_cases hltk : k < xs.length
          · obtain ⟨b', off', he, hb', hcell'⟩ := rd hr (Bel.alloc0 w (.cells #[.slice (some ⟨b, off, none⟩) xs.length cap] 30)) k hltk
            simp only [Option.some.injEq, Addr.mk.injEq, and_true] at he
            obtain ⟨rfl, rfl⟩ := he
            have E1 := Lib.hid (all_split xs (inB · 0 3) k hltk ha)
            have E2 := Lib.hid (all_false xs (inB · 0 3) k hltk)
            clear hr ha
            generalize xs.getD k 0 = x at *
            by_cases hp : x < 0
            · go_wp2_with fail
              go_ret
              exact ⟨by rw [E3.out, E2.out (by simp [inB]; omega)]; rfl, Bel.alloc0 _ _⟩
            · by_cases hp2 : 3 < x
              · go_wp2_with fail
                go_ret
                exact ⟨by rw [E3.out, E2.out (by simp [inB]; omega)]; rfl, Bel.alloc0 _ _⟩
              · go_wp2_with fail
                go_round
                case rel => exact ⟨k+1, by omega, by go_num, by rw [E1.out]; simp [inB]; omega⟩
                case measure => simp [intOf]; omega
          · have HA := Lib.hid ha; clear ha
            go_wp2_with fail
            go_ret
            exact ⟨by rw [E3.out, all_done xs _ k hk hltk HA.out]; rfl, Bel.alloc0 _ _⟩
      · have e1 : Hid (goodSign xs = false) := by show goodSign xs = _; unfold goodSign; rw [beq_eq_false_iff_ne.2 h3]; simp
        have h3' : (xs.getD 0 0 != 0) = true := by simpa using h3
        clear h3
        generalize xs.getD 0 0 = x at *
        go_enter Try.func125, Try.ntmps125
        go_wp2_with fail
        go_ret
        exact ⟨by rw [e1.out]; rfl, Bel.alloc0 _ _⟩
end Go.Proofs.Yteegjnobmbcjiaa
end
section
namespace Go.Proofs.Yteegjnobmbcjiaa
open Go.RowKit

def endI (ar t : List Int) (i : Nat) : Int := match endOf ar t i with | none => -1 | some e => e
theorem endI_none {ar t : List Int} {i : Nat} (h : endOf ar t i = none) : endI ar t i = -1 := by simp [endI, h]
theorem endI_some {ar t : List Int} {i e : Nat} (h : endOf ar t i = some e) : endI ar t i = e := by simp [endI, h]

theorem go_step_ok {ar t : List Int} {n p i : Nat} (h : endGo ar (t.drop p) (n + 1) p = endOf ar t i) (hp : p < t.length) (hs : okSym ar (t.getD p 0) = true) : endGo ar (t.drop (p + 1)) (n + arOf ar (t.getD p 0)) (p + 1) = endOf ar t i := by
  rw [← h, drop_cons t p hp, endGo_cons, if_pos hs]
theorem go_step_no {ar t : List Int} {n p i : Nat} (h : endGo ar (t.drop p) (n + 1) p = endOf ar t i) (hp : p < t.length) (hs : okSym ar (t.getD p 0) = false) : endOf ar t i = none := by
  rw [← h, drop_cons t p hp, endGo_cons, hs]; rfl
theorem go_step_end {ar t : List Int} {n p i : Nat} (h : endGo ar (t.drop p) (n + 1) p = endOf ar t i) (hp : ¬ p < t.length) : endOf ar t i = none := by
  rw [← h, List.drop_eq_nil_of_le (by omega), endGo_nil]
theorem go_step_done {ar t : List Int} {p i : Nat} (h : endGo ar (t.drop p) 0 p = endOf ar t i) : endOf ar t i = some p := by
  rw [← h, endGo_zero]
theorem arOf_nat {ar : List Int} (n : Nat) : arOf ar (n : Int) = (ar.getD n 0).toNat := by
  unfold arOf; rw [if_neg (by omega)]; simp
theorem arOf_neg {ar : List Int} {x : Int} (h : x < 0) : arOf ar x = 0 := by unfold arOf; rw [if_pos h]
theorem okSym_lt {ar : List Int} {n : Nat} (h : okSym ar (n : Int) = true) : n < ar.length := by simp [okSym, inB] at h; omega

set_option maxRecDepth 100000 in
set_option maxHeartbeats 1000000 in
theorem l1End_c (l h l' h' : Nat) (v u : Value) (ar t : List Int) (i : Nat) (w : World) (hg : goodSign ar = true) (ht : t.length ≤ 1048576) (hi : i ≤ t.length) (hv : SlI l h w v ar) (hu : SlI l' h' w u t) :
    Calls Try.prog 141 #[.agg #[v], u, .int .i64 i] w (RetV w (.int .i64 (endI ar t i))) := by
  obtain ⟨ad, cap, rfl, -, -, hr⟩ := hv
  obtain ⟨ad', cap', rfl, -, -, hr'⟩ := hu
  have hlen := sign_len ar hg
  go_enter Try.func141, Try.ntmps141
  go_wp2_with fail
  go_loopw [2, 7] (fun a n wr => ∃ p m : Nat, p ≤ t.length ∧ m ≤ 1 + 3 * p ∧ a = .int .i64 p ∧ n = .int .i64 m ∧ endGo ar (t.drop p) m p = endOf ar t i ∧ Bel (w.alloc (.cells #[.slice ad ar.length cap] 30)) wr) (fun a _ _ => t.length + 1 - (intOf a).toNat)
  case atStart => exact ⟨i, 1, hi, by omega, rfl, rfl, rfl, Bel.rfl' _⟩
  case round =>
    obtain ⟨p, m, hp, hm, rfl, rfl, hgo, hb⟩ := hrel
    have hbox := boxc hb 0 _ rfl
    cases m with
    | zero =>
      have E := Lib.hid (endI_some (go_step_done hgo))
      clear hgo
      go_wp2_with fail
      go_ret
      exact ⟨by rw [E.out]; rfl, hb.of_alloc⟩
    | succ m =>
      by_cases hlt : p < t.length
      · obtain ⟨b', off', rfl, -, hcell'⟩ := rd hr' hb.of_alloc p hlt
        have E1 := Lib.hid (go_step_ok hgo hlt)
        have E2 := Lib.hid (go_step_no hgo hlt)
        have ha3 := arOf_le ar hg (t.getD p 0)
        clear hgo hr'
        generalize t.getD p 0 = x at *
        have hm1 : ((m + 1 : Nat) : Int) = (m : Int) + 1 := by omega
        rw [hm1]
        clear hm1
        cases hs : okSym ar x with
        | false =>
          have E := Lib.hid (endI_none (E2.out hs))
          have HS := Lib.hid (show inB x (-12) ((ar.length : Int) - 1) = false from hs); clear hs
          have hw1 := IntWalk.i64_in ((ar.length : Int) - 1) (by omega)
          go_wp2_with fail
          go_quiet ((go_at_call 104; exact Calls.quiet_of_same (l1In_qv _ _ _ _ HS.out _)))
          go_wp2
          go_ret
          exact ⟨by rw [E.out]; rfl, hb.of_alloc.drewN _⟩
        | true =>
          have HS := Lib.hid (show inB x (-12) ((ar.length : Int) - 1) = true from hs)
          have hw1 := IntWalk.i64_in ((ar.length : Int) - 1) (by omega)
          by_cases hx : x < 0
          · have E := Lib.hid (E1.out hs)
            rw [arOf_neg hx] at E
            clear hs
            have hx' : decide (x ≥ 0) = false := by simp; omega
            go_wp2_with fail
            go_quiet ((go_at_call 104; exact Calls.quiet_of_same (l1In_qv _ _ _ _ HS.out _)))
            go_wp2
            go_roundw
            case rel => exact ⟨p+1, m, by omega, by omega, by go_num, rfl, E.out, hb.drewN _⟩
            case measure => simp [intOf]; omega
          · obtain ⟨k, rfl⟩ : ∃ k : Nat, x = k := ⟨x.toNat, by omega⟩
            have E := Lib.hid (E1.out hs)
            have hk := okSym_lt hs
            clear hs
            obtain ⟨b, off, rfl, -, hcell⟩ := rd hr hb.of_alloc k hk
            have hn := ar_nonneg ar hg k
            rw [arOf_nat] at E
            clear hr E1 E2 ha3
            obtain ⟨q, hq⟩ : ∃ q : Nat, ar.getD k 0 = q := ⟨(ar.getD k 0).toNat, by omega⟩
            rw [hq] at hcell E hn
            rw [show ((q : Int)).toNat = q from by omega] at E
            clear hq
            have hk2 : (k : Int) < ar.length := by omega
            have hw2 := IntWalk.i64_in ((m : Int) + (q : Int)) (by omega)
            go_wp2_with fail
            go_quiet ((go_at_call 104; exact Calls.quiet_of_same (l1In_qv _ _ _ _ HS.out _)))
            go_wp2
            go_quiet (fail)
            go_wp2
            go_roundw
            case rel => exact ⟨p+1, m + q, by omega, by omega, by go_num, by go_num, E.out, hb.drewN _⟩
            case measure => simp [intOf]; omega
      · have E := Lib.hid (endI_none (go_step_end hgo hlt))
        clear hgo
        have hm1 : ((m + 1 : Nat) : Int) = (m : Int) + 1 := by omega
        rw [hm1]
        clear hm1
        have hge : decide ((p : Int) ≥ t.length) = true := by simp; omega
        go_wp2_with fail
        go_quiet (fail)
        go_wp2
        go_ret
        exact ⟨by rw [E.out]; rfl, hb.of_alloc.drewN _⟩
end Go.Proofs.Yteegjnobmbcjiaa
end
section
namespace Go.Proofs.Yteegjnobmbcjiaa
open Go.RowKit

def endP (ar t : List Int) (i : Nat) : Value := match endOf ar t i with | none => .tuple #[.int .i64 0, .bool false] | some e => .tuple #[.int .i64 e, .bool true]
theorem endP_none {ar t : List Int} {i : Nat} (h : endOf ar t i = none) : endP ar t i = .tuple #[.int .i64 0, .bool false] := by simp [endP, h]
theorem endP_some {ar t : List Int} {i e : Nat} (h : endOf ar t i = some e) : endP ar t i = .tuple #[.int .i64 e, .bool true] := by simp [endP, h]

set_option maxRecDepth 100000 in
set_option maxHeartbeats 1000000 in
theorem termEnd_c (l h l' h' : Nat) (v u : Value) (ar t : List Int) (i : Nat) (w : World) (hg : goodSign ar = true) (ht : t.length ≤ 1048576) (hi : i ≤ t.length) (hv : SlI l h w v ar) (hu : SlI l' h' w u t) :
    Calls Try.prog 138 #[.agg #[v], u, .int .i64 i] w (RetV w (endP ar t i)) := by
  obtain ⟨ad, cap, rfl, -, -, hr⟩ := hv
  obtain ⟨ad', cap', rfl, -, -, hr'⟩ := hu
  have hlen := sign_len ar hg
  go_enter Try.func138, Try.ntmps138
  go_wp2_with fail
  go_step3
  go_wp2_with fail
  go_step3
  go_wp2_with fail
  go_loopw [8, 9] (fun n a wr => ∃ p m : Nat, p ≤ t.length ∧ m ≤ 3 * p ∧ a = .int .i64 p ∧ n = .int .i64 ((m : Int) + 1) ∧ endGo ar (t.drop p) (m + 1) p = endOf ar t i ∧ Bel (w.alloc (.cells #[.slice ad ar.length cap] 30)) wr) (fun _ a _ => t.length + 1 - (intOf a).toNat)
  case atStart => exact ⟨i, 0, hi, by omega, rfl, rfl, rfl, Bel.rfl' _⟩
  case round =>
    obtain ⟨p, m, hp, hm, rfl, rfl, hgo, hb⟩ := hrel
    have hbox := boxc hb 0 _ rfl
    by_cases hlt : p < t.length
    · obtain ⟨b', off', rfl, -, hcell'⟩ := rd hr' hb.of_alloc p hlt
      have E1 := go_step_ok hgo hlt
      have E2 := go_step_no hgo hlt
      have ha3 := arOf_le ar hg (t.getD p 0)
      clear hgo hr'
      generalize t.getD p 0 = x at *
      cases hs : okSym ar x with
      | false =>
        have E := Lib.hid (endP_none (E2 hs))
        have hs2 : (0 ≤ x ∧ (ar.length : Int) ≤ x) ∨ (x < 0 ∧ x < -12) := by simp [okSym, inB] at hs; omega
        clear E1 E2 hs
        rcases hs2 with ⟨h1, h2⟩ | ⟨h1, h2⟩
        · have h3 : decide (x ≥ 0) = true := by simpa using h1
          have h4 : decide (x < 0) = false := by simp; omega
          go_wp2_with fail
          try rw [Exit.noGoto_ret]
          go_ret2
          exact ⟨by rw [E.out]; rfl, hb.of_alloc⟩
        · have h3 : decide (x ≥ 0) = false := by simp; omega
          go_wp2_with fail
          try rw [Exit.noGoto_ret]
          go_ret2
          exact ⟨by rw [E.out]; rfl, hb.of_alloc⟩
      | true =>
        by_cases hx : x < 0
        · have E := E1 hs
          rw [arOf_neg hx] at E
          have hs2 : -12 ≤ x := by simp [okSym, inB] at hs; omega
          clear hs E1 E2
          have hx' : decide (x ≥ 0) = false := by simp; omega
          cases m with
          | zero =>
            have EE := Lib.hid (endP_some (go_step_done E))
            clear E
            go_wp2_with fail
            try rw [Exit.noGoto_ret]
            go_ret2
            exact ⟨by rw [EE.out]; rfl, hb.of_alloc⟩
          | succ m =>
            have EE := Lib.hid E
            clear E
            rw [show ((m + 1 : Nat) : Int) = (m : Int) + 1 from by omega]
            go_wp2_with fail
            go_roundw
            case rel => exact ⟨p+1, m, by omega, by omega, by go_num, by go_num, EE.out, hb⟩
            case measure => simp [intOf]; omega
        · obtain ⟨k, rfl⟩ : ∃ k : Nat, x = k := ⟨x.toNat, by omega⟩
          have E := E1 hs
          have hk := okSym_lt hs
          clear hs
          obtain ⟨b, off, rfl, -, hcell⟩ := rd hr hb.of_alloc k hk
          have hn := ar_nonneg ar hg k
          rw [arOf_nat] at E
          clear hr E1 E2 ha3
          obtain ⟨q, hq⟩ : ∃ q : Nat, ar.getD k 0 = q := ⟨(ar.getD k 0).toNat, by omega⟩
          rw [hq] at hcell E hn
          rw [show ((q : Int)).toNat = q from by omega] at E
          clear hq
          have hk2 : (k : Int) < ar.length := by omega
          have h3 : decide ((k : Int) ≥ 0) = true := by simp
          by_cases hz : m + q < 1
          · rw [show m + q = 0 from by omega] at E
            have EE := Lib.hid (endP_some (go_step_done E))
            clear E
            go_wp2_with fail
            try rw [Exit.noGoto_ret]
            go_ret2
            exact ⟨by rw [EE.out]; rfl, hb.of_alloc⟩
          · have E' : endGo ar (t.drop (p+1)) ((m + q - 1) + 1) (p+1) = endOf ar t i := by rw [← E]; congr 1; omega
            have EE := Lib.hid E'
            clear E E'
            go_wp2_with fail
            go_roundw
            case rel => exact ⟨p+1, m + q - 1, by omega, by omega, by go_num, by go_num, EE.out, hb⟩
            case measure => simp [intOf]; omega
    · have E := Lib.hid (endP_none (go_step_end hgo hlt))
      clear hgo
      go_wp2_with fail
      try rw [Exit.noGoto_ret]
      go_ret2
      exact ⟨by rw [E.out]; rfl, hb.of_alloc⟩
end Go.Proofs.Yteegjnobmbcjiaa
end
section
namespace Go.Proofs.Yteegjnobmbcjiaa
open Go.RowKit

theorem sGoodSign_v (l h : Nat) (v : Value) (xs : List Int) (b : Bool) (w : World) (he : goodSign xs = b) (hx : xs.length ≤ 1048576) (hv : SlI l h w v xs) :
    Calls Try.prog 76 #[.agg #[v]] w (RetV w (.bool b)) := he ▸ sGoodSign_c l h v xs w hx hv
theorem iGoodSign_v (l h : Nat) (v : Value) (xs : List Int) (b : Bool) (w : World) (he : goodSign xs = b) (hx : xs.length ≤ 1048576) (hv : SlI l h w v xs) :
    Calls Try.prog 125 #[.agg #[v]] w (RetV w (.bool b)) := he ▸ iGoodSign_c l h v xs w hx hv

theorem okTerm_short {ar t : List Int} (h : inB t.length 1 40 = false) : okTerm ar t = false := by simp [okTerm, h]
theorem okTerm_eq {ar t : List Int} (h : inB t.length 1 40 = true) : okTerm ar t = (endI ar t 0 == (t.length : Int)) := by
  simp only [okTerm, h, Bool.true_and, endI]
  cases endOf ar t 0 with
  | none => simp
  | some e => simp; rw [Bool.eq_iff_iff]; simp; omega

theorem l1Term_c (l h l' h' : Nat) (v u : Value) (ar t : List Int) (w : World) (hg : goodSign ar = true) (ht : t.length ≤ 1048576) (hv : SlI l h w v ar) (hu : SlI l' h' w u t) :
    Calls Try.prog 95 #[.agg #[v], u] w (RetV w (.bool (okTerm ar t))) := by
  have hu0 := hu
  obtain ⟨ad', cap', rfl⟩ := hu.form
  cases hs : inB t.length 1 40 with
  | false =>
    have E := Lib.hid (okTerm_short (ar := ar) hs)
    have HS := Lib.hid hs; clear hs
    go_enter Try.func95, Try.ntmps95
    go_wp2_with (go_at_call 104; refine (l1In_f _ _ _ _ HS.out).mono ?_; rintro e w' ⟨rfl, hb1⟩)
    go_ret
    exact ⟨by rw [E.out]; rfl, hb1.of_alloc⟩
  | true =>
    have E := Lib.hid (okTerm_eq (ar := ar) hs)
    have HS := Lib.hid hs; clear hs
    have hc := l1End_c l h l' h' v (.slice ad' t.length cap') ar t 0
    have HC := Lib.hid hc; clear hc
    generalize endI ar t 0 = r at *
    go_enter Try.func95, Try.ntmps95
    go_wp2_with fail
    refine (l1In_t _ _ _ _ HS.out).mono ?_; rintro e w' ⟨rfl, hb1⟩
    have hx1 := boxc hb1 0 _ rfl
    go_wp2_with fail
    refine (HC.out _ hg ht (by omega) (hv.below hb1.of_alloc) (hu0.below hb1.of_alloc)).mono ?_; rintro e w2 ⟨rfl, hb2⟩
    go_wp2_with fail
    go_ret
    exact ⟨by rw [E.out]; rfl, hb1.of_alloc.step hb2⟩
theorem l1Term_v (l h l' h' : Nat) (v u : Value) (ar t : List Int) (b : Bool) (w : World) (he : okTerm ar t = b) (hg : goodSign ar = true) (ht : t.length ≤ 1048576) (hv : SlI l h w v ar) (hu : SlI l' h' w u t) :
    Calls Try.prog 95 #[.agg #[v], u] w (RetV w (.bool b)) := he ▸ l1Term_c l h l' h' v u ar t w hg ht hv hu

theorem goodTerm_iff {ar t : List Int} : goodTerm ar t = true ↔ goodSign ar = true ∧ okTerm ar t = true := by simp [goodTerm]
theorem good_long {ar t : List Int} (h : 40 < t.length) : goodTerm ar t = false := by
  simp [goodTerm, okTerm, inB]; omega

theorem iGoodTerm_c (l h l' h' : Nat) (v u : Value) (ar t : List Int) (w : World) (ha : ar.length ≤ 1048576) (ht : t.length ≤ 1048576) (hv : SlI l h w v ar) (hu : SlI l' h' w u t) :
    Calls Try.prog 90 #[.agg #[v], u] w (RetV w (.bool (goodTerm ar t))) := by
  have hu0 := hu
  obtain ⟨ad', cap', rfl⟩ := hu.form
  by_cases hl : 40 < t.length
  · have E := Lib.hid (good_long (ar := ar) hl)
    go_enter Try.func90, Try.ntmps90
    go_wp2_with fail
    go_ret
    exact ⟨by rw [E.out]; rfl, Bel.alloc0 _ _⟩
  · cases hs : goodSign ar with
    | false =>
      have E : Hid (goodTerm ar t = false) := by show goodTerm ar t = false; simp [goodTerm, hs]
      have HS := Lib.hid hs; clear hs
      go_enter Try.func90, Try.ntmps90
      go_wp2_with fail
      refine (iGoodSign_v _ _ _ _ _ _ HS.out ha (hv.alloc _)).mono ?_; rintro e w' ⟨rfl, hb1⟩
      go_wp2_with fail
      go_ret
      exact ⟨by rw [E.out]; rfl, hb1.of_alloc⟩
    | true =>
      have E : Hid (goodTerm ar t = okTerm ar t) := by show goodTerm ar t = okTerm ar t; simp [goodTerm, hs]
      have hc := termEnd_c l h l' h' v (.slice ad' t.length cap') ar t 0
      have HS := Lib.hid hs; clear hs
      cases he : endOf ar t 0 with
      | none =>
        have HC := Lib.hid (fun w a b c d e => endP_none he ▸ hc w a b c d e)
        have E2 : Hid (okTerm ar t = false) := by show okTerm ar t = false; simp [okTerm, he]
        clear hc he
        go_enter Try.func90, Try.ntmps90
        go_wp2_with fail
        refine (iGoodSign_v _ _ _ _ _ _ HS.out ha (hv.alloc _)).mono ?_; rintro e w' ⟨rfl, hb1⟩
        have hx1 := boxc hb1 0 _ rfl
        go_wp2_with fail
        refine (HC.out _ HS.out ht (by omega) (hv.below hb1.of_alloc) (hu0.below hb1.of_alloc)).mono ?_; rintro e w2 ⟨rfl, hb2⟩
        go_wp2_with fail
        go_ret
        exact ⟨by rw [E.out, E2.out]; rfl, hb1.of_alloc.step hb2⟩
      | some q =>
        have HC := Lib.hid (fun w a b c d e => endP_some he ▸ hc w a b c d e)
        have E2 : Hid (okTerm ar t = ((q : Int) == (t.length : Int))) := by
          show okTerm ar t = _
          have hq := endGo_gt ar (t.drop 0) 0 0 q he
          have hq2 := endGo_ge ar (t.drop 0) 1 0 q he
          simp at hq2
          rw [Bool.eq_iff_iff]
          simp only [okTerm, inB, he, Bool.and_eq_true, decide_eq_true_eq, beq_iff_eq, Option.some.injEq]
          omega
        clear hc he
        go_enter Try.func90, Try.ntmps90
        go_wp2_with fail
        refine (iGoodSign_v _ _ _ _ _ _ HS.out ha (hv.alloc _)).mono ?_; rintro e w' ⟨rfl, hb1⟩
        have hx1 := boxc hb1 0 _ rfl
        go_wp2_with fail
        refine (HC.out _ HS.out ht (by omega) (hv.below hb1.of_alloc) (hu0.below hb1.of_alloc)).mono ?_; rintro e w2 ⟨rfl, hb2⟩
        go_wp2_with fail
        go_ret
        exact ⟨by rw [E.out, E2.out]; rfl, hb1.of_alloc.step hb2⟩
theorem iGoodTerm_v (l h l' h' : Nat) (v u : Value) (ar t : List Int) (b : Bool) (w : World) (he : goodTerm ar t = b) (ha : ar.length ≤ 1048576) (ht : t.length ≤ 1048576) (hv : SlI l h w v ar) (hu : SlI l' h' w u t) :
    Calls Try.prog 90 #[.agg #[v], u] w (RetV w (.bool b)) := he ▸ iGoodTerm_c l h l' h' v u ar t w ha ht hv hu

/-- A valid term and an index in it. -/
def askOk (ar t : List Int) (i : Int) : Bool := goodTerm ar t && inB i 0 ((t.length : Int) - 1)
theorem askOk_iff {ar t : List Int} {i : Int} : askOk ar t i = true ↔ goodTerm ar t = true ∧ 0 ≤ i ∧ i < t.length := by
  simp [askOk, inB]; omega

/-- What EndOf answers. -/
def endN (ar t : List Int) (i : Int) : Int := if askOk ar t i then endI ar t i.toNat else 0
def endAns (ar t : List Int) (i : Int) : Value := .tuple #[.int .i64 (endN ar t i), .bool (askOk ar t i)]
theorem endAns_no {ar t : List Int} {i : Int} (h : askOk ar t i = false) : endAns ar t i = .tuple #[.int .i64 0, .bool false] := by simp [endAns, endN, h]
/-- An index that is asked for: as a natural number, with the end of its subterm. -/
theorem ask_yes {ar t : List Int} {i : Int} (h : askOk ar t i = true) : ∃ k e : Nat, i = k ∧ k < t.length ∧ endOf ar t k = some e ∧ k < e ∧ e ≤ t.length ∧ t.length ≤ 40 ∧ goodSign ar = true ∧ okTerm ar t = true := by
  obtain ⟨h1, h2, h3⟩ := askOk_iff.1 h
  obtain ⟨h4, h5⟩ := goodTerm_iff.1 h1
  obtain ⟨k, rfl⟩ : ∃ k : Nat, i = k := ⟨i.toNat, by omega⟩
  obtain ⟨e, he, hl, hu⟩ := good_end ar t h5 k (by omega)
  exact ⟨k, e, rfl, by omega, he, hl, hu, ((okTerm_iff ar t).1 h5).2.1, h4, h5⟩
theorem endAns_yes {ar t : List Int} {k e : Nat} (h : askOk ar t k = true) (he : endOf ar t k = some e) : endAns ar t k = .tuple #[.int .i64 e, .bool true] := by simp [endAns, endN, h, endI, he]

theorem sGoodSign_t {l h : Nat} {v : Value} {ar : List Int} {w : World} (ha : ar.length ≤ 1048576) (hv : SlI l h w v ar) :
    Calls Try.prog 76 #[.agg #[v]] w (RetV w (.bool (goodSign ar))) := sGoodSign_c l h v ar w ha hv
theorem iGoodSign_t {l h : Nat} {v : Value} {ar : List Int} {w : World} (ha : ar.length ≤ 1048576) (hv : SlI l h w v ar) :
    Calls Try.prog 125 #[.agg #[v]] w (RetV w (.bool (goodSign ar))) := iGoodSign_c l h v ar w ha hv
theorem iGoodTerm_t {l h l' h' : Nat} {v u : Value} {ar t : List Int} {w : World} (ha : ar.length ≤ 1048576) (hv : SlI l h w v ar) (ht : t.length ≤ 1048576) (hu : SlI l' h' w u t) :
    Calls Try.prog 90 #[.agg #[v], u] w (RetV w (.bool (goodTerm ar t))) := iGoodTerm_c l h l' h' v u ar t w ha ht hv hu
end Go.Proofs.Yteegjnobmbcjiaa
end
section
/- GoodSubst: both functions. -/
namespace Go.Proofs.Yteegjnobmbcjiaa
open Go.RowKit

def okEmpty (ar t : List Int) : Bool := t.isEmpty || okTerm ar t
def goodSubst (ar : List Int) (b : List (List Int)) : Bool := goodSign ar && (b.length == 12) && b.all (okEmpty ar)

theorem iGoodTerm_vv (l h l' h' : Nat) (v u : Value) (ar t : List Int) (b : Bool) (w : World) (he : okTerm ar t = b) (hg : goodSign ar = true) (ha : ar.length ≤ 1048576) (ht : t.length ≤ 1048576) (hv : SlI l h w v ar) (hu : SlI l' h' w u t) :
    Calls Try.prog 90 #[.agg #[v], u] w (RetV w (.bool b)) := iGoodTerm_v l h l' h' v u ar t b w (by simp [goodTerm, hg, he]) ha ht hv hu
theorem all_falseS (xs : List (List Int)) (p : List Int → Bool) (k : Nat) (hk : k < xs.length) (h : p (xs.getD k []) = false) : xs.all p = false := by
  rw [List.all_eq_false]
  exact ⟨xs[k], List.getElem_mem hk, by simpa [List.getD, hk] using h⟩
theorem all_splitS (xs : List (List Int)) (p : List Int → Bool) (k : Nat) (hk : k < xs.length) (h : (xs.take k).all p = true) : (xs.take (k+1)).all p = p (xs.getD k []) := by
  rw [List.take_succ_eq_append_getElem hk, List.all_append, h]
  simp [List.getD, hk]
theorem all_doneS (xs : List (List Int)) (p : List Int → Bool) (k : Nat) (hk : k ≤ xs.length) (h1 : ¬ k < xs.length) (h : (xs.take k).all p = true) : xs.all p = true := by
  obtain rfl : k = xs.length := by omega
  rwa [List.take_length] at h
theorem okEmpty_nil {ar t : List Int} (h : ¬ 0 < t.length) : okEmpty ar t = true := by rw [len0 h]; rfl
theorem okEmpty_pos {ar t : List Int} (h : 0 < t.length) : okEmpty ar t = okTerm ar t := by
  unfold okEmpty
  cases t with
  | nil => simp at h
  | cons x r => simp

set_option maxRecDepth 100000 in
set_option maxHeartbeats 400000 in
theorem iGoodSubst_c (l h l' h' : Nat) (v u : Value) (ar : List Int) (b : List (List Int)) (w : World) (ha : ar.length ≤ 1048576) (hv : SlI l h w v ar) (hb : short b) (hu : SlS l' h' w u b) :
    Calls Try.prog 89 #[.agg #[v], u] w (RetV w (.bool (goodSubst ar b))) := by
  obtain ⟨ad', cap', rfl⟩ := hu.form
  obtain ⟨-, hm⟩ := hb
  cases hs : goodSign ar with
  | false =>
    have E : Hid (goodSubst ar b = false) := by show _ = _; simp [goodSubst, hs]
    have HS := Lib.hid hs; clear hs
    by_cases hl : b.length = 12
    · have hl2 : ((b.length : Int) != 12) = false := by simp; omega
      go_enter Try.func89, Try.ntmps89
      go_wp2_with fail
      refine (iGoodSign_v _ _ _ _ _ _ HS.out ha (hv.alloc _)).mono ?_; rintro e w' ⟨rfl, hb1⟩
      go_wp2_with fail
      go_ret
      exact ⟨by rw [E.out]; rfl, hb1.of_alloc⟩
    · have hl2 : ((b.length : Int) != 12) = true := by simp; omega
      go_enter Try.func89, Try.ntmps89
      go_wp2_with fail
      go_ret
      exact ⟨by rw [E.out]; rfl, Bel.alloc0 _ _⟩
  | true =>
    by_cases hl : b.length = 12
    · have hG : Hid (goodSubst ar b = b.all (okEmpty ar)) := by show _ = _; simp [goodSubst, hs, hl]
      have hg := hs
      have HS := Lib.hid hs; clear hs
      have hl2 : ((b.length : Int) != 12) = false := by simp; omega
      go_enter Try.func89, Try.ntmps89
      go_wp2_with fail
      refine (iGoodSign_v _ _ _ _ _ _ HS.out ha (hv.alloc _)).mono ?_; rintro e w1 ⟨rfl, hb1⟩
      have hbox := boxc hb1 0 _ rfl
      go_wp2_with fail
      go_loopw [17] (fun i wr => ∃ k : Nat, k ≤ b.length ∧ i = .int .i64 k ∧ (b.take k).all (okEmpty ar) = true ∧ Bel (w.alloc (.cells #[v] 30)) wr) (fun i _ => b.length - (intOf i).toNat)
      case atStart => exact ⟨0, Nat.zero_le _, rfl, rfl, hb1⟩
      case round =>
        obtain ⟨k, hk, rfl, hall, hb2⟩ := hrel
        have hbox2 := boxc hb2 0 _ rfl
        by_cases hlt : k < b.length
        · obtain ⟨bb, off, p, rfl, -, hc, hp⟩ := hu.at hb2.of_alloc k hlt
          have hmk := hm k hlt
          have hsp := all_splitS b (okEmpty ar) k hlt hall
          have hfs := all_falseS b (okEmpty ar) k hlt
          clear hm hu hbox hall
          generalize b.getD k [] = t at *
          obtain ⟨ap, cp, rfl⟩ := hp.form
          by_cases hpos : 0 < t.length
          · rw [okEmpty_pos hpos] at hsp hfs
            cases ht : okTerm ar t with
            | false =>
              have E : Hid (goodSubst ar b = false) := by show _ = _; rw [hG.out]; exact hfs ht
              have HT := Lib.hid ht
              clear ht hsp hfs
              go_wp2_with fail
              refine (iGoodTerm_vv _ _ _ _ _ _ _ _ _ _ HT.out hg ha (by omega) (hv.below hb2.of_alloc) hp).mono ?_; rintro e w2 ⟨rfl, hb3⟩
              go_wp2_with fail
              go_ret
              exact ⟨by rw [E.out]; rfl, hb2.of_alloc.step hb3⟩
            | true =>
              have HA := Lib.hid (hsp.trans ht)
              have HT := Lib.hid ht
              clear ht hsp hfs
              go_wp2_with fail
              refine (iGoodTerm_vv _ _ _ _ _ _ _ _ _ _ HT.out hg ha (by omega) (hv.below hb2.of_alloc) hp).mono ?_; rintro e w2 ⟨rfl, hb3⟩
              go_wp2_with fail
              go_roundw
              case rel => exact ⟨k+1, by omega, by go_num, HA.out, hb2.step hb3⟩
              case measure => simp [intOf]; omega
          · have HA := Lib.hid (hsp.trans (okEmpty_nil hpos))
            have h0 : t.length = 0 := by omega
            clear hsp hfs hp
            rw [h0] at hc
            clear h0 hpos
            go_wp2_with fail
            go_roundw
            case rel => exact ⟨k+1, by omega, by go_num, HA.out, hb2⟩
            case measure => simp [intOf]; omega
        · have E : Hid (goodSubst ar b = true) := by show _ = _; rw [hG.out]; exact all_doneS b _ k hk hlt hall
          clear hall
          go_wp2_with fail
          go_ret
          exact ⟨by rw [E.out]; rfl, hb2.of_alloc⟩
    · have E : Hid (goodSubst ar b = false) := by show _ = _; simp [goodSubst, hl]
      have HS := Lib.hid hs; clear hs
      have hl2 : ((b.length : Int) != 12) = true := by simp; omega
      go_enter Try.func89, Try.ntmps89
      go_wp2_with fail
      go_ret
      exact ⟨by rw [E.out]; rfl, Bel.alloc0 _ _⟩
theorem iGoodSubst_v (l h l' h' : Nat) (v u : Value) (ar : List Int) (b : List (List Int)) (q : Bool) (w : World) (he : goodSubst ar b = q) (ha : ar.length ≤ 1048576) (hv : SlI l h w v ar) (hb : short b) (hu : SlS l' h' w u b) :
    Calls Try.prog 89 #[.agg #[v], u] w (RetV w (.bool q)) := he ▸ iGoodSubst_c l h l' h' v u ar b w ha hv hb hu
theorem iGoodSubst_t {l h l' h' : Nat} {v u : Value} {ar : List Int} {b : List (List Int)} {w : World} (ha : ar.length ≤ 1048576) (hv : SlI l h w v ar) (hb : short b) (hu : SlS l' h' w u b) :
    Calls Try.prog 89 #[.agg #[v], u] w (RetV w (.bool (goodSubst ar b))) := iGoodSubst_c l h l' h' v u ar b w ha hv hb hu
end Go.Proofs.Yteegjnobmbcjiaa
end
section
/- Lists of terms that are valid: both functions; the reference's also at signs that are not. -/
namespace Go.Proofs.Yteegjnobmbcjiaa
open Go.RowKit

def goodTerms (ar : List Int) (b : List (List Int)) (m : Nat) : Bool := goodSign ar && decide (b.length ≤ m) && b.all (okTerm ar)
theorem goodTerms_iff {ar : List Int} {b : List (List Int)} {m : Nat} : goodTerms ar b m = true ↔ goodSign ar = true ∧ b.length ≤ m ∧ ∀ t ∈ b, okTerm ar t = true := by
  simp only [goodTerms, Bool.and_eq_true, decide_eq_true_eq, List.all_eq_true]
  constructor
  · rintro ⟨⟨h1, h2⟩, h3⟩; exact ⟨h1, h2, h3⟩
  · rintro ⟨h1, h2, h3⟩; exact ⟨⟨h1, h2⟩, h3⟩

set_option maxRecDepth 100000 in
set_option maxHeartbeats 400000 in
theorem goodTerms_c (l h l' h' : Nat) (v u : Value) (ar : List Int) (b : List (List Int)) (m : Nat) (w : World) (hmm : m ≤ 1000) (ha : ar.length ≤ 1048576) (hv : SlI l h w v ar) (hb : short b) (hu : SlS l' h' w u b) :
    Calls Try.prog 74 #[.agg #[v], u, .int .i64 m] w (RetV w (.bool (goodTerms ar b m))) := by
  obtain ⟨ad', cap', rfl⟩ := hu.form
  obtain ⟨-, hm⟩ := hb
  by_cases hl : b.length ≤ m
  · have hl2 : decide (m < b.length) = false := by simp; omega
    cases hs : goodSign ar with
    | false =>
      have E : Hid (goodTerms ar b m = false) := by show _ = _; simp [goodTerms, hs]
      have HS := Lib.hid hs; clear hs
      go_enter Try.func74, Try.ntmps74
      go_wp2_with fail
      refine (iGoodSign_v _ _ _ _ _ _ HS.out ha (hv.alloc _)).mono ?_; rintro e w' ⟨rfl, hb1⟩
      go_wp2_with fail
      go_ret
      exact ⟨by rw [E.out]; rfl, hb1.of_alloc⟩
    | true =>
      have hG : Hid (goodTerms ar b m = b.all (okTerm ar)) := by show _ = _; simp [goodTerms, hs, hl]
      have hg := hs
      have HS := Lib.hid hs; clear hs
      go_enter Try.func74, Try.ntmps74
      go_wp2_with fail
      refine (iGoodSign_v _ _ _ _ _ _ HS.out ha (hv.alloc _)).mono ?_; rintro e w1 ⟨rfl, hb1⟩
      have hbox := boxc hb1 0 _ rfl
      go_wp2_with fail
      go_loopw [20] (fun i wr => ∃ k : Nat, k ≤ b.length ∧ i = .int .i64 k ∧ (b.take k).all (okTerm ar) = true ∧ Bel (w.alloc (.cells #[v] 30)) wr) (fun i _ => b.length - (intOf i).toNat)
      case atStart => exact ⟨0, Nat.zero_le _, rfl, rfl, hb1⟩
      case round =>
        obtain ⟨k, hk, rfl, hall, hb2⟩ := hrel
        have hbox2 := boxc hb2 0 _ rfl
        by_cases hlt : k < b.length
        · obtain ⟨bb, off, p, rfl, -, hc, hp⟩ := hu.at hb2.of_alloc k hlt
          have hmk := hm k hlt
          have hsp := all_splitS b (okTerm ar) k hlt hall
          have hfs := all_falseS b (okTerm ar) k hlt
          clear hm hu hbox hall
          generalize b.getD k [] = t at *
          obtain ⟨ap, cp, rfl⟩ := hp.form
          cases ht : okTerm ar t with
          | false =>
            have E : Hid (goodTerms ar b m = false) := by show _ = _; rw [hG.out]; exact hfs ht
            have HT := Lib.hid ht
            clear ht hsp hfs
            go_wp2_with fail
            refine (iGoodTerm_vv _ _ _ _ _ _ _ _ _ _ HT.out hg ha (by omega) (hv.below hb2.of_alloc) hp).mono ?_; rintro e w2 ⟨rfl, hb3⟩
            go_wp2_with fail
            go_ret
            exact ⟨by rw [E.out]; rfl, hb2.of_alloc.step hb3⟩
          | true =>
            have HA := Lib.hid (hsp.trans ht)
            have HT := Lib.hid ht
            clear ht hsp hfs
            go_wp2_with fail
            refine (iGoodTerm_vv _ _ _ _ _ _ _ _ _ _ HT.out hg ha (by omega) (hv.below hb2.of_alloc) hp).mono ?_; rintro e w2 ⟨rfl, hb3⟩
            go_wp2_with fail
            go_roundw
            case rel => exact ⟨k+1, by omega, by go_num, HA.out, hb2.step hb3⟩
            case measure => simp [intOf]; omega
        · have E : Hid (goodTerms ar b m = true) := by show _ = _; rw [hG.out]; exact all_doneS b _ k hk hlt hall
          clear hall
          go_wp2_with fail
          go_ret
          exact ⟨by rw [E.out]; rfl, hb2.of_alloc⟩
  · have E : Hid (goodTerms ar b m = false) := by show _ = _; simp [goodTerms, hl]
    have hl2 : decide (m < b.length) = true := by simp; omega
    go_enter Try.func74, Try.ntmps74
    go_wp2_with fail
    go_ret
    exact ⟨by rw [E.out]; rfl, Bel.alloc0 _ _⟩
theorem goodTerms_v (l h l' h' : Nat) (v u : Value) (ar : List Int) (b : List (List Int)) (m : Nat) (q : Bool) (w : World) (he : goodTerms ar b m = q) (hmm : m ≤ 1000) (ha : ar.length ≤ 1048576) (hv : SlI l h w v ar) (hb : short b) (hu : SlS l' h' w u b) :
    Calls Try.prog 74 #[.agg #[v], u, .int .i64 m] w (RetV w (.bool q)) := he ▸ goodTerms_c l h l' h' v u ar b m w hmm ha hv hb hu

/-- Whatever the sign: an answer comes. -/
def RetN (w : World) (e : Ending) (w' : World) : Prop := ∃ x : Int, e = .returned (.int .i64 x) ∧ Bel w w'
def RetB (w : World) (e : Ending) (w' : World) : Prop := ∃ b, e = .returned (.bool b) ∧ Bel w w'
theorem l1End_any (l h l' h' : Nat) (v u : Value) (ar t : List Int) (w : World) (ha : ar.length ≤ 1048576) (ht : t.length ≤ 1048576) (hv : SlI l h w v ar) (hu : SlI l' h' w u t) :
    Calls Try.prog 141 #[.agg #[v], u, .int .i64 0] w (RetN w) := by
  obtain ⟨ad, cap, rfl, -, -, hr⟩ := hv
  obtain ⟨ad', cap', rfl, -, -, hr'⟩ := hu
  go_enter Try.func141, Try.ntmps141
  go_wp2_with fail
  go_loopw [2, 7] (fun a n wr => ∃ (p : Nat) (m : Int), p ≤ t.length ∧ a = .int .i64 p ∧ n = .int .i64 m ∧ Bel (w.alloc (.cells #[.slice ad ar.length cap] 30)) wr) (fun a _ _ => t.length + 1 - (intOf a).toNat)
  case atStart => exact ⟨0, 1, Nat.zero_le _, rfl, rfl, Bel.rfl' _⟩
  case round =>
    obtain ⟨p, m, hp, rfl, rfl, hb⟩ := hrel
    have hbox := boxc hb 0 _ rfl
    by_cases hm : 0 < m
    · have hm1 : decide (m > 0) = true := by simpa using hm
      by_cases hlt : p < t.length
      · obtain ⟨b', off', rfl, -, hcell'⟩ := rd hr' hb.of_alloc p hlt
        clear hr'
        generalize t.getD p 0 = x at *
        have hw1 := IntWalk.i64_in ((ar.length : Int) - 1) (by omega)
        cases hs : inB x (-12) ((ar.length : Int) - 1) with
        | false =>
          have HS := Lib.hid hs; clear hs
          go_wp2_with fail
          go_quiet ((go_at_call 104; exact Calls.quiet_of_same (l1In_qv _ _ _ _ HS.out _)))
          go_wp2
          go_ret
          exact ⟨_, rfl, hb.of_alloc.drewN _⟩
        | true =>
          have HS := Lib.hid hs
          by_cases hx : x < 0
          · clear hs
            have hx' : decide (x ≥ 0) = false := by simp; omega
            go_wp2_with fail
            go_quiet ((go_at_call 104; exact Calls.quiet_of_same (l1In_qv _ _ _ _ HS.out _)))
            go_wp2
            go_roundw
            case rel => exact ⟨p+1, _, by omega, by go_num, rfl, hb.drewN _⟩
            case measure => simp [intOf]; omega
          · obtain ⟨k, rfl⟩ : ∃ k : Nat, x = k := ⟨x.toNat, by omega⟩
            have hk : k < ar.length := by simp [inB] at hs; omega
            clear hs
            obtain ⟨b, off, rfl, -, hcell⟩ := rd hr hb.of_alloc k hk
            clear hr
            generalize ar.getD k 0 = q at *
            have hk2 : (k : Int) < ar.length := by omega
            go_wp2_with fail
            go_quiet ((go_at_call 104; exact Calls.quiet_of_same (l1In_qv _ _ _ _ HS.out _)))
            go_wp2
            go_quiet (fail)
            go_wp2
            go_roundw
            case rel => exact ⟨p+1, _, by omega, by go_num, rfl, hb.drewN _⟩
            case measure => simp [intOf]; omega
      · have hge : decide ((p : Int) ≥ t.length) = true := by simp; omega
        go_wp2_with fail
        go_quiet (fail)
        go_wp2
        go_ret
        exact ⟨_, rfl, hb.of_alloc.drewN _⟩
    · have hm1 : decide (m > 0) = false := by simpa using hm
      go_wp2_with fail
      go_ret
      exact ⟨_, rfl, hb.of_alloc⟩
theorem l1Term_any (l h l' h' : Nat) (v u : Value) (ar t : List Int) (w : World) (ha : ar.length ≤ 1048576) (ht : t.length ≤ 1048576) (hv : SlI l h w v ar) (hu : SlI l' h' w u t) :
    Calls Try.prog 95 #[.agg #[v], u] w (RetB w) := by
  have hu0 := hu
  obtain ⟨ad', cap', rfl⟩ := hu.form
  cases hs : inB t.length 1 40 with
  | false =>
    have HS := Lib.hid hs; clear hs
    go_enter Try.func95, Try.ntmps95
    go_wp2_with (go_at_call 104; refine (l1In_f _ _ _ _ HS.out).mono ?_; rintro e w' ⟨rfl, hb1⟩)
    go_ret
    exact ⟨_, rfl, hb1.of_alloc⟩
  | true =>
    have HS := Lib.hid hs; clear hs
    go_enter Try.func95, Try.ntmps95
    go_wp2_with fail
    refine (l1In_t _ _ _ _ HS.out).mono ?_; rintro e w' ⟨rfl, hb1⟩
    have hx1 := boxc hb1 0 _ rfl
    go_wp2_with fail
    refine (l1End_any _ _ _ _ _ _ ar t _ ha ht (hv.below hb1.of_alloc) (hu0.below hb1.of_alloc)).mono ?_; rintro e w2 ⟨x, rfl, hb2⟩
    go_wp2_with fail
    go_ret
    exact ⟨_, rfl, hb1.of_alloc.step hb2⟩

end Go.Proofs.Yteegjnobmbcjiaa
end
