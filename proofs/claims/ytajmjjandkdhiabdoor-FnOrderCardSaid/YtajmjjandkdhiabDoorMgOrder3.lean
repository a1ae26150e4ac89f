/- Texts merged, part 3. -/
import Derived.Test.YtajmjjandkdhiabDoorProg
import Derived.IntWalk
import Derived.Test.YtajmjjandkdhiabDoorMgOrder2
section
namespace Go.Proofs.YtajmjjandkdhiabDoor
open Go.RowKit

theorem l1In_q (n lo hi : Int) (w : World) : Calls Tryd.prog 50 #[.int .i64 n, .int .i64 lo, .int .i64 hi] w fun e w' => e = .returned (.bool (inB n lo hi)) ∧ w' = w := by
  unfold inB
  go_enter Tryd.func50, Tryd.ntmps50
  by_cases h1 : lo ≤ n
  · by_cases h2 : n ≤ hi
    · go_wp2
      go_ret
      exact ⟨by simp [h1, h2], rfl⟩
    · go_wp2
      go_ret
      exact ⟨by simp; omega, rfl⟩
  · go_wp2
    go_ret
    exact ⟨by simp; omega, rfl⟩
theorem l1In_qv (n lo hi : Int) (b : Bool) (h : inB n lo hi = b) (w : World) : Calls Tryd.prog 50 #[.int .i64 n, .int .i64 lo, .int .i64 hi] w fun e w' => e = .returned (.bool b) ∧ w' = w := h ▸ l1In_q n lo hi w
theorem l1In_c (n lo hi : Int) (w : World) : Calls Tryd.prog 50 #[.int .i64 n, .int .i64 lo, .int .i64 hi] w (RetV w (.bool (inB n lo hi))) :=
  (l1In_q n lo hi w).mono fun e w' ⟨h1, h2⟩ => ⟨h1, h2 ▸ Bel.rfl' w⟩
theorem l1In_t (n lo hi : Int) (w : World) (h : inB n lo hi = true) : Calls Tryd.prog 50 #[.int .i64 n, .int .i64 lo, .int .i64 hi] w (RetV w (.bool true)) := by
  rw [← h]; exact l1In_c n lo hi w
theorem l1In_f (n lo hi : Int) (w : World) (h : inB n lo hi = false) : Calls Tryd.prog 50 #[.int .i64 n, .int .i64 lo, .int .i64 hi] w (RetV w (.bool false)) := by
  rw [← h]; exact l1In_c n lo hi w

theorem l1All_c (l h : Nat) (v : Value) (xs : List Int) (lo hi : Int) (w : World) (hx : xs.length ≤ 1048576) (hv : SlI l h w v xs) :
    Calls Tryd.prog 57 #[v, .int .i64 lo, .int .i64 hi] w (RetV w (.bool (xs.all (inB · lo hi)))) := by
  obtain ⟨ad, cap, rfl, -, -, hr⟩ := hv
  go_enter Tryd.func57, Tryd.ntmps57
  go_wp2
  go_loopw [11] (fun i wr => ∃ k : Nat, k ≤ xs.length ∧ i = .int .i64 k ∧ (xs.take k).all (inB · lo hi) = true ∧ Bel w wr) (fun i _ => xs.length - (intOf i).toNat)
  case atStart => exact ⟨0, Nat.zero_le _, rfl, by simp, Bel.rfl' _⟩
  case round =>
    obtain ⟨k, hk, rfl, ha, hb⟩ := hrel
    by_cases hlt : k < xs.length
    · obtain ⟨b, off, rfl, -, hcell⟩ := rd hr hb k hlt
      have E1 := Lib.hid (all_split xs (inB · lo hi) k hlt ha)
      have E2 := Lib.hid (all_false xs (inB · lo hi) k hlt)
      clear hr ha
      generalize xs.getD k 0 = x at *
      by_cases hp : inB x lo hi = true
      · have HP := Lib.hid hp; clear hp
        go_wp2_with (go_at_call 50; refine (l1In_t _ _ _ _ HP.out).mono ?_; rintro e w' ⟨rfl, hb1⟩)
        go_roundw
        case rel => exact ⟨k+1, by omega, by go_num, by rw [E1.out]; exact HP.out, hb.step hb1⟩
        case measure => simp [intOf]; omega
      · have HP := Lib.hid (by simpa using hp : inB x lo hi = false); clear hp
        go_wp2_with (go_at_call 50; refine (l1In_f _ _ _ _ HP.out).mono ?_; rintro e w' ⟨rfl, hb1⟩)
        go_ret
        exact ⟨by rw [E2.out HP.out]; rfl, hb.step hb1⟩
    · have HA := Lib.hid ha; clear ha
      go_wp2_with fail
      go_ret
      exact ⟨by rw [all_done xs _ k hk hlt HA.out]; rfl, hb⟩
end Go.Proofs.YtajmjjandkdhiabDoor
end
section
namespace Go.Proofs.YtajmjjandkdhiabDoor
open Go.RowKit



theorem l1All_v (l h : Nat) (v : Value) (xs : List Int) (lo hi : Int) (w : World) (b : Bool) (he : xs.all (inB · lo hi) = b) (hx : xs.length ≤ 1048576) (hv : SlI l h w v xs) :
    Calls Tryd.prog 57 #[v, .int .i64 lo, .int .i64 hi] w (RetV w (.bool b)) := he ▸ l1All_c l h v xs lo hi w hx hv

theorem sGoodSign_c (l h : Nat) (v : Value) (xs : List Int) (w : World) (hx : xs.length ≤ 1048576) (hv : SlI l h w v xs) :
    Calls Tryd.prog 37 #[.agg #[v]] w (RetV w (.bool (goodSign xs))) := by
  have hv0 := hv
  obtain ⟨ad, cap, rfl, -, -, hr⟩ := hv
  unfold goodSign
  by_cases h1 : inB xs.length 1 10 = true
  · have hp : 0 < xs.length := by simp [inB] at h1; omega
    have H1 := Lib.hid h1; clear h1
    cases h2 : xs.all (inB · 0 3)
    · have H2 := Lib.hid h2; clear h2
      go_enter Tryd.func37, Tryd.ntmps37
      go_wp2_with (first | (go_at_call 50; refine (l1In_t _ _ _ _ H1.out).mono ?_; rintro e w' ⟨rfl, hb1⟩; have hx1 := boxc hb1 0 _ rfl) | (go_at_call 57; refine (l1All_v _ _ _ _ _ _ _ _ H2.out hx (hv0.below hb1.of_alloc)).mono ?_; rintro e w' ⟨rfl, hb2⟩))
      go_ret
      exact ⟨by simp, hb1.of_alloc.step hb2⟩
    · have H2 := Lib.hid h2; clear h2
      obtain ⟨b, off, rfl, hlt, hcell⟩ := rd0 hr hp
      generalize xs.getD 0 0 = x at *
      go_enter Tryd.func37, Tryd.ntmps37
      go_wp2_with (first | (go_at_call 50; refine (l1In_t _ _ _ _ H1.out).mono ?_; rintro e w' ⟨rfl, hb1⟩; have hx1 := boxc hb1 0 _ rfl) | (go_at_call 57; refine (l1All_v _ _ _ _ _ _ _ _ H2.out hx (hv0.below hb1.of_alloc)).mono ?_; rintro e w' ⟨rfl, hb2⟩; have hx2 := boxc (hb1.step hb2) 0 _ rfl; have hcell2 := (hb1.of_alloc.step hb2).at hlt hcell))
      go_ret
      exact ⟨by rw [H1.out]; simp, hb1.of_alloc.step hb2⟩
  · have H1 := Lib.hid (by simpa using h1 : inB xs.length 1 10 = false); clear h1
    go_enter Tryd.func37, Tryd.ntmps37
    go_wp2_with (first | (go_at_call 50; refine (l1In_f _ _ _ _ H1.out).mono ?_; rintro e w' ⟨rfl, hb1⟩; have hx1 := boxc hb1 0 _ rfl))
    go_ret
    exact ⟨by rw [H1.out]; simp, hb1.of_alloc⟩
end Go.Proofs.YtajmjjandkdhiabDoor
end
section
namespace Go.Proofs.YtajmjjandkdhiabDoor
open Go.RowKit

theorem goodSign_none (xs : List Int) (h : ¬ inB xs.length 1 10 = true) : goodSign xs = false := by simp [goodSign, h]

theorem iGoodSign_c (l h : Nat) (v : Value) (xs : List Int) (w : World) (hx : xs.length ≤ 1048576) (hv : SlI l h w v xs) :
    Calls Tryd.prog 47 #[.agg #[v]] w (RetV w (.bool (goodSign xs))) := by
  obtain ⟨ad, cap, rfl, -, -, hr⟩ := hv
  by_cases h1 : xs.length < 1
  · have e1 : Hid (goodSign xs = false) := goodSign_none xs (by simp [inB]; omega)
    have h1' : decide ((xs.length : Int) < 1) = true := by simp; omega
    go_enter Tryd.func47, Tryd.ntmps47
    go_wp2_with fail
    go_ret
    exact ⟨by rw [e1.out]; rfl, Bel.alloc0 _ _⟩
  · by_cases h2 : 10 < xs.length
    · have e1 : Hid (goodSign xs = false) := goodSign_none xs (by simp [inB]; omega)
      go_enter Tryd.func47, Tryd.ntmps47
      go_wp2_with fail
      go_ret
      exact ⟨by rw [e1.out]; rfl, Bel.alloc0 _ _⟩
    · obtain ⟨b, off, rfl, hlt, hcell⟩ := rd0 hr (by omega)
      have hin : inB xs.length 1 10 = true := by simp [inB]; omega
      by_cases h3 : xs.getD 0 0 = 0
      · have E3 : Hid (goodSign xs = xs.all (inB · 0 3)) := by show goodSign xs = _; unfold goodSign; rw [hin, h3]; simp
        rw [h3] at hcell
        clear h3
        go_enter Tryd.func47, Tryd.ntmps47
        go_wp2_with fail
        go_loop [25] (fun i => ∃ k : Nat, k ≤ xs.length ∧ i = .int .i64 k ∧ (xs.take k).all (inB · 0 3) = true) (fun i => xs.length - (intOf i).toNat)
        case atStart => exact ⟨0, Nat.zero_le _, rfl, by simp⟩
        case round =>
          obtain ⟨k, hk, rfl, ha⟩ := hrel
          by_cases hltk : k < xs.length
          · obtain ⟨b', off', he, hb', hcell'⟩ := rd hr (Bel.alloc0 w (.cells #[.slice (some ⟨b, off, none⟩) xs.length cap] 26)) k hltk
            simp only [Option.some.injEq, Addr.mk.injEq, and_true] at he
            obtain ⟨rfl, rfl⟩ := he
            have E1 := Lib.hid (all_split xs (inB · 0 3) k hltk ha)
            have E2 := Lib.hid (all_false xs (inB · 0 3) k hltk)
            clear hr ha
            generalize xs.getD k 0 = x at *
            by_cases hp : x < 0
            · go_wp2_with fail
              go_ret
              exact ⟨by rw [E3.out, E2.out (by simp [inB]; omega)]; rfl, Bel.alloc0 _ _⟩
            · by_cases hp2 : 3 < x
              · go_wp2_with fail
                go_ret
                exact ⟨by rw [E3.out, E2.out (by simp [inB]; omega)]; rfl, Bel.alloc0 _ _⟩
              · go_wp2_with fail
                go_round
                case rel => exact ⟨k+1, by omega, by go_num, by rw [E1.out]; simp [inB]; omega⟩
                case measure => simp [intOf]; omega
          · have HA := Lib.hid ha; clear ha
            go_wp2_with fail
            go_ret
            exact ⟨by rw [E3.out, all_done xs _ k hk hltk HA.out]; rfl, Bel.alloc0 _ _⟩
      · have e1 : Hid (goodSign xs = false) := by show goodSign xs = _; unfold goodSign; rw [beq_eq_false_iff_ne.2 h3]; simp
        have h3' : (xs.getD 0 0 != 0) = true := by simpa using h3
        clear h3
        generalize xs.getD 0 0 = x at *
        go_enter Tryd.func47, Tryd.ntmps47
        go_wp2_with fail
        go_ret
        exact ⟨by rw [e1.out]; rfl, Bel.alloc0 _ _⟩
end Go.Proofs.YtajmjjandkdhiabDoor
end
section
namespace Go.Proofs.YtajmjjandkdhiabDoor
open Go.RowKit

def endI (ar t : List Int) (i : Nat) : Int := match endOf ar t i with | none => -1 | some e => e
theorem endI_none {ar t : List Int} {i : Nat} (h : endOf ar t i = none) : endI ar t i = -1 := by simp [endI, h]
theorem endI_some {ar t : List Int} {i e : Nat} (h : endOf ar t i = some e) : endI ar t i = e := by simp [endI, h]

theorem go_step_ok {ar t : List Int} {n p i : Nat} (h : endGo ar (t.drop p) (n + 1) p = endOf ar t i) (hp : p < t.length) (hs : okSym ar (t.getD p 0) = true) : endGo ar (t.drop (p + 1)) (n + arOf ar (t.getD p 0)) (p + 1) = endOf ar t i := by
  rw [← h, drop_cons t p hp, endGo_cons, if_pos hs]
theorem go_step_no {ar t : List Int} {n p i : Nat} (h : endGo ar (t.drop p) (n + 1) p = endOf ar t i) (hp : p < t.length) (hs : okSym ar (t.getD p 0) = false) : endOf ar t i = none := by
  rw [← h, drop_cons t p hp, endGo_cons, hs]; rfl
theorem go_step_end {ar t : List Int} {n p i : Nat} (h : endGo ar (t.drop p) (n + 1) p = endOf ar t i) (hp : ¬ p < t.length) : endOf ar t i = none := by
  rw [← h, List.drop_eq_nil_of_le (by omega), endGo_nil]
theorem go_step_done {ar t : List Int} {p i : Nat} (h : endGo ar (t.drop p) 0 p = endOf ar t i) : endOf ar t i = some p := by
  rw [← h, endGo_zero]
theorem arOf_nat {ar : List Int} (n : Nat) : arOf ar (n : Int) = (ar.getD n 0).toNat := by
  unfold arOf; rw [if_neg (by omega)]; simp
theorem arOf_neg {ar : List Int} {x : Int} (h : x < 0) : arOf ar x = 0 := by unfold arOf; rw [if_pos h]
theorem okSym_lt {ar : List Int} {n : Nat} (h : okSym ar (n : Int) = true) : n < ar.length := by simp [okSym, inB] at h; omega

set_option maxRecDepth 100000 in
set_option maxHeartbeats 1000000 in
theorem l1End_c (l h l' h' : Nat) (v u : Value) (ar t : List Int) (i : Nat) (w : World) (hg : goodSign ar = true) (ht : t.length ≤ 1048576) (hi : i ≤ t.length) (hv : SlI l h w v ar) (hu : SlI l' h' w u t) :
    Calls Tryd.prog 51 #[.agg #[v], u, .int .i64 i] w (RetV w (.int .i64 (endI ar t i))) := by
  obtain ⟨ad, cap, rfl, -, -, hr⟩ := hv
  obtain ⟨ad', cap', rfl, -, -, hr'⟩ := hu
  have hlen := sign_len ar hg
  go_enter Tryd.func51, Tryd.ntmps51
  go_wp2_with fail
  go_loopw [2, 7] (fun a n wr => ∃ p m : Nat, p ≤ t.length ∧ m ≤ 1 + 3 * p ∧ a = .int .i64 p ∧ n = .int .i64 m ∧ endGo ar (t.drop p) m p = endOf ar t i ∧ Bel (w.alloc (.cells #[.slice ad ar.length cap] 26)) wr) (fun a _ _ => t.length + 1 - (intOf a).toNat)
  case atStart => exact ⟨i, 1, hi, by omega, rfl, rfl, rfl, Bel.rfl' _⟩
  case round =>
    obtain ⟨p, m, hp, hm, rfl, rfl, hgo, hb⟩ := hrel
    have hbox := boxc hb 0 _ rfl
    cases m with
    | zero =>
      have E := Lib.hid (endI_some (go_step_done hgo))
      clear hgo
      go_wp2_with fail
      go_ret
      exact ⟨by rw [E.out]; rfl, hb.of_alloc⟩
    | succ m =>
      by_cases hlt : p < t.length
      · obtain ⟨b', off', rfl, -, hcell'⟩ := rd hr' hb.of_alloc p hlt
        have E1 := Lib.hid (go_step_ok hgo hlt)
        have E2 := Lib.hid (go_step_no hgo hlt)
        have ha3 := arOf_le ar hg (t.getD p 0)
        clear hgo hr'
        generalize t.getD p 0 = x at *
        have hm1 : ((m + 1 : Nat) : Int) = (m : Int) + 1 := by omega
        rw [hm1]
        clear hm1
        cases hs : okSym ar x with
        | false =>
          have E := Lib.hid (endI_none (E2.out hs))
          have HS := Lib.hid (show inB x (-12) ((ar.length : Int) - 1) = false from hs); clear hs
          have hw1 := IntWalk.i64_in ((ar.length : Int) - 1) (by omega)
          go_wp2_with fail
          go_quiet ((go_at_call 50; exact Calls.quiet_of_same (l1In_qv _ _ _ _ HS.out _)))
          go_wp2
          go_ret
          exact ⟨by rw [E.out]; rfl, hb.of_alloc.drewN _⟩
        | true =>
          have HS := Lib.hid (show inB x (-12) ((ar.length : Int) - 1) = true from hs)
          have hw1 := IntWalk.i64_in ((ar.length : Int) - 1) (by omega)
          by_cases hx : x < 0
          · have E := Lib.hid (E1.out hs)
            rw [arOf_neg hx] at E
            clear hs
            have hx' : decide (x ≥ 0) = false := by simp; omega
            go_wp2_with fail
            go_quiet ((go_at_call 50; exact Calls.quiet_of_same (l1In_qv _ _ _ _ HS.out _)))
            go_wp2
            go_roundw
            case rel => exact ⟨p+1, m, by omega, by omega, by go_num, rfl, E.out, hb.drewN _⟩
            case measure => simp [intOf]; omega
          · obtain ⟨k, rfl⟩ : ∃ k : Nat, x = k := ⟨x.toNat, by omega⟩
            have E := Lib.hid (E1.out hs)
            have hk := okSym_lt hs
            clear hs
            obtain ⟨b, off, rfl, -, hcell⟩ := rd hr hb.of_alloc k hk
            have hn := ar_nonneg ar hg k
            rw [arOf_nat] at E
            clear hr E1 E2 ha3
            obtain ⟨q, hq⟩ : ∃ q : Nat, ar.getD k 0 = q := ⟨(ar.getD k 0).toNat, by omega⟩
            rw [hq] at hcell E hn
            rw [show ((q : Int)).toNat = q from by omega] at E
            clear hq
            have hk2 : (k : Int) < ar.length := by omega
            have hw2 := IntWalk.i64_in ((m : Int) + (q : Int)) (by omega)
            go_wp2_with fail
            go_quiet ((go_at_call 50; exact Calls.quiet_of_same (l1In_qv _ _ _ _ HS.out _)))
            go_wp2
            go_quiet (fail)
            go_wp2
            go_roundw
            case rel => exact ⟨p+1, m + q, by omega, by omega, by go_num, by go_num, E.out, hb.drewN _⟩
            case measure => simp [intOf]; omega
      · have E := Lib.hid (endI_none (go_step_end hgo hlt))
        clear hgo
        have hm1 : ((m + 1 : Nat) : Int) = (m : Int) + 1 := by omega
        rw [hm1]
        clear hm1
        have hge : decide ((p : Int) ≥ t.length) = true := by simp; omega
        go_wp2_with fail
        go_quiet (fail)
        go_wp2
        go_ret
        exact ⟨by rw [E.out]; rfl, hb.of_alloc.drewN _⟩
end Go.Proofs.YtajmjjandkdhiabDoor
end
section
namespace Go.Proofs.YtajmjjandkdhiabDoor
open Go.RowKit

def endP (ar t : List Int) (i : Nat) : Value := match endOf ar t i with | none => .tuple #[.int .i64 0, .bool false] | some e => .tuple #[.int .i64 e, .bool true]
theorem endP_none {ar t : List Int} {i : Nat} (h : endOf ar t i = none) : endP ar t i = .tuple #[.int .i64 0, .bool false] := by simp [endP, h]
theorem endP_some {ar t : List Int} {i e : Nat} (h : endOf ar t i = some e) : endP ar t i = .tuple #[.int .i64 e, .bool true] := by simp [endP, h]

set_option maxRecDepth 100000 in
set_option maxHeartbeats 1000000 in
theorem termEnd_c (l h l' h' : Nat) (v u : Value) (ar t : List Int) (i : Nat) (w : World) (hg : goodSign ar = true) (ht : t.length ≤ 1048576) (hi : i ≤ t.length) (hv : SlI l h w v ar) (hu : SlI l' h' w u t) :
    Calls Tryd.prog 39 #[.agg #[v], u, .int .i64 i] w (RetV w (endP ar t i)) := by
  obtain ⟨ad, cap, rfl, -, -, hr⟩ := hv
  obtain ⟨ad', cap', rfl, -, -, hr'⟩ := hu
  have hlen := sign_len ar hg
  go_enter Tryd.func39, Tryd.ntmps39
  go_wp2_with fail
  go_step3
  go_wp2_with fail
  go_step3
  go_wp2_with fail
  go_loopw [8, 9] (fun n a wr => ∃ p m : Nat, p ≤ t.length ∧ m ≤ 3 * p ∧ a = .int .i64 p ∧ n = .int .i64 ((m : Int) + 1) ∧ endGo ar (t.drop p) (m + 1) p = endOf ar t i ∧ Bel (w.alloc (.cells #[.slice ad ar.length cap] 26)) wr) (fun _ a _ => t.length + 1 - (intOf a).toNat)
  case atStart => exact ⟨i, 0, hi, by omega, rfl, rfl, rfl, Bel.rfl' _⟩
  case round =>
    obtain ⟨p, m, hp, hm, rfl, rfl, hgo, hb⟩ := hrel
    have hbox := boxc hb 0 _ rfl
    by_cases hlt : p < t.length
    · obtain ⟨b', off', rfl, -, hcell'⟩ := rd hr' hb.of_alloc p hlt
      have E1 := go_step_ok hgo hlt
      have E2 := go_step_no hgo hlt
      have ha3 := arOf_le ar hg (t.getD p 0)
      clear hgo hr'
      generalize t.getD p 0 = x at *
      cases hs : okSym ar x with
      | false =>
        have E := Lib.hid (endP_none (E2 hs))
        have hs2 : (0 ≤ x ∧ (ar.length : Int) ≤ x) ∨ (x < 0 ∧ x < -12) := by simp [okSym, inB] at hs; omega
        clear E1 E2 hs
        rcases hs2 with ⟨h1, h2⟩ | ⟨h1, h2⟩
        · have h3 : decide (x ≥ 0) = true := by simpa using h1
          have h4 : decide (x < 0) = false := by simp; omega
          go_wp2_with fail
          try rw [Exit.noGoto_ret]
          go_ret2
          exact ⟨by rw [E.out]; rfl, hb.of_alloc⟩
        · have h3 : decide (x ≥ 0) = false := by simp; omega
          go_wp2_with fail
          try rw [Exit.noGoto_ret]
          go_ret2
          exact ⟨by rw [E.out]; rfl, hb.of_alloc⟩
      | true =>
        by_cases hx : x < 0
        · have E := E1 hs
          rw [arOf_neg hx] at E
          have hs2 : -12 ≤ x := by simp [okSym, inB] at hs; omega
          clear hs E1 E2
          have hx' : decide (x ≥ 0) = false := by simp; omega
          cases m with
          | zero =>
            have EE := Lib.hid (endP_some (go_step_done E))
            clear E
            go_wp2_with fail
            try rw [Exit.noGoto_ret]
            go_ret2
            exact ⟨by rw [EE.out]; rfl, hb.of_alloc⟩
          | succ m =>
            have EE := Lib.hid E
            clear E
            rw [show ((m + 1 : Nat) : Int) = (m : Int) + 1 from by omega]
            go_wp2_with fail
            go_roundw
            case rel => exact ⟨p+1, m, by omega, by omega, by go_num, by go_num, EE.out, hb⟩
            case measure => simp [intOf]; omega
        · obtain ⟨k, rfl⟩ : ∃ k : Nat, x = k := ⟨x.toNat, by omega⟩
          have E := E1 hs
          have hk := okSym_lt hs
          clear hs
          obtain ⟨b, off, rfl, -, hcell⟩ := rd hr hb.of_alloc k hk
          have hn := ar_nonneg ar hg k
          rw [arOf_nat] at E
          clear hr E1 E2 ha3
          obtain ⟨q, hq⟩ : ∃ q : Nat, ar.getD k 0 = q := ⟨(ar.getD k 0).toNat, by omega⟩
          rw [hq] at hcell E hn
          rw [show ((q : Int)).toNat = q from by omega] at E
          clear hq
          have hk2 : (k : Int) < ar.length := by omega
          have h3 : decide ((k : Int) ≥ 0) = true := by simp
          by_cases hz : m + q < 1
          · rw [show m + q = 0 from by omega] at E
            have EE := Lib.hid (endP_some (go_step_done E))
            clear E
            go_wp2_with fail
            try rw [Exit.noGoto_ret]
            go_ret2
            exact ⟨by rw [EE.out]; rfl, hb.of_alloc⟩
          · have E' : endGo ar (t.drop (p+1)) ((m + q - 1) + 1) (p+1) = endOf ar t i := by rw [← E]; congr 1; omega
            have EE := Lib.hid E'
            clear E E'
            go_wp2_with fail
            go_roundw
            case rel => exact ⟨p+1, m + q - 1, by omega, by omega, by go_num, by go_num, EE.out, hb⟩
            case measure => simp [intOf]; omega
    · have E := Lib.hid (endP_none (go_step_end hgo hlt))
      clear hgo
      go_wp2_with fail
      try rw [Exit.noGoto_ret]
      go_ret2
      exact ⟨by rw [E.out]; rfl, hb.of_alloc⟩
end Go.Proofs.YtajmjjandkdhiabDoor
end
section
namespace Go.Proofs.YtajmjjandkdhiabDoor
open Go.RowKit

theorem sGoodSign_v (l h : Nat) (v : Value) (xs : List Int) (b : Bool) (w : World) (he : goodSign xs = b) (hx : xs.length ≤ 1048576) (hv : SlI l h w v xs) :
    Calls Tryd.prog 37 #[.agg #[v]] w (RetV w (.bool b)) := he ▸ sGoodSign_c l h v xs w hx hv
theorem iGoodSign_v (l h : Nat) (v : Value) (xs : List Int) (b : Bool) (w : World) (he : goodSign xs = b) (hx : xs.length ≤ 1048576) (hv : SlI l h w v xs) :
    Calls Tryd.prog 47 #[.agg #[v]] w (RetV w (.bool b)) := he ▸ iGoodSign_c l h v xs w hx hv

theorem okTerm_short {ar t : List Int} (h : inB t.length 1 40 = false) : okTerm ar t = false := by simp [okTerm, h]
theorem okTerm_eq {ar t : List Int} (h : inB t.length 1 40 = true) : okTerm ar t = (endI ar t 0 == (t.length : Int)) := by
  simp only [okTerm, h, Bool.true_and, endI]
  cases endOf ar t 0 with
  | none => simp
  | some e => simp; rw [Bool.eq_iff_iff]; simp; omega

theorem l1Term_c (l h l' h' : Nat) (v u : Value) (ar t : List Int) (w : World) (hg : goodSign ar = true) (ht : t.length ≤ 1048576) (hv : SlI l h w v ar) (hu : SlI l' h' w u t) :
    Calls Tryd.prog 26 #[.agg #[v], u] w (RetV w (.bool (okTerm ar t))) := by
  have hu0 := hu
  obtain ⟨ad', cap', rfl⟩ := hu.form
  cases hs : inB t.length 1 40 with
  | false =>
    have E := Lib.hid (okTerm_short (ar := ar) hs)
    have HS := Lib.hid hs; clear hs
    go_enter Tryd.func26, Tryd.ntmps26
    go_wp2_with (go_at_call 50; refine (l1In_f _ _ _ _ HS.out).mono ?_; rintro e w' ⟨rfl, hb1⟩)
    go_ret
    exact ⟨by rw [E.out]; rfl, hb1.of_alloc⟩
  | true =>
    have E := Lib.hid (okTerm_eq (ar := ar) hs)
    have HS := Lib.hid hs; clear hs
    have hc := l1End_c l h l' h' v (.slice ad' t.length cap') ar t 0
    have HC := Lib.hid hc; clear hc
    generalize endI ar t 0 = r at *
    go_enter Tryd.func26, Tryd.ntmps26
    go_wp2_with fail
    refine (l1In_t _ _ _ _ HS.out).mono ?_; rintro e w' ⟨rfl, hb1⟩
    have hx1 := boxc hb1 0 _ rfl
    go_wp2_with fail
    refine (HC.out _ hg ht (by omega) (hv.below hb1.of_alloc) (hu0.below hb1.of_alloc)).mono ?_; rintro e w2 ⟨rfl, hb2⟩
    go_wp2_with fail
    go_ret
    exact ⟨by rw [E.out]; rfl, hb1.of_alloc.step hb2⟩
theorem l1Term_v (l h l' h' : Nat) (v u : Value) (ar t : List Int) (b : Bool) (w : World) (he : okTerm ar t = b) (hg : goodSign ar = true) (ht : t.length ≤ 1048576) (hv : SlI l h w v ar) (hu : SlI l' h' w u t) :
    Calls Tryd.prog 26 #[.agg #[v], u] w (RetV w (.bool b)) := he ▸ l1Term_c l h l' h' v u ar t w hg ht hv hu

theorem sGoodTerm_c (l h l' h' : Nat) (v u : Value) (ar t : List Int) (w : World) (ha : ar.length ≤ 1048576) (ht : t.length ≤ 1048576) (hv : SlI l h w v ar) (hu : SlI l' h' w u t) :
    Calls Tryd.prog 15 #[.agg #[v], u] w (RetV w (.bool (goodTerm ar t))) := by
  cases hs : goodSign ar with
  | false =>
    have E : Hid (goodTerm ar t = false) := by show goodTerm ar t = false; simp [goodTerm, hs]
    have HS := Lib.hid hs; clear hs
    go_enter Tryd.func15, Tryd.ntmps15
    go_wp2_with fail
    refine (sGoodSign_v _ _ _ _ _ _ HS.out ha (hv.alloc _)).mono ?_; rintro e w' ⟨rfl, hb1⟩
    go_wp2_with fail
    go_ret
    exact ⟨by rw [E.out]; rfl, hb1.of_alloc⟩
  | true =>
    have E : Hid (goodTerm ar t = okTerm ar t) := by show goodTerm ar t = okTerm ar t; simp [goodTerm, hs]
    have HS := Lib.hid hs; clear hs
    have hc := l1Term_c l h l' h' v u ar t
    have HC := Lib.hid hc; clear hc
    generalize okTerm ar t = r at *
    cases r
    all_goals
      go_enter Tryd.func15, Tryd.ntmps15
      go_wp2_with fail
      refine (sGoodSign_v _ _ _ _ _ _ HS.out ha (hv.alloc _)).mono ?_; rintro e w' ⟨rfl, hb1⟩
      have hx1 := boxc hb1 0 _ rfl
      go_wp2_with fail
      refine (HC.out _ HS.out ht (hv.below hb1.of_alloc) (hu.below hb1.of_alloc)).mono ?_; rintro e w2 ⟨rfl, hb2⟩
      go_wp2_with fail
      go_ret
      exact ⟨by rw [E.out]; rfl, hb1.of_alloc.step hb2⟩
theorem sGoodTerm_v (l h l' h' : Nat) (v u : Value) (ar t : List Int) (b : Bool) (w : World) (he : goodTerm ar t = b) (ha : ar.length ≤ 1048576) (ht : t.length ≤ 1048576) (hv : SlI l h w v ar) (hu : SlI l' h' w u t) :
    Calls Tryd.prog 15 #[.agg #[v], u] w (RetV w (.bool b)) := he ▸ sGoodTerm_c l h l' h' v u ar t w ha ht hv hu

theorem goodTerm_iff {ar t : List Int} : goodTerm ar t = true ↔ goodSign ar = true ∧ okTerm ar t = true := by simp [goodTerm]
theorem good_long {ar t : List Int} (h : 40 < t.length) : goodTerm ar t = false := by
  simp [goodTerm, okTerm, inB]; omega

theorem iGoodTerm_c (l h l' h' : Nat) (v u : Value) (ar t : List Int) (w : World) (ha : ar.length ≤ 1048576) (ht : t.length ≤ 1048576) (hv : SlI l h w v ar) (hu : SlI l' h' w u t) :
    Calls Tryd.prog 24 #[.agg #[v], u] w (RetV w (.bool (goodTerm ar t))) := by
  have hu0 := hu
  obtain ⟨ad', cap', rfl⟩ := hu.form
  by_cases hl : 40 < t.length
  · have E := Lib.hid (good_long (ar := ar) hl)
    go_enter Tryd.func24, Tryd.ntmps24
    go_wp2_with fail
    go_ret
    exact ⟨by rw [E.out]; rfl, Bel.alloc0 _ _⟩
  · cases hs : goodSign ar with
    | false =>
      have E : Hid (goodTerm ar t = false) := by show goodTerm ar t = false; simp [goodTerm, hs]
      have HS := Lib.hid hs; clear hs
      go_enter Tryd.func24, Tryd.ntmps24
      go_wp2_with fail
      refine (iGoodSign_v _ _ _ _ _ _ HS.out ha (hv.alloc _)).mono ?_; rintro e w' ⟨rfl, hb1⟩
      go_wp2_with fail
      go_ret
      exact ⟨by rw [E.out]; rfl, hb1.of_alloc⟩
    | true =>
      have E : Hid (goodTerm ar t = okTerm ar t) := by show goodTerm ar t = okTerm ar t; simp [goodTerm, hs]
      have hc := termEnd_c l h l' h' v (.slice ad' t.length cap') ar t 0
      have HS := Lib.hid hs; clear hs
      cases he : endOf ar t 0 with
      | none =>
        have HC := Lib.hid (fun w a b c d e => endP_none he ▸ hc w a b c d e)
        have E2 : Hid (okTerm ar t = false) := by show okTerm ar t = false; simp [okTerm, he]
        clear hc he
        go_enter Tryd.func24, Tryd.ntmps24
        go_wp2_with fail
        refine (iGoodSign_v _ _ _ _ _ _ HS.out ha (hv.alloc _)).mono ?_; rintro e w' ⟨rfl, hb1⟩
        have hx1 := boxc hb1 0 _ rfl
        go_wp2_with fail
        refine (HC.out _ HS.out ht (by omega) (hv.below hb1.of_alloc) (hu0.below hb1.of_alloc)).mono ?_; rintro e w2 ⟨rfl, hb2⟩
        go_wp2_with fail
        go_ret
        exact ⟨by rw [E.out, E2.out]; rfl, hb1.of_alloc.step hb2⟩
      | some q =>
        have HC := Lib.hid (fun w a b c d e => endP_some he ▸ hc w a b c d e)
        have E2 : Hid (okTerm ar t = ((q : Int) == (t.length : Int))) := by
          show okTerm ar t = _
          have hq := endGo_gt ar (t.drop 0) 0 0 q he
          have hq2 := endGo_ge ar (t.drop 0) 1 0 q he
          simp at hq2
          rw [Bool.eq_iff_iff]
          simp only [okTerm, inB, he, Bool.and_eq_true, decide_eq_true_eq, beq_iff_eq, Option.some.injEq]
          omega
        clear hc he
        go_enter Tryd.func24, Tryd.ntmps24
        go_wp2_with fail
        refine (iGoodSign_v _ _ _ _ _ _ HS.out ha (hv.alloc _)).mono ?_; rintro e w' ⟨rfl, hb1⟩
        have hx1 := boxc hb1 0 _ rfl
        go_wp2_with fail
        refine (HC.out _ HS.out ht (by omega) (hv.below hb1.of_alloc) (hu0.below hb1.of_alloc)).mono ?_; rintro e w2 ⟨rfl, hb2⟩
        go_wp2_with fail
        go_ret
        exact ⟨by rw [E.out, E2.out]; rfl, hb1.of_alloc.step hb2⟩
theorem iGoodTerm_v (l h l' h' : Nat) (v u : Value) (ar t : List Int) (b : Bool) (w : World) (he : goodTerm ar t = b) (ha : ar.length ≤ 1048576) (ht : t.length ≤ 1048576) (hv : SlI l h w v ar) (hu : SlI l' h' w u t) :
    Calls Tryd.prog 24 #[.agg #[v], u] w (RetV w (.bool b)) := he ▸ iGoodTerm_c l h l' h' v u ar t w ha ht hv hu

/-- A valid term and an index in it. -/
def askOk (ar t : List Int) (i : Int) : Bool := goodTerm ar t && inB i 0 ((t.length : Int) - 1)
theorem askOk_iff {ar t : List Int} {i : Int} : askOk ar t i = true ↔ goodTerm ar t = true ∧ 0 ≤ i ∧ i < t.length := by
  simp [askOk, inB]; omega

theorem l1Asked_c (l h l' h' : Nat) (v u : Value) (ar t : List Int) (i : Int) (w : World) (ha : ar.length ≤ 1048576) (ht : t.length ≤ 1048576) (hv : SlI l h w v ar) (hu : SlI l' h' w u t) :
    Calls Tryd.prog 45 #[.agg #[v], u, .int .i64 i] w (RetV w (.bool (askOk ar t i))) := by
  have hu0 := hu
  obtain ⟨ad', cap', rfl⟩ := hu.form
  cases hs : goodTerm ar t with
  | false =>
    have E : Hid (askOk ar t i = false) := by show askOk ar t i = false; simp [askOk, hs]
    have HS := Lib.hid hs; clear hs
    go_enter Tryd.func45, Tryd.ntmps45
    go_wp2_with fail
    refine (sGoodTerm_v _ _ _ _ _ _ _ _ _ _ HS.out ha ht (hv.alloc _) (hu0.alloc _)).mono ?_; rintro e w' ⟨rfl, hb1⟩
    go_wp2_with fail
    go_ret
    exact ⟨by rw [E.out]; rfl, hb1.of_alloc⟩
  | true =>
    have E : Hid (askOk ar t i = inB i 0 ((t.length : Int) - 1)) := by show askOk ar t i = _; simp [askOk, hs]
    have HS := Lib.hid hs; clear hs
    have hc := l1In_c i 0 ((t.length : Int) - 1)
    have HC := Lib.hid hc; clear hc
    generalize inB i 0 ((t.length : Int) - 1) = r at *
    cases r
    all_goals
      go_enter Tryd.func45, Tryd.ntmps45
      go_wp2_with fail
      refine (sGoodTerm_v _ _ _ _ _ _ _ _ _ _ HS.out ha ht (hv.alloc _) (hu0.alloc _)).mono ?_; rintro e w' ⟨rfl, hb1⟩
      go_wp2_with fail
      refine (HC.out _).mono ?_; rintro e w2 ⟨rfl, hb2⟩
      go_wp2_with fail
      go_ret
      exact ⟨by rw [E.out]; rfl, hb1.of_alloc.step hb2⟩
theorem l1Asked_v (l h l' h' : Nat) (v u : Value) (ar t : List Int) (i : Int) (b : Bool) (w : World) (he : askOk ar t i = b) (ha : ar.length ≤ 1048576) (ht : t.length ≤ 1048576) (hv : SlI l h w v ar) (hu : SlI l' h' w u t) :
    Calls Tryd.prog 45 #[.agg #[v], u, .int .i64 i] w (RetV w (.bool b)) := he ▸ l1Asked_c l h l' h' v u ar t i w ha ht hv hu

theorem hasIndex_c (l h l' h' : Nat) (v u : Value) (ar t : List Int) (i : Int) (w : World) (ha : ar.length ≤ 1048576) (ht : t.length ≤ 1048576) (hv : SlI l h w v ar) (hu : SlI l' h' w u t) :
    Calls Tryd.prog 38 #[.agg #[v], u, .int .i64 i] w (RetV w (.bool (askOk ar t i))) := by
  have hu0 := hu
  obtain ⟨ad', cap', rfl⟩ := hu.form
  cases hs : goodTerm ar t with
  | false =>
    have E : Hid (askOk ar t i = false) := by show askOk ar t i = false; simp [askOk, hs]
    have HS := Lib.hid hs; clear hs
    go_enter Tryd.func38, Tryd.ntmps38
    go_wp2_with fail
    refine (iGoodTerm_v _ _ _ _ _ _ _ _ _ _ HS.out ha ht (hv.alloc _) (hu0.alloc _)).mono ?_; rintro e w' ⟨rfl, hb1⟩
    go_wp2_with fail
    go_ret
    exact ⟨by rw [E.out]; rfl, hb1.of_alloc⟩
  | true =>
    have HS := Lib.hid hs
    by_cases h1 : 0 ≤ i
    · by_cases h2 : i < t.length
      · have E : Hid (askOk ar t i = true) := by show askOk ar t i = _; rw [askOk_iff]; exact ⟨hs, h1, h2⟩
        have h3 : decide (i ≥ 0) = true := by simpa using h1
        clear hs
        go_enter Tryd.func38, Tryd.ntmps38
        go_wp2_with fail
        refine (iGoodTerm_v _ _ _ _ _ _ _ _ _ _ HS.out ha ht (hv.alloc _) (hu0.alloc _)).mono ?_; rintro e w' ⟨rfl, hb1⟩
        go_wp2_with fail
        go_ret
        exact ⟨by rw [E.out]; rfl, hb1.of_alloc⟩
      · have E : Hid (askOk ar t i = false) := by show askOk ar t i = _; rw [Bool.eq_false_iff]; intro h; exact h2 (askOk_iff.1 h).2.2
        have h4 : decide (i < (t.length : Int)) = false := by simpa using h2
        have h3 : decide (i ≥ 0) = true := by simpa using h1
        clear hs
        go_enter Tryd.func38, Tryd.ntmps38
        go_wp2_with fail
        refine (iGoodTerm_v _ _ _ _ _ _ _ _ _ _ HS.out ha ht (hv.alloc _) (hu0.alloc _)).mono ?_; rintro e w' ⟨rfl, hb1⟩
        go_wp2_with fail
        go_ret
        exact ⟨by rw [E.out]; rfl, hb1.of_alloc⟩
    · have E : Hid (askOk ar t i = false) := by show askOk ar t i = _; rw [Bool.eq_false_iff]; intro h; exact h1 (askOk_iff.1 h).2.1
      have h3 : decide (i ≥ 0) = false := by simp; omega
      clear hs
      go_enter Tryd.func38, Tryd.ntmps38
      go_wp2_with fail
      refine (iGoodTerm_v _ _ _ _ _ _ _ _ _ _ HS.out ha ht (hv.alloc _) (hu0.alloc _)).mono ?_; rintro e w' ⟨rfl, hb1⟩
      go_wp2_with fail
      go_ret
      exact ⟨by rw [E.out]; rfl, hb1.of_alloc⟩
theorem hasIndex_v (l h l' h' : Nat) (v u : Value) (ar t : List Int) (i : Int) (b : Bool) (w : World) (he : askOk ar t i = b) (ha : ar.length ≤ 1048576) (ht : t.length ≤ 1048576) (hv : SlI l h w v ar) (hu : SlI l' h' w u t) :
    Calls Tryd.prog 38 #[.agg #[v], u, .int .i64 i] w (RetV w (.bool b)) := he ▸ hasIndex_c l h l' h' v u ar t i w ha ht hv hu

/-- What EndOf answers. -/
def endN (ar t : List Int) (i : Int) : Int := if askOk ar t i then endI ar t i.toNat else 0
def endAns (ar t : List Int) (i : Int) : Value := .tuple #[.int .i64 (endN ar t i), .bool (askOk ar t i)]
theorem endAns_no {ar t : List Int} {i : Int} (h : askOk ar t i = false) : endAns ar t i = .tuple #[.int .i64 0, .bool false] := by simp [endAns, endN, h]
/-- An index that is asked for: as a natural number, with the end of its subterm. -/
theorem ask_yes {ar t : List Int} {i : Int} (h : askOk ar t i = true) : ∃ k e : Nat, i = k ∧ k < t.length ∧ endOf ar t k = some e ∧ k < e ∧ e ≤ t.length ∧ t.length ≤ 40 ∧ goodSign ar = true ∧ okTerm ar t = true := by
  obtain ⟨h1, h2, h3⟩ := askOk_iff.1 h
  obtain ⟨h4, h5⟩ := goodTerm_iff.1 h1
  obtain ⟨k, rfl⟩ : ∃ k : Nat, i = k := ⟨i.toNat, by omega⟩
  obtain ⟨e, he, hl, hu⟩ := good_end ar t h5 k (by omega)
  exact ⟨k, e, rfl, by omega, he, hl, hu, ((okTerm_iff ar t).1 h5).2.1, h4, h5⟩
theorem endAns_yes {ar t : List Int} {k e : Nat} (h : askOk ar t k = true) (he : endOf ar t k = some e) : endAns ar t k = .tuple #[.int .i64 e, .bool true] := by simp [endAns, endN, h, endI, he]

theorem sGoodSign_t {l h : Nat} {v : Value} {ar : List Int} {w : World} (ha : ar.length ≤ 1048576) (hv : SlI l h w v ar) :
    Calls Tryd.prog 37 #[.agg #[v]] w (RetV w (.bool (goodSign ar))) := sGoodSign_c l h v ar w ha hv
theorem iGoodSign_t {l h : Nat} {v : Value} {ar : List Int} {w : World} (ha : ar.length ≤ 1048576) (hv : SlI l h w v ar) :
    Calls Tryd.prog 47 #[.agg #[v]] w (RetV w (.bool (goodSign ar))) := iGoodSign_c l h v ar w ha hv
theorem sGoodTerm_t {l h l' h' : Nat} {v u : Value} {ar t : List Int} {w : World} (ha : ar.length ≤ 1048576) (hv : SlI l h w v ar) (ht : t.length ≤ 1048576) (hu : SlI l' h' w u t) :
    Calls Tryd.prog 15 #[.agg #[v], u] w (RetV w (.bool (goodTerm ar t))) := sGoodTerm_c l h l' h' v u ar t w ha ht hv hu
theorem iGoodTerm_t {l h l' h' : Nat} {v u : Value} {ar t : List Int} {w : World} (ha : ar.length ≤ 1048576) (hv : SlI l h w v ar) (ht : t.length ≤ 1048576) (hu : SlI l' h' w u t) :
    Calls Tryd.prog 24 #[.agg #[v], u] w (RetV w (.bool (goodTerm ar t))) := iGoodTerm_c l h l' h' v u ar t w ha ht hv hu
end Go.Proofs.YtajmjjandkdhiabDoor
end
section
/- GoodSubst: both functions. -/
namespace Go.Proofs.YtajmjjandkdhiabDoor
open Go.RowKit

def okEmpty (ar t : List Int) : Bool := t.isEmpty || okTerm ar t
def goodSubst (ar : List Int) (b : List (List Int)) : Bool := goodSign ar && (b.length == 12) && b.all (okEmpty ar)

theorem iGoodTerm_vv (l h l' h' : Nat) (v u : Value) (ar t : List Int) (b : Bool) (w : World) (he : okTerm ar t = b) (hg : goodSign ar = true) (ha : ar.length ≤ 1048576) (ht : t.length ≤ 1048576) (hv : SlI l h w v ar) (hu : SlI l' h' w u t) :
    Calls Tryd.prog 24 #[.agg #[v], u] w (RetV w (.bool b)) := iGoodTerm_v l h l' h' v u ar t b w (by simp [goodTerm, hg, he]) ha ht hv hu
theorem all_falseS (xs : List (List Int)) (p : List Int → Bool) (k : Nat) (hk : k < xs.length) (h : p (xs.getD k []) = false) : xs.all p = false := by
  rw [List.all_eq_false]
  exact ⟨xs[k], List.getElem_mem hk, by simpa [List.getD, hk] using h⟩
theorem all_splitS (xs : List (List Int)) (p : List Int → Bool) (k : Nat) (hk : k < xs.length) (h : (xs.take k).all p = true) : (xs.take (k+1)).all p = p (xs.getD k []) := by
  rw [List.take_succ_eq_append_getElem hk, List.all_append, h]
  simp [List.getD, hk]
theorem all_doneS (xs : List (List Int)) (p : List Int → Bool) (k : Nat) (hk : k ≤ xs.length) (h1 : ¬ k < xs.length) (h : (xs.take k).all p = true) : xs.all p = true := by
  obtain rfl : k = xs.length := by omega
  rwa [List.take_length] at h
theorem okEmpty_nil {ar t : List Int} (h : ¬ 0 < t.length) : okEmpty ar t = true := by rw [len0 h]; rfl
theorem okEmpty_pos {ar t : List Int} (h : 0 < t.length) : okEmpty ar t = okTerm ar t := by
  unfold okEmpty
  cases t with
  | nil => simp at h
  | cons x r => simp

set_option maxRecDepth 100000 in
set_option maxHeartbeats 400000 in
theorem iGoodSubst_c (l h l' h' : Nat) (v u : Value) (ar : List Int) (b : List (List Int)) (w : World) (ha : ar.length ≤ 1048576) (hv : SlI l h w v ar) (hb : short b) (hu : SlS l' h' w u b) :
    Calls Tryd.prog 35 #[.agg #[v], u] w (RetV w (.bool (goodSubst ar b))) := by
  obtain ⟨ad', cap', rfl⟩ := hu.form
  obtain ⟨-, hm⟩ := hb
  cases hs : goodSign ar with
  | false =>
    have E : Hid (goodSubst ar b = false) := by show _ = _; simp [goodSubst, hs]
    have HS := Lib.hid hs; clear hs
    by_cases hl : b.length = 12
    · have hl2 : ((b.length : Int) != 12) = false := by simp; omega
      go_enter Tryd.func35, Tryd.ntmps35
      go_wp2_with fail
      refine (iGoodSign_v _ _ _ _ _ _ HS.out ha (hv.alloc _)).mono ?_; rintro e w' ⟨rfl, hb1⟩
      go_wp2_with fail
      go_ret
      exact ⟨by rw [E.out]; rfl, hb1.of_alloc⟩
    · have hl2 : ((b.length : Int) != 12) = true := by simp; omega
      go_enter Tryd.func35, Tryd.ntmps35
      go_wp2_with fail
      go_ret
      exact ⟨by rw [E.out]; rfl, Bel.alloc0 _ _⟩
  | true =>
    by_cases hl : b.length = 12
    · have hG : Hid (goodSubst ar b = b.all (okEmpty ar)) := by show _ = _; simp [goodSubst, hs, hl]
      have hg := hs
      have HS := Lib.hid hs; clear hs
      have hl2 : ((b.length : Int) != 12) = false := by simp; omega
      go_enter Tryd.func35, Tryd.ntmps35
      go_wp2_with fail
      refine (iGoodSign_v _ _ _ _ _ _ HS.out ha (hv.alloc _)).mono ?_; rintro e w1 ⟨rfl, hb1⟩
      have hbox := boxc hb1 0 _ rfl
      go_wp2_with fail
      go_loopw [17] (fun i wr => ∃ k : Nat, k ≤ b.length ∧ i = .int .i64 k ∧ (b.take k).all (okEmpty ar) = true ∧ Bel (w.alloc (.cells #[v] 26)) wr) (fun i _ => b.length - (intOf i).toNat)
      case atStart => exact ⟨0, Nat.zero_le _, rfl, rfl, hb1⟩
      case round =>
        obtain ⟨k, hk, rfl, hall, hb2⟩ := hrel
        have hbox2 := boxc hb2 0 _ rfl
        by_cases hlt : k < b.length
        · obtain ⟨bb, off, p, rfl, -, hc, hp⟩ := hu.at hb2.of_alloc k hlt
          have hmk := hm k hlt
          have hsp := all_splitS b (okEmpty ar) k hlt hall
          have hfs := all_falseS b (okEmpty ar) k hlt
          clear hm hu hbox hall
          generalize b.getD k [] = t at *
          obtain ⟨ap, cp, rfl⟩ := hp.form
          by_cases hpos : 0 < t.length
          · rw [okEmpty_pos hpos] at hsp hfs
            cases ht : okTerm ar t with
            | false =>
              have E : Hid (goodSubst ar b = false) := by show _ = _; rw [hG.out]; exact hfs ht
              have HT := Lib.hid ht
              clear ht hsp hfs
              go_wp2_with fail
              refine (iGoodTerm_vv _ _ _ _ _ _ _ _ _ _ HT.out hg ha (by omega) (hv.below hb2.of_alloc) hp).mono ?_; rintro e w2 ⟨rfl, hb3⟩
              go_wp2_with fail
              go_ret
              exact ⟨by rw [E.out]; rfl, hb2.of_alloc.step hb3⟩
            | true =>
              have HA := Lib.hid (hsp.trans ht)
              have HT := Lib.hid ht
              clear ht hsp hfs
              go_wp2_with fail
              refine (iGoodTerm_vv _ _ _ _ _ _ _ _ _ _ HT.out hg ha (by omega) (hv.below hb2.of_alloc) hp).mono ?_; rintro e w2 ⟨rfl, hb3⟩
              go_wp2_with fail
              go_roundw
              case rel => exact ⟨k+1, by omega, by go_num, HA.out, hb2.step hb3⟩
              case measure => simp [intOf]; omega
          · have HA := Lib.hid (hsp.trans (okEmpty_nil hpos))
            have h0 : t.length = 0 := by omega
            clear hsp hfs hp
            rw [h0] at hc
            clear h0 hpos
            go_wp2_with fail
            go_roundw
            case rel => exact ⟨k+1, by omega, by go_num, HA.out, hb2⟩
            case measure => simp [intOf]; omega
        · have E : Hid (goodSubst ar b = true) := by show _ = _; rw [hG.out]; exact all_doneS b _ k hk hlt hall
          clear hall
          go_wp2_with fail
          go_ret
          exact ⟨by rw [E.out]; rfl, hb2.of_alloc⟩
    · have E : Hid (goodSubst ar b = false) := by show _ = _; simp [goodSubst, hl]
      have HS := Lib.hid hs; clear hs
      have hl2 : ((b.length : Int) != 12) = true := by simp; omega
      go_enter Tryd.func35, Tryd.ntmps35
      go_wp2_with fail
      go_ret
      exact ⟨by rw [E.out]; rfl, Bel.alloc0 _ _⟩
theorem iGoodSubst_v (l h l' h' : Nat) (v u : Value) (ar : List Int) (b : List (List Int)) (q : Bool) (w : World) (he : goodSubst ar b = q) (ha : ar.length ≤ 1048576) (hv : SlI l h w v ar) (hb : short b) (hu : SlS l' h' w u b) :
    Calls Tryd.prog 35 #[.agg #[v], u] w (RetV w (.bool q)) := he ▸ iGoodSubst_c l h l' h' v u ar b w ha hv hb hu
theorem iGoodSubst_t {l h l' h' : Nat} {v u : Value} {ar : List Int} {b : List (List Int)} {w : World} (ha : ar.length ≤ 1048576) (hv : SlI l h w v ar) (hb : short b) (hu : SlS l' h' w u b) :
    Calls Tryd.prog 35 #[.agg #[v], u] w (RetV w (.bool (goodSubst ar b))) := iGoodSubst_c l h l' h' v u ar b w ha hv hb hu
end Go.Proofs.YtajmjjandkdhiabDoor
end
section
/- Apply, IsUnifier: both functions; putting terms for variables. -/
namespace Go.Proofs.YtajmjjandkdhiabDoor
open Go.RowKit

/-- What stands for an entry of a term. -/
def one1 (b : List (List Int)) (n : Int) : List Int := if n < 0 ∧ 0 < (b.getD (-1 - n).toNat []).length then b.getD (-1 - n).toNat [] else [n]
def appT (b : List (List Int)) (t : List Int) : List Int := t.flatMap (one1 b)
theorem appT_nil (b : List (List Int)) : appT b [] = [] := rfl
theorem appT_succ (b : List (List Int)) (t : List Int) (k : Nat) (hk : k < t.length) : appT b (t.take (k+1)) = appT b (t.take k) ++ one1 b (t.getD k 0) := by
  unfold appT
  rw [List.take_succ_eq_append_getElem hk, List.flatMap_append]
  simp [List.getD, hk]
theorem one1_var {b : List (List Int)} {n : Int} (h : n < 0) (hp : 0 < (b.getD (-1 - n).toNat []).length) : one1 b n = b.getD (-1 - n).toNat [] := by unfold one1; rw [if_pos ⟨h, hp⟩]
theorem one1_free {b : List (List Int)} {n : Int} (hp : ¬ 0 < (b.getD (-1 - n).toNat []).length) : one1 b n = [n] := by unfold one1; rw [if_neg (fun h => hp h.2)]
theorem one1_sym {b : List (List Int)} {n : Int} (h : ¬ n < 0) : one1 b n = [n] := by unfold one1; rw [if_neg (fun h2 => h h2.1)]
def lens40 (b : List (List Int)) : Prop := ∀ j, j < b.length → (b.getD j []).length ≤ 40
theorem getD_len40 {b : List (List Int)} (h : lens40 b) (j : Nat) : (b.getD j []).length ≤ 40 := by
  by_cases hj : j < b.length
  · exact h j hj
  · simp [List.getD, hj]
theorem one1_len {b : List (List Int)} (h : lens40 b) (n : Int) : (one1 b n).length ≤ 40 := by
  unfold one1
  split
  · exact getD_len40 h _
  · simp
theorem appT_len {b : List (List Int)} (h : lens40 b) (t : List Int) : (appT b t).length ≤ 40 * t.length := by
  unfold appT
  induction t with
  | nil => simp
  | cons x r ih =>
    have := one1_len h x
    simp only [List.flatMap_cons, List.length_append, List.length_cons]
    omega
theorem row_app {w : World} {base e : Nat} {v : Value} {acc xs : List Int} (h : w.ownsRow base e 1 v (acc.length + xs.length) (acc.map (Value.int .i64) ++ xs.map (Value.int .i64))) :
    w.ownsRow base e 1 v (acc ++ xs).length ((acc ++ xs).map (Value.int .i64)) := by simpa using h

def app40 (b : List (List Int)) (t : List Int) : List Int := if 40 < (appT b t).length then [] else appT b t
def app40ok (b : List (List Int)) (t : List Int) : Bool := !decide (40 < (appT b t).length)
theorem app40_no {b : List (List Int)} {t : List Int} (h : 40 < (appT b t).length) : app40 b t = [] ∧ app40ok b t = false := by simp [app40, app40ok, h]
theorem app40_yes {b : List (List Int)} {t : List Int} (h : ¬ 40 < (appT b t).length) : app40 b t = appT b t ∧ app40ok b t = true := by simp [app40, app40ok, h]
theorem _root_.Go.World.ownsRow.len_eq {w : World} {base e s n m c : Nat} {ad : Option Addr} {xs : List Value} (h : w.ownsRow base e s (.slice ad n c) m xs) : n = m := by
  rcases h.2 with ⟨e1, h0⟩ | ⟨g, cap, cur, e1, _⟩
  · simp at e1; omega
  · simp at e1; exact e1.2.1

set_option maxRecDepth 100000 in
set_option maxHeartbeats 400000 in
theorem applied_c (l h l' h' : Nat) (v u : Value) (b : List (List Int)) (t : List Int) (w : World) (hlen : b.length = 12) (hb : lens40 b) (ht : t.length ≤ 1024) (hlow : ∀ k, k < t.length → -12 ≤ t.getD k 0) (hu : SlS l' h' w u b) (hv : SlI l h w v t) :
    Calls Tryd.prog 36 #[u, v] w (RetIB w (app40 b t) (app40ok b t)) := by
  obtain ⟨i0, hi0, hz0, hz1, hz2⟩ := info_parts Tryd.info3
  obtain ⟨ad', cap', rfl⟩ := hu.form
  have HN := Lib.hid hlen; clear hlen
  obtain ⟨ad, cap, rfl, -, -, hr⟩ := hv
  go_enter Tryd.func36, Tryd.ntmps36
  go_wp2_with fail
  go_loopw [6, 11] (fun vs i wr => ∃ k : Nat, k ≤ t.length ∧ i = .int .i64 k ∧ wr.ownsRow w.heap.size 3 1 vs (appT b (t.take k)).length ((appT b (t.take k)).map (Value.int .i64)) ∧ Bel w wr) (fun _ i _ => t.length - (intOf i).toNat)
  case atStart => exact ⟨0, Nat.zero_le _, rfl, World.ownsRow_nil _ _ _ _, Bel.rfl' _⟩
  case round =>
    obtain ⟨k, hk, rfl, hown, hb2⟩ := hrel
    by_cases hlt : k < t.length
    · obtain ⟨bt, offt, rfl, hbl, hcell⟩ := rd hr hb2 k hlt
      have hx12 := hlow k hlt
      have hsucc := appT_succ b t k hlt
      have hal := appT_len hb (t.take k)
      have hal2 : (appT b (t.take k)).length ≤ 40960 := by simp at hal; omega
      have h40 := getD_len40 hb (-1 - t.getD k 0).toNat
      clear hr hlow hal
      generalize t.getD k 0 = x at *
      generalize appT b (t.take k) = acc at *
      generalize hq : appT b (t.take (k+1)) = nxt at *
      by_cases hx : x < 0
      · have hm : (-1 - x).toNat < b.length := by have hN : b.length = 12 := HN.out; omega
        have hi0' : 0 ≤ -1 - x := by omega
        have hi1 : -1 - x < b.length := by have hN : b.length = 12 := HN.out; omega
        obtain ⟨bb, off, p, rfl, -, hc, hp⟩ := hu.at hb2 _ hm
        have hv1 := fun h1 => one1_var (b := b) hx h1
        have hv2 := fun h1 => one1_free (b := b) (n := x) h1
        generalize b.getD (-1 - x).toNat [] = tt at *
        by_cases hpos : 0 < tt.length
        · rw [hv1 hpos] at hsucc
          obtain ⟨pb, po, pc, rfl, hpc⟩ := hp.plain hpos
          have hn := news_of_sl hp
          have HS := Lib.hid (And.intro hq hsucc)
          clear hv1 hv2 hq hsucc
          go_wp2_with (at_builtin; refine wpList_append_own _ rfl _ _ 24 rfl w.heap.size 3 i0 (.int .i64 0) 1 8 Tryd.underlying24 hi0 hz0 hz1 hz2 rfl (by decide) _ _ _ rfl hown ⟨pb, po, none⟩ tt.length pc (tt.map (Value.int .i64)) rfl (by simp) hn (ones_int _) (by unfold maxLen; first | omega | (simp; omega)) (by first | omega | (simp; omega)) (by have := hb2.size; first | omega | (simp; omega)) ?_; intro v' w1 hown' hgrow _)
          have hb3 := hb2.grown hgrow (fun k hk => own_base hown k hk)
          have hown2 := row_app (by simpa using hown')
          go_roundw
          case rel =>
            have e := HS.out.1.trans HS.out.2
            exact ⟨k+1, by omega, by go_num, by rw [HS.out.1, HS.out.2]; exact hown2, hb3⟩
          case measure => simp [intOf]; omega
        · rw [hv2 hpos] at hsucc
          have HS := Lib.hid (And.intro hq hsucc)
          have h0 : tt.length = 0 := by omega
          obtain ⟨ap, cp, rfl⟩ := hp.form
          rw [h0] at hc
          clear hv1 hv2 hp hpos h0 hq hsucc
          go_wp2_with (at_builtin; refine wpList_append_own _ rfl _ _ 24 rfl w.heap.size 3 i0 (.int .i64 0) 1 8 Tryd.underlying24 hi0 hz0 hz1 hz2 rfl (by decide) _ _ _ rfl (hown.alloc _) ⟨wr.heap.size, 0, none⟩ 1 1 [.int .i64 x] rfl rfl (news_one _ _ _) (one_int _) (by unfold maxLen; first | omega | (simp; omega)) (by first | omega | (simp; omega)) (by have := hb2.size; first | omega | (simp; omega)) ?_; intro v' w1 hown' hgrow _; have hb3 := (hb2.alloc (.cells #[.int .i64 x] 3)).grown hgrow (fun k hk => own_base hown k hk); have hown2 := row_snoc hown')
          go_roundw
          case rel => exact ⟨k+1, by omega, by go_num, by rw [HS.out.1, HS.out.2]; exact hown2, hb3⟩
          case measure => simp [intOf]; omega
      · rw [one1_sym hx] at hsucc
        have HS := Lib.hid (And.intro hq hsucc)
        clear hq hsucc
        go_wp2_with (at_builtin; refine wpList_append_own _ rfl _ _ 24 rfl w.heap.size 3 i0 (.int .i64 0) 1 8 Tryd.underlying24 hi0 hz0 hz1 hz2 rfl (by decide) _ _ _ rfl (hown.alloc _) ⟨wr.heap.size, 0, none⟩ 1 1 [.int .i64 x] rfl rfl (news_one _ _ _) (one_int _) (by unfold maxLen; first | omega | (simp; omega)) (by first | omega | (simp; omega)) (by have := hb2.size; first | omega | (simp; omega)) ?_; intro v' w1 hown' hgrow _; have hb3 := (hb2.alloc (.cells #[.int .i64 x] 3)).grown hgrow (fun k hk => own_base hown k hk); have hown2 := row_snoc hown')
        go_roundw
        case rel => exact ⟨k+1, by omega, by go_num, by rw [HS.out.1, HS.out.2]; exact hown2, hb3⟩
        case measure => simp [intOf]; omega
    · have e : t.take k = t := List.take_of_length_le (by omega)
      rw [e] at hown
      obtain ⟨g, n, c, hv'⟩ := own_form hown
      subst hv'
      have hn : n = (appT b t).length := hown.len_eq
      subst hn
      by_cases h40 : 40 < (appT b t).length
      · have E := Lib.hid (app40_no h40)
        go_wp2_with fail
        go_ret2
        exact ⟨_, _, _, by rw [E.out.2]; rfl, by rw [E.out.1]; exact OwnI.nil _ _ _, hb2⟩
      · have E := Lib.hid (app40_yes h40)
        go_wp2_with fail
        go_ret2
        exact ⟨_, _, _, by rw [E.out.2]; rfl, by rw [E.out.1]; exact OwnI.of_row hown, hb2⟩
end Go.Proofs.YtajmjjandkdhiabDoor
end
