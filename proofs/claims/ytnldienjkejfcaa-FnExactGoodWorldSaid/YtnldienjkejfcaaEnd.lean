import Derived.Test.YtnldienjkejfcaaT2
import Derived.Test.YtnldienjkejfcaaT3
import Derived.IntWalk
namespace Go.Proofs.Ytnldienjkejfcaa
open Go.RowKit

def endI (ar t : List Int) (i : Nat) : Int := match endOf ar t i with | none => -1 | some e => e
theorem endI_none {ar t : List Int} {i : Nat} (h : endOf ar t i = none) : endI ar t i = -1 := by simp [endI, h]
theorem endI_some {ar t : List Int} {i e : Nat} (h : endOf ar t i = some e) : endI ar t i = e := by simp [endI, h]

theorem go_step_ok {ar t : List Int} {n p i : Nat} (h : endGo ar (t.drop p) (n + 1) p = endOf ar t i) (hp : p < t.length) (hs : okSym ar (t.getD p 0) = true) : endGo ar (t.drop (p + 1)) (n + arOf ar (t.getD p 0)) (p + 1) = endOf ar t i := by
  rw [← h, drop_cons t p hp, endGo_cons, if_pos hs]
theorem go_step_no {ar t : List Int} {n p i : Nat} (h : endGo ar (t.drop p) (n + 1) p = endOf ar t i) (hp : p < t.length) (hs : okSym ar (t.getD p 0) = false) : endOf ar t i = none := by
  rw [← h, drop_cons t p hp, endGo_cons, hs]; rfl
theorem go_step_end {ar t : List Int} {n p i : Nat} (h : endGo ar (t.drop p) (n + 1) p = endOf ar t i) (hp : ¬ p < t.length) : endOf ar t i = none := by
  rw [← h, List.drop_eq_nil_of_le (by omega), endGo_nil]
theorem go_step_done {ar t : List Int} {p i : Nat} (h : endGo ar (t.drop p) 0 p = endOf ar t i) : endOf ar t i = some p := by
  rw [← h, endGo_zero]
theorem arOf_nat {ar : List Int} (n : Nat) : arOf ar (n : Int) = (ar.getD n 0).toNat := by
  unfold arOf; rw [if_neg (by omega)]; simp
theorem arOf_neg {ar : List Int} {x : Int} (h : x < 0) : arOf ar x = 0 := by unfold arOf; rw [if_pos h]
theorem okSym_lt {ar : List Int} {n : Nat} (h : okSym ar (n : Int) = true) : n < ar.length := by simp [okSym, inB] at h; omega

set_option maxRecDepth 100000 in
set_option maxHeartbeats 1000000 in
theorem l1End_c (l h l' h' : Nat) (v u : Value) (ar t : List Int) (i : Nat) (w : World) (hg : goodSign ar = true) (ht : t.length ≤ 1048576) (hi : i ≤ t.length) (hv : SlI l h w v ar) (hu : SlI l' h' w u t) :
    Calls Try.prog 76 #[.agg #[v], u, .int .i64 i] w (RetV w (.int .i64 (endI ar t i))) := by
  obtain ⟨ad, cap, rfl, -, -, hr⟩ := hv
  obtain ⟨ad', cap', rfl, -, -, hr'⟩ := hu
  have hlen := sign_len ar hg
  go_enter Try.func76, Try.ntmps76
  go_wp2_with fail
  go_loopw [2, 7] (fun a n wr => ∃ p m : Nat, p ≤ t.length ∧ m ≤ 1 + 3 * p ∧ a = .int .i64 p ∧ n = .int .i64 m ∧ endGo ar (t.drop p) m p = endOf ar t i ∧ Bel (w.alloc (.cells #[.slice ad ar.length cap] 30)) wr) (fun a _ _ => t.length + 1 - (intOf a).toNat)
  case atStart => exact ⟨i, 1, hi, by omega, rfl, rfl, rfl, Bel.rfl' _⟩
  case round =>
    obtain ⟨p, m, hp, hm, rfl, rfl, hgo, hb⟩ := hrel
    have hbox := boxc hb 0 _ rfl
    cases m with
    | zero =>
      have E := Lib.hid (endI_some (go_step_done hgo))
      clear hgo
      go_wp2_with fail
      go_ret
      exact ⟨by rw [E.out]; rfl, hb.of_alloc⟩
    | succ m =>
      by_cases hlt : p < t.length
      · obtain ⟨b', off', rfl, -, hcell'⟩ := rd hr' hb.of_alloc p hlt
        have E1 := Lib.hid (go_step_ok hgo hlt)
        have E2 := Lib.hid (go_step_no hgo hlt)
        have ha3 := arOf_le ar hg (t.getD p 0)
        clear hgo hr'
        generalize t.getD p 0 = x at *
        have hm1 : ((m + 1 : Nat) : Int) = (m : Int) + 1 := by omega
        rw [hm1]
        clear hm1
        cases hs : okSym ar x with
        | false =>
          have E := Lib.hid (endI_none (E2.out hs))
          have HS := Lib.hid (show inB x (-12) ((ar.length : Int) - 1) = false from hs); clear hs
          have hw1 := IntWalk.i64_in ((ar.length : Int) - 1) (by omega)
          go_wp2_with fail
          go_quiet ((go_at_call 56; exact Calls.quiet_of_same (l1In_qv _ _ _ _ HS.out _)))
          go_wp2
          go_ret
          exact ⟨by rw [E.out]; rfl, hb.of_alloc.drewN _⟩
        | true =>
          have HS := Lib.hid (show inB x (-12) ((ar.length : Int) - 1) = true from hs)
          have hw1 := IntWalk.i64_in ((ar.length : Int) - 1) (by omega)
          by_cases hx : x < 0
          · have E := Lib.hid (E1.out hs)
            rw [arOf_neg hx] at E
            clear hs
            have hx' : decide (x ≥ 0) = false := by simp; omega
            go_wp2_with fail
            go_quiet ((go_at_call 56; exact Calls.quiet_of_same (l1In_qv _ _ _ _ HS.out _)))
            go_wp2
            go_roundw
            case rel => exact ⟨p+1, m, by omega, by omega, by go_num, rfl, E.out, hb.drewN _⟩
            case measure => simp [intOf]; omega
          · obtain ⟨k, rfl⟩ : ∃ k : Nat, x = k := ⟨x.toNat, by omega⟩
            have E := Lib.hid (E1.out hs)
            have hk := okSym_lt hs
            clear hs
            obtain ⟨b, off, rfl, -, hcell⟩ := rd hr hb.of_alloc k hk
            have hn := ar_nonneg ar hg k
            rw [arOf_nat] at E
            clear hr E1 E2 ha3
            obtain ⟨q, hq⟩ : ∃ q : Nat, ar.getD k 0 = q := ⟨(ar.getD k 0).toNat, by omega⟩
            rw [hq] at hcell E hn
            rw [show ((q : Int)).toNat = q from by omega] at E
            clear hq
            have hk2 : (k : Int) < ar.length := by omega
            have hw2 := IntWalk.i64_in ((m : Int) + (q : Int)) (by omega)
            go_wp2_with fail
            go_quiet ((go_at_call 56; exact Calls.quiet_of_same (l1In_qv _ _ _ _ HS.out _)))
            go_wp2
            go_quiet (fail)
            go_wp2
            go_roundw
            case rel => exact ⟨p+1, m + q, by omega, by omega, by go_num, by go_num, E.out, hb.drewN _⟩
            case measure => simp [intOf]; omega
      · have E := Lib.hid (endI_none (go_step_end hgo hlt))
        clear hgo
        have hm1 : ((m + 1 : Nat) : Int) = (m : Int) + 1 := by omega
        rw [hm1]
        clear hm1
        have hge : decide ((p : Int) ≥ t.length) = true := by simp; omega
        go_wp2_with fail
        go_quiet (fail)
        go_wp2
        go_ret
        exact ⟨by rw [E.out]; rfl, hb.of_alloc.drewN _⟩
end Go.Proofs.Ytnldienjkejfcaa
