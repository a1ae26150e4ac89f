/- The laws' helpers over literals and slices of literals, by contracts: sizes and copies. -/
import Derived.Test.YtnldienjkejfcaaSC
import Derived.Test.YtnldienjkejfcaaLaw1
import Derived.Test.YtnldienjkejfcaaSS2
namespace Go.Proofs.Ytnldienjkejfcaa
open Go.RowKit

set_option maxRecDepth 100000 in
set_option maxHeartbeats 400000 in
theorem szLit_c (l h : Nat) (p : Bool) (u1 u2 : Value) (xl xr : List Int) (left : Int) (w : World) (hl : xl.length ≤ 9223372036854775807) (hr : xr.length ≤ 9223372036854775807) (h0 : 0 ≤ left) (h1 : left ≤ 1048576) (hv1 : SlI l h w u1 xl) (hv2 : SlI l h w u2 xr) :
    Calls Try.prog 30 #[.agg #[.bool p, u1, u2], .int .i64 left] w (RetV w (.int .i64 (szI (xl.length + xr.length) left))) := by
  have HB := Bel.alloc0 w (.cells #[.bool p, u1, u2] 57)
  by_cases hs : left - xl.length < 0
  · have E : Hid (szI (xl.length + xr.length) left = -1) := by show szI _ _ = _; unfold szI; rw [if_pos (by omega)]
    have e1 : szI xl.length left = -1 := by unfold szI; rw [if_pos hs]
    have HC := Lib.hid (szIntS_c l h u1 xl left _ hl h0 h1 (hv1.below HB))
    rw [e1] at HC
    clear hv1 hv2 hs e1
    go_enter Try.func30, Try.ntmps30
    go_wp2_with (go_at_call 29; refine HC.out.mono ?_; rintro e w' ⟨rfl, hb1⟩)
    go_ret
    exact ⟨by rw [E.out]; rfl, HB.step hb1⟩
  · have e1 : szI xl.length left = left - xl.length := by unfold szI; rw [if_neg hs]
    have HC := Lib.hid (szIntS_c l h u1 xl left _ hl h0 h1 (hv1.below HB))
    rw [e1] at HC
    have hz0 : 0 ≤ left - (xl.length : Int) := by omega
    have hz1 : left - (xl.length : Int) ≤ 1048576 := by omega
    by_cases hs2 : left - xl.length - xr.length < 0
    · have E : Hid (szI (xl.length + xr.length) left = -1) := by show szI _ _ = _; unfold szI; rw [if_pos (by omega)]
      have e2 : szI xr.length (left - xl.length) = -1 := by unfold szI; rw [if_pos hs2]
      have HD := Lib.hid (fun (w' : World) (hb : Bel (w.alloc (.cells #[.bool p, u1, u2] 57)) w') => szIntS_c l h u2 xr (left - xl.length) w' hr hz0 hz1 ((hv2.below HB).below hb))
      rw [e2] at HD
      clear hv1 hv2 hs e1 hs2 e2
      generalize left - (xl.length : Int) = z at *
      go_enter Try.func30, Try.ntmps30
      go_wp2_with fail
      refine HC.out.mono ?_; rintro e w1 ⟨rfl, hb1⟩
      have hbx := hb1.at (b := w.heap.size) (off := 2) (by simp) (show (w.alloc (.cells #[.bool p, u1, u2] 57)).cell? ⟨w.heap.size, 2, none⟩ = some u2 by simp)
      go_wp2_with fail
      refine (HD.out _ hb1).mono ?_; rintro e w2 ⟨rfl, hb2⟩
      go_wp2_with fail
      go_ret
      exact ⟨by rw [E.out]; rfl, (HB.step hb1).step hb2⟩
    · have E : Hid (szI (xl.length + xr.length) left = left - xl.length - xr.length) := by show szI _ _ = _; unfold szI; rw [if_neg (by omega)]; omega
      have e2 : szI xr.length (left - xl.length) = left - xl.length - xr.length := by unfold szI; rw [if_neg hs2]
      have HD := Lib.hid (fun (w' : World) (hb : Bel (w.alloc (.cells #[.bool p, u1, u2] 57)) w') => szIntS_c l h u2 xr (left - xl.length) w' hr hz0 hz1 ((hv2.below HB).below hb))
      rw [e2] at HD
      have hy0 : 0 ≤ left - (xl.length : Int) - xr.length := by omega
      clear hv1 hv2 hs e1 hs2 e2
      generalize left - (xl.length : Int) - (xr.length : Int) = y at *
      generalize left - (xl.length : Int) = z at *
      go_enter Try.func30, Try.ntmps30
      go_wp2_with fail
      refine HC.out.mono ?_; rintro e w1 ⟨rfl, hb1⟩
      have hbx := hb1.at (b := w.heap.size) (off := 2) (by simp) (show (w.alloc (.cells #[.bool p, u1, u2] 57)).cell? ⟨w.heap.size, 2, none⟩ = some u2 by simp)
      go_wp2_with fail
      refine (HD.out _ hb1).mono ?_; rintro e w2 ⟨rfl, hb2⟩
      go_wp2_with fail
      go_ret
      exact ⟨by rw [E.out]; rfl, (HB.step hb1).step hb2⟩

def szC (c : List Lt) (left : Int) : Int := if left - (sumC c : Nat) < 0 then -1 else left - (sumC c : Nat)
def lenC (c : List Lt) : Nat := sumL (flatC c)
theorem sumC_eq (c : List Lt) : sumC c = c.length + lenC c := by
  unfold lenC
  induction c with
  | nil => rfl
  | cons x r ih => rw [flatC_cons]; simp only [sumC, sumL, List.map_cons, List.sum_cons, List.length_cons, wC] at *; omega
theorem lenC_take (c : List Lt) (k : Nat) (h : k < c.length) : lenC (c.take (k+1)) = lenC (c.take k) + ((c.getD k lt0).2.1.length + (c.getD k lt0).2.2.length) := by
  have h1 := sumC_take c k h
  rw [sumC_eq, sumC_eq] at h1
  have e1 : (c.take (k+1)).length = k + 1 := by rw [List.length_take]; omega
  have e2 : (c.take k).length = k := by rw [List.length_take]; omega
  unfold wC at h1
  omega
theorem lenC_all (c : List Lt) (k : Nat) (h : ¬ k < c.length) : lenC (c.take k) = lenC c := by rw [List.take_of_length_le (by omega)]
theorem lenC_get (c : List Lt) (k : Nat) (h : k < c.length) : lenC (c.take k) + ((c.getD k lt0).2.1.length + (c.getD k lt0).2.2.length) ≤ lenC c := by
  rw [← lenC_take c k h]
  conv => rhs; rw [← List.take_append_drop (k+1) c]
  unfold lenC
  rw [flatC_app]; unfold sumL; rw [List.map_append, List.sum_append]; omega
theorem SlC.max {lo hi w v c} (h : SlC lo hi w v c) : c.length ≤ 9223372036854775807 ∧ ∀ j, j < c.length → (c.getD j lt0).2.1.length ≤ 9223372036854775807 ∧ (c.getD j lt0).2.2.length ≤ 9223372036854775807 := by
  obtain ⟨ad, cap, e, hc, hm, hr⟩ := h
  have hml : maxLen = 9223372036854775807 := rfl
  refine ⟨by omega, fun j hj => ?_⟩
  obtain ⟨b, off, _, _, _, hx⟩ := hr (by omega)
  obtain ⟨u1, u2, _, _, _, ⟨ad2, cap2, _, hc2, hm2, _⟩, ⟨ad3, cap3, _, hc3, hm3, _⟩⟩ := hx j hj
  omega

set_option maxRecDepth 100000 in
set_option maxHeartbeats 400000 in
theorem szLitS_c (l h : Nat) (v : Value) (c : List Lt) (left : Int) (w : World) (h0 : 0 ≤ left) (h1 : left ≤ 1048576) (hv : SlC l h w v c) :
    Calls Try.prog 9 #[v, .int .i64 left] w (RetV w (.int .i64 (szC c left))) := by
  obtain ⟨ad, cap, rfl⟩ := hv.form
  obtain ⟨hx, hmax⟩ := hv.max
  have hse := sumC_eq c
  by_cases hs : left - c.length < 0
  · have E : Hid (szC c left = -1) := by show szC _ _ = _; unfold szC; rw [if_pos (by omega)]
    go_enter Try.func9, Try.ntmps9
    go_wp2_with fail
    go_ret
    exact ⟨by rw [E.out]; rfl, Bel.rfl' _⟩
  · have hw1 := IntWalk.i64_in (left - c.length) (by omega)
    go_enter Try.func9, Try.ntmps9
    go_wp2_with fail
    go_loopw [1, 5] (fun m i wr => ∃ (k : Nat) (z : Int), k ≤ c.length ∧ i = .int .i64 k ∧ m = .int .i64 z ∧ 0 ≤ z ∧ z = left - c.length - (lenC (c.take k) : Nat) ∧ Bel w wr) (fun _ i _ => c.length - (intOf i).toNat)
    case atStart => exact ⟨0, _, Nat.zero_le _, rfl, by go_num, by omega, by simp [lenC, flatC, sumL], Bel.rfl' _⟩
    case round =>
      obtain ⟨k, z, hk, rfl, rfl, hz0, hz, hb⟩ := hrel
      by_cases hlt : k < c.length
      · obtain ⟨b, off, u1, u2, rfl, -, c1, c2, c3, s1, s2⟩ := hv.at hb k hlt
        obtain ⟨hm1, hm2⟩ := hmax k hlt
        have hst := lenC_take c k hlt
        have hsl := lenC_get c k hlt
        have hcall := szLit_c l h (c.getD k lt0).1 u1 u2 (c.getD k lt0).2.1 (c.getD k lt0).2.2 z wr hm1 hm2 hz0 (by omega) s1 s2
        have hin0 : (0 : Int) ≤ k := by omega
        have hin1 : (k : Int) < c.length := by omega
        generalize hp : (c.getD k lt0).1 = p at *
        generalize hxl : (c.getD k lt0).2.1 = xl at *
        generalize hxr : (c.getD k lt0).2.2 = xr at *
        by_cases hneg : z - (xl.length + xr.length : Int) < 0
        · have e1 : szI (xl.length + xr.length) z = -1 := by unfold szI; rw [if_pos hneg]
          have E : Hid (szC c left = -1) := by show szC _ _ = _; unfold szC; rw [if_pos (by omega)]
          rw [e1] at hcall
          have HC := Lib.hid hcall
          clear hcall hv s1 s2 hmax hst hsl e1 hneg hz hse hxl hxr hp
          go_wp2_with (go_at_call 30; refine HC.out.mono ?_; rintro e w' ⟨rfl, hb1⟩)
          go_ret
          exact ⟨by rw [E.out]; rfl, hb.step hb1⟩
        · have e1 : szI (xl.length + xr.length) z = z - (xl.length + xr.length) := by unfold szI; rw [if_neg hneg]
          have hz' : z - ((xl.length : Int) + xr.length) = left - c.length - (lenC (c.take (k+1)) : Nat) := by omega
          rw [e1] at hcall
          have HC := Lib.hid hcall
          have HZ := Lib.hid hz'
          have hz2 : 0 ≤ z - ((xl.length : Int) + xr.length) := by omega
          clear hcall hv s1 s2 hmax hst hsl e1 hneg hz hz' hse hxl hxr hp
          generalize z - ((xl.length : Int) + xr.length) = z2 at *
          go_wp2_with (go_at_call 30; refine HC.out.mono ?_; rintro e w' ⟨rfl, hb1⟩)
          go_roundw
          case rel => exact ⟨k+1, z2, by omega, by go_num, rfl, hz2, HZ.out, hb.step hb1⟩
          case measure => simp [intOf]; omega
      · have E : Hid (szC c left = z) := by
          show szC _ _ = _
          rw [lenC_all c k hlt] at hz
          unfold szC; rw [if_neg (by omega)]; omega
        clear hz
        go_wp2_with fail
        go_ret
        exact ⟨by rw [E.out]; rfl, hb⟩
end Go.Proofs.Ytnldienjkejfcaa
