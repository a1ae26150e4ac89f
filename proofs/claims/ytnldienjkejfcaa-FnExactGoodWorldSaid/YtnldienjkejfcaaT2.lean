import Derived.Test.YtnldienjkejfcaaT1
import Derived.Test.YtnldienjkejfcaaTerm
namespace Go.Proofs.Ytnldienjkejfcaa
open Go.RowKit



theorem l1All_v (l h : Nat) (v : Value) (xs : List Int) (lo hi : Int) (w : World) (b : Bool) (he : xs.all (inB · lo hi) = b) (hx : xs.length ≤ 1048576) (hv : SlI l h w v xs) :
    Calls Try.prog 57 #[v, .int .i64 lo, .int .i64 hi] w (RetV w (.bool b)) := he ▸ l1All_c l h v xs lo hi w hx hv

theorem sGoodSign_c (l h : Nat) (v : Value) (xs : List Int) (w : World) (hx : xs.length ≤ 1048576) (hv : SlI l h w v xs) :
    Calls Try.prog 39 #[.agg #[v]] w (RetV w (.bool (goodSign xs))) := by
  have hv0 := hv
  obtain ⟨ad, cap, rfl, -, -, hr⟩ := hv
  unfold goodSign
  by_cases h1 : inB xs.length 1 10 = true
  · have hp : 0 < xs.length := by simp [inB] at h1; omega
    have H1 := Lib.hid h1; clear h1
    cases h2 : xs.all (inB · 0 3)
    · have H2 := Lib.hid h2; clear h2
      go_enter Try.func39, Try.ntmps39
      go_wp2_with (first | (go_at_call 56; refine (l1In_t _ _ _ _ H1.out).mono ?_; rintro e w' ⟨rfl, hb1⟩; have hx1 := boxc hb1 0 _ rfl) | (go_at_call 57; refine (l1All_v _ _ _ _ _ _ _ _ H2.out hx (hv0.below hb1.of_alloc)).mono ?_; rintro e w' ⟨rfl, hb2⟩))
      go_ret
      exact ⟨by simp, hb1.of_alloc.step hb2⟩
    · have H2 := Lib.hid h2; clear h2
      obtain ⟨b, off, rfl, hlt, hcell⟩ := rd0 hr hp
      generalize xs.getD 0 0 = x at *
      go_enter Try.func39, Try.ntmps39
      go_wp2_with (first | (go_at_call 56; refine (l1In_t _ _ _ _ H1.out).mono ?_; rintro e w' ⟨rfl, hb1⟩; have hx1 := boxc hb1 0 _ rfl) | (go_at_call 57; refine (l1All_v _ _ _ _ _ _ _ _ H2.out hx (hv0.below hb1.of_alloc)).mono ?_; rintro e w' ⟨rfl, hb2⟩; have hx2 := boxc (hb1.step hb2) 0 _ rfl; have hcell2 := (hb1.of_alloc.step hb2).at hlt hcell))
      go_ret
      exact ⟨by rw [H1.out]; simp, hb1.of_alloc.step hb2⟩
  · have H1 := Lib.hid (by simpa using h1 : inB xs.length 1 10 = false); clear h1
    go_enter Try.func39, Try.ntmps39
    go_wp2_with (first | (go_at_call 56; refine (l1In_f _ _ _ _ H1.out).mono ?_; rintro e w' ⟨rfl, hb1⟩; have hx1 := boxc hb1 0 _ rfl))
    go_ret
    exact ⟨by rw [H1.out]; simp, hb1.of_alloc⟩
end Go.Proofs.Ytnldienjkejfcaa
