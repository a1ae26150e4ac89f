import Derived.Test.YtnldienjkejfcaaProg
import Derived.Test.YtnldienjkejfcaaBase
namespace Go.Proofs.Ytnldienjkejfcaa
open Go.RowKit

theorem l1In_q (n lo hi : Int) (w : World) : Calls Try.prog 56 #[.int .i64 n, .int .i64 lo, .int .i64 hi] w fun e w' => e = .returned (.bool (inB n lo hi)) ∧ w' = w := by
  unfold inB
  go_enter Try.func56, Try.ntmps56
  by_cases h1 : lo ≤ n
  · by_cases h2 : n ≤ hi
    · go_wp2
      go_ret
      exact ⟨by simp [h1, h2], rfl⟩
    · go_wp2
      go_ret
      exact ⟨by simp; omega, rfl⟩
  · go_wp2
    go_ret
    exact ⟨by simp; omega, rfl⟩
theorem l1In_qv (n lo hi : Int) (b : Bool) (h : inB n lo hi = b) (w : World) : Calls Try.prog 56 #[.int .i64 n, .int .i64 lo, .int .i64 hi] w fun e w' => e = .returned (.bool b) ∧ w' = w := h ▸ l1In_q n lo hi w
theorem l1In_c (n lo hi : Int) (w : World) : Calls Try.prog 56 #[.int .i64 n, .int .i64 lo, .int .i64 hi] w (RetV w (.bool (inB n lo hi))) :=
  (l1In_q n lo hi w).mono fun _ _ ⟨h1, h2⟩ => ⟨h1, h2 ▸ Bel.rfl' w⟩
theorem l1In_t (n lo hi : Int) (w : World) (h : inB n lo hi = true) : Calls Try.prog 56 #[.int .i64 n, .int .i64 lo, .int .i64 hi] w (RetV w (.bool true)) := by
  rw [← h]; exact l1In_c n lo hi w
theorem l1In_f (n lo hi : Int) (w : World) (h : inB n lo hi = false) : Calls Try.prog 56 #[.int .i64 n, .int .i64 lo, .int .i64 hi] w (RetV w (.bool false)) := by
  rw [← h]; exact l1In_c n lo hi w

theorem l1All_c (l h : Nat) (v : Value) (xs : List Int) (lo hi : Int) (w : World) (hx : xs.length ≤ 1048576) (hv : SlI l h w v xs) :
    Calls Try.prog 57 #[v, .int .i64 lo, .int .i64 hi] w (RetV w (.bool (xs.all (inB · lo hi)))) := by
  obtain ⟨ad, cap, rfl, -, -, hr⟩ := hv
  go_enter Try.func57, Try.ntmps57
  go_wp2
  go_loopw [11] (fun i wr => ∃ k : Nat, k ≤ xs.length ∧ i = .int .i64 k ∧ (xs.take k).all (inB · lo hi) = true ∧ Bel w wr) (fun i _ => xs.length - (intOf i).toNat)
  case atStart => exact ⟨0, Nat.zero_le _, rfl, by simp, Bel.rfl' _⟩
  case round =>
    obtain ⟨k, hk, rfl, ha, hb⟩ := hrel
    by_cases hlt : k < xs.length
    · obtain ⟨b, off, rfl, -, hcell⟩ := rd hr hb k hlt
      have E1 := Lib.hid (all_split xs (inB · lo hi) k hlt ha)
      have E2 := Lib.hid (all_false xs (inB · lo hi) k hlt)
      clear hr ha
      generalize xs.getD k 0 = x at *
      by_cases hp : inB x lo hi = true
      · have HP := Lib.hid hp; clear hp
        go_wp2_with (go_at_call 56; refine (l1In_t _ _ _ _ HP.out).mono ?_; rintro e w' ⟨rfl, hb1⟩)
        go_roundw
        case rel => exact ⟨k+1, by omega, by go_num, by rw [E1.out]; exact HP.out, hb.step hb1⟩
        case measure => simp [intOf]; omega
      · have HP := Lib.hid (by simpa using hp : inB x lo hi = false); clear hp
        go_wp2_with (go_at_call 56; refine (l1In_f _ _ _ _ HP.out).mono ?_; rintro e w' ⟨rfl, hb1⟩)
        go_ret
        exact ⟨by rw [E2.out HP.out]; rfl, hb.step hb1⟩
    · have HA := Lib.hid ha; clear ha
      go_wp2_with fail
      go_ret
      exact ⟨by rw [all_done xs _ k hk hlt HA.out]; rfl, hb⟩
end Go.Proofs.Ytnldienjkejfcaa
