/- Chapter 5: CountWorlds, the program. -/
import Derived.Test.YtfhljkjcjnfjfaaCwS
namespace Go.Proofs.Ytfhljkjcjnfjfaa
open Go.RowKit

theorem cw_succ' (sz : Int) (m : Nat) : (if (10000 : Int) < cwN sz m * sz then 10000 else cwN sz m * sz) = cwN sz (m+1) := by
  rw [cwN]; split <;> omega
theorem cw_succ (sz : Int) (m : Nat) : min (cwN sz m * sz) 10000 = cwN sz (m+1) := rfl

set_option maxRecDepth 100000 in
set_option maxHeartbeats 1000000 in
theorem iCountWorlds_t {l h : Nat} {v : Value} {ar : List Int} {sz : Int} {w : World} (ha : ar.length ≤ 1048576) (hv : SlI l h w v ar) (_ : -9223372036854775808 ≤ sz) (_ : sz ≤ 9223372036854775807) :
    Calls Try.prog 34 #[.agg #[v], .int .i64 sz] w (RetV w (.tuple #[.int .i64 (worldsAns ar sz), .bool (goodSign ar && inB sz 1 3)])) := by
  unfold worldsAns
  cases hq : (goodSign ar && inB sz 1 3) with
  | false =>
    rw [if_neg (by simp)]
    have HC := Lib.hid (fun (w' : World) (hb : Bel w w') => hasWorlds_v l h v ar sz false w' hq ha (hv.below hb)); clear hq
    go_enter Try.func34, Try.ntmps34
    go_wp2_with fail
    refine (HC.out _ (Bel.alloc0 _ _)).mono ?_; rintro e w1 ⟨rfl, hb1⟩
    go_wp2_with fail
    go_ret2
    exact ⟨rfl, hb1.of_alloc⟩
  | true =>
    rw [if_pos rfl]
    have HC := Lib.hid (fun (w' : World) (hb : Bel w w') => hasWorlds_v l h v ar sz true w' hq ha (hv.below hb))
    have hg : goodSign ar = true := by revert hq; cases goodSign ar <;> simp
    have h1 : inB sz 1 3 = true := by revert hq; cases inB sz 1 3 <;> simp
    obtain ⟨ad, cap, rfl, -, -, hr⟩ := hv
    have hlen := (sign_len ar hg).2
    obtain ⟨z1, z3⟩ : 1 ≤ sz ∧ sz ≤ 3 := by unfold inB at h1; simpa using h1
    obtain ⟨Z, rfl⟩ : ∃ Z : Nat, sz = (Z : Int) := ⟨sz.toNat, by omega⟩
    clear h1 hq
    go_enter Try.func34, Try.ntmps34
    go_wp2_with fail
    refine (HC.out _ (Bel.alloc0 _ _)).mono ?_; rintro e W ⟨rfl, hb1⟩
    have hbox := boxc hb1 0 _ rfl
    have hB := hb1.of_alloc
    clear HC hb1
    go_wp2_with fail
    go_loopw [6, 16] (fun n i wr => ∃ k : Nat, k ≤ ar.length ∧ i = .int .i64 k ∧ n = .int .i64 (cwN Z (sumW ar Z k)) ∧ Bel W wr) (fun _ i _ => ar.length - (intOf i).toNat)
    case atStart => exact ⟨0, Nat.zero_le _, rfl, rfl, Bel.rfl' _⟩
    case round =>
      obtain ⟨k, hk, rfl, rfl, hb⟩ := hrel
      by_cases hlt : k < ar.length
      · obtain ⟨b2, off2, rfl, hb2l, hc2⟩ := rd hr (hB.step hb) k hlt
        have h03 := ar_nonneg ar hg k
        obtain ⟨A, hA⟩ : ∃ A : Nat, ar.getD k 0 = (A : Int) := ⟨(ar.getD k 0).toNat, by omega⟩
        have HS : Hid (sumW ar Z (k+1) = sumW ar Z k + Z ^ A) := by show _ = _; rw [sumW_pos, hA]; rfl
        rw [hA] at hc2 h03
        have hA3 : A ≤ 3 := by omega
        have hL27 := pw_le (Z := Z) (by omega) hA3
        have HL := Lib.hid (fun (w' : World) => tableLength_c Z A w' (by omega) hA3)
        clear hA h03
        generalize Z ^ A = L at *
        go_wp2_with fail
        refine (HL.out _).mono ?_; rintro e w2 ⟨rfl, hb2⟩
        go_wp2_with fail
        go_loop [6, 23] (fun n i => ∃ d : Nat, d ≤ L ∧ i = .int .i64 d ∧ n = .int .i64 (cwN Z (sumW ar Z k + d))) (fun _ i => L - (intOf i).toNat)
        case atStart => exact ⟨0, Nat.zero_le _, rfl, rfl⟩
        case round =>
          obtain ⟨d, hd, rfl, rfl⟩ := hrel
          by_cases hdl : d < L
          · have hb := cwN_bd z1 (sumW ar Z k + d)
            have HST := Lib.hid (cw_succ Z (sumW ar Z k + d))
            have HST' := Lib.hid (cw_succ' Z (sumW ar Z k + d))
            generalize cwN Z (sumW ar Z k + d) = M at *
            have hmul : M * 1 ≤ M * (Z : Int) := Int.mul_le_mul_of_nonneg_left z1 (by omega)
            have hmul2 : M * (Z : Int) ≤ M * 3 := Int.mul_le_mul_of_nonneg_left z3 (by omega)
            have hw1 := IntWalk.i64_in (M * (Z : Int)) (by omega)
            clear hmul hmul2
            go_wp2_with fail
            go_round
            case rel => exact ⟨d+1, by omega, by go_num, by rw [← Nat.add_assoc]; first | exact congrArg (Value.int .i64) HST.out | exact congrArg (Value.int .i64) HST'.out⟩
            case measure => simp [intOf]; omega
          · obtain rfl : d = L := by omega
            have HST : Hid (cwN Z (sumW ar Z k + d) = cwN Z (sumW ar Z (k+1))) := by show _ = _; rw [HS.out]
            rw [HST.out]
            go_wp2_with fail
            go_roundw
            case rel => exact ⟨k+1, by omega, by go_num, rfl, hb.step hb2⟩
            case measure => simp [intOf]; omega
      · obtain rfl : k = ar.length := by omega
        go_wp2_with fail
        go_ret2
        exact ⟨rfl, hB.step hb⟩
end Go.Proofs.Ytfhljkjcjnfjfaa
