/- Chapter 5: CountWorlds, the reference. -/
import Derived.Test.YtfhljkjcjnfjfaaWoI
namespace Go.Proofs.Ytfhljkjcjnfjfaa
open Go.RowKit

theorem cw_step {sz : Int} {N : Int} {m : Nat} (h : min N 10000 = cwN sz m) (hlt : N < 10000) : min (N * sz) 10000 = cwN sz (m + 1) := by
  rw [cwN, ← h]
  rw [show min N 10000 = N from by omega]
theorem sumW_pos (ar : List Int) (sz : Int) (k : Nat) : sumW ar sz (k+1) = sumW ar sz k + longW sz (ar.getD k 0) := rfl
theorem sumW_mono (ar : List Int) (sz : Int) (k n : Nat) (h : k ≤ n) : sumW ar sz k ≤ sumW ar sz n := by
  induction n with
  | zero => rw [show k = 0 by omega]; exact Nat.le_refl _
  | succ n ih =>
    by_cases e : k = n + 1
    · rw [e]; exact Nat.le_refl _
    · rw [sumW_pos]; have := ih (by omega); omega
theorem longW_nat (Z A : Nat) : longW (Z : Int) (A : Int) = Z ^ A := rfl
theorem l1Least_c (a b : Int) (w : World) : Calls Try.prog 126 #[.int .i64 a, .int .i64 b] w (RetV w (.int .i64 (min a b))) := by
  by_cases h : a < b
  · have E : Hid (min a b = a) := by show _ = _; omega
    go_enter Try.func126, Try.ntmps126
    go_wp2_with fail
    go_ret
    exact ⟨by rw [E.out]; rfl, Bel.rfl' _⟩
  · have E : Hid (min a b = b) := by show _ = _; omega
    go_enter Try.func126, Try.ntmps126
    go_wp2_with fail
    go_ret
    exact ⟨by rw [E.out]; rfl, Bel.rfl' _⟩

set_option maxRecDepth 100000 in
set_option maxHeartbeats 1000000 in
theorem l5Worlds_c (l h : Nat) (v : Value) (ar : List Int) (sz : Int) (w : World) (hg : goodSign ar = true) (h1 : inB sz 1 3 = true) (hv : SlI l h w v ar) :
    Calls Try.prog 83 #[.agg #[v], .int .i64 sz] w (RetV w (.int .i64 (cwN sz (sumW ar sz ar.length)))) := by
  obtain ⟨ad, cap, rfl, -, -, hr⟩ := hv
  have hlen := (sign_len ar hg).2
  obtain ⟨z1, z3⟩ : 1 ≤ sz ∧ sz ≤ 3 := by unfold inB at h1; simpa using h1
  obtain ⟨Z, rfl⟩ : ∃ Z : Nat, sz = (Z : Int) := ⟨sz.toNat, by omega⟩
  clear h1
  go_enter Try.func83, Try.ntmps83
  go_wp2_with fail
  obtain ⟨W, hW⟩ : ∃ W, W = w.alloc (.cells #[.slice ad ar.length cap] 30) := ⟨_, rfl⟩
  rw [← hW]
  have hB : Bel w W := by rw [hW]; exact Bel.alloc0 _ _
  clear hW
  go_loopw [5, 12] (fun n i wr => ∃ (k : Nat) (N : Int), k ≤ ar.length ∧ i = .int .i64 k ∧ n = .int .i64 N ∧ 1 ≤ N ∧ N ≤ 29997 ∧ min N 10000 = cwN Z (sumW ar Z k) ∧ Bel W wr) (fun _ i _ => ar.length - (intOf i).toNat)
  case atStart => exact ⟨0, 1, Nat.zero_le _, rfl, rfl, by omega, by omega, rfl, Bel.rfl' _⟩
  case round =>
    obtain ⟨k, N, hk, rfl, rfl, n1, n2, hN, hb⟩ := hrel
    by_cases hlt : k < ar.length
    · obtain ⟨b2, off2, rfl, hb2l, hc2⟩ := rd hr (hB.step hb) k hlt
      have h03 := ar_nonneg ar hg k
      obtain ⟨A, hA⟩ : ∃ A : Nat, ar.getD k 0 = (A : Int) := ⟨(ar.getD k 0).toNat, by omega⟩
      have HS : Hid (sumW ar Z (k+1) = sumW ar Z k + Z ^ A) := by show _ = _; rw [sumW_pos, hA]; rfl
      rw [hA] at hc2 h03
      have hA3 : A ≤ 3 := by omega
      have hL27 := pw_le (Z := Z) (by omega) hA3
      have HL := Lib.hid (fun (w' : World) => l5Long_c Z A w' (by omega) hA3)
      clear hA h03
      generalize Z ^ A = L at *
      go_wp2_with fail
      refine (HL.out _).mono ?_; rintro e w2 ⟨rfl, hb2⟩
      go_wp2_with fail
      go_loop [5, 8] (fun n i => ∃ (d : Nat) (M : Int), d ≤ L ∧ i = .int .i64 ((L - d : Nat) : Int) ∧ n = .int .i64 M ∧ 1 ≤ M ∧ M ≤ 29997 ∧ min M 10000 = cwN Z (sumW ar Z k + d)) (fun _ i => (intOf i).toNat)
      case atStart => exact ⟨0, N, Nat.zero_le _, rfl, rfl, n1, n2, hN⟩
      case round =>
        obtain ⟨d, M, hd, rfl, rfl, m1, m2, hM⟩ := hrel
        by_cases hdl : d < L
        · by_cases hM1 : M < 10000
          · have hmul : M * 1 ≤ M * (Z : Int) := Int.mul_le_mul_of_nonneg_left z1 (by omega)
            have hmul2 : M * (Z : Int) ≤ M * 3 := Int.mul_le_mul_of_nonneg_left z3 (by omega)
            have hst := cw_step hM hM1
            have hw1 := IntWalk.i64_in (M * (Z : Int)) (by omega)
            have hpos : (0 : Int) < ((L - d : Nat) : Int) := by omega
            have hg27 : ((L - d : Nat) : Int) ≤ 27 := by omega
            have hsub : Hid (((L - d : Nat) : Int) - 1 = ((L - (d + 1) : Nat) : Int)) := by show _ = _; omega
            have HST := Lib.hid hst
            have HM5 := Lib.hid (show 1 ≤ M * (Z : Int) ∧ M * (Z : Int) ≤ 29997 by omega)
            clear hst hM hmul hmul2
            generalize ((L - d : Nat) : Int) = g at *
            go_wp2_with fail
            go_round
            case rel => exact ⟨d+1, M * (Z : Int), by omega, by rw [← hsub.out], rfl, HM5.out.1, HM5.out.2, HST.out⟩
            case measure => simp [intOf]; omega
          · have hst : min M 10000 = cwN Z (sumW ar Z (k+1)) := by
              have e := cwN_top (sz := (Z : Int)) z1 (n := sumW ar Z k + d) (by rw [← hM]; omega) (L - d)
              rw [HS.out, show sumW ar Z k + L = sumW ar Z k + d + (L - d) by omega, e]; omega
            have HST := Lib.hid hst
            have hpos : (0 : Int) < ((L - d : Nat) : Int) := by omega
            clear hst hM
            generalize ((L - d : Nat) : Int) = g at *
            go_wp2_with fail
            go_roundw
            case rel => exact ⟨k+1, M, by omega, by go_num, rfl, m1, m2, HST.out, hb.step hb2⟩
            case measure => simp [intOf]; omega
        · obtain rfl : d = L := by omega
          have HST : Hid (min M 10000 = cwN Z (sumW ar Z (k+1))) := by show _ = _; rw [HS.out]; exact hM
          have hz : ((d - d : Nat) : Int) = 0 := by simp
          rw [hz]
          clear hM hz
          go_wp2_with fail
          go_roundw
          case rel => exact ⟨k+1, M, by omega, by go_num, rfl, m1, m2, HST.out, hb.step hb2⟩
          case measure => simp [intOf]; omega
    · obtain rfl : k = ar.length := by omega
      have HN := Lib.hid hN
      clear hN hlt
      go_wp2_with fail
      refine (l1Least_c _ _ _).mono ?_; rintro e w2 ⟨rfl, hb2⟩
      rw [HN.out]
      go_wp2_with fail
      go_ret
      exact ⟨rfl, (hB.step hb).step hb2⟩

set_option maxRecDepth 100000 in
set_option maxHeartbeats 400000 in
theorem sCountWorlds_t {l h : Nat} {v : Value} {ar : List Int} {sz : Int} {w : World} (ha : ar.length ≤ 1048576) (hv : SlI l h w v ar) (_ : -9223372036854775808 ≤ sz) (_ : sz ≤ 9223372036854775807) :
    Calls Try.prog 33 #[.agg #[v], .int .i64 sz] w (RetV w (.tuple #[.int .i64 (worldsAns ar sz), .bool (goodSign ar && inB sz 1 3)])) := by
  unfold worldsAns
  cases hg : goodSign ar with
  | false =>
    rw [Bool.false_and, if_neg (by simp)]
    have HC := Lib.hid (fun (w' : World) (hb : Bel w w') => sGoodSign_v l h v ar false w' hg ha (hv.below hb)); clear hg
    go_enter Try.func33, Try.ntmps33
    go_wp2_with fail
    refine (HC.out _ (Bel.alloc0 _ _)).mono ?_; rintro e w1 ⟨rfl, hb1⟩
    go_wp2_with fail
    go_ret2
    exact ⟨rfl, hb1.of_alloc⟩
  | true =>
    rw [Bool.true_and]
    have HC := Lib.hid (fun (w' : World) (hb : Bel w w') => sGoodSign_v l h v ar true w' hg ha (hv.below hb))
    cases h1 : inB sz 1 3 with
    | false =>
      rw [if_neg (by simp)]
      have HI := Lib.hid h1
      clear hg h1
      go_enter Try.func33, Try.ntmps33
      go_wp2_with fail
      refine (HC.out _ (Bel.alloc0 _ _)).mono ?_; rintro e w1 ⟨rfl, hb1⟩
      go_wp2_with fail
      refine (l1In_qv _ _ _ _ HI.out _).mono ?_; rintro e w2 ⟨rfl, rfl⟩
      go_wp2_with fail
      go_ret2
      exact ⟨rfl, hb1.of_alloc⟩
    | true =>
      rw [if_pos rfl]
      have HI := Lib.hid h1
      have HD := Lib.hid (fun (w' : World) (hb : Bel w w') => l5Worlds_c l h v ar sz w' hg h1 (hv.below hb))
      clear hg h1
      generalize cwN sz (sumW ar sz ar.length) = q at *
      go_enter Try.func33, Try.ntmps33
      go_wp2_with fail
      refine (HC.out _ (Bel.alloc0 _ _)).mono ?_; rintro e w1 ⟨rfl, hb1⟩
      have hbox := boxc hb1 0 _ rfl
      go_wp2_with fail
      refine (l1In_qv _ _ _ _ HI.out _).mono ?_; rintro e w2 ⟨rfl, rfl⟩
      go_wp2_with fail
      refine (HD.out _ hb1.of_alloc).mono ?_; rintro e w3 ⟨rfl, hb3⟩
      go_wp2_with fail
      go_ret2
      exact ⟨rfl, hb1.of_alloc.step hb3⟩
end Go.Proofs.Ytfhljkjcjnfjfaa
