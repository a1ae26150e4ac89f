/- Chapter 5, the program: tables and their elements, GoodWorld. -/
import Derived.Test.YtnldienjkejfcaaWoT
namespace Go.Proofs.Ytnldienjkejfcaa
open Go.RowKit

set_option maxRecDepth 100000 in
set_option maxHeartbeats 400000 in
theorem tableLength_c (Z A : Nat) (w : World) (h2 : Z ≤ 3) (h3 : A ≤ 3) :
    Calls Try.prog 43 #[.int .i64 (A : Int), .int .i64 (Z : Int)] w (RetV w (.int .i64 ((Z ^ A : Nat) : Int))) := by
  go_enter Try.func43, Try.ntmps43
  go_wp2_with fail
  go_loop [5, 7] (fun n a => ∃ k : Nat, k ≤ A ∧ a = .int .i64 k ∧ n = .int .i64 ((Z ^ k : Nat) : Int)) (fun _ a => A - (intOf a).toNat)
  case atStart => exact ⟨0, Nat.zero_le _, rfl, rfl⟩
  case round =>
    obtain ⟨k, hk, rfl, rfl⟩ := hrel
    by_cases hlt : k < A
    · have E := Lib.hid (pw_succ Z k)
      have hb := pw_le h2 (show k + 1 ≤ 3 by omega)
      have hw : -9223372036854775808 ≤ ((Z ^ k : Nat) : Int) * (Z : Int) ∧ ((Z ^ k : Nat) : Int) * (Z : Int) ≤ 9223372036854775807 := by rw [E.out]; omega
      have hw1 := IntWalk.i64_in (((Z ^ k : Nat) : Int) * (Z : Int)) hw
      clear hw hb
      generalize ((Z ^ k : Nat) : Int) = y at *
      go_wp2_with fail
      go_round
      case rel => exact ⟨k+1, by omega, by go_num, by rw [← E.out]⟩
      case measure => simp [intOf]; omega
    · obtain rfl : k = A := by omega
      generalize ((Z ^ k : Nat) : Int) = y at *
      go_wp2_with fail
      go_ret
      exact ⟨rfl, Bel.rfl' _⟩

theorem elem_in (x sz : Int) : inB x 0 (sz - 1) = (decide (0 ≤ x) && decide (x < sz)) := by
  unfold inB
  rw [show decide (x ≤ sz - 1) = decide (x < sz) from by rw [Bool.eq_iff_iff]; simp; omega]

set_option maxRecDepth 100000 in
set_option maxHeartbeats 400000 in
theorem areElements_c (l h : Nat) (v : Value) (xs : List Int) (sz : Int) (w : World) (hx : xs.length ≤ 1048576) (hv : SlI l h w v xs) :
    Calls Try.prog 44 #[v, .int .i64 sz] w (RetV w (.bool (xs.all (fun x => inB x 0 (sz - 1))))) := by
  obtain ⟨ad, cap, rfl, -, -, hr⟩ := hv
  go_enter Try.func44, Try.ntmps44
  go_wp2_with fail
  go_loop [9] (fun i => ∃ k : Nat, k ≤ xs.length ∧ i = .int .i64 k ∧ (xs.take k).all (fun x => inB x 0 (sz - 1)) = true) (fun i => xs.length - (intOf i).toNat)
  case atStart => exact ⟨0, Nat.zero_le _, rfl, by simp⟩
  case round =>
    obtain ⟨k, hk, rfl, hall⟩ := hrel
    by_cases hlt : k < xs.length
    · obtain ⟨b, off, rfl, hbl, hc⟩ := rd hr (Bel.rfl' w) k hlt
      have ES : (xs.take (k+1)).all (fun x => inB x 0 (sz - 1)) = (decide (0 ≤ xs.getD k 0) && decide (xs.getD k 0 < sz)) := (all_split xs (fun x => inB x 0 (sz - 1)) k hlt hall).trans (elem_in _ _)
      have EF : (decide (0 ≤ xs.getD k 0) && decide (xs.getD k 0 < sz)) = false → xs.all (fun x => inB x 0 (sz - 1)) = false := fun h => all_false xs (fun x => inB x 0 (sz - 1)) k hlt ((elem_in _ _).trans h)
      generalize xs.getD k 0 = x at *
      by_cases h0 : x < 0
      · have E := Lib.hid (EF (by rw [decide_eq_false (show ¬ 0 ≤ x by omega)]; rfl))
        clear ES EF hall hr
        go_wp2_with fail
        go_ret
        exact ⟨by rw [E.out]; rfl, Bel.rfl' _⟩
      · by_cases h1 : x < sz
        · have E := Lib.hid (ES.trans (by rw [decide_eq_true (show 0 ≤ x by omega), decide_eq_true h1, Bool.true_and]))
          clear ES EF hall hr
          go_wp2_with fail
          go_round
          case rel => exact ⟨k+1, by omega, by go_num, E.out⟩
          case measure => simp [intOf]; omega
        · have E := Lib.hid (EF (by rw [decide_eq_false h1, Bool.and_false]))
          clear ES EF hall hr
          go_wp2_with fail
          go_ret
          exact ⟨by rw [E.out]; rfl, Bel.rfl' _⟩
    · have E := Lib.hid (all_done xs _ k hk hlt hall)
      clear hall hr
      go_wp2_with fail
      go_ret
      exact ⟨by rw [E.out]; rfl, Bel.rfl' _⟩
theorem areElements_v (l h : Nat) (v : Value) (xs : List Int) (sz : Int) (q : Bool) (w : World) (he : xs.all (fun x => inB x 0 (sz - 1)) = q) (hx : xs.length ≤ 1048576) (hv : SlI l h w v xs) :
    Calls Try.prog 44 #[v, .int .i64 sz] w (RetV w (.bool q)) := by subst he; exact areElements_c l h v xs sz w hx hv

set_option maxRecDepth 100000 in
set_option maxHeartbeats 400000 in
theorem hasWorlds_c (l h : Nat) (v : Value) (ar : List Int) (sz : Int) (w : World) (ha : ar.length ≤ 1048576) (hv : SlI l h w v ar) :
    Calls Try.prog 42 #[.agg #[v], .int .i64 sz] w (RetV w (.bool (goodSign ar && inB sz 1 3))) := by
  cases hg : goodSign ar with
  | false =>
    have HC := Lib.hid (fun (w' : World) (hb : Bel w w') => iGoodSign_v l h v ar false w' hg ha (hv.below hb)); clear hg
    go_enter Try.func42, Try.ntmps42
    go_wp2_with fail
    refine (HC.out _ (Bel.alloc0 _ _)).mono ?_; rintro e w1 ⟨rfl, hb1⟩
    go_wp2_with fail
    go_ret
    exact ⟨rfl, hb1.of_alloc⟩
  | true =>
    rw [Bool.true_and]
    have HC := Lib.hid (fun (w' : World) (hb : Bel w w') => iGoodSign_v l h v ar true w' hg ha (hv.below hb)); clear hg
    by_cases h1 : 1 ≤ sz
    · by_cases h2 : sz ≤ 3
      · have E : Hid (inB sz 1 3 = true) := by show _ = _; unfold inB; simp [h1, h2]
        go_enter Try.func42, Try.ntmps42
        go_wp2_with fail
        refine (HC.out _ (Bel.alloc0 _ _)).mono ?_; rintro e w1 ⟨rfl, hb1⟩
        go_wp2_with fail
        go_ret
        exact ⟨by rw [E.out]; rfl, hb1.of_alloc⟩
      · have E : Hid (inB sz 1 3 = decide (sz ≤ 3)) := by show _ = _; unfold inB; rw [decide_eq_true h1, Bool.true_and]
        go_enter Try.func42, Try.ntmps42
        go_wp2_with fail
        refine (HC.out _ (Bel.alloc0 _ _)).mono ?_; rintro e w1 ⟨rfl, hb1⟩
        go_wp2_with fail
        go_ret
        exact ⟨by rw [E.out]; rfl, hb1.of_alloc⟩
    · have E : Hid (inB sz 1 3 = false) := by show _ = _; unfold inB; simp; omega
      go_enter Try.func42, Try.ntmps42
      go_wp2_with fail
      refine (HC.out _ (Bel.alloc0 _ _)).mono ?_; rintro e w1 ⟨rfl, hb1⟩
      go_wp2_with fail
      go_ret
      exact ⟨by rw [E.out]; rfl, hb1.of_alloc⟩
theorem hasWorlds_v (l h : Nat) (v : Value) (ar : List Int) (sz : Int) (q : Bool) (w : World) (he : (goodSign ar && inB sz 1 3) = q) (ha : ar.length ≤ 1048576) (hv : SlI l h w v ar) :
    Calls Try.prog 42 #[.agg #[v], .int .i64 sz] w (RetV w (.bool q)) := by subst he; exact hasWorlds_c l h v ar sz w ha hv
end Go.Proofs.Ytnldienjkejfcaa
