/- Texts merged, part 8. -/
import Derived.Test.YtjgbeclafdhijaaMgWorldAt7
section
/- Chapter 5, the program: tables and their elements, GoodWorld. -/
namespace Go.Proofs.Ytjgbeclafdhijaa
open Go.RowKit

set_option maxRecDepth 100000 in
set_option maxHeartbeats 400000 in
theorem tableLength_c (Z A : Nat) (w : World) (h2 : Z ≤ 3) (h3 : A ≤ 3) :
    Calls Try.prog 46 #[.int .i64 (A : Int), .int .i64 (Z : Int)] w (RetV w (.int .i64 ((Z ^ A : Nat) : Int))) := by
  go_enter Try.func46, Try.ntmps46
  go_wp2_with fail
  go_loop [5, 7] (fun n a => ∃ k : Nat, k ≤ A ∧ a = .int .i64 k ∧ n = .int .i64 ((Z ^ k : Nat) : Int)) (fun _ a => A - (intOf a).toNat)
  case atStart => exact ⟨0, Nat.zero_le _, rfl, rfl⟩
  case round =>
    obtain ⟨k, hk, rfl, rfl⟩ := hrel
    by_cases hlt : k < A
    · have E := Lib.hid (pw_succ Z k)
      have hb := pw_le h2 (show k + 1 ≤ 3 by omega)
      have hw : -9223372036854775808 ≤ ((Z ^ k : Nat) : Int) * (Z : Int) ∧ ((Z ^ k : Nat) : Int) * (Z : Int) ≤ 9223372036854775807 := by rw [E.out]; omega
      have hw1 := IntWalk.i64_in (((Z ^ k : Nat) : Int) * (Z : Int)) hw
      clear hw hb
      generalize ((Z ^ k : Nat) : Int) = y at *
      go_wp2_with fail
      go_round
      case rel => exact ⟨k+1, by omega, by go_num, by rw [← E.out]⟩
      case measure => simp [intOf]; omega
    · obtain rfl : k = A := by omega
      generalize ((Z ^ k : Nat) : Int) = y at *
      go_wp2_with fail
      go_ret
      exact ⟨rfl, Bel.rfl' _⟩

theorem elem_in (x sz : Int) : inB x 0 (sz - 1) = (decide (0 ≤ x) && decide (x < sz)) := by
  unfold inB
  rw [show decide (x ≤ sz - 1) = decide (x < sz) from by rw [Bool.eq_iff_iff]; simp; omega]

set_option maxRecDepth 100000 in
set_option maxHeartbeats 400000 in
theorem areElements_c (l h : Nat) (v : Value) (xs : List Int) (sz : Int) (w : World) (hx : xs.length ≤ 1048576) (hv : SlI l h w v xs) :
    Calls Try.prog 47 #[v, .int .i64 sz] w (RetV w (.bool (xs.all (fun x => inB x 0 (sz - 1))))) := by
  obtain ⟨ad, cap, rfl, -, -, hr⟩ := hv
  go_enter Try.func47, Try.ntmps47
  go_wp2_with fail
  go_loop [9] (fun i => ∃ k : Nat, k ≤ xs.length ∧ i = .int .i64 k ∧ (xs.take k).all (fun x => inB x 0 (sz - 1)) = true) (fun i => xs.length - (intOf i).toNat)
  case atStart => exact ⟨0, Nat.zero_le _, rfl, by simp⟩
  case round =>
    obtain ⟨k, hk, rfl, hall⟩ := hrel
    by_cases hlt : k < xs.length
    · obtain ⟨b, off, rfl, hbl, hc⟩ := rd hr (Bel.rfl' w) k hlt
      have ES : (xs.take (k+1)).all (fun x => inB x 0 (sz - 1)) = (decide (0 ≤ xs.getD k 0) && decide (xs.getD k 0 < sz)) := (all_split xs (fun x => inB x 0 (sz - 1)) k hlt hall).trans (elem_in _ _)
      have EF : (decide (0 ≤ xs.getD k 0) && decide (xs.getD k 0 < sz)) = false → xs.all (fun x => inB x 0 (sz - 1)) = false := fun h => all_false xs (fun x => inB x 0 (sz - 1)) k hlt ((elem_in _ _).trans h)
      generalize xs.getD k 0 = x at *
      by_cases h0 : x < 0
      · have E := Lib.hid (EF (by rw [decide_eq_false (show ¬ 0 ≤ x by omega)]; rfl))
        clear ES EF hall hr
        go_wp2_with fail
        go_ret
        exact ⟨by rw [E.out]; rfl, Bel.rfl' _⟩
      · by_cases h1 : x < sz
        · have E := Lib.hid (ES.trans (by rw [decide_eq_true (show 0 ≤ x by omega), decide_eq_true h1, Bool.true_and]))
          clear ES EF hall hr
          go_wp2_with fail
          go_round
          case rel => exact ⟨k+1, by omega, by go_num, E.out⟩
          case measure => simp [intOf]; omega
        · have E := Lib.hid (EF (by rw [decide_eq_false h1, Bool.and_false]))
          clear ES EF hall hr
          go_wp2_with fail
          go_ret
          exact ⟨by rw [E.out]; rfl, Bel.rfl' _⟩
    · have E := Lib.hid (all_done xs _ k hk hlt hall)
      clear hall hr
      go_wp2_with fail
      go_ret
      exact ⟨by rw [E.out]; rfl, Bel.rfl' _⟩
theorem areElements_v (l h : Nat) (v : Value) (xs : List Int) (sz : Int) (q : Bool) (w : World) (he : xs.all (fun x => inB x 0 (sz - 1)) = q) (hx : xs.length ≤ 1048576) (hv : SlI l h w v xs) :
    Calls Try.prog 47 #[v, .int .i64 sz] w (RetV w (.bool q)) := by subst he; exact areElements_c l h v xs sz w hx hv

set_option maxRecDepth 100000 in
set_option maxHeartbeats 400000 in
theorem hasWorlds_c (l h : Nat) (v : Value) (ar : List Int) (sz : Int) (w : World) (ha : ar.length ≤ 1048576) (hv : SlI l h w v ar) :
    Calls Try.prog 45 #[.agg #[v], .int .i64 sz] w (RetV w (.bool (goodSign ar && inB sz 1 3))) := by
  cases hg : goodSign ar with
  | false =>
    have HC := Lib.hid (fun (w' : World) (hb : Bel w w') => iGoodSign_v l h v ar false w' hg ha (hv.below hb)); clear hg
    go_enter Try.func45, Try.ntmps45
    go_wp2_with fail
    refine (HC.out _ (Bel.alloc0 _ _)).mono ?_; rintro e w1 ⟨rfl, hb1⟩
    go_wp2_with fail
    go_ret
    exact ⟨rfl, hb1.of_alloc⟩
  | true =>
    rw [Bool.true_and]
    have HC := Lib.hid (fun (w' : World) (hb : Bel w w') => iGoodSign_v l h v ar true w' hg ha (hv.below hb)); clear hg
    by_cases h1 : 1 ≤ sz
    · by_cases h2 : sz ≤ 3
      · have E : Hid (inB sz 1 3 = true) := by show _ = _; unfold inB; simp [h1, h2]
        go_enter Try.func45, Try.ntmps45
        go_wp2_with fail
        refine (HC.out _ (Bel.alloc0 _ _)).mono ?_; rintro e w1 ⟨rfl, hb1⟩
        go_wp2_with fail
        go_ret
        exact ⟨by rw [E.out]; rfl, hb1.of_alloc⟩
      · have E : Hid (inB sz 1 3 = decide (sz ≤ 3)) := by show _ = _; unfold inB; rw [decide_eq_true h1, Bool.true_and]
        go_enter Try.func45, Try.ntmps45
        go_wp2_with fail
        refine (HC.out _ (Bel.alloc0 _ _)).mono ?_; rintro e w1 ⟨rfl, hb1⟩
        go_wp2_with fail
        go_ret
        exact ⟨by rw [E.out]; rfl, hb1.of_alloc⟩
    · have E : Hid (inB sz 1 3 = false) := by show _ = _; unfold inB; simp; omega
      go_enter Try.func45, Try.ntmps45
      go_wp2_with fail
      refine (HC.out _ (Bel.alloc0 _ _)).mono ?_; rintro e w1 ⟨rfl, hb1⟩
      go_wp2_with fail
      go_ret
      exact ⟨by rw [E.out]; rfl, hb1.of_alloc⟩
theorem hasWorlds_v (l h : Nat) (v : Value) (ar : List Int) (sz : Int) (q : Bool) (w : World) (he : (goodSign ar && inB sz 1 3) = q) (ha : ar.length ≤ 1048576) (hv : SlI l h w v ar) :
    Calls Try.prog 45 #[.agg #[v], .int .i64 sz] w (RetV w (.bool q)) := by subst he; exact hasWorlds_c l h v ar sz w ha hv
end Go.Proofs.Ytjgbeclafdhijaa
end
section
/- Chapter 5: CountWorlds, the reference. -/
namespace Go.Proofs.Ytjgbeclafdhijaa
open Go.RowKit

theorem cw_step {sz : Int} {N : Int} {m : Nat} (h : min N 10000 = cwN sz m) (hlt : N < 10000) : min (N * sz) 10000 = cwN sz (m + 1) := by
  rw [cwN, ← h]
  rw [show min N 10000 = N from by omega]
theorem sumW_pos (ar : List Int) (sz : Int) (k : Nat) : sumW ar sz (k+1) = sumW ar sz k + longW sz (ar.getD k 0) := rfl
theorem sumW_mono (ar : List Int) (sz : Int) (k n : Nat) (h : k ≤ n) : sumW ar sz k ≤ sumW ar sz n := by
  induction n with
  | zero => rw [show k = 0 by omega]; exact Nat.le_refl _
  | succ n ih =>
    by_cases e : k = n + 1
    · rw [e]; exact Nat.le_refl _
    · rw [sumW_pos]; have := ih (by omega); omega
theorem longW_nat (Z A : Nat) : longW (Z : Int) (A : Int) = Z ^ A := rfl
theorem l1Least_c (a b : Int) (w : World) : Calls Try.prog 53 #[.int .i64 a, .int .i64 b] w (RetV w (.int .i64 (min a b))) := by
  by_cases h : a < b
  · have E : Hid (min a b = a) := by show _ = _; omega
    go_enter Try.func53, Try.ntmps53
    go_wp2_with fail
    go_ret
    exact ⟨by rw [E.out]; rfl, Bel.rfl' _⟩
  · have E : Hid (min a b = b) := by show _ = _; omega
    go_enter Try.func53, Try.ntmps53
    go_wp2_with fail
    go_ret
    exact ⟨by rw [E.out]; rfl, Bel.rfl' _⟩

set_option maxRecDepth 100000 in
set_option maxHeartbeats 1000000 in
theorem l5Worlds_c (l h : Nat) (v : Value) (ar : List Int) (sz : Int) (w : World) (hg : goodSign ar = true) (h1 : inB sz 1 3 = true) (hv : SlI l h w v ar) :
    Calls Try.prog 50 #[.agg #[v], .int .i64 sz] w (RetV w (.int .i64 (cwN sz (sumW ar sz ar.length)))) := by
  obtain ⟨ad, cap, rfl, -, -, hr⟩ := hv
  have hlen := (sign_len ar hg).2
  obtain ⟨z1, z3⟩ : 1 ≤ sz ∧ sz ≤ 3 := by unfold inB at h1; simpa using h1
  obtain ⟨Z, rfl⟩ : ∃ Z : Nat, sz = (Z : Int) := ⟨sz.toNat, by omega⟩
  clear h1
  go_enter Try.func50, Try.ntmps50
  go_wp2_with fail
  obtain ⟨W, hW⟩ : ∃ W, W = w.alloc (.cells #[.slice ad ar.length cap] 32) := ⟨_, rfl⟩
  rw [← hW]
  have hB : Bel w W := by rw [hW]; exact Bel.alloc0 _ _
  clear hW
  go_loopw [5, 12] (fun n i wr => ∃ (k : Nat) (N : Int), k ≤ ar.length ∧ i = .int .i64 k ∧ n = .int .i64 N ∧ 1 ≤ N ∧ N ≤ 29997 ∧ min N 10000 = cwN Z (sumW ar Z k) ∧ Bel W wr) (fun _ i _ => ar.length - (intOf i).toNat)
  case atStart => exact ⟨0, 1, Nat.zero_le _, rfl, rfl, by omega, by omega, rfl, Bel.rfl' _⟩
  case round =>
    obtain ⟨k, N, hk, rfl, rfl, n1, n2, hN, hb⟩ := hrel
    by_cases hlt : k < ar.length
    · obtain ⟨b2, off2, rfl, hb2l, hc2⟩ := rd hr (hB.step hb) k hlt
      have h03 := ar_nonneg ar hg k
      obtain ⟨A, hA⟩ : ∃ A : Nat, ar.getD k 0 = (A : Int) := ⟨(ar.getD k 0).toNat, by omega⟩
      have HS : Hid (sumW ar Z (k+1) = sumW ar Z k + Z ^ A) := by show _ = _; rw [sumW_pos, hA]; rfl
      rw [hA] at hc2 h03
      have hA3 : A ≤ 3 := by omega
      have hL27 := pw_le (Z := Z) (by omega) hA3
      have HL := Lib.hid (fun (w' : World) => l5Long_c Z A w' (by omega) hA3)
      clear hA h03
      generalize Z ^ A = L at *
      go_wp2_with fail
      refine (HL.out _).mono ?_; rintro e w2 ⟨rfl, hb2⟩
      go_wp2_with fail
      go_loop [5, 8] (fun n i => ∃ (d : Nat) (M : Int), d ≤ L ∧ i = .int .i64 ((L - d : Nat) : Int) ∧ n = .int .i64 M ∧ 1 ≤ M ∧ M ≤ 29997 ∧ min M 10000 = cwN Z (sumW ar Z k + d)) (fun _ i => (intOf i).toNat)
      case atStart => exact ⟨0, N, Nat.zero_le _, rfl, rfl, n1, n2, hN⟩
      case round =>
        obtain ⟨d, M, hd, rfl, rfl, m1, m2, hM⟩ := hrel
        by_cases hdl : d < L
        · by_cases hM1 : M < 10000
          · have hmul : M * 1 ≤ M * (Z : Int) := Int.mul_le_mul_of_nonneg_left z1 (by omega)
            have hmul2 : M * (Z : Int) ≤ M * 3 := Int.mul_le_mul_of_nonneg_left z3 (by omega)
            have hst := cw_step hM hM1
            have hw1 := IntWalk.i64_in (M * (Z : Int)) (by omega)
            have hpos : (0 : Int) < ((L - d : Nat) : Int) := by omega
            have hg27 : ((L - d : Nat) : Int) ≤ 27 := by omega
            have hsub : Hid (((L - d : Nat) : Int) - 1 = ((L - (d + 1) : Nat) : Int)) := by show _ = _; omega
            have HST := Lib.hid hst
            have HM5 := Lib.hid (show 1 ≤ M * (Z : Int) ∧ M * (Z : Int) ≤ 29997 by omega)
            clear hst hM hmul hmul2
            generalize ((L - d : Nat) : Int) = g at *
            go_wp2_with fail
            go_round
            case rel => exact ⟨d+1, M * (Z : Int), by omega, by rw [← hsub.out], rfl, HM5.out.1, HM5.out.2, HST.out⟩
            case measure => simp [intOf]; omega
          · have hst : min M 10000 = cwN Z (sumW ar Z (k+1)) := by
              have e := cwN_top (sz := (Z : Int)) z1 (n := sumW ar Z k + d) (by rw [← hM]; omega) (L - d)
              rw [HS.out, show sumW ar Z k + L = sumW ar Z k + d + (L - d) by omega, e]; omega
            have HST := Lib.hid hst
            have hpos : (0 : Int) < ((L - d : Nat) : Int) := by omega
            clear hst hM
            generalize ((L - d : Nat) : Int) = g at *
            go_wp2_with fail
            go_roundw
            case rel => exact ⟨k+1, M, by omega, by go_num, rfl, m1, m2, HST.out, hb.step hb2⟩
            case measure => simp [intOf]; omega
        · obtain rfl : d = L := by omega
          have HST : Hid (min M 10000 = cwN Z (sumW ar Z (k+1))) := by show _ = _; rw [HS.out]; exact hM
          have hz : ((d - d : Nat) : Int) = 0 := by simp
          rw [hz]
          clear hM hz
          go_wp2_with fail
          go_roundw
          case rel => exact ⟨k+1, M, by omega, by go_num, rfl, m1, m2, HST.out, hb.step hb2⟩
          case measure => simp [intOf]; omega
    · obtain rfl : k = ar.length := by omega
      have HN := Lib.hid hN
      clear hN hlt
      go_wp2_with fail
      refine (l1Least_c _ _ _).mono ?_; rintro e w2 ⟨rfl, hb2⟩
      rw [HN.out]
      go_wp2_with fail
      go_ret
      exact ⟨rfl, (hB.step hb).step hb2⟩

set_option maxRecDepth 100000 in
set_option maxHeartbeats 400000 in
theorem sCountWorlds_t {l h : Nat} {v : Value} {ar : List Int} {sz : Int} {w : World} (ha : ar.length ≤ 1048576) (hv : SlI l h w v ar) (_ : -9223372036854775808 ≤ sz) (_ : sz ≤ 9223372036854775807) :
    Calls Try.prog 32 #[.agg #[v], .int .i64 sz] w (RetV w (.tuple #[.int .i64 (worldsAns ar sz), .bool (goodSign ar && inB sz 1 3)])) := by
  unfold worldsAns
  cases hg : goodSign ar with
  | false =>
    rw [Bool.false_and, if_neg (by simp)]
    have HC := Lib.hid (fun (w' : World) (hb : Bel w w') => sGoodSign_v l h v ar false w' hg ha (hv.below hb)); clear hg
    go_enter Try.func32, Try.ntmps32
    go_wp2_with fail
    refine (HC.out _ (Bel.alloc0 _ _)).mono ?_; rintro e w1 ⟨rfl, hb1⟩
    go_wp2_with fail
    go_ret2
    exact ⟨rfl, hb1.of_alloc⟩
  | true =>
    rw [Bool.true_and]
    have HC := Lib.hid (fun (w' : World) (hb : Bel w w') => sGoodSign_v l h v ar true w' hg ha (hv.below hb))
    cases h1 : inB sz 1 3 with
    | false =>
      rw [if_neg (by simp)]
      have HI := Lib.hid h1
      clear hg h1
      go_enter Try.func32, Try.ntmps32
      go_wp2_with fail
      refine (HC.out _ (Bel.alloc0 _ _)).mono ?_; rintro e w1 ⟨rfl, hb1⟩
      go_wp2_with fail
      refine (l1In_qv _ _ _ _ HI.out _).mono ?_; rintro e w2 ⟨rfl, rfl⟩
      go_wp2_with fail
      go_ret2
      exact ⟨rfl, hb1.of_alloc⟩
    | true =>
      rw [if_pos rfl]
      have HI := Lib.hid h1
      have HD := Lib.hid (fun (w' : World) (hb : Bel w w') => l5Worlds_c l h v ar sz w' hg h1 (hv.below hb))
      clear hg h1
      generalize cwN sz (sumW ar sz ar.length) = q at *
      go_enter Try.func32, Try.ntmps32
      go_wp2_with fail
      refine (HC.out _ (Bel.alloc0 _ _)).mono ?_; rintro e w1 ⟨rfl, hb1⟩
      have hbox := boxc hb1 0 _ rfl
      go_wp2_with fail
      refine (l1In_qv _ _ _ _ HI.out _).mono ?_; rintro e w2 ⟨rfl, rfl⟩
      go_wp2_with fail
      refine (HD.out _ hb1.of_alloc).mono ?_; rintro e w3 ⟨rfl, hb3⟩
      go_wp2_with fail
      go_ret2
      exact ⟨rfl, hb1.of_alloc.step hb3⟩
end Go.Proofs.Ytjgbeclafdhijaa
end
section
/- A law's helpers for worlds: sizes, copies, marks. -/
namespace Go.Proofs.Ytjgbeclafdhijaa
open Go.RowKit

theorem cell_ko {w : World} {b off : Nat} {v : Value} (h : b < w.heap.size ∧ w.cell? ⟨b, off, none⟩ = some v) : K (fun w => b < w.heap.size ∧ w.cell? ⟨b, off, none⟩ = some v) w :=
  fun _ hb => ⟨Nat.lt_of_lt_of_le h.1 hb.size, hb.at h.1 h.2⟩
theorem boxk1 {w w' : World} {cs : Array Value} {t : TypeId} (hb : Bel (w.alloc (.cells cs t)) w') (v : Value) (hv : cs[1]? = some v) : w.heap.size < w'.heap.size ∧ w'.cell? ⟨w.heap.size, 1, none⟩ = some v :=
  ⟨by have := hb.size; simp at this; omega, boxc hb 1 v hv⟩
theorem boxk2 {w w' : World} {o : Obj} {cs : Array Value} {t : TypeId} (hb : Bel ((w.alloc o).alloc (.cells cs t)) w') (i : Nat) (v : Value) (hv : cs[i]? = some v) : w.heap.size + 1 < w'.heap.size ∧ w'.cell? ⟨w.heap.size + 1, i, none⟩ = some v :=
  ⟨by have := hb.size; simp at this; omega, by have := boxc hb i v hv; simpa using this⟩

theorem szWorld_c (l h : Nat) (z : Int) (v : Value) (tb : List (List Int)) (left : Int) (w : World) (h0 : 0 ≤ left) (h1 : left ≤ 1048576) (hv : SlS l h w v tb) :
    Calls Try.prog 6 #[.agg #[.int .i64 z, v], .int .i64 left] w (RetV w (.int .i64 (szS tb left))) := by
  have hl := szIntSS_c l h v tb left (w.alloc (.cells #[.int .i64 z, v] 27)) h0 h1 (hv.alloc _)
  by_cases hs : szS tb left < 0
  · have E : Hid (szS tb left = -1) := by show szS _ _ = _; revert hs; unfold szS; split <;> omega
    have HL := Lib.hid hl; clear hl
    rw [E.out] at HL
    rw [E.out]
    clear hs hv
    go_enter Try.func6, Try.ntmps6
    go_wp2_with (go_at_call 21; refine HL.out.mono ?_; rintro e w' ⟨rfl, hb1⟩)
    go_ret
    exact ⟨rfl, hb1.of_alloc⟩
  · have HL := Lib.hid hl; clear hl hv
    generalize szS tb left = r at *
    go_enter Try.func6, Try.ntmps6
    go_wp2_with (go_at_call 21; refine HL.out.mono ?_; rintro e w' ⟨rfl, hb1⟩)
    go_ret
    exact ⟨rfl, hb1.of_alloc⟩

/-- A world of the call's own. -/
def RetW (w : World) (z : Int) (tb : List (List Int)) (e : Ending) (w' : World) : Prop := ∃ ad n c, e = .returned (.agg #[.int .i64 z, .slice ad n c]) ∧ OwnS w.heap.size w'.heap.size w' (.slice ad n c) tb ∧ Bel w w'
def RetWB (w : World) (z : Int) (tb : List (List Int)) (ok : Bool) (e : Ending) (w' : World) : Prop := ∃ ad n c, e = .returned (.tuple #[.agg #[.int .i64 z, .slice ad n c], .bool ok]) ∧ OwnS w.heap.size w'.heap.size w' (.slice ad n c) tb ∧ Bel w w'
theorem OwnS.set {lo hi w v xss} (h : OwnS lo hi w v xss) {p : Addr} (hp : p.block < lo ∨ hi ≤ p.block) (u : Value) : OwnS lo hi (w.setCell p u) v xss :=
  h.same fun b h1 h2 _ => Below.heap_setCell w p u b (by omega)

theorem eqWorld_same {z : Int} (l h l' h' : Nat) (v u : Value) (tb : List (List Int)) (w : World) (hx : short tb) (hv : SlS l h w v tb) (hu : SlS l' h' w u tb) :
    Calls Try.prog 13 #[.agg #[.int .i64 z, v], .agg #[.int .i64 z, u]] w (RetV w (.bool true)) := by
  have HC := Lib.hid (eqIntSS_same l h l' h' v u tb ((w.alloc (.cells #[.int .i64 z, v] 34)).alloc (.cells #[.int .i64 z, u] 34)) hx (hv.below (Bel.alloc2 _ _ _)) (hu.below (Bel.alloc2 _ _ _)))
  clear hv hu hx
  go_enter Try.func13, Try.ntmps13
  go_wp2_with (go_at_call 31; refine HC.out.mono ?_; rintro e w' ⟨rfl, hb⟩)
  go_ret
  exact ⟨rfl, (Bel.alloc2 w _ _).step hb⟩

theorem markWorld_c {z : Int} (lo hi : Nat) (v : Value) (tb : List (List Int)) (k : Nat) (w : World) (hx : tot tb ≤ 1048576) (hk : k ≤ 1073741824) (hv : OwnS lo hi w v tb) :
    Calls Try.prog 18 #[.agg #[.int .i64 z, v], .int .i64 k] w (RetMS lo hi w v tb k) := by
  go_enter Try.func18, Try.ntmps18
  go_wp2_with fail
  refine (markIntSS_c lo hi v tb k _ hx hk (hv.alloc _)).mono ?_; rintro e w' ⟨rfl, hb, ho⟩
  go_wp2_with fail
  go_ret
  exact ⟨rfl, (Chg.of_bel (Bel.alloc0 w _)).trans hb, ho⟩

theorem heldWorld_c {z : Int} (l h : Nat) (v : Value) (tb : List (List Int)) (k : Nat) (w : World) (hx : tot tb ≤ 1048576) (hk : k ≤ 1073741824) (hv : SlS l h w v (marksS k tb)) :
    Calls Try.prog 19 #[.agg #[.int .i64 z, v], .int .i64 k] w (RetV w (.int .i64 ((k + sumL tb : Nat) : Int))) := by
  have hsl : sumL tb ≤ 1048576 := by unfold tot at hx; omega
  have HC := Lib.hid (fun (w' : World) (hb : Bel w w') => heldIntSS_c l h v tb k w' hx hk (hv.below hb))
  clear hv hx
  go_enter Try.func19, Try.ntmps19
  go_wp2_with fail
  refine (HC.out _ (Bel.alloc0 _ _)).mono ?_; rintro e w' ⟨rfl, hb⟩
  go_wp2_with fail
  go_ret
  exact ⟨rfl, (Bel.alloc0 w _).step hb⟩

set_option maxRecDepth 100000 in
set_option maxHeartbeats 400000 in
theorem toWorld_c {z : Int} (l h : Nat) (v : Value) (tb : List (List Int)) (w : World) (hx : short tb) (hv : SlS l h w v tb) :
    Calls Try.prog 9 #[.agg #[.int .i64 z, v]] w (RetW w z tb) := by
  have HC := Lib.hid (fun (w' : World) (hb : Bel w w') => toIntSS_c l h v tb w' hx (hv.below hb))
  clear hv hx
  go_enter Try.func9, Try.ntmps9
  go_wp2_with fail
  have HB : Bel w (((w.alloc (.cells #[.int .i64 z, v] 27)).alloc (.cells #[.int .i64 0, .slice none 0 0] 34)).alloc (.cells #[.int .i64 z, .slice none 0 0] 34)) := Bel.alloc3 _ _ _ _
  refine (HC.out _ HB).mono ?_; rintro e w1 ⟨a1, n1, c1, rfl, o1, hb1⟩
  have hz1 := hb1.size
  simp only [World.size_alloc] at hz1 o1
  have e1 := hb1.at (b := w.heap.size + 1) (off := 0) (by simp) (show World.cell? _ _ = some (.int .i64 0) by simp [go_sem])
  have e2 := hb1.at (b := w.heap.size + 1) (off := 1) (by simp) (show World.cell? _ _ = some (.slice none 0 0) by simp [go_sem])
  have f0 := hb1.at (b := w.heap.size + 1 + 1) (off := 0) (by simp) (show World.cell? _ _ = some (.int .i64 z) by simp [go_sem])
  have f1 := hb1.at (b := w.heap.size + 1 + 1) (off := 1) (by simp) (show World.cell? _ _ = some (.slice none 0 0) by simp [go_sem])
  have g1 : ∀ i, w1.frozen? ⟨w.heap.size + 1, i, none⟩ = false := fun i => (hb1.frozen (p := ⟨w.heap.size + 1, i, none⟩) (by simp)).trans (by simp [go_sem])
  have g2 : ∀ i, w1.frozen? ⟨w.heap.size + 1 + 1, i, none⟩ = false := fun i => (hb1.frozen (p := ⟨w.heap.size + 1 + 1, i, none⟩) (by simp)).trans (by simp [go_sem])
  have HB1 := HB.step hb1
  go_wp2_with fail
  have o1' := ((o1.set (p := ⟨w.heap.size + 1 + 1, 1, none⟩) (.inl (by simp)) (.slice a1 n1 c1)).set (p := ⟨w.heap.size + 1, 0, none⟩) (.inl (by simp)) (.int .i64 z)).set (p := ⟨w.heap.size + 1, 1, none⟩) (.inl (by simp)) (.slice a1 n1 c1)
  have HB3 := ((HB1.set (p := ⟨w.heap.size + 1 + 1, 1, none⟩) (by simp; omega) (.slice a1 n1 c1)).set (p := ⟨w.heap.size + 1, 0, none⟩) (by simp) (.int .i64 z)).set (p := ⟨w.heap.size + 1, 1, none⟩) (by simp) (.slice a1 n1 c1)
  refine bodyPost_ret (v := .agg #[.int .i64 z, .slice a1 n1 c1]) (by simp [results, Try.results9, go_sem, e1, e2]) rfl ⟨_, _, _, rfl, o1'.mono (by omega) (by simp), HB3⟩
end Go.Proofs.Ytjgbeclafdhijaa
end
section
/- Chapter 5, the reference: the world of a number. -/
namespace Go.Proofs.Ytjgbeclafdhijaa
open Go.RowKit

set_option maxRecDepth 100000 in
set_option maxHeartbeats 2000000 in
theorem l5WorldAt_c (l h : Nat) (v : Value) (ar : List Int) (Z N : Nat) (w : World) (hg : goodSign ar = true) (z1 : 1 ≤ Z) (z3 : Z ≤ 3) (hN : N ≤ 10000) (hv : SlI l h w v ar) :
    Calls Try.prog 34 #[.agg #[v], .int .i64 (Z : Int), .int .i64 (N : Int)] w (RetW w Z (tabN ar Z N ar.length)) := by
  obtain ⟨ad, cap, rfl, -, -, hr⟩ := hv
  have hlen := (sign_len ar hg).2
  obtain ⟨i0, hi0, hz0, hz1, hz2⟩ := info_parts Try.info3
  obtain ⟨j0, hj0, hy0, hy1, hy2⟩ := info_parts Try.info22
  go_enter Try.func34, Try.ntmps34
  go_wp2_with fail
  obtain ⟨W, hW⟩ : ∃ W, W = ((w.alloc (.cells #[.slice ad ar.length cap] 32)).alloc (.cells #[.int .i64 0, .slice none 0 0] 34)).alloc (.cells #[.int .i64 (Z : Int), .slice none 0 0] 34) := ⟨_, rfl⟩
  have hB : Bel w W := by rw [hW]; exact Bel.alloc3 _ _ _ _
  have zW : w.heap.size + 1 + 1 < W.heap.size := by rw [hW]; simp
  have kr : W.cell? ⟨w.heap.size + 1, 0, none⟩ = some (.int .i64 0) ∧ W.cell? ⟨w.heap.size + 1, 1, none⟩ = some (.slice none 0 0) ∧ ∀ i, W.frozen? ⟨w.heap.size + 1, i, none⟩ = false := by rw [hW]; simp [go_sem]
  have kb : W.cell? ⟨w.heap.size + 1 + 1, 0, none⟩ = some (.int .i64 (Z : Int)) ∧ W.cell? ⟨w.heap.size + 1 + 1, 1, none⟩ = some (.slice none 0 0) ∧ ∀ i, W.frozen? ⟨w.heap.size + 1 + 1, i, none⟩ = false := by rw [hW]; simp [go_sem]
  rw [← hW]
  clear hW
  have HKR := Lib.hid kr
  have HKB := Lib.hid kb
  clear kr kb
  go_loopw [2, 17] (fun no i wr => ∃ (k : Nat) (tv : Value), k ≤ ar.length ∧ i = .int .i64 k ∧ no = .int .i64 ((N / Z ^ sumW ar Z k : Nat) : Int) ∧ wr.cell? ⟨w.heap.size + 1 + 1, 0, none⟩ = some (.int .i64 (Z : Int)) ∧ wr.cell? ⟨w.heap.size + 1 + 1, 1, none⟩ = some tv ∧ wr.frozen? ⟨w.heap.size + 1 + 1, 1, none⟩ = false ∧ RowO (w.heap.size + 1 + 1 + 1) wr tv (tabN ar Z N k) ∧ Below (w.heap.size + 1 + 1) W wr) (fun _ i _ => ar.length - (intOf i).toNat)
  case atStart => exact ⟨0, _, Nat.zero_le _, rfl, by simp [sumW], HKB.out.1, HKB.out.2.1, HKB.out.2.2 1, RowO.nil _ _, Below.refl _ _⟩
  case round =>
    obtain ⟨k, tv, hk, rfl, rfl, hc0, hc1, hf1, hrow, hch⟩ := hrel
    have hBr : Bel w wr := hB.trans (hch.mono (by omega))
    have zr : w.heap.size + 1 + 1 < wr.heap.size := Nat.lt_of_lt_of_le zW hch.size
    by_cases hlt : k < ar.length
    · obtain ⟨b2, off2, rfl, hb2l, hc2⟩ := rd hr hBr k hlt
      have h03 := ar_nonneg ar hg k
      obtain ⟨A, hA⟩ : ∃ A : Nat, ar.getD k 0 = (A : Int) := ⟨(ar.getD k 0).toNat, by omega⟩
      have HS : Hid (sumW ar Z (k+1) = sumW ar Z k + Z ^ A) := by show _ = _; rw [sumW_pos, hA]; rfl
      have HTB : Hid (tabN ar Z N (k+1) = tabN ar Z N k ++ [digN Z (N / Z ^ sumW ar Z k) (Z ^ A)]) := by show _ = _; rw [tabN, hA]; rfl
      rw [hA] at hc2 h03
      have hA3 : A ≤ 3 := by omega
      have hL27 := pw_le (Z := Z) z3 hA3
      have HL := Lib.hid (fun (w' : World) => l5Long_c Z A w' z3 hA3)
      have hNN : N / Z ^ sumW ar Z k ≤ 10000 := Nat.le_trans (Nat.div_le_self _ _) hN
      have HDIV := Lib.hid (div_sum Z N (sumW ar Z k) (Z ^ A))
      have htl := Lib.hid (tabN_len ar Z N k)
      clear hA h03
      generalize Z ^ A = L at *
      generalize N / Z ^ sumW ar Z k = M at *
      generalize tabN ar Z N k = T at *
      go_wp2_with fail
      refine (HL.out _).mono ?_; rintro e w2 ⟨rfl, hb2⟩
      have hc0' := hb2.at zr hc0
      have hc1' := hb2.at zr hc1
      have hf1' := (hb2.frozen (p := ⟨w.heap.size + 1 + 1, 1, none⟩) zr).trans hf1
      have hrow2 := hrow.bel hb2
      go_wp2_with fail
      go_loopw [2, 10, 11] (fun no t kk wi => ∃ d : Nat, d ≤ L ∧ no = .int .i64 ((M / Z ^ d : Nat) : Int) ∧ kk = .int .i64 ((L - d : Nat) : Int) ∧ wi.ownsRow w2.heap.size 3 1 t (digN Z M d).length ((digN Z M d).map (Value.int .i64)) ∧ Bel w2 wi) (fun _ _ kk _ => (intOf kk).toNat)
      case atStart => exact ⟨0, Nat.zero_le _, by simp, rfl, World.ownsRow_nil _ _ _ _, Bel.rfl' _⟩
      case round =>
        obtain ⟨d, hd, rfl, rfl, hown, hbi⟩ := hrel
        by_cases hdl : d < L
        · have hdm : M / Z ^ d ≤ 10000 := Nat.le_trans (Nat.div_le_self _ _) hNN
          have HD2 := Lib.hid (div_step Z M d)
          have HDG : Hid (digN Z M (d+1) = digN Z M d ++ [((M / Z ^ d % Z : Nat) : Int)]) := rfl
          have hdl2 := digN_len Z M d
          generalize M / Z ^ d = Q at *
          generalize digN Z M d = D at *
          have hpos : (0 : Int) < ((L - d : Nat) : Int) := by omega
          have hg27 : ((L - d : Nat) : Int) ≤ 27 := by omega
          have hsub : Hid (((L - d : Nat) : Int) - 1 = ((L - (d + 1) : Nat) : Int)) := by show _ = _; omega
          generalize ((L - d : Nat) : Int) = g at *
          have hZ0 : ((Z : Int) == 0) = false := beq_eq_false_iff_ne.2 (by omega)
          have HQ1 : Hid (((Q / Z : Nat) : Int) = (Q : Int) / (Z : Int)) := Int.natCast_ediv _ _
          have HQ2 : Hid (((Q % Z : Nat) : Int) = (Q : Int) % (Z : Int)) := Int.natCast_emod _ _
          have hal : D.length ≤ 27 := by omega
          have hw9 := IntWalk.i64_in ((Q : Int) / (Z : Int)) (by have h9 : Q / Z ≤ 10000 := Nat.le_trans (Nat.div_le_self _ _) hdm
                                                                 rw [← HQ1.out]; generalize Q / Z = y at h9 ⊢; omega)
          go_wp2_with (at_builtin; refine wpList_append_own _ rfl _ _ 22 rfl w2.heap.size 3 i0 (.int .i64 0) 1 8 Try.underlying22 hi0 hz0 hz1 hz2 rfl (by decide) _ _ _ rfl (hown.alloc _) ⟨wr.heap.size, 0, none⟩ 1 1 [.int .i64 ((Q : Int) % (Z : Int))] rfl rfl (news_one _ _ _) (one_int _) (by unfold maxLen; omega) (by omega) (by have := hbi.size; simp at *; omega) ?_; intro v' w3 hown' hgrow _; have hb3 := (hbi.alloc (.cells #[.int .i64 ((Q : Int) % (Z : Int))] 3)).grown hgrow (fun k hk => own_base hown k hk))
          go_roundw
          case rel => exact ⟨d+1, by omega, by rw [← HD2.out, HQ1.out], by rw [← hsub.out], by rw [HDG.out, HQ2.out]; exact row_snoc hown', hb3⟩
          case measure => simp [intOf]; omega
        · obtain rfl : d = L := by omega
          have hz : ((d - d : Nat) : Int) = 0 := by simp
          rw [hz]
          have hdl3 := digN_len Z M d
          have HMD : Hid (M / Z ^ d = N / Z ^ sumW ar Z (k+1)) := by show _ = _; rw [HS.out]; exact HDIV.out
          have hmd : M / Z ^ d ≤ 10000 := Nat.le_trans (Nat.div_le_self _ _) hNN
          generalize M / Z ^ d = Q at *
          generalize digN Z M d = D at *
          obtain ⟨ad9, n9, c9, rfl⟩ := own_form hown
          have hoI : OwnI w2.heap.size wr.heap.size wr (.slice ad9 n9 c9) D := OwnI.of_row hown
          have zi := hbi.size
          have z2 := hb2.size
          have hd0 := hbi.at (Nat.lt_of_lt_of_le zr z2) hc0'
          have hd1 := hbi.at (Nat.lt_of_lt_of_le zr z2) hc1'
          have hdf := (hbi.frozen (p := ⟨w.heap.size + 1 + 1, 1, none⟩) (Nat.lt_of_lt_of_le zr z2)).trans hf1'
          obtain ⟨us, hown2, hul, hnext⟩ := hrow2.step hbi (Bel.alloc0 wr (.cells #[.slice ad9 n9 c9] 22)) hoI (by omega)
          have HNX := Lib.hid hnext
          have hul2 : us.length ≤ 10 := by have := htl.out; omega
          clear hul
          obtain ⟨atv, ctv, htv⟩ := hrow2.form
          subst htv
          have HFR := Lib.hid ((hch.trans (hb2.mono (by omega))).trans (hbi.mono (by omega)))
          clear hown hoI hnext hrow2 hrow
          go_wp2_with (at_builtin; refine wpList_append_own_at _ rfl _ _ 25 rfl (w.heap.size + 1 + 1 + 1) 22 j0 (.slice none 0 0) 1 24 Try.underlying25 hj0 hy0 hy1 hy2 rfl (by decide) _ _ _ rfl hown2 _ _ _ [.slice ad9 n9 c9] rfl rfl (news_oneV _ _ _) (one_slice _ _ _) (by unfold maxLen; omega) (by omega) (by simp; omega) ?_; intro v' w4 hown' hgrow _ hat; have hR5 := HNX.out w4 v' hown' hgrow hat; obtain ⟨av9, cv9, hvv⟩ := hR5.form; subst hvv; have hbase := own_base hown2; have HB5 : Below (w.heap.size + 1 + 1 + 1) wr w4 := ((Below.refl (w.heap.size + 1 + 1 + 1) wr).alloc (by omega) _).grown hgrow (by simp; omega) hbase; have hx0 := (HB5.cell (p := ⟨w.heap.size + 1 + 1, 0, none⟩) (Nat.lt_succ_self _)).trans hd0; have hx1 := (HB5.cell (p := ⟨w.heap.size + 1 + 1, 1, none⟩) (Nat.lt_succ_self _)).trans hd1; have hxf := (HB5.frozen (p := ⟨w.heap.size + 1 + 1, 1, none⟩) (Nat.lt_succ_self _)).trans hdf)
          go_roundw
          case rel =>
            refine ⟨k+1, _, by omega, by go_num, by rw [HMD.out], ?_, World.cell?_setCell_same _ _ _ hx1, by rw [World.frozen?_setCell]; exact hxf, ?_, Below.setCell (HFR.out.trans (HB5.mono (by omega))) (Nat.le_refl _) _⟩
            · rw [World.cell?_setCell_other (h := by intro h; simp at h)]; exact hx0
            · have h9 := hR5.cur (b := w.heap.size + 1 + 1) (Nat.lt_succ_self _) (Chg.set (p := ⟨w.heap.size + 1 + 1, 1, none⟩) w4 (Nat.le_refl _) (Nat.lt_succ_self _) (.slice av9 (T ++ [D]).length cv9))
              rw [HTB.out]
              simp only [List.length_append, List.length_cons, List.length_nil, Nat.zero_add] at h9
              exact h9
          case measure => simp [intOf]; omega
    · obtain rfl : k = ar.length := by omega
      obtain ⟨atv, ctv, htv⟩ := hrow.form
      subst htv
      have hr0 := (hch.cell (p := ⟨w.heap.size + 1, 0, none⟩) (Nat.lt_succ_self _)).trans HKR.out.1
      have hr1 := (hch.cell (p := ⟨w.heap.size + 1, 1, none⟩) (Nat.lt_succ_self _)).trans HKR.out.2.1
      have hrf := fun i => (hch.frozen (p := ⟨w.heap.size + 1, i, none⟩) (Nat.lt_succ_self _)).trans (HKR.out.2.2 i)
      have hoS := hrow.own
      go_wp2_with fail
      refine bodyPost_ret (v := .agg #[.int .i64 (Z : Int), .slice atv (tabN ar Z N ar.length).length ctv]) (by simp [results, Try.results34, go_sem, hr0, hr1]) rfl ⟨_, _, _, rfl, ?_, ?_⟩
      · exact ((hoS.set (p := ⟨w.heap.size + 1, 0, none⟩) (.inl (by simp)) _).set (p := ⟨w.heap.size + 1, 1, none⟩) (.inl (by simp)) _).mono (by omega) (by simp)
      · exact (hBr.set (p := ⟨w.heap.size + 1, 0, none⟩) (by simp) _).set (p := ⟨w.heap.size + 1, 1, none⟩) (by simp) _
end Go.Proofs.Ytjgbeclafdhijaa
end
