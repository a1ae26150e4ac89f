/- Texts merged, part 4. -/
import Derived.Test.YtfhljkjcjnfjfaaMgFindWorld3
section
/- Chapter 5: CountWorlds, the reference. -/
namespace Go.Proofs.Ytfhljkjcjnfjfaa
open Go.RowKit

theorem cw_step {sz : Int} {N : Int} {m : Nat} (h : min N 10000 = cwN sz m) (hlt : N < 10000) : min (N * sz) 10000 = cwN sz (m + 1) := by
  rw [cwN, ← h]
  rw [show min N 10000 = N from by omega]
theorem sumW_pos (ar : List Int) (sz : Int) (k : Nat) : sumW ar sz (k+1) = sumW ar sz k + longW sz (ar.getD k 0) := rfl
theorem sumW_mono (ar : List Int) (sz : Int) (k n : Nat) (h : k ≤ n) : sumW ar sz k ≤ sumW ar sz n := by
  induction n with
  | zero => rw [show k = 0 by omega]; exact Nat.le_refl _
  | succ n ih =>
    by_cases e : k = n + 1
    · rw [e]; exact Nat.le_refl _
    · rw [sumW_pos]; have := ih (by omega); omega
theorem longW_nat (Z A : Nat) : longW (Z : Int) (A : Int) = Z ^ A := rfl
theorem l1Least_c (a b : Int) (w : World) : Calls Try.prog 126 #[.int .i64 a, .int .i64 b] w (RetV w (.int .i64 (min a b))) := by
  by_cases h : a < b
  · have E : Hid (min a b = a) := by show _ = _; omega
    go_enter Try.func126, Try.ntmps126
    go_wp2_with fail
    go_ret
    exact ⟨by rw [E.out]; rfl, Bel.rfl' _⟩
  · have E : Hid (min a b = b) := by show _ = _; omega
    go_enter Try.func126, Try.ntmps126
    go_wp2_with fail
    go_ret
    exact ⟨by rw [E.out]; rfl, Bel.rfl' _⟩

set_option maxRecDepth 100000 in
set_option maxHeartbeats 1000000 in
theorem l5Worlds_c (l h : Nat) (v : Value) (ar : List Int) (sz : Int) (w : World) (hg : goodSign ar = true) (h1 : inB sz 1 3 = true) (hv : SlI l h w v ar) :
    Calls Try.prog 83 #[.agg #[v], .int .i64 sz] w (RetV w (.int .i64 (cwN sz (sumW ar sz ar.length)))) := by
  obtain ⟨ad, cap, rfl, -, -, hr⟩ := hv
  have hlen := (sign_len ar hg).2
  obtain ⟨z1, z3⟩ : 1 ≤ sz ∧ sz ≤ 3 := by unfold inB at h1; simpa using h1
  obtain ⟨Z, rfl⟩ : ∃ Z : Nat, sz = (Z : Int) := ⟨sz.toNat, by omega⟩
  clear h1
  go_enter Try.func83, Try.ntmps83
  go_wp2_with fail
  obtain ⟨W, hW⟩ : ∃ W, W = w.alloc (.cells #[.slice ad ar.length cap] 30) := ⟨_, rfl⟩
  rw [← hW]
  have hB : Bel w W := by rw [hW]; exact Bel.alloc0 _ _
  clear hW
  go_loopw [5, 12] (fun n i wr => ∃ (k : Nat) (N : Int), k ≤ ar.length ∧ i = .int .i64 k ∧ n = .int .i64 N ∧ 1 ≤ N ∧ N ≤ 29997 ∧ min N 10000 = cwN Z (sumW ar Z k) ∧ Bel W wr) (fun _ i _ => ar.length - (intOf i).toNat)
  case atStart => exact ⟨0, 1, Nat.zero_le _, rfl, rfl, by omega, by omega, rfl, Bel.rfl' _⟩
  case round =>
    obtain ⟨k, N, hk, rfl, rfl, n1, n2, hN, hb⟩ := hrel
    by_cases hlt : k < ar.length
    · obtain ⟨b2, off2, rfl, hb2l, hc2⟩ := rd hr (hB.step hb) k hlt
      have h03 := ar_nonneg ar hg k
      obtain ⟨A, hA⟩ : ∃ A : Nat, ar.getD k 0 = (A : Int) := ⟨(ar.getD k 0).toNat, by omega⟩
      have HS : Hid (sumW ar Z (k+1) = sumW ar Z k + Z ^ A) := by show _ = _; rw [sumW_pos, hA]; rfl
      rw [hA] at hc2 h03
      have hA3 : A ≤ 3 := by omega
      have hL27 := pw_le (Z := Z) (by omega) hA3
      have HL := Lib.hid (fun (w' : World) => l5Long_c Z A w' (by omega) hA3)
      clear hA h03
      generalize Z ^ A = L at *
      go_wp2_with fail
      refine (HL.out _).mono ?_; rintro e w2 ⟨rfl, hb2⟩
      go_wp2_with fail
      go_loop [5, 8] (fun n i => ∃ (d : Nat) (M : Int), d ≤ L ∧ i = .int .i64 ((L - d : Nat) : Int) ∧ n = .int .i64 M ∧ 1 ≤ M ∧ M ≤ 29997 ∧ min M 10000 = cwN Z (sumW ar Z k + d)) (fun _ i => (intOf i).toNat)
      case atStart => exact ⟨0, N, Nat.zero_le _, rfl, rfl, n1, n2, hN⟩
      case round =>
        obtain ⟨d, M, hd, rfl, rfl, m1, m2, hM⟩ := hrel
        by_cases hdl : d < L
        · by_cases hM1 : M < 10000
          · have hmul : M * 1 ≤ M * (Z : Int) := Int.mul_le_mul_of_nonneg_left z1 (by omega)
            have hmul2 : M * (Z : Int) ≤ M * 3 := Int.mul_le_mul_of_nonneg_left z3 (by omega)
            have hst := cw_step hM hM1
            have hw1 := IntWalk.i64_in (M * (Z : Int)) (by omega)
            have hpos : (0 : Int) < ((L - d : Nat) : Int) := by omega
            have hg27 : ((L - d : Nat) : Int) ≤ 27 := by omega
            have hsub : Hid (((L - d : Nat) : Int) - 1 = ((L - (d + 1) : Nat) : Int)) := by show _ = _; omega
            have HST := Lib.hid hst
            have HM5 := Lib.hid (show 1 ≤ M * (Z : Int) ∧ M * (Z : Int) ≤ 29997 by omega)
            clear hst hM hmul hmul2
            generalize ((L - d : Nat) : Int) = g at *
            go_wp2_with fail
            go_round
            case rel => exact ⟨d+1, M * (Z : Int), by omega, by rw [← hsub.out], rfl, HM5.out.1, HM5.out.2, HST.out⟩
            case measure => simp [intOf]; omega
          · have hst : min M 10000 = cwN Z (sumW ar Z (k+1)) := by
              have e := cwN_top (sz := (Z : Int)) z1 (n := sumW ar Z k + d) (by rw [← hM]; omega) (L - d)
              rw [HS.out, show sumW ar Z k + L = sumW ar Z k + d + (L - d) by omega, e]; omega
            have HST := Lib.hid hst
            have hpos : (0 : Int) < ((L - d : Nat) : Int) := by omega
            clear hst hM
            generalize ((L - d : Nat) : Int) = g at *
            go_wp2_with fail
            go_roundw
            case rel => exact ⟨k+1, M, by omega, by go_num, rfl, m1, m2, HST.out, hb.step hb2⟩
            case measure => simp [intOf]; omega
        · obtain rfl : d = L := by omega
          have HST : Hid (min M 10000 = cwN Z (sumW ar Z (k+1))) := by show _ = _; rw [HS.out]; exact hM
          have hz : ((d - d : Nat) : Int) = 0 := by simp
          rw [hz]
          clear hM hz
          go_wp2_with fail
          go_roundw
          case rel => exact ⟨k+1, M, by omega, by go_num, rfl, m1, m2, HST.out, hb.step hb2⟩
          case measure => simp [intOf]; omega
    · obtain rfl : k = ar.length := by omega
      have HN := Lib.hid hN
      clear hN hlt
      go_wp2_with fail
      refine (l1Least_c _ _ _).mono ?_; rintro e w2 ⟨rfl, hb2⟩
      rw [HN.out]
      go_wp2_with fail
      go_ret
      exact ⟨rfl, (hB.step hb).step hb2⟩

set_option maxRecDepth 100000 in
set_option maxHeartbeats 400000 in
theorem sCountWorlds_t {l h : Nat} {v : Value} {ar : List Int} {sz : Int} {w : World} (ha : ar.length ≤ 1048576) (hv : SlI l h w v ar) (_ : -9223372036854775808 ≤ sz) (_ : sz ≤ 9223372036854775807) :
    Calls Try.prog 33 #[.agg #[v], .int .i64 sz] w (RetV w (.tuple #[.int .i64 (worldsAns ar sz), .bool (goodSign ar && inB sz 1 3)])) := by
  unfold worldsAns
  cases hg : goodSign ar with
  | false =>
    rw [Bool.false_and, if_neg (by simp)]
    have HC := Lib.hid (fun (w' : World) (hb : Bel w w') => sGoodSign_v l h v ar false w' hg ha (hv.below hb)); clear hg
    go_enter Try.func33, Try.ntmps33
    go_wp2_with fail
    refine (HC.out _ (Bel.alloc0 _ _)).mono ?_; rintro e w1 ⟨rfl, hb1⟩
    go_wp2_with fail
    go_ret2
    exact ⟨rfl, hb1.of_alloc⟩
  | true =>
    rw [Bool.true_and]
    have HC := Lib.hid (fun (w' : World) (hb : Bel w w') => sGoodSign_v l h v ar true w' hg ha (hv.below hb))
    cases h1 : inB sz 1 3 with
    | false =>
      rw [if_neg (by simp)]
      have HI := Lib.hid h1
      clear hg h1
      go_enter Try.func33, Try.ntmps33
      go_wp2_with fail
      refine (HC.out _ (Bel.alloc0 _ _)).mono ?_; rintro e w1 ⟨rfl, hb1⟩
      go_wp2_with fail
      refine (l1In_qv _ _ _ _ HI.out _).mono ?_; rintro e w2 ⟨rfl, rfl⟩
      go_wp2_with fail
      go_ret2
      exact ⟨rfl, hb1.of_alloc⟩
    | true =>
      rw [if_pos rfl]
      have HI := Lib.hid h1
      have HD := Lib.hid (fun (w' : World) (hb : Bel w w') => l5Worlds_c l h v ar sz w' hg h1 (hv.below hb))
      clear hg h1
      generalize cwN sz (sumW ar sz ar.length) = q at *
      go_enter Try.func33, Try.ntmps33
      go_wp2_with fail
      refine (HC.out _ (Bel.alloc0 _ _)).mono ?_; rintro e w1 ⟨rfl, hb1⟩
      have hbox := boxc hb1 0 _ rfl
      go_wp2_with fail
      refine (l1In_qv _ _ _ _ HI.out _).mono ?_; rintro e w2 ⟨rfl, rfl⟩
      go_wp2_with fail
      refine (HD.out _ hb1.of_alloc).mono ?_; rintro e w3 ⟨rfl, hb3⟩
      go_wp2_with fail
      go_ret2
      exact ⟨rfl, hb1.of_alloc.step hb3⟩
end Go.Proofs.Ytfhljkjcjnfjfaa
end
section
/- A law's helpers for worlds: sizes, copies, marks. -/
namespace Go.Proofs.Ytfhljkjcjnfjfaa
open Go.RowKit

theorem cell_ko {w : World} {b off : Nat} {v : Value} (h : b < w.heap.size ∧ w.cell? ⟨b, off, none⟩ = some v) : K (fun w => b < w.heap.size ∧ w.cell? ⟨b, off, none⟩ = some v) w :=
  fun _ hb => ⟨Nat.lt_of_lt_of_le h.1 hb.size, hb.at h.1 h.2⟩
theorem boxk1 {w w' : World} {cs : Array Value} {t : TypeId} (hb : Bel (w.alloc (.cells cs t)) w') (v : Value) (hv : cs[1]? = some v) : w.heap.size < w'.heap.size ∧ w'.cell? ⟨w.heap.size, 1, none⟩ = some v :=
  ⟨by have := hb.size; simp at this; omega, boxc hb 1 v hv⟩
theorem boxk2 {w w' : World} {o : Obj} {cs : Array Value} {t : TypeId} (hb : Bel ((w.alloc o).alloc (.cells cs t)) w') (i : Nat) (v : Value) (hv : cs[i]? = some v) : w.heap.size + 1 < w'.heap.size ∧ w'.cell? ⟨w.heap.size + 1, i, none⟩ = some v :=
  ⟨by have := hb.size; simp at this; omega, by have := boxc hb i v hv; simpa using this⟩

theorem szWorld_c (l h : Nat) (z : Int) (v : Value) (tb : List (List Int)) (left : Int) (w : World) (h0 : 0 ≤ left) (h1 : left ≤ 1048576) (hv : SlS l h w v tb) :
    Calls Try.prog 28 #[.agg #[.int .i64 z, v], .int .i64 left] w (RetV w (.int .i64 (szS tb left))) := by
  have hl := szIntSS_c l h v tb left (w.alloc (.cells #[.int .i64 z, v] 43)) h0 h1 (hv.alloc _)
  by_cases hs : szS tb left < 0
  · have E : Hid (szS tb left = -1) := by show szS _ _ = _; revert hs; unfold szS; split <;> omega
    have HL := Lib.hid hl; clear hl
    rw [E.out] at HL
    rw [E.out]
    clear hs hv
    go_enter Try.func28, Try.ntmps28
    go_wp2_with (go_at_call 74; refine HL.out.mono ?_; rintro e w' ⟨rfl, hb1⟩)
    go_ret
    exact ⟨rfl, hb1.of_alloc⟩
  · have HL := Lib.hid hl; clear hl hv
    generalize szS tb left = r at *
    go_enter Try.func28, Try.ntmps28
    go_wp2_with (go_at_call 74; refine HL.out.mono ?_; rintro e w' ⟨rfl, hb1⟩)
    go_ret
    exact ⟨rfl, hb1.of_alloc⟩

/-- A world of the call's own. -/
def RetW (w : World) (z : Int) (tb : List (List Int)) (e : Ending) (w' : World) : Prop := ∃ ad n c, e = .returned (.agg #[.int .i64 z, .slice ad n c]) ∧ OwnS w.heap.size w'.heap.size w' (.slice ad n c) tb ∧ Bel w w'
def RetWB (w : World) (z : Int) (tb : List (List Int)) (ok : Bool) (e : Ending) (w' : World) : Prop := ∃ ad n c, e = .returned (.tuple #[.agg #[.int .i64 z, .slice ad n c], .bool ok]) ∧ OwnS w.heap.size w'.heap.size w' (.slice ad n c) tb ∧ Bel w w'
theorem OwnS.set {lo hi w v xss} (h : OwnS lo hi w v xss) {p : Addr} (hp : p.block < lo ∨ hi ≤ p.block) (u : Value) : OwnS lo hi (w.setCell p u) v xss :=
  h.same fun b h1 h2 _ => Below.heap_setCell w p u b (by omega)

theorem eqWorld_same {z : Int} (l h l' h' : Nat) (v u : Value) (tb : List (List Int)) (w : World) (hx : short tb) (hv : SlS l h w v tb) (hu : SlS l' h' w u tb) :
    Calls Try.prog 32 #[.agg #[.int .i64 z, v], .agg #[.int .i64 z, u]] w (RetV w (.bool true)) := by
  have HC := Lib.hid (eqIntSS_same l h l' h' v u tb ((w.alloc (.cells #[.int .i64 z, v] 46)).alloc (.cells #[.int .i64 z, u] 46)) hx (hv.below (Bel.alloc2 _ _ _)) (hu.below (Bel.alloc2 _ _ _)))
  clear hv hu hx
  go_enter Try.func32, Try.ntmps32
  go_wp2_with (go_at_call 81; refine HC.out.mono ?_; rintro e w' ⟨rfl, hb⟩)
  go_ret
  exact ⟨rfl, (Bel.alloc2 w _ _).step hb⟩

theorem markWorld_c {z : Int} (lo hi : Nat) (v : Value) (tb : List (List Int)) (k : Nat) (w : World) (hx : tot tb ≤ 1048576) (hk : k ≤ 1073741824) (hv : OwnS lo hi w v tb) :
    Calls Try.prog 37 #[.agg #[.int .i64 z, v], .int .i64 k] w (RetMS lo hi w v tb k) := by
  go_enter Try.func37, Try.ntmps37
  go_wp2_with fail
  refine (markIntSS_c lo hi v tb k _ hx hk (hv.alloc _)).mono ?_; rintro e w' ⟨rfl, hb, ho⟩
  go_wp2_with fail
  go_ret
  exact ⟨rfl, (Chg.of_bel (Bel.alloc0 w _)).trans hb, ho⟩

theorem heldWorld_c {z : Int} (l h : Nat) (v : Value) (tb : List (List Int)) (k : Nat) (w : World) (hx : tot tb ≤ 1048576) (hk : k ≤ 1073741824) (hv : SlS l h w v (marksS k tb)) :
    Calls Try.prog 38 #[.agg #[.int .i64 z, v], .int .i64 k] w (RetV w (.int .i64 ((k + sumL tb : Nat) : Int))) := by
  have hsl : sumL tb ≤ 1048576 := by unfold tot at hx; omega
  have HC := Lib.hid (fun (w' : World) (hb : Bel w w') => heldIntSS_c l h v tb k w' hx hk (hv.below hb))
  clear hv hx
  go_enter Try.func38, Try.ntmps38
  go_wp2_with fail
  refine (HC.out _ (Bel.alloc0 _ _)).mono ?_; rintro e w' ⟨rfl, hb⟩
  go_wp2_with fail
  go_ret
  exact ⟨rfl, (Bel.alloc0 w _).step hb⟩

set_option maxRecDepth 100000 in
set_option maxHeartbeats 400000 in
theorem toWorld_c {z : Int} (l h : Nat) (v : Value) (tb : List (List Int)) (w : World) (hx : short tb) (hv : SlS l h w v tb) :
    Calls Try.prog 30 #[.agg #[.int .i64 z, v]] w (RetW w z tb) := by
  have HC := Lib.hid (fun (w' : World) (hb : Bel w w') => toIntSS_c l h v tb w' hx (hv.below hb))
  clear hv hx
  go_enter Try.func30, Try.ntmps30
  go_wp2_with fail
  have HB : Bel w (((w.alloc (.cells #[.int .i64 z, v] 43)).alloc (.cells #[.int .i64 0, .slice none 0 0] 46)).alloc (.cells #[.int .i64 z, .slice none 0 0] 46)) := Bel.alloc3 _ _ _ _
  refine (HC.out _ HB).mono ?_; rintro e w1 ⟨a1, n1, c1, rfl, o1, hb1⟩
  have hz1 := hb1.size
  simp only [World.size_alloc] at hz1 o1
  have e1 := hb1.at (b := w.heap.size + 1) (off := 0) (by simp) (show World.cell? _ _ = some (.int .i64 0) by simp [go_sem])
  have e2 := hb1.at (b := w.heap.size + 1) (off := 1) (by simp) (show World.cell? _ _ = some (.slice none 0 0) by simp [go_sem])
  have f0 := hb1.at (b := w.heap.size + 1 + 1) (off := 0) (by simp) (show World.cell? _ _ = some (.int .i64 z) by simp [go_sem])
  have f1 := hb1.at (b := w.heap.size + 1 + 1) (off := 1) (by simp) (show World.cell? _ _ = some (.slice none 0 0) by simp [go_sem])
  have g1 : ∀ i, w1.frozen? ⟨w.heap.size + 1, i, none⟩ = false := fun i => (hb1.frozen (p := ⟨w.heap.size + 1, i, none⟩) (by simp)).trans (by simp [go_sem])
  have g2 : ∀ i, w1.frozen? ⟨w.heap.size + 1 + 1, i, none⟩ = false := fun i => (hb1.frozen (p := ⟨w.heap.size + 1 + 1, i, none⟩) (by simp)).trans (by simp [go_sem])
  have HB1 := HB.step hb1
  go_wp2_with fail
  have o1' := ((o1.set (p := ⟨w.heap.size + 1 + 1, 1, none⟩) (.inl (by simp)) (.slice a1 n1 c1)).set (p := ⟨w.heap.size + 1, 0, none⟩) (.inl (by simp)) (.int .i64 z)).set (p := ⟨w.heap.size + 1, 1, none⟩) (.inl (by simp)) (.slice a1 n1 c1)
  have HB3 := ((HB1.set (p := ⟨w.heap.size + 1 + 1, 1, none⟩) (by simp; omega) (.slice a1 n1 c1)).set (p := ⟨w.heap.size + 1, 0, none⟩) (by simp) (.int .i64 z)).set (p := ⟨w.heap.size + 1, 1, none⟩) (by simp) (.slice a1 n1 c1)
  refine bodyPost_ret (v := .agg #[.int .i64 z, .slice a1 n1 c1]) (by simp [results, Try.results30, go_sem, e1, e2]) rfl ⟨_, _, _, rfl, o1'.mono (by omega) (by simp), HB3⟩
end Go.Proofs.Ytfhljkjcjnfjfaa
end
section
/- Chapter 5, the reference: the world of a number. -/
namespace Go.Proofs.Ytfhljkjcjnfjfaa
open Go.RowKit

set_option maxRecDepth 100000 in
set_option maxHeartbeats 2000000 in
theorem l5WorldAt_c (l h : Nat) (v : Value) (ar : List Int) (Z N : Nat) (w : World) (hg : goodSign ar = true) (z1 : 1 ≤ Z) (z3 : Z ≤ 3) (hN : N ≤ 10000) (hv : SlI l h w v ar) :
    Calls Try.prog 84 #[.agg #[v], .int .i64 (Z : Int), .int .i64 (N : Int)] w (RetW w Z (tabN ar Z N ar.length)) := by
  obtain ⟨ad, cap, rfl, -, -, hr⟩ := hv
  have hlen := (sign_len ar hg).2
  obtain ⟨i0, hi0, hz0, hz1, hz2⟩ := info_parts Try.info3
  obtain ⟨j0, hj0, hy0, hy1, hy2⟩ := info_parts Try.info22
  go_enter Try.func84, Try.ntmps84
  go_wp2_with fail
  obtain ⟨W, hW⟩ : ∃ W, W = ((w.alloc (.cells #[.slice ad ar.length cap] 30)).alloc (.cells #[.int .i64 0, .slice none 0 0] 46)).alloc (.cells #[.int .i64 (Z : Int), .slice none 0 0] 46) := ⟨_, rfl⟩
  have hB : Bel w W := by rw [hW]; exact Bel.alloc3 _ _ _ _
  have zW : w.heap.size + 1 + 1 < W.heap.size := by rw [hW]; simp
  have kr : W.cell? ⟨w.heap.size + 1, 0, none⟩ = some (.int .i64 0) ∧ W.cell? ⟨w.heap.size + 1, 1, none⟩ = some (.slice none 0 0) ∧ ∀ i, W.frozen? ⟨w.heap.size + 1, i, none⟩ = false := by rw [hW]; simp [go_sem]
  have kb : W.cell? ⟨w.heap.size + 1 + 1, 0, none⟩ = some (.int .i64 (Z : Int)) ∧ W.cell? ⟨w.heap.size + 1 + 1, 1, none⟩ = some (.slice none 0 0) ∧ ∀ i, W.frozen? ⟨w.heap.size + 1 + 1, i, none⟩ = false := by rw [hW]; simp [go_sem]
  rw [← hW]
  clear hW
  have HKR := Lib.hid kr
  have HKB := Lib.hid kb
  clear kr kb
  go_loopw [2, 17] (fun no i wr => ∃ (k : Nat) (tv : Value), k ≤ ar.length ∧ i = .int .i64 k ∧ no = .int .i64 ((N / Z ^ sumW ar Z k : Nat) : Int) ∧ wr.cell? ⟨w.heap.size + 1 + 1, 0, none⟩ = some (.int .i64 (Z : Int)) ∧ wr.cell? ⟨w.heap.size + 1 + 1, 1, none⟩ = some tv ∧ wr.frozen? ⟨w.heap.size + 1 + 1, 1, none⟩ = false ∧ RowO (w.heap.size + 1 + 1 + 1) wr tv (tabN ar Z N k) ∧ Below (w.heap.size + 1 + 1) W wr) (fun _ i _ => ar.length - (intOf i).toNat)
  case atStart => exact ⟨0, _, Nat.zero_le _, rfl, by simp [sumW], HKB.out.1, HKB.out.2.1, HKB.out.2.2 1, RowO.nil _ _, Below.refl _ _⟩
  case round =>
    obtain ⟨k, tv, hk, rfl, rfl, hc0, hc1, hf1, hrow, hch⟩ := hrel
    have hBr : Bel w wr := hB.trans (hch.mono (by omega))
    have zr : w.heap.size + 1 + 1 < wr.heap.size := Nat.lt_of_lt_of_le zW hch.size
    by_cases hlt : k < ar.length
    · obtain ⟨b2, off2, rfl, hb2l, hc2⟩ := rd hr hBr k hlt
      have h03 := ar_nonneg ar hg k
      obtain ⟨A, hA⟩ : ∃ A : Nat, ar.getD k 0 = (A : Int) := ⟨(ar.getD k 0).toNat, by omega⟩
      have HS : Hid (sumW ar Z (k+1) = sumW ar Z k + Z ^ A) := by show _ = _; rw [sumW_pos, hA]; rfl
      have HTB : Hid (tabN ar Z N (k+1) = tabN ar Z N k ++ [digN Z (N / Z ^ sumW ar Z k) (Z ^ A)]) := by show _ = _; rw [tabN, hA]; rfl
      rw [hA] at hc2 h03
      have hA3 : A ≤ 3 := by omega
      have hL27 := pw_le (Z := Z) z3 hA3
      have HL := Lib.hid (fun (w' : World) => l5Long_c Z A w' z3 hA3)
      have hNN : N / Z ^ sumW ar Z k ≤ 10000 := Nat.le_trans (Nat.div_le_self _ _) hN
      have HDIV := Lib.hid (div_sum Z N (sumW ar Z k) (Z ^ A))
      have htl := Lib.hid (tabN_len ar Z N k)
      clear hA h03
      generalize Z ^ A = L at *
      generalize N / Z ^ sumW ar Z k = M at *
      generalize tabN ar Z N k = T at *
      go_wp2_with fail
      refine (HL.out _).mono ?_; rintro e w2 ⟨rfl, hb2⟩
      have hc0' := hb2.at zr hc0
      have hc1' := hb2.at zr hc1
      have hf1' := (hb2.frozen (p := ⟨w.heap.size + 1 + 1, 1, none⟩) zr).trans hf1
      have hrow2 := hrow.bel hb2
      go_wp2_with fail
      go_loopw [2, 10, 11] (fun no t kk wi => ∃ d : Nat, d ≤ L ∧ no = .int .i64 ((M / Z ^ d : Nat) : Int) ∧ kk = .int .i64 ((L - d : Nat) : Int) ∧ wi.ownsRow w2.heap.size 3 1 t (digN Z M d).length ((digN Z M d).map (Value.int .i64)) ∧ Bel w2 wi) (fun _ _ kk _ => (intOf kk).toNat)
      case atStart => exact ⟨0, Nat.zero_le _, by simp, rfl, World.ownsRow_nil _ _ _ _, Bel.rfl' _⟩
      case round =>
        obtain ⟨d, hd, rfl, rfl, hown, hbi⟩ := hrel
        by_cases hdl : d < L
        · have hdm : M / Z ^ d ≤ 10000 := Nat.le_trans (Nat.div_le_self _ _) hNN
          have HD2 := Lib.hid (div_step Z M d)
          have HDG : Hid (digN Z M (d+1) = digN Z M d ++ [((M / Z ^ d % Z : Nat) : Int)]) := rfl
          have hdl2 := digN_len Z M d
          generalize M / Z ^ d = Q at *
          generalize digN Z M d = D at *
          have hpos : (0 : Int) < ((L - d : Nat) : Int) := by omega
          have hg27 : ((L - d : Nat) : Int) ≤ 27 := by omega
          have hsub : Hid (((L - d : Nat) : Int) - 1 = ((L - (d + 1) : Nat) : Int)) := by show _ = _; omega
          generalize ((L - d : Nat) : Int) = g at *
          have hZ0 : ((Z : Int) == 0) = false := beq_eq_false_iff_ne.2 (by omega)
          have HQ1 : Hid (((Q / Z : Nat) : Int) = (Q : Int) / (Z : Int)) := Int.natCast_ediv _ _
          have HQ2 : Hid (((Q % Z : Nat) : Int) = (Q : Int) % (Z : Int)) := Int.natCast_emod _ _
          have hal : D.length ≤ 27 := by omega
          have hw9 := IntWalk.i64_in ((Q : Int) / (Z : Int)) (by have h9 : Q / Z ≤ 10000 := Nat.le_trans (Nat.div_le_self _ _) hdm
                                                                 rw [← HQ1.out]; generalize Q / Z = y at h9 ⊢; omega)
          go_wp2_with (at_builtin; refine wpList_append_own _ rfl _ _ 22 rfl w2.heap.size 3 i0 (.int .i64 0) 1 8 Try.underlying22 hi0 hz0 hz1 hz2 rfl (by decide) _ _ _ rfl (hown.alloc _) ⟨wr.heap.size, 0, none⟩ 1 1 [.int .i64 ((Q : Int) % (Z : Int))] rfl rfl (news_one _ _ _) (one_int _) (by unfold maxLen; omega) (by omega) (by have := hbi.size; simp at *; omega) ?_; intro v' w3 hown' hgrow _; have hb3 := (hbi.alloc (.cells #[.int .i64 ((Q : Int) % (Z : Int))] 3)).grown hgrow (fun k hk => own_base hown k hk))
          go_roundw
          case rel => exact ⟨d+1, by omega, by rw [← HD2.out, HQ1.out], by rw [← hsub.out], by rw [HDG.out, HQ2.out]; exact row_snoc hown', hb3⟩
          case measure => simp [intOf]; omega
        · obtain rfl : d = L := by omega
          have hz : ((d - d : Nat) : Int) = 0 := by simp
          rw [hz]
          have hdl3 := digN_len Z M d
          have HMD : Hid (M / Z ^ d = N / Z ^ sumW ar Z (k+1)) := by show _ = _; rw [HS.out]; exact HDIV.out
          have hmd : M / Z ^ d ≤ 10000 := Nat.le_trans (Nat.div_le_self _ _) hNN
          generalize M / Z ^ d = Q at *
          generalize digN Z M d = D at *
          obtain ⟨ad9, n9, c9, rfl⟩ := own_form hown
          have hoI : OwnI w2.heap.size wr.heap.size wr (.slice ad9 n9 c9) D := OwnI.of_row hown
          have zi := hbi.size
          have z2 := hb2.size
          have hd0 := hbi.at (Nat.lt_of_lt_of_le zr z2) hc0'
          have hd1 := hbi.at (Nat.lt_of_lt_of_le zr z2) hc1'
          have hdf := (hbi.frozen (p := ⟨w.heap.size + 1 + 1, 1, none⟩) (Nat.lt_of_lt_of_le zr z2)).trans hf1'
          obtain ⟨us, hown2, hul, hnext⟩ := hrow2.step hbi (Bel.alloc0 wr (.cells #[.slice ad9 n9 c9] 22)) hoI (by omega)
          have HNX := Lib.hid hnext
          have hul2 : us.length ≤ 10 := by have := htl.out; omega
          clear hul
          obtain ⟨atv, ctv, htv⟩ := hrow2.form
          subst htv
          have HFR := Lib.hid ((hch.trans (hb2.mono (by omega))).trans (hbi.mono (by omega)))
          clear hown hoI hnext hrow2 hrow
          go_wp2_with (at_builtin; refine wpList_append_own_at _ rfl _ _ 41 rfl (w.heap.size + 1 + 1 + 1) 22 j0 (.slice none 0 0) 1 24 Try.underlying41 hj0 hy0 hy1 hy2 rfl (by decide) _ _ _ rfl hown2 _ _ _ [.slice ad9 n9 c9] rfl rfl (news_oneV _ _ _) (one_slice _ _ _) (by unfold maxLen; omega) (by omega) (by simp; omega) ?_; intro v' w4 hown' hgrow _ hat; have hR5 := HNX.out w4 v' hown' hgrow hat; obtain ⟨av9, cv9, hvv⟩ := hR5.form; subst hvv; have hbase := own_base hown2; have HB5 : Below (w.heap.size + 1 + 1 + 1) wr w4 := ((Below.refl (w.heap.size + 1 + 1 + 1) wr).alloc (by omega) _).grown hgrow (by simp; omega) hbase; have hx0 := (HB5.cell (p := ⟨w.heap.size + 1 + 1, 0, none⟩) (Nat.lt_succ_self _)).trans hd0; have hx1 := (HB5.cell (p := ⟨w.heap.size + 1 + 1, 1, none⟩) (Nat.lt_succ_self _)).trans hd1; have hxf := (HB5.frozen (p := ⟨w.heap.size + 1 + 1, 1, none⟩) (Nat.lt_succ_self _)).trans hdf)
          go_roundw
          case rel =>
            refine ⟨k+1, _, by omega, by go_num, by rw [HMD.out], ?_, World.cell?_setCell_same _ _ _ hx1, by rw [World.frozen?_setCell]; exact hxf, ?_, Below.setCell (HFR.out.trans (HB5.mono (by omega))) (Nat.le_refl _) _⟩
            · rw [World.cell?_setCell_other (h := by intro h; simp at h)]; exact hx0
            · have h9 := hR5.cur (b := w.heap.size + 1 + 1) (Nat.lt_succ_self _) (Chg.set (p := ⟨w.heap.size + 1 + 1, 1, none⟩) w4 (Nat.le_refl _) (Nat.lt_succ_self _) (.slice av9 (T ++ [D]).length cv9))
              rw [HTB.out]
              simp only [List.length_append, List.length_cons, List.length_nil, Nat.zero_add] at h9
              exact h9
          case measure => simp [intOf]; omega
    · obtain rfl : k = ar.length := by omega
      obtain ⟨atv, ctv, htv⟩ := hrow.form
      subst htv
      have hr0 := (hch.cell (p := ⟨w.heap.size + 1, 0, none⟩) (Nat.lt_succ_self _)).trans HKR.out.1
      have hr1 := (hch.cell (p := ⟨w.heap.size + 1, 1, none⟩) (Nat.lt_succ_self _)).trans HKR.out.2.1
      have hrf := fun i => (hch.frozen (p := ⟨w.heap.size + 1, i, none⟩) (Nat.lt_succ_self _)).trans (HKR.out.2.2 i)
      have hoS := hrow.own
      go_wp2_with fail
      refine bodyPost_ret (v := .agg #[.int .i64 (Z : Int), .slice atv (tabN ar Z N ar.length).length ctv]) (by simp [results, Try.results84, go_sem, hr0, hr1]) rfl ⟨_, _, _, rfl, ?_, ?_⟩
      · exact ((hoS.set (p := ⟨w.heap.size + 1, 0, none⟩) (.inl (by simp)) _).set (p := ⟨w.heap.size + 1, 1, none⟩) (.inl (by simp)) _).mono (by omega) (by simp)
      · exact (hBr.set (p := ⟨w.heap.size + 1, 0, none⟩) (by simp) _).set (p := ⟨w.heap.size + 1, 1, none⟩) (by simp) _
end Go.Proofs.Ytfhljkjcjnfjfaa
end
section
/- Chapter 5: CountWorlds, the program. -/
namespace Go.Proofs.Ytfhljkjcjnfjfaa
open Go.RowKit

theorem cw_succ' (sz : Int) (m : Nat) : (if (10000 : Int) < cwN sz m * sz then 10000 else cwN sz m * sz) = cwN sz (m+1) := by
  rw [cwN]; split <;> omega
theorem cw_succ (sz : Int) (m : Nat) : min (cwN sz m * sz) 10000 = cwN sz (m+1) := rfl

set_option maxRecDepth 100000 in
set_option maxHeartbeats 1000000 in
theorem iCountWorlds_t {l h : Nat} {v : Value} {ar : List Int} {sz : Int} {w : World} (ha : ar.length ≤ 1048576) (hv : SlI l h w v ar) (_ : -9223372036854775808 ≤ sz) (_ : sz ≤ 9223372036854775807) :
    Calls Try.prog 34 #[.agg #[v], .int .i64 sz] w (RetV w (.tuple #[.int .i64 (worldsAns ar sz), .bool (goodSign ar && inB sz 1 3)])) := by
  unfold worldsAns
  cases hq : (goodSign ar && inB sz 1 3) with
  | false =>
    rw [if_neg (by simp)]
    have HC := Lib.hid (fun (w' : World) (hb : Bel w w') => hasWorlds_v l h v ar sz false w' hq ha (hv.below hb)); clear hq
    go_enter Try.func34, Try.ntmps34
    go_wp2_with fail
    refine (HC.out _ (Bel.alloc0 _ _)).mono ?_; rintro e w1 ⟨rfl, hb1⟩
    go_wp2_with fail
    go_ret2
    exact ⟨rfl, hb1.of_alloc⟩
  | true =>
    rw [if_pos rfl]
    have HC := Lib.hid (fun (w' : World) (hb : Bel w w') => hasWorlds_v l h v ar sz true w' hq ha (hv.below hb))
    have hg : goodSign ar = true := by revert hq; cases goodSign ar <;> simp
    have h1 : inB sz 1 3 = true := by revert hq; cases inB sz 1 3 <;> simp
    obtain ⟨ad, cap, rfl, -, -, hr⟩ := hv
    have hlen := (sign_len ar hg).2
    obtain ⟨z1, z3⟩ : 1 ≤ sz ∧ sz ≤ 3 := by unfold inB at h1; simpa using h1
    obtain ⟨Z, rfl⟩ : ∃ Z : Nat, sz = (Z : Int) := ⟨sz.toNat, by omega⟩
    clear h1 hq
    go_enter Try.func34, Try.ntmps34
    go_wp2_with fail
    refine (HC.out _ (Bel.alloc0 _ _)).mono ?_; rintro e W ⟨rfl, hb1⟩
    have hbox := boxc hb1 0 _ rfl
    have hB := hb1.of_alloc
    clear HC hb1
    go_wp2_with fail
    go_loopw [6, 16] (fun n i wr => ∃ k : Nat, k ≤ ar.length ∧ i = .int .i64 k ∧ n = .int .i64 (cwN Z (sumW ar Z k)) ∧ Bel W wr) (fun _ i _ => ar.length - (intOf i).toNat)
    case atStart => exact ⟨0, Nat.zero_le _, rfl, rfl, Bel.rfl' _⟩
    case round =>
      obtain ⟨k, hk, rfl, rfl, hb⟩ := hrel
      by_cases hlt : k < ar.length
      · obtain ⟨b2, off2, rfl, hb2l, hc2⟩ := rd hr (hB.step hb) k hlt
        have h03 := ar_nonneg ar hg k
        obtain ⟨A, hA⟩ : ∃ A : Nat, ar.getD k 0 = (A : Int) := ⟨(ar.getD k 0).toNat, by omega⟩
        have HS : Hid (sumW ar Z (k+1) = sumW ar Z k + Z ^ A) := by show _ = _; rw [sumW_pos, hA]; rfl
        rw [hA] at hc2 h03
        have hA3 : A ≤ 3 := by omega
        have hL27 := pw_le (Z := Z) (by omega) hA3
        have HL := Lib.hid (fun (w' : World) => tableLength_c Z A w' (by omega) hA3)
        clear hA h03
        generalize Z ^ A = L at *
        go_wp2_with fail
        refine (HL.out _).mono ?_; rintro e w2 ⟨rfl, hb2⟩
        go_wp2_with fail
        go_loop [6, 23] (fun n i => ∃ d : Nat, d ≤ L ∧ i = .int .i64 d ∧ n = .int .i64 (cwN Z (sumW ar Z k + d))) (fun _ i => L - (intOf i).toNat)
        case atStart => exact ⟨0, Nat.zero_le _, rfl, rfl⟩
        case round =>
          obtain ⟨d, hd, rfl, rfl⟩ := hrel
          by_cases hdl : d < L
          · have hb := cwN_bd z1 (sumW ar Z k + d)
            have HST := Lib.hid (cw_succ Z (sumW ar Z k + d))
            have HST' := Lib.hid (cw_succ' Z (sumW ar Z k + d))
            generalize cwN Z (sumW ar Z k + d) = M at *
            have hmul : M * 1 ≤ M * (Z : Int) := Int.mul_le_mul_of_nonneg_left z1 (by omega)
            have hmul2 : M * (Z : Int) ≤ M * 3 := Int.mul_le_mul_of_nonneg_left z3 (by omega)
            have hw1 := IntWalk.i64_in (M * (Z : Int)) (by omega)
            clear hmul hmul2
            go_wp2_with fail
            go_round
            case rel => exact ⟨d+1, by omega, by go_num, by rw [← Nat.add_assoc]; first | exact congrArg (Value.int .i64) HST.out | exact congrArg (Value.int .i64) HST'.out⟩
            case measure => simp [intOf]; omega
          · obtain rfl : d = L := by omega
            have HST : Hid (cwN Z (sumW ar Z k + d) = cwN Z (sumW ar Z (k+1))) := by show _ = _; rw [HS.out]
            rw [HST.out]
            go_wp2_with fail
            go_roundw
            case rel => exact ⟨k+1, by omega, by go_num, rfl, hb.step hb2⟩
            case measure => simp [intOf]; omega
      · obtain rfl : k = ar.length := by omega
        go_wp2_with fail
        go_ret2
        exact ⟨rfl, hB.step hb⟩
end Go.Proofs.Ytfhljkjcjnfjfaa
end
section
/- Chapter 5, the program: the world of a number. -/
namespace Go.Proofs.Ytfhljkjcjnfjfaa
open Go.RowKit

theorem madeD (Z M L d : Nat) (h : d < L) : ((madeI (digN Z M L) d).map (Value.int .i64)).set d (.int .i64 (((M / Z ^ d : Nat) : Int) % (Z : Int))) = (madeI (digN Z M L) (d+1)).map (Value.int .i64) := by
  rw [← madeI_succ _ _ (by rw [digN_len]; exact h), digN_get Z M L d h, Int.natCast_emod]

set_option maxRecDepth 100000 in
set_option maxHeartbeats 2000000 in
theorem worldAt_c (l h : Nat) (v : Value) (ar : List Int) (Z N : Nat) (w : World) (hg : goodSign ar = true) (z1 : 1 ≤ Z) (z3 : Z ≤ 3) (hN : N ≤ 10000) (hv : SlI l h w v ar) :
    Calls Try.prog 85 #[.agg #[v], .int .i64 (Z : Int), .int .i64 (N : Int)] w (RetW w Z (tabN ar Z N ar.length)) := by
  obtain ⟨ad, cap, rfl, -, -, hr⟩ := hv
  have hlen := (sign_len ar hg).2
  obtain ⟨i0, hi0, hz0, hz1, hz2⟩ := info_parts Try.info3
  obtain ⟨j0, hj0, hy0, hy1, hy2⟩ := info_parts Try.info22
  go_enter Try.func85, Try.ntmps85
  go_wp2_with fail
  obtain ⟨W, hW⟩ : ∃ W, W = ((w.alloc (.cells #[.slice ad ar.length cap] 30)).alloc (.cells #[.int .i64 0, .slice none 0 0] 46)).alloc (.cells #[.int .i64 (Z : Int), .slice none 0 0] 46) := ⟨_, rfl⟩
  have hB : Bel w W := by rw [hW]; exact Bel.alloc3 _ _ _ _
  have zW : w.heap.size + 1 + 1 < W.heap.size := by rw [hW]; simp
  have kr : W.cell? ⟨w.heap.size + 1, 0, none⟩ = some (.int .i64 0) ∧ W.cell? ⟨w.heap.size + 1, 1, none⟩ = some (.slice none 0 0) ∧ ∀ i, W.frozen? ⟨w.heap.size + 1, i, none⟩ = false := by rw [hW]; simp [go_sem]
  have kb : W.cell? ⟨w.heap.size + 1 + 1, 0, none⟩ = some (.int .i64 (Z : Int)) ∧ W.cell? ⟨w.heap.size + 1 + 1, 1, none⟩ = some (.slice none 0 0) ∧ ∀ i, W.frozen? ⟨w.heap.size + 1 + 1, i, none⟩ = false := by rw [hW]; simp [go_sem]
  rw [← hW]
  clear hW
  have HKR := Lib.hid kr
  have HKB := Lib.hid kb
  clear kr kb
  go_loopw [2, 17] (fun no i wr => ∃ (k : Nat) (tv : Value), k ≤ ar.length ∧ i = .int .i64 k ∧ no = .int .i64 ((N / Z ^ sumW ar Z k : Nat) : Int) ∧ wr.cell? ⟨w.heap.size + 1 + 1, 0, none⟩ = some (.int .i64 (Z : Int)) ∧ wr.cell? ⟨w.heap.size + 1 + 1, 1, none⟩ = some tv ∧ wr.frozen? ⟨w.heap.size + 1 + 1, 1, none⟩ = false ∧ RowO (w.heap.size + 1 + 1 + 1) wr tv (tabN ar Z N k) ∧ Below (w.heap.size + 1 + 1) W wr) (fun _ i _ => ar.length - (intOf i).toNat)
  case atStart => exact ⟨0, _, Nat.zero_le _, rfl, by simp [sumW], HKB.out.1, HKB.out.2.1, HKB.out.2.2 1, RowO.nil _ _, Below.refl _ _⟩
  case round =>
    obtain ⟨k, tv, hk, rfl, rfl, hc0, hc1, hf1, hrow, hch⟩ := hrel
    have hBr : Bel w wr := hB.trans (hch.mono (by omega))
    have zr : w.heap.size + 1 + 1 < wr.heap.size := Nat.lt_of_lt_of_le zW hch.size
    by_cases hlt : k < ar.length
    · obtain ⟨b2, off2, rfl, hb2l, hc2⟩ := rd hr hBr k hlt
      have h03 := ar_nonneg ar hg k
      obtain ⟨A, hA⟩ : ∃ A : Nat, ar.getD k 0 = (A : Int) := ⟨(ar.getD k 0).toNat, by omega⟩
      have HS : Hid (sumW ar Z (k+1) = sumW ar Z k + Z ^ A) := by show _ = _; rw [sumW_pos, hA]; rfl
      have HTB : Hid (tabN ar Z N (k+1) = tabN ar Z N k ++ [digN Z (N / Z ^ sumW ar Z k) (Z ^ A)]) := by show _ = _; rw [tabN, hA]; rfl
      rw [hA] at hc2 h03
      have hA3 : A ≤ 3 := by omega
      have hL27 := pw_le (Z := Z) z3 hA3
      have HL := Lib.hid (fun (w' : World) => tableLength_c Z A w' z3 hA3)
      have hNN : N / Z ^ sumW ar Z k ≤ 10000 := Nat.le_trans (Nat.div_le_self _ _) hN
      have HDIV := Lib.hid (div_sum Z N (sumW ar Z k) (Z ^ A))
      have htl := Lib.hid (tabN_len ar Z N k)
      clear hA h03
      generalize Z ^ A = L at *
      generalize N / Z ^ sumW ar Z k = M at *
      generalize tabN ar Z N k = T at *
      go_wp2_with fail
      refine (HL.out _).mono ?_; rintro e w2 ⟨rfl, hb2⟩
      have hc0' := hb2.at zr hc0
      have hc1' := hb2.at zr hc1
      have hf1' := (hb2.frozen (p := ⟨w.heap.size + 1 + 1, 1, none⟩) zr).trans hf1
      have hrow2 := hrow.bel hb2
      have hdl := digN_len Z M L
      have hL0 : (0 : Int) ≤ (L : Int) := by omega
      go_wp2_with (at_make; refine wpList_make_full _ rfl _ _ 22 rfl w2.heap.size 3 i0 (.int .i64 0) 1 Try.underlying22 hi0 hz0 hz1 _ _ _ _ L rfl rfl rfl rfl (by rw [hz2]; omega) (by unfold maxLen; omega) (Nat.le_refl _) ?_; intro w3 hown hg3)
      have hown0 : w3.ownsRow w2.heap.size 3 1 (.slice (some ⟨w2.heap.size, 0, none⟩) L L) L ((madeI (digN Z M L) 0).map (Value.int .i64)) := by
        have h := madeI_0 (digN Z M L)
        rw [hdl] at h
        rw [← h]; exact hown
      have hb03 : Bel w2 w3 := (Bel.rfl' w2).grown hg3 (by simp)
      have HDL := Lib.hid hdl
      clear hown hg3 hdl
      go_loopw [2, 27] (fun no i wi => ∃ d : Nat, d ≤ L ∧ no = .int .i64 ((M / Z ^ d : Nat) : Int) ∧ i = .int .i64 d ∧ wi.ownsRow w2.heap.size 3 1 (.slice (some ⟨w2.heap.size, 0, none⟩) L L) L ((madeI (digN Z M L) d).map (Value.int .i64)) ∧ Bel w2 wi) (fun _ i _ => L - (intOf i).toNat)
      case atStart => exact ⟨0, Nat.zero_le _, by simp, rfl, hown0, hb03⟩
      case round =>
        obtain ⟨d, hd, rfl, rfl, hown, hbi⟩ := hrel
        by_cases hdl : d < L
        · have hdm : M / Z ^ d ≤ 10000 := Nat.le_trans (Nat.div_le_self _ _) hNN
          have HD2 := Lib.hid (div_step Z M d)
          obtain ⟨y, hcy⟩ := own_cell hown d (by rw [madeI_len _ _ (by rw [HDL.out]; omega), HDL.out]; exact hdl)
          have hst := hown.stored d (.int .i64 (((M / Z ^ d : Nat) : Int) % (Z : Int)))
          rw [madeD Z M L d hdl] at hst
          have hf2 := hown.frozenAt d
          have hbs := hbi.setCell (p := ⟨w2.heap.size, d, none⟩) (Nat.le_refl _) (.int .i64 (((M / Z ^ d : Nat) : Int) % (Z : Int)))
          generalize M / Z ^ d = Q at *
          have hZ0 : ((Z : Int) == 0) = false := beq_eq_false_iff_ne.2 (by omega)
          have HQ1 : Hid (((Q / Z : Nat) : Int) = (Q : Int) / (Z : Int)) := Int.natCast_ediv _ _
          have hw9 := IntWalk.i64_in ((Q : Int) / (Z : Int)) (by have h9 : Q / Z ≤ 10000 := Nat.le_trans (Nat.div_le_self _ _) hdm
                                                                 rw [← HQ1.out]; generalize Q / Z = y at h9 ⊢; omega)
          clear hown
          go_wp2_with fail
          go_roundw
          case rel => exact ⟨d+1, by omega, by rw [← HD2.out, HQ1.out], by go_num, hst.1, hbs⟩
          case measure => simp [intOf]; omega
        · obtain rfl : d = L := by omega
          rw [madeI_all _ _ (by rw [HDL.out]; omega)] at hown
          have hown : wr.ownsRow w2.heap.size 3 1 (.slice (some ⟨w2.heap.size, 0, none⟩) d d) (digN Z M d).length ((digN Z M d).map (Value.int .i64)) := by rw [HDL.out]; exact hown
          have HMD : Hid (M / Z ^ d = N / Z ^ sumW ar Z (k+1)) := by show _ = _; rw [HS.out]; exact HDIV.out
          have hmd : M / Z ^ d ≤ 10000 := Nat.le_trans (Nat.div_le_self _ _) hNN
          generalize M / Z ^ d = Q at *
          generalize digN Z M d = D at *
          have hoI : OwnI w2.heap.size wr.heap.size wr (.slice (some ⟨w2.heap.size, 0, none⟩) d d) D := OwnI.of_row hown
          have zi := hbi.size
          have z2 := hb2.size
          have hd0 := hbi.at (Nat.lt_of_lt_of_le zr z2) hc0'
          have hd1 := hbi.at (Nat.lt_of_lt_of_le zr z2) hc1'
          have hdf := (hbi.frozen (p := ⟨w.heap.size + 1 + 1, 1, none⟩) (Nat.lt_of_lt_of_le zr z2)).trans hf1'
          obtain ⟨us, hown2, hul, hnext⟩ := hrow2.step hbi (Bel.alloc0 wr (.cells #[.slice (some ⟨w2.heap.size, 0, none⟩) d d] 22)) hoI (by omega)
          have HNX := Lib.hid hnext
          have hul2 : us.length ≤ 10 := by have := htl.out; omega
          clear hul
          obtain ⟨atv, ctv, htv⟩ := hrow2.form
          subst htv
          have HFR := Lib.hid ((hch.trans (hb2.mono (by omega))).trans (hbi.mono (by omega)))
          clear hown hoI hnext hrow2 hrow
          go_wp2_with (at_builtin; refine wpList_append_own_at _ rfl _ _ 41 rfl (w.heap.size + 1 + 1 + 1) 22 j0 (.slice none 0 0) 1 24 Try.underlying41 hj0 hy0 hy1 hy2 rfl (by decide) _ _ _ rfl hown2 _ _ _ [.slice (some ⟨w2.heap.size, 0, none⟩) d d] rfl rfl (news_oneV _ _ _) (one_slice _ _ _) (by unfold maxLen; omega) (by omega) (by simp; omega) ?_; intro v' w4 hown' hgrow _ hat; have hR5 := HNX.out w4 v' hown' hgrow hat; obtain ⟨av9, cv9, hvv⟩ := hR5.form; subst hvv; have hbase := own_base hown2; have HB5 : Below (w.heap.size + 1 + 1 + 1) wr w4 := ((Below.refl (w.heap.size + 1 + 1 + 1) wr).alloc (by omega) _).grown hgrow (by simp; omega) hbase; have hx0 := (HB5.cell (p := ⟨w.heap.size + 1 + 1, 0, none⟩) (Nat.lt_succ_self _)).trans hd0; have hx1 := (HB5.cell (p := ⟨w.heap.size + 1 + 1, 1, none⟩) (Nat.lt_succ_self _)).trans hd1; have hxf := (HB5.frozen (p := ⟨w.heap.size + 1 + 1, 1, none⟩) (Nat.lt_succ_self _)).trans hdf)
          go_roundw
          case rel =>
            refine ⟨k+1, _, by omega, by go_num, by rw [HMD.out], ?_, World.cell?_setCell_same _ _ _ hx1, by rw [World.frozen?_setCell]; exact hxf, ?_, Below.setCell (HFR.out.trans (HB5.mono (by omega))) (Nat.le_refl _) _⟩
            · rw [World.cell?_setCell_other (h := by intro h; simp at h)]; exact hx0
            · have h9 := hR5.cur (b := w.heap.size + 1 + 1) (Nat.lt_succ_self _) (Chg.set (p := ⟨w.heap.size + 1 + 1, 1, none⟩) w4 (Nat.le_refl _) (Nat.lt_succ_self _) (.slice av9 (T ++ [D]).length cv9))
              rw [HTB.out]
              simp only [List.length_append, List.length_cons, List.length_nil, Nat.zero_add] at h9
              exact h9
          case measure => simp [intOf]; omega
    · obtain rfl : k = ar.length := by omega
      obtain ⟨atv, ctv, htv⟩ := hrow.form
      subst htv
      have hr0 := (hch.cell (p := ⟨w.heap.size + 1, 0, none⟩) (Nat.lt_succ_self _)).trans HKR.out.1
      have hr1 := (hch.cell (p := ⟨w.heap.size + 1, 1, none⟩) (Nat.lt_succ_self _)).trans HKR.out.2.1
      have hrf := fun i => (hch.frozen (p := ⟨w.heap.size + 1, i, none⟩) (Nat.lt_succ_self _)).trans (HKR.out.2.2 i)
      have hoS := hrow.own
      go_wp2_with fail
      refine bodyPost_ret (v := .agg #[.int .i64 (Z : Int), .slice atv (tabN ar Z N ar.length).length ctv]) (by simp [results, Try.results85, go_sem, hr0, hr1]) rfl ⟨_, _, _, rfl, ?_, ?_⟩
      · exact ((hoS.set (p := ⟨w.heap.size + 1, 0, none⟩) (.inl (by simp)) _).set (p := ⟨w.heap.size + 1, 1, none⟩) (.inl (by simp)) _).mono (by omega) (by simp)
      · exact (hBr.set (p := ⟨w.heap.size + 1, 0, none⟩) (by simp) _).set (p := ⟨w.heap.size + 1, 1, none⟩) (by simp) _
end Go.Proofs.Ytfhljkjcjnfjfaa
end
section
/- Chapter 5: WorldAt, both functions. -/
namespace Go.Proofs.Ytfhljkjcjnfjfaa
open Go.RowKit

def worldAtOk (ar : List Int) (sz no : Int) : Bool := (goodSign ar && inB sz 1 3) && (decide (worldsAns ar sz ≠ 10000) && inB no 0 (worldsAns ar sz - 1))
def worldAtZ (ar : List Int) (sz no : Int) : Int := if worldAtOk ar sz no then sz else 0
def worldAtT (ar : List Int) (sz no : Int) : List (List Int) := if worldAtOk ar sz no then tabN ar sz.toNat no.toNat ar.length else []
theorem worldAtT_tot (ar : List Int) (sz no : Int) : tot (worldAtT ar sz no) ≤ 1048576 := by
  unfold worldAtT
  split
  · rename_i h
    unfold worldAtOk at h
    simp only [Bool.and_eq_true] at h
    obtain ⟨⟨hg, hs⟩, _⟩ := h
    have hlen := (sign_len ar hg).2
    have hs2 : 1 ≤ sz ∧ sz ≤ 3 := by unfold inB at hs; simpa using hs
    have := tabN_tot ar sz.toNat no.toNat (fun k => longW_le (by omega) (ar_nonneg ar hg k).2) ar.length
    omega
  · simp [tot, sumL]
theorem worlds_le (ar : List Int) (sz : Int) (h : 1 ≤ sz) : worldsAns ar sz ≤ 10000 := by
  unfold worldsAns
  split
  · exact (cwN_bd h _).2
  · omega

set_option maxRecDepth 100000 in
set_option maxHeartbeats 1000000 in
theorem sWorldAt_t {l h : Nat} {v : Value} {ar : List Int} {sz no : Int} {w : World} (ha : ar.length ≤ 1048576) (hv : SlI l h w v ar) (b1 : -9223372036854775808 ≤ sz) (b2 : sz ≤ 9223372036854775807) (b3 : -9223372036854775808 ≤ no) (b4 : no ≤ 9223372036854775807) :
    Calls Try.prog 35 #[.agg #[v], .int .i64 sz, .int .i64 no] w (RetWB w (worldAtZ ar sz no) (worldAtT ar sz no) (worldAtOk ar sz no)) := by
  have HB : Bel w ((w.alloc (.cells #[v] 30)).alloc (.cells #[.int .i64 0, .slice none 0 0] 46)) := Bel.alloc2 _ _ _
  have HC := Lib.hid (fun (w' : World) (hb : Bel w w') => sCountWorlds_t (sz := sz) ha (hv.below hb) b1 b2)
  have KX : Hid (∀ w', Bel ((w.alloc (.cells #[v] 30)).alloc (.cells #[.int .i64 0, .slice none 0 0] 46)) w' → w'.cell? ⟨w.heap.size, 0, none⟩ = some v ∧ w'.cell? ⟨w.heap.size + 1, 0, none⟩ = some (.int .i64 0) ∧ w'.cell? ⟨w.heap.size + 1, 1, none⟩ = some (.slice none 0 0) ∧ w.heap.size + 1 < w'.heap.size ∧ ∀ i, w'.frozen? ⟨w.heap.size + 1, i, none⟩ = false) := fun w' hq =>
    ⟨hq.at (by simp; omega) (by simp [go_sem]), hq.at (by simp) (by simp [go_sem]), hq.at (by simp) (by simp [go_sem]), by have := hq.size; simp at this; omega, fun i => (hq.frozen (p := ⟨w.heap.size + 1, i, none⟩) (by simp)).trans (by simp [go_sem])⟩
  have HNO : ∀ w', Bel w w' → Bel w ((w'.setCell ⟨w.heap.size + 1, 0, none⟩ (.int .i64 0)).setCell ⟨w.heap.size + 1, 1, none⟩ (.slice none 0 0)) := fun w' hb => (hb.set (p := ⟨w.heap.size + 1, 0, none⟩) (by simp) _).set (p := ⟨w.heap.size + 1, 1, none⟩) (by simp) _
  have HNO := Lib.hid HNO
  cases hq : (goodSign ar && inB sz 1 3) with
  | false =>
    have E : Hid (worldAtOk ar sz no = false) := by show _ = _; unfold worldAtOk; rw [hq]; rfl
    rw [hq] at HC
    unfold worldAtZ worldAtT
    rw [E.out, if_neg (by simp), if_neg (by simp)]
    generalize worldsAns ar sz = m at *
    clear hq
    go_enter Try.func35, Try.ntmps35
    go_wp2_with fail
    refine (HC.out _ HB).mono ?_; rintro e w1 ⟨rfl, hb1⟩
    obtain ⟨x0, x1, x2, x3, x4⟩ := KX.out _ hb1
    go_wp2_with fail
    refine bodyPost_ret (v := .tuple #[.agg #[.int .i64 0, .slice none 0 0], .bool false]) (by simp [results, Try.results35, go_sem, x1, x2]) rfl ⟨_, _, _, rfl, OwnS.nil _ _ _, HNO.out _ (HB.step hb1)⟩
  | true =>
    have hg : goodSign ar = true := by revert hq; cases goodSign ar <;> simp
    have h1 : inB sz 1 3 = true := by revert hq; cases inB sz 1 3 <;> simp
    obtain ⟨z1, z3⟩ : 1 ≤ sz ∧ sz ≤ 3 := by unfold inB at h1; simpa using h1
    have hm := worlds_le ar sz z1
    have hm0 : 0 ≤ worldsAns ar sz := by unfold worldsAns; rw [hq, if_pos rfl]; exact Int.le_trans (by decide) (cwN_bd z1 _).1
    rw [hq] at HC
    have EOK : worldAtOk ar sz no = (decide (worldsAns ar sz ≠ 10000) && inB no 0 (worldsAns ar sz - 1)) := by unfold worldAtOk; rw [hq]; rfl
    by_cases ht : worldsAns ar sz = 10000
    · have E : Hid (worldAtOk ar sz no = false) := by show _ = _; rw [EOK, ht]; rfl
      unfold worldAtZ worldAtT
      rw [E.out, if_neg (by simp), if_neg (by simp)]
      rw [ht] at HC
      clear hq EOK ht hm hm0
      go_enter Try.func35, Try.ntmps35
      go_wp2_with fail
      refine (HC.out _ HB).mono ?_; rintro e w1 ⟨rfl, hb1⟩
      obtain ⟨x0, x1, x2, x3, x4⟩ := KX.out _ hb1
      go_wp2_with fail
      refine bodyPost_ret (v := .tuple #[.agg #[.int .i64 0, .slice none 0 0], .bool false]) (by simp [results, Try.results35, go_sem, x1, x2]) rfl ⟨_, _, _, rfl, OwnS.nil _ _ _, HNO.out _ (HB.step hb1)⟩
    · have hne : (worldsAns ar sz == 10000) = false := beq_eq_false_iff_ne.2 ht
      have hw1 := IntWalk.i64_in (worldsAns ar sz - 1) (by omega)
      cases hp : inB no 0 (worldsAns ar sz - 1) with
      | false =>
        have E : Hid (worldAtOk ar sz no = false) := by show _ = _; rw [EOK, hp, Bool.and_false]
        unfold worldAtZ worldAtT
        rw [E.out, if_neg (by simp), if_neg (by simp)]
        have HP := Lib.hid hp
        clear hq EOK ht hp
        generalize worldsAns ar sz = m at *
        go_enter Try.func35, Try.ntmps35
        go_wp2_with fail
        refine (HC.out _ HB).mono ?_; rintro e w1 ⟨rfl, hb1⟩
        obtain ⟨x0, x1, x2, x3, x4⟩ := KX.out _ hb1
        go_wp2_with fail
        refine (l1In_qv _ _ _ _ HP.out _).mono ?_; rintro e w2 ⟨rfl, rfl⟩
        go_wp2_with fail
        refine bodyPost_ret (v := .tuple #[.agg #[.int .i64 0, .slice none 0 0], .bool false]) (by simp [results, Try.results35, go_sem, x1, x2]) rfl ⟨_, _, _, rfl, OwnS.nil _ _ _, HNO.out _ (HB.step hb1)⟩
      | true =>
        have E : Hid (worldAtOk ar sz no = true) := by show _ = _; rw [EOK, hp, Bool.and_true, decide_eq_true ht]
        unfold worldAtZ worldAtT
        rw [E.out, if_pos rfl, if_pos rfl]
        have hp2 : 0 ≤ no ∧ no ≤ worldsAns ar sz - 1 := by unfold inB at hp; simpa using hp
        obtain ⟨Z, rfl⟩ : ∃ Z : Nat, sz = (Z : Int) := ⟨sz.toNat, by omega⟩
        obtain ⟨N, rfl⟩ : ∃ N : Nat, no = (N : Int) := ⟨no.toNat, by omega⟩
        have HP := Lib.hid hp
        have HD := Lib.hid (fun (w' : World) (hb : Bel w w') => l5WorldAt_c l h v ar Z N w' hg (by omega) (by omega) (by omega) (hv.below hb))
        rw [Int.toNat_natCast, Int.toNat_natCast]
        clear hq EOK ht hp
        generalize worldsAns ar Z = m at *
        generalize tabN ar Z N ar.length = T at *
        go_enter Try.func35, Try.ntmps35
        go_wp2_with fail
        refine (HC.out _ HB).mono ?_; rintro e w1 ⟨rfl, hb1⟩
        obtain ⟨x0, x1, x2, x3, x4⟩ := KX.out _ hb1
        go_wp2_with fail
        refine (l1In_qv _ _ _ _ HP.out _).mono ?_; rintro e w2 ⟨rfl, rfl⟩
        go_wp2_with fail
        refine (HD.out _ (HB.step hb1)).mono ?_; rintro e w3 ⟨a3, n3, c3, rfl, o3, hb3⟩
        obtain ⟨y0, y1, y2, y3, y4⟩ := KX.out _ (hb1.step hb3)
        have hz1 := hb1.size
        simp only [World.size_alloc] at hz1
        go_wp2_with fail
        refine bodyPost_ret (v := .tuple #[.agg #[.int .i64 (Z : Int), .slice a3 n3 c3], .bool true]) (by simp [results, Try.results35, go_sem, y1, y2]) rfl ⟨_, _, _, rfl, ?_, ?_⟩
        · exact ((o3.set (p := ⟨w.heap.size + 1, 0, none⟩) (.inl x3) _).set (p := ⟨w.heap.size + 1, 1, none⟩) (.inl x3) _).mono (by omega) (by simp)
        · exact ((HB.step (hb1.step hb3)).set (p := ⟨w.heap.size + 1, 0, none⟩) (by simp) _).set (p := ⟨w.heap.size + 1, 1, none⟩) (by simp) _
end Go.Proofs.Ytfhljkjcjnfjfaa
end
section
/- Chapter 5: WorldAt, the program. -/
namespace Go.Proofs.Ytfhljkjcjnfjfaa
open Go.RowKit

set_option maxRecDepth 100000 in
set_option maxHeartbeats 1000000 in
theorem iWorldAt_t {l h : Nat} {v : Value} {ar : List Int} {sz no : Int} {w : World} (ha : ar.length ≤ 1048576) (hv : SlI l h w v ar) (b1 : -9223372036854775808 ≤ sz) (b2 : sz ≤ 9223372036854775807) (b3 : -9223372036854775808 ≤ no) (b4 : no ≤ 9223372036854775807) :
    Calls Try.prog 36 #[.agg #[v], .int .i64 sz, .int .i64 no] w (RetWB w (worldAtZ ar sz no) (worldAtT ar sz no) (worldAtOk ar sz no)) := by
  have HB : Bel w ((w.alloc (.cells #[v] 30)).alloc (.cells #[.int .i64 0, .slice none 0 0] 46)) := Bel.alloc2 _ _ _
  have HC := Lib.hid (fun (w' : World) (hb : Bel w w') => iCountWorlds_t (sz := sz) ha (hv.below hb) b1 b2)
  have KX : Hid (∀ w', Bel ((w.alloc (.cells #[v] 30)).alloc (.cells #[.int .i64 0, .slice none 0 0] 46)) w' → w'.cell? ⟨w.heap.size, 0, none⟩ = some v ∧ w'.cell? ⟨w.heap.size + 1, 0, none⟩ = some (.int .i64 0) ∧ w'.cell? ⟨w.heap.size + 1, 1, none⟩ = some (.slice none 0 0) ∧ w.heap.size + 1 < w'.heap.size ∧ ∀ i, w'.frozen? ⟨w.heap.size + 1, i, none⟩ = false) := fun w' hq =>
    ⟨hq.at (by simp; omega) (by simp [go_sem]), hq.at (by simp) (by simp [go_sem]), hq.at (by simp) (by simp [go_sem]), by have := hq.size; simp at this; omega, fun i => (hq.frozen (p := ⟨w.heap.size + 1, i, none⟩) (by simp)).trans (by simp [go_sem])⟩
  have HNO : ∀ w', Bel w w' → Bel w ((w'.setCell ⟨w.heap.size + 1, 0, none⟩ (.int .i64 0)).setCell ⟨w.heap.size + 1, 1, none⟩ (.slice none 0 0)) := fun w' hb => (hb.set (p := ⟨w.heap.size + 1, 0, none⟩) (by simp) _).set (p := ⟨w.heap.size + 1, 1, none⟩) (by simp) _
  have HNO := Lib.hid HNO
  cases hq : (goodSign ar && inB sz 1 3) with
  | false =>
    have E : Hid (worldAtOk ar sz no = false) := by show _ = _; unfold worldAtOk; rw [hq]; rfl
    rw [hq] at HC
    unfold worldAtZ worldAtT
    rw [E.out, if_neg (by simp), if_neg (by simp)]
    generalize worldsAns ar sz = m at *
    clear hq
    go_enter Try.func36, Try.ntmps36
    go_wp2_with fail
    refine (HC.out _ HB).mono ?_; rintro e w1 ⟨rfl, hb1⟩
    obtain ⟨x0, x1, x2, x3, x4⟩ := KX.out _ hb1
    go_wp2_with fail
    refine bodyPost_ret (v := .tuple #[.agg #[.int .i64 0, .slice none 0 0], .bool false]) (by simp [results, Try.results36, go_sem, x1, x2]) rfl ⟨_, _, _, rfl, OwnS.nil _ _ _, HNO.out _ (HB.step hb1)⟩
  | true =>
    have hg : goodSign ar = true := by revert hq; cases goodSign ar <;> simp
    have h1 : inB sz 1 3 = true := by revert hq; cases inB sz 1 3 <;> simp
    obtain ⟨z1, z3⟩ : 1 ≤ sz ∧ sz ≤ 3 := by unfold inB at h1; simpa using h1
    have hm := worlds_le ar sz z1
    have hm0 : 0 ≤ worldsAns ar sz := by unfold worldsAns; rw [hq, if_pos rfl]; exact Int.le_trans (by decide) (cwN_bd z1 _).1
    rw [hq] at HC
    have EOK : worldAtOk ar sz no = (decide (worldsAns ar sz ≠ 10000) && inB no 0 (worldsAns ar sz - 1)) := by unfold worldAtOk; rw [hq]; rfl
    by_cases ht : worldsAns ar sz = 10000
    · have E : Hid (worldAtOk ar sz no = false) := by show _ = _; rw [EOK, ht]; rfl
      unfold worldAtZ worldAtT
      rw [E.out, if_neg (by simp), if_neg (by simp)]
      rw [ht] at HC
      clear hq EOK ht hm hm0
      go_enter Try.func36, Try.ntmps36
      go_wp2_with fail
      refine (HC.out _ HB).mono ?_; rintro e w1 ⟨rfl, hb1⟩
      obtain ⟨x0, x1, x2, x3, x4⟩ := KX.out _ hb1
      go_wp2_with fail
      refine bodyPost_ret (v := .tuple #[.agg #[.int .i64 0, .slice none 0 0], .bool false]) (by simp [results, Try.results36, go_sem, x1, x2]) rfl ⟨_, _, _, rfl, OwnS.nil _ _ _, HNO.out _ (HB.step hb1)⟩
    · have hlt : worldsAns ar sz < 10000 := by omega
      cases hp : inB no 0 (worldsAns ar sz - 1) with
      | false =>
        have E : Hid (worldAtOk ar sz no = false) := by show _ = _; rw [EOK, hp, Bool.and_false]
        unfold worldAtZ worldAtT
        rw [E.out, if_neg (by simp), if_neg (by simp)]
        clear hq EOK ht
        have hp3 : no < 0 ∨ (0 ≤ no ∧ worldsAns ar sz ≤ no) := by
          unfold inB at hp
          simp only [Bool.and_eq_false_iff, decide_eq_false_iff_not] at hp
          omega
        clear hp
        generalize worldsAns ar sz = m at *
        rcases hp3 with hp4 | ⟨hp4, hp5⟩
        all_goals
          go_enter Try.func36, Try.ntmps36
          go_wp2_with fail
          refine (HC.out _ HB).mono ?_; rintro e w1 ⟨rfl, hb1⟩
          obtain ⟨x0, x1, x2, x3, x4⟩ := KX.out _ hb1
          go_wp2_with fail
          refine bodyPost_ret (v := .tuple #[.agg #[.int .i64 0, .slice none 0 0], .bool false]) (by simp [results, Try.results36, go_sem, x1, x2]) rfl ⟨_, _, _, rfl, OwnS.nil _ _ _, HNO.out _ (HB.step hb1)⟩
      | true =>
        have E : Hid (worldAtOk ar sz no = true) := by show _ = _; rw [EOK, hp, Bool.and_true, decide_eq_true ht]
        unfold worldAtZ worldAtT
        rw [E.out, if_pos rfl, if_pos rfl]
        have hp2 : 0 ≤ no ∧ no ≤ worldsAns ar sz - 1 := by unfold inB at hp; simpa using hp
        obtain ⟨Z, rfl⟩ : ∃ Z : Nat, sz = (Z : Int) := ⟨sz.toNat, by omega⟩
        obtain ⟨N, rfl⟩ : ∃ N : Nat, no = (N : Int) := ⟨no.toNat, by omega⟩
        have HD := Lib.hid (fun (w' : World) (hb : Bel w w') => worldAt_c l h v ar Z N w' hg (by omega) (by omega) (by omega) (hv.below hb))
        rw [Int.toNat_natCast, Int.toNat_natCast]
        clear hq EOK ht hp
        generalize worldsAns ar Z = m at *
        generalize tabN ar Z N ar.length = T at *
        go_enter Try.func36, Try.ntmps36
        go_wp2_with fail
        refine (HC.out _ HB).mono ?_; rintro e w1 ⟨rfl, hb1⟩
        obtain ⟨x0, x1, x2, x3, x4⟩ := KX.out _ hb1
        go_wp2_with fail
        refine (HD.out _ (HB.step hb1)).mono ?_; rintro e w3 ⟨a3, n3, c3, rfl, o3, hb3⟩
        obtain ⟨y0, y1, y2, y3, y4⟩ := KX.out _ (hb1.step hb3)
        have hz1 := hb1.size
        simp only [World.size_alloc] at hz1
        go_wp2_with fail
        refine bodyPost_ret (v := .tuple #[.agg #[.int .i64 (Z : Int), .slice a3 n3 c3], .bool true]) (by simp [results, Try.results36, go_sem, y1, y2]) rfl ⟨_, _, _, rfl, ?_, ?_⟩
        · exact ((o3.set (p := ⟨w.heap.size + 1, 0, none⟩) (.inl x3) _).set (p := ⟨w.heap.size + 1, 1, none⟩) (.inl x3) _).mono (by omega) (by simp)
        · exact ((HB.step (hb1.step hb3)).set (p := ⟨w.heap.size + 1, 0, none⟩) (by simp) _).set (p := ⟨w.heap.size + 1, 1, none⟩) (by simp) _
end Go.Proofs.Ytfhljkjcjnfjfaa
end
section
/- GoodSubst: both functions. -/
namespace Go.Proofs.Ytfhljkjcjnfjfaa
open Go.RowKit

def okEmpty (ar t : List Int) : Bool := t.isEmpty || okTerm ar t
def goodSubst (ar : List Int) (b : List (List Int)) : Bool := goodSign ar && (b.length == 12) && b.all (okEmpty ar)

theorem iGoodTerm_vv (l h l' h' : Nat) (v u : Value) (ar t : List Int) (b : Bool) (w : World) (he : okTerm ar t = b) (hg : goodSign ar = true) (ha : ar.length ≤ 1048576) (ht : t.length ≤ 1048576) (hv : SlI l h w v ar) (hu : SlI l' h' w u t) :
    Calls Try.prog 91 #[.agg #[v], u] w (RetV w (.bool b)) := iGoodTerm_v l h l' h' v u ar t b w (by simp [goodTerm, hg, he]) ha ht hv hu
theorem all_falseS (xs : List (List Int)) (p : List Int → Bool) (k : Nat) (hk : k < xs.length) (h : p (xs.getD k []) = false) : xs.all p = false := by
  rw [List.all_eq_false]
  exact ⟨xs[k], List.getElem_mem hk, by simpa [List.getD, hk] using h⟩
theorem all_splitS (xs : List (List Int)) (p : List Int → Bool) (k : Nat) (hk : k < xs.length) (h : (xs.take k).all p = true) : (xs.take (k+1)).all p = p (xs.getD k []) := by
  rw [List.take_succ_eq_append_getElem hk, List.all_append, h]
  simp [List.getD, hk]
theorem all_doneS (xs : List (List Int)) (p : List Int → Bool) (k : Nat) (hk : k ≤ xs.length) (h1 : ¬ k < xs.length) (h : (xs.take k).all p = true) : xs.all p = true := by
  obtain rfl : k = xs.length := by omega
  rwa [List.take_length] at h
theorem okEmpty_nil {ar t : List Int} (h : ¬ 0 < t.length) : okEmpty ar t = true := by rw [len0 h]; rfl
theorem okEmpty_pos {ar t : List Int} (h : 0 < t.length) : okEmpty ar t = okTerm ar t := by
  unfold okEmpty
  cases t with
  | nil => simp at h
  | cons x r => simp

set_option maxRecDepth 100000 in
set_option maxHeartbeats 400000 in
theorem iGoodSubst_c (l h l' h' : Nat) (v u : Value) (ar : List Int) (b : List (List Int)) (w : World) (ha : ar.length ≤ 1048576) (hv : SlI l h w v ar) (hb : short b) (hu : SlS l' h' w u b) :
    Calls Try.prog 104 #[.agg #[v], u] w (RetV w (.bool (goodSubst ar b))) := by
  obtain ⟨ad', cap', rfl⟩ := hu.form
  obtain ⟨-, hm⟩ := hb
  cases hs : goodSign ar with
  | false =>
    have E : Hid (goodSubst ar b = false) := by show _ = _; simp [goodSubst, hs]
    have HS := Lib.hid hs; clear hs
    by_cases hl : b.length = 12
    · have hl2 : ((b.length : Int) != 12) = false := by simp; omega
      go_enter Try.func104, Try.ntmps104
      go_wp2_with fail
      refine (iGoodSign_v _ _ _ _ _ _ HS.out ha (hv.alloc _)).mono ?_; rintro e w' ⟨rfl, hb1⟩
      go_wp2_with fail
      go_ret
      exact ⟨by rw [E.out]; rfl, hb1.of_alloc⟩
    · have hl2 : ((b.length : Int) != 12) = true := by simp; omega
      go_enter Try.func104, Try.ntmps104
      go_wp2_with fail
      go_ret
      exact ⟨by rw [E.out]; rfl, Bel.alloc0 _ _⟩
  | true =>
    by_cases hl : b.length = 12
    · have hG : Hid (goodSubst ar b = b.all (okEmpty ar)) := by show _ = _; simp [goodSubst, hs, hl]
      have hg := hs
      have HS := Lib.hid hs; clear hs
      have hl2 : ((b.length : Int) != 12) = false := by simp; omega
      go_enter Try.func104, Try.ntmps104
      go_wp2_with fail
      refine (iGoodSign_v _ _ _ _ _ _ HS.out ha (hv.alloc _)).mono ?_; rintro e w1 ⟨rfl, hb1⟩
      have hbox := boxc hb1 0 _ rfl
      go_wp2_with fail
      go_loopw [17] (fun i wr => ∃ k : Nat, k ≤ b.length ∧ i = .int .i64 k ∧ (b.take k).all (okEmpty ar) = true ∧ Bel (w.alloc (.cells #[v] 30)) wr) (fun i _ => b.length - (intOf i).toNat)
      case atStart => exact ⟨0, Nat.zero_le _, rfl, rfl, hb1⟩
      case round =>
        obtain ⟨k, hk, rfl, hall, hb2⟩ := hrel
        have hbox2 := boxc hb2 0 _ rfl
        by_cases hlt : k < b.length
        · obtain ⟨bb, off, p, rfl, -, hc, hp⟩ := hu.at hb2.of_alloc k hlt
          have hmk := hm k hlt
          have hsp := all_splitS b (okEmpty ar) k hlt hall
          have hfs := all_falseS b (okEmpty ar) k hlt
          clear hm hu hbox hall
          generalize b.getD k [] = t at *
          obtain ⟨ap, cp, rfl⟩ := hp.form
          by_cases hpos : 0 < t.length
          · rw [okEmpty_pos hpos] at hsp hfs
            cases ht : okTerm ar t with
            | false =>
              have E : Hid (goodSubst ar b = false) := by show _ = _; rw [hG.out]; exact hfs ht
              have HT := Lib.hid ht
              clear ht hsp hfs
              go_wp2_with fail
              refine (iGoodTerm_vv _ _ _ _ _ _ _ _ _ _ HT.out hg ha (by omega) (hv.below hb2.of_alloc) hp).mono ?_; rintro e w2 ⟨rfl, hb3⟩
              go_wp2_with fail
              go_ret
              exact ⟨by rw [E.out]; rfl, hb2.of_alloc.step hb3⟩
            | true =>
              have HA := Lib.hid (hsp.trans ht)
              have HT := Lib.hid ht
              clear ht hsp hfs
              go_wp2_with fail
              refine (iGoodTerm_vv _ _ _ _ _ _ _ _ _ _ HT.out hg ha (by omega) (hv.below hb2.of_alloc) hp).mono ?_; rintro e w2 ⟨rfl, hb3⟩
              go_wp2_with fail
              go_roundw
              case rel => exact ⟨k+1, by omega, by go_num, HA.out, hb2.step hb3⟩
              case measure => simp [intOf]; omega
          · have HA := Lib.hid (hsp.trans (okEmpty_nil hpos))
            have h0 : t.length = 0 := by omega
            clear hsp hfs hp
            rw [h0] at hc
            clear h0 hpos
            go_wp2_with fail
            go_roundw
            case rel => exact ⟨k+1, by omega, by go_num, HA.out, hb2⟩
            case measure => simp [intOf]; omega
        · have E : Hid (goodSubst ar b = true) := by show _ = _; rw [hG.out]; exact all_doneS b _ k hk hlt hall
          clear hall
          go_wp2_with fail
          go_ret
          exact ⟨by rw [E.out]; rfl, hb2.of_alloc⟩
    · have E : Hid (goodSubst ar b = false) := by show _ = _; simp [goodSubst, hl]
      have HS := Lib.hid hs; clear hs
      have hl2 : ((b.length : Int) != 12) = true := by simp; omega
      go_enter Try.func104, Try.ntmps104
      go_wp2_with fail
      go_ret
      exact ⟨by rw [E.out]; rfl, Bel.alloc0 _ _⟩
theorem iGoodSubst_v (l h l' h' : Nat) (v u : Value) (ar : List Int) (b : List (List Int)) (q : Bool) (w : World) (he : goodSubst ar b = q) (ha : ar.length ≤ 1048576) (hv : SlI l h w v ar) (hb : short b) (hu : SlS l' h' w u b) :
    Calls Try.prog 104 #[.agg #[v], u] w (RetV w (.bool q)) := he ▸ iGoodSubst_c l h l' h' v u ar b w ha hv hb hu
theorem iGoodSubst_t {l h l' h' : Nat} {v u : Value} {ar : List Int} {b : List (List Int)} {w : World} (ha : ar.length ≤ 1048576) (hv : SlI l h w v ar) (hb : short b) (hu : SlS l' h' w u b) :
    Calls Try.prog 104 #[.agg #[v], u] w (RetV w (.bool (goodSubst ar b))) := iGoodSubst_c l h l' h' v u ar b w ha hv hb hu
end Go.Proofs.Ytfhljkjcjnfjfaa
end
section
/- Apply, IsUnifier: both functions; putting terms for variables. -/
namespace Go.Proofs.Ytfhljkjcjnfjfaa
open Go.RowKit

/-- What stands for an entry of a term. -/
def one1 (b : List (List Int)) (n : Int) : List Int := if n < 0 ∧ 0 < (b.getD (-1 - n).toNat []).length then b.getD (-1 - n).toNat [] else [n]
def appT (b : List (List Int)) (t : List Int) : List Int := t.flatMap (one1 b)
theorem appT_nil (b : List (List Int)) : appT b [] = [] := rfl
theorem appT_succ (b : List (List Int)) (t : List Int) (k : Nat) (hk : k < t.length) : appT b (t.take (k+1)) = appT b (t.take k) ++ one1 b (t.getD k 0) := by
  unfold appT
  rw [List.take_succ_eq_append_getElem hk, List.flatMap_append]
  simp [List.getD, hk]
theorem one1_var {b : List (List Int)} {n : Int} (h : n < 0) (hp : 0 < (b.getD (-1 - n).toNat []).length) : one1 b n = b.getD (-1 - n).toNat [] := by unfold one1; rw [if_pos ⟨h, hp⟩]
theorem one1_free {b : List (List Int)} {n : Int} (hp : ¬ 0 < (b.getD (-1 - n).toNat []).length) : one1 b n = [n] := by unfold one1; rw [if_neg (fun h => hp h.2)]
theorem one1_sym {b : List (List Int)} {n : Int} (h : ¬ n < 0) : one1 b n = [n] := by unfold one1; rw [if_neg (fun h2 => h h2.1)]
def lens40 (b : List (List Int)) : Prop := ∀ j, j < b.length → (b.getD j []).length ≤ 40
theorem getD_len40 {b : List (List Int)} (h : lens40 b) (j : Nat) : (b.getD j []).length ≤ 40 := by
  by_cases hj : j < b.length
  · exact h j hj
  · simp [List.getD, hj]
theorem one1_len {b : List (List Int)} (h : lens40 b) (n : Int) : (one1 b n).length ≤ 40 := by
  unfold one1
  split
  · exact getD_len40 h _
  · simp
theorem appT_len {b : List (List Int)} (h : lens40 b) (t : List Int) : (appT b t).length ≤ 40 * t.length := by
  unfold appT
  induction t with
  | nil => simp
  | cons x r ih =>
    have := one1_len h x
    simp only [List.flatMap_cons, List.length_append, List.length_cons]
    omega
theorem row_app {w : World} {base e : Nat} {v : Value} {acc xs : List Int} (h : w.ownsRow base e 1 v (acc.length + xs.length) (acc.map (Value.int .i64) ++ xs.map (Value.int .i64))) :
    w.ownsRow base e 1 v (acc ++ xs).length ((acc ++ xs).map (Value.int .i64)) := by simpa using h

def app40 (b : List (List Int)) (t : List Int) : List Int := if 40 < (appT b t).length then [] else appT b t
def app40ok (b : List (List Int)) (t : List Int) : Bool := !decide (40 < (appT b t).length)
theorem app40_no {b : List (List Int)} {t : List Int} (h : 40 < (appT b t).length) : app40 b t = [] ∧ app40ok b t = false := by simp [app40, app40ok, h]
theorem app40_yes {b : List (List Int)} {t : List Int} (h : ¬ 40 < (appT b t).length) : app40 b t = appT b t ∧ app40ok b t = true := by simp [app40, app40ok, h]
theorem _root_.Go.World.ownsRow.len_eq {w : World} {base e s n m c : Nat} {ad : Option Addr} {xs : List Value} (h : w.ownsRow base e s (.slice ad n c) m xs) : n = m := by
  rcases h.2 with ⟨e1, h0⟩ | ⟨g, cap, cur, e1, _⟩
  · simp at e1; omega
  · simp at e1; exact e1.2.1

set_option maxRecDepth 100000 in
set_option maxHeartbeats 400000 in
theorem applied_c (l h l' h' : Nat) (v u : Value) (b : List (List Int)) (t : List Int) (w : World) (hlen : b.length = 12) (hb : lens40 b) (ht : t.length ≤ 1024) (hlow : ∀ k, k < t.length → -12 ≤ t.getD k 0) (hu : SlS l' h' w u b) (hv : SlI l h w v t) :
    Calls Try.prog 105 #[u, v] w (RetIB w (app40 b t) (app40ok b t)) := by
  obtain ⟨i0, hi0, hz0, hz1, hz2⟩ := info_parts Try.info3
  obtain ⟨ad', cap', rfl⟩ := hu.form
  have HN := Lib.hid hlen; clear hlen
  obtain ⟨ad, cap, rfl, -, -, hr⟩ := hv
  go_enter Try.func105, Try.ntmps105
  go_wp2_with fail
  go_loopw [6, 11] (fun vs i wr => ∃ k : Nat, k ≤ t.length ∧ i = .int .i64 k ∧ wr.ownsRow w.heap.size 3 1 vs (appT b (t.take k)).length ((appT b (t.take k)).map (Value.int .i64)) ∧ Bel w wr) (fun _ i _ => t.length - (intOf i).toNat)
  case atStart => exact ⟨0, Nat.zero_le _, rfl, World.ownsRow_nil _ _ _ _, Bel.rfl' _⟩
  case round =>
    obtain ⟨k, hk, rfl, hown, hb2⟩ := hrel
    by_cases hlt : k < t.length
    · obtain ⟨bt, offt, rfl, hbl, hcell⟩ := rd hr hb2 k hlt
      have hx12 := hlow k hlt
      have hsucc := appT_succ b t k hlt
      have hal := appT_len hb (t.take k)
      have hal2 : (appT b (t.take k)).length ≤ 40960 := by simp at hal; omega
      have h40 := getD_len40 hb (-1 - t.getD k 0).toNat
      clear hr hlow hal
      generalize t.getD k 0 = x at *
      generalize appT b (t.take k) = acc at *
      generalize hq : appT b (t.take (k+1)) = nxt at *
      by_cases hx : x < 0
      · have hm : (-1 - x).toNat < b.length := by have hN : b.length = 12 := HN.out; omega
        have hi0' : 0 ≤ -1 - x := by omega
        have hi1 : -1 - x < b.length := by have hN : b.length = 12 := HN.out; omega
        obtain ⟨bb, off, p, rfl, -, hc, hp⟩ := hu.at hb2 _ hm
        have hv1 := fun h1 => one1_var (b := b) hx h1
        have hv2 := fun h1 => one1_free (b := b) (n := x) h1
        generalize b.getD (-1 - x).toNat [] = tt at *
        by_cases hpos : 0 < tt.length
        · rw [hv1 hpos] at hsucc
          obtain ⟨pb, po, pc, rfl, hpc⟩ := hp.plain hpos
          have hn := news_of_sl hp
          have HS := Lib.hid (And.intro hq hsucc)
          clear hv1 hv2 hq hsucc
          go_wp2_with (at_builtin; refine wpList_append_own _ rfl _ _ 22 rfl w.heap.size 3 i0 (.int .i64 0) 1 8 Try.underlying22 hi0 hz0 hz1 hz2 rfl (by decide) _ _ _ rfl hown ⟨pb, po, none⟩ tt.length pc (tt.map (Value.int .i64)) rfl (by simp) hn (ones_int _) (by unfold maxLen; first | omega | (simp; omega)) (by first | omega | (simp; omega)) (by have := hb2.size; first | omega | (simp; omega)) ?_; intro v' w1 hown' hgrow _)
          have hb3 := hb2.grown hgrow (fun k hk => own_base hown k hk)
          have hown2 := row_app (by simpa using hown')
          go_roundw
          case rel =>
            have e := HS.out.1.trans HS.out.2
            exact ⟨k+1, by omega, by go_num, by rw [HS.out.1, HS.out.2]; exact hown2, hb3⟩
          case measure => simp [intOf]; omega
        · rw [hv2 hpos] at hsucc
          have HS := Lib.hid (And.intro hq hsucc)
          have h0 : tt.length = 0 := by omega
          obtain ⟨ap, cp, rfl⟩ := hp.form
          rw [h0] at hc
          clear hv1 hv2 hp hpos h0 hq hsucc
          go_wp2_with (at_builtin; refine wpList_append_own _ rfl _ _ 22 rfl w.heap.size 3 i0 (.int .i64 0) 1 8 Try.underlying22 hi0 hz0 hz1 hz2 rfl (by decide) _ _ _ rfl (hown.alloc _) ⟨wr.heap.size, 0, none⟩ 1 1 [.int .i64 x] rfl rfl (news_one _ _ _) (one_int _) (by unfold maxLen; first | omega | (simp; omega)) (by first | omega | (simp; omega)) (by have := hb2.size; first | omega | (simp; omega)) ?_; intro v' w1 hown' hgrow _; have hb3 := (hb2.alloc (.cells #[.int .i64 x] 3)).grown hgrow (fun k hk => own_base hown k hk); have hown2 := row_snoc hown')
          go_roundw
          case rel => exact ⟨k+1, by omega, by go_num, by rw [HS.out.1, HS.out.2]; exact hown2, hb3⟩
          case measure => simp [intOf]; omega
      · rw [one1_sym hx] at hsucc
        have HS := Lib.hid (And.intro hq hsucc)
        clear hq hsucc
        go_wp2_with (at_builtin; refine wpList_append_own _ rfl _ _ 22 rfl w.heap.size 3 i0 (.int .i64 0) 1 8 Try.underlying22 hi0 hz0 hz1 hz2 rfl (by decide) _ _ _ rfl (hown.alloc _) ⟨wr.heap.size, 0, none⟩ 1 1 [.int .i64 x] rfl rfl (news_one _ _ _) (one_int _) (by unfold maxLen; first | omega | (simp; omega)) (by first | omega | (simp; omega)) (by have := hb2.size; first | omega | (simp; omega)) ?_; intro v' w1 hown' hgrow _; have hb3 := (hb2.alloc (.cells #[.int .i64 x] 3)).grown hgrow (fun k hk => own_base hown k hk); have hown2 := row_snoc hown')
        go_roundw
        case rel => exact ⟨k+1, by omega, by go_num, by rw [HS.out.1, HS.out.2]; exact hown2, hb3⟩
        case measure => simp [intOf]; omega
    · have e : t.take k = t := List.take_of_length_le (by omega)
      rw [e] at hown
      obtain ⟨g, n, c, hv'⟩ := own_form hown
      subst hv'
      have hn : n = (appT b t).length := hown.len_eq
      subst hn
      by_cases h40 : 40 < (appT b t).length
      · have E := Lib.hid (app40_no h40)
        go_wp2_with fail
        go_ret2
        exact ⟨_, _, _, by rw [E.out.2]; rfl, by rw [E.out.1]; exact OwnI.nil _ _ _, hb2⟩
      · have E := Lib.hid (app40_yes h40)
        go_wp2_with fail
        go_ret2
        exact ⟨_, _, _, by rw [E.out.2]; rfl, by rw [E.out.1]; exact OwnI.of_row hown, hb2⟩
end Go.Proofs.Ytfhljkjcjnfjfaa
end
section
/- The places of a symbol's arguments: both functions' inner ones, and ArgsAt. -/
namespace Go.Proofs.Ytfhljkjcjnfjfaa
open Go.RowKit

def natsI (l : List Nat) : List Int := l.map fun (n : Nat) => (n : Int)
theorem natsI_len (l : List Nat) : (natsI l).length = l.length := by simp [natsI]
theorem argsGo_succ {ar t : List Int} {k p q : Nat} (h : endOf ar t p = some q) : argsGo ar t (k + 1) p = p :: argsGo ar t k q := by simp [argsGo, h]

/-- Somewhere in the loop over the arguments: acc is done, k are still to come, from p on. -/
def ArgSt (ar t : List Int) (all : List Nat) (acc : List Nat) (k p : Nat) : Prop := all = acc ++ argsGo ar t k p ∧ ∃ e, endGo ar (t.drop p) k p = some e ∧ e ≤ t.length
theorem ArgSt.start {ar t : List Int} {i : Nat} (h : okTerm ar t = true) (hi : i < t.length) : ArgSt ar t (argsOf ar t i) [] (arOf ar (t.getD i 0)) (i + 1) := by
  obtain ⟨e, h1, h2⟩ := good_args ar t h i hi
  exact ⟨rfl, e, h1, h2⟩
theorem ArgSt.next {ar t : List Int} {all acc : List Nat} {k p : Nat} (h : ArgSt ar t all acc (k + 1) p) : ∃ q, endOf ar t p = some q ∧ p < t.length ∧ p < q ∧ q ≤ t.length ∧ ArgSt ar t all (acc ++ [p]) k q := by
  obtain ⟨h1, e, h2, h3⟩ := h
  obtain ⟨q, hq, hr, hpq, hqe⟩ := ends_step ar t p k e h2
  exact ⟨q, hq, by omega, hpq, by omega, by rw [h1, argsGo_succ hq]; simp, e, hr, h3⟩
theorem ArgSt.done {ar t : List Int} {all acc : List Nat} {p : Nat} (h : ArgSt ar t all acc 0 p) : all = acc := by rw [h.1]; simp [argsGo]
theorem argsOf_neg {ar t : List Int} {i : Nat} (h : t.getD i 0 < 0) : argsOf ar t i = [] := by unfold argsOf; rw [arOf_neg h]; rfl
theorem argsOf_len {ar t : List Int} {i : Nat} : (argsOf ar t i).length = arOf ar (t.getD i 0) := argsGo_len _ _ _ _

theorem natsI_snoc (l : List Nat) (p : Nat) : natsI (l ++ [p]) = natsI l ++ [(p : Int)] := by simp [natsI]

set_option maxRecDepth 100000 in
set_option maxHeartbeats 2000000 in
theorem l1Args_c (l h l' h' : Nat) (v u : Value) (ar t : List Int) (i : Nat) (w : World) (hg : goodSign ar = true) (hok : okTerm ar t = true) (hi : i < t.length) (hv : SlI l h w v ar) (hu : SlI l' h' w u t) :
    Calls Try.prog 128 #[.agg #[v], u, .int .i64 i] w (RetI w (natsI (argsOf ar t i))) := by
  have hv0 := hv; have hu0 := hu
  obtain ⟨ad, cap, rfl, -, -, hr⟩ := hv
  obtain ⟨ad', cap', rfl, -, -, hr'⟩ := hu
  have hlen := sign_len ar hg
  have htl := ((okTerm_iff ar t).1 hok).2.1
  have hst := ArgSt.start hok hi
  have hsym := good_sym ar t hok i hi
  have htc := fun (p : Nat) => l1End_c l h l' h' (.slice ad ar.length cap) (.slice ad' t.length cap') ar t p
  obtain ⟨i0, hi0, hz0, hz1, hz2⟩ := info_parts Try.info3
  obtain ⟨b', off', rfl, hbl, hcell'⟩ := rd hr' (Bel.rfl' w) i hi
  have hE := fun h => argsOf_neg (ar := ar) (t := t) (i := i) h
  clear hr'
  have hn3 := arOf_le ar hg (t.getD i 0)
  generalize t.getD i 0 = x at *
  by_cases hx : x < 0
  · have E := Lib.hid (hE hx)
    clear hst hE htc
    go_enter Try.func128, Try.ntmps128
    go_wp2_with fail
    go_ret
    refine ⟨none, 0, 0, rfl, ?_, Bel.alloc0 _ _⟩
    rw [E.out]; exact OwnI.nil _ _ _
  · obtain ⟨k, rfl⟩ : ∃ k : Nat, x = k := ⟨x.toNat, by omega⟩
    have hk := okSym_lt hsym
    obtain ⟨b, off, rfl, hbl2, hcell⟩ := rd hr (Bel.rfl' w) k hk
    have hn := ar_nonneg ar hg k
    rw [arOf_nat] at hst hn3
    clear hr hsym
    obtain ⟨q, hq⟩ : ∃ q : Nat, ar.getD k 0 = q := ⟨(ar.getD k 0).toNat, by omega⟩
    rw [hq] at hcell hst hn hn3
    rw [show ((q : Int)).toNat = q from by omega] at hst hn3
    clear hq
    have hk2 : (k : Int) < ar.length := by omega
    have hi2 : (i : Int) < t.length := by omega
    have HST := Lib.hid hst
    have HTC := Lib.hid htc
    clear hst htc hE
    generalize argsOf ar t i = all at *
    go_enter Try.func128, Try.ntmps128
    go_wp2_with fail
    go_quiet (fail)
    go_wp2_with fail
    go_loopw [7, 8, 9] (fun vs a c wr => ∃ (acc : List Nat) (p j : Nat), j ≤ q ∧ acc.length + j = q ∧ a = .int .i64 p ∧ c = .int .i64 j ∧ ArgSt ar t all acc j p ∧
        wr.ownsRow (w.heap.size + 1) 3 1 vs (natsI acc).length ((natsI acc).map (Value.int .i64)) ∧ Bel (w.alloc (.cells #[.slice (some ⟨b, off, none⟩) ar.length cap] 30)) wr) (fun _ _ c _ => (intOf c).toNat)
    case atStart => exact ⟨[], i + 1, q, Nat.le_refl _, by simp, by go_num, rfl, HST.out, World.ownsRow_nil _ _ _ _, (Bel.rfl' _).drewN _⟩
    case round =>
      obtain ⟨acc, p, j, hj, hacc, rfl, rfl, hst, hown, hb⟩ := hrel
      have hbox := boxc hb 0 _ rfl
      cases j with
      | succ j =>
        obtain ⟨q', hq', hpt, hpq, hqt, hst'⟩ := ArgSt.next hst
        have HC := Lib.hid (fun w a b c d e => endI_some hq' ▸ HTC.out p w a b c d e)
        have HS2 := Lib.hid hst'
        have hal : (natsI acc).length ≤ 3 := by rw [natsI_len]; omega
        have HA := Lib.hid hacc
        clear hst hst' hq' hacc
        rw [show ((j + 1 : Nat) : Int) = (j : Int) + 1 from by omega]
        go_wp2_with (at_builtin; refine wpList_append_own _ rfl _ _ 22 rfl (w.heap.size + 1) 3 i0 (.int .i64 0) 1 8 Try.underlying22 hi0 hz0 hz1 hz2 rfl (by decide) _ _ _ rfl (hown.alloc _) ⟨wr.heap.size, 0, none⟩ 1 1 [.int .i64 p] rfl rfl (news_one _ _ _) (one_int _) (by unfold maxLen; omega) (by omega) (by have := hb.size; simp at *; omega) ?_; intro v' w1 hown' hgrow _; have hb1 := (hb.alloc (.cells #[.int .i64 p] 3)).grown hgrow (fun k hk => by have := own_base hown k hk; simp; omega); have hbox1 := boxc hb1 0 _ rfl)
        refine (HC.out _ hg (by omega) (by omega) (hv0.below hb1.of_alloc) (hu0.below hb1.of_alloc)).mono ?_; rintro e w2 ⟨rfl, hb2⟩
        have hown2 := ownsRow_bel (row_snoc hown') hb2
        rw [← natsI_snoc] at hown2
        go_wp2_with fail
        go_roundw
        case rel => exact ⟨acc ++ [p], q', j, by omega, by have := HA.out; simp; omega, rfl, by go_num, HS2.out, hown2, hb1.step hb2⟩
        case measure => simp [intOf]
      | zero =>
        have HS2 := Lib.hid hst.done
        clear hst
        go_wp2_with fail
        obtain ⟨g, n, c, hv'⟩ := own_form hown
        subst hv'
        go_ret
        exact ⟨_, _, _, rfl, by rw [HS2.out]; exact (OwnI.of_row hown).mono (by omega) (Nat.le_refl _), hb.of_alloc⟩

/-- What ArgsAt answers. -/
def argsAns (ar t : List Int) (i : Int) : List Int := if askOk ar t i then natsI (argsOf ar t i.toNat) else []
theorem argsAns_len (ar t : List Int) (i : Int) : (argsAns ar t i).length ≤ 1048576 := by
  unfold argsAns
  split
  · rename_i h
    obtain ⟨k, e, rfl, _, _, _, _, _, hg, _⟩ := ask_yes h
    rw [natsI_len, argsOf_len]
    exact Nat.le_trans (arOf_le ar hg _) (by omega)
  · exact Nat.zero_le _

end Go.Proofs.Ytfhljkjcjnfjfaa
end
