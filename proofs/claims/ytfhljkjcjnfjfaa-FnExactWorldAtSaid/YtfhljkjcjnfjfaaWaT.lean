/- Chapter 5: WorldAt, both functions. -/
import Derived.Test.YtfhljkjcjnfjfaaWaI
namespace Go.Proofs.Ytfhljkjcjnfjfaa
open Go.RowKit

def worldAtOk (ar : List Int) (sz no : Int) : Bool := (goodSign ar && inB sz 1 3) && (decide (worldsAns ar sz ≠ 10000) && inB no 0 (worldsAns ar sz - 1))
def worldAtZ (ar : List Int) (sz no : Int) : Int := if worldAtOk ar sz no then sz else 0
def worldAtT (ar : List Int) (sz no : Int) : List (List Int) := if worldAtOk ar sz no then tabN ar sz.toNat no.toNat ar.length else []
theorem worldAtT_tot (ar : List Int) (sz no : Int) : tot (worldAtT ar sz no) ≤ 1048576 := by
  unfold worldAtT
  split
  · rename_i h
    unfold worldAtOk at h
    simp only [Bool.and_eq_true] at h
    obtain ⟨⟨hg, hs⟩, _⟩ := h
    have hlen := (sign_len ar hg).2
    have hs2 : 1 ≤ sz ∧ sz ≤ 3 := by unfold inB at hs; simpa using hs
    have := tabN_tot ar sz.toNat no.toNat (fun k => longW_le (by omega) (ar_nonneg ar hg k).2) ar.length
    omega
  · simp [tot, sumL]
theorem worlds_le (ar : List Int) (sz : Int) (h : 1 ≤ sz) : worldsAns ar sz ≤ 10000 := by
  unfold worldsAns
  split
  · exact (cwN_bd h _).2
  · omega

set_option maxRecDepth 100000 in
set_option maxHeartbeats 1000000 in
theorem sWorldAt_t {l h : Nat} {v : Value} {ar : List Int} {sz no : Int} {w : World} (ha : ar.length ≤ 1048576) (hv : SlI l h w v ar) (b1 : -9223372036854775808 ≤ sz) (b2 : sz ≤ 9223372036854775807) (b3 : -9223372036854775808 ≤ no) (b4 : no ≤ 9223372036854775807) :
    Calls Try.prog 35 #[.agg #[v], .int .i64 sz, .int .i64 no] w (RetWB w (worldAtZ ar sz no) (worldAtT ar sz no) (worldAtOk ar sz no)) := by
  have HB : Bel w ((w.alloc (.cells #[v] 30)).alloc (.cells #[.int .i64 0, .slice none 0 0] 46)) := Bel.alloc2 _ _ _
  have HC := Lib.hid (fun (w' : World) (hb : Bel w w') => sCountWorlds_t (sz := sz) ha (hv.below hb) b1 b2)
  have KX : Hid (∀ w', Bel ((w.alloc (.cells #[v] 30)).alloc (.cells #[.int .i64 0, .slice none 0 0] 46)) w' → w'.cell? ⟨w.heap.size, 0, none⟩ = some v ∧ w'.cell? ⟨w.heap.size + 1, 0, none⟩ = some (.int .i64 0) ∧ w'.cell? ⟨w.heap.size + 1, 1, none⟩ = some (.slice none 0 0) ∧ w.heap.size + 1 < w'.heap.size ∧ ∀ i, w'.frozen? ⟨w.heap.size + 1, i, none⟩ = false) := fun w' hq =>
    ⟨hq.at (by simp; omega) (by simp [go_sem]), hq.at (by simp) (by simp [go_sem]), hq.at (by simp) (by simp [go_sem]), by have := hq.size; simp at this; omega, fun i => (hq.frozen (p := ⟨w.heap.size + 1, i, none⟩) (by simp)).trans (by simp [go_sem])⟩
  have HNO : ∀ w', Bel w w' → Bel w ((w'.setCell ⟨w.heap.size + 1, 0, none⟩ (.int .i64 0)).setCell ⟨w.heap.size + 1, 1, none⟩ (.slice none 0 0)) := fun w' hb => (hb.set (p := ⟨w.heap.size + 1, 0, none⟩) (by simp) _).set (p := ⟨w.heap.size + 1, 1, none⟩) (by simp) _
  have HNO := Lib.hid HNO
  cases hq : (goodSign ar && inB sz 1 3) with
  | false =>
    have E : Hid (worldAtOk ar sz no = false) := by show _ = _; unfold worldAtOk; rw [hq]; rfl
    rw [hq] at HC
    unfold worldAtZ worldAtT
    rw [E.out, if_neg (by simp), if_neg (by simp)]
    generalize worldsAns ar sz = m at *
    clear hq
    go_enter Try.func35, Try.ntmps35
    go_wp2_with fail
    refine (HC.out _ HB).mono ?_; rintro e w1 ⟨rfl, hb1⟩
    obtain ⟨x0, x1, x2, x3, x4⟩ := KX.out _ hb1
    go_wp2_with fail
    refine bodyPost_ret (v := .tuple #[.agg #[.int .i64 0, .slice none 0 0], .bool false]) (by simp [results, Try.results35, go_sem, x1, x2]) rfl ⟨_, _, _, rfl, OwnS.nil _ _ _, HNO.out _ (HB.step hb1)⟩
  | true =>
    have hg : goodSign ar = true := by revert hq; cases goodSign ar <;> simp
    have h1 : inB sz 1 3 = true := by revert hq; cases inB sz 1 3 <;> simp
    obtain ⟨z1, z3⟩ : 1 ≤ sz ∧ sz ≤ 3 := by unfold inB at h1; simpa using h1
    have hm := worlds_le ar sz z1
    have hm0 : 0 ≤ worldsAns ar sz := by unfold worldsAns; rw [hq, if_pos rfl]; exact Int.le_trans (by decide) (cwN_bd z1 _).1
    rw [hq] at HC
    have EOK : worldAtOk ar sz no = (decide (worldsAns ar sz ≠ 10000) && inB no 0 (worldsAns ar sz - 1)) := by unfold worldAtOk; rw [hq]; rfl
    by_cases ht : worldsAns ar sz = 10000
    · have E : Hid (worldAtOk ar sz no = false) := by show _ = _; rw [EOK, ht]; rfl
      unfold worldAtZ worldAtT
      rw [E.out, if_neg (by simp), if_neg (by simp)]
      rw [ht] at HC
      clear hq EOK ht hm hm0
      go_enter Try.func35, Try.ntmps35
      go_wp2_with fail
      refine (HC.out _ HB).mono ?_; rintro e w1 ⟨rfl, hb1⟩
      obtain ⟨x0, x1, x2, x3, x4⟩ := KX.out _ hb1
      go_wp2_with fail
      refine bodyPost_ret (v := .tuple #[.agg #[.int .i64 0, .slice none 0 0], .bool false]) (by simp [results, Try.results35, go_sem, x1, x2]) rfl ⟨_, _, _, rfl, OwnS.nil _ _ _, HNO.out _ (HB.step hb1)⟩
    · have hne : (worldsAns ar sz == 10000) = false := beq_eq_false_iff_ne.2 ht
      have hw1 := IntWalk.i64_in (worldsAns ar sz - 1) (by omega)
      cases hp : inB no 0 (worldsAns ar sz - 1) with
      | false =>
        have E : Hid (worldAtOk ar sz no = false) := by show _ = _; rw [EOK, hp, Bool.and_false]
        unfold worldAtZ worldAtT
        rw [E.out, if_neg (by simp), if_neg (by simp)]
        have HP := Lib.hid hp
        clear hq EOK ht hp
        generalize worldsAns ar sz = m at *
        go_enter Try.func35, Try.ntmps35
        go_wp2_with fail
        refine (HC.out _ HB).mono ?_; rintro e w1 ⟨rfl, hb1⟩
        obtain ⟨x0, x1, x2, x3, x4⟩ := KX.out _ hb1
        go_wp2_with fail
        refine (l1In_qv _ _ _ _ HP.out _).mono ?_; rintro e w2 ⟨rfl, rfl⟩
        go_wp2_with fail
        refine bodyPost_ret (v := .tuple #[.agg #[.int .i64 0, .slice none 0 0], .bool false]) (by simp [results, Try.results35, go_sem, x1, x2]) rfl ⟨_, _, _, rfl, OwnS.nil _ _ _, HNO.out _ (HB.step hb1)⟩
      | true =>
        have E : Hid (worldAtOk ar sz no = true) := by show _ = _; rw [EOK, hp, Bool.and_true, decide_eq_true ht]
        unfold worldAtZ worldAtT
        rw [E.out, if_pos rfl, if_pos rfl]
        have hp2 : 0 ≤ no ∧ no ≤ worldsAns ar sz - 1 := by unfold inB at hp; simpa using hp
        obtain ⟨Z, rfl⟩ : ∃ Z : Nat, sz = (Z : Int) := ⟨sz.toNat, by omega⟩
        obtain ⟨N, rfl⟩ : ∃ N : Nat, no = (N : Int) := ⟨no.toNat, by omega⟩
        have HP := Lib.hid hp
        have HD := Lib.hid (fun (w' : World) (hb : Bel w w') => l5WorldAt_c l h v ar Z N w' hg (by omega) (by omega) (by omega) (hv.below hb))
        rw [Int.toNat_natCast, Int.toNat_natCast]
        clear hq EOK ht hp
        generalize worldsAns ar Z = m at *
        generalize tabN ar Z N ar.length = T at *
        go_enter Try.func35, Try.ntmps35
        go_wp2_with fail
        refine (HC.out _ HB).mono ?_; rintro e w1 ⟨rfl, hb1⟩
        obtain ⟨x0, x1, x2, x3, x4⟩ := KX.out _ hb1
        go_wp2_with fail
        refine (l1In_qv _ _ _ _ HP.out _).mono ?_; rintro e w2 ⟨rfl, rfl⟩
        go_wp2_with fail
        refine (HD.out _ (HB.step hb1)).mono ?_; rintro e w3 ⟨a3, n3, c3, rfl, o3, hb3⟩
        obtain ⟨y0, y1, y2, y3, y4⟩ := KX.out _ (hb1.step hb3)
        have hz1 := hb1.size
        simp only [World.size_alloc] at hz1
        go_wp2_with fail
        refine bodyPost_ret (v := .tuple #[.agg #[.int .i64 (Z : Int), .slice a3 n3 c3], .bool true]) (by simp [results, Try.results35, go_sem, y1, y2]) rfl ⟨_, _, _, rfl, ?_, ?_⟩
        · exact ((o3.set (p := ⟨w.heap.size + 1, 0, none⟩) (.inl x3) _).set (p := ⟨w.heap.size + 1, 1, none⟩) (.inl x3) _).mono (by omega) (by simp)
        · exact ((HB.step (hb1.step hb3)).set (p := ⟨w.heap.size + 1, 0, none⟩) (by simp) _).set (p := ⟨w.heap.size + 1, 1, none⟩) (by simp) _
end Go.Proofs.Ytfhljkjcjnfjfaa
