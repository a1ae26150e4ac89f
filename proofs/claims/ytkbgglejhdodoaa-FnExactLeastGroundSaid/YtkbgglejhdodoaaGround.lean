/- LeastGround: both functions. -/
import Derived.Test.YtkbgglejhdodoaaGood2
import Derived.Test.YtkbgglejhdodoaaSlice
namespace Go.Proofs.Ytkbgglejhdodoaa
open Go.RowKit

/-- Symbol 0 has no arguments: it is the least. -/
def leastAns (ar : List Int) : List Int := if goodSign ar then [0] else []
theorem leastAns_len (ar : List Int) : (leastAns ar).length ≤ 1048576 := by unfold leastAns; split <;> simp
theorem least_no {ar : List Int} (h : goodSign ar = false) : leastAns ar = [] := by simp [leastAns, h]
theorem least_yes {ar : List Int} (h : goodSign ar = true) : leastAns ar = [0] := by simp [leastAns, h]
theorem sign_first {ar : List Int} (h : goodSign ar = true) : 0 < ar.length ∧ ar.getD 0 0 = 0 := by
  have h1 := sign_len ar h
  simp only [goodSign, Bool.and_eq_true, beq_iff_eq] at h
  exact ⟨by omega, h.2⟩
theorem own_one (w : World) (x : Int) : OwnI w.heap.size (w.alloc (.cells #[.int .i64 x] 3)).heap.size (w.alloc (.cells #[.int .i64 x] 3)) (.slice (some ⟨w.heap.size, 0, none⟩) 1 1) [x] :=
  OwnI.of_row (World.ownsRow_lit w #[.int .i64 x] 1 (Nat.le_refl _) (by unfold maxLen; omega) rfl)

theorem slIndex_first (l h : Nat) (v : Value) (t : List Int) (n : Int) (w : World) (hl : 0 < t.length) (h0 : t.getD 0 0 = n) (ht : t.length ≤ 1048576) (hv : SlI l h w v t) :
    Calls Try.prog 47 #[v, .int .i64 n] w (RetV w (.int .i64 0)) := by
  obtain ⟨ad, cap, rfl, -, -, hr⟩ := hv
  obtain ⟨b, off, rfl, -, hcell⟩ := rd hr (Bel.rfl' w) 0 hl
  rw [h0] at hcell
  rw [Nat.add_zero] at hcell
  have hl2 : decide ((0 : Int) < t.length) = true := by simp; omega
  clear hr h0
  go_enter Try.func47, Try.ntmps47
  go_wp2_with fail
  go_loop [8] (fun i => i = .int .i64 0) (fun i => 0)
  case atStart => rfl
  case round =>
    subst hrel
    go_wp2_with fail
    go_ret
    exact ⟨rfl, Bel.rfl' _⟩

set_option maxRecDepth 100000 in
theorem iLeastGround_t {l h : Nat} {v : Value} {ar : List Int} {w : World} (ha : ar.length ≤ 1048576) (hv : SlI l h w v ar) :
    Calls Try.prog 11 #[.agg #[v]] w (RetIB w (leastAns ar) (goodSign ar)) := by
  cases hs : goodSign ar with
  | false =>
    have E := Lib.hid (least_no hs)
    have HS := Lib.hid hs; clear hs
    go_enter Try.func11, Try.ntmps11
    go_wp2_with fail
    refine (iGoodSign_v _ _ _ _ _ _ HS.out ha (hv.alloc _)).mono ?_; rintro e w' ⟨rfl, hb1⟩
    go_wp2_with fail
    go_ret2
    exact ⟨_, _, _, rfl, by rw [E.out]; exact OwnI.nil _ _ _, hb1.of_alloc⟩
  | true =>
    have E := Lib.hid (least_yes hs)
    obtain ⟨h1, h2⟩ := sign_first hs
    have HS := Lib.hid hs; clear hs
    go_enter Try.func11, Try.ntmps11
    go_wp2_with fail
    refine (iGoodSign_v _ _ _ _ _ _ HS.out ha (hv.alloc _)).mono ?_; rintro e w1 ⟨rfl, hb1⟩
    have hx1 := boxc hb1 0 _ rfl
    go_wp2_with fail
    refine (slIndex_first _ _ _ ar 0 _ h1 h2 ha (hv.below hb1.of_alloc)).mono ?_; rintro e w2 ⟨rfl, hb2⟩
    go_wp2_with fail
    go_ret2
    exact ⟨_, _, _, rfl, by rw [E.out]; exact (own_one w2 0).mono (hb1.of_alloc.step hb2).size (Nat.le_refl _), (hb1.of_alloc.step hb2).alloc _⟩

set_option maxRecDepth 100000 in
theorem sLeastGround_t {l h : Nat} {v : Value} {ar : List Int} {w : World} (ha : ar.length ≤ 1048576) (hv : SlI l h w v ar) :
    Calls Try.prog 9 #[.agg #[v]] w (RetIB w (leastAns ar) (goodSign ar)) := by
  cases hs : goodSign ar with
  | false =>
    have E := Lib.hid (least_no hs)
    have HS := Lib.hid hs; clear hs
    go_enter Try.func9, Try.ntmps9
    go_wp2_with fail
    refine (sGoodSign_v _ _ _ _ _ _ HS.out ha (hv.alloc _)).mono ?_; rintro e w' ⟨rfl, hb1⟩
    go_wp2_with fail
    go_ret2
    exact ⟨_, _, _, rfl, by rw [E.out]; exact OwnI.nil _ _ _, hb1.of_alloc⟩
  | true =>
    have E := Lib.hid (least_yes hs)
    obtain ⟨h1, h2⟩ := sign_first hs
    have HS := Lib.hid hs; clear hs
    obtain ⟨ad, cap, rfl, -, -, hr⟩ := id hv
    go_enter Try.func9, Try.ntmps9
    go_wp2_with fail
    refine (sGoodSign_v _ _ _ _ _ _ HS.out ha (hv.alloc _)).mono ?_; rintro e w1 ⟨rfl, hb1⟩
    have hx1 := boxc hb1 0 _ rfl
    obtain ⟨b, off, rfl, -, hcell⟩ := rd hr hb1.of_alloc 0 h1
    rw [h2, Nat.add_zero] at hcell
    have hl2 : decide ((0 : Int) < ar.length) = true := by simp; omega
    clear hr h2
    go_wp2_with fail
    go_loop [12] (fun i => i = .int .i64 0) (fun i => 0)
    case atStart => rfl
    case round =>
      subst hrel
      go_wp2_with fail
      go_ret2
      exact ⟨_, _, _, rfl, by rw [E.out]; exact (own_one w1 0).mono hb1.of_alloc.size (Nat.le_refl _), hb1.of_alloc.alloc _⟩
end Go.Proofs.Ytkbgglejhdodoaa
