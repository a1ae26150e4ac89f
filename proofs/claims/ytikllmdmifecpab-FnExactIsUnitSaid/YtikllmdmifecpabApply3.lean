/- Apply, IsUnifier: both functions. -/
import Derived.Test.YtikllmdmifecpabApply2
import Derived.Test.YtikllmdmifecpabSame
namespace Go.Proofs.Ytikllmdmifecpab
open Go.RowKit

def unifAns (ar : List Int) (b : List (List Int)) (t r : List Int) : Bool := applyOk ar b t && applyOk ar b r && decide (applyAns ar b t = applyAns ar b r)

set_option maxRecDepth 100000 in
set_option maxHeartbeats 400000 in
theorem iApply_t {l h l' h' l2 h2 : Nat} {v u x : Value} {ar : List Int} {b : List (List Int)} {t : List Int} {w : World} (ha : ar.length ≤ 1048576) (hv : SlI l h w v ar) (hb : short b) (hu : SlS l' h' w u b) (ht : t.length ≤ 1048576) (hx : SlI l2 h2 w x t) :
    Calls Try.prog 11 #[.agg #[v], u, x] w (RetIB w (applyAns ar b t) (applyOk ar b t)) := by
  cases hs : goodSubst ar b with
  | false =>
    have E := Lib.hid (applyAns_no (show applyOk ar b t = false by simp [applyOk, hs]))
    have E2 : Hid (applyOk ar b t = false) := by show _ = _; simp [applyOk, hs]
    have HS := Lib.hid hs; clear hs
    go_enter Try.func11, Try.ntmps11
    go_wp2_with fail
    refine (iGoodSubst_v _ _ _ _ _ _ _ _ _ _ HS.out ha (hv.alloc _) hb (hu.alloc _)).mono ?_; rintro e w1 ⟨rfl, hb1⟩
    go_wp2_with fail
    go_ret2
    exact ⟨_, _, _, by rw [E2.out]; rfl, by rw [E.out]; exact OwnI.nil _ _ _, hb1.of_alloc⟩
  | true =>
    have hg := (goodSubst_iff.1 hs).1
    cases htt : okTerm ar t with
    | false =>
      have E := Lib.hid (applyAns_no (show applyOk ar b t = false by simp [applyOk, htt]))
      have E2 : Hid (applyOk ar b t = false) := by show _ = _; simp [applyOk, htt]
      have HS := Lib.hid hs
      have HT := Lib.hid htt
      clear hs htt
      go_enter Try.func11, Try.ntmps11
      go_wp2_with fail
      refine (iGoodSubst_v _ _ _ _ _ _ _ _ _ _ HS.out ha (hv.alloc _) hb (hu.alloc _)).mono ?_; rintro e w1 ⟨rfl, hb1⟩
      have hx1 := boxc hb1 0 _ rfl
      go_wp2_with fail
      refine (iGoodTerm_vv _ _ _ _ _ _ _ _ _ _ HT.out hg ha ht (hv.below hb1.of_alloc) (hx.below hb1.of_alloc)).mono ?_; rintro e w2 ⟨rfl, hb2⟩
      go_wp2_with fail
      go_ret2
      exact ⟨_, _, _, by rw [E2.out]; rfl, by rw [E.out]; exact OwnI.nil _ _ _, (hb1.step hb2).of_alloc⟩
    | true =>
      have hlow := okTerm_low htt
      have ht40 := ((okTerm_iff _ _).1 htt).2.1
      have h40 := goodSubst_len40 hs
      have h12 := (goodSubst_iff.1 hs).2.1
      have E2 : Hid (applyOk ar b t = app40ok b t) := by show _ = _; simp [applyOk, hs, htt]
      have E : Hid (applyAns ar b t = app40 b t) := by
        show _ = _
        have := E2.out
        unfold applyAns
        rw [this]
        unfold app40 app40ok
        by_cases h : 40 < (appT b t).length <;> simp [h]
      have HS := Lib.hid hs
      have HT := Lib.hid htt
      clear hs htt
      go_enter Try.func11, Try.ntmps11
      go_wp2_with fail
      refine (iGoodSubst_v _ _ _ _ _ _ _ _ _ _ HS.out ha (hv.alloc _) hb (hu.alloc _)).mono ?_; rintro e w1 ⟨rfl, hb1⟩
      have hx1 := boxc hb1 0 _ rfl
      go_wp2_with fail
      refine (iGoodTerm_vv _ _ _ _ _ _ _ _ _ _ HT.out hg ha ht (hv.below hb1.of_alloc) (hx.below hb1.of_alloc)).mono ?_; rintro e w2 ⟨rfl, hb2⟩
      have hb12 := hb1.step hb2
      go_wp2_with fail
      refine (applied_c _ _ _ _ _ _ b t _ h12 h40 (by omega) hlow (hu.below hb12.of_alloc) (hx.below hb12.of_alloc)).mono ?_; rintro e w3 ⟨ao, no, co, rfl, ho, hb3⟩
      go_wp2_with fail
      go_ret2
      exact ⟨_, _, _, by rw [E2.out]; rfl, by rw [E.out]; exact ho.mono (by have := hb12.size; simp at this; omega) (Nat.le_refl _), (hb12.step hb3).of_alloc⟩

end Go.Proofs.Ytikllmdmifecpab
