/- Apply, IsUnifier: both functions. -/
import Derived.Test.YtngdhpelnjckjaaApply2
import Derived.Test.YtngdhpelnjckjaaSame
namespace Go.Proofs.Ytngdhpelnjckjaa
open Go.RowKit

def unifAns (ar : List Int) (b : List (List Int)) (t r : List Int) : Bool := applyOk ar b t && applyOk ar b r && decide (applyAns ar b t = applyAns ar b r)

set_option maxRecDepth 100000 in
set_option maxHeartbeats 400000 in
theorem sApply_t {l h l' h' l2 h2 : Nat} {v u x : Value} {ar : List Int} {b : List (List Int)} {t : List Int} {w : World} (ha : ar.length ≤ 1048576) (hv : SlI l h w v ar) (hb : short b) (hu : SlS l' h' w u b) (ht : t.length ≤ 1048576) (hx : SlI l2 h2 w x t) :
    Calls Try.prog 71 #[.agg #[v], u, x] w (RetIB w (applyAns ar b t) (applyOk ar b t)) := by
  cases hs : goodSubst ar b with
  | false =>
    have E := Lib.hid (applyAns_no (show applyOk ar b t = false by simp [applyOk, hs]))
    have E2 : Hid (applyOk ar b t = false) := by show _ = _; simp [applyOk, hs]
    have HS := Lib.hid hs; clear hs
    go_enter Try.func71, Try.ntmps71
    go_wp2_with fail
    refine (sGoodSubst_v _ _ _ _ _ _ _ _ _ _ HS.out ha (hv.alloc _) hb (hu.alloc _)).mono ?_; rintro e w1 ⟨rfl, hb1⟩
    go_wp2_with fail
    go_ret2
    exact ⟨_, _, _, by rw [E2.out]; rfl, by rw [E.out]; exact OwnI.nil _ _ _, hb1.of_alloc⟩
  | true =>
    have hg := (goodSubst_iff.1 hs).1
    cases htt : okTerm ar t with
    | false =>
      have E := Lib.hid (applyAns_no (show applyOk ar b t = false by simp [applyOk, htt]))
      have E2 : Hid (applyOk ar b t = false) := by show _ = _; simp [applyOk, htt]
      have HS := Lib.hid hs
      have HT := Lib.hid htt
      clear hs htt
      go_enter Try.func71, Try.ntmps71
      go_wp2_with fail
      refine (sGoodSubst_v _ _ _ _ _ _ _ _ _ _ HS.out ha (hv.alloc _) hb (hu.alloc _)).mono ?_; rintro e w1 ⟨rfl, hb1⟩
      have hx1 := boxc hb1 0 _ rfl
      go_wp2_with fail
      refine (l1Term_v _ _ _ _ _ _ _ _ _ _ HT.out hg ht (hv.below hb1.of_alloc) (hx.below hb1.of_alloc)).mono ?_; rintro e w2 ⟨rfl, hb2⟩
      go_wp2_with fail
      go_ret2
      exact ⟨_, _, _, by rw [E2.out]; rfl, by rw [E.out]; exact OwnI.nil _ _ _, (hb1.step hb2).of_alloc⟩
    | true =>
      have hlow := okTerm_low htt
      have ht40 := ((okTerm_iff _ _).1 htt).2.1
      have h40 := goodSubst_len40 hs
      have hal := appT_len h40 t
      have h12 := (goodSubst_iff.1 hs).2.1
      have hok := app_ok hs htt
      have HS := Lib.hid hs
      have HT := Lib.hid htt
      cases h4 : app40ok b t with
      | false =>
        have E := Lib.hid (applyAns_no (show applyOk ar b t = false by simp [applyOk, h4]))
        have E2 : Hid (applyOk ar b t = false) := by show _ = _; simp [applyOk, h4]
        have HO := Lib.hid (hok.trans h4)
        clear hs htt h4 hok
        go_enter Try.func71, Try.ntmps71
        go_wp2_with fail
        refine (sGoodSubst_v _ _ _ _ _ _ _ _ _ _ HS.out ha (hv.alloc _) hb (hu.alloc _)).mono ?_; rintro e w1 ⟨rfl, hb1⟩
        have hx1 := boxc hb1 0 _ rfl
        go_wp2_with fail
        refine (l1Term_v _ _ _ _ _ _ _ _ _ _ HT.out hg ht (hv.below hb1.of_alloc) (hx.below hb1.of_alloc)).mono ?_; rintro e w2 ⟨rfl, hb2⟩
        have hb12 := hb1.step hb2
        have hx2 := boxc hb12 0 _ rfl
        go_wp2_with fail
        refine (l2Apply_c _ _ _ _ _ _ b t _ h12 h40 (by omega) hlow (hu.below hb12.of_alloc) (hx.below hb12.of_alloc)).mono ?_; rintro e w3 ⟨ao, no, co, rfl, ho, hb3⟩
        have hb13 := hb12.step hb3
        have hx3 := boxc hb13 0 _ rfl
        go_wp2_with fail
        refine (l1Term_v _ _ _ _ _ _ ar (appT b t) _ _ HO.out hg (by omega) (hv.below hb13.of_alloc) ho.sl).mono ?_; rintro e w4 ⟨rfl, hb4⟩
        go_wp2_with fail
        go_ret2
        exact ⟨_, _, _, by rw [E2.out]; rfl, by rw [E.out]; exact OwnI.nil _ _ _, (hb13.step hb4).of_alloc⟩
      | true =>
        have hyes : applyOk ar b t = true := by simp [applyOk, h4, hs, htt]
        have E := Lib.hid (applyAns_yes hyes)
        have E2 := Lib.hid hyes
        have HO := Lib.hid (hok.trans h4)
        clear hs htt h4 hok hyes
        go_enter Try.func71, Try.ntmps71
        go_wp2_with fail
        refine (sGoodSubst_v _ _ _ _ _ _ _ _ _ _ HS.out ha (hv.alloc _) hb (hu.alloc _)).mono ?_; rintro e w1 ⟨rfl, hb1⟩
        have hx1 := boxc hb1 0 _ rfl
        go_wp2_with fail
        refine (l1Term_v _ _ _ _ _ _ _ _ _ _ HT.out hg ht (hv.below hb1.of_alloc) (hx.below hb1.of_alloc)).mono ?_; rintro e w2 ⟨rfl, hb2⟩
        have hb12 := hb1.step hb2
        have hx2 := boxc hb12 0 _ rfl
        go_wp2_with fail
        refine (l2Apply_c _ _ _ _ _ _ b t _ h12 h40 (by omega) hlow (hu.below hb12.of_alloc) (hx.below hb12.of_alloc)).mono ?_; rintro e w3 ⟨ao, no, co, rfl, ho, hb3⟩
        have hb13 := hb12.step hb3
        have hx3 := boxc hb13 0 _ rfl
        go_wp2_with fail
        refine (l1Term_v _ _ _ _ _ _ ar (appT b t) _ _ HO.out hg (by omega) (hv.below hb13.of_alloc) ho.sl).mono ?_; rintro e w4 ⟨rfl, hb4⟩
        go_wp2_with fail
        go_ret2
        exact ⟨_, _, _, by rw [E2.out]; rfl, by rw [E.out]; exact (ho.mono (by have := hb12.size; simp at this; omega) hb4.size).below hb4, (hb13.step hb4).of_alloc⟩

set_option maxRecDepth 100000 in
set_option maxHeartbeats 400000 in
theorem iApply_t {l h l' h' l2 h2 : Nat} {v u x : Value} {ar : List Int} {b : List (List Int)} {t : List Int} {w : World} (ha : ar.length ≤ 1048576) (hv : SlI l h w v ar) (hb : short b) (hu : SlS l' h' w u b) (ht : t.length ≤ 1048576) (hx : SlI l2 h2 w x t) :
    Calls Try.prog 57 #[.agg #[v], u, x] w (RetIB w (applyAns ar b t) (applyOk ar b t)) := by
  cases hs : goodSubst ar b with
  | false =>
    have E := Lib.hid (applyAns_no (show applyOk ar b t = false by simp [applyOk, hs]))
    have E2 : Hid (applyOk ar b t = false) := by show _ = _; simp [applyOk, hs]
    have HS := Lib.hid hs; clear hs
    go_enter Try.func57, Try.ntmps57
    go_wp2_with fail
    refine (iGoodSubst_v _ _ _ _ _ _ _ _ _ _ HS.out ha (hv.alloc _) hb (hu.alloc _)).mono ?_; rintro e w1 ⟨rfl, hb1⟩
    go_wp2_with fail
    go_ret2
    exact ⟨_, _, _, by rw [E2.out]; rfl, by rw [E.out]; exact OwnI.nil _ _ _, hb1.of_alloc⟩
  | true =>
    have hg := (goodSubst_iff.1 hs).1
    cases htt : okTerm ar t with
    | false =>
      have E := Lib.hid (applyAns_no (show applyOk ar b t = false by simp [applyOk, htt]))
      have E2 : Hid (applyOk ar b t = false) := by show _ = _; simp [applyOk, htt]
      have HS := Lib.hid hs
      have HT := Lib.hid htt
      clear hs htt
      go_enter Try.func57, Try.ntmps57
      go_wp2_with fail
      refine (iGoodSubst_v _ _ _ _ _ _ _ _ _ _ HS.out ha (hv.alloc _) hb (hu.alloc _)).mono ?_; rintro e w1 ⟨rfl, hb1⟩
      have hx1 := boxc hb1 0 _ rfl
      go_wp2_with fail
      refine (iGoodTerm_vv _ _ _ _ _ _ _ _ _ _ HT.out hg ha ht (hv.below hb1.of_alloc) (hx.below hb1.of_alloc)).mono ?_; rintro e w2 ⟨rfl, hb2⟩
      go_wp2_with fail
      go_ret2
      exact ⟨_, _, _, by rw [E2.out]; rfl, by rw [E.out]; exact OwnI.nil _ _ _, (hb1.step hb2).of_alloc⟩
    | true =>
      have hlow := okTerm_low htt
      have ht40 := ((okTerm_iff _ _).1 htt).2.1
      have h40 := goodSubst_len40 hs
      have h12 := (goodSubst_iff.1 hs).2.1
      have E2 : Hid (applyOk ar b t = app40ok b t) := by show _ = _; simp [applyOk, hs, htt]
      have E : Hid (applyAns ar b t = app40 b t) := by
        show _ = _
        have := E2.out
        unfold applyAns
        rw [this]
        unfold app40 app40ok
        by_cases h : 40 < (appT b t).length <;> simp [h]
      have HS := Lib.hid hs
      have HT := Lib.hid htt
      clear hs htt
      go_enter Try.func57, Try.ntmps57
      go_wp2_with fail
      refine (iGoodSubst_v _ _ _ _ _ _ _ _ _ _ HS.out ha (hv.alloc _) hb (hu.alloc _)).mono ?_; rintro e w1 ⟨rfl, hb1⟩
      have hx1 := boxc hb1 0 _ rfl
      go_wp2_with fail
      refine (iGoodTerm_vv _ _ _ _ _ _ _ _ _ _ HT.out hg ha ht (hv.below hb1.of_alloc) (hx.below hb1.of_alloc)).mono ?_; rintro e w2 ⟨rfl, hb2⟩
      have hb12 := hb1.step hb2
      go_wp2_with fail
      refine (applied_c _ _ _ _ _ _ b t _ h12 h40 (by omega) hlow (hu.below hb12.of_alloc) (hx.below hb12.of_alloc)).mono ?_; rintro e w3 ⟨ao, no, co, rfl, ho, hb3⟩
      go_wp2_with fail
      go_ret2
      exact ⟨_, _, _, by rw [E2.out]; rfl, by rw [E.out]; exact ho.mono (by have := hb12.size; simp at this; omega) (Nat.le_refl _), (hb12.step hb3).of_alloc⟩

set_option maxRecDepth 100000 in
set_option maxHeartbeats 400000 in
theorem sIsUnifier_t {l h l' h' l2 h2 l3 h3 : Nat} {v u x y : Value} {ar : List Int} {b : List (List Int)} {t r : List Int} {w : World} (ha : ar.length ≤ 1048576) (hv : SlI l h w v ar) (hb : short b) (hu : SlS l' h' w u b) (ht : t.length ≤ 1048576) (hx : SlI l2 h2 w x t) (hr : r.length ≤ 1048576) (hy : SlI l3 h3 w y r) :
    Calls Try.prog 56 #[.agg #[v], u, x, y] w (RetV w (.tuple #[.bool (unifAns ar b t r), .bool (applyOk ar b t && applyOk ar b r)])) := by
  have HA := Lib.hid (fun (w' : World) (la ha2 lb hb2 l h : Nat) (x : Value) (t : List Int) (h1 : SlI la ha2 w' v ar) (h2 : SlS lb hb2 w' u b) (h3 : t.length ≤ 1048576) (h4 : SlI l h w' x t) => sApply_t ha h1 hb h2 h3 h4)
  have hl1 := applyAns_len ar b t
  have hl2 := applyAns_len ar b r
  cases h1 : applyOk ar b t with
  | false =>
    have E : Hid (unifAns ar b t r = false) := by show _ = _; simp [unifAns, h1]
    rw [Bool.false_and]
    simp only [E.out]
    generalize he1 : applyAns ar b t = A1 at *
    generalize he2 : applyAns ar b r = A2 at *
    generalize hq2 : applyOk ar b r = q2
    have H1 := Lib.hid (And.intro h1 (And.intro he1 (And.intro he2 hq2)))
    clear h1 he1 he2 hq2
    go_enter Try.func56, Try.ntmps56
    go_wp2_with fail
    refine (HA.out _ _ _ _ _ _ _ x t (hv.alloc _) (hu.alloc _) ht (hx.alloc _)).mono ?_; rintro e w1 ⟨a1, n1, c1, rfl, ho1, hb1⟩
    have hx1 := boxc hb1 0 _ rfl
    go_wp2_with fail
    refine (HA.out _ _ _ _ _ _ _ y r (hv.below hb1.of_alloc) (hu.below hb1.of_alloc) hr (hy.below hb1.of_alloc)).mono ?_; rintro e w2 ⟨a2, n2, c2, rfl, ho2, hb2⟩
    rw [H1.out.1]
    rw [H1.out.2.2.2]
    go_wp2_with fail
    go_ret2
    exact ⟨rfl, (hb1.step hb2).of_alloc⟩
  | true =>
    cases h2 : applyOk ar b r with
    | false =>
      have E : Hid (unifAns ar b t r = false) := by show _ = _; simp [unifAns, h2]
      rw [Bool.true_and]
      simp only [E.out]
      have H1 := Lib.hid (And.intro h1 h2)
      clear h1 h2
      go_enter Try.func56, Try.ntmps56
      go_wp2_with fail
      refine (HA.out _ _ _ _ _ _ _ x t (hv.alloc _) (hu.alloc _) ht (hx.alloc _)).mono ?_; rintro e w1 ⟨a1, n1, c1, rfl, ho1, hb1⟩
      have hx1 := boxc hb1 0 _ rfl
      go_wp2_with fail
      refine (HA.out _ _ _ _ _ _ _ y r (hv.below hb1.of_alloc) (hu.below hb1.of_alloc) hr (hy.below hb1.of_alloc)).mono ?_; rintro e w2 ⟨a2, n2, c2, rfl, ho2, hb2⟩
      rw [H1.out.1]
      rw [H1.out.2]
      go_wp2_with fail
      go_ret2
      exact ⟨rfl, (hb1.step hb2).of_alloc⟩
    | true =>
      have E : Hid (unifAns ar b t r = decide (applyAns ar b t = applyAns ar b r)) := by show _ = _; simp [unifAns, h1, h2]
      rw [Bool.true_and]
      simp only [E.out]
      have H1 := Lib.hid (And.intro h1 h2)
      clear h1 h2
      go_enter Try.func56, Try.ntmps56
      go_wp2_with fail
      refine (HA.out _ _ _ _ _ _ _ x t (hv.alloc _) (hu.alloc _) ht (hx.alloc _)).mono ?_; rintro e w1 ⟨a1, n1, c1, rfl, ho1, hb1⟩
      have hx1 := boxc hb1 0 _ rfl
      go_wp2_with fail
      refine (HA.out _ _ _ _ _ _ _ y r (hv.below hb1.of_alloc) (hu.below hb1.of_alloc) hr (hy.below hb1.of_alloc)).mono ?_; rintro e w2 ⟨a2, n2, c2, rfl, ho2, hb2⟩
      rw [H1.out.1]
      rw [H1.out.2]
      go_wp2_with fail
      refine (l1Same_c _ _ _ _ _ _ _ _ _ hl1 hl2 (ho1.sl.below hb2) ho2.sl).mono ?_; rintro e w3 ⟨rfl, hb3⟩
      go_wp2_with fail
      go_ret2
      exact ⟨rfl, ((hb1.step hb2).step hb3).of_alloc⟩

set_option maxRecDepth 100000 in
set_option maxHeartbeats 400000 in
theorem iIsUnifier_t {l h l' h' l2 h2 l3 h3 : Nat} {v u x y : Value} {ar : List Int} {b : List (List Int)} {t r : List Int} {w : World} (ha : ar.length ≤ 1048576) (hv : SlI l h w v ar) (hb : short b) (hu : SlS l' h' w u b) (ht : t.length ≤ 1048576) (hx : SlI l2 h2 w x t) (hr : r.length ≤ 1048576) (hy : SlI l3 h3 w y r) :
    Calls Try.prog 53 #[.agg #[v], u, x, y] w (RetV w (.tuple #[.bool (unifAns ar b t r), .bool (applyOk ar b t && applyOk ar b r)])) := by
  have HA := Lib.hid (fun (w' : World) (la ha2 lb hb2 l h : Nat) (x : Value) (t : List Int) (h1 : SlI la ha2 w' v ar) (h2 : SlS lb hb2 w' u b) (h3 : t.length ≤ 1048576) (h4 : SlI l h w' x t) => iApply_t ha h1 hb h2 h3 h4)
  have hl1 := applyAns_len ar b t
  have hl2 := applyAns_len ar b r
  cases h1 : applyOk ar b t with
  | false =>
    have E : Hid (unifAns ar b t r = false) := by show _ = _; simp [unifAns, h1]
    rw [Bool.false_and]
    simp only [E.out]
    generalize he1 : applyAns ar b t = A1 at *
    generalize he2 : applyAns ar b r = A2 at *
    generalize hq2 : applyOk ar b r = q2
    have H1 := Lib.hid (And.intro h1 (And.intro he1 (And.intro he2 hq2)))
    clear h1 he1 he2 hq2
    go_enter Try.func53, Try.ntmps53
    go_wp2_with fail
    refine (HA.out _ _ _ _ _ _ _ x t (hv.alloc _) (hu.alloc _) ht (hx.alloc _)).mono ?_; rintro e w1 ⟨a1, n1, c1, rfl, ho1, hb1⟩
    have hx1 := boxc hb1 0 _ rfl
    go_wp2_with fail
    refine (HA.out _ _ _ _ _ _ _ y r (hv.below hb1.of_alloc) (hu.below hb1.of_alloc) hr (hy.below hb1.of_alloc)).mono ?_; rintro e w2 ⟨a2, n2, c2, rfl, ho2, hb2⟩
    rw [H1.out.1]
    rw [H1.out.2.2.2]
    go_wp2_with fail
    go_ret2
    exact ⟨rfl, (hb1.step hb2).of_alloc⟩
  | true =>
    cases h2 : applyOk ar b r with
    | false =>
      have E : Hid (unifAns ar b t r = false) := by show _ = _; simp [unifAns, h2]
      rw [Bool.true_and]
      simp only [E.out]
      have H1 := Lib.hid (And.intro h1 h2)
      clear h1 h2
      go_enter Try.func53, Try.ntmps53
      go_wp2_with fail
      refine (HA.out _ _ _ _ _ _ _ x t (hv.alloc _) (hu.alloc _) ht (hx.alloc _)).mono ?_; rintro e w1 ⟨a1, n1, c1, rfl, ho1, hb1⟩
      have hx1 := boxc hb1 0 _ rfl
      go_wp2_with fail
      refine (HA.out _ _ _ _ _ _ _ y r (hv.below hb1.of_alloc) (hu.below hb1.of_alloc) hr (hy.below hb1.of_alloc)).mono ?_; rintro e w2 ⟨a2, n2, c2, rfl, ho2, hb2⟩
      rw [H1.out.1]
      rw [H1.out.2]
      go_wp2_with fail
      go_ret2
      exact ⟨rfl, (hb1.step hb2).of_alloc⟩
    | true =>
      have E : Hid (unifAns ar b t r = decide (applyAns ar b t = applyAns ar b r)) := by show _ = _; simp [unifAns, h1, h2]
      rw [Bool.true_and]
      simp only [E.out]
      have H1 := Lib.hid (And.intro h1 h2)
      clear h1 h2
      go_enter Try.func53, Try.ntmps53
      go_wp2_with fail
      refine (HA.out _ _ _ _ _ _ _ x t (hv.alloc _) (hu.alloc _) ht (hx.alloc _)).mono ?_; rintro e w1 ⟨a1, n1, c1, rfl, ho1, hb1⟩
      have hx1 := boxc hb1 0 _ rfl
      go_wp2_with fail
      refine (HA.out _ _ _ _ _ _ _ y r (hv.below hb1.of_alloc) (hu.below hb1.of_alloc) hr (hy.below hb1.of_alloc)).mono ?_; rintro e w2 ⟨a2, n2, c2, rfl, ho2, hb2⟩
      rw [H1.out.1]
      rw [H1.out.2]
      go_wp2_with fail
      refine (slEqual_c _ _ _ _ _ _ _ _ _ hl1 hl2 (ho1.sl.below hb2) ho2.sl).mono ?_; rintro e w3 ⟨rfl, hb3⟩
      go_wp2_with fail
      go_ret2
      exact ⟨rfl, ((hb1.step hb2).step hb3).of_alloc⟩
end Go.Proofs.Ytngdhpelnjckjaa
