/- Texts merged, part 7. -/
import Derived.Test.YteegjnobmbcjiaaGreatDoorMgFactor6
section
/- CompareTerms, WeighsMore: both functions. -/
namespace Go.Proofs.YteegjnobmbcjiaaGreatDoor
open Go.RowKit

theorem lowT.good {ar t : List Int} (h : goodTerm ar t = true) : lowT t := low_of_good h

set_option maxRecDepth 100000 in
set_option maxHeartbeats 400000 in
theorem compared_c (l h l' h' : Nat) (v u : Value) (a b : List Int) (w : World) (hT : Tab w) (ha : a.length ≤ 1048576) (hb : b.length ≤ 1048576) (hla : lowT a) (hlb : lowT b) (hv : SlI l h w v a) (hu : SlI l' h' w u b) :
    Calls Tryz.prog 116 #[v, u] w (RetV w (.int .i64 (cmpT a b))) := by
  by_cases hab : a = b
  · have E := Lib.hid (cmpT_zero.2 hab)
    have HE := Lib.hid (slEqual_v l h l' h' v u a b true w (by simpa using hab) ha hb hv hu)
    clear hab
    go_enter Tryz.func116, Tryz.ntmps116
    go_wp2_with fail
    refine HE.out.mono ?_; rintro e w1 ⟨rfl, hb1⟩
    go_wp2_with fail
    go_ret
    exact ⟨by rw [E.out]; rfl, hb1⟩
  · have HE := Lib.hid (slEqual_v l h l' h' v u a b false w (by simpa using hab) ha hb hv hu)
    cases h1 : above a b with
    | true =>
      have E := Lib.hid (cmpT_one.2 h1)
      have HA := Lib.hid (fun (w' : World) (hq : Bel w w') => isAbove_v l h l' h' v u a b true w' h1 (hT.bel hq) ha hb hla hlb (hv.below hq) (hu.below hq))
      clear hab h1
      go_enter Tryz.func116, Tryz.ntmps116
      go_wp2_with fail
      refine HE.out.mono ?_; rintro e w1 ⟨rfl, hb1⟩
      go_wp2_with fail
      refine (HA.out _ hb1).mono ?_; rintro e w2 ⟨rfl, hb2⟩
      go_wp2_with fail
      go_ret
      exact ⟨by rw [E.out]; rfl, hb1.step hb2⟩
    | false =>
      have HA := Lib.hid (fun (w' : World) (hq : Bel w w') => isAbove_v l h l' h' v u a b false w' h1 (hT.bel hq) ha hb hla hlb (hv.below hq) (hu.below hq))
      generalize h2 : above b a = q
      have HB := Lib.hid (fun (w' : World) (hq : Bel w w') => isAbove_v l' h' l h u v b a q w' h2 (hT.bel hq) hb ha hlb hla (hu.below hq) (hv.below hq))
      have E : Hid (cmpT a b = if q then -1 else 2) := by show _ = _; unfold cmpT; rw [if_neg hab, h1, h2]; rfl
      clear hab h1 h2
      cases q
      all_goals
        go_enter Tryz.func116, Tryz.ntmps116
        go_wp2_with fail
        refine HE.out.mono ?_; rintro e w1 ⟨rfl, hb1⟩
        go_wp2_with fail
        refine (HA.out _ hb1).mono ?_; rintro e w2 ⟨rfl, hb2⟩
        go_wp2_with fail
        refine (HB.out _ (hb1.step hb2)).mono ?_; rintro e w3 ⟨rfl, hb3⟩
        go_wp2_with fail
        go_ret
        exact ⟨by rw [E.out]; rfl, (hb1.step hb2).step hb3⟩

set_option maxRecDepth 100000 in
set_option maxHeartbeats 400000 in
theorem l3Compare_c (l h l' h' : Nat) (v u : Value) (a b : List Int) (w : World) (ha : a.length ≤ 1048576) (hb : b.length ≤ 1048576) (hla : lowT a) (hlb : lowT b) (hv : SlI l h w v a) (hu : SlI l' h' w u b) :
    Calls Tryz.prog 107 #[v, u] w (RetV w (.int .i64 (cmpT a b))) := by
  by_cases hab : a = b
  · have E := Lib.hid (cmpT_zero.2 hab)
    have HE := Lib.hid (l1Same_v l h l' h' v u a b true w (by simpa using hab) ha hb hv hu)
    clear hab
    go_enter Tryz.func107, Tryz.ntmps107
    go_wp2_with fail
    refine HE.out.mono ?_; rintro e w1 ⟨rfl, hb1⟩
    go_wp2_with fail
    go_ret
    exact ⟨by rw [E.out]; rfl, hb1⟩
  · have HE := Lib.hid (l1Same_v l h l' h' v u a b false w (by simpa using hab) ha hb hv hu)
    cases h1 : above a b with
    | true =>
      have E := Lib.hid (cmpT_one.2 h1)
      have HA := Lib.hid (fun (w' : World) (hq : Bel w w') => l3Greater_v l h l' h' v u a b true w' h1 ha hb hlb (hv.below hq) (hu.below hq))
      clear hab h1
      go_enter Tryz.func107, Tryz.ntmps107
      go_wp2_with fail
      refine HE.out.mono ?_; rintro e w1 ⟨rfl, hb1⟩
      go_wp2_with fail
      refine (HA.out _ hb1).mono ?_; rintro e w2 ⟨rfl, hb2⟩
      go_wp2_with fail
      go_ret
      exact ⟨by rw [E.out]; rfl, hb1.step hb2⟩
    | false =>
      have HA := Lib.hid (fun (w' : World) (hq : Bel w w') => l3Greater_v l h l' h' v u a b false w' h1 ha hb hlb (hv.below hq) (hu.below hq))
      generalize h2 : above b a = q
      have HB := Lib.hid (fun (w' : World) (hq : Bel w w') => l3Greater_v l' h' l h u v b a q w' h2 hb ha hla (hu.below hq) (hv.below hq))
      have E : Hid (cmpT a b = if q then -1 else 2) := by show _ = _; unfold cmpT; rw [if_neg hab, h1, h2]; rfl
      clear hab h1 h2
      cases q
      all_goals
        go_enter Tryz.func107, Tryz.ntmps107
        go_wp2_with fail
        refine HE.out.mono ?_; rintro e w1 ⟨rfl, hb1⟩
        go_wp2_with fail
        refine (HA.out _ hb1).mono ?_; rintro e w2 ⟨rfl, hb2⟩
        go_wp2_with fail
        refine (HB.out _ (hb1.step hb2)).mono ?_; rintro e w3 ⟨rfl, hb3⟩
        go_wp2_with fail
        go_ret
        exact ⟨by rw [E.out]; rfl, (hb1.step hb2).step hb3⟩

def cmpOk (ar a b : List Int) : Bool := goodTerm ar a && goodTerm ar b
theorem cmpOk_iff {ar a b : List Int} : cmpOk ar a b = true ↔ goodTerm ar a = true ∧ goodTerm ar b = true := by simp [cmpOk]
theorem cmpOk_swap (ar a b : List Int) : cmpOk ar a b = cmpOk ar b a := Bool.and_comm _ _
def cmpAns (ar a b : List Int) : Int := if cmpOk ar a b then cmpT a b else 0
def weiAns (ar a b : List Int) : Bool := cmpOk ar a b && (covers a b && decide (b.length < a.length))
theorem cmp_no {ar a b : List Int} (h : cmpOk ar a b = false) : cmpAns ar a b = 0 := by simp [cmpAns, h]
theorem cmp_yes {ar a b : List Int} (h : cmpOk ar a b = true) : cmpAns ar a b = cmpT a b := by simp [cmpAns, h]
theorem wei_no {ar a b : List Int} (h : cmpOk ar a b = false) : weiAns ar a b = false := by simp [weiAns, h]
theorem wei_yes {ar a b : List Int} (h : cmpOk ar a b = true) : weiAns ar a b = (covers a b && decide (b.length < a.length)) := by simp [weiAns, h]

end Go.Proofs.YteegjnobmbcjiaaGreatDoor
end
section
/- CompareLists, IsFalling: the program's. -/
namespace Go.Proofs.YteegjnobmbcjiaaGreatDoor
open Go.RowKit

theorem goodTerms_low {ar : List Int} {b : List (List Int)} {m : Nat} (h : goodTerms ar b m = true) : lowL b := fun j hj => okTerm_low (goodTerms_get h j hj)

set_option maxRecDepth 100000 in
set_option maxHeartbeats 800000 in
theorem comparedLists_c (l h l' h' : Nat) (v u : Value) (a b : List (List Int)) (w : World) (hT : Tab w) (ha : short a) (hla : lowL a) (hb : short b) (hlb : lowL b) (hv : SlS l h w v a) (hu : SlS l' h' w u b) :
    Calls Tryz.prog 84 #[v, u] w (RetV w (.int .i64 (cmpL a b))) := by
  obtain ⟨ad, cap, rfl⟩ := hv.form
  obtain ⟨ad', cap', rfl⟩ := hu.form
  have H1 := Lib.hid (without_c l h l' h' _ _ a b w ha hb hv hu)
  have H2 := Lib.hid (fun (w' : World) (hq : Bel w w') => without_c l' h' l h _ _ b a w' hb ha (hu.below hq) (hv.below hq))
  have hsx := minus_short (b := b) ha
  have hsy := minus_short (b := a) hb
  have hlx := minus_low (b := b) hla
  have hly := minus_low (b := a) hlb
  have E0 := Lib.hid (fun h1 h2 => cmpL_0 (a := a) (b := b) h1 h2)
  have E1 := Lib.hid (fun h0 h1 => cmpL_1 (a := a) (b := b) h0 h1)
  have Em := Lib.hid (fun h0 h1 h2 => cmpL_m (a := a) (b := b) h0 h1 h2)
  have E2 := Lib.hid (fun h0 h1 h2 => cmpL_2 (a := a) (b := b) h0 h1 h2)
  generalize cmpL a b = z at *
  generalize minus a b = X at *
  generalize minus b a = Y at *
  by_cases hx0 : X.length = 0
  · have d1 : ((X.length : Int) == 0) = true := by simpa using hx0
    by_cases hy0 : Y.length = 0
    · have d2 : ((Y.length : Int) == 0) = true := by simpa using hy0
      have E : Hid (z = 0) := E0.out (List.length_eq_zero_iff.1 hx0) (List.length_eq_zero_iff.1 hy0)
      clear hx0 hy0 E0 E1 Em E2
      go_enter Tryz.func84, Tryz.ntmps84
      go_wp2_with fail
      refine H1.out.mono ?_; rintro e w1 ⟨g1, n1, c1, rfl, hX, hb1⟩
      obtain ⟨_, _, ef⟩ := hX.form
      simp only [Value.slice.injEq] at ef
      obtain ⟨rfl, rfl, rfl⟩ := ef
      go_wp2_with fail
      refine (H2.out _ hb1).mono ?_; rintro e w2 ⟨g2, n2, c2, rfl, hY, hb2⟩
      obtain ⟨_, _, ef⟩ := hY.form
      simp only [Value.slice.injEq] at ef
      obtain ⟨rfl, rfl, rfl⟩ := ef
      have hX2 := (hX.sls hb1).below hb2
      have hY2 := hY.sls hb2
      have hb12 := hb1.step hb2
      go_wp2_with fail
      go_ret
      exact ⟨by rw [E.out]; rfl, hb12⟩
    · have d2 : ((Y.length : Int) == 0) = false := by simp; exact fun h => hy0 (by rw [h]; rfl)
      have h0 : ¬ (X = [] ∧ Y = []) := fun h => hy0 (by rw [h.2]; rfl)
      clear hx0 hy0
      have h0b : ¬ (Y = [] ∧ X = []) := fun h => h0 ⟨h.2, h.1⟩
      cases hd1 : dom X Y with
      | true =>
        have E : Hid (z = 1) := E1.out h0 hd1
        clear E0 E1 Em E2
        go_enter Tryz.func84, Tryz.ntmps84
        go_wp2_with fail
        refine H1.out.mono ?_; rintro e w1 ⟨g1, n1, c1, rfl, hX, hb1⟩
        obtain ⟨_, _, ef⟩ := hX.form
        simp only [Value.slice.injEq] at ef
        obtain ⟨rfl, rfl, rfl⟩ := ef
        go_wp2_with fail
        refine (H2.out _ hb1).mono ?_; rintro e w2 ⟨g2, n2, c2, rfl, hY, hb2⟩
        obtain ⟨_, _, ef⟩ := hY.form
        simp only [Value.slice.injEq] at ef
        obtain ⟨rfl, rfl, rfl⟩ := ef
        have hX2 := (hX.sls hb1).below hb2
        have hY2 := hY.sls hb2
        have hb12 := hb1.step hb2
        go_wp2_with fail
        refine (dominates_v _ _ _ _ _ _ X Y true _ hd1 (hT.bel hb12) hsx hlx hsy hly hX2 hY2).mono ?_; rintro e w3 ⟨rfl, hb3⟩
        have hbs3 := hb12.step hb3
        replace hX2 := hX2.below hb3
        replace hY2 := hY2.below hb3
        go_wp2_with fail
        go_ret
        exact ⟨by rw [E.out]; rfl, hbs3⟩
      | false =>
        cases hd2 : dom Y X with
        | true =>
          have E : Hid (z = -1) := Em.out h0 hd1 hd2
          clear E0 E1 Em E2
          go_enter Tryz.func84, Tryz.ntmps84
          go_wp2_with fail
          refine H1.out.mono ?_; rintro e w1 ⟨g1, n1, c1, rfl, hX, hb1⟩
          obtain ⟨_, _, ef⟩ := hX.form
          simp only [Value.slice.injEq] at ef
          obtain ⟨rfl, rfl, rfl⟩ := ef
          go_wp2_with fail
          refine (H2.out _ hb1).mono ?_; rintro e w2 ⟨g2, n2, c2, rfl, hY, hb2⟩
          obtain ⟨_, _, ef⟩ := hY.form
          simp only [Value.slice.injEq] at ef
          obtain ⟨rfl, rfl, rfl⟩ := ef
          have hX2 := (hX.sls hb1).below hb2
          have hY2 := hY.sls hb2
          have hb12 := hb1.step hb2
          go_wp2_with fail
          refine (dominates_v _ _ _ _ _ _ X Y false _ hd1 (hT.bel hb12) hsx hlx hsy hly hX2 hY2).mono ?_; rintro e w3 ⟨rfl, hb3⟩
          have hbs3 := hb12.step hb3
          replace hX2 := hX2.below hb3
          replace hY2 := hY2.below hb3
          go_wp2_with fail
          refine (dominates_v _ _ _ _ _ _ Y X true _ hd2 (hT.bel hbs3) hsy hly hsx hlx hY2 hX2).mono ?_; rintro e w4 ⟨rfl, hb4⟩
          have hbs4 := hbs3.step hb4
          replace hX2 := hX2.below hb4
          replace hY2 := hY2.below hb4
          go_wp2_with fail
          go_ret
          exact ⟨by rw [E.out]; rfl, hbs4⟩
        | false =>
          have E : Hid (z = 2) := E2.out h0 hd1 hd2
          clear E0 E1 Em E2
          go_enter Tryz.func84, Tryz.ntmps84
          go_wp2_with fail
          refine H1.out.mono ?_; rintro e w1 ⟨g1, n1, c1, rfl, hX, hb1⟩
          obtain ⟨_, _, ef⟩ := hX.form
          simp only [Value.slice.injEq] at ef
          obtain ⟨rfl, rfl, rfl⟩ := ef
          go_wp2_with fail
          refine (H2.out _ hb1).mono ?_; rintro e w2 ⟨g2, n2, c2, rfl, hY, hb2⟩
          obtain ⟨_, _, ef⟩ := hY.form
          simp only [Value.slice.injEq] at ef
          obtain ⟨rfl, rfl, rfl⟩ := ef
          have hX2 := (hX.sls hb1).below hb2
          have hY2 := hY.sls hb2
          have hb12 := hb1.step hb2
          go_wp2_with fail
          refine (dominates_v _ _ _ _ _ _ X Y false _ hd1 (hT.bel hb12) hsx hlx hsy hly hX2 hY2).mono ?_; rintro e w3 ⟨rfl, hb3⟩
          have hbs3 := hb12.step hb3
          replace hX2 := hX2.below hb3
          replace hY2 := hY2.below hb3
          go_wp2_with fail
          refine (dominates_v _ _ _ _ _ _ Y X false _ hd2 (hT.bel hbs3) hsy hly hsx hlx hY2 hX2).mono ?_; rintro e w4 ⟨rfl, hb4⟩
          have hbs4 := hbs3.step hb4
          replace hX2 := hX2.below hb4
          replace hY2 := hY2.below hb4
          go_wp2_with fail
          go_ret
          exact ⟨by rw [E.out]; rfl, hbs4⟩
  · have d1 : ((X.length : Int) == 0) = false := by simp; exact fun h => hx0 (by rw [h]; rfl)
    have h0 : ¬ (X = [] ∧ Y = []) := fun h => hx0 (by rw [h.1]; rfl)
    clear hx0
    have h0b : ¬ (Y = [] ∧ X = []) := fun h => h0 ⟨h.2, h.1⟩
    cases hd1 : dom X Y with
    | true =>
      have E : Hid (z = 1) := E1.out h0 hd1
      clear E0 E1 Em E2
      go_enter Tryz.func84, Tryz.ntmps84
      go_wp2_with fail
      refine H1.out.mono ?_; rintro e w1 ⟨g1, n1, c1, rfl, hX, hb1⟩
      obtain ⟨_, _, ef⟩ := hX.form
      simp only [Value.slice.injEq] at ef
      obtain ⟨rfl, rfl, rfl⟩ := ef
      go_wp2_with fail
      refine (H2.out _ hb1).mono ?_; rintro e w2 ⟨g2, n2, c2, rfl, hY, hb2⟩
      obtain ⟨_, _, ef⟩ := hY.form
      simp only [Value.slice.injEq] at ef
      obtain ⟨rfl, rfl, rfl⟩ := ef
      have hX2 := (hX.sls hb1).below hb2
      have hY2 := hY.sls hb2
      have hb12 := hb1.step hb2
      go_wp2_with fail
      refine (dominates_v _ _ _ _ _ _ X Y true _ hd1 (hT.bel hb12) hsx hlx hsy hly hX2 hY2).mono ?_; rintro e w3 ⟨rfl, hb3⟩
      have hbs3 := hb12.step hb3
      replace hX2 := hX2.below hb3
      replace hY2 := hY2.below hb3
      go_wp2_with fail
      go_ret
      exact ⟨by rw [E.out]; rfl, hbs3⟩
    | false =>
      cases hd2 : dom Y X with
      | true =>
        have E : Hid (z = -1) := Em.out h0 hd1 hd2
        clear E0 E1 Em E2
        go_enter Tryz.func84, Tryz.ntmps84
        go_wp2_with fail
        refine H1.out.mono ?_; rintro e w1 ⟨g1, n1, c1, rfl, hX, hb1⟩
        obtain ⟨_, _, ef⟩ := hX.form
        simp only [Value.slice.injEq] at ef
        obtain ⟨rfl, rfl, rfl⟩ := ef
        go_wp2_with fail
        refine (H2.out _ hb1).mono ?_; rintro e w2 ⟨g2, n2, c2, rfl, hY, hb2⟩
        obtain ⟨_, _, ef⟩ := hY.form
        simp only [Value.slice.injEq] at ef
        obtain ⟨rfl, rfl, rfl⟩ := ef
        have hX2 := (hX.sls hb1).below hb2
        have hY2 := hY.sls hb2
        have hb12 := hb1.step hb2
        go_wp2_with fail
        refine (dominates_v _ _ _ _ _ _ X Y false _ hd1 (hT.bel hb12) hsx hlx hsy hly hX2 hY2).mono ?_; rintro e w3 ⟨rfl, hb3⟩
        have hbs3 := hb12.step hb3
        replace hX2 := hX2.below hb3
        replace hY2 := hY2.below hb3
        go_wp2_with fail
        refine (dominates_v _ _ _ _ _ _ Y X true _ hd2 (hT.bel hbs3) hsy hly hsx hlx hY2 hX2).mono ?_; rintro e w4 ⟨rfl, hb4⟩
        have hbs4 := hbs3.step hb4
        replace hX2 := hX2.below hb4
        replace hY2 := hY2.below hb4
        go_wp2_with fail
        go_ret
        exact ⟨by rw [E.out]; rfl, hbs4⟩
      | false =>
        have E : Hid (z = 2) := E2.out h0 hd1 hd2
        clear E0 E1 Em E2
        go_enter Tryz.func84, Tryz.ntmps84
        go_wp2_with fail
        refine H1.out.mono ?_; rintro e w1 ⟨g1, n1, c1, rfl, hX, hb1⟩
        obtain ⟨_, _, ef⟩ := hX.form
        simp only [Value.slice.injEq] at ef
        obtain ⟨rfl, rfl, rfl⟩ := ef
        go_wp2_with fail
        refine (H2.out _ hb1).mono ?_; rintro e w2 ⟨g2, n2, c2, rfl, hY, hb2⟩
        obtain ⟨_, _, ef⟩ := hY.form
        simp only [Value.slice.injEq] at ef
        obtain ⟨rfl, rfl, rfl⟩ := ef
        have hX2 := (hX.sls hb1).below hb2
        have hY2 := hY.sls hb2
        have hb12 := hb1.step hb2
        go_wp2_with fail
        refine (dominates_v _ _ _ _ _ _ X Y false _ hd1 (hT.bel hb12) hsx hlx hsy hly hX2 hY2).mono ?_; rintro e w3 ⟨rfl, hb3⟩
        have hbs3 := hb12.step hb3
        replace hX2 := hX2.below hb3
        replace hY2 := hY2.below hb3
        go_wp2_with fail
        refine (dominates_v _ _ _ _ _ _ Y X false _ hd2 (hT.bel hbs3) hsy hly hsx hlx hY2 hX2).mono ?_; rintro e w4 ⟨rfl, hb4⟩
        have hbs4 := hbs3.step hb4
        replace hX2 := hX2.below hb4
        replace hY2 := hY2.below hb4
        go_wp2_with fail
        go_ret
        exact ⟨by rw [E.out]; rfl, hbs4⟩

end Go.Proofs.YteegjnobmbcjiaaGreatDoor
end
section
/- CompareLists, IsFalling: the reference's. -/
namespace Go.Proofs.YteegjnobmbcjiaaGreatDoor
open Go.RowKit

theorem goodTermsS_low {ar : List Int} {b : List (List Int)} {m : Nat} (h : goodTerms ar b m = true) : lowL b := fun j hj => okTerm_low (goodTerms_get h j hj)
theorem OwnT.rowV {W wr : World} {tag : Nat → Nat} {t : Nat} {v : Value} {zs : List SV} {xss : List (List Int)} (h : OwnT W.heap.size tag t 22 wr v (zs.map encS)) (he : Els W zs xss) : RowV W wr v xss :=
  ⟨zs, by simpa using h.1, he⟩
theorem short_erase {l : List (List Int)} {i : Nat} (h : short l) (hi : i < l.length) : short (l.eraseIdx i) := by
  refine ⟨by rw [List.length_eraseIdx_of_lt hi]; have := h.1; omega, fun j hj => ?_⟩
  rw [List.length_eraseIdx_of_lt hi] at hj
  by_cases e : j < i
  · rw [show (l.eraseIdx i).getD j [] = l.getD j [] from by simp [List.getD, List.getElem?_eraseIdx, e]]; exact h.2 j (by omega)
  · rw [show (l.eraseIdx i).getD j [] = l.getD (j+1) [] from by simp [List.getD, List.getElem?_eraseIdx, e]]; exact h.2 (j+1) (by omega)
theorem RowV.capn {W wr : World} {ad : Option Addr} {n c : Nat} {xss : List (List Int)} (h : RowV W wr (.slice ad n c) xss) (hb : Bel W wr) : n = xss.length ∧ n ≤ c ∧ c ≤ 9223372036854775807 := by
  obtain ⟨ad', c', e, h1, h2, -⟩ := h.sls hb
  simp only [Value.slice.injEq] at e
  obtain ⟨rfl, rfl, rfl⟩ := e
  exact ⟨rfl, h1, h2.1⟩
/-- The cells of a row, from the k-th on. -/
theorem row_cells {W wr : World} {g n c : Nat} {zs : List SV} (h : wr.ownsRow W.heap.size 22 1 (.slice (some ⟨g, 0, none⟩) n c) zs.length (zs.map encS)) (k : Nat) :
    ∀ j u, ((zs.drop k).map encS)[j]? = some u → wr.cell? ((⟨g, k, none⟩ : Addr).add j) = some u := by
  intro j u hj
  have hlt := (List.getElem?_eq_some_iff.1 hj).1
  simp at hlt
  obtain rfl := row_len h
  rw [addr_add, h.cellAt (k + j) (by omega)]
  rw [List.getElem?_map, List.getElem?_drop] at hj
  rw [List.getElem?_map]; exact hj
theorem row_cells0 {W wr : World} {g n c : Nat} {zs : List SV} (h : wr.ownsRow W.heap.size 22 1 (.slice (some ⟨g, 0, none⟩) n c) zs.length (zs.map encS)) (i : Nat) :
    ∀ j u, ((zs.take i).map encS)[j]? = some u → wr.cell? ((⟨g, 0, none⟩ : Addr).add j) = some u := by
  intro j u hj
  refine row_cells h 0 j u ?_
  rw [List.drop_zero]
  rw [List.getElem?_map, List.getElem?_take] at hj
  rw [List.getElem?_map]
  split at hj
  · exact hj
  · simp at hj
/-- The reference's search from the front: none, or the last found. -/
def lastAt (left : List (List Int)) (t : List Int) (j : Nat) (av : Value) : Prop := (av = .int .i64 (-1) ∧ t ∉ left.take j) ∨ ∃ i : Nat, i < j ∧ av = .int .i64 i ∧ left.getD i [] = t
theorem lastAt.no {left : List (List Int)} {t : List Int} {j : Nat} {av : Value} (h : lastAt left t j av) (hj : j < left.length) (he : left.getD j [] ≠ t) : lastAt left t (j+1) av := by
  rcases h with ⟨h1, h2⟩ | ⟨i, h1, h2, h3⟩
  · exact .inl ⟨h1, not_take hj h2 he⟩
  · exact .inr ⟨i, by omega, h2, h3⟩
theorem lastAt.yes {left : List (List Int)} {t : List Int} {j : Nat} (he : left.getD j [] = t) : lastAt left t (j+1) (.int .i64 (j : Int)) := .inr ⟨j, by omega, rfl, he⟩
theorem lastAt.done {left : List (List Int)} {t : List Int} {j : Nat} {av : Value} (h : lastAt left t j av) (hj : ¬ j < left.length) (hj2 : j ≤ left.length) : (av = .int .i64 (-1) ∧ t ∉ left) ∨ ∃ i : Nat, i < left.length ∧ av = .int .i64 i ∧ left.getD i [] = t := by
  obtain rfl : j = left.length := by omega
  rcases h with ⟨h1, h2⟩ | h
  · rw [List.take_length] at h2; exact .inl ⟨h1, h2⟩
  · exact .inr h

set_option maxRecDepth 100000 in
set_option maxHeartbeats 1000000 in
theorem l3Left_c (l h l' h' : Nat) (v u : Value) (a b : List (List Int)) (w : World) (ha : short a) (hb : short b) (hv : SlS l h w v a) (hu : SlS l' h' w u b) :
    Calls Tryz.prog 91 #[v, u] w (RetRow w (minus a b)) := by
  obtain ⟨i1, hi1, hy0, hy1, hy2⟩ := info_parts Tryz.info22
  obtain ⟨av, cv, rfl⟩ := hv.form
  obtain ⟨hal, ham⟩ := ha
  have hbl := hb.1
  have hown : (w.alloc (.cells #[] 22)).ownsRow w.heap.size 22 1 (.slice (some ⟨w.heap.size, 0, none⟩) 0 0) ([] : List SV).length (([] : List SV).map encS) :=
    World.ownsRow_lit w #[] 0 (Nat.le_refl _) (Nat.zero_le _) rfl
  obtain ⟨ub, uc, rfl⟩ := hu.form
  have hu0 := hu
  obtain ⟨zb, hEb, hcell⟩ := hu.vals
  cases ub with
  | none =>
    obtain ⟨ad', cap', e, -, hm, hr⟩ := hu0
    simp only [Value.slice.injEq] at e
    obtain ⟨rfl, -, rfl⟩ := e
    obtain rfl : b = [] := by
      rcases Nat.eq_zero_or_pos b.length with h0 | h0
      · exact List.length_eq_zero_iff.1 h0
      · obtain ⟨_, _, e, _⟩ := hr h0; simp at e
    obtain rfl : uc = 0 := hm.2 rfl
    obtain rfl : zb = [] := List.length_eq_zero_iff.1 hEb.1
    clear hr hm hcell hu
    go_enter Tryz.func91, Tryz.ntmps91
    go_wp2_with (at_builtin; refine wpList_append_own_none rfl _ _ 56 rfl w.heap.size 22 i1 1 Tryz.underlying56 hi1 _ _ _ rfl hown rfl ?_)
    go_wp2_with fail
    have hb1 := Bel.alloc0 w (.cells #[] 22)
    have hL : OwnT w.heap.size (fun _ => 0) 0 22 (w.alloc (.cells #[] 22)) (.slice (some ⟨w.heap.size, 0, none⟩) 0 0) (([] : List SV).map encS) := ⟨hown, fun _ _ => rfl⟩
    go_loopw [5, 6, 18] (fun lv ov i wr => ∃ (k : Nat) (tag : Nat → Nat) (zl zo : List SV) (left out : List (List Int)), k ≤ a.length ∧ i = .int .i64 k ∧ OwnT w.heap.size tag 0 22 wr lv (zl.map encS) ∧ Els w zl left ∧ OwnT w.heap.size tag 1 22 wr ov (zo.map encS) ∧ Els w zo out ∧ minus a [] = out ++ minus (a.drop k) left ∧ short left ∧ out.length ≤ k ∧ Bel w wr) (fun _ _ i _ => a.length - (intOf i).toNat)
    case atStart => exact ⟨0, _, [], [], [], [], Nat.zero_le _, rfl, hL, (Els.nil w), OwnT.nil _ _ _ _ _, Els.nil _, by simp, hb, Nat.zero_le _, hb1⟩
    case round =>
      clear hL hb1
      obtain ⟨k, tag, zl, zo, left, out, hk, rfl, hL, hEl, hO, hEo, hmin, hsl, hol, hb1⟩ := hrel
      by_cases hlt : k < a.length
      · obtain ⟨bb, off, p, rfl, hbb, hc0, hp⟩ := hv.at (Bel.rfl' w) k hlt
        have hc := hb1.at hbb hc0
        have htl := ham k hlt
        have HLO := Lib.hid (And.intro (fun i hi he => left_in (i := i) hmin hlt hi he) (fun hn => left_out hmin hlt hn))
        clear hv ham hmin hc0
        generalize a.getD k [] = t at *
        obtain ⟨ap, cp, rfl⟩ := hp.form
        have hpW := hp.in'
        clear hp
        obtain ⟨ag, an, ac, rfl⟩ := own_form hL.1
        obtain ⟨hn1, hn2, hn3⟩ := (hL.rowV hEl).capn hb1
        subst hn1
        have hln := hsl.1
        have HV := Lib.hid (hL.rowV hEl)
        have HSL := Lib.hid hsl
        clear hsl
        have HE := Lib.hid (fun (w' : World) (hq : Bel wr w') (y : List Int) (q : Bool) (l2 h2 : Nat) (yv : Value) (he : decide (t = y) = q) (hyl : y.length ≤ 1048576) (hy : SlI l2 h2 w' yv y) => l1Same_v _ _ _ _ _ _ t y q w' he htl hyl ((hpW.below hb1).below hq) hy)
        obtain ⟨wo, rfl⟩ : ∃ wo, wo = wr := ⟨wr, rfl⟩
        go_wp2_with fail
        go_loopw [9, 24] (fun av i wr => ∃ j : Nat, j ≤ left.length ∧ i = .int .i64 j ∧ lastAt left t j av ∧ Bel wo wr) (fun _ i _ => left.length - (intOf i).toNat)
        case atStart => exact ⟨0, Nat.zero_le _, rfl, .inl ⟨rfl, by simp⟩, Bel.rfl' _⟩
        case round =>
          obtain ⟨j, hj, rfl, hla, hb2⟩ := hrel
          by_cases hjl : j < left.length
          · obtain ⟨gx, az, cz, rfl, hgx, hcell, hz⟩ := (HV.out.bel hb2).at2 j hjl
            have hzl := HSL.out.2 j hjl
            have hz2 := hz.below (hb1.step hb2)
            have HN := Lib.hid (And.intro (fun h => hla.no hjl h) (fun h => lastAt.yes (j := j) (left := left) (t := t) h))
            clear hla hz
            generalize left.getD j [] = y at *
            by_cases he : y = t
            · have HF := Lib.hid (HE.out wr hb2 y true _ _ _ (by simpa using he.symm) hzl hz2)
              have E := Lib.hid (HN.out.2 he)
              clear HN he hz2
              go_wp2_with fail
              refine HF.out.mono ?_; rintro e w3 ⟨rfl, hb3⟩
              go_wp2_with fail
              go_roundw
              case rel => exact ⟨j+1, by omega, by go_num, E.out, hb2.step hb3⟩
              case measure => simp [intOf]; omega
            · have HF := Lib.hid (HE.out wr hb2 y false _ _ _ (by simpa using fun h => he h.symm) hzl hz2)
              have E := Lib.hid (HN.out.1 he)
              clear HN he hz2
              go_wp2_with fail
              refine HF.out.mono ?_; rintro e w3 ⟨rfl, hb3⟩
              go_wp2_with fail
              go_roundw
              case rel => exact ⟨j+1, by omega, by go_num, E.out, hb2.step hb3⟩
              case measure => simp [intOf]; omega
          · have hbn := hb1.step hb2
            replace hL := hL.bel hb2
            replace hO := hO.bel hb2
            rcases hla.done hjl hj with ⟨rfl, hnot⟩ | ⟨i, hi, rfl, hit⟩
            · have E := Lib.hid (HLO.out.2 hnot)
              have hzo := hEo.1
              clear hnot hla HE HV
              go_wp2_with (at_builtin; refine wpList_append_own_at _ rfl _ _ 56 rfl w.heap.size 22 i1 (.slice none 0 0) 1 24 Tryz.underlying56 hi1 hy0 hy1 hy2 rfl (by decide) _ _ _ rfl (hO.alloc _).1 _ _ _ [.slice ap t.length cp] rfl rfl (news_oneV _ _ _) (one_slice _ _ _) (by unfold maxLen; simp <;> omega) (by simp <;> omega) (by have := hbn.size; simp; omega) ?_; intro v' w4 hown' hgrow _ hat)
              obtain ⟨tag3, hO3, hT3⟩ := tag_snocV (hO.alloc _) hown' hgrow hat
              have hL3 := hT3 _ _ _ _ (by omega) (hL.alloc _)
              have hb3 := hbn.grownT hO (Nat.le_refl _) hgrow
              go_roundw
              case rel => exact ⟨k+1, tag3, zl, zo ++ [(ap, t.length, cp)], left, out ++ [t], by omega, by go_num, hL3, hEl, by simpa [encS] using hO3, hEo.snoc hpW, E.out, HSL.out, by simp; omega, hb3⟩
              case measure => simp [intOf]; omega
            · obtain ⟨gx, az, cz, rfl, hgx, hcell, hz⟩ := (HV.out.bel hb2).at2 i hi
              have E := Lib.hid (HLO.out.1 i hi hit)
              have hzl := hEl.1
              have hE2 := hEl.erase i hi
              have HS2 := Lib.hid (short_erase HSL.out hi)
              have hown0 : (wr.alloc (.cells #[] 22)).ownsRow wr.heap.size 22 1 (.slice (some ⟨wr.heap.size, 0, none⟩) 0 0) ([] : List SV).length (([] : List SV).map encS) :=
                World.ownsRow_lit wr #[] 0 (Nat.le_refl _) (Nat.zero_le _) rfl
              have hLr : wr.ownsRow w.heap.size 22 1 (.slice (some ⟨gx, 0, none⟩) left.length ac) zl.length (zl.map encS) := by simpa using hL.1
              have hb0 := Bel.alloc0 wr (.cells #[] 22)
              have hn0 := row_cells0 (ownsRow_bel hLr hb0) i
              have hi1' : (i : Int) ≤ ac := by omega
              have hi0' : (0 : Int) ≤ i := by omega
              have hi2' : (i : Int) + 1 ≤ left.length := by omega
              have hi3' : (left.length : Int) ≤ ac := by omega
              have hi4' : (0 : Int) ≤ (i : Int) + 1 := by omega
              have hw9 := IntWalk.i64_in ((i : Int) + 1) (by omega)
              have hti : (zl.take i).length = i := by rw [List.length_take]; omega
              have hne : decide ((i : Int) < 0) = false := by simp
              have hey : zl.eraseIdx i = zl.take i ++ zl.drop (i+1) := List.eraseIdx_eq_take_drop_succ ..
              clear hla hcell hz hit HE HV
              by_cases hcap : i + 1 = ac
              · have hl1 : left.length = i + 1 := by omega
                have hzd : zl.drop (i+1) = [] := List.drop_eq_nil_of_le (by omega)
                have hcap' : (i : Int) + 1 = ac := by omega
                go_wp2_with (first | (at_builtin; refine wpList_append_own_at _ rfl (.tmp 45) (.tmp 49) 56 rfl wr.heap.size 22 i1 (.slice none 0 0) 1 24 Tryz.underlying56 hi1 hy0 hy1 hy2 rfl (by decide) _ _ _ rfl hown5 ⟨gx, 0, none⟩ _ _ [] rfl (by simp <;> omega) (by simp) (by simp) (by unfold maxLen; omega) (by omega) hb4.size ?_; intro v6 w6 hown6 hgrow6 _ hat6) | (at_builtin; refine wpList_append_own_at _ rfl (.tmp 40) (.tmp 43) 56 rfl wr.heap.size 22 i1 (.slice none 0 0) 1 24 Tryz.underlying56 hi1 hy0 hy1 hy2 rfl (by decide) _ _ _ rfl hown0 ⟨gx, 0, none⟩ i ac ((zl.take i).map encS) rfl (by rw [List.length_map, hti, Nat.mul_one]) hn0 (encS_one _) (by rw [List.length_nil]; unfold maxLen; omega) (by rw [List.length_nil]; omega) hb0.size ?_; intro v4 w4 hown4 hgrow4 _ hat4; have hb4 := hb0.grown hgrow4 (fun k hk => own_base hown0 k hk); have hown5 : w4.ownsRow wr.heap.size 22 1 v4 i ((zl.take i).map encS) := (by simpa using hown4); have hn4 := row_cells (ownsRow_bel hLr hb4) (i + 1)))
                clear hown4 hgrow4 hat4 hn0 hLr
                have hb6 := hb4.grown hgrow6 (fun k hk => own_base hown5 k hk)
                have hown7 : w6.ownsRow wr.heap.size 22 1 v6 ((zl.eraseIdx i).map encS).length ((zl.eraseIdx i).map encS) := by
                  rw [hey, hzd, List.append_nil, List.length_map, hti]; simpa using hown6
                obtain ⟨tag6, hL6, hT6⟩ := tag_new (tag := tag) 0 hown7 hb6 hbn.size
                have hO6 := hT6 _ _ _ _ hO
                go_roundw
                case rel => exact ⟨k+1, tag6, zl.eraseIdx i, zo, left.eraseIdx i, out, by omega, by go_num, hL6, hE2, hO6, hEo, E.out, HS2.out, by omega, hbn.step hb6⟩
                case measure => simp [intOf]; omega
              · have hcap' : (i : Int) + 1 < ac := by omega
                have hdl : (zl.drop (i+1)).length = left.length - (i+1) := by rw [List.length_drop, hzl]
                go_wp2_with (first | (at_builtin; refine wpList_append_own_at _ rfl (.tmp 45) (.tmp 49) 56 rfl wr.heap.size 22 i1 (.slice none 0 0) 1 24 Tryz.underlying56 hi1 hy0 hy1 hy2 rfl (by decide) _ _ _ rfl hown5 ⟨gx, i + 1, none⟩ _ _ ((zl.drop (i+1)).map encS) rfl (by simp <;> omega) hn4 (encS_one _) (by unfold maxLen; omega) (by omega) hb4.size ?_; intro v6 w6 hown6 hgrow6 _ hat6) | (at_builtin; refine wpList_append_own_at _ rfl (.tmp 40) (.tmp 43) 56 rfl wr.heap.size 22 i1 (.slice none 0 0) 1 24 Tryz.underlying56 hi1 hy0 hy1 hy2 rfl (by decide) _ _ _ rfl hown0 ⟨gx, 0, none⟩ i ac ((zl.take i).map encS) rfl (by rw [List.length_map, hti, Nat.mul_one]) hn0 (encS_one _) (by rw [List.length_nil]; unfold maxLen; omega) (by rw [List.length_nil]; omega) hb0.size ?_; intro v4 w4 hown4 hgrow4 _ hat4; have hb4 := hb0.grown hgrow4 (fun k hk => own_base hown0 k hk); have hown5 : w4.ownsRow wr.heap.size 22 1 v4 i ((zl.take i).map encS) := (by simpa using hown4); have hn4 := row_cells (ownsRow_bel hLr hb4) (i + 1)))
                clear hown4 hgrow4 hat4 hn0 hLr
                have hb6 := hb4.grown hgrow6 (fun k hk => own_base hown5 k hk)
                have hown7 : w6.ownsRow wr.heap.size 22 1 v6 ((zl.eraseIdx i).map encS).length ((zl.eraseIdx i).map encS) := by
                  rw [hey, List.length_map, List.length_append, hti, hdl]; simpa using hown6
                obtain ⟨tag6, hL6, hT6⟩ := tag_new (tag := tag) 0 hown7 hb6 hbn.size
                have hO6 := hT6 _ _ _ _ hO
                go_roundw
                case rel => exact ⟨k+1, tag6, zl.eraseIdx i, zo, left.eraseIdx i, out, by omega, by go_num, hL6, hE2, hO6, hEo, E.out, HS2.out, by omega, hbn.step hb6⟩
                case measure => simp [intOf]; omega
      · have E := Lib.hid (left_end hmin hlt)
        clear hmin
        obtain ⟨ao, no, co, rfl⟩ := own_form hO.1
        go_wp2_with fail
        go_ret
        exact ⟨_, _, _, rfl, by rw [E.out]; exact hO.rowV hEo, hb1⟩
  | some ad =>
    have hn : ∀ j u, (zb.map encS)[j]? = some u → (w.alloc (.cells #[] 22)).cell? (ad.add j) = some u := fun j u hj => by
      have h1 := hcell ad rfl j u hj
      have h2 := World.block_lt_of_cell? w (ad.add j) h1
      exact ((Bel.alloc0 w (.cells #[] 22)).cell h2).trans h1
    have hzl := hEb.1
    clear hcell hu hu0
    go_enter Tryz.func91, Tryz.ntmps91
    go_wp2_with (at_builtin; refine wpList_append_own _ rfl _ _ 56 rfl w.heap.size 22 i1 (.slice none 0 0) 1 24 Tryz.underlying56 hi1 hy0 hy1 hy2 rfl (by decide) _ _ _ rfl hown ad b.length uc (zb.map encS) rfl (by simp [hzl]) hn (encS_one _) (by unfold maxLen; simp; omega) (by simp; omega) (by simp) ?_; intro v' w1 hown' hgrow _)
    have hb1 := (Bel.alloc0 w (.cells #[] 22)).grown hgrow (fun k hk => own_base hown k hk)
    have hL : OwnT w.heap.size (fun _ => 0) 0 22 w1 v' (zb.map encS) := ⟨by simpa [hzl] using hown', fun _ _ => rfl⟩
    go_wp2_with fail
    go_loopw [5, 6, 18] (fun lv ov i wr => ∃ (k : Nat) (tag : Nat → Nat) (zl zo : List SV) (left out : List (List Int)), k ≤ a.length ∧ i = .int .i64 k ∧ OwnT w.heap.size tag 0 22 wr lv (zl.map encS) ∧ Els w zl left ∧ OwnT w.heap.size tag 1 22 wr ov (zo.map encS) ∧ Els w zo out ∧ minus a b = out ++ minus (a.drop k) left ∧ short left ∧ out.length ≤ k ∧ Bel w wr) (fun _ _ i _ => a.length - (intOf i).toNat)
    case atStart => exact ⟨0, _, zb, [], b, [], Nat.zero_le _, rfl, hL, hEb, OwnT.nil _ _ _ _ _, Els.nil _, by simp, hb, Nat.zero_le _, hb1⟩
    case round =>
      clear hL hEb hb1
      obtain ⟨k, tag, zl, zo, left, out, hk, rfl, hL, hEl, hO, hEo, hmin, hsl, hol, hb1⟩ := hrel
      by_cases hlt : k < a.length
      · obtain ⟨bb, off, p, rfl, hbb, hc0, hp⟩ := hv.at (Bel.rfl' w) k hlt
        have hc := hb1.at hbb hc0
        have htl := ham k hlt
        have HLO := Lib.hid (And.intro (fun i hi he => left_in (i := i) hmin hlt hi he) (fun hn => left_out hmin hlt hn))
        clear hv ham hmin hc0
        generalize a.getD k [] = t at *
        obtain ⟨ap, cp, rfl⟩ := hp.form
        have hpW := hp.in'
        clear hp
        obtain ⟨ag, an, ac, rfl⟩ := own_form hL.1
        obtain ⟨hn1, hn2, hn3⟩ := (hL.rowV hEl).capn hb1
        subst hn1
        have hln := hsl.1
        have HV := Lib.hid (hL.rowV hEl)
        have HSL := Lib.hid hsl
        clear hsl
        have HE := Lib.hid (fun (w' : World) (hq : Bel wr w') (y : List Int) (q : Bool) (l2 h2 : Nat) (yv : Value) (he : decide (t = y) = q) (hyl : y.length ≤ 1048576) (hy : SlI l2 h2 w' yv y) => l1Same_v _ _ _ _ _ _ t y q w' he htl hyl ((hpW.below hb1).below hq) hy)
        obtain ⟨wo, rfl⟩ : ∃ wo, wo = wr := ⟨wr, rfl⟩
        go_wp2_with fail
        go_loopw [9, 24] (fun av i wr => ∃ j : Nat, j ≤ left.length ∧ i = .int .i64 j ∧ lastAt left t j av ∧ Bel wo wr) (fun _ i _ => left.length - (intOf i).toNat)
        case atStart => exact ⟨0, Nat.zero_le _, rfl, .inl ⟨rfl, by simp⟩, Bel.rfl' _⟩
        case round =>
          obtain ⟨j, hj, rfl, hla, hb2⟩ := hrel
          by_cases hjl : j < left.length
          · obtain ⟨gx, az, cz, rfl, hgx, hcell, hz⟩ := (HV.out.bel hb2).at2 j hjl
            have hzl := HSL.out.2 j hjl
            have hz2 := hz.below (hb1.step hb2)
            have HN := Lib.hid (And.intro (fun h => hla.no hjl h) (fun h => lastAt.yes (j := j) (left := left) (t := t) h))
            clear hla hz
            generalize left.getD j [] = y at *
            by_cases he : y = t
            · have HF := Lib.hid (HE.out wr hb2 y true _ _ _ (by simpa using he.symm) hzl hz2)
              have E := Lib.hid (HN.out.2 he)
              clear HN he hz2
              go_wp2_with fail
              refine HF.out.mono ?_; rintro e w3 ⟨rfl, hb3⟩
              go_wp2_with fail
              go_roundw
              case rel => exact ⟨j+1, by omega, by go_num, E.out, hb2.step hb3⟩
              case measure => simp [intOf]; omega
            · have HF := Lib.hid (HE.out wr hb2 y false _ _ _ (by simpa using fun h => he h.symm) hzl hz2)
              have E := Lib.hid (HN.out.1 he)
              clear HN he hz2
              go_wp2_with fail
              refine HF.out.mono ?_; rintro e w3 ⟨rfl, hb3⟩
              go_wp2_with fail
              go_roundw
              case rel => exact ⟨j+1, by omega, by go_num, E.out, hb2.step hb3⟩
              case measure => simp [intOf]; omega
          · have hbn := hb1.step hb2
            replace hL := hL.bel hb2
            replace hO := hO.bel hb2
            rcases hla.done hjl hj with ⟨rfl, hnot⟩ | ⟨i, hi, rfl, hit⟩
            · have E := Lib.hid (HLO.out.2 hnot)
              have hzo := hEo.1
              clear hnot hla HE HV
              go_wp2_with (at_builtin; refine wpList_append_own_at _ rfl _ _ 56 rfl w.heap.size 22 i1 (.slice none 0 0) 1 24 Tryz.underlying56 hi1 hy0 hy1 hy2 rfl (by decide) _ _ _ rfl (hO.alloc _).1 _ _ _ [.slice ap t.length cp] rfl rfl (news_oneV _ _ _) (one_slice _ _ _) (by unfold maxLen; simp <;> omega) (by simp <;> omega) (by have := hbn.size; simp; omega) ?_; intro v' w4 hown' hgrow _ hat)
              obtain ⟨tag3, hO3, hT3⟩ := tag_snocV (hO.alloc _) hown' hgrow hat
              have hL3 := hT3 _ _ _ _ (by omega) (hL.alloc _)
              have hb3 := hbn.grownT hO (Nat.le_refl _) hgrow
              go_roundw
              case rel => exact ⟨k+1, tag3, zl, zo ++ [(ap, t.length, cp)], left, out ++ [t], by omega, by go_num, hL3, hEl, by simpa [encS] using hO3, hEo.snoc hpW, E.out, HSL.out, by simp; omega, hb3⟩
              case measure => simp [intOf]; omega
            · obtain ⟨gx, az, cz, rfl, hgx, hcell, hz⟩ := (HV.out.bel hb2).at2 i hi
              have E := Lib.hid (HLO.out.1 i hi hit)
              have hzl := hEl.1
              have hE2 := hEl.erase i hi
              have HS2 := Lib.hid (short_erase HSL.out hi)
              have hown0 : (wr.alloc (.cells #[] 22)).ownsRow wr.heap.size 22 1 (.slice (some ⟨wr.heap.size, 0, none⟩) 0 0) ([] : List SV).length (([] : List SV).map encS) :=
                World.ownsRow_lit wr #[] 0 (Nat.le_refl _) (Nat.zero_le _) rfl
              have hLr : wr.ownsRow w.heap.size 22 1 (.slice (some ⟨gx, 0, none⟩) left.length ac) zl.length (zl.map encS) := by simpa using hL.1
              have hb0 := Bel.alloc0 wr (.cells #[] 22)
              have hn0 := row_cells0 (ownsRow_bel hLr hb0) i
              have hi1' : (i : Int) ≤ ac := by omega
              have hi0' : (0 : Int) ≤ i := by omega
              have hi2' : (i : Int) + 1 ≤ left.length := by omega
              have hi3' : (left.length : Int) ≤ ac := by omega
              have hi4' : (0 : Int) ≤ (i : Int) + 1 := by omega
              have hw9 := IntWalk.i64_in ((i : Int) + 1) (by omega)
              have hti : (zl.take i).length = i := by rw [List.length_take]; omega
              have hne : decide ((i : Int) < 0) = false := by simp
              have hey : zl.eraseIdx i = zl.take i ++ zl.drop (i+1) := List.eraseIdx_eq_take_drop_succ ..
              clear hla hcell hz hit HE HV
              by_cases hcap : i + 1 = ac
              · have hl1 : left.length = i + 1 := by omega
                have hzd : zl.drop (i+1) = [] := List.drop_eq_nil_of_le (by omega)
                have hcap' : (i : Int) + 1 = ac := by omega
                go_wp2_with (first | (at_builtin; refine wpList_append_own_at _ rfl (.tmp 45) (.tmp 49) 56 rfl wr.heap.size 22 i1 (.slice none 0 0) 1 24 Tryz.underlying56 hi1 hy0 hy1 hy2 rfl (by decide) _ _ _ rfl hown5 ⟨gx, 0, none⟩ _ _ [] rfl (by simp <;> omega) (by simp) (by simp) (by unfold maxLen; omega) (by omega) hb4.size ?_; intro v6 w6 hown6 hgrow6 _ hat6) | (at_builtin; refine wpList_append_own_at _ rfl (.tmp 40) (.tmp 43) 56 rfl wr.heap.size 22 i1 (.slice none 0 0) 1 24 Tryz.underlying56 hi1 hy0 hy1 hy2 rfl (by decide) _ _ _ rfl hown0 ⟨gx, 0, none⟩ i ac ((zl.take i).map encS) rfl (by rw [List.length_map, hti, Nat.mul_one]) hn0 (encS_one _) (by rw [List.length_nil]; unfold maxLen; omega) (by rw [List.length_nil]; omega) hb0.size ?_; intro v4 w4 hown4 hgrow4 _ hat4; have hb4 := hb0.grown hgrow4 (fun k hk => own_base hown0 k hk); have hown5 : w4.ownsRow wr.heap.size 22 1 v4 i ((zl.take i).map encS) := (by simpa using hown4); have hn4 := row_cells (ownsRow_bel hLr hb4) (i + 1)))
                clear hown4 hgrow4 hat4 hn0 hLr
                have hb6 := hb4.grown hgrow6 (fun k hk => own_base hown5 k hk)
                have hown7 : w6.ownsRow wr.heap.size 22 1 v6 ((zl.eraseIdx i).map encS).length ((zl.eraseIdx i).map encS) := by
                  rw [hey, hzd, List.append_nil, List.length_map, hti]; simpa using hown6
                obtain ⟨tag6, hL6, hT6⟩ := tag_new (tag := tag) 0 hown7 hb6 hbn.size
                have hO6 := hT6 _ _ _ _ hO
                go_roundw
                case rel => exact ⟨k+1, tag6, zl.eraseIdx i, zo, left.eraseIdx i, out, by omega, by go_num, hL6, hE2, hO6, hEo, E.out, HS2.out, by omega, hbn.step hb6⟩
                case measure => simp [intOf]; omega
              · have hcap' : (i : Int) + 1 < ac := by omega
                have hdl : (zl.drop (i+1)).length = left.length - (i+1) := by rw [List.length_drop, hzl]
                go_wp2_with (first | (at_builtin; refine wpList_append_own_at _ rfl (.tmp 45) (.tmp 49) 56 rfl wr.heap.size 22 i1 (.slice none 0 0) 1 24 Tryz.underlying56 hi1 hy0 hy1 hy2 rfl (by decide) _ _ _ rfl hown5 ⟨gx, i + 1, none⟩ _ _ ((zl.drop (i+1)).map encS) rfl (by simp <;> omega) hn4 (encS_one _) (by unfold maxLen; omega) (by omega) hb4.size ?_; intro v6 w6 hown6 hgrow6 _ hat6) | (at_builtin; refine wpList_append_own_at _ rfl (.tmp 40) (.tmp 43) 56 rfl wr.heap.size 22 i1 (.slice none 0 0) 1 24 Tryz.underlying56 hi1 hy0 hy1 hy2 rfl (by decide) _ _ _ rfl hown0 ⟨gx, 0, none⟩ i ac ((zl.take i).map encS) rfl (by rw [List.length_map, hti, Nat.mul_one]) hn0 (encS_one _) (by rw [List.length_nil]; unfold maxLen; omega) (by rw [List.length_nil]; omega) hb0.size ?_; intro v4 w4 hown4 hgrow4 _ hat4; have hb4 := hb0.grown hgrow4 (fun k hk => own_base hown0 k hk); have hown5 : w4.ownsRow wr.heap.size 22 1 v4 i ((zl.take i).map encS) := (by simpa using hown4); have hn4 := row_cells (ownsRow_bel hLr hb4) (i + 1)))
                clear hown4 hgrow4 hat4 hn0 hLr
                have hb6 := hb4.grown hgrow6 (fun k hk => own_base hown5 k hk)
                have hown7 : w6.ownsRow wr.heap.size 22 1 v6 ((zl.eraseIdx i).map encS).length ((zl.eraseIdx i).map encS) := by
                  rw [hey, List.length_map, List.length_append, hti, hdl]; simpa using hown6
                obtain ⟨tag6, hL6, hT6⟩ := tag_new (tag := tag) 0 hown7 hb6 hbn.size
                have hO6 := hT6 _ _ _ _ hO
                go_roundw
                case rel => exact ⟨k+1, tag6, zl.eraseIdx i, zo, left.eraseIdx i, out, by omega, by go_num, hL6, hE2, hO6, hEo, E.out, HS2.out, by omega, hbn.step hb6⟩
                case measure => simp [intOf]; omega
      · have E := Lib.hid (left_end hmin hlt)
        clear hmin
        obtain ⟨ao, no, co, rfl⟩ := own_form hO.1
        go_wp2_with fail
        go_ret
        exact ⟨_, _, _, rfl, by rw [E.out]; exact hO.rowV hEo, hb1⟩
end Go.Proofs.YteegjnobmbcjiaaGreatDoor
end
section
/- CompareLists, IsFalling: the reference's. -/
namespace Go.Proofs.YteegjnobmbcjiaaGreatDoor
open Go.RowKit

theorem any_upto {a : List (List Int)} {t : List Int} {i : Nat} (hi : i < a.length) : ((a.take (i+1)).any fun u => above u t) = (((a.take i).any fun u => above u t) || above (a.getD i []) t) := by
  rw [take_snoc a i [] hi, List.any_append]; simp
set_option maxRecDepth 100000 in
set_option maxHeartbeats 400000 in
theorem l3Over_v (l h l' h' : Nat) (v u : Value) (a b : List (List Int)) (q : Bool) (w : World) (hd : dom a b = q) (hne : q = true → 0 < a.length) (ha : short a) (_ : lowL a) (hb : short b) (hlb : lowL b) (hv : SlS l h w v a) (hu : SlS l' h' w u b) :
    Calls Tryz.prog 92 #[v, u] w (RetV w (.bool q)) := by
  obtain ⟨ad, cap, rfl⟩ := hv.form
  obtain ⟨ad', cap', rfl⟩ := hu.form
  obtain ⟨hbl, hbm⟩ := hb
  obtain ⟨hal, ham⟩ := ha
  have HD := Lib.hid (And.intro hd hne)
  clear hd hne
  go_enter Tryz.func92, Tryz.ntmps92
  go_wp2_with fail
  go_loopw [12] (fun i wr => ∃ k : Nat, k ≤ b.length ∧ i = .int .i64 k ∧ dom a (b.take k) = true ∧ Bel w wr) (fun i _ => b.length - (intOf i).toNat)
  case atStart => exact ⟨0, Nat.zero_le _, rfl, rfl, Bel.rfl' _⟩
  case round =>
    obtain ⟨k, hk, rfl, hn, hb1⟩ := hrel
    by_cases hlt : k < b.length
    · obtain ⟨bb, off, p, rfl, -, hc, hp⟩ := hu.at hb1 k hlt
      have hpl := hbm k hlt
      have hplow := hlb k hlt
      have HN := Lib.hid (And.intro (fun h => dom_no (a := a) hlt h) (fun h => dom_take hlt hn h))
      have hv1 := hv.below hb1
      clear hn hu hbm hlb hv
      generalize b.getD k [] = t at *
      obtain ⟨ap, cp, rfl⟩ := hp.form
      obtain ⟨wo, rfl⟩ : ∃ wo, wo = wr := ⟨wr, rfl⟩
      go_wp2_with fail
      go_loopw [7, 18] (fun ov i wr => ∃ j : Nat, j ≤ a.length ∧ i = .int .i64 j ∧ ov = .bool ((a.take j).any fun u => above u t) ∧ Bel wo wr) (fun _ i _ => a.length - (intOf i).toNat)
      case atStart => exact ⟨0, Nat.zero_le _, rfl, rfl, Bel.rfl' _⟩
      case round =>
        obtain ⟨j, hj, rfl, rfl, hb2⟩ := hrel
        by_cases hjl : j < a.length
        · obtain ⟨bx, ox, z, rfl, -, hcell, hz⟩ := hv1.at hb2 j hjl
          have hzl := ham j hjl
          have HU := Lib.hid (any_upto (t := t) hjl)
          have hp2 := hp.below hb2
          clear hv1 ham hp
          generalize a.getD j [] = y at *
          obtain ⟨az, cz, rfl⟩ := hz.form
          cases ho : ((a.take j).any fun u => above u t) with
          | true =>
            have E : Hid (((a.take (j+1)).any fun u => above u t) = true) := by show _ = _; rw [HU.out, ho]; rfl
            clear HU ho
            go_wp2_with fail
            go_roundw
            case rel => exact ⟨j+1, by omega, by go_num, by rw [E.out], hb2⟩
            case measure => simp [intOf]; omega
          | false =>
            generalize hq : above y t = r
            have E : Hid (((a.take (j+1)).any fun u => above u t) = r) := by show _ = _; rw [HU.out, ho, hq]; rfl
            have HC := Lib.hid (l3Greater_v _ _ _ _ _ _ y t r wr hq hzl hpl hplow hz hp2)
            clear HU ho hq
            go_wp2_with fail
            refine HC.out.mono ?_; rintro e w3 ⟨rfl, hb3⟩
            go_wp2_with fail
            go_roundw
            case rel => exact ⟨j+1, by omega, by go_num, by rw [E.out], hb2.step hb3⟩
            case measure => simp [intOf]; omega
        · cases hq : ((a.take j).any fun u => above u t) with
          | false =>
            have E : Hid (q = false) := HD.out.1.symm.trans (HN.out.1 (any_end hjl hq))
            clear HN
            go_wp2_with fail
            go_ret
            exact ⟨by rw [E.out]; rfl, hb1.step hb2⟩
          | true =>
            have E := Lib.hid (HN.out.2 (any_end hjl hq))
            clear HN
            go_wp2_with fail
            go_roundw
            case rel => exact ⟨k+1, by omega, by go_num, E.out, hb1.step hb2⟩
            case measure => simp [intOf]; omega
    · have E : Hid (q = true) := HD.out.1.symm.trans (dom_all hlt hn)
      have hpos : decide (0 < a.length) = true := by have := HD.out.2 E.out; simpa using this
      clear hn
      go_wp2_with fail
      go_ret
      exact ⟨by rw [E.out]; first | rfl | exact congrArg (fun x => Ending.returned (Value.bool x)) hpos, hb1⟩

set_option maxRecDepth 100000 in
set_option maxHeartbeats 800000 in
theorem l3Lists_c (l h l' h' : Nat) (v u : Value) (a b : List (List Int)) (w : World) (ha : short a) (hla : lowL a) (hb : short b) (hlb : lowL b) (hv : SlS l h w v a) (hu : SlS l' h' w u b) :
    Calls Tryz.prog 53 #[v, u] w (RetV w (.int .i64 (cmpL a b))) := by
  obtain ⟨ad, cap, rfl⟩ := hv.form
  obtain ⟨ad', cap', rfl⟩ := hu.form
  have H1 := Lib.hid (l3Left_c l h l' h' _ _ a b w ha hb hv hu)
  have H2 := Lib.hid (fun (w' : World) (hq : Bel w w') => l3Left_c l' h' l h _ _ b a w' hb ha (hu.below hq) (hv.below hq))
  have hsx := minus_short (b := b) ha
  have hsy := minus_short (b := a) hb
  have hlx := minus_low (b := b) hla
  have hly := minus_low (b := a) hlb
  have E0 := Lib.hid (fun h1 h2 => cmpL_0 (a := a) (b := b) h1 h2)
  have E1 := Lib.hid (fun h0 h1 => cmpL_1 (a := a) (b := b) h0 h1)
  have Em := Lib.hid (fun h0 h1 h2 => cmpL_m (a := a) (b := b) h0 h1 h2)
  have E2 := Lib.hid (fun h0 h1 h2 => cmpL_2 (a := a) (b := b) h0 h1 h2)
  generalize cmpL a b = z at *
  generalize minus a b = X at *
  generalize minus b a = Y at *
  by_cases hx0 : X.length = 0
  · have d1 : ((X.length : Int) == 0) = true := by simpa using hx0
    by_cases hy0 : Y.length = 0
    · have d2 : ((Y.length : Int) == 0) = true := by simpa using hy0
      have E : Hid (z = 0) := E0.out (List.length_eq_zero_iff.1 hx0) (List.length_eq_zero_iff.1 hy0)
      clear hx0 hy0 E0 E1 Em E2
      go_enter Tryz.func53, Tryz.ntmps53
      go_wp2_with fail
      refine H1.out.mono ?_; rintro e w1 ⟨g1, n1, c1, rfl, hX, hb1⟩
      obtain ⟨_, _, ef⟩ := hX.form
      simp only [Value.slice.injEq] at ef
      obtain ⟨rfl, rfl, rfl⟩ := ef
      go_wp2_with fail
      refine (H2.out _ hb1).mono ?_; rintro e w2 ⟨g2, n2, c2, rfl, hY, hb2⟩
      obtain ⟨_, _, ef⟩ := hY.form
      simp only [Value.slice.injEq] at ef
      obtain ⟨rfl, rfl, rfl⟩ := ef
      have hX2 := (hX.sls hb1).below hb2
      have hY2 := hY.sls hb2
      have hb12 := hb1.step hb2
      go_wp2_with fail
      go_ret
      exact ⟨by rw [E.out]; rfl, hb12⟩
    · have d2 : ((Y.length : Int) == 0) = false := by simp; exact fun h => hy0 (by rw [h]; rfl)
      have h0 : ¬ (X = [] ∧ Y = []) := fun h => hy0 (by rw [h.2]; rfl)
      clear hx0 hy0
      have h0b : ¬ (Y = [] ∧ X = []) := fun h => h0 ⟨h.2, h.1⟩
      cases hd1 : dom X Y with
      | true =>
        have E : Hid (z = 1) := E1.out h0 hd1
        clear E0 E1 Em E2
        go_enter Tryz.func53, Tryz.ntmps53
        go_wp2_with fail
        refine H1.out.mono ?_; rintro e w1 ⟨g1, n1, c1, rfl, hX, hb1⟩
        obtain ⟨_, _, ef⟩ := hX.form
        simp only [Value.slice.injEq] at ef
        obtain ⟨rfl, rfl, rfl⟩ := ef
        go_wp2_with fail
        refine (H2.out _ hb1).mono ?_; rintro e w2 ⟨g2, n2, c2, rfl, hY, hb2⟩
        obtain ⟨_, _, ef⟩ := hY.form
        simp only [Value.slice.injEq] at ef
        obtain ⟨rfl, rfl, rfl⟩ := ef
        have hX2 := (hX.sls hb1).below hb2
        have hY2 := hY.sls hb2
        have hb12 := hb1.step hb2
        go_wp2_with fail
        refine (l3Over_v _ _ _ _ _ _ X Y true _ hd1 (fun _ => dom_some h0 hd1) hsx hlx hsy hly hX2 hY2).mono ?_; rintro e w3 ⟨rfl, hb3⟩
        have hbs3 := hb12.step hb3
        replace hX2 := hX2.below hb3
        replace hY2 := hY2.below hb3
        go_wp2_with fail
        go_ret
        exact ⟨by rw [E.out]; rfl, hbs3⟩
      | false =>
        cases hd2 : dom Y X with
        | true =>
          have E : Hid (z = -1) := Em.out h0 hd1 hd2
          clear E0 E1 Em E2
          go_enter Tryz.func53, Tryz.ntmps53
          go_wp2_with fail
          refine H1.out.mono ?_; rintro e w1 ⟨g1, n1, c1, rfl, hX, hb1⟩
          obtain ⟨_, _, ef⟩ := hX.form
          simp only [Value.slice.injEq] at ef
          obtain ⟨rfl, rfl, rfl⟩ := ef
          go_wp2_with fail
          refine (H2.out _ hb1).mono ?_; rintro e w2 ⟨g2, n2, c2, rfl, hY, hb2⟩
          obtain ⟨_, _, ef⟩ := hY.form
          simp only [Value.slice.injEq] at ef
          obtain ⟨rfl, rfl, rfl⟩ := ef
          have hX2 := (hX.sls hb1).below hb2
          have hY2 := hY.sls hb2
          have hb12 := hb1.step hb2
          go_wp2_with fail
          refine (l3Over_v _ _ _ _ _ _ X Y false _ hd1 ((by simp)) hsx hlx hsy hly hX2 hY2).mono ?_; rintro e w3 ⟨rfl, hb3⟩
          have hbs3 := hb12.step hb3
          replace hX2 := hX2.below hb3
          replace hY2 := hY2.below hb3
          go_wp2_with fail
          refine (l3Over_v _ _ _ _ _ _ Y X true _ hd2 (fun _ => dom_some h0b hd2) hsy hly hsx hlx hY2 hX2).mono ?_; rintro e w4 ⟨rfl, hb4⟩
          have hbs4 := hbs3.step hb4
          replace hX2 := hX2.below hb4
          replace hY2 := hY2.below hb4
          go_wp2_with fail
          go_ret
          exact ⟨by rw [E.out]; rfl, hbs4⟩
        | false =>
          have E : Hid (z = 2) := E2.out h0 hd1 hd2
          clear E0 E1 Em E2
          go_enter Tryz.func53, Tryz.ntmps53
          go_wp2_with fail
          refine H1.out.mono ?_; rintro e w1 ⟨g1, n1, c1, rfl, hX, hb1⟩
          obtain ⟨_, _, ef⟩ := hX.form
          simp only [Value.slice.injEq] at ef
          obtain ⟨rfl, rfl, rfl⟩ := ef
          go_wp2_with fail
          refine (H2.out _ hb1).mono ?_; rintro e w2 ⟨g2, n2, c2, rfl, hY, hb2⟩
          obtain ⟨_, _, ef⟩ := hY.form
          simp only [Value.slice.injEq] at ef
          obtain ⟨rfl, rfl, rfl⟩ := ef
          have hX2 := (hX.sls hb1).below hb2
          have hY2 := hY.sls hb2
          have hb12 := hb1.step hb2
          go_wp2_with fail
          refine (l3Over_v _ _ _ _ _ _ X Y false _ hd1 ((by simp)) hsx hlx hsy hly hX2 hY2).mono ?_; rintro e w3 ⟨rfl, hb3⟩
          have hbs3 := hb12.step hb3
          replace hX2 := hX2.below hb3
          replace hY2 := hY2.below hb3
          go_wp2_with fail
          refine (l3Over_v _ _ _ _ _ _ Y X false _ hd2 ((by simp)) hsy hly hsx hlx hY2 hX2).mono ?_; rintro e w4 ⟨rfl, hb4⟩
          have hbs4 := hbs3.step hb4
          replace hX2 := hX2.below hb4
          replace hY2 := hY2.below hb4
          go_wp2_with fail
          go_ret
          exact ⟨by rw [E.out]; rfl, hbs4⟩
  · have d1 : ((X.length : Int) == 0) = false := by simp; exact fun h => hx0 (by rw [h]; rfl)
    have h0 : ¬ (X = [] ∧ Y = []) := fun h => hx0 (by rw [h.1]; rfl)
    clear hx0
    have h0b : ¬ (Y = [] ∧ X = []) := fun h => h0 ⟨h.2, h.1⟩
    cases hd1 : dom X Y with
    | true =>
      have E : Hid (z = 1) := E1.out h0 hd1
      clear E0 E1 Em E2
      go_enter Tryz.func53, Tryz.ntmps53
      go_wp2_with fail
      refine H1.out.mono ?_; rintro e w1 ⟨g1, n1, c1, rfl, hX, hb1⟩
      obtain ⟨_, _, ef⟩ := hX.form
      simp only [Value.slice.injEq] at ef
      obtain ⟨rfl, rfl, rfl⟩ := ef
      go_wp2_with fail
      refine (H2.out _ hb1).mono ?_; rintro e w2 ⟨g2, n2, c2, rfl, hY, hb2⟩
      obtain ⟨_, _, ef⟩ := hY.form
      simp only [Value.slice.injEq] at ef
      obtain ⟨rfl, rfl, rfl⟩ := ef
      have hX2 := (hX.sls hb1).below hb2
      have hY2 := hY.sls hb2
      have hb12 := hb1.step hb2
      go_wp2_with fail
      refine (l3Over_v _ _ _ _ _ _ X Y true _ hd1 (fun _ => dom_some h0 hd1) hsx hlx hsy hly hX2 hY2).mono ?_; rintro e w3 ⟨rfl, hb3⟩
      have hbs3 := hb12.step hb3
      replace hX2 := hX2.below hb3
      replace hY2 := hY2.below hb3
      go_wp2_with fail
      go_ret
      exact ⟨by rw [E.out]; rfl, hbs3⟩
    | false =>
      cases hd2 : dom Y X with
      | true =>
        have E : Hid (z = -1) := Em.out h0 hd1 hd2
        clear E0 E1 Em E2
        go_enter Tryz.func53, Tryz.ntmps53
        go_wp2_with fail
        refine H1.out.mono ?_; rintro e w1 ⟨g1, n1, c1, rfl, hX, hb1⟩
        obtain ⟨_, _, ef⟩ := hX.form
        simp only [Value.slice.injEq] at ef
        obtain ⟨rfl, rfl, rfl⟩ := ef
        go_wp2_with fail
        refine (H2.out _ hb1).mono ?_; rintro e w2 ⟨g2, n2, c2, rfl, hY, hb2⟩
        obtain ⟨_, _, ef⟩ := hY.form
        simp only [Value.slice.injEq] at ef
        obtain ⟨rfl, rfl, rfl⟩ := ef
        have hX2 := (hX.sls hb1).below hb2
        have hY2 := hY.sls hb2
        have hb12 := hb1.step hb2
        go_wp2_with fail
        refine (l3Over_v _ _ _ _ _ _ X Y false _ hd1 ((by simp)) hsx hlx hsy hly hX2 hY2).mono ?_; rintro e w3 ⟨rfl, hb3⟩
        have hbs3 := hb12.step hb3
        replace hX2 := hX2.below hb3
        replace hY2 := hY2.below hb3
        go_wp2_with fail
        refine (l3Over_v _ _ _ _ _ _ Y X true _ hd2 (fun _ => dom_some h0b hd2) hsy hly hsx hlx hY2 hX2).mono ?_; rintro e w4 ⟨rfl, hb4⟩
        have hbs4 := hbs3.step hb4
        replace hX2 := hX2.below hb4
        replace hY2 := hY2.below hb4
        go_wp2_with fail
        go_ret
        exact ⟨by rw [E.out]; rfl, hbs4⟩
      | false =>
        have E : Hid (z = 2) := E2.out h0 hd1 hd2
        clear E0 E1 Em E2
        go_enter Tryz.func53, Tryz.ntmps53
        go_wp2_with fail
        refine H1.out.mono ?_; rintro e w1 ⟨g1, n1, c1, rfl, hX, hb1⟩
        obtain ⟨_, _, ef⟩ := hX.form
        simp only [Value.slice.injEq] at ef
        obtain ⟨rfl, rfl, rfl⟩ := ef
        go_wp2_with fail
        refine (H2.out _ hb1).mono ?_; rintro e w2 ⟨g2, n2, c2, rfl, hY, hb2⟩
        obtain ⟨_, _, ef⟩ := hY.form
        simp only [Value.slice.injEq] at ef
        obtain ⟨rfl, rfl, rfl⟩ := ef
        have hX2 := (hX.sls hb1).below hb2
        have hY2 := hY.sls hb2
        have hb12 := hb1.step hb2
        go_wp2_with fail
        refine (l3Over_v _ _ _ _ _ _ X Y false _ hd1 ((by simp)) hsx hlx hsy hly hX2 hY2).mono ?_; rintro e w3 ⟨rfl, hb3⟩
        have hbs3 := hb12.step hb3
        replace hX2 := hX2.below hb3
        replace hY2 := hY2.below hb3
        go_wp2_with fail
        refine (l3Over_v _ _ _ _ _ _ Y X false _ hd2 ((by simp)) hsy hly hsx hlx hY2 hX2).mono ?_; rintro e w4 ⟨rfl, hb4⟩
        have hbs4 := hbs3.step hb4
        replace hX2 := hX2.below hb4
        replace hY2 := hY2.below hb4
        go_wp2_with fail
        go_ret
        exact ⟨by rw [E.out]; rfl, hbs4⟩

end Go.Proofs.YteegjnobmbcjiaaGreatDoor
end
section
/- Chapter 4: CompareLits, both sides. -/
namespace Go.Proofs.YteegjnobmbcjiaaGreatDoor
open Go.RowKit

set_option maxRecDepth 100000 in
set_option maxHeartbeats 1000000 in
theorem comparedLits_c (l h l' h' : Nat) (x y : Lt) (u1 u2 q1 q2 : Value) (w : World) (hT : Tab w) (hsx : short (listL x)) (hlx : lowL (listL x)) (hsy : short (listL y)) (hly : lowL (listL y)) (h1 : SlI l h w u1 x.2.1) (h2 : SlI l h w u2 x.2.2) (h3 : SlI l' h' w q1 y.2.1) (h4 : SlI l' h' w q2 y.2.2) :
    Calls Tryz.prog 47 #[.agg #[.bool x.1, u1, u2], .agg #[.bool y.1, q1, q2]] w (RetV w (.int .i64 (cmpL (listL x) (listL y)))) := by
  have HX := Lib.hid (fun (w' : World) (hb : Bel w w') => countedTerms_c l h x u1 u2 w' (h1.below hb) (h2.below hb))
  have HY := Lib.hid (fun (w' : World) (hb : Bel w w') => countedTerms_c l' h' y q1 q2 w' (h3.below hb) (h4.below hb))
  have HM := Lib.hid (fun (w' : World) (z1 z2 : Value) (hb : Bel w w') (g1 : SlS 0 w'.heap.size w' z1 (listL x)) (g2 : SlS 0 w'.heap.size w' z2 (listL y)) => comparedLists_c _ _ _ _ z1 z2 _ _ w' (hT.bel hb) hsx hlx hsy hly g1 g2)
  clear h1 h2 h3 h4
  generalize listL x = X at *
  generalize listL y = Y at *
  generalize x.1 = p at *
  generalize y.1 = q at *
  have HB0 : Bel w ((w.alloc (.cells #[.bool p, u1, u2] 53)).alloc (.cells #[.bool q, q1, q2] 53)).drew := (Bel.alloc2 _ _ _).drew
  have K : Hid (∀ w', Bel ((w.alloc (.cells #[.bool p, u1, u2] 53)).alloc (.cells #[.bool q, q1, q2] 53)).drew w' → (w'.cell? ⟨w.heap.size, 0, none⟩ = some (.bool p) ∧ w'.cell? ⟨w.heap.size, 1, none⟩ = some u1 ∧ w'.cell? ⟨w.heap.size, 2, none⟩ = some u2) ∧ w'.cell? ⟨w.heap.size + 1, 0, none⟩ = some (.bool q) ∧ w'.cell? ⟨w.heap.size + 1, 1, none⟩ = some q1 ∧ w'.cell? ⟨w.heap.size + 1, 2, none⟩ = some q2) := fun w' hb => by
    have hq := hb.of_drew
    exact ⟨⟨hq.at (by simp; omega) (by simp [go_sem]), hq.at (by simp; omega) (by simp [go_sem]), hq.at (by simp; omega) (by simp [go_sem])⟩, hq.at (by simp) (by simp [go_sem]), hq.at (by simp) (by simp [go_sem]), hq.at (by simp) (by simp [go_sem])⟩
  go_enter Tryz.func47, Tryz.ntmps47
  go_wp2_with fail
  go_region_held3 (fun w' => (w'.cell? ⟨w.heap.size, 0, none⟩ = some (.bool p) ∧ w'.cell? ⟨w.heap.size, 1, none⟩ = some u1 ∧ w'.cell? ⟨w.heap.size, 2, none⟩ = some u2) ∧ w'.cell? ⟨w.heap.size + 1, 0, none⟩ = some (.bool q) ∧ w'.cell? ⟨w.heap.size + 1, 1, none⟩ = some q1 ∧ w'.cell? ⟨w.heap.size + 1, 2, none⟩ = some q2)
    (first | exact K.out _ ((g3.step g4).step g5) | exact K.out _ (g3.step g4) | exact K.out _ g3 | exact K.out _ (Bel.rfl' _) | fail)
    (first
      | (go_at_call 84; refine (HM.out _ _ _ HB4 R1 R2).mono ?_; rintro e w5 ⟨rfl, g5⟩)
      | (go_at_call 85; refine (HY.out _ HB3).mono ?_; rintro e w4 ⟨a2, n2, c2, rfl, r2, g4⟩; have HB4 := HB3.step g4; have R1 := (r1.bel g4).sls (g3.step g4); have R2 := r2.sls g4)
      | (go_at_call 85; refine (HX.out _ HB3).mono ?_; rintro e w4 ⟨a1, n1, c1, rfl, r1, g4⟩; have HB4 := HB3.step g4; have R2 := (r2.bel g4).sls (g3.step g4); have R1 := r1.sls g4)
      | (go_at_call 85; refine (HX.out _ HB0).mono ?_; rintro e w3 ⟨a1, n1, c1, rfl, r1, g3⟩; have HB3 := HB0.step g3)
      | (go_at_call 85; refine (HY.out _ HB0).mono ?_; rintro e w3 ⟨a2, n2, c2, rfl, r2, g3⟩; have HB3 := HB0.step g3)
      | fail)
  all_goals
    go_wp2_with fail
    go_ret
    exact ⟨rfl, HB4.step g5⟩

theorem listL_short {ar : List Int} {x : Lt} (h : okLit ar x = true) : short (listL x) := by
  have h1 := listL_low h
  refine ⟨by have := listL_len x; omega, fun j hj => ?_⟩
  have := (okTerm_len (h1 _ (mem_getD _ [] j hj))).2
  omega
theorem listL_lowL {ar : List Int} {x : Lt} (h : okLit ar x = true) : lowL (listL x) := fun j hj => low_memC fun _ hn => ok_low (listL_low h _ (mem_getD _ [] j hj)) hn
theorem litsOk_good (ar : List Int) (x y : Lt) : goodClause ar [x, y] = litsOk ar x y := by simp [goodClause, okLits, litsOk]
/-- Two literals in a block of their own. -/
theorem slc_two {w : World} {x y : Lt} {u1 u2 q1 q2 : Value} {t : TypeId} (g : Nat) (hg : g = w.heap.size) (h1 : SlI 0 w.heap.size w u1 x.2.1) (h2 : SlI 0 w.heap.size w u2 x.2.2) (h3 : SlI 0 w.heap.size w q1 y.2.1) (h4 : SlI 0 w.heap.size w q2 y.2.2) :
    SlC 0 (w.alloc (.cells #[.bool x.1, u1, u2, .bool y.1, q1, q2] t)).heap.size (w.alloc (.cells #[.bool x.1, u1, u2, .bool y.1, q1, q2] t)) (.slice (some ⟨g, 0, none⟩) 2 2) [x, y] := by
  subst hg
  have hb := Bel.alloc0 w (.cells #[.bool x.1, u1, u2, .bool y.1, q1, q2] t)
  have hc : ∀ i v, (#[Value.bool x.1, u1, u2, .bool y.1, q1, q2])[i]? = some v → (w.alloc (.cells #[.bool x.1, u1, u2, .bool y.1, q1, q2] t)).cell? ⟨w.heap.size, i, none⟩ = some v := fun i v h => by rw [World.cell?_alloc_new w]; exact h
  refine ⟨_, 2, rfl, Nat.le_refl _, ⟨by unfold maxLen; omega, fun h => by simp at h⟩, fun _ => ⟨w.heap.size, 0, rfl, Nat.zero_le _, by simp, fun j hj => ?_⟩⟩
  match j, hj with
  | 0, _ => exact ⟨u1, u2, hc 0 _ rfl, hc 1 _ rfl, hc 2 _ rfl, (h1.below hb).mono (Nat.le_refl _) hb.size, (h2.below hb).mono (Nat.le_refl _) hb.size⟩
  | 1, _ => exact ⟨q1, q2, hc 3 _ rfl, hc 4 _ rfl, hc 5 _ rfl, (h3.below hb).mono (Nat.le_refl _) hb.size, (h4.below hb).mono (Nat.le_refl _) hb.size⟩

set_option maxRecDepth 100000 in
set_option maxHeartbeats 1000000 in
theorem iCompareLits_t {l h l' h' l2 h2 : Nat} {v u1 u2 q1 q2 : Value} {ar : List Int} {x y : Lt} {w : World} (hT : Tab w) (ha : ar.length ≤ 1048576) (hv : SlI l h w v ar) (hx : x.2.1.length + x.2.2.length ≤ 1048576) (s1 : SlI l' h' w u1 x.2.1) (s2 : SlI l' h' w u2 x.2.2) (hy : y.2.1.length + y.2.2.length ≤ 1048576) (t1 : SlI l2 h2 w q1 y.2.1) (t2 : SlI l2 h2 w q2 y.2.2) :
    Calls Tryz.prog 22 #[.agg #[v], .agg #[.bool x.1, u1, u2], .agg #[.bool y.1, q1, q2]] w (RetV w (.tuple #[.int .i64 (litsAns ar x y), .bool (litsOk ar x y)])) := by
  have hsh : shortC [x, y] := ⟨by simp, fun j hj => by
    match j, hj with
    | 0, _ => exact ⟨by show x.2.1.length ≤ _; omega, by show x.2.2.length ≤ _; omega⟩
    | 1, _ => exact ⟨by show y.2.1.length ≤ _; omega, by show y.2.2.length ≤ _; omega⟩⟩
  have HB : Bel w (((w.alloc (.cells #[v] 33)).alloc (.cells #[.bool x.1, u1, u2] 53)).alloc (.cells #[.bool y.1, q1, q2] 53)) := Bel.alloc3 _ _ _ _
  have hsl := slc_two (w := ((w.alloc (.cells #[v] 33)).alloc (.cells #[.bool x.1, u1, u2] 53)).alloc (.cells #[.bool y.1, q1, q2] 53)) (t := 53) (w.heap.size + 1 + 1 + 1) (by simp) (s1.below HB).in' (s2.below HB).in' (t1.below HB).in' (t2.below HB).in'
  have hg := fun (q : Bool) (hq : goodClause ar [x, y] = q) => (iGoodClause_sh ha ((hv.below HB).alloc (.cells #[.bool x.1, u1, u2, .bool y.1, q1, q2] 53)) hsh hsl)
  have hgo := litsOk_good ar x y
  unfold litsAns
  cases hq : litsOk ar x y with
  | false =>
    rw [if_neg (by simp)]
    have HG := hg _ rfl
    rw [hgo, hq] at HG
    have HGG := Lib.hid HG
    clear HG hg hgo hq hsl hsh
    go_enter Tryz.func22, Tryz.ntmps22
    go_wp2_with fail
    refine HGG.out.mono ?_; rintro e w1 ⟨rfl, hb1⟩
    go_wp2_with fail
    go_ret2
    exact ⟨rfl, HB.step hb1.of_alloc⟩
  | true =>
    rw [if_pos rfl]
    have HG := hg _ rfl
    rw [hgo, hq] at HG
    have HGG := Lib.hid HG
    simp only [litsOk, Bool.and_eq_true] at hq
    obtain ⟨hgs, okx, oky⟩ := hq
    have HCM := Lib.hid (fun (w' : World) (hb : Bel w w') => comparedLits_c _ _ _ _ x y u1 u2 q1 q2 w' (hT.bel hb) (listL_short okx) (listL_lowL okx) (listL_short oky) (listL_lowL oky) (s1.below hb) (s2.below hb) (t1.below hb) (t2.below hb))
    clear HG hg hgo hsl hsh s1 s2 t1 t2
    have K : Hid (∀ w', Bel (((w.alloc (.cells #[v] 33)).alloc (.cells #[.bool x.1, u1, u2] 53)).alloc (.cells #[.bool y.1, q1, q2] 53)) w' → (w'.cell? ⟨w.heap.size + 1, 0, none⟩ = some (.bool x.1) ∧ w'.cell? ⟨w.heap.size + 1, 1, none⟩ = some u1 ∧ w'.cell? ⟨w.heap.size + 1, 2, none⟩ = some u2) ∧ w'.cell? ⟨w.heap.size + 1 + 1, 0, none⟩ = some (.bool y.1) ∧ w'.cell? ⟨w.heap.size + 1 + 1, 1, none⟩ = some q1 ∧ w'.cell? ⟨w.heap.size + 1 + 1, 2, none⟩ = some q2) := fun w' hb =>
      ⟨⟨hb.at (by simp <;> omega) (by simp [go_sem]), hb.at (by simp <;> omega) (by simp [go_sem]), hb.at (by simp <;> omega) (by simp [go_sem])⟩, hb.at (by simp) (by simp [go_sem]), hb.at (by simp) (by simp [go_sem]), hb.at (by simp) (by simp [go_sem])⟩
    generalize cmpL (listL x) (listL y) = r at *
    generalize x.1 = p at *
    generalize y.1 = q at *
    go_enter Tryz.func22, Tryz.ntmps22
    go_wp2_with fail
    refine HGG.out.mono ?_; rintro e w1 ⟨rfl, hb1⟩
    obtain ⟨⟨x0, x1, x2⟩, y0, y1, y2⟩ := K.out _ hb1.of_alloc
    have HB1 := HB.step hb1.of_alloc
    go_wp2_with fail
    refine (HCM.out _ HB1).mono ?_; rintro e w2 ⟨rfl, hb2⟩
    go_wp2_with fail
    go_ret2
    exact ⟨rfl, HB1.step hb2⟩

set_option maxRecDepth 100000 in
set_option maxHeartbeats 2000000 in
theorem sCompareLits_t {l h l' h' l2 h2 : Nat} {v u1 u2 q1 q2 : Value} {ar : List Int} {x y : Lt} {w : World} (ha : ar.length ≤ 1048576) (hv : SlI l h w v ar) (hx : x.2.1.length + x.2.2.length ≤ 1048576) (s1 : SlI l' h' w u1 x.2.1) (s2 : SlI l' h' w u2 x.2.2) (hy : y.2.1.length + y.2.2.length ≤ 1048576) (t1 : SlI l2 h2 w q1 y.2.1) (t2 : SlI l2 h2 w q2 y.2.2) :
    Calls Tryz.prog 24 #[.agg #[v], .agg #[.bool x.1, u1, u2], .agg #[.bool y.1, q1, q2]] w (RetV w (.tuple #[.int .i64 (litsAns ar x y), .bool (litsOk ar x y)])) := by
  have HB : Bel w (((w.alloc (.cells #[v] 33)).alloc (.cells #[.bool x.1, u1, u2] 53)).alloc (.cells #[.bool y.1, q1, q2] 53)) := Bel.alloc3 _ _ _ _
  have K : Hid (∀ w', Bel (((w.alloc (.cells #[v] 33)).alloc (.cells #[.bool x.1, u1, u2] 53)).alloc (.cells #[.bool y.1, q1, q2] 53)) w' → w'.cell? ⟨w.heap.size, 0, none⟩ = some v ∧ (w'.cell? ⟨w.heap.size + 1, 0, none⟩ = some (.bool x.1) ∧ w'.cell? ⟨w.heap.size + 1, 1, none⟩ = some u1 ∧ w'.cell? ⟨w.heap.size + 1, 2, none⟩ = some u2) ∧ w'.cell? ⟨w.heap.size + 1 + 1, 0, none⟩ = some (.bool y.1) ∧ w'.cell? ⟨w.heap.size + 1 + 1, 1, none⟩ = some q1 ∧ w'.cell? ⟨w.heap.size + 1 + 1, 2, none⟩ = some q2) := fun w' hb =>
    ⟨hb.at (by simp <;> omega) (by simp [go_sem]), ⟨hb.at (by simp <;> omega) (by simp [go_sem]), hb.at (by simp <;> omega) (by simp [go_sem]), hb.at (by simp <;> omega) (by simp [go_sem])⟩, hb.at (by simp) (by simp [go_sem]), hb.at (by simp) (by simp [go_sem]), hb.at (by simp) (by simp [go_sem])⟩
  unfold litsAns litsOk
  cases hgs : goodSign ar with
  | false =>
    rw [Bool.false_and, if_neg (by simp)]
    have HG := Lib.hid (sGoodSign_v l h v ar false _ hgs ha (hv.below HB))
    clear hgs
    generalize x.1 = p at *
    generalize y.1 = q at *
    go_enter Tryz.func24, Tryz.ntmps24
    go_wp2_with fail
    refine HG.out.mono ?_; rintro e w1 ⟨rfl, hb1⟩
    go_wp2_with fail
    go_ret2
    exact ⟨rfl, HB.step hb1⟩
  | true =>
    rw [Bool.true_and]
    have HG := Lib.hid (sGoodSign_v l h v ar true _ hgs ha (hv.below HB))
    have H1 := fun (r : Bool) (hr : okLit ar x = r) (w' : World) (hb : Bel w w') => l4Lit_v l h l' h' v u1 u2 ar x.2.1 x.2.2 x.1 r w' hr hgs (by omega) (by omega) (hv.below hb) (s1.below hb) (s2.below hb)
    have H2 := fun (r : Bool) (hr : okLit ar y = r) (w' : World) (hb : Bel w w') => l4Lit_v l h l2 h2 v q1 q2 ar y.2.1 y.2.2 y.1 r w' hr hgs (by omega) (by omega) (hv.below hb) (t1.below hb) (t2.below hb)
    cases hox : okLit ar x with
    | false =>
      rw [Bool.false_and, if_neg (by simp)]
      have HL1 := Lib.hid (H1 false hox)
      clear H1 H2 hox hgs
      generalize x.1 = p at *
      generalize y.1 = q at *
      go_enter Tryz.func24, Tryz.ntmps24
      go_wp2_with fail
      refine HG.out.mono ?_; rintro e w1 ⟨rfl, hb1⟩
      obtain ⟨z, ⟨x0, x1, x2⟩, y0, y1, y2⟩ := K.out _ hb1
      have HB1 := HB.step hb1
      go_wp2_with fail
      refine (HL1.out _ HB1).mono ?_; rintro e w2 ⟨rfl, hb2⟩
      go_wp2_with fail
      go_ret2
      exact ⟨rfl, HB1.step hb2⟩
    | true =>
      rw [Bool.true_and]
      have HL1 := Lib.hid (H1 true hox)
      cases hoy : okLit ar y with
      | false =>
        rw [if_neg (by simp)]
        have HL2 := Lib.hid (H2 false hoy)
        clear H1 H2 hox hoy hgs
        generalize x.1 = p at *
        generalize y.1 = q at *
        go_enter Tryz.func24, Tryz.ntmps24
        go_wp2_with fail
        refine HG.out.mono ?_; rintro e w1 ⟨rfl, hb1⟩
        obtain ⟨z, ⟨x0, x1, x2⟩, y0, y1, y2⟩ := K.out _ hb1
        have HB1 := HB.step hb1
        go_wp2_with fail
        refine (HL1.out _ HB1).mono ?_; rintro e w2 ⟨rfl, hb2⟩
        obtain ⟨zz, ⟨xx0, xx1, xx2⟩, yy0, yy1, yy2⟩ := K.out _ (hb1.step hb2)
        have HB2 := HB1.step hb2
        go_wp2_with fail
        refine (HL2.out _ HB2).mono ?_; rintro e w3 ⟨rfl, hb3⟩
        go_wp2_with fail
        go_ret2
        exact ⟨rfl, HB2.step hb3⟩
      | true =>
        rw [if_pos rfl]
        have HL2 := Lib.hid (H2 true hoy)
        have HX := Lib.hid (fun (w' : World) (hb : Bel w w') => l4List_c l' h' x u1 u2 w' (s1.below hb) (s2.below hb))
        have HY := Lib.hid (fun (w' : World) (hb : Bel w w') => l4List_c l2 h2 y q1 q2 w' (t1.below hb) (t2.below hb))
        have HM := Lib.hid (fun (w' : World) (z1 z2 : Value) (g1 : SlS 0 w'.heap.size w' z1 (listL x)) (g2 : SlS 0 w'.heap.size w' z2 (listL y)) => l3Lists_c _ _ _ _ z1 z2 _ _ w' (listL_short hox) (listL_lowL hox) (listL_short hoy) (listL_lowL hoy) g1 g2)
        clear H1 H2 hox hoy hgs s1 s2 t1 t2
        generalize cmpL (listL x) (listL y) = r at *
        generalize listL x = X at *
        generalize listL y = Y at *
        generalize x.1 = p at *
        generalize y.1 = q at *
        go_enter Tryz.func24, Tryz.ntmps24
        go_wp2_with fail
        refine HG.out.mono ?_; rintro e w1 ⟨rfl, hb1⟩
        obtain ⟨z, ⟨x0, x1, x2⟩, y0, y1, y2⟩ := K.out _ hb1
        have HB1 := HB.step hb1
        go_wp2_with fail
        refine (HL1.out _ HB1).mono ?_; rintro e w2 ⟨rfl, hb2⟩
        obtain ⟨zz, ⟨xx0, xx1, xx2⟩, yy0, yy1, yy2⟩ := K.out _ (hb1.step hb2)
        have HB2 := HB1.step hb2
        go_wp2_with fail
        refine (HL2.out _ HB2).mono ?_; rintro e w3 ⟨rfl, hb3⟩
        have HB3 := HB2.step hb3
        have K3 := (hb1.step hb2).step hb3
        go_wp2_with fail
        have D3 := Bel.drew0 w3
        have HB0 := HB3.step D3
        have KW := K3.step D3
        go_region_held3 (fun w' => (w'.cell? ⟨w.heap.size + 1, 0, none⟩ = some (.bool p) ∧ w'.cell? ⟨w.heap.size + 1, 1, none⟩ = some u1 ∧ w'.cell? ⟨w.heap.size + 1, 2, none⟩ = some u2) ∧ w'.cell? ⟨w.heap.size + 1 + 1, 0, none⟩ = some (.bool q) ∧ w'.cell? ⟨w.heap.size + 1 + 1, 1, none⟩ = some q1 ∧ w'.cell? ⟨w.heap.size + 1 + 1, 2, none⟩ = some q2)
          (first | exact (K.out _ (KW.step ((g3.step g4).step g5))).2 | exact (K.out _ (KW.step (g3.step g4))).2 | exact (K.out _ (KW.step g3)).2 | exact (K.out _ KW).2 | fail)
          (first
            | (go_at_call 53; refine (HM.out _ _ _ R1 R2).mono ?_; rintro e w6 ⟨rfl, g5⟩)
            | (go_at_call 54; refine (HY.out _ HB4).mono ?_; rintro e w5 ⟨a2, n2, c2, rfl, r2, g4⟩; have HB5 := HB4.step g4; have R1 := (r1.bel g4).sls (g3.step g4); have R2 := r2.sls g4)
            | (go_at_call 54; refine (HX.out _ HB4).mono ?_; rintro e w5 ⟨a1, n1, c1, rfl, r1, g4⟩; have HB5 := HB4.step g4; have R2 := (r2.bel g4).sls (g3.step g4); have R1 := r1.sls g4)
            | (go_at_call 54; refine (HX.out _ HB0).mono ?_; rintro e w4 ⟨a1, n1, c1, rfl, r1, g3⟩; have HB4 := HB0.step g3)
            | (go_at_call 54; refine (HY.out _ HB0).mono ?_; rintro e w4 ⟨a2, n2, c2, rfl, r2, g3⟩; have HB4 := HB0.step g3)
            | fail)
        all_goals
          go_wp2_with fail
          go_ret2
          exact ⟨rfl, HB5.step g5⟩
end Go.Proofs.YteegjnobmbcjiaaGreatDoor
end
section
/- Chapter 4: the ordering of lists is transitive; a clause that has a literal has a maximal one. No program. -/
namespace Go.Proofs.YteegjnobmbcjiaaGreatDoor

theorem cmpL_gt {a b : List (List Int)} : cmpL a b = 1 ↔ minus a b ≠ [] ∧ ∀ y, a.count y < b.count y → ∃ x, above x y = true ∧ b.count x < a.count x := by
  rw [cmpL_one, dom_iff]
  refine and_congr Iff.rfl ⟨fun h y hy => ?_, fun h y hy => ?_⟩
  · obtain ⟨u, hu, k⟩ := h y (minus_mem.2 hy)
    exact ⟨u, k, minus_mem.1 hu⟩
  · obtain ⟨x, k, hx⟩ := h y (minus_mem.1 hy)
    exact ⟨x, minus_mem.2 hx, k⟩
theorem cmpL_irrefl (a : List (List Int)) : cmpL a a ≠ 1 := by
  intro h
  have h1 := (cmpL_flip a a).1.1 h
  omega
theorem cmpL_trans {M N P : List (List Int)} (h1 : cmpL M N = 1) (h2 : cmpL N P = 1) : cmpL M P = 1 := by
  have hNM : cmpL N M ≠ 1 := fun h => by have := (cmpL_flip M N).1.1 h1; omega
  obtain ⟨n1, g1⟩ := cmpL_gt.1 h1
  obtain ⟨n2, g2⟩ := cmpL_gt.1 h2
  have A : ∀ z, M.count z < N.count z → ∃ x, above x z = true ∧ P.count x < M.count x := by
    intro z hz
    obtain ⟨x0, k0, c0⟩ := g1 z hz
    have hne : (minus M N).filter (fun x => above x z) ≠ [] := by
      intro e
      have : x0 ∈ (minus M N).filter (fun x => above x z) := List.mem_filter.2 ⟨minus_mem.2 c0, k0⟩
      rw [e] at this; simp at this
    obtain ⟨m, hm, hmax⟩ := top_of _ hne
    obtain ⟨m1, m2⟩ := List.mem_filter.1 hm
    have m3 := minus_mem.1 m1
    by_cases hP : P.count m < M.count m
    · exact ⟨m, m2, hP⟩
    · obtain ⟨w, kw, cw⟩ := g2 m (by omega)
      by_cases hw : M.count w < N.count w
      · obtain ⟨x, kx, cx⟩ := g1 w hw
        have kxm := above_trans kx kw
        have := hmax x (List.mem_filter.2 ⟨minus_mem.2 cx, above_trans kxm m2⟩)
        rw [kxm] at this; simp at this
      · exact ⟨w, above_trans kw m2, by omega⟩
  have B : ∀ y, M.count y < P.count y → ∃ x, above x y = true ∧ P.count x < M.count x := by
    intro y hy
    by_cases hN : M.count y < N.count y
    · exact A y hN
    · obtain ⟨w, kw, cw⟩ := g2 y (by omega)
      by_cases hw : M.count w < N.count w
      · obtain ⟨x, kx, cx⟩ := A w hw
        exact ⟨x, above_trans kx kw, cx⟩
      · exact ⟨w, kw, by omega⟩
  refine cmpL_gt.2 ⟨fun e => ?_, B⟩
  have e0 : ∀ t, M.count t ≤ P.count t := fun t => by
    have := (nil_iff.1 e) t
    rw [minus_mem] at this; omega
  have e1 : ∀ t, P.count t = M.count t := fun t => by
    by_cases hlt : M.count t < P.count t
    · obtain ⟨x, _, cx⟩ := B t hlt
      have := e0 x; omega
    · have := e0 t; omega
  refine hNM (cmpL_gt.2 ⟨fun en => n2 (nil_iff.2 fun t ht => ?_), fun y hy => ?_⟩)
  · rw [minus_mem, e1] at ht
    exact (nil_iff.1 en) t (minus_mem.2 ht)
  · obtain ⟨x, kx, cx⟩ := g2 y (by rw [e1]; exact hy)
    exact ⟨x, kx, by rw [← e1]; exact cx⟩

theorem top_L (c : List Lt) (h : c ≠ []) : ∃ m ∈ c, ∀ x ∈ c, cmpL (listL x) (listL m) ≠ 1 := by
  induction c with
  | nil => exact absurd rfl h
  | cons y l ih =>
    by_cases hl : l = []
    · subst hl
      exact ⟨y, List.mem_cons_self, fun x hx => by simp at hx; subst hx; exact cmpL_irrefl _⟩
    · obtain ⟨m, hm, hmax⟩ := ih hl
      by_cases hy : cmpL (listL y) (listL m) = 1
      · refine ⟨y, List.mem_cons_self, fun x hx => ?_⟩
        rcases List.mem_cons.1 hx with rfl | hx
        · exact cmpL_irrefl _
        · intro hxy
          exact hmax x hx (cmpL_trans hxy hy)
      · exact ⟨m, List.mem_cons_of_mem _ hm, fun x hx => by rcases List.mem_cons.1 hx with rfl | hx; exact hy; exact hmax x hx⟩
theorem maxC_mem {c : List Lt} {k : Nat} : k ∈ maxC c ↔ k < c.length ∧ ∀ i, i < c.length → i = k ∨ cmpL (listL (c.getD i lt0)) (listL (c.getD k lt0)) ≠ 1 := by
  unfold maxC
  rw [List.mem_filter, List.mem_range]
  refine and_congr Iff.rfl ?_
  unfold maxAt
  simp only [List.all_eq_true, List.mem_range, Bool.or_eq_true, decide_eq_true_eq, Bool.not_eq_true', decide_eq_false_iff_not, ne_eq]
theorem maxC_ne {c : List Lt} (h : c ≠ []) : maxC c ≠ [] := by
  obtain ⟨m, hm, hmax⟩ := top_L c h
  obtain ⟨k, hk, rfl⟩ := List.getElem_of_mem hm
  intro e
  have : k ∈ maxC c := maxC_mem.2 ⟨hk, fun i hi => .inr (by
    have := hmax c[i] (List.getElem_mem hi)
    simpa [List.getD, hi, hk] using this)⟩
  rw [e] at this; simp at this
end Go.Proofs.YteegjnobmbcjiaaGreatDoor
end
