/- CompareTerms, WeighsMore: both functions. -/
import Derived.Test.YtkbgglejhdodoaaDoorCmp2
import Derived.Test.YtkbgglejhdodoaaDoorGood2
namespace Go.Proofs.YtkbgglejhdodoaaDoor
open Go.RowKit

theorem lowT.good {ar t : List Int} (h : goodTerm ar t = true) : lowT t := low_of_good h

set_option maxRecDepth 100000 in
set_option maxHeartbeats 400000 in
theorem compared_c (l h l' h' : Nat) (v u : Value) (a b : List Int) (w : World) (hT : Tab w) (ha : a.length ≤ 1048576) (hb : b.length ≤ 1048576) (hla : lowT a) (hlb : lowT b) (hv : SlI l h w v a) (hu : SlI l' h' w u b) :
    Calls Tryd.prog 47 #[v, u] w (RetV w (.int .i64 (cmpT a b))) := by
  by_cases hab : a = b
  · have E := Lib.hid (cmpT_zero.2 hab)
    have HE := Lib.hid (slEqual_v l h l' h' v u a b true w (by simpa using hab) ha hb hv hu)
    clear hab
    go_enter Tryd.func47, Tryd.ntmps47
    go_wp2_with fail
    refine HE.out.mono ?_; rintro e w1 ⟨rfl, hb1⟩
    go_wp2_with fail
    go_ret
    exact ⟨by rw [E.out]; rfl, hb1⟩
  · have HE := Lib.hid (slEqual_v l h l' h' v u a b false w (by simpa using hab) ha hb hv hu)
    cases h1 : above a b with
    | true =>
      have E := Lib.hid (cmpT_one.2 h1)
      have HA := Lib.hid (fun (w' : World) (hq : Bel w w') => isAbove_v l h l' h' v u a b true w' h1 (hT.bel hq) ha hb hla hlb (hv.below hq) (hu.below hq))
      clear hab h1
      go_enter Tryd.func47, Tryd.ntmps47
      go_wp2_with fail
      refine HE.out.mono ?_; rintro e w1 ⟨rfl, hb1⟩
      go_wp2_with fail
      refine (HA.out _ hb1).mono ?_; rintro e w2 ⟨rfl, hb2⟩
      go_wp2_with fail
      go_ret
      exact ⟨by rw [E.out]; rfl, hb1.step hb2⟩
    | false =>
      have HA := Lib.hid (fun (w' : World) (hq : Bel w w') => isAbove_v l h l' h' v u a b false w' h1 (hT.bel hq) ha hb hla hlb (hv.below hq) (hu.below hq))
      generalize h2 : above b a = q
      have HB := Lib.hid (fun (w' : World) (hq : Bel w w') => isAbove_v l' h' l h u v b a q w' h2 (hT.bel hq) hb ha hlb hla (hu.below hq) (hv.below hq))
      have E : Hid (cmpT a b = if q then -1 else 2) := by show _ = _; unfold cmpT; rw [if_neg hab, h1, h2]; rfl
      clear hab h1 h2
      cases q
      all_goals
        go_enter Tryd.func47, Tryd.ntmps47
        go_wp2_with fail
        refine HE.out.mono ?_; rintro e w1 ⟨rfl, hb1⟩
        go_wp2_with fail
        refine (HA.out _ hb1).mono ?_; rintro e w2 ⟨rfl, hb2⟩
        go_wp2_with fail
        refine (HB.out _ (hb1.step hb2)).mono ?_; rintro e w3 ⟨rfl, hb3⟩
        go_wp2_with fail
        go_ret
        exact ⟨by rw [E.out]; rfl, (hb1.step hb2).step hb3⟩

set_option maxRecDepth 100000 in
set_option maxHeartbeats 400000 in
theorem l3Compare_c (l h l' h' : Nat) (v u : Value) (a b : List Int) (w : World) (ha : a.length ≤ 1048576) (hb : b.length ≤ 1048576) (hla : lowT a) (hlb : lowT b) (hv : SlI l h w v a) (hu : SlI l' h' w u b) :
    Calls Tryd.prog 49 #[v, u] w (RetV w (.int .i64 (cmpT a b))) := by
  by_cases hab : a = b
  · have E := Lib.hid (cmpT_zero.2 hab)
    have HE := Lib.hid (l1Same_v l h l' h' v u a b true w (by simpa using hab) ha hb hv hu)
    clear hab
    go_enter Tryd.func49, Tryd.ntmps49
    go_wp2_with fail
    refine HE.out.mono ?_; rintro e w1 ⟨rfl, hb1⟩
    go_wp2_with fail
    go_ret
    exact ⟨by rw [E.out]; rfl, hb1⟩
  · have HE := Lib.hid (l1Same_v l h l' h' v u a b false w (by simpa using hab) ha hb hv hu)
    cases h1 : above a b with
    | true =>
      have E := Lib.hid (cmpT_one.2 h1)
      have HA := Lib.hid (fun (w' : World) (hq : Bel w w') => l3Greater_v l h l' h' v u a b true w' h1 ha hb hlb (hv.below hq) (hu.below hq))
      clear hab h1
      go_enter Tryd.func49, Tryd.ntmps49
      go_wp2_with fail
      refine HE.out.mono ?_; rintro e w1 ⟨rfl, hb1⟩
      go_wp2_with fail
      refine (HA.out _ hb1).mono ?_; rintro e w2 ⟨rfl, hb2⟩
      go_wp2_with fail
      go_ret
      exact ⟨by rw [E.out]; rfl, hb1.step hb2⟩
    | false =>
      have HA := Lib.hid (fun (w' : World) (hq : Bel w w') => l3Greater_v l h l' h' v u a b false w' h1 ha hb hlb (hv.below hq) (hu.below hq))
      generalize h2 : above b a = q
      have HB := Lib.hid (fun (w' : World) (hq : Bel w w') => l3Greater_v l' h' l h u v b a q w' h2 hb ha hla (hu.below hq) (hv.below hq))
      have E : Hid (cmpT a b = if q then -1 else 2) := by show _ = _; unfold cmpT; rw [if_neg hab, h1, h2]; rfl
      clear hab h1 h2
      cases q
      all_goals
        go_enter Tryd.func49, Tryd.ntmps49
        go_wp2_with fail
        refine HE.out.mono ?_; rintro e w1 ⟨rfl, hb1⟩
        go_wp2_with fail
        refine (HA.out _ hb1).mono ?_; rintro e w2 ⟨rfl, hb2⟩
        go_wp2_with fail
        refine (HB.out _ (hb1.step hb2)).mono ?_; rintro e w3 ⟨rfl, hb3⟩
        go_wp2_with fail
        go_ret
        exact ⟨by rw [E.out]; rfl, (hb1.step hb2).step hb3⟩

def cmpOk (ar a b : List Int) : Bool := goodTerm ar a && goodTerm ar b
theorem cmpOk_iff {ar a b : List Int} : cmpOk ar a b = true ↔ goodTerm ar a = true ∧ goodTerm ar b = true := by simp [cmpOk]
theorem cmpOk_swap (ar a b : List Int) : cmpOk ar a b = cmpOk ar b a := Bool.and_comm _ _
def cmpAns (ar a b : List Int) : Int := if cmpOk ar a b then cmpT a b else 0
def weiAns (ar a b : List Int) : Bool := cmpOk ar a b && (covers a b && decide (b.length < a.length))
theorem cmp_no {ar a b : List Int} (h : cmpOk ar a b = false) : cmpAns ar a b = 0 := by simp [cmpAns, h]
theorem cmp_yes {ar a b : List Int} (h : cmpOk ar a b = true) : cmpAns ar a b = cmpT a b := by simp [cmpAns, h]
theorem wei_no {ar a b : List Int} (h : cmpOk ar a b = false) : weiAns ar a b = false := by simp [weiAns, h]
theorem wei_yes {ar a b : List Int} (h : cmpOk ar a b = true) : weiAns ar a b = (covers a b && decide (b.length < a.length)) := by simp [weiAns, h]

set_option maxRecDepth 100000 in
set_option maxHeartbeats 400000 in
theorem iCompareTerms_t {l h l' h' l2 h2 : Nat} {v x y : Value} {ar a b : List Int} {w : World} (hT : Tab w) (ha : ar.length ≤ 1048576) (hv : SlI l h w v ar) (hal : a.length ≤ 1048576) (hx : SlI l' h' w x a) (hbl : b.length ≤ 1048576) (hy : SlI l2 h2 w y b) :
    Calls Tryd.prog 11 #[.agg #[v], x, y] w (RetV w (.tuple #[.int .i64 (cmpAns ar a b), .bool (cmpOk ar a b)])) := by
  obtain ⟨xa, xc, rfl⟩ := hx.form
  obtain ⟨ya, yc, rfl⟩ := hy.form
  cases hg1 : goodTerm ar a with
  | false =>
    have e0 : cmpOk ar a b = false := by simp [cmpOk, hg1]
    have E := Lib.hid (And.intro e0 (cmp_no e0))
    have H1 := Lib.hid (fun (w' : World) (hq : Bel w w') => iGoodTerm_v l h l' h' v _ ar a false w' hg1 ha hal (hv.below hq) (hx.below hq))
    clear hg1 e0
    rw [E.out.1, E.out.2]
    go_enter Tryd.func11, Tryd.ntmps11
    go_wp2_with fail
    refine (H1.out _ (Bel.alloc0 _ _)).mono ?_; rintro e w1 ⟨rfl, hb1⟩
    go_wp2_with fail
    go_ret2
    exact ⟨rfl, hb1.of_alloc⟩
  | true =>
    have H1 := Lib.hid (fun (w' : World) (hq : Bel w w') => iGoodTerm_v l h l' h' v _ ar a true w' hg1 ha hal (hv.below hq) (hx.below hq))
    cases hg2 : goodTerm ar b with
    | false =>
      have e0 : cmpOk ar a b = false := by simp [cmpOk, hg2]
      have E := Lib.hid (And.intro e0 (cmp_no e0))
      have H2 := Lib.hid (fun (w' : World) (hq : Bel w w') => iGoodTerm_v l h l2 h2 v _ ar b false w' hg2 ha hbl (hv.below hq) (hy.below hq))
      clear hg1 hg2 e0
      rw [E.out.1, E.out.2]
      go_enter Tryd.func11, Tryd.ntmps11
      go_wp2_with fail
      refine (H1.out _ (Bel.alloc0 _ _)).mono ?_; rintro e w1 ⟨rfl, hb1⟩
      have hx1 := boxc hb1 0 _ rfl
      go_wp2_with fail
      refine (H2.out _ hb1.of_alloc).mono ?_; rintro e w2 ⟨rfl, hb2⟩
      go_wp2_with fail
      go_ret2
      exact ⟨rfl, hb1.of_alloc.step hb2⟩
    | true =>
      have e0 : cmpOk ar a b = true := by simp [cmpOk, hg1, hg2]
      have hla := lowT.good hg1
      have hlb := lowT.good hg2
      have H2 := Lib.hid (fun (w' : World) (hq : Bel w w') => iGoodTerm_v l h l2 h2 v _ ar b true w' hg2 ha hbl (hv.below hq) (hy.below hq))
      have E := Lib.hid (And.intro e0 (cmp_yes e0))
      clear hg1 hg2 e0
      rw [E.out.1, E.out.2]
      have H3 := Lib.hid (fun (w' : World) (hq : Bel w w') => compared_c l' h' l2 h2 _ _ a b w' (hT.bel hq) hal hbl hla hlb (hx.below hq) (hy.below hq))
      go_enter Tryd.func11, Tryd.ntmps11
      go_wp2_with fail
      refine (H1.out _ (Bel.alloc0 _ _)).mono ?_; rintro e w1 ⟨rfl, hb1⟩
      have hx1 := boxc hb1 0 _ rfl
      go_wp2_with fail
      refine (H2.out _ hb1.of_alloc).mono ?_; rintro e w2 ⟨rfl, hb2⟩
      have hb12 := hb1.of_alloc.step hb2
      go_wp2_with fail
      refine (H3.out _ hb12).mono ?_; rintro e w3 ⟨rfl, hb3⟩
      go_wp2_with fail
      go_ret2
      exact ⟨rfl, hb12.step hb3⟩

set_option maxRecDepth 100000 in
set_option maxHeartbeats 400000 in
theorem iWeighsMore_t {l h l' h' l2 h2 : Nat} {v x y : Value} {ar a b : List Int} {w : World} (hT : Tab w) (ha : ar.length ≤ 1048576) (hv : SlI l h w v ar) (hal : a.length ≤ 1048576) (hx : SlI l' h' w x a) (hbl : b.length ≤ 1048576) (hy : SlI l2 h2 w y b) :
    Calls Tryd.prog 13 #[.agg #[v], x, y] w (RetV w (.tuple #[.bool (weiAns ar a b), .bool (cmpOk ar a b)])) := by
  obtain ⟨xa, xc, rfl⟩ := hx.form
  obtain ⟨ya, yc, rfl⟩ := hy.form
  cases hg1 : goodTerm ar a with
  | false =>
    have e0 : cmpOk ar a b = false := by simp [cmpOk, hg1]
    have E := Lib.hid (And.intro e0 (wei_no e0))
    have H1 := Lib.hid (fun (w' : World) (hq : Bel w w') => iGoodTerm_v l h l' h' v _ ar a false w' hg1 ha hal (hv.below hq) (hx.below hq))
    clear hg1 e0
    rw [E.out.1, E.out.2]
    go_enter Tryd.func13, Tryd.ntmps13
    go_wp2_with fail
    refine (H1.out _ (Bel.alloc0 _ _)).mono ?_; rintro e w1 ⟨rfl, hb1⟩
    go_wp2_with fail
    go_ret2
    exact ⟨rfl, hb1.of_alloc⟩
  | true =>
    have H1 := Lib.hid (fun (w' : World) (hq : Bel w w') => iGoodTerm_v l h l' h' v _ ar a true w' hg1 ha hal (hv.below hq) (hx.below hq))
    cases hg2 : goodTerm ar b with
    | false =>
      have e0 : cmpOk ar a b = false := by simp [cmpOk, hg2]
      have E := Lib.hid (And.intro e0 (wei_no e0))
      have H2 := Lib.hid (fun (w' : World) (hq : Bel w w') => iGoodTerm_v l h l2 h2 v _ ar b false w' hg2 ha hbl (hv.below hq) (hy.below hq))
      clear hg1 hg2 e0
      rw [E.out.1, E.out.2]
      go_enter Tryd.func13, Tryd.ntmps13
      go_wp2_with fail
      refine (H1.out _ (Bel.alloc0 _ _)).mono ?_; rintro e w1 ⟨rfl, hb1⟩
      have hx1 := boxc hb1 0 _ rfl
      go_wp2_with fail
      refine (H2.out _ hb1.of_alloc).mono ?_; rintro e w2 ⟨rfl, hb2⟩
      go_wp2_with fail
      go_ret2
      exact ⟨rfl, hb1.of_alloc.step hb2⟩
    | true =>
      have e0 : cmpOk ar a b = true := by simp [cmpOk, hg1, hg2]
      have hla := lowT.good hg1
      have hlb := lowT.good hg2
      have H2 := Lib.hid (fun (w' : World) (hq : Bel w w') => iGoodTerm_v l h l2 h2 v _ ar b true w' hg2 ha hbl (hv.below hq) (hy.below hq))
      have E := Lib.hid (And.intro e0 (wei_yes e0))
      clear hg1 hg2 e0
      rw [E.out.1, E.out.2]
      have H3 := Lib.hid (fun (q : Bool) (he : covers a b = q) (w' : World) (hq : Bel w w') => coversVars_v l' h' l2 h2 _ _ a b q w' he hal hbl hla hlb (hx.below hq) (hy.below hq))
      have HW := Lib.hid (fun (w' : World) (hq : Bel w w') => weightOf_c l' h' _ a w' (hT.bel hq) hal (hx.below hq))
      have HX := Lib.hid (fun (w' : World) (hq : Bel w w') => weightOf_c l2 h2 _ b w' (hT.bel hq) hbl (hy.below hq))
      cases hcv : covers a b with
      | false =>
        have H4 := Lib.hid (H3.out false hcv)
        clear hcv E
        go_enter Tryd.func13, Tryd.ntmps13
        go_wp2_with fail
        refine (H1.out _ (Bel.alloc0 _ _)).mono ?_; rintro e w1 ⟨rfl, hb1⟩
        have hx1 := boxc hb1 0 _ rfl
        go_wp2_with fail
        refine (H2.out _ hb1.of_alloc).mono ?_; rintro e w2 ⟨rfl, hb2⟩
        have hb12 := hb1.of_alloc.step hb2
        go_wp2_with fail
        refine (H4.out _ hb12).mono ?_; rintro e w3 ⟨rfl, hb3⟩
        go_wp2_with fail
        go_ret2
        exact ⟨rfl, hb12.step hb3⟩
      | true =>
        have H4 := Lib.hid (H3.out true hcv)
        clear hcv E
        go_enter Tryd.func13, Tryd.ntmps13
        go_wp2_with fail
        refine (H1.out _ (Bel.alloc0 _ _)).mono ?_; rintro e w1 ⟨rfl, hb1⟩
        have hx1 := boxc hb1 0 _ rfl
        go_wp2_with fail
        refine (H2.out _ hb1.of_alloc).mono ?_; rintro e w2 ⟨rfl, hb2⟩
        have hb12 := hb1.of_alloc.step hb2
        go_wp2_with fail
        refine (H4.out _ hb12).mono ?_; rintro e w3 ⟨rfl, hb3⟩
        have hb123 := hb12.step hb3
        go_wp2_with fail
        refine (HW.out _ hb123).mono ?_; rintro e w4 ⟨rfl, hb4⟩
        go_wp2_with fail
        refine (HX.out _ (hb123.step hb4)).mono ?_; rintro e w5 ⟨rfl, hb5⟩
        go_wp2_with fail
        go_ret2
        exact ⟨by simp, (hb123.step hb4).step hb5⟩

set_option maxRecDepth 100000 in
set_option maxHeartbeats 400000 in
theorem sCompareTerms_t {l h l' h' l2 h2 : Nat} {v x y : Value} {ar a b : List Int} {w : World} (ha : ar.length ≤ 1048576) (hv : SlI l h w v ar) (hal : a.length ≤ 1048576) (hx : SlI l' h' w x a) (hbl : b.length ≤ 1048576) (hy : SlI l2 h2 w y b) :
    Calls Tryd.prog 12 #[.agg #[v], x, y] w (RetV w (.tuple #[.int .i64 (cmpAns ar a b), .bool (cmpOk ar a b)])) := by
  obtain ⟨xa, xc, rfl⟩ := hx.form
  obtain ⟨ya, yc, rfl⟩ := hy.form
  cases hg1 : goodTerm ar a with
  | false =>
    have e0 : cmpOk ar a b = false := by simp [cmpOk, hg1]
    have E := Lib.hid (And.intro e0 (cmp_no e0))
    have H1 := Lib.hid (fun (w' : World) (hq : Bel w w') => sGoodTerm_v l h l' h' v _ ar a false w' hg1 ha hal (hv.below hq) (hx.below hq))
    clear hg1 e0
    rw [E.out.1, E.out.2]
    go_enter Tryd.func12, Tryd.ntmps12
    go_wp2_with fail
    refine (H1.out _ (Bel.alloc0 _ _)).mono ?_; rintro e w1 ⟨rfl, hb1⟩
    go_wp2_with fail
    go_ret2
    exact ⟨rfl, hb1.of_alloc⟩
  | true =>
    have H1 := Lib.hid (fun (w' : World) (hq : Bel w w') => sGoodTerm_v l h l' h' v _ ar a true w' hg1 ha hal (hv.below hq) (hx.below hq))
    cases hg2 : goodTerm ar b with
    | false =>
      have e0 : cmpOk ar a b = false := by simp [cmpOk, hg2]
      have E := Lib.hid (And.intro e0 (cmp_no e0))
      have H2 := Lib.hid (fun (w' : World) (hq : Bel w w') => l1Term_v l h l2 h2 v _ ar b false w' (by simpa [goodTerm, (goodTerm_iff.1 hg1).1] using hg2) (goodTerm_iff.1 hg1).1 hbl (hv.below hq) (hy.below hq))
      clear hg1 hg2 e0
      rw [E.out.1, E.out.2]
      go_enter Tryd.func12, Tryd.ntmps12
      go_wp2_with fail
      refine (H1.out _ (Bel.alloc0 _ _)).mono ?_; rintro e w1 ⟨rfl, hb1⟩
      have hx1 := boxc hb1 0 _ rfl
      go_wp2_with fail
      refine (H2.out _ hb1.of_alloc).mono ?_; rintro e w2 ⟨rfl, hb2⟩
      go_wp2_with fail
      go_ret2
      exact ⟨rfl, hb1.of_alloc.step hb2⟩
    | true =>
      have e0 : cmpOk ar a b = true := by simp [cmpOk, hg1, hg2]
      have hla := lowT.good hg1
      have hlb := lowT.good hg2
      have H2 := Lib.hid (fun (w' : World) (hq : Bel w w') => l1Term_v l h l2 h2 v _ ar b true w' (by simpa [goodTerm, (goodTerm_iff.1 hg1).1] using hg2) (goodTerm_iff.1 hg1).1 hbl (hv.below hq) (hy.below hq))
      have E := Lib.hid (And.intro e0 (cmp_yes e0))
      clear hg1 hg2 e0
      rw [E.out.1, E.out.2]
      have H3 := Lib.hid (fun (w' : World) (hq : Bel w w') => l3Compare_c l' h' l2 h2 _ _ a b w' hal hbl hla hlb (hx.below hq) (hy.below hq))
      go_enter Tryd.func12, Tryd.ntmps12
      go_wp2_with fail
      refine (H1.out _ (Bel.alloc0 _ _)).mono ?_; rintro e w1 ⟨rfl, hb1⟩
      have hx1 := boxc hb1 0 _ rfl
      go_wp2_with fail
      refine (H2.out _ hb1.of_alloc).mono ?_; rintro e w2 ⟨rfl, hb2⟩
      have hb12 := hb1.of_alloc.step hb2
      go_wp2_with fail
      refine (H3.out _ hb12).mono ?_; rintro e w3 ⟨rfl, hb3⟩
      go_wp2_with fail
      go_ret2
      exact ⟨rfl, hb12.step hb3⟩

set_option maxRecDepth 100000 in
set_option maxHeartbeats 400000 in
theorem sWeighsMore_t {l h l' h' l2 h2 : Nat} {v x y : Value} {ar a b : List Int} {w : World} (ha : ar.length ≤ 1048576) (hv : SlI l h w v ar) (hal : a.length ≤ 1048576) (hx : SlI l' h' w x a) (hbl : b.length ≤ 1048576) (hy : SlI l2 h2 w y b) :
    Calls Tryd.prog 14 #[.agg #[v], x, y] w (RetV w (.tuple #[.bool (weiAns ar a b), .bool (cmpOk ar a b)])) := by
  obtain ⟨xa, xc, rfl⟩ := hx.form
  obtain ⟨ya, yc, rfl⟩ := hy.form
  cases hg1 : goodTerm ar a with
  | false =>
    have e0 : cmpOk ar a b = false := by simp [cmpOk, hg1]
    have E := Lib.hid (And.intro e0 (wei_no e0))
    have H1 := Lib.hid (fun (w' : World) (hq : Bel w w') => sGoodTerm_v l h l' h' v _ ar a false w' hg1 ha hal (hv.below hq) (hx.below hq))
    clear hg1 e0
    rw [E.out.1, E.out.2]
    go_enter Tryd.func14, Tryd.ntmps14
    go_wp2_with fail
    refine (H1.out _ (Bel.alloc0 _ _)).mono ?_; rintro e w1 ⟨rfl, hb1⟩
    go_wp2_with fail
    go_ret2
    exact ⟨rfl, hb1.of_alloc⟩
  | true =>
    have H1 := Lib.hid (fun (w' : World) (hq : Bel w w') => sGoodTerm_v l h l' h' v _ ar a true w' hg1 ha hal (hv.below hq) (hx.below hq))
    cases hg2 : goodTerm ar b with
    | false =>
      have e0 : cmpOk ar a b = false := by simp [cmpOk, hg2]
      have E := Lib.hid (And.intro e0 (wei_no e0))
      have H2 := Lib.hid (fun (w' : World) (hq : Bel w w') => l1Term_v l h l2 h2 v _ ar b false w' (by simpa [goodTerm, (goodTerm_iff.1 hg1).1] using hg2) (goodTerm_iff.1 hg1).1 hbl (hv.below hq) (hy.below hq))
      clear hg1 hg2 e0
      rw [E.out.1, E.out.2]
      go_enter Tryd.func14, Tryd.ntmps14
      go_wp2_with fail
      refine (H1.out _ (Bel.alloc0 _ _)).mono ?_; rintro e w1 ⟨rfl, hb1⟩
      have hx1 := boxc hb1 0 _ rfl
      go_wp2_with fail
      refine (H2.out _ hb1.of_alloc).mono ?_; rintro e w2 ⟨rfl, hb2⟩
      go_wp2_with fail
      go_ret2
      exact ⟨rfl, hb1.of_alloc.step hb2⟩
    | true =>
      have e0 : cmpOk ar a b = true := by simp [cmpOk, hg1, hg2]
      have hla := lowT.good hg1
      have hlb := lowT.good hg2
      have H2 := Lib.hid (fun (w' : World) (hq : Bel w w') => l1Term_v l h l2 h2 v _ ar b true w' (by simpa [goodTerm, (goodTerm_iff.1 hg1).1] using hg2) (goodTerm_iff.1 hg1).1 hbl (hv.below hq) (hy.below hq))
      have E := Lib.hid (And.intro e0 (wei_yes e0))
      clear hg1 hg2 e0
      rw [E.out.1, E.out.2]
      have H3 := Lib.hid (fun (q : Bool) (he : covers a b = q) (w' : World) (hq : Bel w w') => l3Weighs_v l' h' l2 h2 _ _ a b q w' he hal hbl hlb (hx.below hq) (hy.below hq))
      cases hcv : covers a b with
      | false =>
        have H4 := Lib.hid (H3.out false hcv)
        clear hcv E
        go_enter Tryd.func14, Tryd.ntmps14
        go_wp2_with fail
        refine (H1.out _ (Bel.alloc0 _ _)).mono ?_; rintro e w1 ⟨rfl, hb1⟩
        have hx1 := boxc hb1 0 _ rfl
        go_wp2_with fail
        refine (H2.out _ hb1.of_alloc).mono ?_; rintro e w2 ⟨rfl, hb2⟩
        have hb12 := hb1.of_alloc.step hb2
        go_wp2_with fail
        refine (H4.out _ hb12).mono ?_; rintro e w3 ⟨rfl, hb3⟩
        go_wp2_with fail
        go_ret2
        exact ⟨rfl, hb12.step hb3⟩
      | true =>
        have H4 := Lib.hid (H3.out true hcv)
        clear hcv E
        go_enter Tryd.func14, Tryd.ntmps14
        go_wp2_with fail
        refine (H1.out _ (Bel.alloc0 _ _)).mono ?_; rintro e w1 ⟨rfl, hb1⟩
        have hx1 := boxc hb1 0 _ rfl
        go_wp2_with fail
        refine (H2.out _ hb1.of_alloc).mono ?_; rintro e w2 ⟨rfl, hb2⟩
        have hb12 := hb1.of_alloc.step hb2
        go_wp2_with fail
        refine (H4.out _ hb12).mono ?_; rintro e w3 ⟨rfl, hb3⟩
        have hb123 := hb12.step hb3
        go_wp2_with fail
        go_ret2
        exact ⟨by simp, hb123⟩
end Go.Proofs.YtkbgglejhdodoaaDoor
