/- Texts merged, part 7. -/
import Derived.IntWalk
import Derived.Test.YtajmjjandkdhiabDoorMgOrder6
section
/- CompareTerms, WeighsMore: both functions. -/
namespace Go.Proofs.YtajmjjandkdhiabDoor
open Go.RowKit

theorem lowT.good {ar t : List Int} (h : goodTerm ar t = true) : lowT t := low_of_good h

set_option maxRecDepth 100000 in
set_option maxHeartbeats 400000 in
theorem compared_c (l h l' h' : Nat) (v u : Value) (a b : List Int) (w : World) (hT : Tab w) (ha : a.length ≤ 1048576) (hb : b.length ≤ 1048576) (hla : lowT a) (hlb : lowT b) (hv : SlI l h w v a) (hu : SlI l' h' w u b) :
    Calls Tryd.prog 25 #[v, u] w (RetV w (.int .i64 (cmpT a b))) := by
  by_cases hab : a = b
  · have E := Lib.hid (cmpT_zero.2 hab)
    have HE := Lib.hid (slEqual_v l h l' h' v u a b true w (by simpa using hab) ha hb hv hu)
    clear hab
    go_enter Tryd.func25, Tryd.ntmps25
    go_wp2_with fail
    refine HE.out.mono ?_; rintro e w1 ⟨rfl, hb1⟩
    go_wp2_with fail
    go_ret
    exact ⟨by rw [E.out]; rfl, hb1⟩
  · have HE := Lib.hid (slEqual_v l h l' h' v u a b false w (by simpa using hab) ha hb hv hu)
    cases h1 : above a b with
    | true =>
      have E := Lib.hid (cmpT_one.2 h1)
      have HA := Lib.hid (fun (w' : World) (hq : Bel w w') => isAbove_v l h l' h' v u a b true w' h1 (hT.bel hq) ha hb hla hlb (hv.below hq) (hu.below hq))
      clear hab h1
      go_enter Tryd.func25, Tryd.ntmps25
      go_wp2_with fail
      refine HE.out.mono ?_; rintro e w1 ⟨rfl, hb1⟩
      go_wp2_with fail
      refine (HA.out _ hb1).mono ?_; rintro e w2 ⟨rfl, hb2⟩
      go_wp2_with fail
      go_ret
      exact ⟨by rw [E.out]; rfl, hb1.step hb2⟩
    | false =>
      have HA := Lib.hid (fun (w' : World) (hq : Bel w w') => isAbove_v l h l' h' v u a b false w' h1 (hT.bel hq) ha hb hla hlb (hv.below hq) (hu.below hq))
      generalize h2 : above b a = q
      have HB := Lib.hid (fun (w' : World) (hq : Bel w w') => isAbove_v l' h' l h u v b a q w' h2 (hT.bel hq) hb ha hlb hla (hu.below hq) (hv.below hq))
      have E : Hid (cmpT a b = if q then -1 else 2) := by show _ = _; unfold cmpT; rw [if_neg hab, h1, h2]; rfl
      clear hab h1 h2
      cases q
      all_goals
        go_enter Tryd.func25, Tryd.ntmps25
        go_wp2_with fail
        refine HE.out.mono ?_; rintro e w1 ⟨rfl, hb1⟩
        go_wp2_with fail
        refine (HA.out _ hb1).mono ?_; rintro e w2 ⟨rfl, hb2⟩
        go_wp2_with fail
        refine (HB.out _ (hb1.step hb2)).mono ?_; rintro e w3 ⟨rfl, hb3⟩
        go_wp2_with fail
        go_ret
        exact ⟨by rw [E.out]; rfl, (hb1.step hb2).step hb3⟩

set_option maxRecDepth 100000 in
set_option maxHeartbeats 400000 in
theorem l3Compare_c (l h l' h' : Nat) (v u : Value) (a b : List Int) (w : World) (ha : a.length ≤ 1048576) (hb : b.length ≤ 1048576) (hla : lowT a) (hlb : lowT b) (hv : SlI l h w v a) (hu : SlI l' h' w u b) :
    Calls Tryd.prog 27 #[v, u] w (RetV w (.int .i64 (cmpT a b))) := by
  by_cases hab : a = b
  · have E := Lib.hid (cmpT_zero.2 hab)
    have HE := Lib.hid (l1Same_v l h l' h' v u a b true w (by simpa using hab) ha hb hv hu)
    clear hab
    go_enter Tryd.func27, Tryd.ntmps27
    go_wp2_with fail
    refine HE.out.mono ?_; rintro e w1 ⟨rfl, hb1⟩
    go_wp2_with fail
    go_ret
    exact ⟨by rw [E.out]; rfl, hb1⟩
  · have HE := Lib.hid (l1Same_v l h l' h' v u a b false w (by simpa using hab) ha hb hv hu)
    cases h1 : above a b with
    | true =>
      have E := Lib.hid (cmpT_one.2 h1)
      have HA := Lib.hid (fun (w' : World) (hq : Bel w w') => l3Greater_v l h l' h' v u a b true w' h1 ha hb hlb (hv.below hq) (hu.below hq))
      clear hab h1
      go_enter Tryd.func27, Tryd.ntmps27
      go_wp2_with fail
      refine HE.out.mono ?_; rintro e w1 ⟨rfl, hb1⟩
      go_wp2_with fail
      refine (HA.out _ hb1).mono ?_; rintro e w2 ⟨rfl, hb2⟩
      go_wp2_with fail
      go_ret
      exact ⟨by rw [E.out]; rfl, hb1.step hb2⟩
    | false =>
      have HA := Lib.hid (fun (w' : World) (hq : Bel w w') => l3Greater_v l h l' h' v u a b false w' h1 ha hb hlb (hv.below hq) (hu.below hq))
      generalize h2 : above b a = q
      have HB := Lib.hid (fun (w' : World) (hq : Bel w w') => l3Greater_v l' h' l h u v b a q w' h2 hb ha hla (hu.below hq) (hv.below hq))
      have E : Hid (cmpT a b = if q then -1 else 2) := by show _ = _; unfold cmpT; rw [if_neg hab, h1, h2]; rfl
      clear hab h1 h2
      cases q
      all_goals
        go_enter Tryd.func27, Tryd.ntmps27
        go_wp2_with fail
        refine HE.out.mono ?_; rintro e w1 ⟨rfl, hb1⟩
        go_wp2_with fail
        refine (HA.out _ hb1).mono ?_; rintro e w2 ⟨rfl, hb2⟩
        go_wp2_with fail
        refine (HB.out _ (hb1.step hb2)).mono ?_; rintro e w3 ⟨rfl, hb3⟩
        go_wp2_with fail
        go_ret
        exact ⟨by rw [E.out]; rfl, (hb1.step hb2).step hb3⟩

def cmpOk (ar a b : List Int) : Bool := goodTerm ar a && goodTerm ar b
theorem cmpOk_iff {ar a b : List Int} : cmpOk ar a b = true ↔ goodTerm ar a = true ∧ goodTerm ar b = true := by simp [cmpOk]
theorem cmpOk_swap (ar a b : List Int) : cmpOk ar a b = cmpOk ar b a := Bool.and_comm _ _
def cmpAns (ar a b : List Int) : Int := if cmpOk ar a b then cmpT a b else 0
def weiAns (ar a b : List Int) : Bool := cmpOk ar a b && (covers a b && decide (b.length < a.length))
theorem cmp_no {ar a b : List Int} (h : cmpOk ar a b = false) : cmpAns ar a b = 0 := by simp [cmpAns, h]
theorem cmp_yes {ar a b : List Int} (h : cmpOk ar a b = true) : cmpAns ar a b = cmpT a b := by simp [cmpAns, h]
theorem wei_no {ar a b : List Int} (h : cmpOk ar a b = false) : weiAns ar a b = false := by simp [weiAns, h]
theorem wei_yes {ar a b : List Int} (h : cmpOk ar a b = true) : weiAns ar a b = (covers a b && decide (b.length < a.length)) := by simp [weiAns, h]

set_option maxRecDepth 100000 in
set_option maxHeartbeats 400000 in
theorem iCompareTerms_t {l h l' h' l2 h2 : Nat} {v x y : Value} {ar a b : List Int} {w : World} (hT : Tab w) (ha : ar.length ≤ 1048576) (hv : SlI l h w v ar) (hal : a.length ≤ 1048576) (hx : SlI l' h' w x a) (hbl : b.length ≤ 1048576) (hy : SlI l2 h2 w y b) :
    Calls Tryd.prog 6 #[.agg #[v], x, y] w (RetV w (.tuple #[.int .i64 (cmpAns ar a b), .bool (cmpOk ar a b)])) := by
  obtain ⟨xa, xc, rfl⟩ := hx.form
  obtain ⟨ya, yc, rfl⟩ := hy.form
  cases hg1 : goodTerm ar a with
  | false =>
    have e0 : cmpOk ar a b = false := by simp [cmpOk, hg1]
    have E := Lib.hid (And.intro e0 (cmp_no e0))
    have H1 := Lib.hid (fun (w' : World) (hq : Bel w w') => iGoodTerm_v l h l' h' v _ ar a false w' hg1 ha hal (hv.below hq) (hx.below hq))
    clear hg1 e0
    rw [E.out.1, E.out.2]
    go_enter Tryd.func6, Tryd.ntmps6
    go_wp2_with fail
    refine (H1.out _ (Bel.alloc0 _ _)).mono ?_; rintro e w1 ⟨rfl, hb1⟩
    go_wp2_with fail
    go_ret2
    exact ⟨rfl, hb1.of_alloc⟩
  | true =>
    have H1 := Lib.hid (fun (w' : World) (hq : Bel w w') => iGoodTerm_v l h l' h' v _ ar a true w' hg1 ha hal (hv.below hq) (hx.below hq))
    cases hg2 : goodTerm ar b with
    | false =>
      have e0 : cmpOk ar a b = false := by simp [cmpOk, hg2]
      have E := Lib.hid (And.intro e0 (cmp_no e0))
      have H2 := Lib.hid (fun (w' : World) (hq : Bel w w') => iGoodTerm_v l h l2 h2 v _ ar b false w' hg2 ha hbl (hv.below hq) (hy.below hq))
      clear hg1 hg2 e0
      rw [E.out.1, E.out.2]
      go_enter Tryd.func6, Tryd.ntmps6
      go_wp2_with fail
      refine (H1.out _ (Bel.alloc0 _ _)).mono ?_; rintro e w1 ⟨rfl, hb1⟩
      have hx1 := boxc hb1 0 _ rfl
      go_wp2_with fail
      refine (H2.out _ hb1.of_alloc).mono ?_; rintro e w2 ⟨rfl, hb2⟩
      go_wp2_with fail
      go_ret2
      exact ⟨rfl, hb1.of_alloc.step hb2⟩
    | true =>
      have e0 : cmpOk ar a b = true := by simp [cmpOk, hg1, hg2]
      have hla := lowT.good hg1
      have hlb := lowT.good hg2
      have H2 := Lib.hid (fun (w' : World) (hq : Bel w w') => iGoodTerm_v l h l2 h2 v _ ar b true w' hg2 ha hbl (hv.below hq) (hy.below hq))
      have E := Lib.hid (And.intro e0 (cmp_yes e0))
      clear hg1 hg2 e0
      rw [E.out.1, E.out.2]
      have H3 := Lib.hid (fun (w' : World) (hq : Bel w w') => compared_c l' h' l2 h2 _ _ a b w' (hT.bel hq) hal hbl hla hlb (hx.below hq) (hy.below hq))
      go_enter Tryd.func6, Tryd.ntmps6
      go_wp2_with fail
      refine (H1.out _ (Bel.alloc0 _ _)).mono ?_; rintro e w1 ⟨rfl, hb1⟩
      have hx1 := boxc hb1 0 _ rfl
      go_wp2_with fail
      refine (H2.out _ hb1.of_alloc).mono ?_; rintro e w2 ⟨rfl, hb2⟩
      have hb12 := hb1.of_alloc.step hb2
      go_wp2_with fail
      refine (H3.out _ hb12).mono ?_; rintro e w3 ⟨rfl, hb3⟩
      go_wp2_with fail
      go_ret2
      exact ⟨rfl, hb12.step hb3⟩

set_option maxRecDepth 100000 in
set_option maxHeartbeats 400000 in
theorem iWeighsMore_t {l h l' h' l2 h2 : Nat} {v x y : Value} {ar a b : List Int} {w : World} (hT : Tab w) (ha : ar.length ≤ 1048576) (hv : SlI l h w v ar) (hal : a.length ≤ 1048576) (hx : SlI l' h' w x a) (hbl : b.length ≤ 1048576) (hy : SlI l2 h2 w y b) :
    Calls Tryd.prog 8 #[.agg #[v], x, y] w (RetV w (.tuple #[.bool (weiAns ar a b), .bool (cmpOk ar a b)])) := by
  obtain ⟨xa, xc, rfl⟩ := hx.form
  obtain ⟨ya, yc, rfl⟩ := hy.form
  cases hg1 : goodTerm ar a with
  | false =>
    have e0 : cmpOk ar a b = false := by simp [cmpOk, hg1]
    have E := Lib.hid (And.intro e0 (wei_no e0))
    have H1 := Lib.hid (fun (w' : World) (hq : Bel w w') => iGoodTerm_v l h l' h' v _ ar a false w' hg1 ha hal (hv.below hq) (hx.below hq))
    clear hg1 e0
    rw [E.out.1, E.out.2]
    go_enter Tryd.func8, Tryd.ntmps8
    go_wp2_with fail
    refine (H1.out _ (Bel.alloc0 _ _)).mono ?_; rintro e w1 ⟨rfl, hb1⟩
    go_wp2_with fail
    go_ret2
    exact ⟨rfl, hb1.of_alloc⟩
  | true =>
    have H1 := Lib.hid (fun (w' : World) (hq : Bel w w') => iGoodTerm_v l h l' h' v _ ar a true w' hg1 ha hal (hv.below hq) (hx.below hq))
    cases hg2 : goodTerm ar b with
    | false =>
      have e0 : cmpOk ar a b = false := by simp [cmpOk, hg2]
      have E := Lib.hid (And.intro e0 (wei_no e0))
      have H2 := Lib.hid (fun (w' : World) (hq : Bel w w') => iGoodTerm_v l h l2 h2 v _ ar b false w' hg2 ha hbl (hv.below hq) (hy.below hq))
      clear hg1 hg2 e0
      rw [E.out.1, E.out.2]
      go_enter Tryd.func8, Tryd.ntmps8
      go_wp2_with fail
      refine (H1.out _ (Bel.alloc0 _ _)).mono ?_; rintro e w1 ⟨rfl, hb1⟩
      have hx1 := boxc hb1 0 _ rfl
      go_wp2_with fail
      refine (H2.out _ hb1.of_alloc).mono ?_; rintro e w2 ⟨rfl, hb2⟩
      go_wp2_with fail
      go_ret2
      exact ⟨rfl, hb1.of_alloc.step hb2⟩
    | true =>
      have e0 : cmpOk ar a b = true := by simp [cmpOk, hg1, hg2]
      have hla := lowT.good hg1
      have hlb := lowT.good hg2
      have H2 := Lib.hid (fun (w' : World) (hq : Bel w w') => iGoodTerm_v l h l2 h2 v _ ar b true w' hg2 ha hbl (hv.below hq) (hy.below hq))
      have E := Lib.hid (And.intro e0 (wei_yes e0))
      clear hg1 hg2 e0
      rw [E.out.1, E.out.2]
      have H3 := Lib.hid (fun (q : Bool) (he : covers a b = q) (w' : World) (hq : Bel w w') => coversVars_v l' h' l2 h2 _ _ a b q w' he hal hbl hla hlb (hx.below hq) (hy.below hq))
      have HW := Lib.hid (fun (w' : World) (hq : Bel w w') => weightOf_c l' h' _ a w' (hT.bel hq) hal (hx.below hq))
      have HX := Lib.hid (fun (w' : World) (hq : Bel w w') => weightOf_c l2 h2 _ b w' (hT.bel hq) hbl (hy.below hq))
      cases hcv : covers a b with
      | false =>
        have H4 := Lib.hid (H3.out false hcv)
        clear hcv E
        go_enter Tryd.func8, Tryd.ntmps8
        go_wp2_with fail
        refine (H1.out _ (Bel.alloc0 _ _)).mono ?_; rintro e w1 ⟨rfl, hb1⟩
        have hx1 := boxc hb1 0 _ rfl
        go_wp2_with fail
        refine (H2.out _ hb1.of_alloc).mono ?_; rintro e w2 ⟨rfl, hb2⟩
        have hb12 := hb1.of_alloc.step hb2
        go_wp2_with fail
        refine (H4.out _ hb12).mono ?_; rintro e w3 ⟨rfl, hb3⟩
        go_wp2_with fail
        go_ret2
        exact ⟨rfl, hb12.step hb3⟩
      | true =>
        have H4 := Lib.hid (H3.out true hcv)
        clear hcv E
        go_enter Tryd.func8, Tryd.ntmps8
        go_wp2_with fail
        refine (H1.out _ (Bel.alloc0 _ _)).mono ?_; rintro e w1 ⟨rfl, hb1⟩
        have hx1 := boxc hb1 0 _ rfl
        go_wp2_with fail
        refine (H2.out _ hb1.of_alloc).mono ?_; rintro e w2 ⟨rfl, hb2⟩
        have hb12 := hb1.of_alloc.step hb2
        go_wp2_with fail
        refine (H4.out _ hb12).mono ?_; rintro e w3 ⟨rfl, hb3⟩
        have hb123 := hb12.step hb3
        go_wp2_with fail
        refine (HW.out _ hb123).mono ?_; rintro e w4 ⟨rfl, hb4⟩
        go_wp2_with fail
        refine (HX.out _ (hb123.step hb4)).mono ?_; rintro e w5 ⟨rfl, hb5⟩
        go_wp2_with fail
        go_ret2
        exact ⟨by simp, (hb123.step hb4).step hb5⟩

set_option maxRecDepth 100000 in
set_option maxHeartbeats 400000 in
theorem sCompareTerms_t {l h l' h' l2 h2 : Nat} {v x y : Value} {ar a b : List Int} {w : World} (ha : ar.length ≤ 1048576) (hv : SlI l h w v ar) (hal : a.length ≤ 1048576) (hx : SlI l' h' w x a) (hbl : b.length ≤ 1048576) (hy : SlI l2 h2 w y b) :
    Calls Tryd.prog 7 #[.agg #[v], x, y] w (RetV w (.tuple #[.int .i64 (cmpAns ar a b), .bool (cmpOk ar a b)])) := by
  obtain ⟨xa, xc, rfl⟩ := hx.form
  obtain ⟨ya, yc, rfl⟩ := hy.form
  cases hg1 : goodTerm ar a with
  | false =>
    have e0 : cmpOk ar a b = false := by simp [cmpOk, hg1]
    have E := Lib.hid (And.intro e0 (cmp_no e0))
    have H1 := Lib.hid (fun (w' : World) (hq : Bel w w') => sGoodTerm_v l h l' h' v _ ar a false w' hg1 ha hal (hv.below hq) (hx.below hq))
    clear hg1 e0
    rw [E.out.1, E.out.2]
    go_enter Tryd.func7, Tryd.ntmps7
    go_wp2_with fail
    refine (H1.out _ (Bel.alloc0 _ _)).mono ?_; rintro e w1 ⟨rfl, hb1⟩
    go_wp2_with fail
    go_ret2
    exact ⟨rfl, hb1.of_alloc⟩
  | true =>
    have H1 := Lib.hid (fun (w' : World) (hq : Bel w w') => sGoodTerm_v l h l' h' v _ ar a true w' hg1 ha hal (hv.below hq) (hx.below hq))
    cases hg2 : goodTerm ar b with
    | false =>
      have e0 : cmpOk ar a b = false := by simp [cmpOk, hg2]
      have E := Lib.hid (And.intro e0 (cmp_no e0))
      have H2 := Lib.hid (fun (w' : World) (hq : Bel w w') => l1Term_v l h l2 h2 v _ ar b false w' (by simpa [goodTerm, (goodTerm_iff.1 hg1).1] using hg2) (goodTerm_iff.1 hg1).1 hbl (hv.below hq) (hy.below hq))
      clear hg1 hg2 e0
      rw [E.out.1, E.out.2]
      go_enter Tryd.func7, Tryd.ntmps7
      go_wp2_with fail
      refine (H1.out _ (Bel.alloc0 _ _)).mono ?_; rintro e w1 ⟨rfl, hb1⟩
      have hx1 := boxc hb1 0 _ rfl
      go_wp2_with fail
      refine (H2.out _ hb1.of_alloc).mono ?_; rintro e w2 ⟨rfl, hb2⟩
      go_wp2_with fail
      go_ret2
      exact ⟨rfl, hb1.of_alloc.step hb2⟩
    | true =>
      have e0 : cmpOk ar a b = true := by simp [cmpOk, hg1, hg2]
      have hla := lowT.good hg1
      have hlb := lowT.good hg2
      have H2 := Lib.hid (fun (w' : World) (hq : Bel w w') => l1Term_v l h l2 h2 v _ ar b true w' (by simpa [goodTerm, (goodTerm_iff.1 hg1).1] using hg2) (goodTerm_iff.1 hg1).1 hbl (hv.below hq) (hy.below hq))
      have E := Lib.hid (And.intro e0 (cmp_yes e0))
      clear hg1 hg2 e0
      rw [E.out.1, E.out.2]
      have H3 := Lib.hid (fun (w' : World) (hq : Bel w w') => l3Compare_c l' h' l2 h2 _ _ a b w' hal hbl hla hlb (hx.below hq) (hy.below hq))
      go_enter Tryd.func7, Tryd.ntmps7
      go_wp2_with fail
      refine (H1.out _ (Bel.alloc0 _ _)).mono ?_; rintro e w1 ⟨rfl, hb1⟩
      have hx1 := boxc hb1 0 _ rfl
      go_wp2_with fail
      refine (H2.out _ hb1.of_alloc).mono ?_; rintro e w2 ⟨rfl, hb2⟩
      have hb12 := hb1.of_alloc.step hb2
      go_wp2_with fail
      refine (H3.out _ hb12).mono ?_; rintro e w3 ⟨rfl, hb3⟩
      go_wp2_with fail
      go_ret2
      exact ⟨rfl, hb12.step hb3⟩

set_option maxRecDepth 100000 in
set_option maxHeartbeats 400000 in
theorem sWeighsMore_t {l h l' h' l2 h2 : Nat} {v x y : Value} {ar a b : List Int} {w : World} (ha : ar.length ≤ 1048576) (hv : SlI l h w v ar) (hal : a.length ≤ 1048576) (hx : SlI l' h' w x a) (hbl : b.length ≤ 1048576) (hy : SlI l2 h2 w y b) :
    Calls Tryd.prog 9 #[.agg #[v], x, y] w (RetV w (.tuple #[.bool (weiAns ar a b), .bool (cmpOk ar a b)])) := by
  obtain ⟨xa, xc, rfl⟩ := hx.form
  obtain ⟨ya, yc, rfl⟩ := hy.form
  cases hg1 : goodTerm ar a with
  | false =>
    have e0 : cmpOk ar a b = false := by simp [cmpOk, hg1]
    have E := Lib.hid (And.intro e0 (wei_no e0))
    have H1 := Lib.hid (fun (w' : World) (hq : Bel w w') => sGoodTerm_v l h l' h' v _ ar a false w' hg1 ha hal (hv.below hq) (hx.below hq))
    clear hg1 e0
    rw [E.out.1, E.out.2]
    go_enter Tryd.func9, Tryd.ntmps9
    go_wp2_with fail
    refine (H1.out _ (Bel.alloc0 _ _)).mono ?_; rintro e w1 ⟨rfl, hb1⟩
    go_wp2_with fail
    go_ret2
    exact ⟨rfl, hb1.of_alloc⟩
  | true =>
    have H1 := Lib.hid (fun (w' : World) (hq : Bel w w') => sGoodTerm_v l h l' h' v _ ar a true w' hg1 ha hal (hv.below hq) (hx.below hq))
    cases hg2 : goodTerm ar b with
    | false =>
      have e0 : cmpOk ar a b = false := by simp [cmpOk, hg2]
      have E := Lib.hid (And.intro e0 (wei_no e0))
      have H2 := Lib.hid (fun (w' : World) (hq : Bel w w') => l1Term_v l h l2 h2 v _ ar b false w' (by simpa [goodTerm, (goodTerm_iff.1 hg1).1] using hg2) (goodTerm_iff.1 hg1).1 hbl (hv.below hq) (hy.below hq))
      clear hg1 hg2 e0
      rw [E.out.1, E.out.2]
      go_enter Tryd.func9, Tryd.ntmps9
      go_wp2_with fail
      refine (H1.out _ (Bel.alloc0 _ _)).mono ?_; rintro e w1 ⟨rfl, hb1⟩
      have hx1 := boxc hb1 0 _ rfl
      go_wp2_with fail
      refine (H2.out _ hb1.of_alloc).mono ?_; rintro e w2 ⟨rfl, hb2⟩
      go_wp2_with fail
      go_ret2
      exact ⟨rfl, hb1.of_alloc.step hb2⟩
    | true =>
      have e0 : cmpOk ar a b = true := by simp [cmpOk, hg1, hg2]
      have hla := lowT.good hg1
      have hlb := lowT.good hg2
      have H2 := Lib.hid (fun (w' : World) (hq : Bel w w') => l1Term_v l h l2 h2 v _ ar b true w' (by simpa [goodTerm, (goodTerm_iff.1 hg1).1] using hg2) (goodTerm_iff.1 hg1).1 hbl (hv.below hq) (hy.below hq))
      have E := Lib.hid (And.intro e0 (wei_yes e0))
      clear hg1 hg2 e0
      rw [E.out.1, E.out.2]
      have H3 := Lib.hid (fun (q : Bool) (he : covers a b = q) (w' : World) (hq : Bel w w') => l3Weighs_v l' h' l2 h2 _ _ a b q w' he hal hbl hlb (hx.below hq) (hy.below hq))
      cases hcv : covers a b with
      | false =>
        have H4 := Lib.hid (H3.out false hcv)
        clear hcv E
        go_enter Tryd.func9, Tryd.ntmps9
        go_wp2_with fail
        refine (H1.out _ (Bel.alloc0 _ _)).mono ?_; rintro e w1 ⟨rfl, hb1⟩
        have hx1 := boxc hb1 0 _ rfl
        go_wp2_with fail
        refine (H2.out _ hb1.of_alloc).mono ?_; rintro e w2 ⟨rfl, hb2⟩
        have hb12 := hb1.of_alloc.step hb2
        go_wp2_with fail
        refine (H4.out _ hb12).mono ?_; rintro e w3 ⟨rfl, hb3⟩
        go_wp2_with fail
        go_ret2
        exact ⟨rfl, hb12.step hb3⟩
      | true =>
        have H4 := Lib.hid (H3.out true hcv)
        clear hcv E
        go_enter Tryd.func9, Tryd.ntmps9
        go_wp2_with fail
        refine (H1.out _ (Bel.alloc0 _ _)).mono ?_; rintro e w1 ⟨rfl, hb1⟩
        have hx1 := boxc hb1 0 _ rfl
        go_wp2_with fail
        refine (H2.out _ hb1.of_alloc).mono ?_; rintro e w2 ⟨rfl, hb2⟩
        have hb12 := hb1.of_alloc.step hb2
        go_wp2_with fail
        refine (H4.out _ hb12).mono ?_; rintro e w3 ⟨rfl, hb3⟩
        have hb123 := hb12.step hb3
        go_wp2_with fail
        go_ret2
        exact ⟨by simp, hb123⟩
end Go.Proofs.YtajmjjandkdhiabDoor
end
section
/- l2Apply's result as a row of the call's own. -/
namespace Go.Proofs.YtajmjjandkdhiabDoor
open Go.RowKit
end Go.Proofs.YtajmjjandkdhiabDoor
end
section
/- ReplaceAt: both functions. -/
namespace Go.Proofs.YtajmjjandkdhiabDoor
open Go.RowKit

def replIn (ar t : List Int) (i : Int) (u : List Int) : List Int := replaced t i.toNat ((endOf ar t i.toNat).getD 0) u
def replOk (ar t : List Int) (i : Int) (u : List Int) : Bool := askOk ar t i && okTerm ar u && okTerm ar (replIn ar t i u)
def replAns (ar t : List Int) (i : Int) (u : List Int) : List Int := if replOk ar t i u then replIn ar t i u else []
theorem replAns_len (ar t : List Int) (i : Int) (u : List Int) : (replAns ar t i u).length ≤ 1048576 := by
  unfold replAns
  split
  · rename_i h
    simp only [replOk, Bool.and_eq_true] at h
    have := ((okTerm_iff _ _).1 h.2).2.1
    omega
  · exact Nat.zero_le _
theorem replIn_eq {ar t u : List Int} {k q : Nat} (he : endOf ar t k = some q) : replIn ar t k u = replaced t k q u := by simp [replIn, he]
theorem repl_no {ar t u : List Int} {i : Int} (h : replOk ar t i u = false) : replAns ar t i u = [] := by simp [replAns, h]
theorem repl_yes {ar t u : List Int} {i : Int} (h : replOk ar t i u = true) : replAns ar t i u = replIn ar t i u := by simp [replAns, h]

set_option maxRecDepth 100000 in
set_option maxHeartbeats 2000000 in
theorem iReplaceAt_t {l h l' h' l2 h2 : Nat} {v u x : Value} {ar t r : List Int} {w : World} (ha : ar.length ≤ 1048576) (hv : SlI l h w v ar) (ht : t.length ≤ 1048576) (hu : SlI l' h' w u t) {i : Int} (_ : -9223372036854775808 ≤ i) (_ : i ≤ 9223372036854775807) (hr : r.length ≤ 1048576) (hx : SlI l2 h2 w x r) :
    Calls Tryd.prog 17 #[.agg #[v], u, .int .i64 i, x] w (RetIB w (replAns ar t i r) (replOk ar t i r)) := by
  cases hs : askOk ar t i with
  | false =>
    have h0 : replOk ar t i r = false := by simp [replOk, hs]
    have E := Lib.hid (repl_no h0)
    have E2 := Lib.hid h0
    have HS := Lib.hid hs; clear hs h0
    go_enter Tryd.func17, Tryd.ntmps17
    go_wp2_with fail
    refine (hasIndex_v _ _ _ _ _ _ _ _ _ _ _ HS.out ha ht (hv.alloc _) (hu.alloc _)).mono ?_; rintro e w' ⟨rfl, hb1⟩
    go_wp2_with fail
    go_ret2
    exact ⟨_, _, _, by rw [E2.out]; rfl, by rw [E.out]; exact OwnI.nil _ _ _, hb1.of_alloc⟩
  | true =>
    obtain ⟨k, q, rfl, hk, he, hq1, hq2, hlen, hg, hok⟩ := ask_yes hs
    have HS := Lib.hid hs
    cases hur : okTerm ar r with
    | false =>
      have h0 : replOk ar t k r = false := by simp [replOk, hur]
      have E := Lib.hid (repl_no h0)
      have E2 := Lib.hid h0
      have HU := Lib.hid (show goodTerm ar r = false by simp [goodTerm, hur]); clear hur h0 hs he
      go_enter Tryd.func17, Tryd.ntmps17
      go_wp2_with fail
      refine (hasIndex_v _ _ _ _ _ _ _ _ _ _ _ HS.out ha ht (hv.alloc _) (hu.alloc _)).mono ?_; rintro e w' ⟨rfl, hb1⟩
      have hx1 := boxc hb1 0 _ rfl
      go_wp2_with fail
      refine (iGoodTerm_v _ _ _ _ _ _ _ _ _ _ HU.out ha hr (hv.below hb1.of_alloc) (hx.below hb1.of_alloc)).mono ?_; rintro e w2 ⟨rfl, hb2⟩
      go_wp2_with fail
      go_ret2
      exact ⟨_, _, _, by rw [E2.out]; rfl, by rw [E.out]; exact OwnI.nil _ _ _, hb1.of_alloc.step hb2⟩
    | true =>
      have hrp := ((okTerm_iff ar r).1 hur).1
      have hor := replaced_ok ar t r k q hok hur hk he
      have hlq := replaced_len t r k q (by omega) hq2
      have hi2 := replIn_eq (u := r) he
      have hr40 := ((okTerm_iff ar r).1 hur).2.1
      have HU := Lib.hid (show goodTerm ar r = true by simp [goodTerm, hur, hg]); have HE := Lib.hid he
      have h0 : replOk ar t k r = decide ((replaced t k q r).length ≤ 40) := by simp only [replOk, hi2, hor, hs, hur, Bool.true_and]
      have E := Lib.hid (show (replaced t k q r).length ≤ 40 → replAns ar t k r = replaced t k q r from fun h => by rw [repl_yes (by rw [h0]; simpa using h), hi2])
      have E3 := Lib.hid (show ¬ (replaced t k q r).length ≤ 40 → replAns ar t k r = [] from fun h => repl_no (by rw [h0]; simpa using h))
      have E2 := Lib.hid h0
      clear h0 hs he hi2 hor hur
      obtain ⟨b, off, cap, rfl, hcap⟩ := hu.plain (by omega)
      obtain ⟨xb, xo, xc, rfl, hxc⟩ := hx.plain hrp
      have hcut : Hid (∀ w', Bel w w' → SlI l' h' w' (.slice (some ⟨b, off, none⟩) k cap) (t.take k)) := fun w' hb => by
        have := (hu.below hb).cut 0 k (by omega) (by omega); simpa using this
      have hq3 : (k : Int) < q := by omega
      have hq4 : (q : Int) ≤ t.length := by omega
      have hq5 : (t.length : Int) ≤ cap := by omega
      have hk0 : (0 : Int) ≤ k := by omega
      have hk5 : (k : Int) ≤ cap := by omega
      have hq7 : (q : Int) ≤ cap := by omega
      have hdl : (t.drop q).length = t.length - q := by simp
      have htl : (t.take k).length = k := by simp; omega
      have hfl : Hid (t.take k ++ r ++ t.drop q = replaced t k q r) := rfl
      have hsum : (t.take k).length + r.length + (t.drop q).length ≤ 1099511627776 := by omega
      have hsl : Hid (∀ w', Bel w w' → SlI 0 w'.heap.size w' (.slice (some ⟨b, off, none⟩) k cap) (t.take k)) := fun w' hb => (hcut.out w' hb).in'
      have hsl3 : Hid (∀ w', Bel w w' → SlI 0 w'.heap.size w' (.slice (some ⟨xb, xo, none⟩) r.length xc) r) := fun w' hb => (hx.below hb).in'
      clear hcut
      have hsl2 : (cap = q ∧ Hid (∀ w', Bel w w' → SlI 0 w'.heap.size w' (.slice (some ⟨b, off, none⟩) 0 0) (t.drop q))) ∨ (q < cap ∧ Hid (∀ w', Bel w w' → SlI 0 w'.heap.size w' (.slice (some ⟨b, off + q, none⟩) (t.length - q) (cap - q)) (t.drop q))) := by
        rcases Nat.lt_or_ge q cap with h | h
        · refine .inr ⟨h, fun w' hb => ?_⟩
          have := (hu.below hb).cut q t.length (by omega) (by omega)
          rw [List.take_of_length_le (by simp)] at this
          exact this.in'
        · refine .inl ⟨by omega, fun w' hb => ?_⟩
          obtain rfl : t.length = q := by omega
          rw [List.drop_length]
          exact ⟨_, 0, rfl, Nat.le_refl _, ⟨Nat.zero_le _, fun h => by simp at h⟩, fun h => absurd h (by simp)⟩
      rcases hsl2 with ⟨hqc, hsl2⟩ | ⟨hqc, hsl2⟩
      · obtain rfl : cap = q := hqc
        by_cases hfit : (replaced t k cap r).length ≤ 40
        · have E4 := Lib.hid (E.out hfit); have E5 : Hid (replOk ar t k r = true) := by show _ = _; rw [E2.out]; simpa using hfit
          clear E E3 E2
          go_enter Tryd.func17, Tryd.ntmps17
          go_wp2_with fail
          refine (hasIndex_v _ _ _ _ _ _ _ _ _ _ _ HS.out ha ht (hv.alloc _) (hu.alloc _)).mono ?_; rintro e w1 ⟨rfl, hb1⟩
          have hx1 := boxc hb1 0 _ rfl
          go_wp2_with fail
          refine (iGoodTerm_v _ _ _ _ _ _ _ _ _ _ HU.out ha hr (hv.below hb1.of_alloc) (hx.below hb1.of_alloc)).mono ?_; rintro e w2 ⟨rfl, hb2⟩
          have hx2 := boxc (hb1.step hb2) 0 _ rfl
          have hb12 := hb1.of_alloc.step hb2
          go_wp2_with fail
          refine (termEnd_v _ _ _ _ _ _ ar t k cap _ HE.out hg ht (by omega) (hv.below hb12) (hu.below hb12)).mono ?_; rintro e w3 ⟨rfl, hb3⟩
          have hb13 := hb12.step hb3
          go_wp2_with fail
          go_region_held3 (fun w' => Bel w3 w') (first | exact Bel.drew0 _ | exact Bel.alloc (Bel.drew0 _) _ | exact hb4.of_drew.of_alloc | exact hb4.of_alloc)
            (first | (go_at_call 40; refine (concat3_c 0 w3.heap.size _ _ _ _ _ _ _ _ _ (t.take k) r (t.drop cap) w3 hsum (hsl.out _ hb13) (hsl3.out _ hb13) (hsl2.out _ hb13) _).mono ?_; rintro e w4 ⟨a4, n4, c4, rfl, ho4, hb4⟩))
          have hn4 : (n4 : Int) ≤ 40 := by
            obtain ⟨ad, c, e, _⟩ := ho4.1
            simp only [Value.slice.injEq] at e
            rw [e.2.1, hfl.out]; omega
          go_wp2_with fail
          go_ret2
          refine ⟨_, _, _, by rw [E5.out]; rfl, ?_, hb13.step (hb4.of_drew.of_alloc)⟩
          rw [E4.out, ← hfl.out]
          have z := hb13.size
          exact ho4.mono (by show w.heap.size ≤ (w3.alloc _).heap.size; simp; omega) (Nat.le_refl _)
        · have E4 := Lib.hid (E3.out hfit); have E5 : Hid (replOk ar t k r = false) := by show _ = _; rw [E2.out]; simpa using hfit
          clear E E3 E2
          go_enter Tryd.func17, Tryd.ntmps17
          go_wp2_with fail
          refine (hasIndex_v _ _ _ _ _ _ _ _ _ _ _ HS.out ha ht (hv.alloc _) (hu.alloc _)).mono ?_; rintro e w1 ⟨rfl, hb1⟩
          have hx1 := boxc hb1 0 _ rfl
          go_wp2_with fail
          refine (iGoodTerm_v _ _ _ _ _ _ _ _ _ _ HU.out ha hr (hv.below hb1.of_alloc) (hx.below hb1.of_alloc)).mono ?_; rintro e w2 ⟨rfl, hb2⟩
          have hx2 := boxc (hb1.step hb2) 0 _ rfl
          have hb12 := hb1.of_alloc.step hb2
          go_wp2_with fail
          refine (termEnd_v _ _ _ _ _ _ ar t k cap _ HE.out hg ht (by omega) (hv.below hb12) (hu.below hb12)).mono ?_; rintro e w3 ⟨rfl, hb3⟩
          have hb13 := hb12.step hb3
          go_wp2_with fail
          go_region_held3 (fun w' => Bel w3 w') (first | exact Bel.drew0 _ | exact Bel.alloc (Bel.drew0 _) _ | exact hb4.of_drew.of_alloc | exact hb4.of_alloc)
            (first | (go_at_call 40; refine (concat3_c 0 w3.heap.size _ _ _ _ _ _ _ _ _ (t.take k) r (t.drop cap) w3 hsum (hsl.out _ hb13) (hsl3.out _ hb13) (hsl2.out _ hb13) _).mono ?_; rintro e w4 ⟨a4, n4, c4, rfl, ho4, hb4⟩))
          have hn4 : (40 : Int) < n4 := by
            obtain ⟨ad, c, e, _⟩ := ho4.1
            simp only [Value.slice.injEq] at e
            rw [e.2.1, hfl.out]; omega
          go_wp2_with fail
          go_ret2
          refine ⟨_, _, _, by rw [E5.out]; rfl, ?_, hb13.step (hb4.of_drew.of_alloc)⟩
          rw [E4.out]; exact OwnI.nil _ _ _
      · have hne : ¬ cap = q := by omega
        by_cases hfit : (replaced t k q r).length ≤ 40
        · have E4 := Lib.hid (E.out hfit); have E5 : Hid (replOk ar t k r = true) := by show _ = _; rw [E2.out]; simpa using hfit
          clear E E3 E2
          go_enter Tryd.func17, Tryd.ntmps17
          go_wp2_with fail
          refine (hasIndex_v _ _ _ _ _ _ _ _ _ _ _ HS.out ha ht (hv.alloc _) (hu.alloc _)).mono ?_; rintro e w1 ⟨rfl, hb1⟩
          have hx1 := boxc hb1 0 _ rfl
          go_wp2_with fail
          refine (iGoodTerm_v _ _ _ _ _ _ _ _ _ _ HU.out ha hr (hv.below hb1.of_alloc) (hx.below hb1.of_alloc)).mono ?_; rintro e w2 ⟨rfl, hb2⟩
          have hx2 := boxc (hb1.step hb2) 0 _ rfl
          have hb12 := hb1.of_alloc.step hb2
          go_wp2_with fail
          refine (termEnd_v _ _ _ _ _ _ ar t k q _ HE.out hg ht (by omega) (hv.below hb12) (hu.below hb12)).mono ?_; rintro e w3 ⟨rfl, hb3⟩
          have hb13 := hb12.step hb3
          go_wp2_with fail
          go_region_held3 (fun w' => Bel w3 w') (first | exact Bel.drew0 _ | exact Bel.alloc (Bel.drew0 _) _ | exact hb4.of_drew.of_alloc | exact hb4.of_alloc)
            (first | (go_at_call 40; refine (concat3_c 0 w3.heap.size _ _ _ _ _ _ _ _ _ (t.take k) r (t.drop q) w3 hsum (hsl.out _ hb13) (hsl3.out _ hb13) (hsl2.out _ hb13) _).mono ?_; rintro e w4 ⟨a4, n4, c4, rfl, ho4, hb4⟩))
          have hn4 : (n4 : Int) ≤ 40 := by
            obtain ⟨ad, c, e, _⟩ := ho4.1
            simp only [Value.slice.injEq] at e
            rw [e.2.1, hfl.out]; omega
          go_wp2_with fail
          go_ret2
          refine ⟨_, _, _, by rw [E5.out]; rfl, ?_, hb13.step (hb4.of_drew.of_alloc)⟩
          rw [E4.out, ← hfl.out]
          have z := hb13.size
          exact ho4.mono (by show w.heap.size ≤ (w3.alloc _).heap.size; simp; omega) (Nat.le_refl _)
        · have E4 := Lib.hid (E3.out hfit); have E5 : Hid (replOk ar t k r = false) := by show _ = _; rw [E2.out]; simpa using hfit
          clear E E3 E2
          go_enter Tryd.func17, Tryd.ntmps17
          go_wp2_with fail
          refine (hasIndex_v _ _ _ _ _ _ _ _ _ _ _ HS.out ha ht (hv.alloc _) (hu.alloc _)).mono ?_; rintro e w1 ⟨rfl, hb1⟩
          have hx1 := boxc hb1 0 _ rfl
          go_wp2_with fail
          refine (iGoodTerm_v _ _ _ _ _ _ _ _ _ _ HU.out ha hr (hv.below hb1.of_alloc) (hx.below hb1.of_alloc)).mono ?_; rintro e w2 ⟨rfl, hb2⟩
          have hx2 := boxc (hb1.step hb2) 0 _ rfl
          have hb12 := hb1.of_alloc.step hb2
          go_wp2_with fail
          refine (termEnd_v _ _ _ _ _ _ ar t k q _ HE.out hg ht (by omega) (hv.below hb12) (hu.below hb12)).mono ?_; rintro e w3 ⟨rfl, hb3⟩
          have hb13 := hb12.step hb3
          go_wp2_with fail
          go_region_held3 (fun w' => Bel w3 w') (first | exact Bel.drew0 _ | exact Bel.alloc (Bel.drew0 _) _ | exact hb4.of_drew.of_alloc | exact hb4.of_alloc)
            (first | (go_at_call 40; refine (concat3_c 0 w3.heap.size _ _ _ _ _ _ _ _ _ (t.take k) r (t.drop q) w3 hsum (hsl.out _ hb13) (hsl3.out _ hb13) (hsl2.out _ hb13) _).mono ?_; rintro e w4 ⟨a4, n4, c4, rfl, ho4, hb4⟩))
          have hn4 : (40 : Int) < n4 := by
            obtain ⟨ad, c, e, _⟩ := ho4.1
            simp only [Value.slice.injEq] at e
            rw [e.2.1, hfl.out]; omega
          go_wp2_with fail
          go_ret2
          refine ⟨_, _, _, by rw [E5.out]; rfl, ?_, hb13.step (hb4.of_drew.of_alloc)⟩
          rw [E4.out]; exact OwnI.nil _ _ _
end Go.Proofs.YtajmjjandkdhiabDoor
end
section
/- FnOrder: what the ordering of terms does. No program. -/
namespace Go.Proofs.YtajmjjandkdhiabDoor
open Go.RowKit

theorem cmpT_cases (a b : List Int) : cmpT a b = 0 ∨ cmpT a b = 1 ∨ cmpT a b = -1 ∨ cmpT a b = 2 := by
  unfold cmpT; split
  · omega
  · split
    · omega
    · split <;> omega
theorem cmp_mk {ar a b : List Int} (hg : goodSign ar = true) (ha : okTerm ar a = true) (hb : okTerm ar b = true) : cmpOk ar a b = true := cmpOk_iff.2 ⟨goodTerm_iff.2 ⟨hg, ha⟩, goodTerm_iff.2 ⟨hg, hb⟩⟩
theorem appOk_iff {ar : List Int} {b : List (List Int)} {t : List Int} : applyOk ar b t = true ↔ goodSubst ar b = true ∧ okTerm ar t = true ∧ app40ok b t = true := by
  unfold applyOk
  simp only [Bool.and_eq_true]
  exact ⟨fun h => ⟨h.1.1, h.1.2, h.2⟩, fun h => ⟨⟨h.1, h.2.1⟩, h.2.2⟩⟩
theorem cmp_app {ar a b : List Int} {l : List (List Int)} (hn : cmpT a b = 1) (ha : applyOk ar l a = true) (hb : applyOk ar l b = true) :
    cmpOk ar (applyAns ar l a) (applyAns ar l b) = true ∧ cmpAns ar (applyAns ar l a) (applyAns ar l b) = 1 := by
  obtain ⟨hs, hat, ha40⟩ := appOk_iff.1 ha
  obtain ⟨-, hbt, hb40⟩ := appOk_iff.1 hb
  have hk := cmp_mk (goodSubst_iff.1 hs).1 ((app_ok hs hat).trans ha40) ((app_ok hs hbt).trans hb40)
  rw [applyAns_yes ha, applyAns_yes hb]
  exact ⟨hk, by rw [cmp_yes hk]; exact cmpT_one.2 (above_app l (cmpT_one.1 hn))⟩
theorem cmp_ctx {ar t a b : List Int} {z : Int} (hn : cmpT a b = 1) (ha : replOk ar t z a = true) (hb : replOk ar t z b = true) :
    cmpOk ar (replAns ar t z a) (replAns ar t z b) = true ∧ cmpAns ar (replAns ar t z a) (replAns ar t z b) = 1 := by
  have ha0 := ha
  have hb0 := hb
  unfold replOk at ha0 hb0
  simp only [Bool.and_eq_true] at ha0 hb0
  obtain ⟨⟨hask, -⟩, hra⟩ := ha0
  obtain ⟨-, hrb⟩ := hb0
  obtain ⟨k, e, rfl, hk, he, hke, het, h40, hg, hok⟩ := ask_yes hask
  have hk2 := cmp_mk hg hra hrb
  rw [repl_yes ha, repl_yes hb]
  refine ⟨hk2, ?_⟩
  rw [cmp_yes hk2, replIn_eq he, replIn_eq he]
  exact cmpT_one.2 (above_ctx _ _ (cmpT_one.1 hn))
theorem cmp_part {ar a : List Int} {z : Int} (h : askOk ar a z = true) :
    cmpOk ar a (partAns ar a z) = true ∧ (cmpAns ar a (partAns ar a z) = 1 ∨ partAns ar a z = a) := by
  obtain ⟨k, e, rfl, hk, he, hke, het, h40, hg, hok⟩ := ask_yes h
  have hp := partAns_yes h he
  have hpo := partOf_ok ar a k e hok hk he
  have hself := replaced_self a k e (by omega)
  have hlen := partOf_len a k e het
  rw [hp]
  have hk2 := cmp_mk hg hok hpo
  refine ⟨hk2, ?_⟩
  rw [cmp_yes hk2]
  by_cases hd : 0 < (a.take k).length + (a.drop e).length
  · left
    have := above_part (a.take k) (partOf a k e) (a.drop e) hd
    rw [show a.take k ++ partOf a k e ++ a.drop e = a from hself] at this
    exact cmpT_one.2 this
  · right
    have h1 : a.take k = [] := List.length_eq_zero_iff.1 (by omega)
    have h2 : a.drop e = [] := List.length_eq_zero_iff.1 (by omega)
    have h3 : a.take k ++ partOf a k e ++ a.drop e = a := hself
    rw [h1, h2] at h3
    simpa using h3
theorem ground_of {ar t : List Int} (h : goodTerm ar t = true) (hv : (varsAns ar t).length = 0) : ∀ n ∈ t, 0 ≤ n := by
  intro n hn
  have hl := (lowT.good h).mem hn
  apply Classical.byContradiction
  intro hneg
  rw [vars_yes h, natsI_len] at hv
  have hm : (-1 - n).toNat ∈ varsTo (mk t) 12 := by
    unfold varsTo
    rw [List.mem_filter, List.mem_range]
    refine ⟨by omega, ?_⟩
    unfold mk
    rw [show -1 - (((-1 - n).toNat : Nat) : Int) = n by omega]
    simpa using hn
  rw [List.length_eq_zero_iff.1 hv] at hm
  simp at hm
theorem cmp_facts {ar a b : List Int} (h : cmpOk ar a b = true) :
    (cmpAns ar a b = 1 ∧ cmpAns ar b a = -1) ∨ (cmpAns ar a b = 0 ∧ cmpAns ar b a = 0 ∧ a = b ∧ weiAns ar a b = false) ∨
    (cmpAns ar a b = 2 ∧ cmpAns ar b a = 2 ∧ weiAns ar a b = false ∧ 0 < (varsAns ar a).length + (varsAns ar b).length) ∨ (cmpAns ar a b = -1 ∧ weiAns ar a b = false) := by
  have h' : cmpOk ar b a = true := by rw [cmpOk_swap]; exact h
  have hw : cmpT a b ≠ 1 → weiAns ar a b = false := fun hn => by
    rw [wei_yes h, Bool.eq_false_iff]
    intro hc
    simp only [Bool.and_eq_true, decide_eq_true_eq] at hc
    exact hn (cmpT_one.2 (above_iff.2 ⟨covers_iff.1 hc.1, .inl hc.2⟩))
  rw [cmp_yes h, cmp_yes h']
  obtain ⟨f1, f2, f3⟩ := cmpT_flip (a := a) (b := b)
  obtain ⟨hga, hgb⟩ := cmpOk_iff.1 h
  rcases cmpT_cases a b with e | e | e | e
  · exact .inr (.inl ⟨e, f2 e, cmpT_zero.1 e, hw (by omega)⟩)
  · exact .inl ⟨e, f1 e⟩
  · exact .inr (.inr (.inr ⟨e, hw (by omega)⟩))
  · refine .inr (.inr (.inl ⟨e, f3 e, hw (by omega), ?_⟩))
    apply Classical.byContradiction
    intro hz
    obtain ⟨h1, h2, h3⟩ := cmpT_two.1 e
    rcases above_total (ground_of hga (by omega)) (ground_of hgb (by omega)) h1 with k | k
    · rw [h2] at k; simp at k
    · rw [h3] at k; simp at k
end Go.Proofs.YtajmjjandkdhiabDoor
end
section
/- The laws' own comparisons. -/
namespace Go.Proofs.YtajmjjandkdhiabDoor
open Go.RowKit

set_option maxRecDepth 100000 in
theorem sameTerm_c (l h l' h' : Nat) (v u : Value) (xs ys : List Int) (w : World) (hx : xs.length ≤ 1048576) (hy : ys.length ≤ 1048576) (hv : SlI l h w v xs) (hu : SlI l' h' w u ys) :
    Calls Tryd.prog 11 #[v, u] w (RetV w (.bool (decide (xs = ys)))) := by
  go_enter Tryd.func11, Tryd.ntmps11
  go_wp2_with fail
  refine (sameInts_c _ _ _ _ _ _ xs ys w hx hy hv hu).mono ?_; rintro e w1 ⟨rfl, hb⟩
  go_wp2_with fail
  go_ret
  exact ⟨rfl, hb⟩
set_option maxRecDepth 100000 in
theorem big_no (n m c d : Nat) (a b : Option Addr) (w : World) (hn : n ≤ 1048576) (hm : n + m ≤ 1048576) :
    Calls Tryd.prog 4 #[.slice a n c, .slice b m d] w (RetV w (.bool false)) := by
  have h1 : decide ((1048576 : Int) < n) = false := by simp; omega
  have h2 : decide ((1048576 : Int) - n < m) = false := by simp; omega
  have hw := IntWalk.i64_in ((1048576 : Int) - n) (by omega)
  go_enter Tryd.func4, Tryd.ntmps4
  go_wp2_with fail
  go_ret
  exact ⟨rfl, Bel.rfl' _⟩
set_option maxRecDepth 100000 in
theorem big_yes (n m c d : Nat) (a b : Option Addr) (w : World) (hn : n ≤ 9223372036854775807) (h : ¬ (n ≤ 1048576 ∧ n + m ≤ 1048576)) :
    Calls Tryd.prog 4 #[.slice a n c, .slice b m d] w (RetV w (.bool true)) := by
  by_cases h0 : 1048576 < n
  · have h1 : decide ((1048576 : Int) < n) = true := by simp; omega
    go_enter Tryd.func4, Tryd.ntmps4
    go_wp2_with fail
    go_ret
    exact ⟨rfl, Bel.rfl' _⟩
  · have h1 : decide ((1048576 : Int) < n) = false := by simp; omega
    have h2 : decide ((1048576 : Int) - n < m) = true := by simp; omega
    have hw := IntWalk.i64_in ((1048576 : Int) - n) (by omega)
    go_enter Tryd.func4, Tryd.ntmps4
    go_wp2_with fail
    go_ret
    exact ⟨rfl, Bel.rfl' _⟩
end Go.Proofs.YtajmjjandkdhiabDoor
end
section
namespace Go.Proofs.YtajmjjandkdhiabDoor
open Go.RowKit

/-- A slice of bytes that lies in blocks below hi. -/
def SlB (hi : Nat) (w : World) (v : Value) (n : Nat) : Prop :=
  ∃ ad cap, v = .slice ad n cap ∧ n ≤ cap ∧ (0 < n → ∃ b off, ad = some ⟨b, off, none⟩ ∧ b < hi ∧ ∀ j, j < n → ∃ x : Nat, x < 256 ∧ w.cell? ⟨b, off + j, none⟩ = some (.int .u8 x))

/-- The cursor of the draws at block b: n bytes, of which k have been read. -/
def Cur (b n k : Nat) (w : World) : Prop :=
  ∃ code seed, b < w.heap.size ∧ SlB b w code n ∧ w.cell? ⟨b, 0, none⟩ = some code ∧ w.cell? ⟨b, 1, none⟩ = some (.int .i64 (k : Nat)) ∧ w.cell? ⟨b, 2, none⟩ = some (.int .u64 seed) ∧
    (∀ j, w.frozen? ⟨b, j, none⟩ = false)

/-- A number below m; the cursor has gone on by d at most; nothing else has turned. -/
def RetD (b n k d m : Nat) (w : World) (e : Ending) (w' : World) : Prop :=
  ∃ x k' : Nat, e = .returned (.int .i64 x) ∧ x < m ∧ k ≤ k' ∧ k' ≤ k + d ∧ Cur b n k' w' ∧ Chg b (b+1) w w'

theorem SlB.chg {hi n lo' hi' : Nat} {w w' : World} {v : Value} (h : SlB hi w v n) (k : Chg lo' hi' w w') (hd : hi ≤ lo') : SlB hi w' v n := by
  obtain ⟨ad, cap, rfl, hc, hr⟩ := h
  refine ⟨ad, cap, rfl, hc, fun hp => ?_⟩
  obtain ⟨b, off, e, hb, hx⟩ := hr hp
  refine ⟨b, off, e, hb, fun j hj => ?_⟩
  obtain ⟨x, h1, h2⟩ := hx j hj
  exact ⟨x, h1, k.cell (World.block_lt_of_cell? w ⟨b, off + j, none⟩ h2) (.inl (by omega)) h2⟩
theorem Cur.step {b n k j : Nat} {w w' : World} {s : Int} (hc : Cur b n k w) (hg : Chg b (b+1) w w') (h0 : w'.cell? ⟨b, 0, none⟩ = w.cell? ⟨b, 0, none⟩) (h1 : w'.cell? ⟨b, 1, none⟩ = some (.int .i64 j)) (h2 : w'.cell? ⟨b, 2, none⟩ = some (.int .u64 s))
    (hf : ∀ j, w'.frozen? ⟨b, j, none⟩ = w.frozen? ⟨b, j, none⟩) : Cur b n j w' := by
  obtain ⟨code, seed, hbs, hr, c0, c1, c2, cf⟩ := hc
  exact ⟨code, s, Nat.lt_of_lt_of_le hbs hg.size, hr.chg hg (Nat.le_refl _), h0.trans c0, h1, h2, fun j => (hf j).trans (cf j)⟩
theorem Cur.two {b n k : Nat} {w : World} {z s : Int} (hc : Cur b n k w) (hz : z = ((k + 1 : Nat) : Int)) (p q : Nat) :
    Cur b n (k+1) ((((w.drewN p).setCell ⟨b, 1, none⟩ (.int .i64 z)).setCell ⟨b, 2, none⟩ (.int .u64 s)).drewN q) ∧
      Chg b (b+1) w ((((w.drewN p).setCell ⟨b, 1, none⟩ (.int .i64 z)).setCell ⟨b, 2, none⟩ (.int .u64 s)).drewN q) := by
  subst hz
  have hg : Chg b (b+1) w ((((w.drewN p).setCell ⟨b, 1, none⟩ (.int .i64 ((k + 1 : Nat) : Int))).setCell ⟨b, 2, none⟩ (.int .u64 s)).drewN q) :=
    ((Chg.of_bel ((Bel.rfl' w).drewN p)).trans ((Chg.set (lo := b) (hi := b+1) (p := ⟨b, 1, none⟩) _ (Nat.le_refl _) (Nat.lt_succ_self _) _).trans (Chg.set (lo := b) (hi := b+1) (p := ⟨b, 2, none⟩) _ (Nat.le_refl _) (Nat.lt_succ_self _) _))).trans (Chg.of_bel ((Bel.rfl' _).drewN q))
  refine ⟨?_, hg⟩
  have hc0 := hc
  obtain ⟨code, seed, hbs, hr, c0, c1, c2, cf⟩ := hc
  have d1 : (w.drewN p).cell? ⟨b, 1, none⟩ = some (.int .i64 k) := c1
  have d2 : (w.drewN p).cell? ⟨b, 2, none⟩ = some (.int .u64 seed) := c2
  have n12 : (⟨b, 1, none⟩ : Addr) ≠ ⟨b, 2, none⟩ := by intro h; simp at h
  have n21 : (⟨b, 2, none⟩ : Addr) ≠ ⟨b, 1, none⟩ := by intro h; simp at h
  have n10 : (⟨b, 1, none⟩ : Addr) ≠ ⟨b, 0, none⟩ := by intro h; simp at h
  have n20 : (⟨b, 2, none⟩ : Addr) ≠ ⟨b, 0, none⟩ := by intro h; simp at h
  have e2 : ((w.drewN p).setCell ⟨b, 1, none⟩ (.int .i64 ((k + 1 : Nat) : Int))).cell? ⟨b, 2, none⟩ = some (.int .u64 seed) := by rw [World.cell?_setCell_other (h := n12)]; exact d2
  refine hc0.step hg ?_ ?_ ?_ ?_ (s := s)
  · show (((w.drewN p).setCell ⟨b, 1, none⟩ _).setCell ⟨b, 2, none⟩ _).cell? ⟨b, 0, none⟩ = _
    rw [World.cell?_setCell_other (h := n20), World.cell?_setCell_other (h := n10)]; rfl
  · show (((w.drewN p).setCell ⟨b, 1, none⟩ _).setCell ⟨b, 2, none⟩ _).cell? ⟨b, 1, none⟩ = _
    rw [World.cell?_setCell_other (h := n21), World.cell?_setCell_same (h := d1)]
  · show (((w.drewN p).setCell ⟨b, 1, none⟩ _).setCell ⟨b, 2, none⟩ _).cell? ⟨b, 2, none⟩ = _
    rw [World.cell?_setCell_same (h := e2)]
  · intro j
    show (((w.drewN p).setCell ⟨b, 1, none⟩ _).setCell ⟨b, 2, none⟩ _).frozen? ⟨b, j, none⟩ = _
    rw [World.frozen?_setCell, World.frozen?_setCell]; rfl

theorem mask255 (s : Int) : ∃ m : Nat, wrap64 (bits BinOp.and IntKind.u64 (IntKind.u64.wrap s / 1099511627776) 255) = m ∧ m < 256 := by
  have h0 : 0 ≤ IntKind.u64.wrap s ∧ IntKind.u64.wrap s ≤ 18446744073709551615 := by
    rw [IntKind.wrap_u64]; omega
  generalize IntKind.u64.wrap s = a at h0
  have h := bits_and_u64_nat (a / 1099511627776).toNat 255 (by omega) (by omega)
  rw [Int.toNat_of_nonneg (by omega)] at h
  have hl : (a / 1099511627776).toNat &&& 255 < 256 := Nat.lt_succ_of_le Nat.and_le_right
  refine ⟨(a / 1099511627776).toNat &&& 255, ?_, hl⟩
  have h3 : bits BinOp.and IntKind.u64 (a / 1099511627776) 255 = (((a / 1099511627776).toNat &&& 255 : Nat) : Int) := h
  rw [h3]
  exact IntWalk.wrap64_in (((a / 1099511627776).toNat &&& 255 : Nat) : Int) (by omega)

set_option maxRecDepth 100000 in
set_option maxHeartbeats 300000 in
theorem next_c (b n k : Nat) (w : World) (hn : n ≤ 1099511627776) (hk : k ≤ 1099511627776) (hc : Cur b n k w) :
    Calls Tryd.prog 44 #[.pointer (some ⟨b, 0, none⟩)] w (RetD b n k 1 256 w) := by
  have hcc := Lib.hid hc
  obtain ⟨code, seed, hbs, ⟨ad, cap, rfl, hcap, hr⟩, h0, h1, h2, hf⟩ := hc
  have hf1 := hf 1
  have hf2 := hf 2
  go_enter Tryd.func44, Tryd.ntmps44
  by_cases hlt : k < n
  · obtain ⟨bb, off, rfl, hbb, hcell⟩ := hr (by omega)
    obtain ⟨x, hx, hcx⟩ := hcell k hlt
    have hw1 := IntWalk.i64_in ((k : Int) + 1) (by omega)
    have hd : decide ((k : Int) < n) = true := by simp; omega
    go_wp2_with fail
    go_quiet (fail)
    go_wp2_with fail
    go_quiet (fail)
    have hd2 : decide ((k : Int) + 1 ≤ n) = true := by simp; omega
    go_wp2_with fail
    go_quiet (fail)
    go_wp2_with fail
    go_ret
    exact ⟨x, k+1, rfl, hx, by omega, by omega, (hcc.out.two (by omega) _ _).1, (hcc.out.two (by omega) _ _).2⟩
  · have hw1 := IntWalk.i64_in ((k : Int) + 1) (by omega)
    have hd : decide ((k : Int) < n) = false := by simp; omega
    go_wp2_with fail
    go_quiet (fail)
    have hd2 : decide ((k : Int) + 1 ≤ n) = false := by simp; omega
    go_wp2_with fail
    go_quiet (fail)
    go_wp2_with fail
    go_ret
    obtain ⟨m, em, hm⟩ := mask255 (IntKind.u64.wrap (IntKind.u64.wrap (seed * 6364136223846793005)) + 1442695040888963407)
    refine ⟨m, k+1, by rw [← em]; rfl, hm, by omega, by omega, (hcc.out.two (by omega) _ _).1, (hcc.out.two (by omega) _ _).2⟩

set_option maxRecDepth 100000 in
set_option maxHeartbeats 300000 in
theorem pick_c (b n k : Nat) (z : Int) (m : Nat) (w : World) (hz : z = m) (hn : n ≤ 1099511627776) (hk : k ≤ 1099511627775) (hm : m ≤ 1099511627776) (hc : Cur b n k w) :
    Calls Tryd.prog 21 #[.pointer (some ⟨b, 0, none⟩), .int .i64 z] w (RetD b n k 2 (m + (1 - m)) w) := by
  subst hz
  go_enter Tryd.func21, Tryd.ntmps21
  by_cases h1 : m ≤ 1
  · have hd : decide ((m : Int) ≤ 1) = true := by simp; omega
    go_wp2_with fail
    go_ret
    exact ⟨0, k, rfl, by omega, by omega, by omega, hc, Chg.refl _ _ _⟩
  · have hd : decide ((m : Int) ≤ 1) = false := by simp; omega
    by_cases h2 : m ≤ 200
    · have hd2 : decide ((200 : Int) < m) = false := by simp; omega
      go_wp2_with (go_at_call 44; refine (next_c b n k w hn (by omega) hc).mono ?_; rintro e w1 ⟨x, k1, rfl, hx, hk1, hk2, hc1, hg1⟩)
      go_ret
      have hlt : x % m < m := Nat.mod_lt _ (by omega)
      exact ⟨x % m, k1, rfl, by omega, by omega, by omega, hc1, hg1⟩
    · have hd2 : decide ((200 : Int) < m) = true := by simp; omega
      go_wp2_with (first | (go_at_call 44; refine (next_c b n k w hn (by omega) hc).mono ?_; rintro e w1 ⟨x, k1, rfl, hx, hk1, hk2, hc1, hg1⟩) | (go_at_call 44; refine (next_c b n k1 w1 hn (by omega) hc1).mono ?_; rintro e w2 ⟨y, k2, rfl, hy, hk3, hk4, hc2, hg2⟩))
      go_ret
      have hlt : (x * 256 + y) % m < m := Nat.mod_lt _ (by omega)
      exact ⟨(x * 256 + y) % m, k2, rfl, by omega, by omega, by omega, hc2, hg1.trans hg2⟩

/-- Yes or no. -/
def RetQ (b n k d : Nat) (w : World) (e : Ending) (w' : World) : Prop :=
  ∃ (q : Bool) (k' : Nat), e = .returned (.bool q) ∧ k ≤ k' ∧ k' ≤ k + d ∧ Cur b n k' w' ∧ Chg b (b+1) w w'
set_option maxRecDepth 100000 in
set_option maxHeartbeats 300000 in
theorem one_c (b n k : Nat) (z : Int) (m : Nat) (w : World) (hz : z = m) (hn : n ≤ 1099511627776) (hk : k ≤ 1099511627775) (hm : m ≤ 1099511627776) (hc : Cur b n k w) :
    Calls Tryd.prog 56 #[.pointer (some ⟨b, 0, none⟩), .int .i64 z] w (RetQ b n k 2 w) := by
  go_enter Tryd.func56, Tryd.ntmps56
  have H := Lib.hid (pick_c b n k z m w hz hn hk hm hc)
  clear hz hn hk hm hc
  go_wp2_with (go_at_call 21; refine H.out.mono ?_; clear H; rintro e w1 ⟨x, k1, rfl, hx, hs⟩; clear hx; have HS := Lib.hid hs; clear hs)
  go_ret
  obtain ⟨hk1, hk2, hc1, hg1⟩ := HS.out
  exact ⟨_, k1, rfl, hk1, hk2, hc1, hg1⟩

/-- A signature of the draws. -/
def drawn (ar : List Int) : Prop := ar = [0,0,0,1,1,2] ∨ ar = [0,1,2,3,0] ∨ ar = [] ∨ ar = [1,0]
def RetG (b n k d : Nat) (w : World) (e : Ending) (w' : World) : Prop :=
  ∃ (v : Value) (ar : List Int) (k' : Nat), e = .returned (.agg #[v]) ∧ drawn ar ∧ SlI w.heap.size w'.heap.size w' v ar ∧ k ≤ k' ∧ k' ≤ k + d ∧ Cur b n k' w' ∧ Chg b (b+1) w w'
theorem Cur.below {b n k : Nat} {w w' : World} (hc : Cur b n k w) (hb : Bel w w') : Cur b n k w' := by
  obtain ⟨code, seed, hbs, hr, c0, c1, c2, cf⟩ := hc
  exact ⟨code, seed, Nat.lt_of_lt_of_le hbs hb.size, hr.chg (Chg.of_bel (lo := b) (hi := b) hb) (Nat.le_refl _), hb.at hbs c0, hb.at hbs c1, hb.at hbs c2,
    fun j => (World.frozen?_of_block (w := w) (a := ⟨b, j, none⟩) (hb.block b hbs)).trans (cf j)⟩
theorem Cur.lt {b n k : Nat} {w : World} (hc : Cur b n k w) : b < w.heap.size := by obtain ⟨_, _, h, _⟩ := hc; exact h
theorem three {b : Nat} {w w1 : World} {ca cb cc : Array Value} {ta tb tc : TypeId} (hbl : b < w.heap.size) (hg : Chg b (b+1) (((w.alloc (.cells ca ta)).alloc (.cells cb tb)).alloc (.cells cc tc)) w1) :
    (∀ j v, ca[j]? = some v → w1.cell? ⟨w.heap.size, j, none⟩ = some v) ∧ (∀ j v, cb[j]? = some v → w1.cell? ⟨w.heap.size + 1, j, none⟩ = some v) ∧ (∀ j v, cc[j]? = some v → w1.cell? ⟨w.heap.size + 1 + 1, j, none⟩ = some v) := by
  have e1 : (w.alloc (.cells ca ta)).heap.size = w.heap.size + 1 := by simp
  have e2 : ((w.alloc (.cells ca ta)).alloc (.cells cb tb)).heap.size = w.heap.size + 1 + 1 := by simp
  refine ⟨fun j v h => hg.cell (by simp; omega) (by omega) (boxc (Bel.alloc2 (w.alloc (.cells ca ta)) _ _) j v h), fun j v h => ?_, fun j v h => ?_⟩
  · rw [← e1]
    exact hg.cell (by simp) (by simp; omega) (boxc (Bel.alloc0 _ _) j v h)
  · rw [← e2]
    exact hg.cell (by simp) (by simp; omega) (boxc (Bel.rfl' _) j v h)
end Go.Proofs.YtajmjjandkdhiabDoor
end
