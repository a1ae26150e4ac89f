/- CompareLists, IsFalling: the reference's. -/
import Derived.Test.YtkbgglejhdodoaaDoorLisS
namespace Go.Proofs.YtkbgglejhdodoaaDoor
open Go.RowKit

theorem any_upto {a : List (List Int)} {t : List Int} {i : Nat} (hi : i < a.length) : ((a.take (i+1)).any fun u => above u t) = (((a.take i).any fun u => above u t) || above (a.getD i []) t) := by
  rw [take_snoc a i [] hi, List.any_append]; simp
set_option maxRecDepth 100000 in
set_option maxHeartbeats 400000 in
theorem l3Over_v (l h l' h' : Nat) (v u : Value) (a b : List (List Int)) (q : Bool) (w : World) (hd : dom a b = q) (hne : q = true → 0 < a.length) (ha : short a) (_ : lowL a) (hb : short b) (hlb : lowL b) (hv : SlS l h w v a) (hu : SlS l' h' w u b) :
    Calls Tryd.prog 91 #[v, u] w (RetV w (.bool q)) := by
  obtain ⟨ad, cap, rfl⟩ := hv.form
  obtain ⟨ad', cap', rfl⟩ := hu.form
  obtain ⟨hbl, hbm⟩ := hb
  obtain ⟨hal, ham⟩ := ha
  have HD := Lib.hid (And.intro hd hne)
  clear hd hne
  go_enter Tryd.func91, Tryd.ntmps91
  go_wp2_with fail
  go_loopw [12] (fun i wr => ∃ k : Nat, k ≤ b.length ∧ i = .int .i64 k ∧ dom a (b.take k) = true ∧ Bel w wr) (fun i _ => b.length - (intOf i).toNat)
  case atStart => exact ⟨0, Nat.zero_le _, rfl, rfl, Bel.rfl' _⟩
  case round =>
    obtain ⟨k, hk, rfl, hn, hb1⟩ := hrel
    by_cases hlt : k < b.length
    · obtain ⟨bb, off, p, rfl, -, hc, hp⟩ := hu.at hb1 k hlt
      have hpl := hbm k hlt
      have hplow := hlb k hlt
      have HN := Lib.hid (And.intro (fun h => dom_no (a := a) hlt h) (fun h => dom_take hlt hn h))
      have hv1 := hv.below hb1
      clear hn hu hbm hlb hv
      generalize b.getD k [] = t at *
      obtain ⟨ap, cp, rfl⟩ := hp.form
      obtain ⟨wo, rfl⟩ : ∃ wo, wo = wr := ⟨wr, rfl⟩
      go_wp2_with fail
      go_loopw [7, 18] (fun ov i wr => ∃ j : Nat, j ≤ a.length ∧ i = .int .i64 j ∧ ov = .bool ((a.take j).any fun u => above u t) ∧ Bel wo wr) (fun _ i _ => a.length - (intOf i).toNat)
      case atStart => exact ⟨0, Nat.zero_le _, rfl, rfl, Bel.rfl' _⟩
      case round =>
        obtain ⟨j, hj, rfl, rfl, hb2⟩ := hrel
        by_cases hjl : j < a.length
        · obtain ⟨bx, ox, z, rfl, -, hcell, hz⟩ := hv1.at hb2 j hjl
          have hzl := ham j hjl
          have HU := Lib.hid (any_upto (t := t) hjl)
          have hp2 := hp.below hb2
          clear hv1 ham hp
          generalize a.getD j [] = y at *
          obtain ⟨az, cz, rfl⟩ := hz.form
          cases ho : ((a.take j).any fun u => above u t) with
          | true =>
            have E : Hid (((a.take (j+1)).any fun u => above u t) = true) := by show _ = _; rw [HU.out, ho]; rfl
            clear HU ho
            go_wp2_with fail
            go_roundw
            case rel => exact ⟨j+1, by omega, by go_num, by rw [E.out], hb2⟩
            case measure => simp [intOf]; omega
          | false =>
            generalize hq : above y t = r
            have E : Hid (((a.take (j+1)).any fun u => above u t) = r) := by show _ = _; rw [HU.out, ho, hq]; rfl
            have HC := Lib.hid (l3Greater_v _ _ _ _ _ _ y t r wr hq hzl hpl hplow hz hp2)
            clear HU ho hq
            go_wp2_with fail
            refine HC.out.mono ?_; rintro e w3 ⟨rfl, hb3⟩
            go_wp2_with fail
            go_roundw
            case rel => exact ⟨j+1, by omega, by go_num, by rw [E.out], hb2.step hb3⟩
            case measure => simp [intOf]; omega
        · cases hq : ((a.take j).any fun u => above u t) with
          | false =>
            have E : Hid (q = false) := HD.out.1.symm.trans (HN.out.1 (any_end hjl hq))
            clear HN
            go_wp2_with fail
            go_ret
            exact ⟨by rw [E.out]; rfl, hb1.step hb2⟩
          | true =>
            have E := Lib.hid (HN.out.2 (any_end hjl hq))
            clear HN
            go_wp2_with fail
            go_roundw
            case rel => exact ⟨k+1, by omega, by go_num, E.out, hb1.step hb2⟩
            case measure => simp [intOf]; omega
    · have E : Hid (q = true) := HD.out.1.symm.trans (dom_all hlt hn)
      have hpos : decide (0 < a.length) = true := by have := HD.out.2 E.out; simpa using this
      clear hn
      go_wp2_with fail
      go_ret
      exact ⟨by rw [E.out]; first | rfl | exact congrArg (fun x => Ending.returned (Value.bool x)) hpos, hb1⟩

set_option maxRecDepth 100000 in
set_option maxHeartbeats 800000 in
theorem l3Lists_c (l h l' h' : Nat) (v u : Value) (a b : List (List Int)) (w : World) (ha : short a) (hla : lowL a) (hb : short b) (hlb : lowL b) (hv : SlS l h w v a) (hu : SlS l' h' w u b) :
    Calls Tryd.prog 68 #[v, u] w (RetV w (.int .i64 (cmpL a b))) := by
  obtain ⟨ad, cap, rfl⟩ := hv.form
  obtain ⟨ad', cap', rfl⟩ := hu.form
  have H1 := Lib.hid (l3Left_c l h l' h' _ _ a b w ha hb hv hu)
  have H2 := Lib.hid (fun (w' : World) (hq : Bel w w') => l3Left_c l' h' l h _ _ b a w' hb ha (hu.below hq) (hv.below hq))
  have hsx := minus_short (b := b) ha
  have hsy := minus_short (b := a) hb
  have hlx := minus_low (b := b) hla
  have hly := minus_low (b := a) hlb
  have E0 := Lib.hid (fun h1 h2 => cmpL_0 (a := a) (b := b) h1 h2)
  have E1 := Lib.hid (fun h0 h1 => cmpL_1 (a := a) (b := b) h0 h1)
  have Em := Lib.hid (fun h0 h1 h2 => cmpL_m (a := a) (b := b) h0 h1 h2)
  have E2 := Lib.hid (fun h0 h1 h2 => cmpL_2 (a := a) (b := b) h0 h1 h2)
  generalize cmpL a b = z at *
  generalize minus a b = X at *
  generalize minus b a = Y at *
  by_cases hx0 : X.length = 0
  · have d1 : ((X.length : Int) == 0) = true := by simpa using hx0
    by_cases hy0 : Y.length = 0
    · have d2 : ((Y.length : Int) == 0) = true := by simpa using hy0
      have E : Hid (z = 0) := E0.out (List.length_eq_zero_iff.1 hx0) (List.length_eq_zero_iff.1 hy0)
      clear hx0 hy0 E0 E1 Em E2
      go_enter Tryd.func68, Tryd.ntmps68
      go_wp2_with fail
      refine H1.out.mono ?_; rintro e w1 ⟨g1, n1, c1, rfl, hX, hb1⟩
      obtain ⟨_, _, ef⟩ := hX.form
      simp only [Value.slice.injEq] at ef
      obtain ⟨rfl, rfl, rfl⟩ := ef
      go_wp2_with fail
      refine (H2.out _ hb1).mono ?_; rintro e w2 ⟨g2, n2, c2, rfl, hY, hb2⟩
      obtain ⟨_, _, ef⟩ := hY.form
      simp only [Value.slice.injEq] at ef
      obtain ⟨rfl, rfl, rfl⟩ := ef
      have hX2 := (hX.sls hb1).below hb2
      have hY2 := hY.sls hb2
      have hb12 := hb1.step hb2
      go_wp2_with fail
      go_ret
      exact ⟨by rw [E.out]; rfl, hb12⟩
    · have d2 : ((Y.length : Int) == 0) = false := by simp; exact fun h => hy0 (by rw [h]; rfl)
      have h0 : ¬ (X = [] ∧ Y = []) := fun h => hy0 (by rw [h.2]; rfl)
      clear hx0 hy0
      have h0b : ¬ (Y = [] ∧ X = []) := fun h => h0 ⟨h.2, h.1⟩
      cases hd1 : dom X Y with
      | true =>
        have E : Hid (z = 1) := E1.out h0 hd1
        clear E0 E1 Em E2
        go_enter Tryd.func68, Tryd.ntmps68
        go_wp2_with fail
        refine H1.out.mono ?_; rintro e w1 ⟨g1, n1, c1, rfl, hX, hb1⟩
        obtain ⟨_, _, ef⟩ := hX.form
        simp only [Value.slice.injEq] at ef
        obtain ⟨rfl, rfl, rfl⟩ := ef
        go_wp2_with fail
        refine (H2.out _ hb1).mono ?_; rintro e w2 ⟨g2, n2, c2, rfl, hY, hb2⟩
        obtain ⟨_, _, ef⟩ := hY.form
        simp only [Value.slice.injEq] at ef
        obtain ⟨rfl, rfl, rfl⟩ := ef
        have hX2 := (hX.sls hb1).below hb2
        have hY2 := hY.sls hb2
        have hb12 := hb1.step hb2
        go_wp2_with fail
        refine (l3Over_v _ _ _ _ _ _ X Y true _ hd1 (fun _ => dom_some h0 hd1) hsx hlx hsy hly hX2 hY2).mono ?_; rintro e w3 ⟨rfl, hb3⟩
        have hbs3 := hb12.step hb3
        replace hX2 := hX2.below hb3
        replace hY2 := hY2.below hb3
        go_wp2_with fail
        go_ret
        exact ⟨by rw [E.out]; rfl, hbs3⟩
      | false =>
        cases hd2 : dom Y X with
        | true =>
          have E : Hid (z = -1) := Em.out h0 hd1 hd2
          clear E0 E1 Em E2
          go_enter Tryd.func68, Tryd.ntmps68
          go_wp2_with fail
          refine H1.out.mono ?_; rintro e w1 ⟨g1, n1, c1, rfl, hX, hb1⟩
          obtain ⟨_, _, ef⟩ := hX.form
          simp only [Value.slice.injEq] at ef
          obtain ⟨rfl, rfl, rfl⟩ := ef
          go_wp2_with fail
          refine (H2.out _ hb1).mono ?_; rintro e w2 ⟨g2, n2, c2, rfl, hY, hb2⟩
          obtain ⟨_, _, ef⟩ := hY.form
          simp only [Value.slice.injEq] at ef
          obtain ⟨rfl, rfl, rfl⟩ := ef
          have hX2 := (hX.sls hb1).below hb2
          have hY2 := hY.sls hb2
          have hb12 := hb1.step hb2
          go_wp2_with fail
          refine (l3Over_v _ _ _ _ _ _ X Y false _ hd1 ((by simp)) hsx hlx hsy hly hX2 hY2).mono ?_; rintro e w3 ⟨rfl, hb3⟩
          have hbs3 := hb12.step hb3
          replace hX2 := hX2.below hb3
          replace hY2 := hY2.below hb3
          go_wp2_with fail
          refine (l3Over_v _ _ _ _ _ _ Y X true _ hd2 (fun _ => dom_some h0b hd2) hsy hly hsx hlx hY2 hX2).mono ?_; rintro e w4 ⟨rfl, hb4⟩
          have hbs4 := hbs3.step hb4
          replace hX2 := hX2.below hb4
          replace hY2 := hY2.below hb4
          go_wp2_with fail
          go_ret
          exact ⟨by rw [E.out]; rfl, hbs4⟩
        | false =>
          have E : Hid (z = 2) := E2.out h0 hd1 hd2
          clear E0 E1 Em E2
          go_enter Tryd.func68, Tryd.ntmps68
          go_wp2_with fail
          refine H1.out.mono ?_; rintro e w1 ⟨g1, n1, c1, rfl, hX, hb1⟩
          obtain ⟨_, _, ef⟩ := hX.form
          simp only [Value.slice.injEq] at ef
          obtain ⟨rfl, rfl, rfl⟩ := ef
          go_wp2_with fail
          refine (H2.out _ hb1).mono ?_; rintro e w2 ⟨g2, n2, c2, rfl, hY, hb2⟩
          obtain ⟨_, _, ef⟩ := hY.form
          simp only [Value.slice.injEq] at ef
          obtain ⟨rfl, rfl, rfl⟩ := ef
          have hX2 := (hX.sls hb1).below hb2
          have hY2 := hY.sls hb2
          have hb12 := hb1.step hb2
          go_wp2_with fail
          refine (l3Over_v _ _ _ _ _ _ X Y false _ hd1 ((by simp)) hsx hlx hsy hly hX2 hY2).mono ?_; rintro e w3 ⟨rfl, hb3⟩
          have hbs3 := hb12.step hb3
          replace hX2 := hX2.below hb3
          replace hY2 := hY2.below hb3
          go_wp2_with fail
          refine (l3Over_v _ _ _ _ _ _ Y X false _ hd2 ((by simp)) hsy hly hsx hlx hY2 hX2).mono ?_; rintro e w4 ⟨rfl, hb4⟩
          have hbs4 := hbs3.step hb4
          replace hX2 := hX2.below hb4
          replace hY2 := hY2.below hb4
          go_wp2_with fail
          go_ret
          exact ⟨by rw [E.out]; rfl, hbs4⟩
  · have d1 : ((X.length : Int) == 0) = false := by simp; exact fun h => hx0 (by rw [h]; rfl)
    have h0 : ¬ (X = [] ∧ Y = []) := fun h => hx0 (by rw [h.1]; rfl)
    clear hx0
    have h0b : ¬ (Y = [] ∧ X = []) := fun h => h0 ⟨h.2, h.1⟩
    cases hd1 : dom X Y with
    | true =>
      have E : Hid (z = 1) := E1.out h0 hd1
      clear E0 E1 Em E2
      go_enter Tryd.func68, Tryd.ntmps68
      go_wp2_with fail
      refine H1.out.mono ?_; rintro e w1 ⟨g1, n1, c1, rfl, hX, hb1⟩
      obtain ⟨_, _, ef⟩ := hX.form
      simp only [Value.slice.injEq] at ef
      obtain ⟨rfl, rfl, rfl⟩ := ef
      go_wp2_with fail
      refine (H2.out _ hb1).mono ?_; rintro e w2 ⟨g2, n2, c2, rfl, hY, hb2⟩
      obtain ⟨_, _, ef⟩ := hY.form
      simp only [Value.slice.injEq] at ef
      obtain ⟨rfl, rfl, rfl⟩ := ef
      have hX2 := (hX.sls hb1).below hb2
      have hY2 := hY.sls hb2
      have hb12 := hb1.step hb2
      go_wp2_with fail
      refine (l3Over_v _ _ _ _ _ _ X Y true _ hd1 (fun _ => dom_some h0 hd1) hsx hlx hsy hly hX2 hY2).mono ?_; rintro e w3 ⟨rfl, hb3⟩
      have hbs3 := hb12.step hb3
      replace hX2 := hX2.below hb3
      replace hY2 := hY2.below hb3
      go_wp2_with fail
      go_ret
      exact ⟨by rw [E.out]; rfl, hbs3⟩
    | false =>
      cases hd2 : dom Y X with
      | true =>
        have E : Hid (z = -1) := Em.out h0 hd1 hd2
        clear E0 E1 Em E2
        go_enter Tryd.func68, Tryd.ntmps68
        go_wp2_with fail
        refine H1.out.mono ?_; rintro e w1 ⟨g1, n1, c1, rfl, hX, hb1⟩
        obtain ⟨_, _, ef⟩ := hX.form
        simp only [Value.slice.injEq] at ef
        obtain ⟨rfl, rfl, rfl⟩ := ef
        go_wp2_with fail
        refine (H2.out _ hb1).mono ?_; rintro e w2 ⟨g2, n2, c2, rfl, hY, hb2⟩
        obtain ⟨_, _, ef⟩ := hY.form
        simp only [Value.slice.injEq] at ef
        obtain ⟨rfl, rfl, rfl⟩ := ef
        have hX2 := (hX.sls hb1).below hb2
        have hY2 := hY.sls hb2
        have hb12 := hb1.step hb2
        go_wp2_with fail
        refine (l3Over_v _ _ _ _ _ _ X Y false _ hd1 ((by simp)) hsx hlx hsy hly hX2 hY2).mono ?_; rintro e w3 ⟨rfl, hb3⟩
        have hbs3 := hb12.step hb3
        replace hX2 := hX2.below hb3
        replace hY2 := hY2.below hb3
        go_wp2_with fail
        refine (l3Over_v _ _ _ _ _ _ Y X true _ hd2 (fun _ => dom_some h0b hd2) hsy hly hsx hlx hY2 hX2).mono ?_; rintro e w4 ⟨rfl, hb4⟩
        have hbs4 := hbs3.step hb4
        replace hX2 := hX2.below hb4
        replace hY2 := hY2.below hb4
        go_wp2_with fail
        go_ret
        exact ⟨by rw [E.out]; rfl, hbs4⟩
      | false =>
        have E : Hid (z = 2) := E2.out h0 hd1 hd2
        clear E0 E1 Em E2
        go_enter Tryd.func68, Tryd.ntmps68
        go_wp2_with fail
        refine H1.out.mono ?_; rintro e w1 ⟨g1, n1, c1, rfl, hX, hb1⟩
        obtain ⟨_, _, ef⟩ := hX.form
        simp only [Value.slice.injEq] at ef
        obtain ⟨rfl, rfl, rfl⟩ := ef
        go_wp2_with fail
        refine (H2.out _ hb1).mono ?_; rintro e w2 ⟨g2, n2, c2, rfl, hY, hb2⟩
        obtain ⟨_, _, ef⟩ := hY.form
        simp only [Value.slice.injEq] at ef
        obtain ⟨rfl, rfl, rfl⟩ := ef
        have hX2 := (hX.sls hb1).below hb2
        have hY2 := hY.sls hb2
        have hb12 := hb1.step hb2
        go_wp2_with fail
        refine (l3Over_v _ _ _ _ _ _ X Y false _ hd1 ((by simp)) hsx hlx hsy hly hX2 hY2).mono ?_; rintro e w3 ⟨rfl, hb3⟩
        have hbs3 := hb12.step hb3
        replace hX2 := hX2.below hb3
        replace hY2 := hY2.below hb3
        go_wp2_with fail
        refine (l3Over_v _ _ _ _ _ _ Y X false _ hd2 ((by simp)) hsy hly hsx hlx hY2 hX2).mono ?_; rintro e w4 ⟨rfl, hb4⟩
        have hbs4 := hbs3.step hb4
        replace hX2 := hX2.below hb4
        replace hY2 := hY2.below hb4
        go_wp2_with fail
        go_ret
        exact ⟨by rw [E.out]; rfl, hbs4⟩

set_option maxRecDepth 100000 in
set_option maxHeartbeats 400000 in
theorem sCompareLists_t {l h l' h' l2 h2 : Nat} {v x y : Value} {ar : List Int} {a b : List (List Int)} {w : World} (ha : ar.length ≤ 1048576) (hv : SlI l h w v ar) (hsa : short a) (hx : SlS l' h' w x a) (hsb : short b) (hy : SlS l2 h2 w y b) :
    Calls Tryd.prog 26 #[.agg #[v], x, y] w (RetV w (.tuple #[.int .i64 (lisAns ar a b), .bool (lisOk ar a b)])) := by
  obtain ⟨xa, xc, rfl⟩ := hx.form
  obtain ⟨ya, yc, rfl⟩ := hy.form
  cases hg1 : goodTerms ar a 8 with
  | false =>
    have e0 : lisOk ar a b = false := by simp [lisOk, hg1]
    have E := Lib.hid (And.intro e0 (lis_no e0))
    have H1 := Lib.hid (fun (w' : World) (hq : Bel w w') => l3Terms_v l h l' h' v _ ar a false w' hg1 ha (hv.below hq) hsa (hx.below hq) )
    clear hg1 e0
    rw [E.out.1, E.out.2]
    go_enter Tryd.func26, Tryd.ntmps26
    go_wp2_with fail
    refine (H1.out _ (Bel.alloc0 _ _)).mono ?_; rintro e w1 ⟨rfl, hb1⟩
    go_wp2_with fail
    go_ret2
    exact ⟨rfl, hb1.of_alloc⟩
  | true =>
    have H1 := Lib.hid (fun (w' : World) (hq : Bel w w') => l3Terms_v l h l' h' v _ ar a true w' hg1 ha (hv.below hq) hsa (hx.below hq) )
    cases hg2 : goodTerms ar b 8 with
    | false =>
      have e0 : lisOk ar a b = false := by simp [lisOk, hg2]
      have E := Lib.hid (And.intro e0 (lis_no e0))
      have H2 := Lib.hid (fun (w' : World) (hq : Bel w w') => l3Terms_v l h l2 h2 v _ ar b false w' hg2 ha (hv.below hq) hsb (hy.below hq) )
      clear hg1 hg2 e0
      rw [E.out.1, E.out.2]
      go_enter Tryd.func26, Tryd.ntmps26
      go_wp2_with fail
      refine (H1.out _ (Bel.alloc0 _ _)).mono ?_; rintro e w1 ⟨rfl, hb1⟩
      have hx1 := boxc hb1 0 _ rfl
      go_wp2_with fail
      refine (H2.out _ hb1.of_alloc).mono ?_; rintro e w2 ⟨rfl, hb2⟩
      go_wp2_with fail
      go_ret2
      exact ⟨rfl, hb1.of_alloc.step hb2⟩
    | true =>
      have e0 : lisOk ar a b = true := by simp [lisOk, hg1, hg2]
      have hla := goodTermsS_low hg1
      have hlb := goodTermsS_low hg2
      have H2 := Lib.hid (fun (w' : World) (hq : Bel w w') => l3Terms_v l h l2 h2 v _ ar b true w' hg2 ha (hv.below hq) hsb (hy.below hq) )
      have E := Lib.hid (And.intro e0 (lis_yes e0))
      clear hg1 hg2 e0
      rw [E.out.1, E.out.2]
      have H3 := Lib.hid (fun (w' : World) (hq : Bel w w') => l3Lists_c l' h' l2 h2 _ _ a b w' hsa hla hsb hlb (hx.below hq) (hy.below hq))
      go_enter Tryd.func26, Tryd.ntmps26
      go_wp2_with fail
      refine (H1.out _ (Bel.alloc0 _ _)).mono ?_; rintro e w1 ⟨rfl, hb1⟩
      have hx1 := boxc hb1 0 _ rfl
      go_wp2_with fail
      refine (H2.out _ hb1.of_alloc).mono ?_; rintro e w2 ⟨rfl, hb2⟩
      have hb12 := hb1.of_alloc.step hb2
      go_wp2_with fail
      refine (H3.out _ hb12).mono ?_; rintro e w3 ⟨rfl, hb3⟩
      go_wp2_with fail
      go_ret2
      exact ⟨rfl, hb12.step hb3⟩

set_option maxRecDepth 100000 in
set_option maxHeartbeats 400000 in
theorem sIsFalling_t {l h l' h' : Nat} {v x : Value} {ar : List Int} {b : List (List Int)} {w : World} (ha : ar.length ≤ 1048576) (hv : SlI l h w v ar) (hsb : short b) (hx : SlS l' h' w x b) :
    Calls Tryd.prog 30 #[.agg #[v], x] w (RetV w (.tuple #[.bool (falAns ar b), .bool (goodTerms ar b 8)])) := by
  obtain ⟨xa, xc, rfl⟩ := hx.form
  cases hg1 : goodTerms ar b 8 with
  | false =>
    have E := Lib.hid (fal_no hg1)
    have H1 := Lib.hid (fun (w' : World) (hq : Bel w w') => l3Terms_v l h l' h' v _ ar b false w' hg1 ha (hv.below hq) hsb (hx.below hq))
    clear hg1
    rw [E.out]
    go_enter Tryd.func30, Tryd.ntmps30
    go_wp2_with fail
    refine (H1.out _ (Bel.alloc0 _ _)).mono ?_; rintro e w1 ⟨rfl, hb1⟩
    go_wp2_with fail
    go_ret2
    exact ⟨rfl, hb1.of_alloc⟩
  | true =>
    have E := Lib.hid (fal_yes hg1)
    have hlb := goodTermsS_low hg1
    have hl8 : b.length ≤ 8 := (goodTerms_iff.1 hg1).2.1
    have H1 := Lib.hid (fun (w' : World) (hq : Bel w w') => l3Terms_v l h l' h' v _ ar b true w' hg1 ha (hv.below hq) hsb (hx.below hq))
    clear hg1
    rw [E.out]
    obtain ⟨hbl, hbm⟩ := hsb
    go_enter Tryd.func30, Tryd.ntmps30
    go_wp2_with fail
    refine (H1.out _ (Bel.alloc0 _ _)).mono ?_; rintro e w1 ⟨rfl, hb1⟩
    go_wp2_with fail
    go_loopw [6] (fun i wr => ∃ k : Nat, (k + 1 ≤ b.length ∨ k = 0) ∧ i = .int .i64 ((k + 1 : Nat) : Int) ∧ fallTo b (k + 1) ∧ Bel w wr) (fun i _ => b.length + 1 - (intOf i).toNat)
    case atStart => exact ⟨0, .inr rfl, rfl, fun j h1 h2 => by omega, hb1.of_alloc⟩
    case round =>
      obtain ⟨k, hk, rfl, hf, hb⟩ := hrel
      by_cases hlt : k + 1 < b.length
      · have hw9 := IntWalk.i64_in (((k + 1 : Nat) : Int) - 1) (by omega)
        obtain ⟨bb, off, p, rfl, hbb, hc, hp⟩ := hx.at hb k (by omega)
        obtain ⟨bb', off', p', e', -, hc', hp'⟩ := hx.at hb (k+1) hlt
        simp only [Option.some.injEq, Addr.mk.injEq, and_true] at e'
        obtain ⟨rfl, rfl⟩ := e'
        have hxl0 := hbm k (by omega)
        have hyl0 := hbm (k+1) hlt
        have hxl1 := hlb k (by omega)
        have hyl1 := hlb (k+1) hlt
        have HN := Lib.hid (And.intro (fun h => falls_no (i := k+1) (by omega) hlt h) (fun h => hf.step (i := k+1) (fun _ => h)))
        have hw8 := IntWalk.i64_in ((k : Int) + 1 - 1) (by omega)
        have hw7 := IntWalk.i64_in (k : Int) (by omega)
        have hi0 : (0 : Int) ≤ k := by omega
        have hi1 : (k : Int) < b.length := by omega
        have hi2 : (0 : Int) ≤ (k : Int) + 1 := by omega
        have hi3 : (k : Int) + 1 < b.length := by omega
        have HB := Lib.hid hb
        clear hf hx hbm hlb hb
        rw [show k + 1 - 1 = k from rfl] at HN
        generalize b.getD k [] = s at *
        generalize b.getD (k+1) [] = t at *
        obtain ⟨ap, cp, rfl⟩ := hp.form
        obtain ⟨ap', cp', rfl⟩ := hp'.form
        generalize hq : above s t = q
        have HA := Lib.hid (fun (w' : World) (hq2 : Bel wr w') => l3Greater_v _ _ _ _ _ _ s t q w' hq hxl0 hyl0 hyl1 (hp.below hq2) (hp'.below hq2))
        have hbk := World.block_lt_of_cell? wr ⟨_, _, none⟩ hc
        cases q with
        | true =>
          have F := Lib.hid (HN.out.2 hq)
          clear HN hq
          go_wp2_with fail
          go_region_held3 (fun w' => w'.cell? ⟨bb, off + k, none⟩ = some (.slice ap s.length cp) ∧ w'.cell? ⟨bb, off + (k+1), none⟩ = some (.slice ap' t.length cp'))
            (first | exact ⟨hc, hc'⟩ | exact ⟨hb2.of_drew.at hbk hc, hb2.of_drew.at hbk hc'⟩)
            (first | (go_at_call 73; refine (HA.out _ (Bel.drew0 _)).mono ?_; rintro e w2 ⟨rfl, hb2⟩) | fail)
          go_wp2_with fail
          exact ⟨⟨k+1, by omega, by go_num, F.out, HB.out.step hb2.of_drew⟩, by simp [intOf]; omega⟩
        | false =>
          have F := Lib.hid (HN.out.1 hq)
          clear HN hq
          go_wp2_with fail
          go_region_held3 (fun w' => w'.cell? ⟨bb, off + k, none⟩ = some (.slice ap s.length cp) ∧ w'.cell? ⟨bb, off + (k+1), none⟩ = some (.slice ap' t.length cp'))
            (first | exact ⟨hc, hc'⟩ | exact ⟨hb2.of_drew.at hbk hc, hb2.of_drew.at hbk hc'⟩)
            (first | (go_at_call 73; refine (HA.out _ (Bel.drew0 _)).mono ?_; rintro e w2 ⟨rfl, hb2⟩) | fail)
          go_wp2_with fail
          go_ret2
          exact ⟨by rw [F.out]; rfl, HB.out.step hb2.of_drew⟩
      · have F := Lib.hid (hf.done (by omega))
        clear hf
        go_wp2_with fail
        go_ret2
        exact ⟨by rw [F.out]; rfl, hb⟩
end Go.Proofs.YtkbgglejhdodoaaDoor
