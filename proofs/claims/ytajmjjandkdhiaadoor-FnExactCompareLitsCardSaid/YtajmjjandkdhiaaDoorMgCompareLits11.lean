/- Texts merged, part 11. -/
import Derived.Test.YtajmjjandkdhiaaDoorRows
import Derived.ProofKit
import Derived.OpenShut
import Derived.ShutString
import Derived.ChangeOld
import Derived.Lib.SmallJoins
import Derived.Deep.Slices
import Derived.Deep.Strs
import Derived.Test.YtajmjjandkdhiaaDoorCards
import Derived.Test.YtajmjjandkdhiaaDoorTie
import Derived.OpenVars
import Derived.Deep.DeepHandedRow
import Derived.Lib.LaidTab
import Derived.Test.YtajmjjandkdhiaaDoorMgCompareLits10
section
/- CompareLists, IsFalling: the reference's. -/
namespace Go.Proofs.YtajmjjandkdhiaaDoor
open Go.RowKit

theorem any_upto {a : List (List Int)} {t : List Int} {i : Nat} (hi : i < a.length) : ((a.take (i+1)).any fun u => above u t) = (((a.take i).any fun u => above u t) || above (a.getD i []) t) := by
  rw [take_snoc a i [] hi, List.any_append]; simp
set_option maxRecDepth 100000 in
set_option maxHeartbeats 400000 in
theorem l3Over_v (l h l' h' : Nat) (v u : Value) (a b : List (List Int)) (q : Bool) (w : World) (hd : dom a b = q) (hne : q = true → 0 < a.length) (ha : short a) (_ : lowL a) (hb : short b) (hlb : lowL b) (hv : SlS l h w v a) (hu : SlS l' h' w u b) :
    Calls Tryd.prog 38 #[v, u] w (RetV w (.bool q)) := by
  obtain ⟨ad, cap, rfl⟩ := hv.form
  obtain ⟨ad', cap', rfl⟩ := hu.form
  obtain ⟨hbl, hbm⟩ := hb
  obtain ⟨hal, ham⟩ := ha
  have HD := Lib.hid (And.intro hd hne)
  clear hd hne
  go_enter Tryd.func38, Tryd.ntmps38
  go_wp2_with fail
  go_loopw [12] (fun i wr => ∃ k : Nat, k ≤ b.length ∧ i = .int .i64 k ∧ dom a (b.take k) = true ∧ Bel w wr) (fun i _ => b.length - (intOf i).toNat)
  case atStart => exact ⟨0, Nat.zero_le _, rfl, rfl, Bel.rfl' _⟩
  case round =>
    obtain ⟨k, hk, rfl, hn, hb1⟩ := hrel
    by_cases hlt : k < b.length
    · obtain ⟨bb, off, p, rfl, -, hc, hp⟩ := hu.at hb1 k hlt
      have hpl := hbm k hlt
      have hplow := hlb k hlt
      have HN := Lib.hid (And.intro (fun h => dom_no (a := a) hlt h) (fun h => dom_take hlt hn h))
      have hv1 := hv.below hb1
      clear hn hu hbm hlb hv
      generalize b.getD k [] = t at *
      obtain ⟨ap, cp, rfl⟩ := hp.form
      obtain ⟨wo, rfl⟩ : ∃ wo, wo = wr := ⟨wr, rfl⟩
      go_wp2_with fail
      go_loopw [7, 18] (fun ov i wr => ∃ j : Nat, j ≤ a.length ∧ i = .int .i64 j ∧ ov = .bool ((a.take j).any fun u => above u t) ∧ Bel wo wr) (fun _ i _ => a.length - (intOf i).toNat)
      case atStart => exact ⟨0, Nat.zero_le _, rfl, rfl, Bel.rfl' _⟩
      case round =>
        obtain ⟨j, hj, rfl, rfl, hb2⟩ := hrel
        by_cases hjl : j < a.length
        · obtain ⟨bx, ox, z, rfl, -, hcell, hz⟩ := hv1.at hb2 j hjl
          have hzl := ham j hjl
          have HU := Lib.hid (any_upto (t := t) hjl)
          have hp2 := hp.below hb2
          clear hv1 ham hp
          generalize a.getD j [] = y at *
          obtain ⟨az, cz, rfl⟩ := hz.form
          cases ho : ((a.take j).any fun u => above u t) with
          | true =>
            have E : Hid (((a.take (j+1)).any fun u => above u t) = true) := by show _ = _; rw [HU.out, ho]; rfl
            clear HU ho
            go_wp2_with fail
            go_roundw
            case rel => exact ⟨j+1, by omega, by go_num, by rw [E.out], hb2⟩
            case measure => simp [intOf]; omega
          | false =>
            generalize hq : above y t = r
            have E : Hid (((a.take (j+1)).any fun u => above u t) = r) := by show _ = _; rw [HU.out, ho, hq]; rfl
            have HC := Lib.hid (l3Greater_v _ _ _ _ _ _ y t r wr hq hzl hpl hplow hz hp2)
            clear HU ho hq
            go_wp2_with fail
            refine HC.out.mono ?_; rintro e w3 ⟨rfl, hb3⟩
            go_wp2_with fail
            go_roundw
            case rel => exact ⟨j+1, by omega, by go_num, by rw [E.out], hb2.step hb3⟩
            case measure => simp [intOf]; omega
        · cases hq : ((a.take j).any fun u => above u t) with
          | false =>
            have E : Hid (q = false) := HD.out.1.symm.trans (HN.out.1 (any_end hjl hq))
            clear HN
            go_wp2_with fail
            go_ret
            exact ⟨by rw [E.out]; rfl, hb1.step hb2⟩
          | true =>
            have E := Lib.hid (HN.out.2 (any_end hjl hq))
            clear HN
            go_wp2_with fail
            go_roundw
            case rel => exact ⟨k+1, by omega, by go_num, E.out, hb1.step hb2⟩
            case measure => simp [intOf]; omega
    · have E : Hid (q = true) := HD.out.1.symm.trans (dom_all hlt hn)
      have hpos : decide (0 < a.length) = true := by have := HD.out.2 E.out; simpa using this
      clear hn
      go_wp2_with fail
      go_ret
      exact ⟨by rw [E.out]; first | rfl | exact congrArg (fun x => Ending.returned (Value.bool x)) hpos, hb1⟩

set_option maxRecDepth 100000 in
set_option maxHeartbeats 800000 in
theorem l3Lists_c (l h l' h' : Nat) (v u : Value) (a b : List (List Int)) (w : World) (ha : short a) (hla : lowL a) (hb : short b) (hlb : lowL b) (hv : SlS l h w v a) (hu : SlS l' h' w u b) :
    Calls Tryd.prog 26 #[v, u] w (RetV w (.int .i64 (cmpL a b))) := by
  obtain ⟨ad, cap, rfl⟩ := hv.form
  obtain ⟨ad', cap', rfl⟩ := hu.form
  have H1 := Lib.hid (l3Left_c l h l' h' _ _ a b w ha hb hv hu)
  have H2 := Lib.hid (fun (w' : World) (hq : Bel w w') => l3Left_c l' h' l h _ _ b a w' hb ha (hu.below hq) (hv.below hq))
  have hsx := minus_short (b := b) ha
  have hsy := minus_short (b := a) hb
  have hlx := minus_low (b := b) hla
  have hly := minus_low (b := a) hlb
  have E0 := Lib.hid (fun h1 h2 => cmpL_0 (a := a) (b := b) h1 h2)
  have E1 := Lib.hid (fun h0 h1 => cmpL_1 (a := a) (b := b) h0 h1)
  have Em := Lib.hid (fun h0 h1 h2 => cmpL_m (a := a) (b := b) h0 h1 h2)
  have E2 := Lib.hid (fun h0 h1 h2 => cmpL_2 (a := a) (b := b) h0 h1 h2)
  generalize cmpL a b = z at *
  generalize minus a b = X at *
  generalize minus b a = Y at *
  by_cases hx0 : X.length = 0
  · have d1 : ((X.length : Int) == 0) = true := by simpa using hx0
    by_cases hy0 : Y.length = 0
    · have d2 : ((Y.length : Int) == 0) = true := by simpa using hy0
      have E : Hid (z = 0) := E0.out (List.length_eq_zero_iff.1 hx0) (List.length_eq_zero_iff.1 hy0)
      clear hx0 hy0 E0 E1 Em E2
      go_enter Tryd.func26, Tryd.ntmps26
      go_wp2_with fail
      refine H1.out.mono ?_; rintro e w1 ⟨g1, n1, c1, rfl, hX, hb1⟩
      obtain ⟨_, _, ef⟩ := hX.form
      simp only [Value.slice.injEq] at ef
      obtain ⟨rfl, rfl, rfl⟩ := ef
      go_wp2_with fail
      refine (H2.out _ hb1).mono ?_; rintro e w2 ⟨g2, n2, c2, rfl, hY, hb2⟩
      obtain ⟨_, _, ef⟩ := hY.form
      simp only [Value.slice.injEq] at ef
      obtain ⟨rfl, rfl, rfl⟩ := ef
      have hX2 := (hX.sls hb1).below hb2
      have hY2 := hY.sls hb2
      have hb12 := hb1.step hb2
      go_wp2_with fail
      go_ret
      exact ⟨by rw [E.out]; rfl, hb12⟩
    · have d2 : ((Y.length : Int) == 0) = false := by simp; exact fun h => hy0 (by rw [h]; rfl)
      have h0 : ¬ (X = [] ∧ Y = []) := fun h => hy0 (by rw [h.2]; rfl)
      clear hx0 hy0
      have h0b : ¬ (Y = [] ∧ X = []) := fun h => h0 ⟨h.2, h.1⟩
      cases hd1 : dom X Y with
      | true =>
        have E : Hid (z = 1) := E1.out h0 hd1
        clear E0 E1 Em E2
        go_enter Tryd.func26, Tryd.ntmps26
        go_wp2_with fail
        refine H1.out.mono ?_; rintro e w1 ⟨g1, n1, c1, rfl, hX, hb1⟩
        obtain ⟨_, _, ef⟩ := hX.form
        simp only [Value.slice.injEq] at ef
        obtain ⟨rfl, rfl, rfl⟩ := ef
        go_wp2_with fail
        refine (H2.out _ hb1).mono ?_; rintro e w2 ⟨g2, n2, c2, rfl, hY, hb2⟩
        obtain ⟨_, _, ef⟩ := hY.form
        simp only [Value.slice.injEq] at ef
        obtain ⟨rfl, rfl, rfl⟩ := ef
        have hX2 := (hX.sls hb1).below hb2
        have hY2 := hY.sls hb2
        have hb12 := hb1.step hb2
        go_wp2_with fail
        refine (l3Over_v _ _ _ _ _ _ X Y true _ hd1 (fun _ => dom_some h0 hd1) hsx hlx hsy hly hX2 hY2).mono ?_; rintro e w3 ⟨rfl, hb3⟩
        have hbs3 := hb12.step hb3
        replace hX2 := hX2.below hb3
        replace hY2 := hY2.below hb3
        go_wp2_with fail
        go_ret
        exact ⟨by rw [E.out]; rfl, hbs3⟩
      | false =>
        cases hd2 : dom Y X with
        | true =>
          have E : Hid (z = -1) := Em.out h0 hd1 hd2
          clear E0 E1 Em E2
          go_enter Tryd.func26, Tryd.ntmps26
          go_wp2_with fail
          refine H1.out.mono ?_; rintro e w1 ⟨g1, n1, c1, rfl, hX, hb1⟩
          obtain ⟨_, _, ef⟩ := hX.form
          simp only [Value.slice.injEq] at ef
          obtain ⟨rfl, rfl, rfl⟩ := ef
          go_wp2_with fail
          refine (H2.out _ hb1).mono ?_; rintro e w2 ⟨g2, n2, c2, rfl, hY, hb2⟩
          obtain ⟨_, _, ef⟩ := hY.form
          simp only [Value.slice.injEq] at ef
          obtain ⟨rfl, rfl, rfl⟩ := ef
          have hX2 := (hX.sls hb1).below hb2
          have hY2 := hY.sls hb2
          have hb12 := hb1.step hb2
          go_wp2_with fail
          refine (l3Over_v _ _ _ _ _ _ X Y false _ hd1 ((by simp)) hsx hlx hsy hly hX2 hY2).mono ?_; rintro e w3 ⟨rfl, hb3⟩
          have hbs3 := hb12.step hb3
          replace hX2 := hX2.below hb3
          replace hY2 := hY2.below hb3
          go_wp2_with fail
          refine (l3Over_v _ _ _ _ _ _ Y X true _ hd2 (fun _ => dom_some h0b hd2) hsy hly hsx hlx hY2 hX2).mono ?_; rintro e w4 ⟨rfl, hb4⟩
          have hbs4 := hbs3.step hb4
          replace hX2 := hX2.below hb4
          replace hY2 := hY2.below hb4
          go_wp2_with fail
          go_ret
          exact ⟨by rw [E.out]; rfl, hbs4⟩
        | false =>
          have E : Hid (z = 2) := E2.out h0 hd1 hd2
          clear E0 E1 Em E2
          go_enter Tryd.func26, Tryd.ntmps26
          go_wp2_with fail
          refine H1.out.mono ?_; rintro e w1 ⟨g1, n1, c1, rfl, hX, hb1⟩
          obtain ⟨_, _, ef⟩ := hX.form
          simp only [Value.slice.injEq] at ef
          obtain ⟨rfl, rfl, rfl⟩ := ef
          go_wp2_with fail
          refine (H2.out _ hb1).mono ?_; rintro e w2 ⟨g2, n2, c2, rfl, hY, hb2⟩
          obtain ⟨_, _, ef⟩ := hY.form
          simp only [Value.slice.injEq] at ef
          obtain ⟨rfl, rfl, rfl⟩ := ef
          have hX2 := (hX.sls hb1).below hb2
          have hY2 := hY.sls hb2
          have hb12 := hb1.step hb2
          go_wp2_with fail
          refine (l3Over_v _ _ _ _ _ _ X Y false _ hd1 ((by simp)) hsx hlx hsy hly hX2 hY2).mono ?_; rintro e w3 ⟨rfl, hb3⟩
          have hbs3 := hb12.step hb3
          replace hX2 := hX2.below hb3
          replace hY2 := hY2.below hb3
          go_wp2_with fail
          refine (l3Over_v _ _ _ _ _ _ Y X false _ hd2 ((by simp)) hsy hly hsx hlx hY2 hX2).mono ?_; rintro e w4 ⟨rfl, hb4⟩
          have hbs4 := hbs3.step hb4
          replace hX2 := hX2.below hb4
          replace hY2 := hY2.below hb4
          go_wp2_with fail
          go_ret
          exact ⟨by rw [E.out]; rfl, hbs4⟩
  · have d1 : ((X.length : Int) == 0) = false := by simp; exact fun h => hx0 (by rw [h]; rfl)
    have h0 : ¬ (X = [] ∧ Y = []) := fun h => hx0 (by rw [h.1]; rfl)
    clear hx0
    have h0b : ¬ (Y = [] ∧ X = []) := fun h => h0 ⟨h.2, h.1⟩
    cases hd1 : dom X Y with
    | true =>
      have E : Hid (z = 1) := E1.out h0 hd1
      clear E0 E1 Em E2
      go_enter Tryd.func26, Tryd.ntmps26
      go_wp2_with fail
      refine H1.out.mono ?_; rintro e w1 ⟨g1, n1, c1, rfl, hX, hb1⟩
      obtain ⟨_, _, ef⟩ := hX.form
      simp only [Value.slice.injEq] at ef
      obtain ⟨rfl, rfl, rfl⟩ := ef
      go_wp2_with fail
      refine (H2.out _ hb1).mono ?_; rintro e w2 ⟨g2, n2, c2, rfl, hY, hb2⟩
      obtain ⟨_, _, ef⟩ := hY.form
      simp only [Value.slice.injEq] at ef
      obtain ⟨rfl, rfl, rfl⟩ := ef
      have hX2 := (hX.sls hb1).below hb2
      have hY2 := hY.sls hb2
      have hb12 := hb1.step hb2
      go_wp2_with fail
      refine (l3Over_v _ _ _ _ _ _ X Y true _ hd1 (fun _ => dom_some h0 hd1) hsx hlx hsy hly hX2 hY2).mono ?_; rintro e w3 ⟨rfl, hb3⟩
      have hbs3 := hb12.step hb3
      replace hX2 := hX2.below hb3
      replace hY2 := hY2.below hb3
      go_wp2_with fail
      go_ret
      exact ⟨by rw [E.out]; rfl, hbs3⟩
    | false =>
      cases hd2 : dom Y X with
      | true =>
        have E : Hid (z = -1) := Em.out h0 hd1 hd2
        clear E0 E1 Em E2
        go_enter Tryd.func26, Tryd.ntmps26
        go_wp2_with fail
        refine H1.out.mono ?_; rintro e w1 ⟨g1, n1, c1, rfl, hX, hb1⟩
        obtain ⟨_, _, ef⟩ := hX.form
        simp only [Value.slice.injEq] at ef
        obtain ⟨rfl, rfl, rfl⟩ := ef
        go_wp2_with fail
        refine (H2.out _ hb1).mono ?_; rintro e w2 ⟨g2, n2, c2, rfl, hY, hb2⟩
        obtain ⟨_, _, ef⟩ := hY.form
        simp only [Value.slice.injEq] at ef
        obtain ⟨rfl, rfl, rfl⟩ := ef
        have hX2 := (hX.sls hb1).below hb2
        have hY2 := hY.sls hb2
        have hb12 := hb1.step hb2
        go_wp2_with fail
        refine (l3Over_v _ _ _ _ _ _ X Y false _ hd1 ((by simp)) hsx hlx hsy hly hX2 hY2).mono ?_; rintro e w3 ⟨rfl, hb3⟩
        have hbs3 := hb12.step hb3
        replace hX2 := hX2.below hb3
        replace hY2 := hY2.below hb3
        go_wp2_with fail
        refine (l3Over_v _ _ _ _ _ _ Y X true _ hd2 (fun _ => dom_some h0b hd2) hsy hly hsx hlx hY2 hX2).mono ?_; rintro e w4 ⟨rfl, hb4⟩
        have hbs4 := hbs3.step hb4
        replace hX2 := hX2.below hb4
        replace hY2 := hY2.below hb4
        go_wp2_with fail
        go_ret
        exact ⟨by rw [E.out]; rfl, hbs4⟩
      | false =>
        have E : Hid (z = 2) := E2.out h0 hd1 hd2
        clear E0 E1 Em E2
        go_enter Tryd.func26, Tryd.ntmps26
        go_wp2_with fail
        refine H1.out.mono ?_; rintro e w1 ⟨g1, n1, c1, rfl, hX, hb1⟩
        obtain ⟨_, _, ef⟩ := hX.form
        simp only [Value.slice.injEq] at ef
        obtain ⟨rfl, rfl, rfl⟩ := ef
        go_wp2_with fail
        refine (H2.out _ hb1).mono ?_; rintro e w2 ⟨g2, n2, c2, rfl, hY, hb2⟩
        obtain ⟨_, _, ef⟩ := hY.form
        simp only [Value.slice.injEq] at ef
        obtain ⟨rfl, rfl, rfl⟩ := ef
        have hX2 := (hX.sls hb1).below hb2
        have hY2 := hY.sls hb2
        have hb12 := hb1.step hb2
        go_wp2_with fail
        refine (l3Over_v _ _ _ _ _ _ X Y false _ hd1 ((by simp)) hsx hlx hsy hly hX2 hY2).mono ?_; rintro e w3 ⟨rfl, hb3⟩
        have hbs3 := hb12.step hb3
        replace hX2 := hX2.below hb3
        replace hY2 := hY2.below hb3
        go_wp2_with fail
        refine (l3Over_v _ _ _ _ _ _ Y X false _ hd2 ((by simp)) hsy hly hsx hlx hY2 hX2).mono ?_; rintro e w4 ⟨rfl, hb4⟩
        have hbs4 := hbs3.step hb4
        replace hX2 := hX2.below hb4
        replace hY2 := hY2.below hb4
        go_wp2_with fail
        go_ret
        exact ⟨by rw [E.out]; rfl, hbs4⟩

end Go.Proofs.YtajmjjandkdhiaaDoor
end
section
/- Chapter 4: CompareLits, both sides. -/
namespace Go.Proofs.YtajmjjandkdhiaaDoor
open Go.RowKit

set_option maxRecDepth 100000 in
set_option maxHeartbeats 1000000 in
theorem comparedLits_c (l h l' h' : Nat) (x y : Lt) (u1 u2 q1 q2 : Value) (w : World) (hT : Tab w) (hsx : short (listL x)) (hlx : lowL (listL x)) (hsy : short (listL y)) (hly : lowL (listL y)) (h1 : SlI l h w u1 x.2.1) (h2 : SlI l h w u2 x.2.2) (h3 : SlI l' h' w q1 y.2.1) (h4 : SlI l' h' w q2 y.2.2) :
    Calls Tryd.prog 30 #[.agg #[.bool x.1, u1, u2], .agg #[.bool y.1, q1, q2]] w (RetV w (.int .i64 (cmpL (listL x) (listL y)))) := by
  have HX := Lib.hid (fun (w' : World) (hb : Bel w w') => countedTerms_c l h x u1 u2 w' (h1.below hb) (h2.below hb))
  have HY := Lib.hid (fun (w' : World) (hb : Bel w w') => countedTerms_c l' h' y q1 q2 w' (h3.below hb) (h4.below hb))
  have HM := Lib.hid (fun (w' : World) (z1 z2 : Value) (hb : Bel w w') (g1 : SlS 0 w'.heap.size w' z1 (listL x)) (g2 : SlS 0 w'.heap.size w' z2 (listL y)) => comparedLists_c _ _ _ _ z1 z2 _ _ w' (hT.bel hb) hsx hlx hsy hly g1 g2)
  clear h1 h2 h3 h4
  generalize listL x = X at *
  generalize listL y = Y at *
  generalize x.1 = p at *
  generalize y.1 = q at *
  have HB0 : Bel w ((w.alloc (.cells #[.bool p, u1, u2] 33)).alloc (.cells #[.bool q, q1, q2] 33)).drew := (Bel.alloc2 _ _ _).drew
  have K : Hid (∀ w', Bel ((w.alloc (.cells #[.bool p, u1, u2] 33)).alloc (.cells #[.bool q, q1, q2] 33)).drew w' → (w'.cell? ⟨w.heap.size, 0, none⟩ = some (.bool p) ∧ w'.cell? ⟨w.heap.size, 1, none⟩ = some u1 ∧ w'.cell? ⟨w.heap.size, 2, none⟩ = some u2) ∧ w'.cell? ⟨w.heap.size + 1, 0, none⟩ = some (.bool q) ∧ w'.cell? ⟨w.heap.size + 1, 1, none⟩ = some q1 ∧ w'.cell? ⟨w.heap.size + 1, 2, none⟩ = some q2) := fun w' hb => by
    have hq := hb.of_drew
    exact ⟨⟨hq.at (by simp; omega) (by simp [go_sem]), hq.at (by simp; omega) (by simp [go_sem]), hq.at (by simp; omega) (by simp [go_sem])⟩, hq.at (by simp) (by simp [go_sem]), hq.at (by simp) (by simp [go_sem]), hq.at (by simp) (by simp [go_sem])⟩
  go_enter Tryd.func30, Tryd.ntmps30
  go_wp2_with fail
  go_region_held3 (fun w' => (w'.cell? ⟨w.heap.size, 0, none⟩ = some (.bool p) ∧ w'.cell? ⟨w.heap.size, 1, none⟩ = some u1 ∧ w'.cell? ⟨w.heap.size, 2, none⟩ = some u2) ∧ w'.cell? ⟨w.heap.size + 1, 0, none⟩ = some (.bool q) ∧ w'.cell? ⟨w.heap.size + 1, 1, none⟩ = some q1 ∧ w'.cell? ⟨w.heap.size + 1, 2, none⟩ = some q2)
    (first | exact K.out _ ((g3.step g4).step g5) | exact K.out _ (g3.step g4) | exact K.out _ g3 | exact K.out _ (Bel.rfl' _) | fail)
    (first
      | (go_at_call 41; refine (HM.out _ _ _ HB4 R1 R2).mono ?_; rintro e w5 ⟨rfl, g5⟩)
      | (go_at_call 42; refine (HY.out _ HB3).mono ?_; rintro e w4 ⟨a2, n2, c2, rfl, r2, g4⟩; have HB4 := HB3.step g4; have R1 := (r1.bel g4).sls (g3.step g4); have R2 := r2.sls g4)
      | (go_at_call 42; refine (HX.out _ HB3).mono ?_; rintro e w4 ⟨a1, n1, c1, rfl, r1, g4⟩; have HB4 := HB3.step g4; have R2 := (r2.bel g4).sls (g3.step g4); have R1 := r1.sls g4)
      | (go_at_call 42; refine (HX.out _ HB0).mono ?_; rintro e w3 ⟨a1, n1, c1, rfl, r1, g3⟩; have HB3 := HB0.step g3)
      | (go_at_call 42; refine (HY.out _ HB0).mono ?_; rintro e w3 ⟨a2, n2, c2, rfl, r2, g3⟩; have HB3 := HB0.step g3)
      | fail)
  all_goals
    go_wp2_with fail
    go_ret
    exact ⟨rfl, HB4.step g5⟩

theorem listL_short {ar : List Int} {x : Lt} (h : okLit ar x = true) : short (listL x) := by
  have h1 := listL_low h
  refine ⟨by have := listL_len x; omega, fun j hj => ?_⟩
  have := (okTerm_len (h1 _ (mem_getD _ [] j hj))).2
  omega
theorem listL_lowL {ar : List Int} {x : Lt} (h : okLit ar x = true) : lowL (listL x) := fun j hj => low_memC fun _ hn => ok_low (listL_low h _ (mem_getD _ [] j hj)) hn
theorem litsOk_good (ar : List Int) (x y : Lt) : goodClause ar [x, y] = litsOk ar x y := by simp [goodClause, okLits, litsOk]
/-- Two literals in a block of their own. -/
theorem slc_two {w : World} {x y : Lt} {u1 u2 q1 q2 : Value} {t : TypeId} (g : Nat) (hg : g = w.heap.size) (h1 : SlI 0 w.heap.size w u1 x.2.1) (h2 : SlI 0 w.heap.size w u2 x.2.2) (h3 : SlI 0 w.heap.size w q1 y.2.1) (h4 : SlI 0 w.heap.size w q2 y.2.2) :
    SlC 0 (w.alloc (.cells #[.bool x.1, u1, u2, .bool y.1, q1, q2] t)).heap.size (w.alloc (.cells #[.bool x.1, u1, u2, .bool y.1, q1, q2] t)) (.slice (some ⟨g, 0, none⟩) 2 2) [x, y] := by
  subst hg
  have hb := Bel.alloc0 w (.cells #[.bool x.1, u1, u2, .bool y.1, q1, q2] t)
  have hc : ∀ i v, (#[Value.bool x.1, u1, u2, .bool y.1, q1, q2])[i]? = some v → (w.alloc (.cells #[.bool x.1, u1, u2, .bool y.1, q1, q2] t)).cell? ⟨w.heap.size, i, none⟩ = some v := fun i v h => by rw [World.cell?_alloc_new w]; exact h
  refine ⟨_, 2, rfl, Nat.le_refl _, ⟨by unfold maxLen; omega, fun h => by simp at h⟩, fun _ => ⟨w.heap.size, 0, rfl, Nat.zero_le _, by simp, fun j hj => ?_⟩⟩
  match j, hj with
  | 0, _ => exact ⟨u1, u2, hc 0 _ rfl, hc 1 _ rfl, hc 2 _ rfl, (h1.below hb).mono (Nat.le_refl _) hb.size, (h2.below hb).mono (Nat.le_refl _) hb.size⟩
  | 1, _ => exact ⟨q1, q2, hc 3 _ rfl, hc 4 _ rfl, hc 5 _ rfl, (h3.below hb).mono (Nat.le_refl _) hb.size, (h4.below hb).mono (Nat.le_refl _) hb.size⟩

set_option maxRecDepth 100000 in
set_option maxHeartbeats 1000000 in
theorem iCompareLits_t {l h l' h' l2 h2 : Nat} {v u1 u2 q1 q2 : Value} {ar : List Int} {x y : Lt} {w : World} (hT : Tab w) (ha : ar.length ≤ 1048576) (hv : SlI l h w v ar) (hx : x.2.1.length + x.2.2.length ≤ 1048576) (s1 : SlI l' h' w u1 x.2.1) (s2 : SlI l' h' w u2 x.2.2) (hy : y.2.1.length + y.2.2.length ≤ 1048576) (t1 : SlI l2 h2 w q1 y.2.1) (t2 : SlI l2 h2 w q2 y.2.2) :
    Calls Tryd.prog 10 #[.agg #[v], .agg #[.bool x.1, u1, u2], .agg #[.bool y.1, q1, q2]] w (RetV w (.tuple #[.int .i64 (litsAns ar x y), .bool (litsOk ar x y)])) := by
  have hsh : shortC [x, y] := ⟨by simp, fun j hj => by
    match j, hj with
    | 0, _ => exact ⟨by show x.2.1.length ≤ _; omega, by show x.2.2.length ≤ _; omega⟩
    | 1, _ => exact ⟨by show y.2.1.length ≤ _; omega, by show y.2.2.length ≤ _; omega⟩⟩
  have HB : Bel w (((w.alloc (.cells #[v] 31)).alloc (.cells #[.bool x.1, u1, u2] 33)).alloc (.cells #[.bool y.1, q1, q2] 33)) := Bel.alloc3 _ _ _ _
  have hsl := slc_two (w := ((w.alloc (.cells #[v] 31)).alloc (.cells #[.bool x.1, u1, u2] 33)).alloc (.cells #[.bool y.1, q1, q2] 33)) (t := 33) (w.heap.size + 1 + 1 + 1) (by simp) (s1.below HB).in' (s2.below HB).in' (t1.below HB).in' (t2.below HB).in'
  have hg := fun (q : Bool) (hq : goodClause ar [x, y] = q) => (iGoodClause_sh ha ((hv.below HB).alloc (.cells #[.bool x.1, u1, u2, .bool y.1, q1, q2] 33)) hsh hsl)
  have hgo := litsOk_good ar x y
  unfold litsAns
  cases hq : litsOk ar x y with
  | false =>
    rw [if_neg (by simp)]
    have HG := hg _ rfl
    rw [hgo, hq] at HG
    have HGG := Lib.hid HG
    clear HG hg hgo hq hsl hsh
    go_enter Tryd.func10, Tryd.ntmps10
    go_wp2_with fail
    refine HGG.out.mono ?_; rintro e w1 ⟨rfl, hb1⟩
    go_wp2_with fail
    go_ret2
    exact ⟨rfl, HB.step hb1.of_alloc⟩
  | true =>
    rw [if_pos rfl]
    have HG := hg _ rfl
    rw [hgo, hq] at HG
    have HGG := Lib.hid HG
    simp only [litsOk, Bool.and_eq_true] at hq
    obtain ⟨hgs, okx, oky⟩ := hq
    have HCM := Lib.hid (fun (w' : World) (hb : Bel w w') => comparedLits_c _ _ _ _ x y u1 u2 q1 q2 w' (hT.bel hb) (listL_short okx) (listL_lowL okx) (listL_short oky) (listL_lowL oky) (s1.below hb) (s2.below hb) (t1.below hb) (t2.below hb))
    clear HG hg hgo hsl hsh s1 s2 t1 t2
    have K : Hid (∀ w', Bel (((w.alloc (.cells #[v] 31)).alloc (.cells #[.bool x.1, u1, u2] 33)).alloc (.cells #[.bool y.1, q1, q2] 33)) w' → (w'.cell? ⟨w.heap.size + 1, 0, none⟩ = some (.bool x.1) ∧ w'.cell? ⟨w.heap.size + 1, 1, none⟩ = some u1 ∧ w'.cell? ⟨w.heap.size + 1, 2, none⟩ = some u2) ∧ w'.cell? ⟨w.heap.size + 1 + 1, 0, none⟩ = some (.bool y.1) ∧ w'.cell? ⟨w.heap.size + 1 + 1, 1, none⟩ = some q1 ∧ w'.cell? ⟨w.heap.size + 1 + 1, 2, none⟩ = some q2) := fun w' hb =>
      ⟨⟨hb.at (by simp <;> omega) (by simp [go_sem]), hb.at (by simp <;> omega) (by simp [go_sem]), hb.at (by simp <;> omega) (by simp [go_sem])⟩, hb.at (by simp) (by simp [go_sem]), hb.at (by simp) (by simp [go_sem]), hb.at (by simp) (by simp [go_sem])⟩
    generalize cmpL (listL x) (listL y) = r at *
    generalize x.1 = p at *
    generalize y.1 = q at *
    go_enter Tryd.func10, Tryd.ntmps10
    go_wp2_with fail
    refine HGG.out.mono ?_; rintro e w1 ⟨rfl, hb1⟩
    obtain ⟨⟨x0, x1, x2⟩, y0, y1, y2⟩ := K.out _ hb1.of_alloc
    have HB1 := HB.step hb1.of_alloc
    go_wp2_with fail
    refine (HCM.out _ HB1).mono ?_; rintro e w2 ⟨rfl, hb2⟩
    go_wp2_with fail
    go_ret2
    exact ⟨rfl, HB1.step hb2⟩

set_option maxRecDepth 100000 in
set_option maxHeartbeats 2000000 in
theorem sCompareLits_t {l h l' h' l2 h2 : Nat} {v u1 u2 q1 q2 : Value} {ar : List Int} {x y : Lt} {w : World} (ha : ar.length ≤ 1048576) (hv : SlI l h w v ar) (hx : x.2.1.length + x.2.2.length ≤ 1048576) (s1 : SlI l' h' w u1 x.2.1) (s2 : SlI l' h' w u2 x.2.2) (hy : y.2.1.length + y.2.2.length ≤ 1048576) (t1 : SlI l2 h2 w q1 y.2.1) (t2 : SlI l2 h2 w q2 y.2.2) :
    Calls Tryd.prog 7 #[.agg #[v], .agg #[.bool x.1, u1, u2], .agg #[.bool y.1, q1, q2]] w (RetV w (.tuple #[.int .i64 (litsAns ar x y), .bool (litsOk ar x y)])) := by
  have HB : Bel w (((w.alloc (.cells #[v] 31)).alloc (.cells #[.bool x.1, u1, u2] 33)).alloc (.cells #[.bool y.1, q1, q2] 33)) := Bel.alloc3 _ _ _ _
  have K : Hid (∀ w', Bel (((w.alloc (.cells #[v] 31)).alloc (.cells #[.bool x.1, u1, u2] 33)).alloc (.cells #[.bool y.1, q1, q2] 33)) w' → w'.cell? ⟨w.heap.size, 0, none⟩ = some v ∧ (w'.cell? ⟨w.heap.size + 1, 0, none⟩ = some (.bool x.1) ∧ w'.cell? ⟨w.heap.size + 1, 1, none⟩ = some u1 ∧ w'.cell? ⟨w.heap.size + 1, 2, none⟩ = some u2) ∧ w'.cell? ⟨w.heap.size + 1 + 1, 0, none⟩ = some (.bool y.1) ∧ w'.cell? ⟨w.heap.size + 1 + 1, 1, none⟩ = some q1 ∧ w'.cell? ⟨w.heap.size + 1 + 1, 2, none⟩ = some q2) := fun w' hb =>
    ⟨hb.at (by simp <;> omega) (by simp [go_sem]), ⟨hb.at (by simp <;> omega) (by simp [go_sem]), hb.at (by simp <;> omega) (by simp [go_sem]), hb.at (by simp <;> omega) (by simp [go_sem])⟩, hb.at (by simp) (by simp [go_sem]), hb.at (by simp) (by simp [go_sem]), hb.at (by simp) (by simp [go_sem])⟩
  unfold litsAns litsOk
  cases hgs : goodSign ar with
  | false =>
    rw [Bool.false_and, if_neg (by simp)]
    have HG := Lib.hid (sGoodSign_v l h v ar false _ hgs ha (hv.below HB))
    clear hgs
    generalize x.1 = p at *
    generalize y.1 = q at *
    go_enter Tryd.func7, Tryd.ntmps7
    go_wp2_with fail
    refine HG.out.mono ?_; rintro e w1 ⟨rfl, hb1⟩
    go_wp2_with fail
    go_ret2
    exact ⟨rfl, HB.step hb1⟩
  | true =>
    rw [Bool.true_and]
    have HG := Lib.hid (sGoodSign_v l h v ar true _ hgs ha (hv.below HB))
    have H1 := fun (r : Bool) (hr : okLit ar x = r) (w' : World) (hb : Bel w w') => l4Lit_v l h l' h' v u1 u2 ar x.2.1 x.2.2 x.1 r w' hr hgs (by omega) (by omega) (hv.below hb) (s1.below hb) (s2.below hb)
    have H2 := fun (r : Bool) (hr : okLit ar y = r) (w' : World) (hb : Bel w w') => l4Lit_v l h l2 h2 v q1 q2 ar y.2.1 y.2.2 y.1 r w' hr hgs (by omega) (by omega) (hv.below hb) (t1.below hb) (t2.below hb)
    cases hox : okLit ar x with
    | false =>
      rw [Bool.false_and, if_neg (by simp)]
      have HL1 := Lib.hid (H1 false hox)
      clear H1 H2 hox hgs
      generalize x.1 = p at *
      generalize y.1 = q at *
      go_enter Tryd.func7, Tryd.ntmps7
      go_wp2_with fail
      refine HG.out.mono ?_; rintro e w1 ⟨rfl, hb1⟩
      obtain ⟨z, ⟨x0, x1, x2⟩, y0, y1, y2⟩ := K.out _ hb1
      have HB1 := HB.step hb1
      go_wp2_with fail
      refine (HL1.out _ HB1).mono ?_; rintro e w2 ⟨rfl, hb2⟩
      go_wp2_with fail
      go_ret2
      exact ⟨rfl, HB1.step hb2⟩
    | true =>
      rw [Bool.true_and]
      have HL1 := Lib.hid (H1 true hox)
      cases hoy : okLit ar y with
      | false =>
        rw [if_neg (by simp)]
        have HL2 := Lib.hid (H2 false hoy)
        clear H1 H2 hox hoy hgs
        generalize x.1 = p at *
        generalize y.1 = q at *
        go_enter Tryd.func7, Tryd.ntmps7
        go_wp2_with fail
        refine HG.out.mono ?_; rintro e w1 ⟨rfl, hb1⟩
        obtain ⟨z, ⟨x0, x1, x2⟩, y0, y1, y2⟩ := K.out _ hb1
        have HB1 := HB.step hb1
        go_wp2_with fail
        refine (HL1.out _ HB1).mono ?_; rintro e w2 ⟨rfl, hb2⟩
        obtain ⟨zz, ⟨xx0, xx1, xx2⟩, yy0, yy1, yy2⟩ := K.out _ (hb1.step hb2)
        have HB2 := HB1.step hb2
        go_wp2_with fail
        refine (HL2.out _ HB2).mono ?_; rintro e w3 ⟨rfl, hb3⟩
        go_wp2_with fail
        go_ret2
        exact ⟨rfl, HB2.step hb3⟩
      | true =>
        rw [if_pos rfl]
        have HL2 := Lib.hid (H2 true hoy)
        have HX := Lib.hid (fun (w' : World) (hb : Bel w w') => l4List_c l' h' x u1 u2 w' (s1.below hb) (s2.below hb))
        have HY := Lib.hid (fun (w' : World) (hb : Bel w w') => l4List_c l2 h2 y q1 q2 w' (t1.below hb) (t2.below hb))
        have HM := Lib.hid (fun (w' : World) (z1 z2 : Value) (g1 : SlS 0 w'.heap.size w' z1 (listL x)) (g2 : SlS 0 w'.heap.size w' z2 (listL y)) => l3Lists_c _ _ _ _ z1 z2 _ _ w' (listL_short hox) (listL_lowL hox) (listL_short hoy) (listL_lowL hoy) g1 g2)
        clear H1 H2 hox hoy hgs s1 s2 t1 t2
        generalize cmpL (listL x) (listL y) = r at *
        generalize listL x = X at *
        generalize listL y = Y at *
        generalize x.1 = p at *
        generalize y.1 = q at *
        go_enter Tryd.func7, Tryd.ntmps7
        go_wp2_with fail
        refine HG.out.mono ?_; rintro e w1 ⟨rfl, hb1⟩
        obtain ⟨z, ⟨x0, x1, x2⟩, y0, y1, y2⟩ := K.out _ hb1
        have HB1 := HB.step hb1
        go_wp2_with fail
        refine (HL1.out _ HB1).mono ?_; rintro e w2 ⟨rfl, hb2⟩
        obtain ⟨zz, ⟨xx0, xx1, xx2⟩, yy0, yy1, yy2⟩ := K.out _ (hb1.step hb2)
        have HB2 := HB1.step hb2
        go_wp2_with fail
        refine (HL2.out _ HB2).mono ?_; rintro e w3 ⟨rfl, hb3⟩
        have HB3 := HB2.step hb3
        have K3 := (hb1.step hb2).step hb3
        go_wp2_with fail
        have D3 := Bel.drew0 w3
        have HB0 := HB3.step D3
        have KW := K3.step D3
        go_region_held3 (fun w' => (w'.cell? ⟨w.heap.size + 1, 0, none⟩ = some (.bool p) ∧ w'.cell? ⟨w.heap.size + 1, 1, none⟩ = some u1 ∧ w'.cell? ⟨w.heap.size + 1, 2, none⟩ = some u2) ∧ w'.cell? ⟨w.heap.size + 1 + 1, 0, none⟩ = some (.bool q) ∧ w'.cell? ⟨w.heap.size + 1 + 1, 1, none⟩ = some q1 ∧ w'.cell? ⟨w.heap.size + 1 + 1, 2, none⟩ = some q2)
          (first | exact (K.out _ (KW.step ((g3.step g4).step g5))).2 | exact (K.out _ (KW.step (g3.step g4))).2 | exact (K.out _ (KW.step g3)).2 | exact (K.out _ KW).2 | fail)
          (first
            | (go_at_call 26; refine (HM.out _ _ _ R1 R2).mono ?_; rintro e w6 ⟨rfl, g5⟩)
            | (go_at_call 27; refine (HY.out _ HB4).mono ?_; rintro e w5 ⟨a2, n2, c2, rfl, r2, g4⟩; have HB5 := HB4.step g4; have R1 := (r1.bel g4).sls (g3.step g4); have R2 := r2.sls g4)
            | (go_at_call 27; refine (HX.out _ HB4).mono ?_; rintro e w5 ⟨a1, n1, c1, rfl, r1, g4⟩; have HB5 := HB4.step g4; have R2 := (r2.bel g4).sls (g3.step g4); have R1 := r1.sls g4)
            | (go_at_call 27; refine (HX.out _ HB0).mono ?_; rintro e w4 ⟨a1, n1, c1, rfl, r1, g3⟩; have HB4 := HB0.step g3)
            | (go_at_call 27; refine (HY.out _ HB0).mono ?_; rintro e w4 ⟨a2, n2, c2, rfl, r2, g3⟩; have HB4 := HB0.step g3)
            | fail)
        all_goals
          go_wp2_with fail
          go_ret2
          exact ⟨rfl, HB5.step g5⟩
end Go.Proofs.YtajmjjandkdhiaaDoor
end
section
/- The laws' helpers over literals, by contracts: copies, comparisons. -/
namespace Go.Proofs.YtajmjjandkdhiaaDoor
open Go.RowKit

/-- A literal of the call's own: its two terms in two ranges. -/
def RetL (w : World) (x : Lt) (e : Ending) (w' : World) : Prop :=
  ∃ a1 n1 c1 a2 n2 c2 m, e = .returned (.agg #[.bool x.1, .slice a1 n1 c1, .slice a2 n2 c2]) ∧ w.heap.size ≤ m ∧ m ≤ w'.heap.size ∧ OwnI w.heap.size m w' (.slice a1 n1 c1) x.2.1 ∧ OwnI m w'.heap.size w' (.slice a2 n2 c2) x.2.2 ∧ Bel w w'

set_option maxRecDepth 100000 in
set_option maxHeartbeats 400000 in
theorem eqLit_same (l h l' h' : Nat) (p : Bool) (u1 u2 q1 q2 : Value) (xl xr : List Int) (w : World) (hl : xl.length ≤ 1048576) (hr : xr.length ≤ 1048576) (a1 : SlI l h w u1 xl) (a2 : SlI l h w u2 xr) (b1 : SlI l' h' w q1 xl) (b2 : SlI l' h' w q2 xr) :
    Calls Tryd.prog 12 #[.agg #[.bool p, u1, u2], .agg #[.bool p, q1, q2]] w (RetV w (.bool true)) := by
  have HB : Bel w ((w.alloc (.cells #[.bool p, u1, u2] 33)).alloc (.cells #[.bool p, q1, q2] 33)) := Bel.alloc2 _ _ _
  have HC := Lib.hid (fun (w' : World) (hb : Bel w w') => eqIntS_same l h l' h' u1 q1 xl w' hl (a1.below hb) (b1.below hb))
  have HD := Lib.hid (fun (w' : World) (hb : Bel w w') => eqIntS_same l h l' h' u2 q2 xr w' hr (a2.below hb) (b2.below hb))
  clear a1 a2 b1 b2
  go_enter Tryd.func12, Tryd.ntmps12
  go_wp2_with fail
  refine (HC.out _ HB).mono ?_; rintro e w1 ⟨rfl, hb1⟩
  have ka := hb1.at (b := w.heap.size) (off := 2) (by simp; omega) (show World.cell? _ _ = some u2 by simp [go_sem])
  have kb := hb1.at (b := w.heap.size + 1) (off := 2) (by simp) (show World.cell? _ _ = some q2 by simp [go_sem])
  have HB1 := HB.step hb1
  go_wp2_with fail
  refine (HD.out _ HB1).mono ?_; rintro e w2 ⟨rfl, hb2⟩
  go_wp2_with fail
  go_ret
  exact ⟨rfl, HB1.step hb2⟩

set_option maxRecDepth 100000 in
set_option maxHeartbeats 400000 in
theorem toLit_c (l h : Nat) (p : Bool) (u1 u2 : Value) (xl xr : List Int) (w : World) (hl : xl.length ≤ 1048576) (hr : xr.length ≤ 1048576) (h1 : SlI l h w u1 xl) (h2 : SlI l h w u2 xr) :
    Calls Tryd.prog 9 #[.agg #[.bool p, u1, u2]] w (RetL w (p, xl, xr)) := by
  have HC := Lib.hid (fun (w' : World) (hb : Bel w w') => toIntS_c l h u1 xl w' hl (h1.below hb))
  have HD := Lib.hid (fun (w' : World) (hb : Bel w w') => toIntS_c l h u2 xr w' hr (h2.below hb))
  clear h1 h2
  go_enter Tryd.func9, Tryd.ntmps9
  go_wp2_with fail
  have HB : Bel w (((w.alloc (.cells #[.bool p, u1, u2] 26)).alloc (.cells #[.bool false, .slice none 0 0, .slice none 0 0] 33)).alloc (.cells #[.bool p, .slice none 0 0, .slice none 0 0] 33)) := Bel.alloc3 _ _ _ _
  refine (HC.out _ HB).mono ?_; rintro e w1 ⟨a1, n1, c1, rfl, o1, hb1⟩
  have hz1 := hb1.size
  simp only [World.size_alloc] at hz1 o1
  have e0 := hb1.at (b := w.heap.size) (off := 2) (by simp; omega) (show World.cell? _ _ = some u2 by simp [go_sem])
  have e1 := hb1.at (b := w.heap.size + 1) (off := 0) (by simp) (show World.cell? _ _ = some (.bool false) by simp [go_sem])
  have e2 := hb1.at (b := w.heap.size + 1) (off := 1) (by simp) (show World.cell? _ _ = some (.slice none 0 0) by simp [go_sem])
  have e3 := hb1.at (b := w.heap.size + 1) (off := 2) (by simp) (show World.cell? _ _ = some (.slice none 0 0) by simp [go_sem])
  have f0 := hb1.at (b := w.heap.size + 1 + 1) (off := 0) (by simp) (show World.cell? _ _ = some (.bool p) by simp [go_sem])
  have f1 := hb1.at (b := w.heap.size + 1 + 1) (off := 1) (by simp) (show World.cell? _ _ = some (.slice none 0 0) by simp [go_sem])
  have f2 := hb1.at (b := w.heap.size + 1 + 1) (off := 2) (by simp) (show World.cell? _ _ = some (.slice none 0 0) by simp [go_sem])
  have g1 : ∀ i, w1.frozen? ⟨w.heap.size + 1, i, none⟩ = false := fun i => (hb1.frozen (p := ⟨w.heap.size + 1, i, none⟩) (by simp)).trans (by simp [go_sem])
  have g2 : ∀ i, w1.frozen? ⟨w.heap.size + 1 + 1, i, none⟩ = false := fun i => (hb1.frozen (p := ⟨w.heap.size + 1 + 1, i, none⟩) (by simp)).trans (by simp [go_sem])
  have HB1 := HB.step hb1
  go_wp2_with fail
  have HS : Bel w (w1.setCell ⟨w.heap.size + 1 + 1, 1, none⟩ (.slice a1 n1 c1)) := HB1.set (by simp; omega) _
  refine (HD.out _ HS).mono ?_; rintro e w2 ⟨a2, n2, c2, rfl, o2, hb2⟩
  have hz2 := hb2.size
  simp only [World.size_setCell] at hz2 o2
  have far : ∀ {b o : Nat} {x : Value}, (b ≠ w.heap.size + 1 + 1 ∨ o ≠ 1) → w1.cell? ⟨b, o, none⟩ = some x → b < w1.heap.size → w2.cell? ⟨b, o, none⟩ = some x := fun hne hc hlt =>
    hb2.at (by simpa using hlt) (by rw [World.cell?_setCell_other (h := by intro h; simp at h; omega)]; exact hc)
  have e1' := far (.inl (by omega)) e1 (by omega)
  have e2' := far (.inl (by omega)) e2 (by omega)
  have e3' := far (.inl (by omega)) e3 (by omega)
  have f0' := far (.inr (by omega)) f0 (by omega)
  have f1' := hb2.at (b := w.heap.size + 1 + 1) (off := 1) (by simp; omega) (World.cell?_setCell_same w1 _ _ f1)
  have f2' := far (.inr (by omega)) f2 (by omega)
  have g1' : ∀ i, w2.frozen? ⟨w.heap.size + 1, i, none⟩ = false := fun i => (hb2.frozen (p := ⟨w.heap.size + 1, i, none⟩) (by simp; omega)).trans (by rw [World.frozen?_setCell]; exact g1 i)
  have g2' : ∀ i, w2.frozen? ⟨w.heap.size + 1 + 1, i, none⟩ = false := fun i => (hb2.frozen (p := ⟨w.heap.size + 1 + 1, i, none⟩) (by simp; omega)).trans (by rw [World.frozen?_setCell]; exact g2 i)
  have HB2 := HS.step hb2
  clear far
  go_wp2_with fail
  have o1' := ((((((o1.set (p := ⟨w.heap.size + 1 + 1, 1, none⟩) (.inl (by simp)) (.slice a1 n1 c1)).below hb2).set (p := ⟨w.heap.size + 1 + 1, 2, none⟩) (.inl (by simp)) (.slice a2 n2 c2)).set (p := ⟨w.heap.size + 1, 0, none⟩) (.inl (by simp)) (.bool p)).set (p := ⟨w.heap.size + 1, 1, none⟩) (.inl (by simp)) (.slice a1 n1 c1)).set (p := ⟨w.heap.size + 1, 2, none⟩) (.inl (by simp)) (.slice a2 n2 c2))
  have o2' := ((((o2.set (p := ⟨w.heap.size + 1 + 1, 2, none⟩) (.inl (by simp; omega)) (.slice a2 n2 c2)).set (p := ⟨w.heap.size + 1, 0, none⟩) (.inl (by simp; omega)) (.bool p)).set (p := ⟨w.heap.size + 1, 1, none⟩) (.inl (by simp; omega)) (.slice a1 n1 c1)).set (p := ⟨w.heap.size + 1, 2, none⟩) (.inl (by simp; omega)) (.slice a2 n2 c2))
  have HB3 := ((((HB2.set (p := ⟨w.heap.size + 1 + 1, 2, none⟩) (by simp; omega) (.slice a2 n2 c2)).set (p := ⟨w.heap.size + 1, 0, none⟩) (by simp) (.bool p)).set (p := ⟨w.heap.size + 1, 1, none⟩) (by simp) (.slice a1 n1 c1)).set (p := ⟨w.heap.size + 1, 2, none⟩) (by simp) (.slice a2 n2 c2))
  refine bodyPost_ret (v := .agg #[.bool p, .slice a1 n1 c1, .slice a2 n2 c2]) (by simp [results, Tryd.results9, go_sem, e1', e2', e3', f0', f1', f2']) rfl ⟨_, _, _, _, _, _, w1.heap.size, rfl, by omega, by simp; omega, o1'.mono (by omega) (Nat.le_refl _), o2'.mono (Nat.le_refl _) (by simp), HB3⟩
end Go.Proofs.YtajmjjandkdhiaaDoor
end
section
/- The arguments of a law, opened: slices of ints, a struct of one, strings, ints. -/
namespace Go.Proofs.YtajmjjandkdhiaaDoor
open Go.ChangeShapes Go.WideShapes Go.ChangeAt Go.RowKit
open Go.ChangeMaps (open_string shut_string)
set_option linter.unusedVariables false
set_option maxRecDepth 100000

theorem Row.own : ownKnob Tryd.prog.godebug = none := by kernel_rfl
theorem Row.laidOut : laidOutB Tryd.prog = true := by kernel_rfl

/-- A slice of ints that came in. -/
theorem op_slI {H : Type} {enc : TypeId × Value → H} {W : World} {fuel : Nat} {v : Value} {x : DataW H × List MemPlace}
    (h : DataW.trod enc Tryd.prog W 0 (fun _ => true) true fuel 22 [v] = some x) :
    ∃ xs : List Int, xs.length ≤ 9223372036854775807 ∧ SlI 0 W.heap.size W v xs ∧ ∀ n ∈ xs, (Lit.int .i64 n).wf = true := by
  rcases open_ints Tryd.underlying22 Tryd.underlying3 (by kernel_rfl) h with ⟨hcs, _⟩ | ⟨a, l, c, zs, hcs, _, hl, hm, hz, _, hcell, hwz⟩
  · simp at hcs
    subst hcs
    exact ⟨[], by simp, SlI.nil _ _ _, by simp⟩
  · simp at hcs
    subst hcs
    have hz' : zs.length = c := by simpa using hz
    have hlen : (zs.take l).length = l := by simp; omega
    refine ⟨zs.take l, by rw [hlen]; have : maxLen = 9223372036854775807 := rfl; omega, ⟨some a, c, by rw [hlen], by rw [hlen]; exact hl, ⟨hm, fun h => by simp at h⟩, fun hp => ?_⟩, fun n hn => hwz n (List.mem_of_mem_take hn)⟩
    rw [hlen] at hp
    obtain ⟨b, off, spot⟩ := a
    have h0 := hcell 0 (by omega)
    have hspot : spot = none := by simpa [Addr.add] using World.cell?_spot h0
    subst hspot
    refine ⟨b, off, rfl, Nat.zero_le _, World.block_lt_of_cell? W ⟨b, off + 0, none⟩ h0, fun j hj => ?_⟩
    rw [hlen] at hj
    rw [← add_plain, hcell j (by omega)]
    simp [List.getD, hj]

theorem op_int {H : Type} {enc : TypeId × Value → H} {W : World} {v : Value} {d : DataW H} {p : List MemPlace} {base : Nat} (hv : Value.okWide Tryd.prog W .any base 3 v)
    (h : DataW.Trod enc Tryd.prog W 0 (fun _ => true) true 3 v d p) : ∃ n : Int, v = .int .i64 n ∧ -9223372036854775808 ≤ n ∧ n ≤ 9223372036854775807 := by
  obtain ⟨n, rfl, rfl, rfl, wf⟩ := open_int Tryd.underlying3 hv h
  have h1 : IntKind.i64.min = -9223372036854775808 := rfl
  have h2 : IntKind.i64.max = 9223372036854775807 := rfl
  simp only [Lit.wf, Bool.and_eq_true, decide_eq_true_eq] at wf
  exact ⟨n, rfl, by omega, by omega⟩

theorem op_ints {H : Type} {enc : TypeId × Value → H} {W : World} {v : Value} {d : DataW H} {p : List MemPlace} {base : Nat} (hv : Value.okWide Tryd.prog W .any base 22 v)
    (h : DataW.Trod enc Tryd.prog W 0 (fun _ => true) true 22 v d p) : ∃ xs : List Int, xs.length ≤ 9223372036854775807 ∧ SlI 0 W.heap.size W v xs ∧ ∀ n ∈ xs, (Lit.int .i64 n).wf = true := by
  obtain ⟨a, n, c, rfl⟩ := okWide_slice Tryd.underlying22 hv
  obtain ⟨fuel, hf⟩ := h
  exact op_slI (x := (d, p)) (by simpa [Value.cells] using hf)

theorem op_sign {H : Type} {enc : TypeId × Value → H} {W : World} {v : Value} {d : DataW H} {p : List MemPlace} {base : Nat} (hv : Value.okWide Tryd.prog W .any base 24 v)
    (h : DataW.Trod enc Tryd.prog W 0 (fun _ => true) true 24 v d p) : ∃ u, v = .agg #[u] ∧ ∃ xs : List Int, xs.length ≤ 9223372036854775807 ∧ SlI 0 W.heap.size W u xs ∧ ∀ n ∈ xs, (Lit.int .i64 n).wf = true := by
  obtain ⟨cs, rfl, hsz⟩ := okWide_struct Tryd.underlying24 hv
  have hC : Tryd.prog.cellsOf 24 = 1 := by kernel_rfl
  obtain ⟨u, rfl⟩ : ∃ u, cs = #[u] := by
    rw [hC] at hsz
    match cs, hsz with
    | ⟨[u]⟩, _ => exact ⟨u, rfl⟩
  obtain ⟨fuel, hf⟩ := h
  obtain ⟨y0, n, hx, _, h0⟩ := trod_struct1 Tryd.underlying24 hf
  exact ⟨u, rfl, op_slI (x := y0) (by simpa [Value.cells, show Tryd.prog.cellsOf 22 = 1 from by kernel_rfl] using h0)⟩

theorem op_string {H : Type} {enc : TypeId × Value → H} {W : World} {v : Value} {d : DataW H} {p : List MemPlace} {base : Nat} (hv : Value.okWide Tryd.prog W .any base 9 v)
    (h : DataW.Trod enc Tryd.prog W 0 (fun _ => true) true 9 v d p) : ∃ s : ByteArray, v = .string s ∧ s.size ≤ 9223372036854775807 := by
  obtain ⟨s, rfl, rfl, rfl, hs⟩ := open_string Tryd.underlying9 hv h
  exact ⟨s, rfl, hs⟩

theorem op_lt {H : Type} {enc : TypeId × Value → H} {W : World} {t : TypeId} {v : Value} {d : DataW H} {p : List MemPlace}
    (h : DataW.Trod enc Tryd.prog W 0 (fun _ => true) true t v d p) : ∀ x ∈ p, x.block < W.heap.size := by
  obtain ⟨m, hm⟩ := h; exact DataW.trod_lt m _ _ _ hm

end Go.Proofs.YtajmjjandkdhiaaDoor
end
section
/- A literal that came in, and a slice of literals, opened. -/
namespace Go.Proofs.YtajmjjandkdhiaaDoor
open Go.ChangeShapes Go.WideShapes Go.ChangeAt Go.RowKit
set_option linter.unusedVariables false
set_option maxRecDepth 100000

theorem op_litcells {H : Type} {enc : TypeId × Value → H} {W : World} {fuel : Nat} {cs : List Value} {x : DataW H × List MemPlace}
    (h : DataW.trod enc Tryd.prog W 0 (fun _ => true) true fuel 26 cs = some x) :
    ∃ (p : Bool) (u1 u2 : Value) (l r : List Int), cs = [.bool p, u1, u2] ∧ SlI 0 W.heap.size W u1 l ∧ l.length ≤ 9223372036854775807 ∧ SlI 0 W.heap.size W u2 r ∧ r.length ≤ 9223372036854775807 := by
  have hC : Tryd.prog.cellsOf 26 = 3 := by kernel_rfl
  obtain ⟨y0, y1, y2, n, _, hl, h0, h1, h2⟩ := Go.Deep.trod_struct3 Tryd.underlying26 h
  rw [hC] at hl
  match cs, hl with
  | [v0, v1, v2], _ =>
    have c0 : Tryd.prog.cellsOf 4 = 1 := by kernel_rfl
    have c1 : Tryd.prog.cellsOf 22 = 1 := by kernel_rfl
    simp only [c0, c1] at h0 h1 h2
    obtain ⟨p, e0, _⟩ := DataW.trod_bool Tryd.underlying4 (by simpa using h0)
    obtain ⟨l, hl, s1, _⟩ := op_slI (v := v1) (by simpa using h1)
    obtain ⟨r, hr, s2, _⟩ := op_slI (v := v2) (by simpa using h2)
    refine ⟨p, v1, v2, l, r, ?_, s1, hl, s2, hr⟩
    simp at e0
    rw [e0]

theorem op_lit {H : Type} {enc : TypeId × Value → H} {W : World} {v : Value} {d : DataW H} {p : List MemPlace} {base : Nat} (hv : Value.okWide Tryd.prog W .any base 26 v)
    (h : DataW.Trod enc Tryd.prog W 0 (fun _ => true) true 26 v d p) : ∃ (p : Bool) (u1 u2 : Value) (l r : List Int), v = .agg #[.bool p, u1, u2] ∧ SlI 0 W.heap.size W u1 l ∧ l.length ≤ 9223372036854775807 ∧ SlI 0 W.heap.size W u2 r ∧ r.length ≤ 9223372036854775807 := by
  obtain ⟨cs, rfl, hsz⟩ := okWide_struct Tryd.underlying26 hv
  obtain ⟨fuel, hf⟩ := h
  obtain ⟨p, u1, u2, l, r, e, s1, hl, s2, hr⟩ := op_litcells (x := (d, p)) (cs := cs.toList) (by simpa [Value.cells] using hf)
  exact ⟨p, u1, u2, l, r, by rw [← e], s1, hl, s2, hr⟩

theorem op_lits {H : Type} {enc : TypeId × Value → H} {W : World} {v : Value} {d : DataW H} {p : List MemPlace} {base : Nat} (hv : Value.okWide Tryd.prog W .any base 38 v)
    (h : DataW.Trod enc Tryd.prog W 0 (fun _ => true) true 38 v d p) : ∃ c : List Lt, SlC 0 W.heap.size W v c := by
  obtain ⟨a, n, k, rfl⟩ := okWide_slice Tryd.underlying38 hv
  have hC : Tryd.prog.cellsOf 26 = 3 := by kernel_rfl
  obtain ⟨fuel, hf⟩ := h
  rcases Go.Deep.open_slice Tryd.underlying38 (by simpa [Value.cells] using hf) with ⟨hcs, _⟩ | ⟨ad, len, cap, m, n', D, Pl, hcs, _, hl, hm, hmm, _, hx⟩
  · simp at hcs
    obtain ⟨rfl, rfl, rfl⟩ := hcs
    exact ⟨[], SlC.nil _ _ _⟩
  · simp at hcs
    obtain ⟨rfl, rfl, rfl⟩ := hcs
    simp at hmm
    subst hmm
    have each : ∀ i, i < n → ∃ q : Bool × Value × Value × List Int × List Int, W.cell? (ad.add (i * 3)) = some (.bool q.1) ∧ W.cell? (ad.add (i * 3 + 1)) = some q.2.1 ∧ W.cell? (ad.add (i * 3 + 2)) = some q.2.2.1 ∧ SlI 0 W.heap.size W q.2.1 q.2.2.2.1 ∧ SlI 0 W.heap.size W q.2.2.1 q.2.2.2.2 := fun i hi => by
      obtain ⟨cs', h1, h2⟩ := hx i (by omega)
      rw [hC] at h1
      obtain ⟨_, hlen, hcell⟩ := World.cells?_some h1
      obtain ⟨p, u1, u2, l, r, rfl, s1, _, s2, _⟩ := op_litcells h2
      have e0 := hcell 0 (by omega)
      have e1 := hcell 1 (by omega)
      have e2 := hcell 2 (by omega)
      rw [Go.Deep.add_add] at e0 e1 e2
      exact ⟨(p, u1, u2, l, r), by simpa using e0, by simpa using e1, by simpa using e2, s1, s2⟩
    obtain ⟨Z, hZ⟩ := Go.Deep.choose_lt each
    have hlen : ((List.range n).map fun i => ((Z i).1, (Z i).2.2.2.1, (Z i).2.2.2.2)).length = n := by simp
    refine ⟨(List.range n).map fun i => ((Z i).1, (Z i).2.2.2.1, (Z i).2.2.2.2), some ad, _, by rw [hlen], by rw [hlen]; exact hl, ⟨hm, fun h => by simp at h⟩, fun hp => ?_⟩
    rw [hlen] at hp
    obtain ⟨b, off, spot⟩ := ad
    have h0 := (hZ 0 (by omega)).1
    have hspot : spot = none := by simpa [Addr.add] using World.cell?_spot h0
    subst hspot
    refine ⟨b, off, rfl, Nat.zero_le _, World.block_lt_of_cell? W ⟨b, off + 0 * 3, none⟩ (by rw [← add_plain]; exact h0), fun j hj => ?_⟩
    rw [hlen] at hj
    obtain ⟨z0, z1, z2, z3, z4⟩ := hZ j hj
    refine ⟨(Z j).2.1, (Z j).2.2.1, ?_, ?_, ?_, ?_, ?_⟩
    · rw [← add_plain]; simpa [List.getD, hj] using z0
    · rw [Nat.add_assoc, ← add_plain]; exact z1
    · rw [Nat.add_assoc, ← add_plain]; exact z2
    · simpa [List.getD, hj] using z3
    · simpa [List.getD, hj] using z4
end Go.Proofs.YtajmjjandkdhiaaDoor
end
section
/- The door: what the listed table gives, and a world for the witness. -/
namespace Go.Proofs.YtajmjjandkdhiaaDoor
open Go.ChangeShapes Go.WideShapes Go.ChangeAt Go.RowKit

theorem tab_of_laid {W : World} (h : laidMetH Tryd.prog [("loop.example/g00682/impl.weights", Rows.laid_loop_example_g00682_impl_weights)] W) : Tab W := by
  have g1 : Tryd.prog.globalNamed "loop.example/g00682/impl.weights" = some 0 := by kernel_rfl
  have g2 : (Tryd.prog.globals[0]?).map (·.type) = some 80 := by kernel_rfl
  have g3 : Tryd.prog.cellsOf 80 = 2 := by kernel_rfl
  have g4 : Tryd.prog.cellsOf 3 = 1 := by kernel_rfl
  have ht : Lib.TabIs Tryd.prog W "loop.example/g00682/impl.weights" .i64 [1, 1] := Lib.tabIs_of_head (rest := []) g1 g2 Tryd.underlying80 Tryd.underlying3 g4 g3 h
  exact ⟨ht.cell g1 0 (by decide), ht.cell g1 1 (by decide)⟩

/-- A world for the witness: the settled one, the table as its text lays it. -/
noncomputable def laidWorld (os : Os) : World :=
  { World.holding Tryd.prog os ⟨#[], #[], []⟩ with heap := (World.holding Tryd.prog os ⟨#[], #[], []⟩).heap.modify 0 fun
      | .cells _ t frozen => .cells #[.int .i64 1, .int .i64 1] t frozen
      | o => o }
theorem laid_met (os : Os) (args : Array Value) : laidMet Tryd.prog [("loop.example/g00682/impl.weights", Rows.laid_loop_example_g00682_impl_weights)] ((laidWorld os).forCall (fun _ _ => 0) ⟨#[], args, []⟩).memory :=
  laidMet_of_run' 8 (by kernel_rfl) (by kernel_rfl)
end Go.Proofs.YtajmjjandkdhiaaDoor
end
