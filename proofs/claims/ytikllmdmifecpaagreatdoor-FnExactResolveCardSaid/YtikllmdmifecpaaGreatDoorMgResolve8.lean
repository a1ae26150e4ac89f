/- Texts merged, part 8. -/
import Derived.Test.YtikllmdmifecpaaGreatDoorProg
import Derived.Shelf.Sort.Plain
import Derived.KernelRfl
import Derived.Shelf.Slices.In.SortNone
import Derived.Sort.OwnSortedInts
import Derived.Maps.OwnSet
import Derived.Maps.RangeWalk
import Derived.Test.YtikllmdmifecpaaGreatDoorMgResolve7
section
/- CompareLists, IsFalling: the reference's. -/
namespace Go.Proofs.YtikllmdmifecpaaGreatDoor
open Go.RowKit

theorem any_upto {a : List (List Int)} {t : List Int} {i : Nat} (hi : i < a.length) : ((a.take (i+1)).any fun u => above u t) = (((a.take i).any fun u => above u t) || above (a.getD i []) t) := by
  rw [take_snoc a i [] hi, List.any_append]; simp
set_option maxRecDepth 100000 in
set_option maxHeartbeats 400000 in
theorem l3Over_v (l h l' h' : Nat) (v u : Value) (a b : List (List Int)) (q : Bool) (w : World) (hd : dom a b = q) (hne : q = true → 0 < a.length) (ha : short a) (_ : lowL a) (hb : short b) (hlb : lowL b) (hv : SlS l h w v a) (hu : SlS l' h' w u b) :
    Calls Tryz.prog 134 #[v, u] w (RetV w (.bool q)) := by
  obtain ⟨ad, cap, rfl⟩ := hv.form
  obtain ⟨ad', cap', rfl⟩ := hu.form
  obtain ⟨hbl, hbm⟩ := hb
  obtain ⟨hal, ham⟩ := ha
  have HD := Lib.hid (And.intro hd hne)
  clear hd hne
  go_enter Tryz.func134, Tryz.ntmps134
  go_wp2_with fail
  go_loopw [12] (fun i wr => ∃ k : Nat, k ≤ b.length ∧ i = .int .i64 k ∧ dom a (b.take k) = true ∧ Bel w wr) (fun i _ => b.length - (intOf i).toNat)
  case atStart => exact ⟨0, Nat.zero_le _, rfl, rfl, Bel.rfl' _⟩
  case round =>
    obtain ⟨k, hk, rfl, hn, hb1⟩ := hrel
    by_cases hlt : k < b.length
    · obtain ⟨bb, off, p, rfl, -, hc, hp⟩ := hu.at hb1 k hlt
      have hpl := hbm k hlt
      have hplow := hlb k hlt
      have HN := Lib.hid (And.intro (fun h => dom_no (a := a) hlt h) (fun h => dom_take hlt hn h))
      have hv1 := hv.below hb1
      clear hn hu hbm hlb hv
      generalize b.getD k [] = t at *
      obtain ⟨ap, cp, rfl⟩ := hp.form
      obtain ⟨wo, rfl⟩ : ∃ wo, wo = wr := ⟨wr, rfl⟩
      go_wp2_with fail
      go_loopw [7, 18] (fun ov i wr => ∃ j : Nat, j ≤ a.length ∧ i = .int .i64 j ∧ ov = .bool ((a.take j).any fun u => above u t) ∧ Bel wo wr) (fun _ i _ => a.length - (intOf i).toNat)
      case atStart => exact ⟨0, Nat.zero_le _, rfl, rfl, Bel.rfl' _⟩
      case round =>
        obtain ⟨j, hj, rfl, rfl, hb2⟩ := hrel
        by_cases hjl : j < a.length
        · obtain ⟨bx, ox, z, rfl, -, hcell, hz⟩ := hv1.at hb2 j hjl
          have hzl := ham j hjl
          have HU := Lib.hid (any_upto (t := t) hjl)
          have hp2 := hp.below hb2
          clear hv1 ham hp
          generalize a.getD j [] = y at *
          obtain ⟨az, cz, rfl⟩ := hz.form
          cases ho : ((a.take j).any fun u => above u t) with
          | true =>
            have E : Hid (((a.take (j+1)).any fun u => above u t) = true) := by show _ = _; rw [HU.out, ho]; rfl
            clear HU ho
            go_wp2_with fail
            go_roundw
            case rel => exact ⟨j+1, by omega, by go_num, by rw [E.out], hb2⟩
            case measure => simp [intOf]; omega
          | false =>
            generalize hq : above y t = r
            have E : Hid (((a.take (j+1)).any fun u => above u t) = r) := by show _ = _; rw [HU.out, ho, hq]; rfl
            have HC := Lib.hid (l3Greater_v _ _ _ _ _ _ y t r wr hq hzl hpl hplow hz hp2)
            clear HU ho hq
            go_wp2_with fail
            refine HC.out.mono ?_; rintro e w3 ⟨rfl, hb3⟩
            go_wp2_with fail
            go_roundw
            case rel => exact ⟨j+1, by omega, by go_num, by rw [E.out], hb2.step hb3⟩
            case measure => simp [intOf]; omega
        · cases hq : ((a.take j).any fun u => above u t) with
          | false =>
            have E : Hid (q = false) := HD.out.1.symm.trans (HN.out.1 (any_end hjl hq))
            clear HN
            go_wp2_with fail
            go_ret
            exact ⟨by rw [E.out]; rfl, hb1.step hb2⟩
          | true =>
            have E := Lib.hid (HN.out.2 (any_end hjl hq))
            clear HN
            go_wp2_with fail
            go_roundw
            case rel => exact ⟨k+1, by omega, by go_num, E.out, hb1.step hb2⟩
            case measure => simp [intOf]; omega
    · have E : Hid (q = true) := HD.out.1.symm.trans (dom_all hlt hn)
      have hpos : decide (0 < a.length) = true := by have := HD.out.2 E.out; simpa using this
      clear hn
      go_wp2_with fail
      go_ret
      exact ⟨by rw [E.out]; first | rfl | exact congrArg (fun x => Ending.returned (Value.bool x)) hpos, hb1⟩

set_option maxRecDepth 100000 in
set_option maxHeartbeats 800000 in
theorem l3Lists_c (l h l' h' : Nat) (v u : Value) (a b : List (List Int)) (w : World) (ha : short a) (hla : lowL a) (hb : short b) (hlb : lowL b) (hv : SlS l h w v a) (hu : SlS l' h' w u b) :
    Calls Tryz.prog 80 #[v, u] w (RetV w (.int .i64 (cmpL a b))) := by
  obtain ⟨ad, cap, rfl⟩ := hv.form
  obtain ⟨ad', cap', rfl⟩ := hu.form
  have H1 := Lib.hid (l3Left_c l h l' h' _ _ a b w ha hb hv hu)
  have H2 := Lib.hid (fun (w' : World) (hq : Bel w w') => l3Left_c l' h' l h _ _ b a w' hb ha (hu.below hq) (hv.below hq))
  have hsx := minus_short (b := b) ha
  have hsy := minus_short (b := a) hb
  have hlx := minus_low (b := b) hla
  have hly := minus_low (b := a) hlb
  have E0 := Lib.hid (fun h1 h2 => cmpL_0 (a := a) (b := b) h1 h2)
  have E1 := Lib.hid (fun h0 h1 => cmpL_1 (a := a) (b := b) h0 h1)
  have Em := Lib.hid (fun h0 h1 h2 => cmpL_m (a := a) (b := b) h0 h1 h2)
  have E2 := Lib.hid (fun h0 h1 h2 => cmpL_2 (a := a) (b := b) h0 h1 h2)
  generalize cmpL a b = z at *
  generalize minus a b = X at *
  generalize minus b a = Y at *
  by_cases hx0 : X.length = 0
  · have d1 : ((X.length : Int) == 0) = true := by simpa using hx0
    by_cases hy0 : Y.length = 0
    · have d2 : ((Y.length : Int) == 0) = true := by simpa using hy0
      have E : Hid (z = 0) := E0.out (List.length_eq_zero_iff.1 hx0) (List.length_eq_zero_iff.1 hy0)
      clear hx0 hy0 E0 E1 Em E2
      go_enter Tryz.func80, Tryz.ntmps80
      go_wp2_with fail
      refine H1.out.mono ?_; rintro e w1 ⟨g1, n1, c1, rfl, hX, hb1⟩
      obtain ⟨_, _, ef⟩ := hX.form
      simp only [Value.slice.injEq] at ef
      obtain ⟨rfl, rfl, rfl⟩ := ef
      go_wp2_with fail
      refine (H2.out _ hb1).mono ?_; rintro e w2 ⟨g2, n2, c2, rfl, hY, hb2⟩
      obtain ⟨_, _, ef⟩ := hY.form
      simp only [Value.slice.injEq] at ef
      obtain ⟨rfl, rfl, rfl⟩ := ef
      have hX2 := (hX.sls hb1).below hb2
      have hY2 := hY.sls hb2
      have hb12 := hb1.step hb2
      go_wp2_with fail
      go_ret
      exact ⟨by rw [E.out]; rfl, hb12⟩
    · have d2 : ((Y.length : Int) == 0) = false := by simp; exact fun h => hy0 (by rw [h]; rfl)
      have h0 : ¬ (X = [] ∧ Y = []) := fun h => hy0 (by rw [h.2]; rfl)
      clear hx0 hy0
      have h0b : ¬ (Y = [] ∧ X = []) := fun h => h0 ⟨h.2, h.1⟩
      cases hd1 : dom X Y with
      | true =>
        have E : Hid (z = 1) := E1.out h0 hd1
        clear E0 E1 Em E2
        go_enter Tryz.func80, Tryz.ntmps80
        go_wp2_with fail
        refine H1.out.mono ?_; rintro e w1 ⟨g1, n1, c1, rfl, hX, hb1⟩
        obtain ⟨_, _, ef⟩ := hX.form
        simp only [Value.slice.injEq] at ef
        obtain ⟨rfl, rfl, rfl⟩ := ef
        go_wp2_with fail
        refine (H2.out _ hb1).mono ?_; rintro e w2 ⟨g2, n2, c2, rfl, hY, hb2⟩
        obtain ⟨_, _, ef⟩ := hY.form
        simp only [Value.slice.injEq] at ef
        obtain ⟨rfl, rfl, rfl⟩ := ef
        have hX2 := (hX.sls hb1).below hb2
        have hY2 := hY.sls hb2
        have hb12 := hb1.step hb2
        go_wp2_with fail
        refine (l3Over_v _ _ _ _ _ _ X Y true _ hd1 (fun _ => dom_some h0 hd1) hsx hlx hsy hly hX2 hY2).mono ?_; rintro e w3 ⟨rfl, hb3⟩
        have hbs3 := hb12.step hb3
        replace hX2 := hX2.below hb3
        replace hY2 := hY2.below hb3
        go_wp2_with fail
        go_ret
        exact ⟨by rw [E.out]; rfl, hbs3⟩
      | false =>
        cases hd2 : dom Y X with
        | true =>
          have E : Hid (z = -1) := Em.out h0 hd1 hd2
          clear E0 E1 Em E2
          go_enter Tryz.func80, Tryz.ntmps80
          go_wp2_with fail
          refine H1.out.mono ?_; rintro e w1 ⟨g1, n1, c1, rfl, hX, hb1⟩
          obtain ⟨_, _, ef⟩ := hX.form
          simp only [Value.slice.injEq] at ef
          obtain ⟨rfl, rfl, rfl⟩ := ef
          go_wp2_with fail
          refine (H2.out _ hb1).mono ?_; rintro e w2 ⟨g2, n2, c2, rfl, hY, hb2⟩
          obtain ⟨_, _, ef⟩ := hY.form
          simp only [Value.slice.injEq] at ef
          obtain ⟨rfl, rfl, rfl⟩ := ef
          have hX2 := (hX.sls hb1).below hb2
          have hY2 := hY.sls hb2
          have hb12 := hb1.step hb2
          go_wp2_with fail
          refine (l3Over_v _ _ _ _ _ _ X Y false _ hd1 ((by simp)) hsx hlx hsy hly hX2 hY2).mono ?_; rintro e w3 ⟨rfl, hb3⟩
          have hbs3 := hb12.step hb3
          replace hX2 := hX2.below hb3
          replace hY2 := hY2.below hb3
          go_wp2_with fail
          refine (l3Over_v _ _ _ _ _ _ Y X true _ hd2 (fun _ => dom_some h0b hd2) hsy hly hsx hlx hY2 hX2).mono ?_; rintro e w4 ⟨rfl, hb4⟩
          have hbs4 := hbs3.step hb4
          replace hX2 := hX2.below hb4
          replace hY2 := hY2.below hb4
          go_wp2_with fail
          go_ret
          exact ⟨by rw [E.out]; rfl, hbs4⟩
        | false =>
          have E : Hid (z = 2) := E2.out h0 hd1 hd2
          clear E0 E1 Em E2
          go_enter Tryz.func80, Tryz.ntmps80
          go_wp2_with fail
          refine H1.out.mono ?_; rintro e w1 ⟨g1, n1, c1, rfl, hX, hb1⟩
          obtain ⟨_, _, ef⟩ := hX.form
          simp only [Value.slice.injEq] at ef
          obtain ⟨rfl, rfl, rfl⟩ := ef
          go_wp2_with fail
          refine (H2.out _ hb1).mono ?_; rintro e w2 ⟨g2, n2, c2, rfl, hY, hb2⟩
          obtain ⟨_, _, ef⟩ := hY.form
          simp only [Value.slice.injEq] at ef
          obtain ⟨rfl, rfl, rfl⟩ := ef
          have hX2 := (hX.sls hb1).below hb2
          have hY2 := hY.sls hb2
          have hb12 := hb1.step hb2
          go_wp2_with fail
          refine (l3Over_v _ _ _ _ _ _ X Y false _ hd1 ((by simp)) hsx hlx hsy hly hX2 hY2).mono ?_; rintro e w3 ⟨rfl, hb3⟩
          have hbs3 := hb12.step hb3
          replace hX2 := hX2.below hb3
          replace hY2 := hY2.below hb3
          go_wp2_with fail
          refine (l3Over_v _ _ _ _ _ _ Y X false _ hd2 ((by simp)) hsy hly hsx hlx hY2 hX2).mono ?_; rintro e w4 ⟨rfl, hb4⟩
          have hbs4 := hbs3.step hb4
          replace hX2 := hX2.below hb4
          replace hY2 := hY2.below hb4
          go_wp2_with fail
          go_ret
          exact ⟨by rw [E.out]; rfl, hbs4⟩
  · have d1 : ((X.length : Int) == 0) = false := by simp; exact fun h => hx0 (by rw [h]; rfl)
    have h0 : ¬ (X = [] ∧ Y = []) := fun h => hx0 (by rw [h.1]; rfl)
    clear hx0
    have h0b : ¬ (Y = [] ∧ X = []) := fun h => h0 ⟨h.2, h.1⟩
    cases hd1 : dom X Y with
    | true =>
      have E : Hid (z = 1) := E1.out h0 hd1
      clear E0 E1 Em E2
      go_enter Tryz.func80, Tryz.ntmps80
      go_wp2_with fail
      refine H1.out.mono ?_; rintro e w1 ⟨g1, n1, c1, rfl, hX, hb1⟩
      obtain ⟨_, _, ef⟩ := hX.form
      simp only [Value.slice.injEq] at ef
      obtain ⟨rfl, rfl, rfl⟩ := ef
      go_wp2_with fail
      refine (H2.out _ hb1).mono ?_; rintro e w2 ⟨g2, n2, c2, rfl, hY, hb2⟩
      obtain ⟨_, _, ef⟩ := hY.form
      simp only [Value.slice.injEq] at ef
      obtain ⟨rfl, rfl, rfl⟩ := ef
      have hX2 := (hX.sls hb1).below hb2
      have hY2 := hY.sls hb2
      have hb12 := hb1.step hb2
      go_wp2_with fail
      refine (l3Over_v _ _ _ _ _ _ X Y true _ hd1 (fun _ => dom_some h0 hd1) hsx hlx hsy hly hX2 hY2).mono ?_; rintro e w3 ⟨rfl, hb3⟩
      have hbs3 := hb12.step hb3
      replace hX2 := hX2.below hb3
      replace hY2 := hY2.below hb3
      go_wp2_with fail
      go_ret
      exact ⟨by rw [E.out]; rfl, hbs3⟩
    | false =>
      cases hd2 : dom Y X with
      | true =>
        have E : Hid (z = -1) := Em.out h0 hd1 hd2
        clear E0 E1 Em E2
        go_enter Tryz.func80, Tryz.ntmps80
        go_wp2_with fail
        refine H1.out.mono ?_; rintro e w1 ⟨g1, n1, c1, rfl, hX, hb1⟩
        obtain ⟨_, _, ef⟩ := hX.form
        simp only [Value.slice.injEq] at ef
        obtain ⟨rfl, rfl, rfl⟩ := ef
        go_wp2_with fail
        refine (H2.out _ hb1).mono ?_; rintro e w2 ⟨g2, n2, c2, rfl, hY, hb2⟩
        obtain ⟨_, _, ef⟩ := hY.form
        simp only [Value.slice.injEq] at ef
        obtain ⟨rfl, rfl, rfl⟩ := ef
        have hX2 := (hX.sls hb1).below hb2
        have hY2 := hY.sls hb2
        have hb12 := hb1.step hb2
        go_wp2_with fail
        refine (l3Over_v _ _ _ _ _ _ X Y false _ hd1 ((by simp)) hsx hlx hsy hly hX2 hY2).mono ?_; rintro e w3 ⟨rfl, hb3⟩
        have hbs3 := hb12.step hb3
        replace hX2 := hX2.below hb3
        replace hY2 := hY2.below hb3
        go_wp2_with fail
        refine (l3Over_v _ _ _ _ _ _ Y X true _ hd2 (fun _ => dom_some h0b hd2) hsy hly hsx hlx hY2 hX2).mono ?_; rintro e w4 ⟨rfl, hb4⟩
        have hbs4 := hbs3.step hb4
        replace hX2 := hX2.below hb4
        replace hY2 := hY2.below hb4
        go_wp2_with fail
        go_ret
        exact ⟨by rw [E.out]; rfl, hbs4⟩
      | false =>
        have E : Hid (z = 2) := E2.out h0 hd1 hd2
        clear E0 E1 Em E2
        go_enter Tryz.func80, Tryz.ntmps80
        go_wp2_with fail
        refine H1.out.mono ?_; rintro e w1 ⟨g1, n1, c1, rfl, hX, hb1⟩
        obtain ⟨_, _, ef⟩ := hX.form
        simp only [Value.slice.injEq] at ef
        obtain ⟨rfl, rfl, rfl⟩ := ef
        go_wp2_with fail
        refine (H2.out _ hb1).mono ?_; rintro e w2 ⟨g2, n2, c2, rfl, hY, hb2⟩
        obtain ⟨_, _, ef⟩ := hY.form
        simp only [Value.slice.injEq] at ef
        obtain ⟨rfl, rfl, rfl⟩ := ef
        have hX2 := (hX.sls hb1).below hb2
        have hY2 := hY.sls hb2
        have hb12 := hb1.step hb2
        go_wp2_with fail
        refine (l3Over_v _ _ _ _ _ _ X Y false _ hd1 ((by simp)) hsx hlx hsy hly hX2 hY2).mono ?_; rintro e w3 ⟨rfl, hb3⟩
        have hbs3 := hb12.step hb3
        replace hX2 := hX2.below hb3
        replace hY2 := hY2.below hb3
        go_wp2_with fail
        refine (l3Over_v _ _ _ _ _ _ Y X false _ hd2 ((by simp)) hsy hly hsx hlx hY2 hX2).mono ?_; rintro e w4 ⟨rfl, hb4⟩
        have hbs4 := hbs3.step hb4
        replace hX2 := hX2.below hb4
        replace hY2 := hY2.below hb4
        go_wp2_with fail
        go_ret
        exact ⟨by rw [E.out]; rfl, hbs4⟩

end Go.Proofs.YtikllmdmifecpaaGreatDoor
end
section
/- Chapter 4: CompareLits, both sides. -/
namespace Go.Proofs.YtikllmdmifecpaaGreatDoor
open Go.RowKit

set_option maxRecDepth 100000 in
set_option maxHeartbeats 1000000 in
theorem comparedLits_c (l h l' h' : Nat) (x y : Lt) (u1 u2 q1 q2 : Value) (w : World) (hT : Tab w) (hsx : short (listL x)) (hlx : lowL (listL x)) (hsy : short (listL y)) (hly : lowL (listL y)) (h1 : SlI l h w u1 x.2.1) (h2 : SlI l h w u2 x.2.2) (h3 : SlI l' h' w q1 y.2.1) (h4 : SlI l' h' w q2 y.2.2) :
    Calls Tryz.prog 74 #[.agg #[.bool x.1, u1, u2], .agg #[.bool y.1, q1, q2]] w (RetV w (.int .i64 (cmpL (listL x) (listL y)))) := by
  have HX := Lib.hid (fun (w' : World) (hb : Bel w w') => countedTerms_c l h x u1 u2 w' (h1.below hb) (h2.below hb))
  have HY := Lib.hid (fun (w' : World) (hb : Bel w w') => countedTerms_c l' h' y q1 q2 w' (h3.below hb) (h4.below hb))
  have HM := Lib.hid (fun (w' : World) (z1 z2 : Value) (hb : Bel w w') (g1 : SlS 0 w'.heap.size w' z1 (listL x)) (g2 : SlS 0 w'.heap.size w' z2 (listL y)) => comparedLists_c _ _ _ _ z1 z2 _ _ w' (hT.bel hb) hsx hlx hsy hly g1 g2)
  clear h1 h2 h3 h4
  generalize listL x = X at *
  generalize listL y = Y at *
  generalize x.1 = p at *
  generalize y.1 = q at *
  have HB0 : Bel w ((w.alloc (.cells #[.bool p, u1, u2] 67)).alloc (.cells #[.bool q, q1, q2] 67)).drew := (Bel.alloc2 _ _ _).drew
  have K : Hid (∀ w', Bel ((w.alloc (.cells #[.bool p, u1, u2] 67)).alloc (.cells #[.bool q, q1, q2] 67)).drew w' → (w'.cell? ⟨w.heap.size, 0, none⟩ = some (.bool p) ∧ w'.cell? ⟨w.heap.size, 1, none⟩ = some u1 ∧ w'.cell? ⟨w.heap.size, 2, none⟩ = some u2) ∧ w'.cell? ⟨w.heap.size + 1, 0, none⟩ = some (.bool q) ∧ w'.cell? ⟨w.heap.size + 1, 1, none⟩ = some q1 ∧ w'.cell? ⟨w.heap.size + 1, 2, none⟩ = some q2) := fun w' hb => by
    have hq := hb.of_drew
    exact ⟨⟨hq.at (by simp; omega) (by simp [go_sem]), hq.at (by simp; omega) (by simp [go_sem]), hq.at (by simp; omega) (by simp [go_sem])⟩, hq.at (by simp) (by simp [go_sem]), hq.at (by simp) (by simp [go_sem]), hq.at (by simp) (by simp [go_sem])⟩
  go_enter Tryz.func74, Tryz.ntmps74
  go_wp2_with fail
  go_region_held3 (fun w' => (w'.cell? ⟨w.heap.size, 0, none⟩ = some (.bool p) ∧ w'.cell? ⟨w.heap.size, 1, none⟩ = some u1 ∧ w'.cell? ⟨w.heap.size, 2, none⟩ = some u2) ∧ w'.cell? ⟨w.heap.size + 1, 0, none⟩ = some (.bool q) ∧ w'.cell? ⟨w.heap.size + 1, 1, none⟩ = some q1 ∧ w'.cell? ⟨w.heap.size + 1, 2, none⟩ = some q2)
    (first | exact K.out _ ((g3.step g4).step g5) | exact K.out _ (g3.step g4) | exact K.out _ g3 | exact K.out _ (Bel.rfl' _) | fail)
    (first
      | (go_at_call 127; refine (HM.out _ _ _ HB4 R1 R2).mono ?_; rintro e w5 ⟨rfl, g5⟩)
      | (go_at_call 128; refine (HY.out _ HB3).mono ?_; rintro e w4 ⟨a2, n2, c2, rfl, r2, g4⟩; have HB4 := HB3.step g4; have R1 := (r1.bel g4).sls (g3.step g4); have R2 := r2.sls g4)
      | (go_at_call 128; refine (HX.out _ HB3).mono ?_; rintro e w4 ⟨a1, n1, c1, rfl, r1, g4⟩; have HB4 := HB3.step g4; have R2 := (r2.bel g4).sls (g3.step g4); have R1 := r1.sls g4)
      | (go_at_call 128; refine (HX.out _ HB0).mono ?_; rintro e w3 ⟨a1, n1, c1, rfl, r1, g3⟩; have HB3 := HB0.step g3)
      | (go_at_call 128; refine (HY.out _ HB0).mono ?_; rintro e w3 ⟨a2, n2, c2, rfl, r2, g3⟩; have HB3 := HB0.step g3)
      | fail)
  all_goals
    go_wp2_with fail
    go_ret
    exact ⟨rfl, HB4.step g5⟩

theorem listL_short {ar : List Int} {x : Lt} (h : okLit ar x = true) : short (listL x) := by
  have h1 := listL_low h
  refine ⟨by have := listL_len x; omega, fun j hj => ?_⟩
  have := (okTerm_len (h1 _ (mem_getD _ [] j hj))).2
  omega
theorem listL_lowL {ar : List Int} {x : Lt} (h : okLit ar x = true) : lowL (listL x) := fun j hj => low_memC fun _ hn => ok_low (listL_low h _ (mem_getD _ [] j hj)) hn
theorem litsOk_good (ar : List Int) (x y : Lt) : goodClause ar [x, y] = litsOk ar x y := by simp [goodClause, okLits, litsOk]
/-- Two literals in a block of their own. -/
theorem slc_two {w : World} {x y : Lt} {u1 u2 q1 q2 : Value} {t : TypeId} (g : Nat) (hg : g = w.heap.size) (h1 : SlI 0 w.heap.size w u1 x.2.1) (h2 : SlI 0 w.heap.size w u2 x.2.2) (h3 : SlI 0 w.heap.size w q1 y.2.1) (h4 : SlI 0 w.heap.size w q2 y.2.2) :
    SlC 0 (w.alloc (.cells #[.bool x.1, u1, u2, .bool y.1, q1, q2] t)).heap.size (w.alloc (.cells #[.bool x.1, u1, u2, .bool y.1, q1, q2] t)) (.slice (some ⟨g, 0, none⟩) 2 2) [x, y] := by
  subst hg
  have hb := Bel.alloc0 w (.cells #[.bool x.1, u1, u2, .bool y.1, q1, q2] t)
  have hc : ∀ i v, (#[Value.bool x.1, u1, u2, .bool y.1, q1, q2])[i]? = some v → (w.alloc (.cells #[.bool x.1, u1, u2, .bool y.1, q1, q2] t)).cell? ⟨w.heap.size, i, none⟩ = some v := fun i v h => by rw [World.cell?_alloc_new w]; exact h
  refine ⟨_, 2, rfl, Nat.le_refl _, ⟨by unfold maxLen; omega, fun h => by simp at h⟩, fun _ => ⟨w.heap.size, 0, rfl, Nat.zero_le _, by simp, fun j hj => ?_⟩⟩
  match j, hj with
  | 0, _ => exact ⟨u1, u2, hc 0 _ rfl, hc 1 _ rfl, hc 2 _ rfl, (h1.below hb).mono (Nat.le_refl _) hb.size, (h2.below hb).mono (Nat.le_refl _) hb.size⟩
  | 1, _ => exact ⟨q1, q2, hc 3 _ rfl, hc 4 _ rfl, hc 5 _ rfl, (h3.below hb).mono (Nat.le_refl _) hb.size, (h4.below hb).mono (Nat.le_refl _) hb.size⟩

set_option maxRecDepth 100000 in
set_option maxHeartbeats 1000000 in
theorem iCompareLits_t {l h l' h' l2 h2 : Nat} {v u1 u2 q1 q2 : Value} {ar : List Int} {x y : Lt} {w : World} (hT : Tab w) (ha : ar.length ≤ 1048576) (hv : SlI l h w v ar) (hx : x.2.1.length + x.2.2.length ≤ 1048576) (s1 : SlI l' h' w u1 x.2.1) (s2 : SlI l' h' w u2 x.2.2) (hy : y.2.1.length + y.2.2.length ≤ 1048576) (t1 : SlI l2 h2 w q1 y.2.1) (t2 : SlI l2 h2 w q2 y.2.2) :
    Calls Tryz.prog 40 #[.agg #[v], .agg #[.bool x.1, u1, u2], .agg #[.bool y.1, q1, q2]] w (RetV w (.tuple #[.int .i64 (litsAns ar x y), .bool (litsOk ar x y)])) := by
  have hsh : shortC [x, y] := ⟨by simp, fun j hj => by
    match j, hj with
    | 0, _ => exact ⟨by show x.2.1.length ≤ _; omega, by show x.2.2.length ≤ _; omega⟩
    | 1, _ => exact ⟨by show y.2.1.length ≤ _; omega, by show y.2.2.length ≤ _; omega⟩⟩
  have HB : Bel w (((w.alloc (.cells #[v] 33)).alloc (.cells #[.bool x.1, u1, u2] 67)).alloc (.cells #[.bool y.1, q1, q2] 67)) := Bel.alloc3 _ _ _ _
  have hsl := slc_two (w := ((w.alloc (.cells #[v] 33)).alloc (.cells #[.bool x.1, u1, u2] 67)).alloc (.cells #[.bool y.1, q1, q2] 67)) (t := 67) (w.heap.size + 1 + 1 + 1) (by simp) (s1.below HB).in' (s2.below HB).in' (t1.below HB).in' (t2.below HB).in'
  have hg := fun (q : Bool) (hq : goodClause ar [x, y] = q) => (iGoodClause_sh ha ((hv.below HB).alloc (.cells #[.bool x.1, u1, u2, .bool y.1, q1, q2] 67)) hsh hsl)
  have hgo := litsOk_good ar x y
  unfold litsAns
  cases hq : litsOk ar x y with
  | false =>
    rw [if_neg (by simp)]
    have HG := hg _ rfl
    rw [hgo, hq] at HG
    have HGG := Lib.hid HG
    clear HG hg hgo hq hsl hsh
    go_enter Tryz.func40, Tryz.ntmps40
    go_wp2_with fail
    refine HGG.out.mono ?_; rintro e w1 ⟨rfl, hb1⟩
    go_wp2_with fail
    go_ret2
    exact ⟨rfl, HB.step hb1.of_alloc⟩
  | true =>
    rw [if_pos rfl]
    have HG := hg _ rfl
    rw [hgo, hq] at HG
    have HGG := Lib.hid HG
    simp only [litsOk, Bool.and_eq_true] at hq
    obtain ⟨hgs, okx, oky⟩ := hq
    have HCM := Lib.hid (fun (w' : World) (hb : Bel w w') => comparedLits_c _ _ _ _ x y u1 u2 q1 q2 w' (hT.bel hb) (listL_short okx) (listL_lowL okx) (listL_short oky) (listL_lowL oky) (s1.below hb) (s2.below hb) (t1.below hb) (t2.below hb))
    clear HG hg hgo hsl hsh s1 s2 t1 t2
    have K : Hid (∀ w', Bel (((w.alloc (.cells #[v] 33)).alloc (.cells #[.bool x.1, u1, u2] 67)).alloc (.cells #[.bool y.1, q1, q2] 67)) w' → (w'.cell? ⟨w.heap.size + 1, 0, none⟩ = some (.bool x.1) ∧ w'.cell? ⟨w.heap.size + 1, 1, none⟩ = some u1 ∧ w'.cell? ⟨w.heap.size + 1, 2, none⟩ = some u2) ∧ w'.cell? ⟨w.heap.size + 1 + 1, 0, none⟩ = some (.bool y.1) ∧ w'.cell? ⟨w.heap.size + 1 + 1, 1, none⟩ = some q1 ∧ w'.cell? ⟨w.heap.size + 1 + 1, 2, none⟩ = some q2) := fun w' hb =>
      ⟨⟨hb.at (by simp <;> omega) (by simp [go_sem]), hb.at (by simp <;> omega) (by simp [go_sem]), hb.at (by simp <;> omega) (by simp [go_sem])⟩, hb.at (by simp) (by simp [go_sem]), hb.at (by simp) (by simp [go_sem]), hb.at (by simp) (by simp [go_sem])⟩
    generalize cmpL (listL x) (listL y) = r at *
    generalize x.1 = p at *
    generalize y.1 = q at *
    go_enter Tryz.func40, Tryz.ntmps40
    go_wp2_with fail
    refine HGG.out.mono ?_; rintro e w1 ⟨rfl, hb1⟩
    obtain ⟨⟨x0, x1, x2⟩, y0, y1, y2⟩ := K.out _ hb1.of_alloc
    have HB1 := HB.step hb1.of_alloc
    go_wp2_with fail
    refine (HCM.out _ HB1).mono ?_; rintro e w2 ⟨rfl, hb2⟩
    go_wp2_with fail
    go_ret2
    exact ⟨rfl, HB1.step hb2⟩

set_option maxRecDepth 100000 in
set_option maxHeartbeats 2000000 in
theorem sCompareLits_t {l h l' h' l2 h2 : Nat} {v u1 u2 q1 q2 : Value} {ar : List Int} {x y : Lt} {w : World} (ha : ar.length ≤ 1048576) (hv : SlI l h w v ar) (hx : x.2.1.length + x.2.2.length ≤ 1048576) (s1 : SlI l' h' w u1 x.2.1) (s2 : SlI l' h' w u2 x.2.2) (hy : y.2.1.length + y.2.2.length ≤ 1048576) (t1 : SlI l2 h2 w q1 y.2.1) (t2 : SlI l2 h2 w q2 y.2.2) :
    Calls Tryz.prog 42 #[.agg #[v], .agg #[.bool x.1, u1, u2], .agg #[.bool y.1, q1, q2]] w (RetV w (.tuple #[.int .i64 (litsAns ar x y), .bool (litsOk ar x y)])) := by
  have HB : Bel w (((w.alloc (.cells #[v] 33)).alloc (.cells #[.bool x.1, u1, u2] 67)).alloc (.cells #[.bool y.1, q1, q2] 67)) := Bel.alloc3 _ _ _ _
  have K : Hid (∀ w', Bel (((w.alloc (.cells #[v] 33)).alloc (.cells #[.bool x.1, u1, u2] 67)).alloc (.cells #[.bool y.1, q1, q2] 67)) w' → w'.cell? ⟨w.heap.size, 0, none⟩ = some v ∧ (w'.cell? ⟨w.heap.size + 1, 0, none⟩ = some (.bool x.1) ∧ w'.cell? ⟨w.heap.size + 1, 1, none⟩ = some u1 ∧ w'.cell? ⟨w.heap.size + 1, 2, none⟩ = some u2) ∧ w'.cell? ⟨w.heap.size + 1 + 1, 0, none⟩ = some (.bool y.1) ∧ w'.cell? ⟨w.heap.size + 1 + 1, 1, none⟩ = some q1 ∧ w'.cell? ⟨w.heap.size + 1 + 1, 2, none⟩ = some q2) := fun w' hb =>
    ⟨hb.at (by simp <;> omega) (by simp [go_sem]), ⟨hb.at (by simp <;> omega) (by simp [go_sem]), hb.at (by simp <;> omega) (by simp [go_sem]), hb.at (by simp <;> omega) (by simp [go_sem])⟩, hb.at (by simp) (by simp [go_sem]), hb.at (by simp) (by simp [go_sem]), hb.at (by simp) (by simp [go_sem])⟩
  unfold litsAns litsOk
  cases hgs : goodSign ar with
  | false =>
    rw [Bool.false_and, if_neg (by simp)]
    have HG := Lib.hid (sGoodSign_v l h v ar false _ hgs ha (hv.below HB))
    clear hgs
    generalize x.1 = p at *
    generalize y.1 = q at *
    go_enter Tryz.func42, Tryz.ntmps42
    go_wp2_with fail
    refine HG.out.mono ?_; rintro e w1 ⟨rfl, hb1⟩
    go_wp2_with fail
    go_ret2
    exact ⟨rfl, HB.step hb1⟩
  | true =>
    rw [Bool.true_and]
    have HG := Lib.hid (sGoodSign_v l h v ar true _ hgs ha (hv.below HB))
    have H1 := fun (r : Bool) (hr : okLit ar x = r) (w' : World) (hb : Bel w w') => l4Lit_v l h l' h' v u1 u2 ar x.2.1 x.2.2 x.1 r w' hr hgs (by omega) (by omega) (hv.below hb) (s1.below hb) (s2.below hb)
    have H2 := fun (r : Bool) (hr : okLit ar y = r) (w' : World) (hb : Bel w w') => l4Lit_v l h l2 h2 v q1 q2 ar y.2.1 y.2.2 y.1 r w' hr hgs (by omega) (by omega) (hv.below hb) (t1.below hb) (t2.below hb)
    cases hox : okLit ar x with
    | false =>
      rw [Bool.false_and, if_neg (by simp)]
      have HL1 := Lib.hid (H1 false hox)
      clear H1 H2 hox hgs
      generalize x.1 = p at *
      generalize y.1 = q at *
      go_enter Tryz.func42, Tryz.ntmps42
      go_wp2_with fail
      refine HG.out.mono ?_; rintro e w1 ⟨rfl, hb1⟩
      obtain ⟨z, ⟨x0, x1, x2⟩, y0, y1, y2⟩ := K.out _ hb1
      have HB1 := HB.step hb1
      go_wp2_with fail
      refine (HL1.out _ HB1).mono ?_; rintro e w2 ⟨rfl, hb2⟩
      go_wp2_with fail
      go_ret2
      exact ⟨rfl, HB1.step hb2⟩
    | true =>
      rw [Bool.true_and]
      have HL1 := Lib.hid (H1 true hox)
      cases hoy : okLit ar y with
      | false =>
        rw [if_neg (by simp)]
        have HL2 := Lib.hid (H2 false hoy)
        clear H1 H2 hox hoy hgs
        generalize x.1 = p at *
        generalize y.1 = q at *
        go_enter Tryz.func42, Tryz.ntmps42
        go_wp2_with fail
        refine HG.out.mono ?_; rintro e w1 ⟨rfl, hb1⟩
        obtain ⟨z, ⟨x0, x1, x2⟩, y0, y1, y2⟩ := K.out _ hb1
        have HB1 := HB.step hb1
        go_wp2_with fail
        refine (HL1.out _ HB1).mono ?_; rintro e w2 ⟨rfl, hb2⟩
        obtain ⟨zz, ⟨xx0, xx1, xx2⟩, yy0, yy1, yy2⟩ := K.out _ (hb1.step hb2)
        have HB2 := HB1.step hb2
        go_wp2_with fail
        refine (HL2.out _ HB2).mono ?_; rintro e w3 ⟨rfl, hb3⟩
        go_wp2_with fail
        go_ret2
        exact ⟨rfl, HB2.step hb3⟩
      | true =>
        rw [if_pos rfl]
        have HL2 := Lib.hid (H2 true hoy)
        have HX := Lib.hid (fun (w' : World) (hb : Bel w w') => l4List_c l' h' x u1 u2 w' (s1.below hb) (s2.below hb))
        have HY := Lib.hid (fun (w' : World) (hb : Bel w w') => l4List_c l2 h2 y q1 q2 w' (t1.below hb) (t2.below hb))
        have HM := Lib.hid (fun (w' : World) (z1 z2 : Value) (g1 : SlS 0 w'.heap.size w' z1 (listL x)) (g2 : SlS 0 w'.heap.size w' z2 (listL y)) => l3Lists_c _ _ _ _ z1 z2 _ _ w' (listL_short hox) (listL_lowL hox) (listL_short hoy) (listL_lowL hoy) g1 g2)
        clear H1 H2 hox hoy hgs s1 s2 t1 t2
        generalize cmpL (listL x) (listL y) = r at *
        generalize listL x = X at *
        generalize listL y = Y at *
        generalize x.1 = p at *
        generalize y.1 = q at *
        go_enter Tryz.func42, Tryz.ntmps42
        go_wp2_with fail
        refine HG.out.mono ?_; rintro e w1 ⟨rfl, hb1⟩
        obtain ⟨z, ⟨x0, x1, x2⟩, y0, y1, y2⟩ := K.out _ hb1
        have HB1 := HB.step hb1
        go_wp2_with fail
        refine (HL1.out _ HB1).mono ?_; rintro e w2 ⟨rfl, hb2⟩
        obtain ⟨zz, ⟨xx0, xx1, xx2⟩, yy0, yy1, yy2⟩ := K.out _ (hb1.step hb2)
        have HB2 := HB1.step hb2
        go_wp2_with fail
        refine (HL2.out _ HB2).mono ?_; rintro e w3 ⟨rfl, hb3⟩
        have HB3 := HB2.step hb3
        have K3 := (hb1.step hb2).step hb3
        go_wp2_with fail
        have D3 := Bel.drew0 w3
        have HB0 := HB3.step D3
        have KW := K3.step D3
        go_region_held3 (fun w' => (w'.cell? ⟨w.heap.size + 1, 0, none⟩ = some (.bool p) ∧ w'.cell? ⟨w.heap.size + 1, 1, none⟩ = some u1 ∧ w'.cell? ⟨w.heap.size + 1, 2, none⟩ = some u2) ∧ w'.cell? ⟨w.heap.size + 1 + 1, 0, none⟩ = some (.bool q) ∧ w'.cell? ⟨w.heap.size + 1 + 1, 1, none⟩ = some q1 ∧ w'.cell? ⟨w.heap.size + 1 + 1, 2, none⟩ = some q2)
          (first | exact (K.out _ (KW.step ((g3.step g4).step g5))).2 | exact (K.out _ (KW.step (g3.step g4))).2 | exact (K.out _ (KW.step g3)).2 | exact (K.out _ KW).2 | fail)
          (first
            | (go_at_call 80; refine (HM.out _ _ _ R1 R2).mono ?_; rintro e w6 ⟨rfl, g5⟩)
            | (go_at_call 81; refine (HY.out _ HB4).mono ?_; rintro e w5 ⟨a2, n2, c2, rfl, r2, g4⟩; have HB5 := HB4.step g4; have R1 := (r1.bel g4).sls (g3.step g4); have R2 := r2.sls g4)
            | (go_at_call 81; refine (HX.out _ HB4).mono ?_; rintro e w5 ⟨a1, n1, c1, rfl, r1, g4⟩; have HB5 := HB4.step g4; have R2 := (r2.bel g4).sls (g3.step g4); have R1 := r1.sls g4)
            | (go_at_call 81; refine (HX.out _ HB0).mono ?_; rintro e w4 ⟨a1, n1, c1, rfl, r1, g3⟩; have HB4 := HB0.step g3)
            | (go_at_call 81; refine (HY.out _ HB0).mono ?_; rintro e w4 ⟨a2, n2, c2, rfl, r2, g3⟩; have HB4 := HB0.step g3)
            | fail)
        all_goals
          go_wp2_with fail
          go_ret2
          exact ⟨rfl, HB5.step g5⟩
end Go.Proofs.YtikllmdmifecpaaGreatDoor
end
section
/- Chapter 4: the ordering of lists is transitive; a clause that has a literal has a maximal one. No program. -/
namespace Go.Proofs.YtikllmdmifecpaaGreatDoor

theorem cmpL_gt {a b : List (List Int)} : cmpL a b = 1 ↔ minus a b ≠ [] ∧ ∀ y, a.count y < b.count y → ∃ x, above x y = true ∧ b.count x < a.count x := by
  rw [cmpL_one, dom_iff]
  refine and_congr Iff.rfl ⟨fun h y hy => ?_, fun h y hy => ?_⟩
  · obtain ⟨u, hu, k⟩ := h y (minus_mem.2 hy)
    exact ⟨u, k, minus_mem.1 hu⟩
  · obtain ⟨x, k, hx⟩ := h y (minus_mem.1 hy)
    exact ⟨x, minus_mem.2 hx, k⟩
theorem cmpL_irrefl (a : List (List Int)) : cmpL a a ≠ 1 := by
  intro h
  have h1 := (cmpL_flip a a).1.1 h
  omega
theorem cmpL_trans {M N P : List (List Int)} (h1 : cmpL M N = 1) (h2 : cmpL N P = 1) : cmpL M P = 1 := by
  have hNM : cmpL N M ≠ 1 := fun h => by have := (cmpL_flip M N).1.1 h1; omega
  obtain ⟨n1, g1⟩ := cmpL_gt.1 h1
  obtain ⟨n2, g2⟩ := cmpL_gt.1 h2
  have A : ∀ z, M.count z < N.count z → ∃ x, above x z = true ∧ P.count x < M.count x := by
    intro z hz
    obtain ⟨x0, k0, c0⟩ := g1 z hz
    have hne : (minus M N).filter (fun x => above x z) ≠ [] := by
      intro e
      have : x0 ∈ (minus M N).filter (fun x => above x z) := List.mem_filter.2 ⟨minus_mem.2 c0, k0⟩
      rw [e] at this; simp at this
    obtain ⟨m, hm, hmax⟩ := top_of _ hne
    obtain ⟨m1, m2⟩ := List.mem_filter.1 hm
    have m3 := minus_mem.1 m1
    by_cases hP : P.count m < M.count m
    · exact ⟨m, m2, hP⟩
    · obtain ⟨w, kw, cw⟩ := g2 m (by omega)
      by_cases hw : M.count w < N.count w
      · obtain ⟨x, kx, cx⟩ := g1 w hw
        have kxm := above_trans kx kw
        have := hmax x (List.mem_filter.2 ⟨minus_mem.2 cx, above_trans kxm m2⟩)
        rw [kxm] at this; simp at this
      · exact ⟨w, above_trans kw m2, by omega⟩
  have B : ∀ y, M.count y < P.count y → ∃ x, above x y = true ∧ P.count x < M.count x := by
    intro y hy
    by_cases hN : M.count y < N.count y
    · exact A y hN
    · obtain ⟨w, kw, cw⟩ := g2 y (by omega)
      by_cases hw : M.count w < N.count w
      · obtain ⟨x, kx, cx⟩ := A w hw
        exact ⟨x, above_trans kx kw, cx⟩
      · exact ⟨w, kw, by omega⟩
  refine cmpL_gt.2 ⟨fun e => ?_, B⟩
  have e0 : ∀ t, M.count t ≤ P.count t := fun t => by
    have := (nil_iff.1 e) t
    rw [minus_mem] at this; omega
  have e1 : ∀ t, P.count t = M.count t := fun t => by
    by_cases hlt : M.count t < P.count t
    · obtain ⟨x, _, cx⟩ := B t hlt
      have := e0 x; omega
    · have := e0 t; omega
  refine hNM (cmpL_gt.2 ⟨fun en => n2 (nil_iff.2 fun t ht => ?_), fun y hy => ?_⟩)
  · rw [minus_mem, e1] at ht
    exact (nil_iff.1 en) t (minus_mem.2 ht)
  · obtain ⟨x, kx, cx⟩ := g2 y (by rw [e1]; exact hy)
    exact ⟨x, kx, by rw [← e1]; exact cx⟩

theorem top_L (c : List Lt) (h : c ≠ []) : ∃ m ∈ c, ∀ x ∈ c, cmpL (listL x) (listL m) ≠ 1 := by
  induction c with
  | nil => exact absurd rfl h
  | cons y l ih =>
    by_cases hl : l = []
    · subst hl
      exact ⟨y, List.mem_cons_self, fun x hx => by simp at hx; subst hx; exact cmpL_irrefl _⟩
    · obtain ⟨m, hm, hmax⟩ := ih hl
      by_cases hy : cmpL (listL y) (listL m) = 1
      · refine ⟨y, List.mem_cons_self, fun x hx => ?_⟩
        rcases List.mem_cons.1 hx with rfl | hx
        · exact cmpL_irrefl _
        · intro hxy
          exact hmax x hx (cmpL_trans hxy hy)
      · exact ⟨m, List.mem_cons_of_mem _ hm, fun x hx => by rcases List.mem_cons.1 hx with rfl | hx; exact hy; exact hmax x hx⟩
theorem maxC_mem {c : List Lt} {k : Nat} : k ∈ maxC c ↔ k < c.length ∧ ∀ i, i < c.length → i = k ∨ cmpL (listL (c.getD i lt0)) (listL (c.getD k lt0)) ≠ 1 := by
  unfold maxC
  rw [List.mem_filter, List.mem_range]
  refine and_congr Iff.rfl ?_
  unfold maxAt
  simp only [List.all_eq_true, List.mem_range, Bool.or_eq_true, decide_eq_true_eq, Bool.not_eq_true', decide_eq_false_iff_not, ne_eq]
theorem maxC_ne {c : List Lt} (h : c ≠ []) : maxC c ≠ [] := by
  obtain ⟨m, hm, hmax⟩ := top_L c h
  obtain ⟨k, hk, rfl⟩ := List.getElem_of_mem hm
  intro e
  have : k ∈ maxC c := maxC_mem.2 ⟨hk, fun i hi => .inr (by
    have := hmax c[i] (List.getElem_mem hi)
    simpa [List.getD, hi, hk] using this)⟩
  rw [e] at this; simp at this
end Go.Proofs.YtikllmdmifecpaaGreatDoor
end
section
/- Chapter 4, the reference: the maximal literals. -/
namespace Go.Proofs.YtikllmdmifecpaaGreatDoor
open Go.RowKit

def maxTo (c : List Lt) (k m : Nat) : Prop := ∀ j, j < m → j = k ∨ cmpL (listL (c.getD j lt0)) (listL (c.getD k lt0)) ≠ 1
theorem maxTo.step {c : List Lt} {k m : Nat} (h : maxTo c k m) (hm : m = k ∨ cmpL (listL (c.getD m lt0)) (listL (c.getD k lt0)) ≠ 1) : maxTo c k (m+1) := fun j hj => by
  by_cases e : j = m
  · subst e; exact hm
  · exact h j (by omega)
theorem maxAt_true {c : List Lt} {k : Nat} (h : maxTo c k c.length) : maxAt c k = true := by
  unfold maxAt
  simp only [List.all_eq_true, List.mem_range, Bool.or_eq_true, decide_eq_true_eq, Bool.not_eq_true', decide_eq_false_iff_not]
  exact h
theorem maxAt_false {c : List Lt} {k m : Nat} (hm : m < c.length) (h : m ≠ k) (h1 : cmpL (listL (c.getD m lt0)) (listL (c.getD k lt0)) = 1) : maxAt c k = false := by
  rw [← Bool.not_eq_true]
  intro h2
  unfold maxAt at h2
  simp only [List.all_eq_true, List.mem_range, Bool.or_eq_true, decide_eq_true_eq, Bool.not_eq_true', decide_eq_false_iff_not] at h2
  rcases h2 m hm with e | e
  · exact h e
  · exact e h1
def lowC (c : List Lt) : Prop := ∀ j, j < c.length → short (listL (c.getD j lt0)) ∧ lowL (listL (c.getD j lt0))

set_option maxRecDepth 100000 in
set_option maxHeartbeats 1000000 in
theorem l4Maximal_c (l h : Nat) (v : Value) (c : List Lt) (k : Nat) (w : World) (hx : shortC c) (hk : k < c.length) (hok : lowC c) (hu : SlC l h w v c) :
    Calls Tryz.prog 73 #[v, .int .i64 k] w (RetV w (.bool (maxAt c k))) := by
  obtain ⟨ad, cap, rfl⟩ := hu.form
  obtain ⟨hxl, hxj⟩ := hx
  have hkI : (k : Int) < c.length := by omega
  go_enter Tryz.func73, Tryz.ntmps73
  go_wp2_with fail
  go_loopw [9] (fun i wr => ∃ m : Nat, m ≤ c.length ∧ i = .int .i64 m ∧ maxTo c k m ∧ Bel w wr) (fun i _ => c.length - (intOf i).toNat)
  case atStart => exact ⟨0, Nat.zero_le _, rfl, fun j hj => absurd hj (by omega), Bel.rfl' _⟩
  case round =>
    obtain ⟨m, hm, rfl, hto, hb⟩ := hrel
    by_cases hlt : m < c.length
    · obtain ⟨b, off, u1, u2, rfl, hbs, c1, c2, c3, s1, s2⟩ := hu.at hb m hlt
      obtain ⟨b', off', q1, q2, e', hbs', d1, d2, d3, t1, t2⟩ := hu.at hb k hk
      cases e'
      have hstep := hto.step
      have hbad := maxAt_false (k := k) hlt
      obtain ⟨k1, k2⟩ := hok m hlt
      obtain ⟨k3, k4⟩ := hok k hk
      have hmI : (m : Int) < c.length := by omega
      clear hto hu hok hxj
      by_cases hmk : m = k
      · subst hmk
        have E := Lib.hid (hstep (.inl rfl))
        clear hstep hbad k1 k2 k3 k4 t1 t2 d1 d2 d3 hbs'
        generalize c.getD m lt0 = x at *
        obtain ⟨p, xl, xr⟩ := x
        simp only at *
        obtain ⟨a1, e1, rfl⟩ := s1.form
        obtain ⟨a2, e2, rfl⟩ := s2.form
        clear s1 s2
        have hne : (BEq.beq (m : Int) (m : Int)) = true := by simp
        go_wp2_with fail
        go_region
        go_wp2_with fail
        go_roundw
        case rel => exact ⟨m+1, by omega, by go_num, E.out, (hb.alloc _).drew⟩
        case measure => simp [intOf]; omega
      · have hbne : ((m : Int) != (k : Int)) = true := bne_iff_ne.2 (by omega)
        have HX := Lib.hid (fun (w' : World) (hb' : Bel wr w') => l4List_c _ _ (c.getD m lt0) u1 u2 w' (s1.below hb') (s2.below hb'))
        have HY := Lib.hid (fun (w' : World) (hb' : Bel wr w') => l4List_c _ _ (c.getD k lt0) q1 q2 w' (t1.below hb') (t2.below hb'))
        have HM := Lib.hid (fun (w' : World) (z1 z2 : Value) (g1 : SlS 0 w'.heap.size w' z1 (listL (c.getD m lt0))) (g2 : SlS 0 w'.heap.size w' z2 (listL (c.getD k lt0))) => l3Lists_c _ _ _ _ z1 z2 _ _ w' k1 k2 k3 k4 g1 g2)
        have HK := Lib.hid (fun (w' : World) (hb' : Bel wr w') => (⟨hb'.at (Nat.lt_of_lt_of_le hbs' hb.size) d1, hb'.at (Nat.lt_of_lt_of_le hbs' hb.size) d2, hb'.at (Nat.lt_of_lt_of_le hbs' hb.size) d3⟩ : w'.cell? ⟨b, off + k * 3, none⟩ = some (.bool (c.getD k lt0).1) ∧ w'.cell? ⟨b, off + k * 3 + 1, none⟩ = some q1 ∧ w'.cell? ⟨b, off + k * 3 + 2, none⟩ = some q2))
        obtain ⟨a1, e1, f1⟩ := s1.form
        obtain ⟨a2, e2, f2⟩ := s2.form
        obtain ⟨a3, e3, f3⟩ := t1.form
        obtain ⟨a4, e4, f4⟩ := t2.form
        have hstep' := fun h => hstep (.inr h)
        have hbad' := hbad hmk
        clear hstep hbad k1 k2 k3 k4 s1 s2 t1 t2 hmk
        generalize c.getD m lt0 = x at *
        generalize c.getD k lt0 = y at *
        obtain ⟨p, xl, xr⟩ := x
        obtain ⟨q, yl, yr⟩ := y
        simp only at *
        subst f1 f2 f3 f4
        have D3 := Bel.drew0 (wr.alloc (.cells #[.bool p, .slice a1 xl.length e1, .slice a2 xr.length e2] 67))
        have HB0 := (Bel.alloc0 wr (.cells #[.bool p, .slice a1 xl.length e1, .slice a2 xr.length e2] 67)).step D3
        have KB : Hid (∀ w', Bel (wr.alloc (.cells #[.bool p, .slice a1 xl.length e1, .slice a2 xr.length e2] 67)) w' → w'.cell? ⟨wr.heap.size, 0, none⟩ = some (.bool p) ∧ w'.cell? ⟨wr.heap.size, 1, none⟩ = some (.slice a1 xl.length e1) ∧ w'.cell? ⟨wr.heap.size, 2, none⟩ = some (.slice a2 xr.length e2)) := Lib.hid fun w' hb' => ⟨hb'.at (by simp) (by simp [go_sem]), hb'.at (by simp) (by simp [go_sem]), hb'.at (by simp) (by simp [go_sem])⟩
        generalize listL (p, xl, xr) = X at *
        generalize listL (q, yl, yr) = Y at *
        by_cases hr : cmpL X Y = 1
        · have E := Lib.hid (hbad' hr)
          clear hstep' hbad'
          generalize cmpL X Y = r at *
          subst hr
          go_wp2_with fail
          go_region_held3 (fun w' => (w'.cell? ⟨wr.heap.size, 0, none⟩ = some (.bool p) ∧ w'.cell? ⟨wr.heap.size, 1, none⟩ = some (.slice a1 xl.length e1) ∧ w'.cell? ⟨wr.heap.size, 2, none⟩ = some (.slice a2 xr.length e2)) ∧ w'.cell? ⟨b, off + k * 3, none⟩ = some (.bool q) ∧ w'.cell? ⟨b, off + k * 3 + 1, none⟩ = some (.slice a3 yl.length e3) ∧ w'.cell? ⟨b, off + k * 3 + 2, none⟩ = some (.slice a4 yr.length e4))
            (first | exact ⟨KB.out _ (D3.step ((g3.step g4).step g5)), HK.out _ (HB0.step ((g3.step g4).step g5))⟩ | exact ⟨KB.out _ (D3.step (g3.step g4)), HK.out _ (HB0.step (g3.step g4))⟩ | exact ⟨KB.out _ (D3.step g3), HK.out _ (HB0.step g3)⟩ | exact ⟨KB.out _ D3, HK.out _ HB0⟩ | fail)
            (first
              | (go_at_call 80; refine (HM.out _ _ _ R1 R2).mono ?_; rintro e w6 ⟨rfl, g5⟩)
              | (go_at_call 81; refine (HY.out _ HB4).mono ?_; rintro e w5 ⟨z2, n2, o2, rfl, r2, g4⟩; have HB5 := HB4.step g4; have R1 := (r1.bel g4).sls (g3.step g4); have R2 := r2.sls g4)
              | (go_at_call 81; refine (HX.out _ HB4).mono ?_; rintro e w5 ⟨z1, n1, o1, rfl, r1, g4⟩; have HB5 := HB4.step g4; have R2 := (r2.bel g4).sls (g3.step g4); have R1 := r1.sls g4)
              | (go_at_call 81; refine (HX.out _ HB0).mono ?_; rintro e w4 ⟨z1, n1, o1, rfl, r1, g3⟩; have HB4 := HB0.step g3)
              | (go_at_call 81; refine (HY.out _ HB0).mono ?_; rintro e w4 ⟨z2, n2, o2, rfl, r2, g3⟩; have HB4 := HB0.step g3)
              | fail)
          all_goals
            go_wp2_with fail
            go_ret
            exact ⟨by rw [E.out]; rfl, hb.step (HB5.step g5)⟩
        · have E := Lib.hid (hstep' hr)
          clear hstep' hbad'
          generalize cmpL X Y = r at *
          go_wp2_with fail
          go_region_held3 (fun w' => (w'.cell? ⟨wr.heap.size, 0, none⟩ = some (.bool p) ∧ w'.cell? ⟨wr.heap.size, 1, none⟩ = some (.slice a1 xl.length e1) ∧ w'.cell? ⟨wr.heap.size, 2, none⟩ = some (.slice a2 xr.length e2)) ∧ w'.cell? ⟨b, off + k * 3, none⟩ = some (.bool q) ∧ w'.cell? ⟨b, off + k * 3 + 1, none⟩ = some (.slice a3 yl.length e3) ∧ w'.cell? ⟨b, off + k * 3 + 2, none⟩ = some (.slice a4 yr.length e4))
            (first | exact ⟨KB.out _ (D3.step ((g3.step g4).step g5)), HK.out _ (HB0.step ((g3.step g4).step g5))⟩ | exact ⟨KB.out _ (D3.step (g3.step g4)), HK.out _ (HB0.step (g3.step g4))⟩ | exact ⟨KB.out _ (D3.step g3), HK.out _ (HB0.step g3)⟩ | exact ⟨KB.out _ D3, HK.out _ HB0⟩ | fail)
            (first
              | (go_at_call 80; refine (HM.out _ _ _ R1 R2).mono ?_; rintro e w6 ⟨rfl, g5⟩)
              | (go_at_call 81; refine (HY.out _ HB4).mono ?_; rintro e w5 ⟨z2, n2, o2, rfl, r2, g4⟩; have HB5 := HB4.step g4; have R1 := (r1.bel g4).sls (g3.step g4); have R2 := r2.sls g4)
              | (go_at_call 81; refine (HX.out _ HB4).mono ?_; rintro e w5 ⟨z1, n1, o1, rfl, r1, g4⟩; have HB5 := HB4.step g4; have R2 := (r2.bel g4).sls (g3.step g4); have R1 := r1.sls g4)
              | (go_at_call 81; refine (HX.out _ HB0).mono ?_; rintro e w4 ⟨z1, n1, o1, rfl, r1, g3⟩; have HB4 := HB0.step g3)
              | (go_at_call 81; refine (HY.out _ HB0).mono ?_; rintro e w4 ⟨z2, n2, o2, rfl, r2, g3⟩; have HB4 := HB0.step g3)
              | fail)
          all_goals
            go_wp2_with fail
            go_roundw
          case rel => exact ⟨m+1, by omega, by go_num, E.out, hb.step (HB5.step g5)⟩
          case measure => simp [intOf]; omega
    · obtain rfl : m = c.length := by omega
      have E := Lib.hid (maxAt_true hto)
      clear hto
      go_wp2_with fail
      go_ret
      exact ⟨by rw [E.out]; rfl, hb⟩
end Go.Proofs.YtikllmdmifecpaaGreatDoor
end
section
/- Chapter 4, the reference: MaximalIn. -/
namespace Go.Proofs.YtikllmdmifecpaaGreatDoor
open Go.RowKit

def maxUp (c : List Lt) (m : Nat) : List Nat := (List.range m).filter (maxAt c)
theorem maxUp_yes {c : List Lt} {m : Nat} (h : maxAt c m = true) : maxUp c (m+1) = maxUp c m ++ [m] := by unfold maxUp; rw [List.range_succ, List.filter_append]; simp [h]
theorem maxUp_no {c : List Lt} {m : Nat} (h : maxAt c m = false) : maxUp c (m+1) = maxUp c m := by unfold maxUp; rw [List.range_succ, List.filter_append]; simp [h]
theorem maxUp_len (c : List Lt) (m : Nat) : (maxUp c m).length ≤ m := by unfold maxUp; exact Nat.le_trans (List.length_filter_le _ _) (by simp)
theorem okLits_low {ar : List Int} {c : List Lt} (h : okLits ar c = true) : lowC c := fun j hj => by
  have : okLit ar (c.getD j lt0) = true := by
    exact (okLits_iff.1 h).2 _ (mem_getD c lt0 j hj)
  exact ⟨listL_short this, listL_lowL this⟩
/-- What MaximalIn answers. -/
def maxAns (ar : List Int) (c : List Lt) : List Int := if goodClause ar c then natsI (maxC c) else []

theorem l4Maximal_v (l h : Nat) (v : Value) (c : List Lt) (k : Nat) (q : Bool) (w : World) (hq : maxAt c k = q) (hx : shortC c) (hk : k < c.length) (hok : lowC c) (hu : SlC l h w v c) :
    Calls Tryz.prog 73 #[v, .int .i64 k] w (RetV w (.bool q)) := by subst hq; exact l4Maximal_c l h v c k w hx hk hok hu

set_option maxRecDepth 100000 in
set_option maxHeartbeats 1000000 in
theorem sMaximalIn_t {l h l' h' : Nat} {v u : Value} {ar : List Int} {c : List Lt} {w : World} (ha : ar.length ≤ 1048576) (hv : SlI l h w v ar) (hc : sumC c ≤ 1048576) (hu : SlC l' h' w u c) :
    Calls Tryz.prog 38 #[.agg #[v], u] w (RetIB w (maxAns ar c) (goodClause ar c)) := by
  obtain ⟨i0, hi0, hz0, hz1, hz2⟩ := info_parts Tryz.info3
  unfold maxAns
  cases hg : goodClause ar c with
  | false =>
    rw [if_neg (by simp)]
    have HG := Lib.hid hg; clear hg
    go_enter Tryz.func38, Tryz.ntmps38
    go_wp2_with fail
    refine (sGoodClause_v HG.out ha (hv.alloc _) hc (hu.alloc _)).mono ?_; rintro e w1 ⟨rfl, hb1⟩
    go_wp2_with fail
    go_ret2
    exact ⟨_, _, _, rfl, OwnI.nil _ _ _, hb1.of_alloc⟩
  | true =>
    rw [if_pos rfl]
    have hsh := shortC_of_sum hc
    have hlow : lowC c := by unfold goodClause at hg; exact okLits_low (Bool.and_eq_true_iff.1 hg).2
    have HG := Lib.hid hg; clear hg
    have hxl : c.length ≤ 1048576 := hsh.1
    obtain ⟨ad, cap, rfl⟩ := hu.form
    have HS := Lib.hid hsh
    clear hsh
    go_enter Tryz.func38, Tryz.ntmps38
    go_wp2_with fail
    refine (sGoodClause_v HG.out ha (hv.alloc _) hc (hu.alloc _)).mono ?_; rintro e w1 ⟨rfl, hb1⟩
    have hb0 := hb1
    go_wp2_with fail
    go_loopw [6, 14] (fun vs i wr => ∃ m : Nat, m ≤ c.length ∧ i = .int .i64 m ∧ wr.ownsRow (w.heap.size + 1) 3 1 vs (natsI (maxUp c m)).length ((natsI (maxUp c m)).map (Value.int .i64)) ∧ Bel (w.alloc (.cells #[v] 33)) wr) (fun _ i _ => c.length - (intOf i).toNat)
    case atStart => exact ⟨0, Nat.zero_le _, rfl, World.ownsRow_nil _ _ _ _, hb1⟩
    case round =>
      obtain ⟨m, hm, rfl, hown, hb⟩ := hrel
      by_cases hlt : m < c.length
      · have hyes := maxUp_yes (c := c) (m := m)
        have hno := maxUp_no (c := c) (m := m)
        have HC := fun (q : Bool) (hq : maxAt c m = q) => l4Maximal_v _ _ _ c m q wr hq HS.out hlt hlow (hu.below hb.of_alloc)
        have hal : (natsI (maxUp c m)).length ≤ 1048576 := by rw [natsI_len]; have := maxUp_len c m; omega
        cases hq : maxAt c m with
        | false =>
          have HCC := Lib.hid (HC _ hq)
          have E := Lib.hid (hno hq)
          clear hyes hno HC hq
          go_wp2_with fail
          refine HCC.out.mono ?_; rintro e w2 ⟨rfl, hb2⟩
          have hown2 := ownsRow_bel hown hb2
          go_wp2_with fail
          go_roundw
          case rel => exact ⟨m+1, by omega, by go_num, by rw [E.out]; exact hown2, hb.step hb2⟩
          case measure => simp [intOf]; omega
        | true =>
          have HCC := Lib.hid (HC _ hq)
          have E : Hid (natsI (maxUp c (m+1)) = natsI (maxUp c m) ++ [(m : Int)]) := Lib.hid (by rw [hyes hq, natsI_snoc])
          clear hyes hno HC hq
          go_wp2_with fail
          refine HCC.out.mono ?_; rintro e w2 ⟨rfl, hb2⟩
          have hown2 := ownsRow_bel hown hb2
          have hb3 := hb.step hb2
          clear hown hb hb2
          generalize natsI (maxUp c m) = xs at *
          go_wp2_with (at_builtin; refine wpList_append_own _ rfl _ _ 22 rfl (w.heap.size + 1) 3 i0 (.int .i64 0) 1 8 Tryz.underlying22 hi0 hz0 hz1 hz2 rfl (by decide) _ _ _ rfl (hown2.alloc _) ⟨w2.heap.size, 0, none⟩ 1 1 [.int .i64 m] rfl rfl (news_one _ _ _) (one_int _) (by unfold maxLen; omega) (by omega) (by have := hb3.size; simp at *; omega) ?_; intro v' w3 hown' hgrow _)
          have hown3 := row_snoc hown'
          rw [← E.out] at hown3
          exact ⟨⟨m+1, by omega, by go_num, hown3, (hb3.alloc (.cells #[.int .i64 m] 3)).grown hgrow (fun k hk => by have := own_base hown2 k hk; simp; omega)⟩, by simp [intOf]; omega⟩
      · obtain rfl : m = c.length := by omega
        go_wp2_with fail
        obtain ⟨g, n, o, hv'⟩ := own_form hown
        subst hv'
        go_ret2
        exact ⟨_, _, _, rfl, (OwnI.of_row hown).mono (by omega) (Nat.le_refl _), hb.of_alloc⟩
end Go.Proofs.YtikllmdmifecpaaGreatDoor
end
section
/- l2Apply's result as a row of the call's own. -/
namespace Go.Proofs.YtikllmdmifecpaaGreatDoor
open Go.RowKit
set_option maxRecDepth 100000 in
set_option maxHeartbeats 400000 in
theorem l2Apply_r (l h l' h' : Nat) (v u : Value) (b : List (List Int)) (t : List Int) (w : World) (hlen : b.length = 12) (hb : lens40 b) (ht : t.length ≤ 1024) (hlow : ∀ k, k < t.length → -12 ≤ t.getD k 0) (hu : SlS l' h' w u b) (hv : SlI l h w v t) :
    Calls Tryz.prog 98 #[u, v] w (RetR w (appT b t)) := by
  obtain ⟨i0, hi0, hz0, hz1, hz2⟩ := info_parts Tryz.info3
  obtain ⟨ad', cap', rfl⟩ := hu.form
  have HN := Lib.hid hlen; clear hlen
  obtain ⟨ad, cap, rfl, -, -, hr⟩ := hv
  go_enter Tryz.func98, Tryz.ntmps98
  go_wp2_with fail
  go_loopw [5, 10] (fun vs i wr => ∃ k : Nat, k ≤ t.length ∧ i = .int .i64 k ∧ wr.ownsRow w.heap.size 3 1 vs (appT b (t.take k)).length ((appT b (t.take k)).map (Value.int .i64)) ∧ Bel w wr) (fun _ i _ => t.length - (intOf i).toNat)
  case atStart => exact ⟨0, Nat.zero_le _, rfl, World.ownsRow_nil _ _ _ _, Bel.rfl' _⟩
  case round =>
    obtain ⟨k, hk, rfl, hown, hb2⟩ := hrel
    by_cases hlt : k < t.length
    · obtain ⟨bt, offt, rfl, hbl, hcell⟩ := rd hr hb2 k hlt
      have hx12 := hlow k hlt
      have hsucc := appT_succ b t k hlt
      have hal := appT_len hb (t.take k)
      have hal2 : (appT b (t.take k)).length ≤ 40960 := by simp at hal; omega
      have h40 := getD_len40 hb (-1 - t.getD k 0).toNat
      clear hr hlow hal
      generalize t.getD k 0 = x at *
      generalize appT b (t.take k) = acc at *
      generalize hq : appT b (t.take (k+1)) = nxt at *
      by_cases hx : x < 0
      · have hm : (-1 - x).toNat < b.length := by have hN : b.length = 12 := HN.out; omega
        have hi0' : 0 ≤ -1 - x := by omega
        have hi1 : -1 - x < b.length := by have hN : b.length = 12 := HN.out; omega
        obtain ⟨bb, off, p, rfl, -, hc, hp⟩ := hu.at hb2 _ hm
        have hv1 := fun h1 => one1_var (b := b) hx h1
        have hv2 := fun h1 => one1_free (b := b) (n := x) h1
        generalize b.getD (-1 - x).toNat [] = tt at *
        by_cases hpos : 0 < tt.length
        · rw [hv1 hpos] at hsucc
          obtain ⟨pb, po, pc, rfl, hpc⟩ := hp.plain hpos
          have hn := news_of_sl hp
          have HS := Lib.hid (And.intro hq hsucc)
          clear hv1 hv2 hq hsucc
          go_wp2_with (at_builtin; refine wpList_append_own _ rfl _ _ 22 rfl w.heap.size 3 i0 (.int .i64 0) 1 8 Tryz.underlying22 hi0 hz0 hz1 hz2 rfl (by decide) _ _ _ rfl hown ⟨pb, po, none⟩ tt.length pc (tt.map (Value.int .i64)) rfl (by simp) hn (ones_int _) (by unfold maxLen; first | omega | (simp; omega)) (by first | omega | (simp; omega)) (by have := hb2.size; first | omega | (simp; omega)) ?_; intro v' w1 hown' hgrow _)
          have hb3 := hb2.grown hgrow (fun k hk => own_base hown k hk)
          have hown2 := row_app (by simpa using hown')
          go_roundw
          case rel =>
            have e := HS.out.1.trans HS.out.2
            exact ⟨k+1, by omega, by go_num, by rw [HS.out.1, HS.out.2]; exact hown2, hb3⟩
          case measure => simp [intOf]; omega
        · rw [hv2 hpos] at hsucc
          have HS := Lib.hid (And.intro hq hsucc)
          have h0 : tt.length = 0 := by omega
          obtain ⟨ap, cp, rfl⟩ := hp.form
          rw [h0] at hc
          clear hv1 hv2 hp hpos h0 hq hsucc
          go_wp2_with (at_builtin; refine wpList_append_own _ rfl _ _ 22 rfl w.heap.size 3 i0 (.int .i64 0) 1 8 Tryz.underlying22 hi0 hz0 hz1 hz2 rfl (by decide) _ _ _ rfl (hown.alloc _) ⟨wr.heap.size, 0, none⟩ 1 1 [.int .i64 x] rfl rfl (news_one _ _ _) (one_int _) (by unfold maxLen; first | omega | (simp; omega)) (by first | omega | (simp; omega)) (by have := hb2.size; first | omega | (simp; omega)) ?_; intro v' w1 hown' hgrow _; have hb3 := (hb2.alloc (.cells #[.int .i64 x] 3)).grown hgrow (fun k hk => own_base hown k hk); have hown2 := row_snoc hown')
          go_roundw
          case rel => exact ⟨k+1, by omega, by go_num, by rw [HS.out.1, HS.out.2]; exact hown2, hb3⟩
          case measure => simp [intOf]; omega
      · rw [one1_sym hx] at hsucc
        have HS := Lib.hid (And.intro hq hsucc)
        clear hq hsucc
        go_wp2_with (at_builtin; refine wpList_append_own _ rfl _ _ 22 rfl w.heap.size 3 i0 (.int .i64 0) 1 8 Tryz.underlying22 hi0 hz0 hz1 hz2 rfl (by decide) _ _ _ rfl (hown.alloc _) ⟨wr.heap.size, 0, none⟩ 1 1 [.int .i64 x] rfl rfl (news_one _ _ _) (one_int _) (by unfold maxLen; first | omega | (simp; omega)) (by first | omega | (simp; omega)) (by have := hb2.size; first | omega | (simp; omega)) ?_; intro v' w1 hown' hgrow _; have hb3 := (hb2.alloc (.cells #[.int .i64 x] 3)).grown hgrow (fun k hk => own_base hown k hk); have hown2 := row_snoc hown')
        go_roundw
        case rel => exact ⟨k+1, by omega, by go_num, by rw [HS.out.1, HS.out.2]; exact hown2, hb3⟩
        case measure => simp [intOf]; omega
    · have e : t.take k = t := List.take_of_length_le (by omega)
      rw [e] at hown
      go_wp2_with fail
      obtain ⟨g, n, c, hv'⟩ := own_form hown
      subst hv'
      go_ret
      exact ⟨_, _, _, rfl, hown, hb2⟩
end Go.Proofs.YtikllmdmifecpaaGreatDoor
end
section
/- slices.Sort at []int: the library's contract laid at this program (which functions and types stand for which). -/
namespace Go.Proofs.YtikllmdmifecpaaGreatDoor
open Go.Shelf
def sortRen : Go.Shelf.Ren := ⟨fun | 189 => 186 | 125 => 202 | 257 => 201 | 128 => 219 | 129 => 220 | 294 => 210 | 295 => 211 | 296 => 212 | 297 => 213 | 298 => 214 | 299 => 215 | 216 => 216 | 300 => 217 | 301 => 218 | 328 => 222 | 329 => 223 | 330 => 224 | 331 => 225 | 332 => 226 | 215 => 227 | 343 => 228 | n => n, fun | 28 => 22 | 3 => 3 | 46 => 121 | 0 => 0 | 51 => 214 | 53 => 104 | 4 => 4 | 183 => 209 | 182 => 208 | 131 => 64 | 5 => 5 | 9 => 9 | 218 => 218 | 222 => 222 | 228 => 225 | 229 => 226 | n => n, fun n => n⟩
set_option maxRecDepth 100000 in
theorem laysSort : Lays.n189 Tryz.prog sortRen := {
  mixed := by kernel_rfl
  f125 := Tryz.func202.trans (congrArg some (by kernel_rfl))
  f128 := Tryz.func219.trans (congrArg some (by kernel_rfl))
  f129 := Tryz.func220.trans (congrArg some (by kernel_rfl))
  f189 := Tryz.func186.trans (congrArg some (by kernel_rfl))
  f215 := Tryz.func227.trans (congrArg some (by kernel_rfl))
  f216 := Tryz.func216.trans (congrArg some (by kernel_rfl))
  f257 := Tryz.func201.trans (congrArg some (by kernel_rfl))
  f294 := Tryz.func210.trans (congrArg some (by kernel_rfl))
  f295 := Tryz.func211.trans (congrArg some (by kernel_rfl))
  f296 := Tryz.func212.trans (congrArg some (by kernel_rfl))
  f297 := Tryz.func213.trans (congrArg some (by kernel_rfl))
  f298 := Tryz.func214.trans (congrArg some (by kernel_rfl))
  f299 := Tryz.func215.trans (congrArg some (by kernel_rfl))
  f300 := Tryz.func217.trans (congrArg some (by kernel_rfl))
  f301 := Tryz.func218.trans (congrArg some (by kernel_rfl))
  f328 := Tryz.func222.trans (congrArg some (by kernel_rfl))
  f329 := Tryz.func223.trans (congrArg some (by kernel_rfl))
  f330 := Tryz.func224.trans (congrArg some (by kernel_rfl))
  f331 := Tryz.func225.trans (congrArg some (by kernel_rfl))
  f332 := Tryz.func226.trans (congrArg some (by kernel_rfl))
  f343 := Tryz.func228.trans (congrArg some (by kernel_rfl))
  t0 := Tryz.underlying0
  a0 := fun w => by kernel_rfl
  z0 := fun w => by kernel_rfl
  v0 := fun w => by kernel_rfl
  t3 := Tryz.underlying3
  a3 := fun w => by kernel_rfl
  z3 := fun w => by kernel_rfl
  v3 := fun w => by kernel_rfl
  t4 := Tryz.underlying4
  a4 := fun w => by kernel_rfl
  z4 := fun w => by kernel_rfl
  v4 := fun w => by kernel_rfl
  t5 := Tryz.underlying5
  a5 := fun w => by kernel_rfl
  z5 := fun w => by kernel_rfl
  v5 := fun w => by kernel_rfl
  t9 := Tryz.underlying9
  a9 := fun w => by kernel_rfl
  z9 := fun w => by kernel_rfl
  v9 := fun w => by kernel_rfl
  t28 := Tryz.underlying22
  a28 := fun w => by kernel_rfl
  z28 := fun w => by kernel_rfl
  v28 := fun w => by kernel_rfl
  t46 := Tryz.underlying121
  a46 := fun w => by kernel_rfl
  z46 := fun w => by kernel_rfl
  v46 := fun w => by kernel_rfl
  t51 := Tryz.underlying214
  a51 := fun w => by kernel_rfl
  z51 := fun w => by kernel_rfl
  v51 := fun w => by kernel_rfl
  t53 := Tryz.underlying104
  a53 := fun w => by kernel_rfl
  z53 := fun w => by kernel_rfl
  v53 := fun w => by kernel_rfl
  t131 := Tryz.underlying64
  a131 := fun w => by kernel_rfl
  z131 := fun w => by kernel_rfl
  v131 := fun w => by kernel_rfl
  t182 := Tryz.underlying208
  a182 := fun w => by kernel_rfl
  z182 := fun w => by kernel_rfl
  v182 := fun w => by kernel_rfl
  t183 := Tryz.underlying209
  a183 := fun w => by kernel_rfl
  z183 := fun w => by kernel_rfl
  v183 := fun w => by kernel_rfl
  t218 := Tryz.underlying218
  a218 := fun w => by kernel_rfl
  z218 := fun w => by kernel_rfl
  v218 := fun w => by kernel_rfl
  t222 := Tryz.underlying222
  a222 := fun w => by kernel_rfl
  z222 := fun w => by kernel_rfl
  v222 := fun w => by kernel_rfl
  t228 := Tryz.underlying225
  a228 := fun w => by kernel_rfl
  z228 := fun w => by kernel_rfl
  v228 := fun w => by kernel_rfl
  t229 := Tryz.underlying226
  a229 := fun w => by kernel_rfl
  z229 := fun w => by kernel_rfl
  v229 := fun w => by kernel_rfl }
end Go.Proofs.YtikllmdmifecpaaGreatDoor
end
section
/- Maps from variables to terms: what they hold, by variable; the library's sort; the variables of a map. -/
namespace Go.Proofs.YtikllmdmifecpaaGreatDoor
open Go.RowKit Go.Maps

/-- The library's sort, on a row of the call's own: some order of the same numbers. -/
theorem sort_t {base : Nat} {tag : Nat → Nat} {t : Nat} {w : World} {v : Value} {xs : List Int} (h : OwnT base tag t 3 w v (xs.map (Value.int .i64))) (hl : xs.length ≤ 1000) :
    Calls Tryz.prog 186 #[v] w fun e w' => e = .returned (.tuple #[]) ∧ ∃ ys : List Int, ys.Perm xs ∧ OwnT base tag t 3 w' v (ys.map (Value.int .i64)) ∧ w.grownBy w' v.ownBlock := by
  rcases h.1.2 with ⟨rfl, h0⟩ | ⟨g, cap, cur, rfl, hb, hh, hn, hc, hs, ht⟩
  · refine (Any.slices_Sort_int_none laysSort none 0 w).mono ?_
    rintro e w' ⟨rfl, rfl⟩
    exact ⟨rfl, xs, List.Perm.refl _, h, ⟨rfl, rfl, rfl, Nat.le_refl _, fun _ _ _ => rfl⟩⟩
  · rw [List.length_map] at hn ht
    rw [List.length_map]
    have hc2 := Any.slices_Sort_int laysSort g 0 cap xs w (holds_of_blockI hh (by simpa using ht)) (Array.getElem?_eq_some_iff.1 hh).1 (by omega)
    refine hc2.mono ?_
    rintro e w' ⟨rfl, n, os, rfl⟩
    have hlen : (xs.mergeSort fun x y => decide (x ≤ y)).length = xs.length := List.length_mergeSort _
    refine ⟨rfl, xs.mergeSort fun x y => decide (x ≤ y), List.mergeSort_perm _ _, ⟨?_, h.2⟩, grownBy_sortedI _⟩
    · have := ownsRow_sortedI (n := n) (os := os) (ts := xs.mergeSort fun x y => decide (x ≤ y)) hlen hb hh hn hc hs
      rw [List.length_map, hlen]
      exact this

/-- An element reads as itself. -/
def rawE : Value → Option (DataW Value × List MemPlace) := fun v => some (.held v, [])
theorem keyInt : Keyed Tryz.prog 3 := int_keyed Tryz.underlying3
abbrev kv (v : Nat) : Lit := .int .i64 v
theorem kv_inj {u v : Nat} (h : kv u = kv v) : u = v := by simp [kv] at h; omega
theorem kv_ne {u v : Nat} (h : u ≠ v) : kv u ≠ kv v := fun e => h (kv_inj e)
theorem kv_wf {v : Nat} (h : v < 12) : (Lit.int .i64 (v : Int)).wf = true := by
  simp only [Lit.wf, Bool.and_eq_true, decide_eq_true_eq]
  have h1 : IntKind.i64.min = -9223372036854775808 := rfl
  have h2 : IntKind.i64.max = 9223372036854775807 := rfl
  omega
theorem kv_key {v : Nat} (h : v < 12) : keyOf Tryz.prog 3 (.int .i64 (v : Int)) = some (kv v) := keyOf_int_mk Tryz.underlying3 (kv_wf h)
theorem kv_lit {v : Nat} (h : v < 12) : WideAt.IsKeyLit (kv v) := keyInt.key (kv_key h)
theorem zeroI (w : World) : (zeroValue 22).run Tryz.prog w = .ok (.slice none 0 0) w := by kernel_rfl
/-- The datum D holds f at the twelve variables, and nothing else. -/
structure KeyAt (D : DataW Value) (f : Nat → Option Value) : Prop where
  has : ∀ v, v < 12 → Maps.has D (kv v) = (f v).isSome
  at' : ∀ v u, v < 12 → f v = some u → ∀ z, D.atKey (kv v) z = .held u
  only : ∀ kl, Maps.has D kl = true → ∃ v, v < 12 ∧ kl = kv v
theorem KeyAt.empty : KeyAt (.map []) (fun _ => none) := ⟨fun _ _ => rfl, fun _ _ _ h => by simp at h, fun kl h => by simp [Maps.has] at h⟩
theorem KeyAt.put {D : DataW Value} {f : Nat → Option Value} (h : KeyAt D f) (hD : IsMap D) {v : Nat} (hv : v < 12) (u : Value) : KeyAt (D.put (kv v) (.held u)) (fun i => if i = v then some u else f i) := by
  refine ⟨fun i hi => ?_, fun i x hi hx z => ?_, fun kl hk => ?_⟩
  · by_cases e : i = v
    · subst e; rw [has_put_same hD (kv_lit hi)]; simp
    · rw [has_put_other (kv_ne e), h.has i hi]; simp [e]
  · by_cases e : i = v
    · subst e
      simp only [if_true, Option.some.injEq] at hx
      subst hx
      exact atKey_put_same hD (kv_lit hi) _ _
    · simp only [e, if_false] at hx
      rw [atKey_put_other (kv_ne e)]; exact h.at' i x hi hx z
  · by_cases e : kl = kv v
    · exact ⟨v, hv, e⟩
    · rw [has_put_other e] at hk; exact h.only kl hk
theorem KeyAt.del {D : DataW Value} {f : Nat → Option Value} (h : KeyAt D f) (v : Nat) : KeyAt (D.del (kv v)) (fun i => if i = v then none else f i) := by
  refine ⟨fun i hi => ?_, fun i x hi hx z => ?_, fun kl hk => ?_⟩
  · by_cases e : i = v
    · subst e; rw [has_del_same]; simp
    · rw [has_del_other (kv_ne e), h.has i hi]; simp [e]
  · by_cases e : i = v
    · subst e; simp at hx
    · simp only [e, if_false] at hx
      rw [atKey_del_other (kv_ne e)]; exact h.at' i x hi hx z
  · by_cases e : kl = kv v
    · subst e; rw [has_del_same] at hk; simp at hk
    · rw [has_del_other e] at hk; exact h.only kl hk
theorem KeyAt.at0 {D : DataW Value} {f : Nat → Option Value} (h : KeyAt D f) {v : Nat} (hv : v < 12) : D.atKey (kv v) (.held (.slice none 0 0)) = .held ((f v).getD (.slice none 0 0)) := by
  cases e : f v with
  | none => exact atKey_of_not_has (by rw [h.has v hv, e]; rfl) _
  | some u => exact h.at' v u hv e _

/-- Block b is a map that holds f; at most m stores went into it. -/
def MapV (w : World) (b m : Nat) (f : Nat → Option Value) : Prop := ∃ n D, n ≤ m ∧ w.ownsMap Tryz.prog 3 rawE b n D ∧ KeyAt D f
theorem MapV.made (w : World) : MapV (w.alloc (.map #[] 0)) w.heap.size 0 (fun _ => none) := ⟨0, .map [], Nat.le_refl _, World.ownsMap_made _ _ _ _, KeyAt.empty⟩
theorem MapV.kept {w w' : World} {b m : Nat} {f : Nat → Option Value} {row : Option Nat} (h : MapV w b m f) (hg : w.grownBy w' row) (hne : some b ≠ row) : MapV w' b m f := by
  obtain ⟨n, D, hn, ho, hk⟩ := h
  exact ⟨n, D, hn, ho.kept hg hne, hk⟩
theorem grown_of_bel {w w' : World} (h : Bel w w') : w.grownBy w' none := ⟨h.os, h.tape, h.output, h.size, fun k hk _ => h.block k hk⟩
theorem MapV.bel {w w' : World} {b m : Nat} {f : Nat → Option Value} (h : MapV w b m f) (hb : Bel w w') : MapV w' b m f := h.kept (grown_of_bel hb) (by simp)
theorem MapV.lt {w : World} {b m : Nat} {f : Nat → Option Value} (h : MapV w b m f) : b < w.heap.size := by obtain ⟨n, D, _, ho, _⟩ := h; exact ho.lt
theorem MapV.mono {w : World} {b m m' : Nat} {f : Nat → Option Value} (h : MapV w b m f) (hm : m ≤ m') : MapV w b m' f := by obtain ⟨n, D, hn, ho, hk⟩ := h; exact ⟨n, D, by omega, ho, hk⟩
theorem MapV.look {w : World} {b m : Nat} {f : Nat → Option Value} (h : MapV w b m f) {v : Nat} (hv : v < 12) :
    (Instr.lookup 174 (.map (some b)) (.int .i64 (v : Int)) false).run Tryz.prog w = .ok ((f v).getD (.slice none 0 0)) w := by
  obtain ⟨n, D, hn, ho, hk⟩ := h
  obtain ⟨u, ps, hrun, hR⟩ := ho.lookup keyInt Tryz.underlying174 (zeroI w) (zd := .held (.slice none 0 0)) (zp := []) rfl (kv_key hv)
  rw [hk.at0 hv] at hR
  simp only [rawE, Option.some.injEq, Prod.mk.injEq, DataW.held.injEq] at hR
  rw [hrun, hR.1]
theorem MapV.lookOk {w : World} {b m : Nat} {f : Nat → Option Value} (h : MapV w b m f) {v : Nat} (hv : v < 12) :
    (Instr.lookup 174 (.map (some b)) (.int .i64 (v : Int)) true).run Tryz.prog w = .ok (.tuple #[(f v).getD (.slice none 0 0), .bool (f v).isSome]) w := by
  obtain ⟨n, D, hn, ho, hk⟩ := h
  obtain ⟨u, ps, hrun, hR⟩ := ho.look_ok keyInt Tryz.underlying174 (zeroI w) (zd := .held (.slice none 0 0)) (zp := []) rfl (kv_key hv)
  rw [hk.at0 hv] at hR
  simp only [rawE, Option.some.injEq, Prod.mk.injEq, DataW.held.injEq] at hR
  rw [hrun, hR.1, hk.has v hv]

theorem same_kv (u v : Nat) : (kv u).sameKey (kv v) = decide (u = v) := by
  by_cases h : u = v
  · subst h
    have : (kv u).sameKey (kv u) = true := by simp [Lit.sameKey]
    simpa using this
  · rw [sameKey_ne (kv_ne h)]; simp [h]
def castL (l : List Nat) : List Int := l.map fun (n : Nat) => (n : Int)
theorem castL_snoc (l : List Nat) (v : Nat) : castL (l ++ [v]) = castL l ++ [(v : Int)] := by simp [castL]
theorem mem_castL {l : List Nat} {x : Int} : x ∈ castL l ↔ ∃ v ∈ l, (v : Int) = x := by simp [castL]
theorem lenN : ∀ (n : Nat) (l : List Nat), l.Nodup → (∀ v ∈ l, v < n) → l.length ≤ n := by
  intro n
  induction n with
  | zero =>
    intro l _ h
    cases l with
    | nil => simp
    | cons x r => exact absurd (h x List.mem_cons_self) (by omega)
  | succ n ih =>
    intro l hd h
    by_cases hm : n ∈ l
    · have := ih (l.erase n) (hd.erase n) (fun v hv => by
        have h1 := (List.Nodup.mem_erase_iff hd).1 hv
        have := h v h1.2
        omega)
      rw [List.length_erase_of_mem hm] at this
      omega
    · have := ih l hd (fun v hv => by
        have := h v hv
        have : v ≠ n := fun e => hm (e ▸ hv)
        omega)
      omega
/-- Twelve at most. -/
theorem len12 {l : List Nat} (h : l.Nodup) (h12 : ∀ v ∈ l, v < 12) : l.length ≤ 12 := lenN 12 l h h12
end Go.Proofs.YtikllmdmifecpaaGreatDoor
end
section
/- The variables of a map of bindings. -/
namespace Go.Proofs.YtikllmdmifecpaaGreatDoor
open Go.RowKit Go.Maps

/-- The collected ones, while the loop is under way. -/
structure Coll (D : DataW Value) (left : Lit → Bool) (acc : List Nat) : Prop where
  nodup : acc.Nodup
  mem : ∀ v, v ∈ acc ↔ v < 12 ∧ Maps.has D (kv v) = true ∧ left (kv v) = false
  sub : ∀ kl, left kl = true → Maps.has D kl = true
theorem Coll.start (D : DataW Value) : Coll D (Maps.has D) [] := ⟨List.nodup_nil, fun v => by simp, fun _ h => h⟩
theorem Coll.step {D : DataW Value} {left : Lit → Bool} {acc : List Nat} {v : Nat} (h : Coll D left acc) (hv : v < 12) (hl : left (kv v) = true) : Coll D (fun z => left z && !z.sameKey (kv v)) (acc ++ [v]) := by
  refine ⟨?_, fun u => ?_, fun kl hk => h.sub kl (by simp at hk; exact hk.1)⟩
  · rw [List.nodup_append]
    refine ⟨h.nodup, by simp, fun a ha b hb => ?_⟩
    simp at hb
    subst hb
    intro e
    subst e
    have := ((h.mem a).1 ha).2.2
    rw [hl] at this; simp at this
  · rw [List.mem_append, List.mem_singleton, h.mem u]
    simp only [same_kv]
    by_cases e : u = v
    · subst e; simp [hv, h.sub _ hl]
    · simp [e]
def RetVars (f : Nat → Option Value) (w : World) (e : Ending) (w' : World) : Prop :=
  ∃ ad n c, ∃ ys : List Int, e = .returned (.slice ad n c) ∧ OwnI w.heap.size w'.heap.size w' (.slice ad n c) ys ∧ ys.length ≤ 12 ∧ ys.Nodup ∧ (∀ y ∈ ys, ∃ v : Nat, v < 12 ∧ y = v) ∧ (∀ v : Nat, v < 12 → ((v : Int) ∈ ys ↔ (f v).isSome = true)) ∧ Bel w w'

set_option maxRecDepth 100000 in
set_option maxHeartbeats 400000 in
theorem vars_c (b m : Nat) (f : Nat → Option Value) (w : World) (h : MapV w b m f) :
    Calls Tryz.prog 160 #[.map (some b)] w (RetVars f w) := by
  obtain ⟨n, D, hn, hown, hK⟩ := h
  obtain ⟨i0, hi0, hz0, hz1, hz2⟩ := info_parts Tryz.info3
  have hbl := hown.lt
  go_enter Tryz.func160, Tryz.ntmps160
  go_wp2_with (first
    | (at_range; refine wpList_range_own _ rfl _ 174 rfl 3 22 keyInt Tryz.underlying174 _ b n _ rfl hown ?_; intro w0 hrg0 hg0 hs0)
    | go_in)
  go_frame
  have hb0 : Bel w w0 := (Bel.rfl' w).grown hg0 (by simp)
  go_loopw [3] (fun vs wr => ∃ (left : Lit → Bool) (cnt : Nat) (acc : List Nat), wr.ranges Tryz.prog 3 rawE b w.heap.size n D left cnt ∧ OwnT (w.heap.size + 1) (fun _ => 0) 0 3 wr vs ((castL acc).map (Value.int .i64)) ∧ Coll D left acc ∧ w.heap.size + 1 ≤ wr.heap.size ∧ Bel w wr)
    (fun _ wr => wr.rangeLeft b w.heap.size)
  case atStart => exact ⟨_, _, [], hrg0, OwnT.nil _ _ _ _ _, Coll.start D, by omega, hb0⟩
  case round =>
    obtain ⟨left, cnt, acc, hrg, hA, hC, hsz, hb⟩ := hrel
    have hacc12 := len12 hC.nodup (fun v hv => ((hC.mem v).1 hv).1)
    go_wp2_with (first
      | (at_next; refine wpList_next_ranges _ rfl _ rfl 3 keyInt rawE (Value.int .i64) id (fun key kl hk => by obtain ⟨x, hx, _⟩ := Maps.keyOf_int_inv Tryz.underlying3 hk; exact ⟨x, hx⟩) (fun v y _ => ⟨v, rfl⟩) b w.heap.size n _ _ _ rfl hrg ?_ ?_)
      | go_in)
    · intro hc0 hl0
      obtain ⟨am, nm, cm, rfl⟩ := own_form hA.1
      have hmem : ∀ v : Nat, v < 12 → (v ∈ acc ↔ (f v).isSome = true) := fun v hv => by rw [hC.mem v, hK.has v hv, hl0]; simp [hv]
      have hnd := hC.nodup
      have hm12 : ∀ v ∈ acc, v < 12 := fun v hv => ((hC.mem v).1 hv).1
      have HC := Lib.hid (And.intro hmem (And.intro hnd hm12))
      have HS := Lib.hid (sort_t hA (by simp [castL]; omega))
      clear hmem hnd hm12 hC hK hl0
      go_wp2_with (go_at_call 186; refine HS.out.mono ?_; rintro e w2 ⟨rfl, ys, hperm, hO, hg⟩)
      go_ret
      obtain ⟨hmem, hnd, hm12⟩ := HC.out
      have hb2 : Bel w w2 := hb.grown hg (fun k hk => by have := own_base hA.1 k hk; omega)
      refine ⟨am, nm, cm, ys, rfl, (OwnI.of_row (by simpa using hO.1)).mono (by omega) (Nat.le_refl _), ?_, ?_, ?_, ?_, hb2⟩
      · rw [hperm.length_eq]; simpa [castL] using hacc12
      · rw [hperm.nodup_iff]
        show List.Pairwise (· ≠ ·) (acc.map fun (n : Nat) => (n : Int))
        exact List.Pairwise.map _ (fun a b hab e => hab (by have e2 : (a : Int) = (b : Int) := e; omega)) hnd
      · intro y hy
        obtain ⟨v, hv, rfl⟩ := mem_castL.1 (hperm.mem_iff.1 hy)
        exact ⟨v, hm12 v hv, rfl⟩
      · intro v hv
        rw [hperm.mem_iff, mem_castL, ← hmem v hv]
        constructor
        · rintro ⟨u, hu, e⟩
          obtain rfl : u = v := by omega
          exact hu
        · intro h; exact ⟨v, h, rfl⟩
    · intro x c kl yd yp w1 cnt1 hkey hlk hv hat hrg1 hlt hg1 hs1 hen
      obtain ⟨x', ex, rfl, -⟩ := Maps.keyOf_int_inv Tryz.underlying3 hkey
      cases ex
      obtain ⟨v, hv12, e⟩ := hK.only _ (hC.sub _ hlk)
      simp only [Lit.int.injEq, true_and] at e
      subst e
      have hC1 := Lib.hid (hC.step hv12 hlk)
      have hA1 : OwnT (w.heap.size + 1) (fun _ => 0) 0 3 w1 u3 ((castL acc).map (Value.int .i64)) := ⟨hA.1.kept hg1 (by
        cases hu : u3.ownBlock with
        | none => exact .inl rfl
        | some g => right; intro e; have := own_base hA.1 g hu; simp at e; omega), hA.2⟩
      have hb1 : Bel w w1 := hb.grown hg1 (fun k hk => by cases hk; exact Nat.le_refl _)
      have hcl : (castL acc).length ≤ 12 := by simpa [castL] using hacc12
      have HL := Lib.hid (And.intro hlt (And.intro hrg hs1))
      clear hC hA hkey hlk hat hg1 hlt hrg hs1 hK hown hrg0 hg0 hb0 hs0
      go_wp2_with (at_builtin; refine wpList_append_own_at _ rfl _ _ 22 rfl (w.heap.size + 1) 3 i0 (.int .i64 0) 1 8 Tryz.underlying22 hi0 hz0 hz1 hz2 rfl (by decide) _ _ _ rfl (hA1.alloc _).1 _ _ _ [.int .i64 (v : Int)] rfl rfl (news_one _ _ _) (one_int _) (by unfold maxLen; simp only [List.length_map]; omega) (by simp only [List.length_map]; omega) (by have := hb1.size; simp; omega) ?_; intro v' w2 hown' hgrow _ hat)
      have hA2 : OwnT (w.heap.size + 1) (fun _ => 0) 0 3 w2 v' ((castL (acc ++ [v])).map (Value.int .i64)) := ⟨by rw [castL_snoc]; simpa using hown', fun _ _ => rfl⟩
      have hne : ∀ k, u3.ownBlock = some k → w.heap.size + 1 ≤ k := own_base hA1.1
      have hrg2 := (hrg1.alloc (.cells #[.int .i64 (v : Int)] 3)).kept hgrow (fun e => by have := hne b e.symm; omega) (fun e => by have := hne w.heap.size e.symm; omega)
      have hb2 := hb1.grownT hA1 (by omega) hgrow
      go_roundw
      case rel => exact ⟨_, cnt1, acc ++ [v], hrg2, hA2, hC1.out, by have := hgrow.size; simp at this; have := HL.out.2.2; omega, hb2⟩
      case measure => rw [hrg2.left_eq, HL.out.2.1.left_eq]; exact HL.out.1
end Go.Proofs.YtikllmdmifecpaaGreatDoor
end
section
/- A map of bindings as a substitution. -/
namespace Go.Proofs.YtikllmdmifecpaaGreatDoor
open Go.RowKit Go.Maps

/-- A slice does not lie in a map's block. -/
theorem SlI.chgMap {lo hi : Nat} {w w' : World} {v : Value} {xs : List Int} {b m : Nat} {f : Nat → Option Value} (h : SlI lo hi w v xs) (hM : MapV w b m f) (k : Chg b (b+1) w w') : SlI lo hi w' v xs := by
  obtain ⟨ad, cap, rfl, hc, hm, hr⟩ := h
  refine ⟨ad, cap, rfl, hc, hm, fun hp => ?_⟩
  obtain ⟨b0, off, e, a1, a2, a3⟩ := hr hp
  have hne : b0 ≠ b := by
    intro e0
    subst e0
    obtain ⟨n, D, _, ⟨es, clock, hb, _⟩, _⟩ := hM
    have := a3 0 hp
    simp [World.cell?, hb] at this
  exact ⟨b0, off, e, a1, a2, fun j hj => k.cell (World.block_lt_of_cell? w ⟨b0, off + j, none⟩ (a3 j hj)) (by omega) (a3 j hj)⟩
theorem MapV.row_ne {w : World} {b m : Nat} {f : Nat → Option Value} (h : MapV w b m f) {base : Nat} {tag : Nat → Nat} {t : Nat} {e : TypeId} {v : Value} {xs : List Value} (ho : OwnT base tag t e w v xs) (hb : b < base) : some b ≠ v.ownBlock := by
  intro e
  have := own_base ho.1 b e.symm
  omega
theorem OwnT.chgMap {w w' : World} {b : Nat} {base : Nat} {tag : Nat → Nat} {t : Nat} {e : TypeId} {v : Value} {xs : List Value} (ho : OwnT base tag t e w v xs) (hb : b < base) (k : Chg b (b+1) w w') : OwnT base tag t e w' v xs := by
  refine ⟨⟨ho.1.1, ?_⟩, ho.2⟩
  rcases ho.1.2 with h0 | ⟨g, cap, cur, e1, e2, hh, r⟩
  · exact .inl h0
  · exact .inr ⟨g, cap, cur, e1, e2, by rw [k.block g (Array.getElem?_eq_some_iff.1 hh).1 (by omega)]; exact hh, r⟩
theorem chg_of_grown {w w' : World} {b : Nat} (h : w.grownBy w' (some b)) : Chg b (b+1) w w' := ⟨h.os, h.tape, h.output, h.size, fun k hk ho => h.block k hk (by simp; omega)⟩
/-- A new row at index v, where there was none. -/
theorem InT.put {base : Nat} {tag tag' : Nat → Nat} {ei : TypeId} {w w' : World} {us : List Value} {xss : List (List Int)} {u : Value} {xs : List Int} (h : InT base tag ei w us xss) (v : Nat) (hv : v < us.length)
    (hall : ∀ t' e' u zs, OwnT base tag t' e' w u zs → OwnT base tag' t' e' w' u zs) (hu : OwnT base tag' (10 + v) ei w' u (xs.map (Value.int .i64))) : InT base tag' ei w' (us.set v u) (xss.set v xs) := by
  refine ⟨by simp [h.1], fun j x hj => ?_⟩
  by_cases e : j = v
  · subst e
    rw [List.getElem?_set_self hv] at hj
    simp at hj
    subst hj
    rw [show (xss.set j xs).getD j [] = xs from by simp [List.getD, show j < xss.length by rw [← h.1]; exact hv]]
    exact hu
  · rw [List.getElem?_set_ne (Ne.symm e)] at hj
    rw [show (xss.set v xs).getD j [] = xss.getD j [] from by simp [List.getD, List.getElem?_set_ne (Ne.symm e)]]
    exact hall _ _ _ _ (h.2 j x hj)

theorem getD_rep (n j : Nat) : (List.replicate n ([] : List Int)).getD j [] = [] := by simp only [List.getD, List.getElem?_replicate]; split <;> rfl
theorem Chg.setNew {lo hi : Nat} {w w' : World} (h : Chg lo hi w w') {p : Addr} (hp : w.heap.size ≤ p.block) (u : Value) : Chg lo hi w (w'.setCell p u) :=
  ⟨h.os, h.tape, h.output, by simpa using h.size, fun b hb ho => (Below.heap_setCell w' p u b (by omega)).trans (h.block b hb ho)⟩
theorem MapV.set {w : World} {b m : Nat} {f : Nat → Option Value} (h : MapV w b m f) {p : Addr} (hp : b ≠ p.block) (u : Value) : MapV (w.setCell p u) b m f := by
  obtain ⟨n, D, hn, ho, hk⟩ := h
  exact ⟨n, D, hn, ho.setCell hp u, hk⟩
theorem SlI.lit {w : World} (x : Int) (T : TypeId) : SlI w.heap.size (w.heap.size + 1) (w.alloc (.cells #[.int .i64 x] T)) (.slice (some ⟨w.heap.size, 0, none⟩) 1 1) [x] := by
  refine ⟨_, 1, rfl, Nat.le_refl _, ⟨by unfold maxLen; omega, fun h => by simp at h⟩, fun _ => ⟨w.heap.size, 0, rfl, Nat.le_refl _, Nat.lt_succ_self _, fun j hj => ?_⟩⟩
  obtain rfl : j = 0 := by simp at hj; omega
  rw [World.cell?_alloc_new w]; rfl
/-- What a substitution holds for v. -/
def stayF (F : Nat → List Int) (v : Nat) : List Int := if F v = [-1 - (v : Int)] then [] else F v
def substL (F : Nat → List Int) : List (List Int) := (List.range 12).map (stayF F)
/-- .. after some of the variables. -/
def partL (F : Nat → List Int) (ys : List Int) : List (List Int) := (List.range 12).map fun (v : Nat) => if (v : Int) ∈ ys then stayF F v else []
theorem partL_nil (F : Nat → List Int) : partL F [] = List.replicate 12 [] := by simp [partL, List.range_succ, List.replicate]
theorem partL_len (F : Nat → List Int) (ys : List Int) : (partL F ys).length = 12 := by simp [partL]
theorem partL_snoc (F : Nat → List Int) (ys : List Int) (v : Nat) (hv : v < 12) : (partL F ys).set v (stayF F v) = partL F (ys ++ [(v : Int)]) := by
  apply List.ext_getElem?
  intro i
  rw [List.getElem?_set]
  unfold partL
  by_cases e : v = i
  · subst e; simp [hv]
  · by_cases hi : i < 12
    · have h1 : (List.range 12)[i]? = some i := by simp [hi]
      have e2 : ¬ (i : Int) = (v : Int) := by omega
      rw [if_neg e, List.getElem?_map, List.getElem?_map, h1]
      simp only [Option.map_some, List.mem_append, List.mem_singleton, e2, or_false]
    · rw [if_neg e, List.getElem?_eq_none (by simp; omega), List.getElem?_eq_none (by simp; omega)]
theorem partL_all (F : Nat → List Int) (ys : List Int) (h : ∀ v : Nat, v < 12 → (v : Int) ∉ ys → F v = []) : partL F ys = substL F := by
  unfold partL substL
  apply List.map_congr_left
  intro v hv
  rw [List.mem_range] at hv
  by_cases hm : (v : Int) ∈ ys
  · rw [if_pos hm]
  · rw [if_neg hm]; unfold stayF; rw [h v hv hm]; simp
def RetSub (F : Nat → List Int) (b : Nat) (w : World) (e : Ending) (w' : World) : Prop :=
  ∃ ad n c, e = .returned (.slice ad n c) ∧ OwnS w.heap.size w'.heap.size w' (.slice ad n c) (substL F) ∧ Chg b (b+1) w w'

set_option maxRecDepth 100000 in
set_option maxHeartbeats 1000000 in
theorem subst_c (b m : Nat) (f : Nat → Option Value) (F : Nat → List Int) (w : World) (hM : MapV w b m f) (hF : ∀ v, v < 12 → (F v).length ≤ 1048576 ∧ ∃ lo hi, SlI lo hi w ((f v).getD (.slice none 0 0)) (F v)) :
    Calls Tryz.prog 161 #[.map (some b)] w (RetSub F b w) := by
  obtain ⟨i0, hi, hz0, hz1, hz2⟩ := info_parts Tryz.info22
  have hbl := hM.lt
  go_enter Tryz.func161, Tryz.ntmps161
  go_wp2_with (at_make; refine wpList_make_full _ rfl _ _ 70 rfl w.heap.size 22 i0 (.slice none 0 0) 1 Tryz.underlying70 hi hz0 hz1 _ _ _ _ 12 rfl rfl rfl rfl (by rw [hz2]; omega) (by unfold maxLen; omega) (Nat.le_refl _) ?_; intro w1 hown hg)
  have hb0 : Bel w w1 := (Bel.rfl' w).grown hg (by simp)
  have hO1 : OwnT w.heap.size (fun _ => 2) 2 22 w1 (.slice (some ⟨w.heap.size, 0, none⟩) 12 12) (List.replicate 12 (Value.slice none 0 0)) := by
    refine ⟨?_, fun _ _ => rfl⟩
    have hz3 : (madeCells (Value.slice none 0 0).cells (12 * 1)).toList = List.replicate 12 (Value.slice none 0 0) := by
      rw [Nat.mul_one]; show (madeCells #[_] _).toList = _; rw [toList_madeCells_one]
    rw [hz3] at hown
    simpa using hown
  have hs1 : w.heap.size < w1.heap.size := hO1.lt rfl
  clear hown hg
  refine (vars_c b m f w1 (hM.bel hb0)).mono ?_; rintro e w2 ⟨ay, ny, cy, ys, rfl, hY, hy12, hnd, hyv, hys, hb1⟩
  have hny : ny = ys.length := by obtain ⟨ad, c, e, _⟩ := hY.sl; simp at e; exact e.2.1
  subst hny
  have hsw := (hb0.step hb1).size
  have hI0 : InT w.heap.size (fun _ => 2) 3 w2 (List.replicate 12 (Value.slice none 0 0)) (partL F []) := by
    rw [partL_nil]
    refine ⟨by simp, fun j u hj => ?_⟩
    have hlt := (List.getElem?_eq_some_iff.1 hj).1
    rw [List.getElem?_replicate, if_pos (by simpa using hlt)] at hj
    simp at hj
    subst hj
    rw [getD_rep]
    exact OwnT.nil _ _ _ _ _
  go_wp2_with fail
  go_loopw [10] (fun i wr => ∃ (k : Nat) (tag : Nat → Nat) (us : List Value) (f' : Nat → Option Value), k ≤ ys.length ∧ i = .int .i64 k ∧ us.length = 12 ∧ OwnT w.heap.size tag 2 22 wr (.slice (some ⟨w.heap.size, 0, none⟩) 12 12) us ∧ InT w.heap.size tag 3 wr us (partL F (ys.take k)) ∧
      MapV wr b m f' ∧ (∀ v : Nat, v < 12 → (v : Int) ∉ ys.take k → f' v = f v) ∧ Chg b (b+1) w wr ∧ SlI w1.heap.size w2.heap.size wr (.slice ay ys.length cy) ys ∧ w2.heap.size ≤ wr.heap.size) (fun i _ => ys.length - (intOf i).toNat)
  case atStart => exact ⟨0, _, _, f, Nat.zero_le _, rfl, by simp, hO1.bel hb1, by rw [List.take_zero]; exact hI0, (hM.bel hb0).bel hb1, fun _ _ _ => rfl, Chg.of_bel (hb0.step hb1), hY.sl, Nat.le_refl _⟩
  case round =>
    clear hO1 hI0
    obtain ⟨k, tag, us, f', hk, rfl, hul, hO, hI, hMw, hf', hch, hYw, hsz⟩ := hrel
    by_cases hlt : k < ys.length
    · obtain ⟨by_, offy, rfl, hbyl, hcy⟩ := hYw.at k hlt
      obtain ⟨v, hv12, hyk⟩ := hyv (ys.getD k 0) (by simp [List.getD, hlt])
      have hnot : (v : Int) ∉ ys.take k := by
        rw [← hyk]
        intro hm
        have hmd : ys.getD k 0 ∈ ys.drop k := by rw [List.drop_eq_getElem_cons hlt, show ys.getD k 0 = ys[k] from by simp [List.getD, hlt]]; exact List.mem_cons_self
        have h1 := hnd
        rw [← List.take_append_drop k ys, List.nodup_append] at h1
        exact h1.2.2 _ hm _ hmd rfl
      have htk : ys.take (k+1) = ys.take k ++ [(v : Int)] := by
        rw [List.take_succ_eq_append_getElem hlt]
        have : ys[k] = v := by simpa [List.getD, hlt] using hyk
        rw [this]
      rw [hyk] at hcy
      have hfv := hf' v hv12 hnot
      obtain ⟨hFl, lo, hi2, hFs⟩ := hF v hv12
      have hFw := hFs.chgMap hM hch
      have hlook := hMw.look hv12
      rw [hfv] at hlook
      generalize hU : (f v).getD (.slice none 0 0) = U at *
      obtain ⟨au, cu, rfl⟩ := hFw.form
      have hw18 := IntWalk.i64_in (-1 - (v : Int)) (by omega)
      have hset := partL_snoc F (ys.take k) v hv12
      rw [← htk] at hset
      have hvl : (v : Int) < 12 := by omega
      by_cases hEq : F v = [-1 - (v : Int)]
      · have hst0 : stayF F v = [] := by unfold stayF; rw [if_pos hEq]
        have hdec : decide (F v = [-1 - (v : Int)]) = true := by simpa using hEq
        have HS := Lib.hid (And.intro hset (And.intro hst0 (And.intro hEq hf')))
        clear hset hst0 hEq hf'
        go_wp2_with fail
        refine (slEqual_v _ _ _ _ _ _ (F v) [-1 - (v : Int)] true _ hdec hFl (by simp) (hFw.alloc _) (SlI.lit _ _)).mono ?_; rintro e w3 ⟨rfl, hb3⟩
        obtain ⟨n4, D4, hn4, hown4, hK4⟩ := hMw.bel hb3.of_alloc
        go_wp2_with (at_delete; refine wpList_delete_own _ rfl _ _ 174 3 rfl 22 keyInt Tryz.underlying174 _ b n4 D4 rfl hown4 _ _ rfl (kv_key hv12) ?_; intro w4 hown5 hturn; have hM4 : MapV w4 b m (fun i => if i = v then none else f' i) := ⟨n4, _, hn4, hown5, hK4.del v⟩; have hlk4 : (Instr.lookup 174 (.map (some b)) (.int .i64 (v : Int)) false).run Tryz.prog w4 = .ok (.slice none 0 0) w4 := (by have := hM4.look hv12; simpa using this))
        have hch4 := chg_of_grown hturn.grown
        have hO4 := ((hO.alloc _).bel hb3).chgMap hbl hch4
        have hI4 : InT w.heap.size tag 3 w4 us (partL F (ys.take k)) := ⟨hI.1, fun j u hj => (((hI.2 j u hj).alloc _).bel hb3).chgMap hbl hch4⟩
        have hc4 := (hch.trans (Chg.of_bel hb3.of_alloc)).trans hch4
        have hY4 := (hYw.below hb3.of_alloc).chgMap (hMw.bel hb3.of_alloc) hch4
        have hz4 : w.heap.size ≤ w4.heap.size := by have h1 := hb3.of_alloc.size; have h2 := hch4.size; omega
        have hz5 : w2.heap.size ≤ w4.heap.size := by have h1 := hb3.of_alloc.size; have h2 := hch4.size; omega
        have hF4 : ∀ u : Nat, u < 12 → (u : Int) ∉ ys.take (k+1) → (if u = v then none else f' u) = f u := by
          intro u hu hn
          rw [htk] at hn
          have h1 : (u : Int) ∉ ys.take k := fun h => hn (List.mem_append_left _ h)
          have h2 : u ≠ v := fun h => hn (by rw [h]; simp)
          rw [if_neg h2]; exact HS.out.2.2.2 u hu h1
        have hset := HS.out.1
        refine (clone_r _ _ _ [] _ (by simp) (SlI.nil 0 0 _)).mono ?_; rintro e w5 ⟨ax, nx, cx, rfl, hX0, hb5⟩
        obtain ⟨tag', hX, hT⟩ := tag_new (tag := tag) (base := w.heap.size) (t := 10 + v) (xs := ([] : List Int).map (Value.int .i64)) (by simpa using hX0) hb5 hz4
        have hO5 := hT _ _ _ _ hO4
        have hI5 := hI4.put v (by omega) hT hX
        have hO5r := hO5.1
        rw [hul] at hO5r
        have hcell5 := hO5r.cellAt v (by omega)
        rw [List.getElem?_eq_getElem (by omega)] at hcell5
        have hfr5 := hO5r.frozenAt v
        go_wp2_with fail
        have hst := tag_store hO5 v (.slice ax nx cx)
        have hI6 := hI5.step (by omega) hst.2
        have hM6 := (hM4.bel hb5).set (p := ⟨w.heap.size, v, none⟩) (by simp; omega) (.slice ax nx cx)
        have hc6 := (hc4.trans (Chg.of_bel hb5)).setNew (p := ⟨w.heap.size, v, none⟩) (Nat.le_refl _) (.slice ax nx cx)
        have hY6 := (hY4.below hb5).set (p := ⟨w.heap.size, v, none⟩) (.inl hs1) (.slice ax nx cx)
        have hz6 := hb5.size
        go_roundw
        case rel => exact ⟨k+1, tag', us.set v (.slice ax nx cx), _, by omega, by go_num, by simpa using hul, hst.1, by rw [← hset]; rw [HS.out.2.1]; exact hI6, hM6, hF4, hc6, hY6, by simp; omega⟩
        case measure => simp [intOf]; omega
      · have hst0 : stayF F v = F v := by unfold stayF; rw [if_neg hEq]
        have hdec : decide (F v = [-1 - (v : Int)]) = false := by simpa using hEq
        have HS := Lib.hid (And.intro hset (And.intro hst0 (And.intro hEq hf')))
        clear hset hst0 hEq hf'
        go_wp2_with fail
        refine (slEqual_v _ _ _ _ _ _ (F v) [-1 - (v : Int)] false _ hdec hFl (by simp) (hFw.alloc _) (SlI.lit _ _)).mono ?_
        rintro e w4 ⟨rfl, hb3⟩
        have hM4 := hMw.bel hb3.of_alloc
        have hlk4 := hM4.look hv12
        rw [hfv, hU] at hlk4
        have hO4 := (hO.alloc _).bel hb3
        have hI4 := (hI.bel (Bel.alloc0 _ _)).bel hb3
        have hc4 := hch.trans (Chg.of_bel hb3.of_alloc)
        have hY4 := hYw.below hb3.of_alloc
        have hz4 : w.heap.size ≤ w4.heap.size := (by have h1 := hb3.of_alloc.size; omega)
        have hz5 : w2.heap.size ≤ w4.heap.size := (by have h1 := hb3.of_alloc.size; omega)
        go_wp2_with fail
        have hF4 : ∀ u : Nat, u < 12 → (u : Int) ∉ ys.take (k+1) → f' u = f u := by
          intro u hu hn
          rw [htk] at hn
          exact HS.out.2.2.2 u hu (fun h => hn (List.mem_append_left _ h))
        have hset := HS.out.1
        refine (clone_r _ _ _ (F v) _ hFl (hFw.below hb3.of_alloc)).mono ?_; rintro e w5 ⟨ax, nx, cx, rfl, hX0, hb5⟩
        obtain ⟨tag', hX, hT⟩ := tag_new (tag := tag) (base := w.heap.size) (t := 10 + v) (xs := (F v).map (Value.int .i64)) (by simpa using hX0) hb5 hz4
        have hO5 := hT _ _ _ _ hO4
        have hI5 := hI4.put v (by omega) hT hX
        have hO5r := hO5.1
        rw [hul] at hO5r
        have hcell5 := hO5r.cellAt v (by omega)
        rw [List.getElem?_eq_getElem (by omega)] at hcell5
        have hfr5 := hO5r.frozenAt v
        go_wp2_with fail
        have hst := tag_store hO5 v (.slice ax nx cx)
        have hI6 := hI5.step (by omega) hst.2
        have hM6 := (hM4.bel hb5).set (p := ⟨w.heap.size, v, none⟩) (by simp; omega) (.slice ax nx cx)
        have hc6 := (hc4.trans (Chg.of_bel hb5)).setNew (p := ⟨w.heap.size, v, none⟩) (Nat.le_refl _) (.slice ax nx cx)
        have hY6 := (hY4.below hb5).set (p := ⟨w.heap.size, v, none⟩) (.inl hs1) (.slice ax nx cx)
        have hz6 := hb5.size
        go_roundw
        case rel => exact ⟨k+1, tag', us.set v (.slice ax nx cx), _, by omega, by go_num, by simpa using hul, hst.1, by rw [← hset]; rw [HS.out.2.1]; exact hI6, hM6, hF4, hc6, hY6, by simp; omega⟩
        case measure => simp [intOf]; omega
    · have hys2 : ∀ v : Nat, v < 12 → (v : Int) ∉ ys → F v = [] := by
        intro v hv hn
        have h1 : (f v).isSome = false := by
          cases h2 : (f v).isSome with
          | false => rfl
          | true => exact absurd ((hys v hv).2 h2) hn
        obtain ⟨_, lo, hi2, hFs⟩ := hF v hv
        cases h3 : f v with
        | some u => rw [h3] at h1; simp at h1
        | none =>
          rw [h3] at hFs
          obtain ⟨ad, c, e⟩ := hFs.form
          simp at e
          exact List.length_eq_zero_iff.1 e.2.1.symm
      rw [List.take_of_length_le (by omega), partL_all F ys hys2] at hI
      go_wp2_with fail
      go_ret
      exact ⟨_, _, _, rfl, (OwnS.of_tag hO hI (by omega)).mono (Nat.le_refl _) (Nat.le_refl _), hch⟩
end Go.Proofs.YtikllmdmifecpaaGreatDoor
end
section
/- Compose: what is put together. -/
namespace Go.Proofs.YtikllmdmifecpaaGreatDoor
open Go.RowKit

theorem ok_var (ar : List Int) (v : Nat) (hv : v < 12) : okTerm ar [-1 - (v : Int)] = true := by
  have hs : okSym ar (-1 - (v : Int)) = true := by simp [okSym, inB]; omega
  rw [okTerm_iff]
  refine ⟨by simp, by simp, ?_⟩
  unfold endOf
  rw [List.drop_zero, endGo_cons, if_pos hs, arOf_neg (by omega)]
  rfl
def compT (a : List (List Int)) (v : Nat) : List Int := if 0 < (a.getD v []).length then a.getD v [] else [-1 - (v : Int)]
def compF (a b : List (List Int)) (v : Nat) : List Int := appT b (compT a v)
theorem compT_pos {a : List (List Int)} {v : Nat} (h : 0 < (a.getD v []).length) : compT a v = a.getD v [] := by unfold compT; rw [if_pos h]
theorem compT_zero {a : List (List Int)} {v : Nat} (h : ¬ 0 < (a.getD v []).length) : compT a v = [-1 - (v : Int)] := by unfold compT; rw [if_neg h]
theorem compT_ok {ar : List Int} {a : List (List Int)} (h : goodSubst ar a = true) (v : Nat) (hv : v < 12) : okTerm ar (compT a v) = true := by
  by_cases hp : 0 < (a.getD v []).length
  · rw [compT_pos hp]; exact okEmpty_get (goodSubst_iff.1 h).2.2 v hp
  · rw [compT_zero hp]; exact ok_var ar v hv
def composeOk (ar : List Int) (a b : List (List Int)) : Bool := goodSubst ar a && goodSubst ar b && (List.range 12).all (fun v => app40ok b (compT a v))
def composeAns (ar : List Int) (a b : List (List Int)) : List (List Int) := if composeOk ar a b then substL (compF a b) else []
theorem composeAns_no {ar : List Int} {a b : List (List Int)} (h : composeOk ar a b = false) : composeAns ar a b = [] := by simp [composeAns, h]
theorem composeAns_yes {ar : List Int} {a b : List (List Int)} (h : composeOk ar a b = true) : composeAns ar a b = substL (compF a b) := by simp [composeAns, h]
theorem compose_bad {ar : List Int} {a b : List (List Int)} {v : Nat} (hv : v < 12) (h : app40ok b (compT a v) = false) : composeOk ar a b = false := by
  have : (List.range 12).all (fun v => app40ok b (compT a v)) = false := by
    rw [List.all_eq_false]
    exact ⟨v, by simpa using hv, by simp [h]⟩
  unfold composeOk
  rw [this, Bool.and_false]
theorem compose_good {ar : List Int} {a b : List (List Int)} (h1 : goodSubst ar a = true) (h2 : goodSubst ar b = true) (h : ∀ v, v < 12 → app40ok b (compT a v) = true) : composeOk ar a b = true := by
  unfold composeOk
  rw [h1, h2, Bool.true_and, Bool.true_and, List.all_eq_true]
  intro v hv
  exact h v (by simpa using hv)
theorem stayF_le (F : Nat → List Int) (v : Nat) : (stayF F v).length ≤ (F v).length := by unfold stayF; split <;> simp
theorem sumL_map_le (g : Nat → List Int) (c : Nat) : ∀ l : List Nat, (∀ v ∈ l, (g v).length ≤ c) → sumL (l.map g) ≤ c * l.length := by
  intro l
  induction l with
  | nil => intro _; simp [sumL]
  | cons x r ih =>
    intro h
    have h1 := ih (fun v hv => h v (List.mem_cons_of_mem _ hv))
    have h2 := h x List.mem_cons_self
    unfold sumL at h1 ⊢
    simp only [List.map_cons, List.sum_cons, List.length_cons] at h1 ⊢
    rw [Nat.mul_add]
    omega
theorem substL_tot (F : Nat → List Int) (h : ∀ v, v < 12 → (F v).length ≤ 40) : tot (substL F) ≤ 1048576 := by
  have h1 := sumL_map_le (stayF F) 40 (List.range 12) (fun v hv => by have h1 := stayF_le F v; have h2 := h v (by simpa using hv); omega)
  have h2 : (substL F).length = 12 := by simp [substL]
  unfold tot
  rw [h2]
  simp only [List.length_range] at h1
  unfold substL
  omega
theorem composeAns_len (ar : List Int) (a b : List (List Int)) : tot (composeAns ar a b) ≤ 1048576 := by
  unfold composeAns
  split
  · rename_i h
    unfold composeOk at h
    simp only [Bool.and_eq_true, List.all_eq_true] at h
    exact substL_tot _ fun v hv => by
      have := h.2 v (by simpa using hv)
      simp [app40ok] at this
      exact this
  · simp [tot, sumL]
theorem castL_range (k : Nat) : castL (List.range (k+1)) = castL (List.range k) ++ [(k : Int)] := by rw [List.range_succ, castL_snoc]

end Go.Proofs.YtikllmdmifecpaaGreatDoor
end
