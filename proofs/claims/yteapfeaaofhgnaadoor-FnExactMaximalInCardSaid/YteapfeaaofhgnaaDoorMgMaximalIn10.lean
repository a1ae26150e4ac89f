/- Texts merged, part 10. -/
import Derived.Test.YteapfeaaofhgnaaDoorMgMaximalIn9
section
/- CompareLists, IsFalling: the reference's. -/
namespace Go.Proofs.YteapfeaaofhgnaaDoor
open Go.RowKit

theorem any_upto {a : List (List Int)} {t : List Int} {i : Nat} (hi : i < a.length) : ((a.take (i+1)).any fun u => above u t) = (((a.take i).any fun u => above u t) || above (a.getD i []) t) := by
  rw [take_snoc a i [] hi, List.any_append]; simp
set_option maxRecDepth 100000 in
set_option maxHeartbeats 400000 in
theorem l3Over_v (l h l' h' : Nat) (v u : Value) (a b : List (List Int)) (q : Bool) (w : World) (hd : dom a b = q) (hne : q = true → 0 < a.length) (ha : short a) (_ : lowL a) (hb : short b) (hlb : lowL b) (hv : SlS l h w v a) (hu : SlS l' h' w u b) :
    Calls Tryd.prog 71 #[v, u] w (RetV w (.bool q)) := by
  obtain ⟨ad, cap, rfl⟩ := hv.form
  obtain ⟨ad', cap', rfl⟩ := hu.form
  obtain ⟨hbl, hbm⟩ := hb
  obtain ⟨hal, ham⟩ := ha
  have HD := Lib.hid (And.intro hd hne)
  clear hd hne
  go_enter Tryd.func71, Tryd.ntmps71
  go_wp2_with fail
  go_loopw [12] (fun i wr => ∃ k : Nat, k ≤ b.length ∧ i = .int .i64 k ∧ dom a (b.take k) = true ∧ Bel w wr) (fun i _ => b.length - (intOf i).toNat)
  case atStart => exact ⟨0, Nat.zero_le _, rfl, rfl, Bel.rfl' _⟩
  case round =>
    obtain ⟨k, hk, rfl, hn, hb1⟩ := hrel
    by_cases hlt : k < b.length
    · obtain ⟨bb, off, p, rfl, -, hc, hp⟩ := hu.at hb1 k hlt
      have hpl := hbm k hlt
      have hplow := hlb k hlt
      have HN := Lib.hid (And.intro (fun h => dom_no (a := a) hlt h) (fun h => dom_take hlt hn h))
      have hv1 := hv.below hb1
      clear hn hu hbm hlb hv
      generalize b.getD k [] = t at *
      obtain ⟨ap, cp, rfl⟩ := hp.form
      obtain ⟨wo, rfl⟩ : ∃ wo, wo = wr := ⟨wr, rfl⟩
      go_wp2_with fail
      go_loopw [7, 18] (fun ov i wr => ∃ j : Nat, j ≤ a.length ∧ i = .int .i64 j ∧ ov = .bool ((a.take j).any fun u => above u t) ∧ Bel wo wr) (fun _ i _ => a.length - (intOf i).toNat)
      case atStart => exact ⟨0, Nat.zero_le _, rfl, rfl, Bel.rfl' _⟩
      case round =>
        obtain ⟨j, hj, rfl, rfl, hb2⟩ := hrel
        by_cases hjl : j < a.length
        · obtain ⟨bx, ox, z, rfl, -, hcell, hz⟩ := hv1.at hb2 j hjl
          have hzl := ham j hjl
          have HU := Lib.hid (any_upto (t := t) hjl)
          have hp2 := hp.below hb2
          clear hv1 ham hp
          generalize a.getD j [] = y at *
          obtain ⟨az, cz, rfl⟩ := hz.form
          cases ho : ((a.take j).any fun u => above u t) with
          | true =>
            have E : Hid (((a.take (j+1)).any fun u => above u t) = true) := by show _ = _; rw [HU.out, ho]; rfl
            clear HU ho
            go_wp2_with fail
            go_roundw
            case rel => exact ⟨j+1, by omega, by go_num, by rw [E.out], hb2⟩
            case measure => simp [intOf]; omega
          | false =>
            generalize hq : above y t = r
            have E : Hid (((a.take (j+1)).any fun u => above u t) = r) := by show _ = _; rw [HU.out, ho, hq]; rfl
            have HC := Lib.hid (l3Greater_v _ _ _ _ _ _ y t r wr hq hzl hpl hplow hz hp2)
            clear HU ho hq
            go_wp2_with fail
            refine HC.out.mono ?_; rintro e w3 ⟨rfl, hb3⟩
            go_wp2_with fail
            go_roundw
            case rel => exact ⟨j+1, by omega, by go_num, by rw [E.out], hb2.step hb3⟩
            case measure => simp [intOf]; omega
        · cases hq : ((a.take j).any fun u => above u t) with
          | false =>
            have E : Hid (q = false) := HD.out.1.symm.trans (HN.out.1 (any_end hjl hq))
            clear HN
            go_wp2_with fail
            go_ret
            exact ⟨by rw [E.out]; rfl, hb1.step hb2⟩
          | true =>
            have E := Lib.hid (HN.out.2 (any_end hjl hq))
            clear HN
            go_wp2_with fail
            go_roundw
            case rel => exact ⟨k+1, by omega, by go_num, E.out, hb1.step hb2⟩
            case measure => simp [intOf]; omega
    · have E : Hid (q = true) := HD.out.1.symm.trans (dom_all hlt hn)
      have hpos : decide (0 < a.length) = true := by have := HD.out.2 E.out; simpa using this
      clear hn
      go_wp2_with fail
      go_ret
      exact ⟨by rw [E.out]; first | rfl | exact congrArg (fun x => Ending.returned (Value.bool x)) hpos, hb1⟩

set_option maxRecDepth 100000 in
set_option maxHeartbeats 800000 in
theorem l3Lists_c (l h l' h' : Nat) (v u : Value) (a b : List (List Int)) (w : World) (ha : short a) (hla : lowL a) (hb : short b) (hlb : lowL b) (hv : SlS l h w v a) (hu : SlS l' h' w u b) :
    Calls Tryd.prog 46 #[v, u] w (RetV w (.int .i64 (cmpL a b))) := by
  obtain ⟨ad, cap, rfl⟩ := hv.form
  obtain ⟨ad', cap', rfl⟩ := hu.form
  have H1 := Lib.hid (l3Left_c l h l' h' _ _ a b w ha hb hv hu)
  have H2 := Lib.hid (fun (w' : World) (hq : Bel w w') => l3Left_c l' h' l h _ _ b a w' hb ha (hu.below hq) (hv.below hq))
  have hsx := minus_short (b := b) ha
  have hsy := minus_short (b := a) hb
  have hlx := minus_low (b := b) hla
  have hly := minus_low (b := a) hlb
  have E0 := Lib.hid (fun h1 h2 => cmpL_0 (a := a) (b := b) h1 h2)
  have E1 := Lib.hid (fun h0 h1 => cmpL_1 (a := a) (b := b) h0 h1)
  have Em := Lib.hid (fun h0 h1 h2 => cmpL_m (a := a) (b := b) h0 h1 h2)
  have E2 := Lib.hid (fun h0 h1 h2 => cmpL_2 (a := a) (b := b) h0 h1 h2)
  generalize cmpL a b = z at *
  generalize minus a b = X at *
  generalize minus b a = Y at *
  by_cases hx0 : X.length = 0
  · have d1 : ((X.length : Int) == 0) = true := by simpa using hx0
    by_cases hy0 : Y.length = 0
    · have d2 : ((Y.length : Int) == 0) = true := by simpa using hy0
      have E : Hid (z = 0) := E0.out (List.length_eq_zero_iff.1 hx0) (List.length_eq_zero_iff.1 hy0)
      clear hx0 hy0 E0 E1 Em E2
      go_enter Tryd.func46, Tryd.ntmps46
      go_wp2_with fail
      refine H1.out.mono ?_; rintro e w1 ⟨g1, n1, c1, rfl, hX, hb1⟩
      obtain ⟨_, _, ef⟩ := hX.form
      simp only [Value.slice.injEq] at ef
      obtain ⟨rfl, rfl, rfl⟩ := ef
      go_wp2_with fail
      refine (H2.out _ hb1).mono ?_; rintro e w2 ⟨g2, n2, c2, rfl, hY, hb2⟩
      obtain ⟨_, _, ef⟩ := hY.form
      simp only [Value.slice.injEq] at ef
      obtain ⟨rfl, rfl, rfl⟩ := ef
      have hX2 := (hX.sls hb1).below hb2
      have hY2 := hY.sls hb2
      have hb12 := hb1.step hb2
      go_wp2_with fail
      go_ret
      exact ⟨by rw [E.out]; rfl, hb12⟩
    · have d2 : ((Y.length : Int) == 0) = false := by simp; exact fun h => hy0 (by rw [h]; rfl)
      have h0 : ¬ (X = [] ∧ Y = []) := fun h => hy0 (by rw [h.2]; rfl)
      clear hx0 hy0
      have h0b : ¬ (Y = [] ∧ X = []) := fun h => h0 ⟨h.2, h.1⟩
      cases hd1 : dom X Y with
      | true =>
        have E : Hid (z = 1) := E1.out h0 hd1
        clear E0 E1 Em E2
        go_enter Tryd.func46, Tryd.ntmps46
        go_wp2_with fail
        refine H1.out.mono ?_; rintro e w1 ⟨g1, n1, c1, rfl, hX, hb1⟩
        obtain ⟨_, _, ef⟩ := hX.form
        simp only [Value.slice.injEq] at ef
        obtain ⟨rfl, rfl, rfl⟩ := ef
        go_wp2_with fail
        refine (H2.out _ hb1).mono ?_; rintro e w2 ⟨g2, n2, c2, rfl, hY, hb2⟩
        obtain ⟨_, _, ef⟩ := hY.form
        simp only [Value.slice.injEq] at ef
        obtain ⟨rfl, rfl, rfl⟩ := ef
        have hX2 := (hX.sls hb1).below hb2
        have hY2 := hY.sls hb2
        have hb12 := hb1.step hb2
        go_wp2_with fail
        refine (l3Over_v _ _ _ _ _ _ X Y true _ hd1 (fun _ => dom_some h0 hd1) hsx hlx hsy hly hX2 hY2).mono ?_; rintro e w3 ⟨rfl, hb3⟩
        have hbs3 := hb12.step hb3
        replace hX2 := hX2.below hb3
        replace hY2 := hY2.below hb3
        go_wp2_with fail
        go_ret
        exact ⟨by rw [E.out]; rfl, hbs3⟩
      | false =>
        cases hd2 : dom Y X with
        | true =>
          have E : Hid (z = -1) := Em.out h0 hd1 hd2
          clear E0 E1 Em E2
          go_enter Tryd.func46, Tryd.ntmps46
          go_wp2_with fail
          refine H1.out.mono ?_; rintro e w1 ⟨g1, n1, c1, rfl, hX, hb1⟩
          obtain ⟨_, _, ef⟩ := hX.form
          simp only [Value.slice.injEq] at ef
          obtain ⟨rfl, rfl, rfl⟩ := ef
          go_wp2_with fail
          refine (H2.out _ hb1).mono ?_; rintro e w2 ⟨g2, n2, c2, rfl, hY, hb2⟩
          obtain ⟨_, _, ef⟩ := hY.form
          simp only [Value.slice.injEq] at ef
          obtain ⟨rfl, rfl, rfl⟩ := ef
          have hX2 := (hX.sls hb1).below hb2
          have hY2 := hY.sls hb2
          have hb12 := hb1.step hb2
          go_wp2_with fail
          refine (l3Over_v _ _ _ _ _ _ X Y false _ hd1 ((by simp)) hsx hlx hsy hly hX2 hY2).mono ?_; rintro e w3 ⟨rfl, hb3⟩
          have hbs3 := hb12.step hb3
          replace hX2 := hX2.below hb3
          replace hY2 := hY2.below hb3
          go_wp2_with fail
          refine (l3Over_v _ _ _ _ _ _ Y X true _ hd2 (fun _ => dom_some h0b hd2) hsy hly hsx hlx hY2 hX2).mono ?_; rintro e w4 ⟨rfl, hb4⟩
          have hbs4 := hbs3.step hb4
          replace hX2 := hX2.below hb4
          replace hY2 := hY2.below hb4
          go_wp2_with fail
          go_ret
          exact ⟨by rw [E.out]; rfl, hbs4⟩
        | false =>
          have E : Hid (z = 2) := E2.out h0 hd1 hd2
          clear E0 E1 Em E2
          go_enter Tryd.func46, Tryd.ntmps46
          go_wp2_with fail
          refine H1.out.mono ?_; rintro e w1 ⟨g1, n1, c1, rfl, hX, hb1⟩
          obtain ⟨_, _, ef⟩ := hX.form
          simp only [Value.slice.injEq] at ef
          obtain ⟨rfl, rfl, rfl⟩ := ef
          go_wp2_with fail
          refine (H2.out _ hb1).mono ?_; rintro e w2 ⟨g2, n2, c2, rfl, hY, hb2⟩
          obtain ⟨_, _, ef⟩ := hY.form
          simp only [Value.slice.injEq] at ef
          obtain ⟨rfl, rfl, rfl⟩ := ef
          have hX2 := (hX.sls hb1).below hb2
          have hY2 := hY.sls hb2
          have hb12 := hb1.step hb2
          go_wp2_with fail
          refine (l3Over_v _ _ _ _ _ _ X Y false _ hd1 ((by simp)) hsx hlx hsy hly hX2 hY2).mono ?_; rintro e w3 ⟨rfl, hb3⟩
          have hbs3 := hb12.step hb3
          replace hX2 := hX2.below hb3
          replace hY2 := hY2.below hb3
          go_wp2_with fail
          refine (l3Over_v _ _ _ _ _ _ Y X false _ hd2 ((by simp)) hsy hly hsx hlx hY2 hX2).mono ?_; rintro e w4 ⟨rfl, hb4⟩
          have hbs4 := hbs3.step hb4
          replace hX2 := hX2.below hb4
          replace hY2 := hY2.below hb4
          go_wp2_with fail
          go_ret
          exact ⟨by rw [E.out]; rfl, hbs4⟩
  · have d1 : ((X.length : Int) == 0) = false := by simp; exact fun h => hx0 (by rw [h]; rfl)
    have h0 : ¬ (X = [] ∧ Y = []) := fun h => hx0 (by rw [h.1]; rfl)
    clear hx0
    have h0b : ¬ (Y = [] ∧ X = []) := fun h => h0 ⟨h.2, h.1⟩
    cases hd1 : dom X Y with
    | true =>
      have E : Hid (z = 1) := E1.out h0 hd1
      clear E0 E1 Em E2
      go_enter Tryd.func46, Tryd.ntmps46
      go_wp2_with fail
      refine H1.out.mono ?_; rintro e w1 ⟨g1, n1, c1, rfl, hX, hb1⟩
      obtain ⟨_, _, ef⟩ := hX.form
      simp only [Value.slice.injEq] at ef
      obtain ⟨rfl, rfl, rfl⟩ := ef
      go_wp2_with fail
      refine (H2.out _ hb1).mono ?_; rintro e w2 ⟨g2, n2, c2, rfl, hY, hb2⟩
      obtain ⟨_, _, ef⟩ := hY.form
      simp only [Value.slice.injEq] at ef
      obtain ⟨rfl, rfl, rfl⟩ := ef
      have hX2 := (hX.sls hb1).below hb2
      have hY2 := hY.sls hb2
      have hb12 := hb1.step hb2
      go_wp2_with fail
      refine (l3Over_v _ _ _ _ _ _ X Y true _ hd1 (fun _ => dom_some h0 hd1) hsx hlx hsy hly hX2 hY2).mono ?_; rintro e w3 ⟨rfl, hb3⟩
      have hbs3 := hb12.step hb3
      replace hX2 := hX2.below hb3
      replace hY2 := hY2.below hb3
      go_wp2_with fail
      go_ret
      exact ⟨by rw [E.out]; rfl, hbs3⟩
    | false =>
      cases hd2 : dom Y X with
      | true =>
        have E : Hid (z = -1) := Em.out h0 hd1 hd2
        clear E0 E1 Em E2
        go_enter Tryd.func46, Tryd.ntmps46
        go_wp2_with fail
        refine H1.out.mono ?_; rintro e w1 ⟨g1, n1, c1, rfl, hX, hb1⟩
        obtain ⟨_, _, ef⟩ := hX.form
        simp only [Value.slice.injEq] at ef
        obtain ⟨rfl, rfl, rfl⟩ := ef
        go_wp2_with fail
        refine (H2.out _ hb1).mono ?_; rintro e w2 ⟨g2, n2, c2, rfl, hY, hb2⟩
        obtain ⟨_, _, ef⟩ := hY.form
        simp only [Value.slice.injEq] at ef
        obtain ⟨rfl, rfl, rfl⟩ := ef
        have hX2 := (hX.sls hb1).below hb2
        have hY2 := hY.sls hb2
        have hb12 := hb1.step hb2
        go_wp2_with fail
        refine (l3Over_v _ _ _ _ _ _ X Y false _ hd1 ((by simp)) hsx hlx hsy hly hX2 hY2).mono ?_; rintro e w3 ⟨rfl, hb3⟩
        have hbs3 := hb12.step hb3
        replace hX2 := hX2.below hb3
        replace hY2 := hY2.below hb3
        go_wp2_with fail
        refine (l3Over_v _ _ _ _ _ _ Y X true _ hd2 (fun _ => dom_some h0b hd2) hsy hly hsx hlx hY2 hX2).mono ?_; rintro e w4 ⟨rfl, hb4⟩
        have hbs4 := hbs3.step hb4
        replace hX2 := hX2.below hb4
        replace hY2 := hY2.below hb4
        go_wp2_with fail
        go_ret
        exact ⟨by rw [E.out]; rfl, hbs4⟩
      | false =>
        have E : Hid (z = 2) := E2.out h0 hd1 hd2
        clear E0 E1 Em E2
        go_enter Tryd.func46, Tryd.ntmps46
        go_wp2_with fail
        refine H1.out.mono ?_; rintro e w1 ⟨g1, n1, c1, rfl, hX, hb1⟩
        obtain ⟨_, _, ef⟩ := hX.form
        simp only [Value.slice.injEq] at ef
        obtain ⟨rfl, rfl, rfl⟩ := ef
        go_wp2_with fail
        refine (H2.out _ hb1).mono ?_; rintro e w2 ⟨g2, n2, c2, rfl, hY, hb2⟩
        obtain ⟨_, _, ef⟩ := hY.form
        simp only [Value.slice.injEq] at ef
        obtain ⟨rfl, rfl, rfl⟩ := ef
        have hX2 := (hX.sls hb1).below hb2
        have hY2 := hY.sls hb2
        have hb12 := hb1.step hb2
        go_wp2_with fail
        refine (l3Over_v _ _ _ _ _ _ X Y false _ hd1 ((by simp)) hsx hlx hsy hly hX2 hY2).mono ?_; rintro e w3 ⟨rfl, hb3⟩
        have hbs3 := hb12.step hb3
        replace hX2 := hX2.below hb3
        replace hY2 := hY2.below hb3
        go_wp2_with fail
        refine (l3Over_v _ _ _ _ _ _ Y X false _ hd2 ((by simp)) hsy hly hsx hlx hY2 hX2).mono ?_; rintro e w4 ⟨rfl, hb4⟩
        have hbs4 := hbs3.step hb4
        replace hX2 := hX2.below hb4
        replace hY2 := hY2.below hb4
        go_wp2_with fail
        go_ret
        exact ⟨by rw [E.out]; rfl, hbs4⟩

end Go.Proofs.YteapfeaaofhgnaaDoor
end
section
/- Chapter 4: CompareLits, both sides. -/
namespace Go.Proofs.YteapfeaaofhgnaaDoor
open Go.RowKit

set_option maxRecDepth 100000 in
set_option maxHeartbeats 1000000 in
theorem comparedLits_c (l h l' h' : Nat) (x y : Lt) (u1 u2 q1 q2 : Value) (w : World) (hT : Tab w) (hsx : short (listL x)) (hlx : lowL (listL x)) (hsy : short (listL y)) (hly : lowL (listL y)) (h1 : SlI l h w u1 x.2.1) (h2 : SlI l h w u2 x.2.2) (h3 : SlI l' h' w q1 y.2.1) (h4 : SlI l' h' w q2 y.2.2) :
    Calls Tryd.prog 40 #[.agg #[.bool x.1, u1, u2], .agg #[.bool y.1, q1, q2]] w (RetV w (.int .i64 (cmpL (listL x) (listL y)))) := by
  have HX := Lib.hid (fun (w' : World) (hb : Bel w w') => countedTerms_c l h x u1 u2 w' (h1.below hb) (h2.below hb))
  have HY := Lib.hid (fun (w' : World) (hb : Bel w w') => countedTerms_c l' h' y q1 q2 w' (h3.below hb) (h4.below hb))
  have HM := Lib.hid (fun (w' : World) (z1 z2 : Value) (hb : Bel w w') (g1 : SlS 0 w'.heap.size w' z1 (listL x)) (g2 : SlS 0 w'.heap.size w' z2 (listL y)) => comparedLists_c _ _ _ _ z1 z2 _ _ w' (hT.bel hb) hsx hlx hsy hly g1 g2)
  clear h1 h2 h3 h4
  generalize listL x = X at *
  generalize listL y = Y at *
  generalize x.1 = p at *
  generalize y.1 = q at *
  have HB0 : Bel w ((w.alloc (.cells #[.bool p, u1, u2] 48)).alloc (.cells #[.bool q, q1, q2] 48)).drew := (Bel.alloc2 _ _ _).drew
  have K : Hid (∀ w', Bel ((w.alloc (.cells #[.bool p, u1, u2] 48)).alloc (.cells #[.bool q, q1, q2] 48)).drew w' → (w'.cell? ⟨w.heap.size, 0, none⟩ = some (.bool p) ∧ w'.cell? ⟨w.heap.size, 1, none⟩ = some u1 ∧ w'.cell? ⟨w.heap.size, 2, none⟩ = some u2) ∧ w'.cell? ⟨w.heap.size + 1, 0, none⟩ = some (.bool q) ∧ w'.cell? ⟨w.heap.size + 1, 1, none⟩ = some q1 ∧ w'.cell? ⟨w.heap.size + 1, 2, none⟩ = some q2) := fun w' hb => by
    have hq := hb.of_drew
    exact ⟨⟨hq.at (by simp; omega) (by simp [go_sem]), hq.at (by simp; omega) (by simp [go_sem]), hq.at (by simp; omega) (by simp [go_sem])⟩, hq.at (by simp) (by simp [go_sem]), hq.at (by simp) (by simp [go_sem]), hq.at (by simp) (by simp [go_sem])⟩
  go_enter Tryd.func40, Tryd.ntmps40
  go_wp2_with fail
  go_region_held3 (fun w' => (w'.cell? ⟨w.heap.size, 0, none⟩ = some (.bool p) ∧ w'.cell? ⟨w.heap.size, 1, none⟩ = some u1 ∧ w'.cell? ⟨w.heap.size, 2, none⟩ = some u2) ∧ w'.cell? ⟨w.heap.size + 1, 0, none⟩ = some (.bool q) ∧ w'.cell? ⟨w.heap.size + 1, 1, none⟩ = some q1 ∧ w'.cell? ⟨w.heap.size + 1, 2, none⟩ = some q2)
    (first | exact K.out _ ((g3.step g4).step g5) | exact K.out _ (g3.step g4) | exact K.out _ g3 | exact K.out _ (Bel.rfl' _) | fail)
    (first
      | (go_at_call 63; refine (HM.out _ _ _ HB4 R1 R2).mono ?_; rintro e w5 ⟨rfl, g5⟩)
      | (go_at_call 64; refine (HY.out _ HB3).mono ?_; rintro e w4 ⟨a2, n2, c2, rfl, r2, g4⟩; have HB4 := HB3.step g4; have R1 := (r1.bel g4).sls (g3.step g4); have R2 := r2.sls g4)
      | (go_at_call 64; refine (HX.out _ HB3).mono ?_; rintro e w4 ⟨a1, n1, c1, rfl, r1, g4⟩; have HB4 := HB3.step g4; have R2 := (r2.bel g4).sls (g3.step g4); have R1 := r1.sls g4)
      | (go_at_call 64; refine (HX.out _ HB0).mono ?_; rintro e w3 ⟨a1, n1, c1, rfl, r1, g3⟩; have HB3 := HB0.step g3)
      | (go_at_call 64; refine (HY.out _ HB0).mono ?_; rintro e w3 ⟨a2, n2, c2, rfl, r2, g3⟩; have HB3 := HB0.step g3)
      | fail)
  all_goals
    go_wp2_with fail
    go_ret
    exact ⟨rfl, HB4.step g5⟩

theorem listL_short {ar : List Int} {x : Lt} (h : okLit ar x = true) : short (listL x) := by
  have h1 := listL_low h
  refine ⟨by have := listL_len x; omega, fun j hj => ?_⟩
  have := (okTerm_len (h1 _ (mem_getD _ [] j hj))).2
  omega
theorem listL_lowL {ar : List Int} {x : Lt} (h : okLit ar x = true) : lowL (listL x) := fun j hj => low_memC fun _ hn => ok_low (listL_low h _ (mem_getD _ [] j hj)) hn
theorem litsOk_good (ar : List Int) (x y : Lt) : goodClause ar [x, y] = litsOk ar x y := by simp [goodClause, okLits, litsOk]
/-- Two literals in a block of their own. -/
theorem slc_two {w : World} {x y : Lt} {u1 u2 q1 q2 : Value} {t : TypeId} (g : Nat) (hg : g = w.heap.size) (h1 : SlI 0 w.heap.size w u1 x.2.1) (h2 : SlI 0 w.heap.size w u2 x.2.2) (h3 : SlI 0 w.heap.size w q1 y.2.1) (h4 : SlI 0 w.heap.size w q2 y.2.2) :
    SlC 0 (w.alloc (.cells #[.bool x.1, u1, u2, .bool y.1, q1, q2] t)).heap.size (w.alloc (.cells #[.bool x.1, u1, u2, .bool y.1, q1, q2] t)) (.slice (some ⟨g, 0, none⟩) 2 2) [x, y] := by
  subst hg
  have hb := Bel.alloc0 w (.cells #[.bool x.1, u1, u2, .bool y.1, q1, q2] t)
  have hc : ∀ i v, (#[Value.bool x.1, u1, u2, .bool y.1, q1, q2])[i]? = some v → (w.alloc (.cells #[.bool x.1, u1, u2, .bool y.1, q1, q2] t)).cell? ⟨w.heap.size, i, none⟩ = some v := fun i v h => by rw [World.cell?_alloc_new w]; exact h
  refine ⟨_, 2, rfl, Nat.le_refl _, ⟨by unfold maxLen; omega, fun h => by simp at h⟩, fun _ => ⟨w.heap.size, 0, rfl, Nat.zero_le _, by simp, fun j hj => ?_⟩⟩
  match j, hj with
  | 0, _ => exact ⟨u1, u2, hc 0 _ rfl, hc 1 _ rfl, hc 2 _ rfl, (h1.below hb).mono (Nat.le_refl _) hb.size, (h2.below hb).mono (Nat.le_refl _) hb.size⟩
  | 1, _ => exact ⟨q1, q2, hc 3 _ rfl, hc 4 _ rfl, hc 5 _ rfl, (h3.below hb).mono (Nat.le_refl _) hb.size, (h4.below hb).mono (Nat.le_refl _) hb.size⟩

set_option maxRecDepth 100000 in
set_option maxHeartbeats 1000000 in
theorem iCompareLits_t {l h l' h' l2 h2 : Nat} {v u1 u2 q1 q2 : Value} {ar : List Int} {x y : Lt} {w : World} (hT : Tab w) (ha : ar.length ≤ 1048576) (hv : SlI l h w v ar) (hx : x.2.1.length + x.2.2.length ≤ 1048576) (s1 : SlI l' h' w u1 x.2.1) (s2 : SlI l' h' w u2 x.2.2) (hy : y.2.1.length + y.2.2.length ≤ 1048576) (t1 : SlI l2 h2 w q1 y.2.1) (t2 : SlI l2 h2 w q2 y.2.2) :
    Calls Tryd.prog 21 #[.agg #[v], .agg #[.bool x.1, u1, u2], .agg #[.bool y.1, q1, q2]] w (RetV w (.tuple #[.int .i64 (litsAns ar x y), .bool (litsOk ar x y)])) := by
  have hsh : shortC [x, y] := ⟨by simp, fun j hj => by
    match j, hj with
    | 0, _ => exact ⟨by show x.2.1.length ≤ _; omega, by show x.2.2.length ≤ _; omega⟩
    | 1, _ => exact ⟨by show y.2.1.length ≤ _; omega, by show y.2.2.length ≤ _; omega⟩⟩
  have HB : Bel w (((w.alloc (.cells #[v] 30)).alloc (.cells #[.bool x.1, u1, u2] 48)).alloc (.cells #[.bool y.1, q1, q2] 48)) := Bel.alloc3 _ _ _ _
  have hsl := slc_two (w := ((w.alloc (.cells #[v] 30)).alloc (.cells #[.bool x.1, u1, u2] 48)).alloc (.cells #[.bool y.1, q1, q2] 48)) (t := 48) (w.heap.size + 1 + 1 + 1) (by simp) (s1.below HB).in' (s2.below HB).in' (t1.below HB).in' (t2.below HB).in'
  have hg := fun (q : Bool) (hq : goodClause ar [x, y] = q) => (iGoodClause_sh ha ((hv.below HB).alloc (.cells #[.bool x.1, u1, u2, .bool y.1, q1, q2] 48)) hsh hsl)
  have hgo := litsOk_good ar x y
  unfold litsAns
  cases hq : litsOk ar x y with
  | false =>
    rw [if_neg (by simp)]
    have HG := hg _ rfl
    rw [hgo, hq] at HG
    have HGG := Lib.hid HG
    clear HG hg hgo hq hsl hsh
    go_enter Tryd.func21, Tryd.ntmps21
    go_wp2_with fail
    refine HGG.out.mono ?_; rintro e w1 ⟨rfl, hb1⟩
    go_wp2_with fail
    go_ret2
    exact ⟨rfl, HB.step hb1.of_alloc⟩
  | true =>
    rw [if_pos rfl]
    have HG := hg _ rfl
    rw [hgo, hq] at HG
    have HGG := Lib.hid HG
    simp only [litsOk, Bool.and_eq_true] at hq
    obtain ⟨hgs, okx, oky⟩ := hq
    have HCM := Lib.hid (fun (w' : World) (hb : Bel w w') => comparedLits_c _ _ _ _ x y u1 u2 q1 q2 w' (hT.bel hb) (listL_short okx) (listL_lowL okx) (listL_short oky) (listL_lowL oky) (s1.below hb) (s2.below hb) (t1.below hb) (t2.below hb))
    clear HG hg hgo hsl hsh s1 s2 t1 t2
    have K : Hid (∀ w', Bel (((w.alloc (.cells #[v] 30)).alloc (.cells #[.bool x.1, u1, u2] 48)).alloc (.cells #[.bool y.1, q1, q2] 48)) w' → (w'.cell? ⟨w.heap.size + 1, 0, none⟩ = some (.bool x.1) ∧ w'.cell? ⟨w.heap.size + 1, 1, none⟩ = some u1 ∧ w'.cell? ⟨w.heap.size + 1, 2, none⟩ = some u2) ∧ w'.cell? ⟨w.heap.size + 1 + 1, 0, none⟩ = some (.bool y.1) ∧ w'.cell? ⟨w.heap.size + 1 + 1, 1, none⟩ = some q1 ∧ w'.cell? ⟨w.heap.size + 1 + 1, 2, none⟩ = some q2) := fun w' hb =>
      ⟨⟨hb.at (by simp <;> omega) (by simp [go_sem]), hb.at (by simp <;> omega) (by simp [go_sem]), hb.at (by simp <;> omega) (by simp [go_sem])⟩, hb.at (by simp) (by simp [go_sem]), hb.at (by simp) (by simp [go_sem]), hb.at (by simp) (by simp [go_sem])⟩
    generalize cmpL (listL x) (listL y) = r at *
    generalize x.1 = p at *
    generalize y.1 = q at *
    go_enter Tryd.func21, Tryd.ntmps21
    go_wp2_with fail
    refine HGG.out.mono ?_; rintro e w1 ⟨rfl, hb1⟩
    obtain ⟨⟨x0, x1, x2⟩, y0, y1, y2⟩ := K.out _ hb1.of_alloc
    have HB1 := HB.step hb1.of_alloc
    go_wp2_with fail
    refine (HCM.out _ HB1).mono ?_; rintro e w2 ⟨rfl, hb2⟩
    go_wp2_with fail
    go_ret2
    exact ⟨rfl, HB1.step hb2⟩

set_option maxRecDepth 100000 in
set_option maxHeartbeats 2000000 in
theorem sCompareLits_t {l h l' h' l2 h2 : Nat} {v u1 u2 q1 q2 : Value} {ar : List Int} {x y : Lt} {w : World} (ha : ar.length ≤ 1048576) (hv : SlI l h w v ar) (hx : x.2.1.length + x.2.2.length ≤ 1048576) (s1 : SlI l' h' w u1 x.2.1) (s2 : SlI l' h' w u2 x.2.2) (hy : y.2.1.length + y.2.2.length ≤ 1048576) (t1 : SlI l2 h2 w q1 y.2.1) (t2 : SlI l2 h2 w q2 y.2.2) :
    Calls Tryd.prog 23 #[.agg #[v], .agg #[.bool x.1, u1, u2], .agg #[.bool y.1, q1, q2]] w (RetV w (.tuple #[.int .i64 (litsAns ar x y), .bool (litsOk ar x y)])) := by
  have HB : Bel w (((w.alloc (.cells #[v] 30)).alloc (.cells #[.bool x.1, u1, u2] 48)).alloc (.cells #[.bool y.1, q1, q2] 48)) := Bel.alloc3 _ _ _ _
  have K : Hid (∀ w', Bel (((w.alloc (.cells #[v] 30)).alloc (.cells #[.bool x.1, u1, u2] 48)).alloc (.cells #[.bool y.1, q1, q2] 48)) w' → w'.cell? ⟨w.heap.size, 0, none⟩ = some v ∧ (w'.cell? ⟨w.heap.size + 1, 0, none⟩ = some (.bool x.1) ∧ w'.cell? ⟨w.heap.size + 1, 1, none⟩ = some u1 ∧ w'.cell? ⟨w.heap.size + 1, 2, none⟩ = some u2) ∧ w'.cell? ⟨w.heap.size + 1 + 1, 0, none⟩ = some (.bool y.1) ∧ w'.cell? ⟨w.heap.size + 1 + 1, 1, none⟩ = some q1 ∧ w'.cell? ⟨w.heap.size + 1 + 1, 2, none⟩ = some q2) := fun w' hb =>
    ⟨hb.at (by simp <;> omega) (by simp [go_sem]), ⟨hb.at (by simp <;> omega) (by simp [go_sem]), hb.at (by simp <;> omega) (by simp [go_sem]), hb.at (by simp <;> omega) (by simp [go_sem])⟩, hb.at (by simp) (by simp [go_sem]), hb.at (by simp) (by simp [go_sem]), hb.at (by simp) (by simp [go_sem])⟩
  unfold litsAns litsOk
  cases hgs : goodSign ar with
  | false =>
    rw [Bool.false_and, if_neg (by simp)]
    have HG := Lib.hid (sGoodSign_v l h v ar false _ hgs ha (hv.below HB))
    clear hgs
    generalize x.1 = p at *
    generalize y.1 = q at *
    go_enter Tryd.func23, Tryd.ntmps23
    go_wp2_with fail
    refine HG.out.mono ?_; rintro e w1 ⟨rfl, hb1⟩
    go_wp2_with fail
    go_ret2
    exact ⟨rfl, HB.step hb1⟩
  | true =>
    rw [Bool.true_and]
    have HG := Lib.hid (sGoodSign_v l h v ar true _ hgs ha (hv.below HB))
    have H1 := fun (r : Bool) (hr : okLit ar x = r) (w' : World) (hb : Bel w w') => l4Lit_v l h l' h' v u1 u2 ar x.2.1 x.2.2 x.1 r w' hr hgs (by omega) (by omega) (hv.below hb) (s1.below hb) (s2.below hb)
    have H2 := fun (r : Bool) (hr : okLit ar y = r) (w' : World) (hb : Bel w w') => l4Lit_v l h l2 h2 v q1 q2 ar y.2.1 y.2.2 y.1 r w' hr hgs (by omega) (by omega) (hv.below hb) (t1.below hb) (t2.below hb)
    cases hox : okLit ar x with
    | false =>
      rw [Bool.false_and, if_neg (by simp)]
      have HL1 := Lib.hid (H1 false hox)
      clear H1 H2 hox hgs
      generalize x.1 = p at *
      generalize y.1 = q at *
      go_enter Tryd.func23, Tryd.ntmps23
      go_wp2_with fail
      refine HG.out.mono ?_; rintro e w1 ⟨rfl, hb1⟩
      obtain ⟨z, ⟨x0, x1, x2⟩, y0, y1, y2⟩ := K.out _ hb1
      have HB1 := HB.step hb1
      go_wp2_with fail
      refine (HL1.out _ HB1).mono ?_; rintro e w2 ⟨rfl, hb2⟩
      go_wp2_with fail
      go_ret2
      exact ⟨rfl, HB1.step hb2⟩
    | true =>
      rw [Bool.true_and]
      have HL1 := Lib.hid (H1 true hox)
      cases hoy : okLit ar y with
      | false =>
        rw [if_neg (by simp)]
        have HL2 := Lib.hid (H2 false hoy)
        clear H1 H2 hox hoy hgs
        generalize x.1 = p at *
        generalize y.1 = q at *
        go_enter Tryd.func23, Tryd.ntmps23
        go_wp2_with fail
        refine HG.out.mono ?_; rintro e w1 ⟨rfl, hb1⟩
        obtain ⟨z, ⟨x0, x1, x2⟩, y0, y1, y2⟩ := K.out _ hb1
        have HB1 := HB.step hb1
        go_wp2_with fail
        refine (HL1.out _ HB1).mono ?_; rintro e w2 ⟨rfl, hb2⟩
        obtain ⟨zz, ⟨xx0, xx1, xx2⟩, yy0, yy1, yy2⟩ := K.out _ (hb1.step hb2)
        have HB2 := HB1.step hb2
        go_wp2_with fail
        refine (HL2.out _ HB2).mono ?_; rintro e w3 ⟨rfl, hb3⟩
        go_wp2_with fail
        go_ret2
        exact ⟨rfl, HB2.step hb3⟩
      | true =>
        rw [if_pos rfl]
        have HL2 := Lib.hid (H2 true hoy)
        have HX := Lib.hid (fun (w' : World) (hb : Bel w w') => l4List_c l' h' x u1 u2 w' (s1.below hb) (s2.below hb))
        have HY := Lib.hid (fun (w' : World) (hb : Bel w w') => l4List_c l2 h2 y q1 q2 w' (t1.below hb) (t2.below hb))
        have HM := Lib.hid (fun (w' : World) (z1 z2 : Value) (g1 : SlS 0 w'.heap.size w' z1 (listL x)) (g2 : SlS 0 w'.heap.size w' z2 (listL y)) => l3Lists_c _ _ _ _ z1 z2 _ _ w' (listL_short hox) (listL_lowL hox) (listL_short hoy) (listL_lowL hoy) g1 g2)
        clear H1 H2 hox hoy hgs s1 s2 t1 t2
        generalize cmpL (listL x) (listL y) = r at *
        generalize listL x = X at *
        generalize listL y = Y at *
        generalize x.1 = p at *
        generalize y.1 = q at *
        go_enter Tryd.func23, Tryd.ntmps23
        go_wp2_with fail
        refine HG.out.mono ?_; rintro e w1 ⟨rfl, hb1⟩
        obtain ⟨z, ⟨x0, x1, x2⟩, y0, y1, y2⟩ := K.out _ hb1
        have HB1 := HB.step hb1
        go_wp2_with fail
        refine (HL1.out _ HB1).mono ?_; rintro e w2 ⟨rfl, hb2⟩
        obtain ⟨zz, ⟨xx0, xx1, xx2⟩, yy0, yy1, yy2⟩ := K.out _ (hb1.step hb2)
        have HB2 := HB1.step hb2
        go_wp2_with fail
        refine (HL2.out _ HB2).mono ?_; rintro e w3 ⟨rfl, hb3⟩
        have HB3 := HB2.step hb3
        have K3 := (hb1.step hb2).step hb3
        go_wp2_with fail
        have D3 := Bel.drew0 w3
        have HB0 := HB3.step D3
        have KW := K3.step D3
        go_region_held3 (fun w' => (w'.cell? ⟨w.heap.size + 1, 0, none⟩ = some (.bool p) ∧ w'.cell? ⟨w.heap.size + 1, 1, none⟩ = some u1 ∧ w'.cell? ⟨w.heap.size + 1, 2, none⟩ = some u2) ∧ w'.cell? ⟨w.heap.size + 1 + 1, 0, none⟩ = some (.bool q) ∧ w'.cell? ⟨w.heap.size + 1 + 1, 1, none⟩ = some q1 ∧ w'.cell? ⟨w.heap.size + 1 + 1, 2, none⟩ = some q2)
          (first | exact (K.out _ (KW.step ((g3.step g4).step g5))).2 | exact (K.out _ (KW.step (g3.step g4))).2 | exact (K.out _ (KW.step g3)).2 | exact (K.out _ KW).2 | fail)
          (first
            | (go_at_call 46; refine (HM.out _ _ _ R1 R2).mono ?_; rintro e w6 ⟨rfl, g5⟩)
            | (go_at_call 47; refine (HY.out _ HB4).mono ?_; rintro e w5 ⟨a2, n2, c2, rfl, r2, g4⟩; have HB5 := HB4.step g4; have R1 := (r1.bel g4).sls (g3.step g4); have R2 := r2.sls g4)
            | (go_at_call 47; refine (HX.out _ HB4).mono ?_; rintro e w5 ⟨a1, n1, c1, rfl, r1, g4⟩; have HB5 := HB4.step g4; have R2 := (r2.bel g4).sls (g3.step g4); have R1 := r1.sls g4)
            | (go_at_call 47; refine (HX.out _ HB0).mono ?_; rintro e w4 ⟨a1, n1, c1, rfl, r1, g3⟩; have HB4 := HB0.step g3)
            | (go_at_call 47; refine (HY.out _ HB0).mono ?_; rintro e w4 ⟨a2, n2, c2, rfl, r2, g3⟩; have HB4 := HB0.step g3)
            | fail)
        all_goals
          go_wp2_with fail
          go_ret2
          exact ⟨rfl, HB5.step g5⟩
end Go.Proofs.YteapfeaaofhgnaaDoor
end
section
/- Chapter 4: the ordering of lists is transitive; a clause that has a literal has a maximal one. No program. -/
namespace Go.Proofs.YteapfeaaofhgnaaDoor

theorem cmpL_gt {a b : List (List Int)} : cmpL a b = 1 ↔ minus a b ≠ [] ∧ ∀ y, a.count y < b.count y → ∃ x, above x y = true ∧ b.count x < a.count x := by
  rw [cmpL_one, dom_iff]
  refine and_congr Iff.rfl ⟨fun h y hy => ?_, fun h y hy => ?_⟩
  · obtain ⟨u, hu, k⟩ := h y (minus_mem.2 hy)
    exact ⟨u, k, minus_mem.1 hu⟩
  · obtain ⟨x, k, hx⟩ := h y (minus_mem.1 hy)
    exact ⟨x, minus_mem.2 hx, k⟩
theorem cmpL_irrefl (a : List (List Int)) : cmpL a a ≠ 1 := by
  intro h
  have h1 := (cmpL_flip a a).1.1 h
  omega
theorem cmpL_trans {M N P : List (List Int)} (h1 : cmpL M N = 1) (h2 : cmpL N P = 1) : cmpL M P = 1 := by
  have hNM : cmpL N M ≠ 1 := fun h => by have := (cmpL_flip M N).1.1 h1; omega
  obtain ⟨n1, g1⟩ := cmpL_gt.1 h1
  obtain ⟨n2, g2⟩ := cmpL_gt.1 h2
  have A : ∀ z, M.count z < N.count z → ∃ x, above x z = true ∧ P.count x < M.count x := by
    intro z hz
    obtain ⟨x0, k0, c0⟩ := g1 z hz
    have hne : (minus M N).filter (fun x => above x z) ≠ [] := by
      intro e
      have : x0 ∈ (minus M N).filter (fun x => above x z) := List.mem_filter.2 ⟨minus_mem.2 c0, k0⟩
      rw [e] at this; simp at this
    obtain ⟨m, hm, hmax⟩ := top_of _ hne
    obtain ⟨m1, m2⟩ := List.mem_filter.1 hm
    have m3 := minus_mem.1 m1
    by_cases hP : P.count m < M.count m
    · exact ⟨m, m2, hP⟩
    · obtain ⟨w, kw, cw⟩ := g2 m (by omega)
      by_cases hw : M.count w < N.count w
      · obtain ⟨x, kx, cx⟩ := g1 w hw
        have kxm := above_trans kx kw
        have := hmax x (List.mem_filter.2 ⟨minus_mem.2 cx, above_trans kxm m2⟩)
        rw [kxm] at this; simp at this
      · exact ⟨w, above_trans kw m2, by omega⟩
  have B : ∀ y, M.count y < P.count y → ∃ x, above x y = true ∧ P.count x < M.count x := by
    intro y hy
    by_cases hN : M.count y < N.count y
    · exact A y hN
    · obtain ⟨w, kw, cw⟩ := g2 y (by omega)
      by_cases hw : M.count w < N.count w
      · obtain ⟨x, kx, cx⟩ := A w hw
        exact ⟨x, above_trans kx kw, cx⟩
      · exact ⟨w, kw, by omega⟩
  refine cmpL_gt.2 ⟨fun e => ?_, B⟩
  have e0 : ∀ t, M.count t ≤ P.count t := fun t => by
    have := (nil_iff.1 e) t
    rw [minus_mem] at this; omega
  have e1 : ∀ t, P.count t = M.count t := fun t => by
    by_cases hlt : M.count t < P.count t
    · obtain ⟨x, _, cx⟩ := B t hlt
      have := e0 x; omega
    · have := e0 t; omega
  refine hNM (cmpL_gt.2 ⟨fun en => n2 (nil_iff.2 fun t ht => ?_), fun y hy => ?_⟩)
  · rw [minus_mem, e1] at ht
    exact (nil_iff.1 en) t (minus_mem.2 ht)
  · obtain ⟨x, kx, cx⟩ := g2 y (by rw [e1]; exact hy)
    exact ⟨x, kx, by rw [← e1]; exact cx⟩

theorem top_L (c : List Lt) (h : c ≠ []) : ∃ m ∈ c, ∀ x ∈ c, cmpL (listL x) (listL m) ≠ 1 := by
  induction c with
  | nil => exact absurd rfl h
  | cons y l ih =>
    by_cases hl : l = []
    · subst hl
      exact ⟨y, List.mem_cons_self, fun x hx => by simp at hx; subst hx; exact cmpL_irrefl _⟩
    · obtain ⟨m, hm, hmax⟩ := ih hl
      by_cases hy : cmpL (listL y) (listL m) = 1
      · refine ⟨y, List.mem_cons_self, fun x hx => ?_⟩
        rcases List.mem_cons.1 hx with rfl | hx
        · exact cmpL_irrefl _
        · intro hxy
          exact hmax x hx (cmpL_trans hxy hy)
      · exact ⟨m, List.mem_cons_of_mem _ hm, fun x hx => by rcases List.mem_cons.1 hx with rfl | hx; exact hy; exact hmax x hx⟩
theorem maxC_mem {c : List Lt} {k : Nat} : k ∈ maxC c ↔ k < c.length ∧ ∀ i, i < c.length → i = k ∨ cmpL (listL (c.getD i lt0)) (listL (c.getD k lt0)) ≠ 1 := by
  unfold maxC
  rw [List.mem_filter, List.mem_range]
  refine and_congr Iff.rfl ?_
  unfold maxAt
  simp only [List.all_eq_true, List.mem_range, Bool.or_eq_true, decide_eq_true_eq, Bool.not_eq_true', decide_eq_false_iff_not, ne_eq]
theorem maxC_ne {c : List Lt} (h : c ≠ []) : maxC c ≠ [] := by
  obtain ⟨m, hm, hmax⟩ := top_L c h
  obtain ⟨k, hk, rfl⟩ := List.getElem_of_mem hm
  intro e
  have : k ∈ maxC c := maxC_mem.2 ⟨hk, fun i hi => .inr (by
    have := hmax c[i] (List.getElem_mem hi)
    simpa [List.getD, hi, hk] using this)⟩
  rw [e] at this; simp at this
end Go.Proofs.YteapfeaaofhgnaaDoor
end
section
/- Chapter 4, the reference: the maximal literals. -/
namespace Go.Proofs.YteapfeaaofhgnaaDoor
open Go.RowKit

def maxTo (c : List Lt) (k m : Nat) : Prop := ∀ j, j < m → j = k ∨ cmpL (listL (c.getD j lt0)) (listL (c.getD k lt0)) ≠ 1
theorem maxTo.step {c : List Lt} {k m : Nat} (h : maxTo c k m) (hm : m = k ∨ cmpL (listL (c.getD m lt0)) (listL (c.getD k lt0)) ≠ 1) : maxTo c k (m+1) := fun j hj => by
  by_cases e : j = m
  · subst e; exact hm
  · exact h j (by omega)
theorem maxAt_true {c : List Lt} {k : Nat} (h : maxTo c k c.length) : maxAt c k = true := by
  unfold maxAt
  simp only [List.all_eq_true, List.mem_range, Bool.or_eq_true, decide_eq_true_eq, Bool.not_eq_true', decide_eq_false_iff_not]
  exact h
theorem maxAt_false {c : List Lt} {k m : Nat} (hm : m < c.length) (h : m ≠ k) (h1 : cmpL (listL (c.getD m lt0)) (listL (c.getD k lt0)) = 1) : maxAt c k = false := by
  rw [← Bool.not_eq_true]
  intro h2
  unfold maxAt at h2
  simp only [List.all_eq_true, List.mem_range, Bool.or_eq_true, decide_eq_true_eq, Bool.not_eq_true', decide_eq_false_iff_not] at h2
  rcases h2 m hm with e | e
  · exact h e
  · exact e h1
def lowC (c : List Lt) : Prop := ∀ j, j < c.length → short (listL (c.getD j lt0)) ∧ lowL (listL (c.getD j lt0))

set_option maxRecDepth 100000 in
set_option maxHeartbeats 1000000 in
theorem l4Maximal_c (l h : Nat) (v : Value) (c : List Lt) (k : Nat) (w : World) (hx : shortC c) (hk : k < c.length) (hok : lowC c) (hu : SlC l h w v c) :
    Calls Tryd.prog 33 #[v, .int .i64 k] w (RetV w (.bool (maxAt c k))) := by
  obtain ⟨ad, cap, rfl⟩ := hu.form
  obtain ⟨hxl, hxj⟩ := hx
  have hkI : (k : Int) < c.length := by omega
  go_enter Tryd.func33, Tryd.ntmps33
  go_wp2_with fail
  go_loopw [9] (fun i wr => ∃ m : Nat, m ≤ c.length ∧ i = .int .i64 m ∧ maxTo c k m ∧ Bel w wr) (fun i _ => c.length - (intOf i).toNat)
  case atStart => exact ⟨0, Nat.zero_le _, rfl, fun j hj => absurd hj (by omega), Bel.rfl' _⟩
  case round =>
    obtain ⟨m, hm, rfl, hto, hb⟩ := hrel
    by_cases hlt : m < c.length
    · obtain ⟨b, off, u1, u2, rfl, hbs, c1, c2, c3, s1, s2⟩ := hu.at hb m hlt
      obtain ⟨b', off', q1, q2, e', hbs', d1, d2, d3, t1, t2⟩ := hu.at hb k hk
      cases e'
      have hstep := hto.step
      have hbad := maxAt_false (k := k) hlt
      obtain ⟨k1, k2⟩ := hok m hlt
      obtain ⟨k3, k4⟩ := hok k hk
      have hmI : (m : Int) < c.length := by omega
      clear hto hu hok hxj
      by_cases hmk : m = k
      · subst hmk
        have E := Lib.hid (hstep (.inl rfl))
        clear hstep hbad k1 k2 k3 k4 t1 t2 d1 d2 d3 hbs'
        generalize c.getD m lt0 = x at *
        obtain ⟨p, xl, xr⟩ := x
        simp only at *
        obtain ⟨a1, e1, rfl⟩ := s1.form
        obtain ⟨a2, e2, rfl⟩ := s2.form
        clear s1 s2
        have hne : (BEq.beq (m : Int) (m : Int)) = true := by simp
        go_wp2_with fail
        go_region
        go_wp2_with fail
        go_roundw
        case rel => exact ⟨m+1, by omega, by go_num, E.out, (hb.alloc _).drew⟩
        case measure => simp [intOf]; omega
      · have hbne : ((m : Int) != (k : Int)) = true := bne_iff_ne.2 (by omega)
        have HX := Lib.hid (fun (w' : World) (hb' : Bel wr w') => l4List_c _ _ (c.getD m lt0) u1 u2 w' (s1.below hb') (s2.below hb'))
        have HY := Lib.hid (fun (w' : World) (hb' : Bel wr w') => l4List_c _ _ (c.getD k lt0) q1 q2 w' (t1.below hb') (t2.below hb'))
        have HM := Lib.hid (fun (w' : World) (z1 z2 : Value) (g1 : SlS 0 w'.heap.size w' z1 (listL (c.getD m lt0))) (g2 : SlS 0 w'.heap.size w' z2 (listL (c.getD k lt0))) => l3Lists_c _ _ _ _ z1 z2 _ _ w' k1 k2 k3 k4 g1 g2)
        have HK := Lib.hid (fun (w' : World) (hb' : Bel wr w') => (⟨hb'.at (Nat.lt_of_lt_of_le hbs' hb.size) d1, hb'.at (Nat.lt_of_lt_of_le hbs' hb.size) d2, hb'.at (Nat.lt_of_lt_of_le hbs' hb.size) d3⟩ : w'.cell? ⟨b, off + k * 3, none⟩ = some (.bool (c.getD k lt0).1) ∧ w'.cell? ⟨b, off + k * 3 + 1, none⟩ = some q1 ∧ w'.cell? ⟨b, off + k * 3 + 2, none⟩ = some q2))
        obtain ⟨a1, e1, f1⟩ := s1.form
        obtain ⟨a2, e2, f2⟩ := s2.form
        obtain ⟨a3, e3, f3⟩ := t1.form
        obtain ⟨a4, e4, f4⟩ := t2.form
        have hstep' := fun h => hstep (.inr h)
        have hbad' := hbad hmk
        clear hstep hbad k1 k2 k3 k4 s1 s2 t1 t2 hmk
        generalize c.getD m lt0 = x at *
        generalize c.getD k lt0 = y at *
        obtain ⟨p, xl, xr⟩ := x
        obtain ⟨q, yl, yr⟩ := y
        simp only at *
        subst f1 f2 f3 f4
        have D3 := Bel.drew0 (wr.alloc (.cells #[.bool p, .slice a1 xl.length e1, .slice a2 xr.length e2] 48))
        have HB0 := (Bel.alloc0 wr (.cells #[.bool p, .slice a1 xl.length e1, .slice a2 xr.length e2] 48)).step D3
        have KB : Hid (∀ w', Bel (wr.alloc (.cells #[.bool p, .slice a1 xl.length e1, .slice a2 xr.length e2] 48)) w' → w'.cell? ⟨wr.heap.size, 0, none⟩ = some (.bool p) ∧ w'.cell? ⟨wr.heap.size, 1, none⟩ = some (.slice a1 xl.length e1) ∧ w'.cell? ⟨wr.heap.size, 2, none⟩ = some (.slice a2 xr.length e2)) := Lib.hid fun w' hb' => ⟨hb'.at (by simp) (by simp [go_sem]), hb'.at (by simp) (by simp [go_sem]), hb'.at (by simp) (by simp [go_sem])⟩
        generalize listL (p, xl, xr) = X at *
        generalize listL (q, yl, yr) = Y at *
        by_cases hr : cmpL X Y = 1
        · have E := Lib.hid (hbad' hr)
          clear hstep' hbad'
          generalize cmpL X Y = r at *
          subst hr
          go_wp2_with fail
          go_region_held3 (fun w' => (w'.cell? ⟨wr.heap.size, 0, none⟩ = some (.bool p) ∧ w'.cell? ⟨wr.heap.size, 1, none⟩ = some (.slice a1 xl.length e1) ∧ w'.cell? ⟨wr.heap.size, 2, none⟩ = some (.slice a2 xr.length e2)) ∧ w'.cell? ⟨b, off + k * 3, none⟩ = some (.bool q) ∧ w'.cell? ⟨b, off + k * 3 + 1, none⟩ = some (.slice a3 yl.length e3) ∧ w'.cell? ⟨b, off + k * 3 + 2, none⟩ = some (.slice a4 yr.length e4))
            (first | exact ⟨KB.out _ (D3.step ((g3.step g4).step g5)), HK.out _ (HB0.step ((g3.step g4).step g5))⟩ | exact ⟨KB.out _ (D3.step (g3.step g4)), HK.out _ (HB0.step (g3.step g4))⟩ | exact ⟨KB.out _ (D3.step g3), HK.out _ (HB0.step g3)⟩ | exact ⟨KB.out _ D3, HK.out _ HB0⟩ | fail)
            (first
              | (go_at_call 46; refine (HM.out _ _ _ R1 R2).mono ?_; rintro e w6 ⟨rfl, g5⟩)
              | (go_at_call 47; refine (HY.out _ HB4).mono ?_; rintro e w5 ⟨z2, n2, o2, rfl, r2, g4⟩; have HB5 := HB4.step g4; have R1 := (r1.bel g4).sls (g3.step g4); have R2 := r2.sls g4)
              | (go_at_call 47; refine (HX.out _ HB4).mono ?_; rintro e w5 ⟨z1, n1, o1, rfl, r1, g4⟩; have HB5 := HB4.step g4; have R2 := (r2.bel g4).sls (g3.step g4); have R1 := r1.sls g4)
              | (go_at_call 47; refine (HX.out _ HB0).mono ?_; rintro e w4 ⟨z1, n1, o1, rfl, r1, g3⟩; have HB4 := HB0.step g3)
              | (go_at_call 47; refine (HY.out _ HB0).mono ?_; rintro e w4 ⟨z2, n2, o2, rfl, r2, g3⟩; have HB4 := HB0.step g3)
              | fail)
          all_goals
            go_wp2_with fail
            go_ret
            exact ⟨by rw [E.out]; rfl, hb.step (HB5.step g5)⟩
        · have E := Lib.hid (hstep' hr)
          clear hstep' hbad'
          generalize cmpL X Y = r at *
          go_wp2_with fail
          go_region_held3 (fun w' => (w'.cell? ⟨wr.heap.size, 0, none⟩ = some (.bool p) ∧ w'.cell? ⟨wr.heap.size, 1, none⟩ = some (.slice a1 xl.length e1) ∧ w'.cell? ⟨wr.heap.size, 2, none⟩ = some (.slice a2 xr.length e2)) ∧ w'.cell? ⟨b, off + k * 3, none⟩ = some (.bool q) ∧ w'.cell? ⟨b, off + k * 3 + 1, none⟩ = some (.slice a3 yl.length e3) ∧ w'.cell? ⟨b, off + k * 3 + 2, none⟩ = some (.slice a4 yr.length e4))
            (first | exact ⟨KB.out _ (D3.step ((g3.step g4).step g5)), HK.out _ (HB0.step ((g3.step g4).step g5))⟩ | exact ⟨KB.out _ (D3.step (g3.step g4)), HK.out _ (HB0.step (g3.step g4))⟩ | exact ⟨KB.out _ (D3.step g3), HK.out _ (HB0.step g3)⟩ | exact ⟨KB.out _ D3, HK.out _ HB0⟩ | fail)
            (first
              | (go_at_call 46; refine (HM.out _ _ _ R1 R2).mono ?_; rintro e w6 ⟨rfl, g5⟩)
              | (go_at_call 47; refine (HY.out _ HB4).mono ?_; rintro e w5 ⟨z2, n2, o2, rfl, r2, g4⟩; have HB5 := HB4.step g4; have R1 := (r1.bel g4).sls (g3.step g4); have R2 := r2.sls g4)
              | (go_at_call 47; refine (HX.out _ HB4).mono ?_; rintro e w5 ⟨z1, n1, o1, rfl, r1, g4⟩; have HB5 := HB4.step g4; have R2 := (r2.bel g4).sls (g3.step g4); have R1 := r1.sls g4)
              | (go_at_call 47; refine (HX.out _ HB0).mono ?_; rintro e w4 ⟨z1, n1, o1, rfl, r1, g3⟩; have HB4 := HB0.step g3)
              | (go_at_call 47; refine (HY.out _ HB0).mono ?_; rintro e w4 ⟨z2, n2, o2, rfl, r2, g3⟩; have HB4 := HB0.step g3)
              | fail)
          all_goals
            go_wp2_with fail
            go_roundw
          case rel => exact ⟨m+1, by omega, by go_num, E.out, hb.step (HB5.step g5)⟩
          case measure => simp [intOf]; omega
    · obtain rfl : m = c.length := by omega
      have E := Lib.hid (maxAt_true hto)
      clear hto
      go_wp2_with fail
      go_ret
      exact ⟨by rw [E.out]; rfl, hb⟩
end Go.Proofs.YteapfeaaofhgnaaDoor
end
section
/- Chapter 4, the reference: MaximalIn. -/
namespace Go.Proofs.YteapfeaaofhgnaaDoor
open Go.RowKit

def maxUp (c : List Lt) (m : Nat) : List Nat := (List.range m).filter (maxAt c)
theorem maxUp_yes {c : List Lt} {m : Nat} (h : maxAt c m = true) : maxUp c (m+1) = maxUp c m ++ [m] := by unfold maxUp; rw [List.range_succ, List.filter_append]; simp [h]
theorem maxUp_no {c : List Lt} {m : Nat} (h : maxAt c m = false) : maxUp c (m+1) = maxUp c m := by unfold maxUp; rw [List.range_succ, List.filter_append]; simp [h]
theorem maxUp_len (c : List Lt) (m : Nat) : (maxUp c m).length ≤ m := by unfold maxUp; exact Nat.le_trans (List.length_filter_le _ _) (by simp)
theorem okLits_low {ar : List Int} {c : List Lt} (h : okLits ar c = true) : lowC c := fun j hj => by
  have : okLit ar (c.getD j lt0) = true := by
    exact (okLits_iff.1 h).2 _ (mem_getD c lt0 j hj)
  exact ⟨listL_short this, listL_lowL this⟩
/-- What MaximalIn answers. -/
def maxAns (ar : List Int) (c : List Lt) : List Int := if goodClause ar c then natsI (maxC c) else []

theorem l4Maximal_v (l h : Nat) (v : Value) (c : List Lt) (k : Nat) (q : Bool) (w : World) (hq : maxAt c k = q) (hx : shortC c) (hk : k < c.length) (hok : lowC c) (hu : SlC l h w v c) :
    Calls Tryd.prog 33 #[v, .int .i64 k] w (RetV w (.bool q)) := by subst hq; exact l4Maximal_c l h v c k w hx hk hok hu

set_option maxRecDepth 100000 in
set_option maxHeartbeats 1000000 in
theorem sMaximalIn_t {l h l' h' : Nat} {v u : Value} {ar : List Int} {c : List Lt} {w : World} (ha : ar.length ≤ 1048576) (hv : SlI l h w v ar) (hc : sumC c ≤ 1048576) (hu : SlC l' h' w u c) :
    Calls Tryd.prog 7 #[.agg #[v], u] w (RetIB w (maxAns ar c) (goodClause ar c)) := by
  obtain ⟨i0, hi0, hz0, hz1, hz2⟩ := info_parts Tryd.info3
  unfold maxAns
  cases hg : goodClause ar c with
  | false =>
    rw [if_neg (by simp)]
    have HG := Lib.hid hg; clear hg
    go_enter Tryd.func7, Tryd.ntmps7
    go_wp2_with fail
    refine (sGoodClause_v HG.out ha (hv.alloc _) hc (hu.alloc _)).mono ?_; rintro e w1 ⟨rfl, hb1⟩
    go_wp2_with fail
    go_ret2
    exact ⟨_, _, _, rfl, OwnI.nil _ _ _, hb1.of_alloc⟩
  | true =>
    rw [if_pos rfl]
    have hsh := shortC_of_sum hc
    have hlow : lowC c := by unfold goodClause at hg; exact okLits_low (Bool.and_eq_true_iff.1 hg).2
    have HG := Lib.hid hg; clear hg
    have hxl : c.length ≤ 1048576 := hsh.1
    obtain ⟨ad, cap, rfl⟩ := hu.form
    have HS := Lib.hid hsh
    clear hsh
    go_enter Tryd.func7, Tryd.ntmps7
    go_wp2_with fail
    refine (sGoodClause_v HG.out ha (hv.alloc _) hc (hu.alloc _)).mono ?_; rintro e w1 ⟨rfl, hb1⟩
    have hb0 := hb1
    go_wp2_with fail
    go_loopw [6, 14] (fun vs i wr => ∃ m : Nat, m ≤ c.length ∧ i = .int .i64 m ∧ wr.ownsRow (w.heap.size + 1) 3 1 vs (natsI (maxUp c m)).length ((natsI (maxUp c m)).map (Value.int .i64)) ∧ Bel (w.alloc (.cells #[v] 30)) wr) (fun _ i _ => c.length - (intOf i).toNat)
    case atStart => exact ⟨0, Nat.zero_le _, rfl, World.ownsRow_nil _ _ _ _, hb1⟩
    case round =>
      obtain ⟨m, hm, rfl, hown, hb⟩ := hrel
      by_cases hlt : m < c.length
      · have hyes := maxUp_yes (c := c) (m := m)
        have hno := maxUp_no (c := c) (m := m)
        have HC := fun (q : Bool) (hq : maxAt c m = q) => l4Maximal_v _ _ _ c m q wr hq HS.out hlt hlow (hu.below hb.of_alloc)
        have hal : (natsI (maxUp c m)).length ≤ 1048576 := by rw [natsI_len]; have := maxUp_len c m; omega
        cases hq : maxAt c m with
        | false =>
          have HCC := Lib.hid (HC _ hq)
          have E := Lib.hid (hno hq)
          clear hyes hno HC hq
          go_wp2_with fail
          refine HCC.out.mono ?_; rintro e w2 ⟨rfl, hb2⟩
          have hown2 := ownsRow_bel hown hb2
          go_wp2_with fail
          go_roundw
          case rel => exact ⟨m+1, by omega, by go_num, by rw [E.out]; exact hown2, hb.step hb2⟩
          case measure => simp [intOf]; omega
        | true =>
          have HCC := Lib.hid (HC _ hq)
          have E : Hid (natsI (maxUp c (m+1)) = natsI (maxUp c m) ++ [(m : Int)]) := Lib.hid (by rw [hyes hq, natsI_snoc])
          clear hyes hno HC hq
          go_wp2_with fail
          refine HCC.out.mono ?_; rintro e w2 ⟨rfl, hb2⟩
          have hown2 := ownsRow_bel hown hb2
          have hb3 := hb.step hb2
          clear hown hb hb2
          generalize natsI (maxUp c m) = xs at *
          go_wp2_with (at_builtin; refine wpList_append_own _ rfl _ _ 22 rfl (w.heap.size + 1) 3 i0 (.int .i64 0) 1 8 Tryd.underlying22 hi0 hz0 hz1 hz2 rfl (by decide) _ _ _ rfl (hown2.alloc _) ⟨w2.heap.size, 0, none⟩ 1 1 [.int .i64 m] rfl rfl (news_one _ _ _) (one_int _) (by unfold maxLen; omega) (by omega) (by have := hb3.size; simp at *; omega) ?_; intro v' w3 hown' hgrow _)
          have hown3 := row_snoc hown'
          rw [← E.out] at hown3
          exact ⟨⟨m+1, by omega, by go_num, hown3, (hb3.alloc (.cells #[.int .i64 m] 3)).grown hgrow (fun k hk => by have := own_base hown2 k hk; simp; omega)⟩, by simp [intOf]; omega⟩
      · obtain rfl : m = c.length := by omega
        go_wp2_with fail
        obtain ⟨g, n, o, hv'⟩ := own_form hown
        subst hv'
        go_ret2
        exact ⟨_, _, _, rfl, (OwnI.of_row hown).mono (by omega) (Nat.le_refl _), hb.of_alloc⟩
end Go.Proofs.YteapfeaaofhgnaaDoor
end
section
/- Chapter 4, the program: MaximalIn. -/
namespace Go.Proofs.YteapfeaaofhgnaaDoor
open Go.RowKit

theorem anyF_take {f : Lt → Bool} {c : List Lt} {k : Nat} (hk : k < c.length) (hn : (c.take k).any f = false) : (c.take (k+1)).any f = f (c.getD k lt0) := by
  rw [List.take_add_one, List.any_append, hn, List.getElem?_eq_getElem hk]; simp [List.getD, hk]
theorem anyF_yes {f : Lt → Bool} {c : List Lt} {k : Nat} (hk : k < c.length) (h : f (c.getD k lt0) = true) : c.any f = true := List.any_eq_true.2 ⟨_, mem_getD c lt0 k hk, h⟩
theorem anyF_end {f : Lt → Bool} {c : List Lt} {k : Nat} (hk : ¬ k < c.length) (hn : (c.take k).any f = false) : c.any f = false := by rw [List.take_of_length_le (by omega)] at hn; exact hn
def overF (Y : List (List Int)) (u : Lt) : Bool := decide (cmpL (listL u) Y = 1)
theorem over_max {c : List Lt} {k : Nat} : c.any (overF (listL (c.getD k lt0))) = !maxAt c k := by
  cases h : maxAt c k with
  | true =>
    unfold maxAt at h
    simp only [List.all_eq_true, List.mem_range, Bool.or_eq_true, decide_eq_true_eq, Bool.not_eq_true', decide_eq_false_iff_not] at h
    refine (Bool.eq_false_iff.2 fun h2 => ?_)
    obtain ⟨x, hx, hc⟩ := List.any_eq_true.1 h2
    obtain ⟨i, hi, rfl⟩ := List.getElem_of_mem hx
    have hc : cmpL (listL c[i]) (listL (c.getD k lt0)) = 1 := of_decide_eq_true hc
    rcases h i hi with e | e
    · subst e
      have : c.getD i lt0 = c[i] := by simp [List.getD, hi]
      rw [this] at hc
      exact cmpL_irrefl _ hc
    · have : c.getD i lt0 = c[i] := by simp [List.getD, hi]
      rw [this] at e
      exact e hc
  | false =>
    show _ = true
    cases h2 : c.any (overF (listL (c.getD k lt0))) with
    | true => rfl
    | false =>
      have h3 : maxAt c k = true := by
        unfold maxAt
        simp only [List.all_eq_true, List.mem_range, Bool.or_eq_true, decide_eq_true_eq, Bool.not_eq_true', decide_eq_false_iff_not]
        refine fun i hi => .inr fun h4 => ?_
        have := List.any_eq_false.1 h2 _ (mem_getD c lt0 i hi)
        exact this (decide_eq_true h4)
      rw [h] at h3
      cases h3

set_option maxRecDepth 100000 in
set_option maxHeartbeats 400000 in
theorem overFn_c (l h l' h' g g2 k : Nat) (x : Lt) (c : List Lt) (u1 u2 vc : Value) (q : Bool) (w : World) (he : overF (listL (c.getD k lt0)) x = q) (hT : Tab w) (hsx : short (listL x)) (hlx : lowL (listL x)) (hsy : short (listL (c.getD k lt0))) (hly : lowL (listL (c.getD k lt0))) (hk : k < c.length) (h1 : SlI l h w u1 x.2.1) (h2 : SlI l h w u2 x.2.2) (hv : SlC l' h' w vc c)
    (hc1 : w.cell? ⟨g, 0, none⟩ = some vc) (hc2 : w.cell? ⟨g2, 0, none⟩ = some (.int .i64 k)) :
    Calls Tryd.prog 61 #[.agg #[.bool x.1, u1, u2], .pointer (some ⟨g, 0, none⟩), .pointer (some ⟨g2, 0, none⟩)] w (RetV w (.bool q)) := by
  obtain ⟨ad, cap, rfl⟩ := hv.form
  obtain ⟨b, off, q1, q2, rfl, hbs, d1, d2, d3, t1, t2⟩ := hv.at (Bel.rfl' w) k hk
  have hgl := World.block_lt_of_cell? w ⟨g, 0, none⟩ hc1
  have hgl2 := World.block_lt_of_cell? w ⟨g2, 0, none⟩ hc2
  have hkI : (k : Int) < c.length := by omega
  have HC := Lib.hid (fun (w' : World) (hb : Bel w w') => comparedLits_c _ _ _ _ x (c.getD k lt0) u1 u2 q1 q2 w' (hT.bel hb) hsx hlx hsy hly (h1.below hb) (h2.below hb) (t1.below hb) (t2.below hb))
  have HE := Lib.hid he
  clear he hv hsx hlx hsy hly
  unfold overF at HE
  generalize cmpL (listL x) (listL (c.getD k lt0)) = r at *
  generalize c.getD k lt0 = y at *
  obtain ⟨px, xl, xr⟩ := x
  obtain ⟨py, yl, yr⟩ := y
  simp only at *
  obtain ⟨a1, e1, rfl⟩ := h1.form
  obtain ⟨a2, e2, rfl⟩ := h2.form
  obtain ⟨a3, e3, rfl⟩ := t1.form
  obtain ⟨a4, e4, rfl⟩ := t2.form
  clear h1 h2 t1 t2
  have B0 := (Bel.alloc0 w (.cells #[.bool px, .slice a1 xl.length e1, .slice a2 xr.length e2] 48)).drew
  have f0 : (w.alloc (.cells #[.bool px, .slice a1 xl.length e1, .slice a2 xr.length e2] 48)).drew.cell? ⟨w.heap.size, 0, none⟩ = some (.bool px) := boxc ((Bel.rfl' _).drew) 0 _ rfl
  have f1 : (w.alloc (.cells #[.bool px, .slice a1 xl.length e1, .slice a2 xr.length e2] 48)).drew.cell? ⟨w.heap.size, 1, none⟩ = some (.slice a1 xl.length e1) := boxc ((Bel.rfl' _).drew) 1 _ rfl
  have f2 : (w.alloc (.cells #[.bool px, .slice a1 xl.length e1, .slice a2 xr.length e2] 48)).drew.cell? ⟨w.heap.size, 2, none⟩ = some (.slice a2 xr.length e2) := boxc ((Bel.rfl' _).drew) 2 _ rfl
  have f3 := B0.at hgl hc1
  have f4 := B0.at hgl2 hc2
  have f5 := B0.at hbs d1
  have f6 := B0.at hbs d2
  have f7 := B0.at hbs d3
  have HF := Lib.hid (fun (w' : World) (hb : Bel (w.alloc (.cells #[.bool px, .slice a1 xl.length e1, .slice a2 xr.length e2] 48)).drew w') => (⟨hb.at (World.block_lt_of_cell? _ ⟨_, _, none⟩ f0) f0, hb.at (World.block_lt_of_cell? _ ⟨_, _, none⟩ f1) f1, hb.at (World.block_lt_of_cell? _ ⟨_, _, none⟩ f2) f2, hb.at (World.block_lt_of_cell? _ ⟨_, _, none⟩ f3) f3, hb.at (World.block_lt_of_cell? _ ⟨_, _, none⟩ f4) f4, hb.at (World.block_lt_of_cell? _ ⟨_, _, none⟩ f5) f5, hb.at (World.block_lt_of_cell? _ ⟨_, _, none⟩ f6) f6, hb.at (World.block_lt_of_cell? _ ⟨_, _, none⟩ f7) f7⟩ : (w'.cell? ⟨w.heap.size, 0, none⟩ = some (.bool px) ∧ w'.cell? ⟨w.heap.size, 1, none⟩ = some (.slice a1 xl.length e1) ∧ w'.cell? ⟨w.heap.size, 2, none⟩ = some (.slice a2 xr.length e2) ∧ w'.cell? ⟨g, 0, none⟩ = some (.slice (some ⟨b, off, none⟩) c.length cap) ∧ w'.cell? ⟨g2, 0, none⟩ = some (.int .i64 k) ∧ w'.cell? ⟨b, off + k * 3, none⟩ = some (.bool py) ∧ w'.cell? ⟨b, off + k * 3 + 1, none⟩ = some (.slice a3 yl.length e3) ∧ w'.cell? ⟨b, off + k * 3 + 2, none⟩ = some (.slice a4 yr.length e4))))
  clear d1 d2 d3 hc1 hc2 f0 f1 f2 f3 f4 f5 f6 f7
  go_enter Tryd.func61, Tryd.ntmps61
  go_wp2_with fail
  go_region_held3 (fun w' => w'.cell? ⟨w.heap.size, 0, none⟩ = some (.bool px) ∧ w'.cell? ⟨w.heap.size, 1, none⟩ = some (.slice a1 xl.length e1) ∧ w'.cell? ⟨w.heap.size, 2, none⟩ = some (.slice a2 xr.length e2) ∧ w'.cell? ⟨g, 0, none⟩ = some (.slice (some ⟨b, off, none⟩) c.length cap) ∧ w'.cell? ⟨g2, 0, none⟩ = some (.int .i64 k) ∧ w'.cell? ⟨b, off + k * 3, none⟩ = some (.bool py) ∧ w'.cell? ⟨b, off + k * 3 + 1, none⟩ = some (.slice a3 yl.length e3) ∧ w'.cell? ⟨b, off + k * 3 + 2, none⟩ = some (.slice a4 yr.length e4))
    (first | exact HF.out _ (Bel.rfl' _) | exact HF.out _ hb1 | fail)
    (first | (go_at_call 40; refine (HC.out _ B0).mono ?_; rintro e w1 ⟨rfl, hb1⟩) | fail)
  all_goals
    go_wp2_with fail
    go_ret
    exact ⟨by rw [← HE.out]; simp [Bool.beq_eq_decide_eq], B0.step hb1⟩

set_option maxRecDepth 100000 in
set_option maxHeartbeats 400000 in
theorem indexLit_c (l h l' h' g g2 n : Nat) (v vc : Value) (c d : List Lt) (w : World) (hT : Tab w) (hx : shortC c) (hok : lowC c) (hn : n < d.length) (hsy : short (listL (d.getD n lt0))) (hly : lowL (listL (d.getD n lt0))) (hd : SlC l' h' w vc d)
    (hc1 : w.cell? ⟨g, 0, none⟩ = some vc) (hc2 : w.cell? ⟨g2, 0, none⟩ = some (.int .i64 n)) (hv : SlC l h w v c) :
    Calls Tryd.prog 81 #[v, .func (.func 61) #[] #[.pointer (some ⟨g, 0, none⟩), .pointer (some ⟨g2, 0, none⟩)]] w (RetIx w (c.any (overF (listL (d.getD n lt0))))) := by
  have eg : ∀ args w, (callFunc 61 args).run Tryd.prog w = .ok (.enter 61 args) w := enters_of Tryd.func61 (by kernel_rfl) rfl
  obtain ⟨ad, cap, rfl⟩ := hv.form
  obtain ⟨hcl, hcm⟩ := hx
  have hgl := World.block_lt_of_cell? w ⟨g, 0, none⟩ hc1
  have hgl2 := World.block_lt_of_cell? w ⟨g2, 0, none⟩ hc2
  have HDF := Lib.hid (fun (wr : World) (k : Nat) (u1 u2 : Value) (q : Bool) (hb : Bel w wr) (hk : k < c.length) (he : overF (listL (d.getD n lt0)) (c.getD k lt0) = q) (s1 : SlI l h wr u1 (c.getD k lt0).2.1) (s2 : SlI l h wr u2 (c.getD k lt0).2.2) => overFn_c _ _ _ _ g g2 n (c.getD k lt0) d u1 u2 vc q wr he (hT.bel hb) (hok k hk).1 (hok k hk).2 hsy hly hn s1 s2 (hd.below hb) (hb.at hgl hc1) (hb.at hgl2 hc2))
  clear hsy hly hn hd hc1 hc2 hok hT
  generalize overF (listL (d.getD n lt0)) = G at *
  go_enter Tryd.func81, Tryd.ntmps81
  go_wp2_with fail
  go_loopw [8] (fun i wr => ∃ k : Nat, k ≤ c.length ∧ i = .int .i64 k ∧ (c.take k).any G = false ∧ Bel w wr) (fun i _ => c.length - (intOf i).toNat)
  case atStart => exact ⟨0, Nat.zero_le _, rfl, rfl, Bel.rfl' _⟩
  case round =>
    obtain ⟨k, hk, rfl, hnn, hb⟩ := hrel
    by_cases hkl : k < c.length
    · obtain ⟨bb, off, u1, u2, rfl, hbs, c1, c2, c3, s1, s2⟩ := hv.at hb k hkl
      have HD := fun (q : Bool) (he : G (c.getD k lt0) = q) => HDF.out wr k u1 u2 q hb hkl he s1 s2
      have HN := Lib.hid (And.intro (anyF_take hkl hnn) (fun h => anyF_yes (f := G) hkl h))
      clear hnn hv hcm HDF
      generalize c.getD k lt0 = x at *
      obtain ⟨p, xl, xr⟩ := x
      simp only at *
      obtain ⟨a1, e1, rfl⟩ := s1.form
      obtain ⟨a2, e2, rfl⟩ := s2.form
      clear s1 s2
      cases hab : G (p, xl, xr) with
      | true =>
        have HDD := Lib.hid (HD _ hab)
        have E := Lib.hid (HN.out.2 hab)
        clear HN hab HD
        go_wp2_with (go_at_fn 61; refine HDD.out.mono ?_; rintro e w2 ⟨rfl, hb2⟩)
        go_ret
        exact ⟨_, rfl, by rw [E.out]; simp, hb.step hb2⟩
      | false =>
        have HDD := Lib.hid (HD _ hab)
        have E := Lib.hid (HN.out.1.trans hab)
        clear HN hab HD
        go_wp2_with (go_at_fn 61; refine HDD.out.mono ?_; rintro e w2 ⟨rfl, hb2⟩)
        go_roundw
        case rel => exact ⟨k+1, by omega, by go_num, E.out, hb.step hb2⟩
        case measure => simp [intOf]; omega
    · have E := Lib.hid (anyF_end hkl hnn)
      clear hnn
      go_wp2_with fail
      go_ret
      exact ⟨_, rfl, by rw [E.out]; rfl, hb⟩
theorem containsLit_c (l h l' h' g g2 n : Nat) (v vc : Value) (c d : List Lt) (q : Bool) (w : World) (he : c.any (overF (listL (d.getD n lt0))) = q) (hT : Tab w) (hx : shortC c) (hok : lowC c) (hn : n < d.length) (hsy : short (listL (d.getD n lt0))) (hly : lowL (listL (d.getD n lt0))) (hd : SlC l' h' w vc d)
    (hc1 : w.cell? ⟨g, 0, none⟩ = some vc) (hc2 : w.cell? ⟨g2, 0, none⟩ = some (.int .i64 n)) (hv : SlC l h w v c) :
    Calls Tryd.prog 62 #[v, .func (.func 61) #[] #[.pointer (some ⟨g, 0, none⟩), .pointer (some ⟨g2, 0, none⟩)]] w (RetV w (.bool q)) := by
  have HI := Lib.hid (indexLit_c l h l' h' g g2 n v vc c d w hT hx hok hn hsy hly hd hc1 hc2 hv)
  rw [he] at HI
  obtain ⟨ad, cap, rfl⟩ := hv.form
  clear he
  go_enter Tryd.func62, Tryd.ntmps62
  go_wp2_with fail
  refine HI.out.mono ?_; rintro e w1 ⟨x, rfl, hx, hb1⟩
  go_wp2_with fail
  go_ret
  subst hx
  exact ⟨rfl, hb1⟩

set_option maxRecDepth 100000 in
set_option maxHeartbeats 400000 in
theorem isMaximal_c (l h : Nat) (v : Value) (c : List Lt) (n : Nat) (w : World) (hT : Tab w) (hx : shortC c) (hok : lowC c) (hn : n < c.length) (hu : SlC l h w v c) :
    Calls Tryd.prog 37 #[v, .int .i64 n] w (RetV w (.bool (maxAt c n))) := by
  have hmf : ∀ (fn : Fn) (first cap : Array Value) (w : World), (Instr.makeFunc fn first cap).run Tryd.prog w = .ok (.func fn first cap) w := fun _ _ _ _ => rfl
  obtain ⟨ad, cap, rfl⟩ := hu.form
  obtain ⟨k1, k2⟩ := hok n hn
  have HC := Lib.hid (fun (w' : World) (hb' : Bel w w') (g1 : w'.cell? ⟨w.heap.size, 0, none⟩ = some (.slice ad c.length cap)) (g2 : w'.cell? ⟨w.heap.size + 1, 0, none⟩ = some (.int .i64 n)) => containsLit_c _ _ _ _ w.heap.size (w.heap.size + 1) n (.slice ad c.length cap) (.slice ad c.length cap) c c (!maxAt c n) w' over_max (hT.bel hb') hx hok hn k1 k2 (hu.below hb') g1 g2 (hu.below hb'))
  have hs := Bel.alloc2 w (.cells #[.slice ad c.length cap] 32) (.cells #[.int .i64 n] 3)
  have g1 : ((w.alloc (.cells #[.slice ad c.length cap] 32)).alloc (.cells #[.int .i64 n] 3)).cell? ⟨w.heap.size, 0, none⟩ = some (.slice ad c.length cap) := boxc (Bel.alloc0 _ _) 0 _ rfl
  have g2 : ((w.alloc (.cells #[.slice ad c.length cap] 32)).alloc (.cells #[.int .i64 n] 3)).cell? ⟨w.heap.size + 1, 0, none⟩ = some (.int .i64 n) := by
    have := boxc (Bel.rfl' ((w.alloc (.cells #[.slice ad c.length cap] 32)).alloc (.cells #[.int .i64 n] 3))) 0 _ rfl
    rw [World.size_alloc] at this
    exact this
  have HCC := Lib.hid (HC.out _ hs g1 g2)
  clear HC hu hx hok k1 k2
  generalize maxAt c n = q at *
  go_enter Tryd.func37, Tryd.ntmps37
  go_wp2_with fail
  refine HCC.out.mono ?_; rintro e w1 ⟨rfl, hb1⟩
  go_wp2_with fail
  go_ret
  exact ⟨by simp, hs.step hb1⟩
theorem isMaximal_v (l h : Nat) (v : Value) (c : List Lt) (n : Nat) (q : Bool) (w : World) (hq : maxAt c n = q) (hT : Tab w) (hx : shortC c) (hok : lowC c) (hn : n < c.length) (hu : SlC l h w v c) :
    Calls Tryd.prog 37 #[v, .int .i64 n] w (RetV w (.bool q)) := by subst hq; exact isMaximal_c l h v c n w hT hx hok hn hu
end Go.Proofs.YteapfeaaofhgnaaDoor
end
