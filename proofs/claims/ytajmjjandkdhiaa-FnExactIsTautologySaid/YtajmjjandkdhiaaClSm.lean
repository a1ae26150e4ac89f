/- Chapter 4, the reference: literals of the same terms. -/
import Derived.Test.YtajmjjandkdhiaaClS3
import Derived.Test.YtajmjjandkdhiaaSame
namespace Go.Proofs.Ytajmjjandkdhiaa
open Go.RowKit

theorem l1Same_w (l h l' h' : Nat) (v u : Value) (xs ys : List Int) (q : Bool) (w : World) (hq : decide (xs = ys) = q) (hx : xs.length ≤ 1048576) (hy : ys.length ≤ 1048576) (hv : SlI l h w v xs) (hu : SlI l' h' w u ys) :
    Calls Try.prog 111 #[v, u] w (RetV w (.bool q)) := by subst hq; exact l1Same_c l h l' h' v u xs ys w hx hy hv hu

set_option maxRecDepth 100000 in
set_option maxHeartbeats 2000000 in
theorem l4SameTerms_c (l h l' h' : Nat) (x y : Lt) (u1 u2 q1 q2 : Value) (w : World) (h1 : x.2.1.length ≤ 1048576) (h2 : x.2.2.length ≤ 1048576) (h3 : y.2.1.length ≤ 1048576) (h4 : y.2.2.length ≤ 1048576)
    (s1 : SlI l h w u1 x.2.1) (s2 : SlI l h w u2 x.2.2) (t1 : SlI l' h' w q1 y.2.1) (t2 : SlI l' h' w q2 y.2.2) :
    Calls Try.prog 112 #[.agg #[.bool x.1, u1, u2], .agg #[.bool y.1, q1, q2]] w (RetV w (.bool (sameTs x y))) := by
  obtain ⟨p, xl, xr⟩ := x
  obtain ⟨q, yl, yr⟩ := y
  simp only at *
  unfold sameTs
  simp only
  have HB : Bel w ((w.alloc (.cells #[.bool p, u1, u2] 68)).alloc (.cells #[.bool q, q1, q2] 68)) := Bel.alloc2 _ _ _
  have HK : Hid (∀ w', Bel ((w.alloc (.cells #[.bool p, u1, u2] 68)).alloc (.cells #[.bool q, q1, q2] 68)) w' → (w'.cell? ⟨w.heap.size, 1, none⟩ = some u1 ∧ w'.cell? ⟨w.heap.size, 2, none⟩ = some u2) ∧ w'.cell? ⟨w.heap.size + 1, 1, none⟩ = some q1 ∧ w'.cell? ⟨w.heap.size + 1, 2, none⟩ = some q2) := fun w' hb =>
    ⟨⟨hb.at (by simp; omega) (by simp [go_sem]), hb.at (by simp; omega) (by simp [go_sem])⟩, hb.at (by simp) (by simp [go_sem]), hb.at (by simp) (by simp [go_sem])⟩
  have H1 := fun (r : Bool) (hr : decide (xl = yl) = r) (w' : World) (hb : Bel w w') => l1Same_w _ _ _ _ _ _ xl yl r w' hr h1 h3 (s1.below hb) (t1.below hb)
  have H2 := fun (r : Bool) (hr : decide (xr = yr) = r) (w' : World) (hb : Bel w w') => l1Same_w _ _ _ _ _ _ xr yr r w' hr h2 h4 (s2.below hb) (t2.below hb)
  have H3 := fun (r : Bool) (hr : decide (xl = yr) = r) (w' : World) (hb : Bel w w') => l1Same_w _ _ _ _ _ _ xl yr r w' hr h1 h4 (s1.below hb) (t2.below hb)
  have H4 := fun (r : Bool) (hr : decide (xr = yl) = r) (w' : World) (hb : Bel w w') => l1Same_w _ _ _ _ _ _ xr yl r w' hr h2 h3 (s2.below hb) (t1.below hb)
  clear s1 s2 t1 t2
  generalize decide (xl = yl) = e1 at *
  generalize decide (xr = yr) = e2 at *
  generalize decide (xl = yr) = e3 at *
  generalize decide (xr = yl) = e4 at *
  have H1 := Lib.hid (H1 e1 rfl)
  have H2 := Lib.hid (H2 e2 rfl)
  have H3 := Lib.hid (H3 e3 rfl)
  have H4 := Lib.hid (H4 e4 rfl)
  cases e1 with
  | false =>
    cases e3 with
    | false =>
      go_enter Try.func112, Try.ntmps112
      go_wp2_with fail
      refine (H1.out _ HB).mono ?_; rintro e w1 ⟨rfl, hb1⟩
      have B1 := HB.step hb1
      have G1 := hb1
      obtain ⟨⟨x11, x21⟩, y11, y21⟩ := HK.out _ G1
      go_wp2_with fail
      refine (H3.out _ B1).mono ?_; rintro e w2 ⟨rfl, hb2⟩
      have B2 := B1.step hb2
      have G2 := G1.step hb2
      obtain ⟨⟨x12, x22⟩, y12, y22⟩ := HK.out _ G2
      go_wp2_with fail
      go_ret
      exact ⟨rfl, B2⟩
    | true =>
      cases e4 with
      | false =>
        go_enter Try.func112, Try.ntmps112
        go_wp2_with fail
        refine (H1.out _ HB).mono ?_; rintro e w1 ⟨rfl, hb1⟩
        have B1 := HB.step hb1
        have G1 := hb1
        obtain ⟨⟨x11, x21⟩, y11, y21⟩ := HK.out _ G1
        go_wp2_with fail
        refine (H3.out _ B1).mono ?_; rintro e w2 ⟨rfl, hb2⟩
        have B2 := B1.step hb2
        have G2 := G1.step hb2
        obtain ⟨⟨x12, x22⟩, y12, y22⟩ := HK.out _ G2
        go_wp2_with fail
        refine (H4.out _ B2).mono ?_; rintro e w3 ⟨rfl, hb3⟩
        have B3 := B2.step hb3
        have G3 := G2.step hb3
        obtain ⟨⟨x13, x23⟩, y13, y23⟩ := HK.out _ G3
        go_wp2_with fail
        go_ret
        exact ⟨rfl, B3⟩
      | true =>
        go_enter Try.func112, Try.ntmps112
        go_wp2_with fail
        refine (H1.out _ HB).mono ?_; rintro e w1 ⟨rfl, hb1⟩
        have B1 := HB.step hb1
        have G1 := hb1
        obtain ⟨⟨x11, x21⟩, y11, y21⟩ := HK.out _ G1
        go_wp2_with fail
        refine (H3.out _ B1).mono ?_; rintro e w2 ⟨rfl, hb2⟩
        have B2 := B1.step hb2
        have G2 := G1.step hb2
        obtain ⟨⟨x12, x22⟩, y12, y22⟩ := HK.out _ G2
        go_wp2_with fail
        refine (H4.out _ B2).mono ?_; rintro e w3 ⟨rfl, hb3⟩
        have B3 := B2.step hb3
        have G3 := G2.step hb3
        obtain ⟨⟨x13, x23⟩, y13, y23⟩ := HK.out _ G3
        go_wp2_with fail
        go_ret
        exact ⟨rfl, B3⟩
  | true =>
    cases e2 with
    | false =>
      cases e3 with
      | false =>
        go_enter Try.func112, Try.ntmps112
        go_wp2_with fail
        refine (H1.out _ HB).mono ?_; rintro e w1 ⟨rfl, hb1⟩
        have B1 := HB.step hb1
        have G1 := hb1
        obtain ⟨⟨x11, x21⟩, y11, y21⟩ := HK.out _ G1
        go_wp2_with fail
        refine (H2.out _ B1).mono ?_; rintro e w2 ⟨rfl, hb2⟩
        have B2 := B1.step hb2
        have G2 := G1.step hb2
        obtain ⟨⟨x12, x22⟩, y12, y22⟩ := HK.out _ G2
        go_wp2_with fail
        refine (H3.out _ B2).mono ?_; rintro e w3 ⟨rfl, hb3⟩
        have B3 := B2.step hb3
        have G3 := G2.step hb3
        obtain ⟨⟨x13, x23⟩, y13, y23⟩ := HK.out _ G3
        go_wp2_with fail
        go_ret
        exact ⟨rfl, B3⟩
      | true =>
        cases e4 with
        | false =>
          go_enter Try.func112, Try.ntmps112
          go_wp2_with fail
          refine (H1.out _ HB).mono ?_; rintro e w1 ⟨rfl, hb1⟩
          have B1 := HB.step hb1
          have G1 := hb1
          obtain ⟨⟨x11, x21⟩, y11, y21⟩ := HK.out _ G1
          go_wp2_with fail
          refine (H2.out _ B1).mono ?_; rintro e w2 ⟨rfl, hb2⟩
          have B2 := B1.step hb2
          have G2 := G1.step hb2
          obtain ⟨⟨x12, x22⟩, y12, y22⟩ := HK.out _ G2
          go_wp2_with fail
          refine (H3.out _ B2).mono ?_; rintro e w3 ⟨rfl, hb3⟩
          have B3 := B2.step hb3
          have G3 := G2.step hb3
          obtain ⟨⟨x13, x23⟩, y13, y23⟩ := HK.out _ G3
          go_wp2_with fail
          refine (H4.out _ B3).mono ?_; rintro e w4 ⟨rfl, hb4⟩
          have B4 := B3.step hb4
          have G4 := G3.step hb4
          obtain ⟨⟨x14, x24⟩, y14, y24⟩ := HK.out _ G4
          go_wp2_with fail
          go_ret
          exact ⟨rfl, B4⟩
        | true =>
          go_enter Try.func112, Try.ntmps112
          go_wp2_with fail
          refine (H1.out _ HB).mono ?_; rintro e w1 ⟨rfl, hb1⟩
          have B1 := HB.step hb1
          have G1 := hb1
          obtain ⟨⟨x11, x21⟩, y11, y21⟩ := HK.out _ G1
          go_wp2_with fail
          refine (H2.out _ B1).mono ?_; rintro e w2 ⟨rfl, hb2⟩
          have B2 := B1.step hb2
          have G2 := G1.step hb2
          obtain ⟨⟨x12, x22⟩, y12, y22⟩ := HK.out _ G2
          go_wp2_with fail
          refine (H3.out _ B2).mono ?_; rintro e w3 ⟨rfl, hb3⟩
          have B3 := B2.step hb3
          have G3 := G2.step hb3
          obtain ⟨⟨x13, x23⟩, y13, y23⟩ := HK.out _ G3
          go_wp2_with fail
          refine (H4.out _ B3).mono ?_; rintro e w4 ⟨rfl, hb4⟩
          have B4 := B3.step hb4
          have G4 := G3.step hb4
          obtain ⟨⟨x14, x24⟩, y14, y24⟩ := HK.out _ G4
          go_wp2_with fail
          go_ret
          exact ⟨rfl, B4⟩
    | true =>
      go_enter Try.func112, Try.ntmps112
      go_wp2_with fail
      refine (H1.out _ HB).mono ?_; rintro e w1 ⟨rfl, hb1⟩
      have B1 := HB.step hb1
      have G1 := hb1
      obtain ⟨⟨x11, x21⟩, y11, y21⟩ := HK.out _ G1
      go_wp2_with fail
      refine (H2.out _ B1).mono ?_; rintro e w2 ⟨rfl, hb2⟩
      have B2 := B1.step hb2
      have G2 := G1.step hb2
      obtain ⟨⟨x12, x22⟩, y12, y22⟩ := HK.out _ G2
      go_wp2_with fail
      go_ret
      exact ⟨rfl, B2⟩
end Go.Proofs.Ytajmjjandkdhiaa
