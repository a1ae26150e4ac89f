/- FnExactCompareLits: the walk of the law, out of the contracts of both functions. -/
import Derived.Test.YtajmjjandkdhiaaDoorMgCompareLits11
namespace Go.Proofs.YtajmjjandkdhiaaDoor
open Go.RowKit

set_option maxRecDepth 100000 in
set_option maxHeartbeats 8000000 in
theorem lawCompareLits (w : World) (hT : Tab w) (v0 : Value) (d0 : List Int) (hx0 : d0.length ≤ 9223372036854775807) (hv0 : SlI 0 w.heap.size w v0 d0) (x y : Lt) (u1 u2 q1 q2 : Value)
    (s1 : SlI 0 w.heap.size w u1 x.2.1) (hm1 : x.2.1.length ≤ 9223372036854775807) (s2 : SlI 0 w.heap.size w u2 x.2.2) (hm2 : x.2.2.length ≤ 9223372036854775807) (t1 : SlI 0 w.heap.size w q1 y.2.1) (hm3 : y.2.1.length ≤ 9223372036854775807) (t2 : SlI 0 w.heap.size w q2 y.2.2) (hm4 : y.2.2.length ≤ 9223372036854775807) :
    Calls Tryd.prog 3 #[.agg #[v0], .agg #[.bool x.1, u1, u2], .agg #[.bool y.1, q1, q2]] w (RetV w (.bool true)) := by
  have HB : Bel w (((w.alloc (.cells #[v0] 24)).alloc (.cells #[.bool x.1, u1, u2] 26)).alloc (.cells #[.bool y.1, q1, q2] 26)) := Bel.alloc3 _ _ _ _
  have K : Hid (∀ w', Bel (((w.alloc (.cells #[v0] 24)).alloc (.cells #[.bool x.1, u1, u2] 26)).alloc (.cells #[.bool y.1, q1, q2] 26)) w' → w'.cell? ⟨w.heap.size, 0, none⟩ = some v0 ∧ w'.cell? ⟨w.heap.size + 1, 0, none⟩ = some (.bool x.1) ∧ w'.cell? ⟨w.heap.size + 1, 1, none⟩ = some u1 ∧ w'.cell? ⟨w.heap.size + 1, 2, none⟩ = some u2 ∧ w'.cell? ⟨w.heap.size + 1 + 1, 0, none⟩ = some (.bool y.1) ∧ w'.cell? ⟨w.heap.size + 1 + 1, 1, none⟩ = some q1 ∧ w'.cell? ⟨w.heap.size + 1 + 1, 2, none⟩ = some q2) := fun w' hb =>
    ⟨hb.at (by simp <;> omega) (by simp [go_sem]), hb.at (by simp <;> omega) (by simp [go_sem]), hb.at (by simp <;> omega) (by simp [go_sem]), hb.at (by simp <;> omega) (by simp [go_sem]), hb.at (by simp) (by simp [go_sem]), hb.at (by simp) (by simp [go_sem]), hb.at (by simp) (by simp [go_sem])⟩
  have H0 := fun (r : Int) (hr : szI d0.length 1048576 = r) (w' : World) (hb : Bel w w') => (by subst hr; exact szSign_c _ _ v0 d0 1048576 w' hx0 (by omega) (by omega) (hv0.below hb) : Calls Tryd.prog 5 #[.agg #[v0], .int .i64 1048576] w' (RetV w' (.int .i64 r)))
  have H1 := fun (left r : Int) (h0 : 0 ≤ left) (h1 : left ≤ 1048576) (hr : szI (x.2.1.length + x.2.2.length) left = r) (w' : World) (hb : Bel w w') => (by subst hr; exact szLit_c _ _ x.1 u1 u2 x.2.1 x.2.2 left w' hm1 hm2 h0 h1 (s1.below hb) (s2.below hb) : Calls Tryd.prog 6 #[.agg #[.bool x.1, u1, u2], .int .i64 left] w' (RetV w' (.int .i64 r)))
  have H2 := fun (left r : Int) (h0 : 0 ≤ left) (h1 : left ≤ 1048576) (hr : szI (y.2.1.length + y.2.2.length) left = r) (w' : World) (hb : Bel w w') => (by subst hr; exact szLit_c _ _ y.1 q1 q2 y.2.1 y.2.2 left w' hm3 hm4 h0 h1 (t1.below hb) (t2.below hb) : Calls Tryd.prog 6 #[.agg #[.bool y.1, q1, q2], .int .i64 left] w' (RetV w' (.int .i64 r)))
  by_cases c0 : (1048576 : Int) - d0.length < 0
  · have HS0 := Lib.hid (H0 (-1) (by unfold szI; rw [if_pos c0]))
    clear H0 H1 H2 c0
    go_enter Tryd.func3, Tryd.ntmps3
    go_wp2_with fail
    refine (HS0.out _ HB).mono ?_; rintro e w1 ⟨rfl, hb1⟩
    go_wp2_with fail
    go_ret
    exact ⟨rfl, HB.step hb1⟩
  have HS0 := Lib.hid (H0 (1048576 - d0.length) (by unfold szI; rw [if_neg c0]))
  have b0 : 0 ≤ (1048576 : Int) - d0.length := by omega
  have b1 : (1048576 : Int) - d0.length ≤ 1048576 := by omega
  have hy0 : d0.length ≤ 1048576 := by omega
  clear H0 c0
  generalize (1048576 : Int) - d0.length = r0 at *
  by_cases c1 : r0 - ((x.2.1.length : Int) + x.2.2.length) < 0
  · have HS1 := Lib.hid (H1 r0 (-1) b0 b1 (by unfold szI; rw [if_pos c1]))
    clear H1 H2 c1
    go_enter Tryd.func3, Tryd.ntmps3
    go_wp2_with fail
    refine (HS0.out _ HB).mono ?_; rintro e w1 ⟨rfl, hb1⟩
    obtain ⟨z0a, x0a, x1a, x2a, y0a, y1a, y2a⟩ := K.out _ hb1
    go_wp2_with fail
    refine (HS1.out _ (HB.step hb1)).mono ?_; rintro e w2 ⟨rfl, hb2⟩
    go_wp2_with fail
    go_ret
    exact ⟨rfl, (HB.step hb1).step hb2⟩
  have HS1 := Lib.hid (H1 r0 (r0 - ((x.2.1.length : Int) + x.2.2.length)) b0 b1 (by unfold szI; rw [if_neg c1]))
  have b2 : 0 ≤ r0 - ((x.2.1.length : Int) + x.2.2.length) := by omega
  have b3 : r0 - ((x.2.1.length : Int) + x.2.2.length) ≤ 1048576 := by omega
  have hyx : x.2.1.length + x.2.2.length ≤ 1048576 := by omega
  clear H1 c1
  generalize r0 - ((x.2.1.length : Int) + x.2.2.length) = r1 at *
  by_cases c2 : r1 - ((y.2.1.length : Int) + y.2.2.length) < 0
  · have HS2 := Lib.hid (H2 r1 (-1) b2 b3 (by unfold szI; rw [if_pos c2]))
    clear H2 c2
    go_enter Tryd.func3, Tryd.ntmps3
    go_wp2_with fail
    refine (HS0.out _ HB).mono ?_; rintro e w1 ⟨rfl, hb1⟩
    obtain ⟨z0a, x0a, x1a, x2a, y0a, y1a, y2a⟩ := K.out _ hb1
    go_wp2_with fail
    refine (HS1.out _ (HB.step hb1)).mono ?_; rintro e w2 ⟨rfl, hb2⟩
    obtain ⟨z0b, x0b, x1b, x2b, y0b, y1b, y2b⟩ := K.out _ (hb1.step hb2)
    go_wp2_with fail
    refine (HS2.out _ ((HB.step hb1).step hb2)).mono ?_; rintro e w3 ⟨rfl, hb3⟩
    go_wp2_with fail
    go_ret
    exact ⟨rfl, ((HB.step hb1).step hb2).step hb3⟩
  have HS2 := Lib.hid (H2 r1 (r1 - ((y.2.1.length : Int) + y.2.2.length)) b2 b3 (by unfold szI; rw [if_neg c2]))
  have b4 : 0 ≤ r1 - ((y.2.1.length : Int) + y.2.2.length) := by omega
  have hyy : y.2.1.length + y.2.2.length ≤ 1048576 := by omega
  clear H2 c2
  generalize r1 - ((y.2.1.length : Int) + y.2.2.length) = r2 at *
  have HTS := Lib.hid (fun (w' : World) (hb : Bel w w') => toSign_c _ _ v0 d0 w' hy0 (hv0.below hb))
  have HTX := Lib.hid (fun (w' : World) (hb : Bel w w') => toLit_c _ _ x.1 u1 u2 x.2.1 x.2.2 w' (by omega) (by omega) (s1.below hb) (s2.below hb))
  have HTY := Lib.hid (fun (w' : World) (hb : Bel w w') => toLit_c _ _ y.1 q1 q2 y.2.1 y.2.2 w' (by omega) (by omega) (t1.below hb) (t2.below hb))
  go_enter Tryd.func3, Tryd.ntmps3
  go_wp2_with fail
  refine (HS0.out _ HB).mono ?_; rintro e w1 ⟨rfl, hb1⟩
  obtain ⟨z0a, x0a, x1a, x2a, y0a, y1a, y2a⟩ := K.out _ hb1
  go_wp2_with fail
  refine (HS1.out _ (HB.step hb1)).mono ?_; rintro e w2 ⟨rfl, hb2⟩
  have G2 := hb1.step hb2
  obtain ⟨z0b, x0b, x1b, x2b, y0b, y1b, y2b⟩ := K.out _ G2
  clear hb1 hb2 z0a x0a x1a x2a y0a y1a y2a
  go_wp2_with fail
  refine (HS2.out _ (HB.step G2)).mono ?_; rintro e w3 ⟨rfl, hb3⟩
  have G3 := G2.step hb3
  obtain ⟨z0c, x0c, x1c, x2c, y0c, y1c, y2c⟩ := K.out _ G3
  clear hb3 G2 z0b x0b x1b x2b y0b y1b y2b
  go_wp2_with fail
  go_region_held3 (fun w' => Bel w3 w' ∧ w'.cell? ⟨w.heap.size, 0, none⟩ = some v0 ∧ w'.cell? ⟨w.heap.size + 1, 0, none⟩ = some (.bool x.1) ∧ w'.cell? ⟨w.heap.size + 1, 1, none⟩ = some u1 ∧ w'.cell? ⟨w.heap.size + 1, 2, none⟩ = some u2 ∧ w'.cell? ⟨w.heap.size + 1 + 1, 0, none⟩ = some (.bool y.1) ∧ w'.cell? ⟨w.heap.size + 1 + 1, 1, none⟩ = some q1 ∧ w'.cell? ⟨w.heap.size + 1 + 1, 2, none⟩ = some q2)
    (first | exact ⟨Bel.drew0 _, K.out _ (G3.step (Bel.drew0 _))⟩ | exact ⟨hb4.of_drew, K.out _ (G3.step hb4.of_drew)⟩ | exact ⟨hb4.of_drew.step hb5, K.out _ (G3.step (hb4.of_drew.step hb5))⟩ | exact ⟨(hb4.of_drew.step hb5).step hb6, K.out _ (G3.step ((hb4.of_drew.step hb5).step hb6))⟩ | exact ⟨((hb4.of_drew.step hb5).step hb6).step hb7, K.out _ (G3.step (((hb4.of_drew.step hb5).step hb6).step hb7))⟩)
    (first
      | (go_at_call 7; refine (sCompareLits_t (x := x) (y := y) hy0 ((os.sl.below hb5).below hb6) hyx (ox1.below hb6).sl.in' (ox2.below hb6).sl.in' hyy oy1.sl.in' oy2.sl.in').mono ?_; rintro e w7 ⟨rfl, hb7⟩)
      | (go_at_call 9; refine (HTY.out _ (HB.step (G3.step (hb4.of_drew.step hb5)))).mono ?_; rintro e w6 ⟨ay, ny, cy, by', my, dy, My, rfl, hMy1, hMy2, oy1, oy2, hb6⟩)
      | (go_at_call 9; refine (HTX.out _ (HB.step (G3.step hb4.of_drew))).mono ?_; rintro e w5 ⟨ax, nx, cx, bx, mx, dx, Mx, rfl, hMx1, hMx2, ox1, ox2, hb5⟩)
      | (go_at_call 8; refine (HTS.out _ (HB.step (G3.step (Bel.drew0 _)))).mono ?_; rintro e w4 ⟨ag, ns, cs, rfl, os, hb4⟩))
  have G7 := G3.step (((hb4.of_drew.step hb5).step hb6).step hb7)
  obtain ⟨z0f, x0f, x1f, x2f, y0f, y1f, y2f⟩ := K.out _ G7
  clear hb4 hb5 hb6 hb7 os ox1 ox2 oy1 oy2 G3 z0c x0c x1c x2c y0c y1c y2c
  go_wp2_with fail
  refine (HTS.out _ (HB.step G7)).mono ?_; rintro e w8 ⟨a0, n0, c0, rfl, o0, hb8⟩
  have G8 := (G7.step hb8).step (Bel.alloc0 w8 (.cells #[.slice a0 n0 c0] 31))
  obtain ⟨z0g, x0g, x1g, x2g, y0g, y1g, y2g⟩ := K.out _ G8
  clear hb8 z0f x0f x1f x2f y0f y1f y2f
  go_wp2_with fail
  refine (HTX.out _ (HB.step G8)).mono ?_; rintro e w9 ⟨a1, n1, c1, a2, n2, c2, m1, rfl, hm5, hm6, o1, o2, hb9⟩
  have G9 := (G8.step hb9).step (Bel.alloc0 w9 (.cells #[.bool x.1, .slice a1 n1 c1, .slice a2 n2 c2] 33))
  obtain ⟨z0h, x0h, x1h, x2h, y0h, y1h, y2h⟩ := K.out _ G9
  clear z0g x0g x1g x2g y0g y1g y2g
  go_wp2_with fail
  refine (HTY.out _ (HB.step G9)).mono ?_; rintro e w10 ⟨a3, n3, c3, a4, n4, c4, m2, rfl, hm7, hm8, o3, o4, hb10⟩
  have B9 := (Bel.alloc0 w9 (.cells #[.bool x.1, .slice a1 n1 c1, .slice a2 n2 c2] 33)).step hb10
  have B10 := Bel.alloc0 w10 (.cells #[.bool y.1, .slice a3 n3 c3, .slice a4 n4 c4] 33)
  have G10 := (G9.step hb10).step B10
  have L0 := (((o0.sl.in'.below (Bel.alloc0 w8 (.cells #[.slice a0 n0 c0] 31))).below hb9).below B9).below B10
  have L1 := (o1.sl.in'.below B9).below B10
  have L2 := (o2.sl.in'.below B9).below B10
  have L3 := o3.sl.in'.below B10
  have L4 := o4.sl.in'.below B10
  have KX : Hid (∀ w', Bel (w10.alloc (.cells #[.bool y.1, .slice a3 n3 c3, .slice a4 n4 c4] 33)) w' → w'.cell? ⟨w8.heap.size, 0, none⟩ = some (.slice a0 n0 c0) ∧ w'.cell? ⟨w9.heap.size, 0, none⟩ = some (.bool x.1) ∧ w'.cell? ⟨w9.heap.size, 1, none⟩ = some (.slice a1 n1 c1) ∧ w'.cell? ⟨w9.heap.size, 2, none⟩ = some (.slice a2 n2 c2) ∧ w'.cell? ⟨w10.heap.size, 0, none⟩ = some (.bool y.1) ∧ w'.cell? ⟨w10.heap.size, 1, none⟩ = some (.slice a3 n3 c3) ∧ w'.cell? ⟨w10.heap.size, 2, none⟩ = some (.slice a4 n4 c4)) := fun w' hb =>
    ⟨(((hb9.step B9).step B10).step hb).at (by simp) (by simp [go_sem]), ((hb10.step B10).step hb).at (by simp) (by simp [go_sem]), ((hb10.step B10).step hb).at (by simp) (by simp [go_sem]), ((hb10.step B10).step hb).at (by simp) (by simp [go_sem]), hb.at (by simp) (by simp [go_sem]), hb.at (by simp) (by simp [go_sem]), hb.at (by simp) (by simp [go_sem])⟩
  obtain ⟨z0i, x0i, x1i, x2i, y0i, y1i, y2i⟩ := K.out _ G10
  obtain ⟨Z0i, X0i, X1i, X2i, Y0i, Y1i, Y2i⟩ := KX.out _ (Bel.rfl' _)
  clear z0h x0h x1h x2h y0h y1h y2h G7 G8 G9 hb9 hb10 B9 B10 o0 o1 o2 o3 o4
  go_wp2_with fail
  refine (iCompareLits_t (x := x) (y := y) (hT.bel (HB.step G10)) hy0 L0 hyx L1 L2 hyy L3 L4).mono ?_; rintro e w11 ⟨rfl, hb11⟩
  have G11 := G10.step hb11
  replace L0 := L0.below hb11
  replace L1 := L1.below hb11
  replace L2 := L2.below hb11
  replace L3 := L3.below hb11
  replace L4 := L4.below hb11
  obtain ⟨z0j, x0j, x1j, x2j, y0j, y1j, y2j⟩ := K.out _ G11
  obtain ⟨Z0j, X0j, X1j, X2j, Y0j, Y1j, Y2j⟩ := KX.out _ hb11
  clear z0i x0i x1i x2i y0i y1i y2i Z0i X0i X1i X2i Y0i Y1i Y2i
  go_wp2_with fail
  go_region_held3 (fun w' => Bel w11 w' ∧ w'.cell? ⟨w.heap.size, 0, none⟩ = some v0 ∧ w'.cell? ⟨w8.heap.size, 0, none⟩ = some (.slice a0 n0 c0))
    (first | exact ⟨(Bel.drew0 _), (K.out _ (G11.step (Bel.drew0 _))).1, (KX.out _ (hb11.step (Bel.drew0 _))).1⟩ | exact ⟨hb12.of_drew, (K.out _ (G11.step hb12.of_drew)).1, (KX.out _ (hb11.step hb12.of_drew)).1⟩ | exact ⟨(hb12.of_drew.step hb13), (K.out _ (G11.step (hb12.of_drew.step hb13))).1, (KX.out _ (hb11.step (hb12.of_drew.step hb13))).1⟩)
    (first | (go_at_call 8; refine (HTS.out _ (HB.step (G11.step (Bel.drew0 _)))).mono ?_; rintro e w12 ⟨k0, k1, k2, rfl, ob, hb12⟩) | (go_at_call 11; refine (eqSign_same _ _ _ _ _ _ d0 _ hy0 (L0.below hb12.of_drew) ob.sl).mono ?_; rintro e w13 ⟨rfl, hb13⟩))
  have G13 := G11.step (hb12.of_drew.step hb13)
  have H13 := Bel.step hb11 (hb12.of_drew.step hb13)
  replace L0 := L0.below (hb12.of_drew.step hb13)
  replace L1 := L1.below (hb12.of_drew.step hb13)
  replace L2 := L2.below (hb12.of_drew.step hb13)
  replace L3 := L3.below (hb12.of_drew.step hb13)
  replace L4 := L4.below (hb12.of_drew.step hb13)
  obtain ⟨z0p13, x0p13, x1p13, x2p13, y0p13, y1p13, y2p13⟩ := K.out _ G13
  obtain ⟨Z0p13, X0p13, X1p13, X2p13, Y0p13, Y1p13, Y2p13⟩ := KX.out _ H13
  clear hb12 hb13 ob G11 hb11 z0j x0j x1j x2j y0j y1j y2j Z0j X0j X1j X2j Y0j Y1j Y2j
  go_wp2_with fail
  go_region_held3 (fun w' => Bel w13 w' ∧ w'.cell? ⟨w.heap.size + 1, 0, none⟩ = some (.bool x.1) ∧ w'.cell? ⟨w.heap.size + 1, 1, none⟩ = some u1 ∧ w'.cell? ⟨w.heap.size + 1, 2, none⟩ = some u2 ∧ w'.cell? ⟨w9.heap.size, 0, none⟩ = some (.bool x.1) ∧ w'.cell? ⟨w9.heap.size, 1, none⟩ = some (.slice a1 n1 c1) ∧ w'.cell? ⟨w9.heap.size, 2, none⟩ = some (.slice a2 n2 c2))
    (first | exact ⟨(Bel.drew0 _), (K.out _ (G13.step (Bel.drew0 _))).2.1, (K.out _ (G13.step (Bel.drew0 _))).2.2.1, (K.out _ (G13.step (Bel.drew0 _))).2.2.2.1, (KX.out _ (H13.step (Bel.drew0 _))).2.1, (KX.out _ (H13.step (Bel.drew0 _))).2.2.1, (KX.out _ (H13.step (Bel.drew0 _))).2.2.2.1⟩ | exact ⟨hb14.of_drew, (K.out _ (G13.step hb14.of_drew)).2.1, (K.out _ (G13.step hb14.of_drew)).2.2.1, (K.out _ (G13.step hb14.of_drew)).2.2.2.1, (KX.out _ (H13.step hb14.of_drew)).2.1, (KX.out _ (H13.step hb14.of_drew)).2.2.1, (KX.out _ (H13.step hb14.of_drew)).2.2.2.1⟩ | exact ⟨(hb14.of_drew.step hb15), (K.out _ (G13.step (hb14.of_drew.step hb15))).2.1, (K.out _ (G13.step (hb14.of_drew.step hb15))).2.2.1, (K.out _ (G13.step (hb14.of_drew.step hb15))).2.2.2.1, (KX.out _ (H13.step (hb14.of_drew.step hb15))).2.1, (KX.out _ (H13.step (hb14.of_drew.step hb15))).2.2.1, (KX.out _ (H13.step (hb14.of_drew.step hb15))).2.2.2.1⟩)
    (first | (go_at_call 9; refine (HTX.out _ (HB.step (G13.step (Bel.drew0 _)))).mono ?_; rintro e w14 ⟨k0, k1, k2, k3, k4, k5, k6, rfl, hk1, hk2, ob, oc, hb14⟩) | (go_at_call 12; refine (eqLit_same _ _ _ _ x.1 _ _ _ _ x.2.1 x.2.2 _ (by omega) (by omega) (L1.below hb14.of_drew) (L2.below hb14.of_drew) ob.sl.in' oc.sl.in').mono ?_; rintro e w15 ⟨rfl, hb15⟩))
  have G15 := G13.step (hb14.of_drew.step hb15)
  have H15 := Bel.step H13 (hb14.of_drew.step hb15)
  replace L0 := L0.below (hb14.of_drew.step hb15)
  replace L1 := L1.below (hb14.of_drew.step hb15)
  replace L2 := L2.below (hb14.of_drew.step hb15)
  replace L3 := L3.below (hb14.of_drew.step hb15)
  replace L4 := L4.below (hb14.of_drew.step hb15)
  obtain ⟨z0p15, x0p15, x1p15, x2p15, y0p15, y1p15, y2p15⟩ := K.out _ G15
  obtain ⟨Z0p15, X0p15, X1p15, X2p15, Y0p15, Y1p15, Y2p15⟩ := KX.out _ H15
  clear hb14 hb15 ob oc hk1 hk2 G13 H13 z0p13 x0p13 x1p13 x2p13 y0p13 y1p13 y2p13 Z0p13 X0p13 X1p13 X2p13 Y0p13 Y1p13 Y2p13
  go_wp2_with fail
  go_region_held3 (fun w' => Bel w15 w' ∧ w'.cell? ⟨w.heap.size + 1 + 1, 0, none⟩ = some (.bool y.1) ∧ w'.cell? ⟨w.heap.size + 1 + 1, 1, none⟩ = some q1 ∧ w'.cell? ⟨w.heap.size + 1 + 1, 2, none⟩ = some q2 ∧ w'.cell? ⟨w10.heap.size, 0, none⟩ = some (.bool y.1) ∧ w'.cell? ⟨w10.heap.size, 1, none⟩ = some (.slice a3 n3 c3) ∧ w'.cell? ⟨w10.heap.size, 2, none⟩ = some (.slice a4 n4 c4))
    (first | exact ⟨(Bel.drew0 _), (K.out _ (G15.step (Bel.drew0 _))).2.2.2.2.1, (K.out _ (G15.step (Bel.drew0 _))).2.2.2.2.2.1, (K.out _ (G15.step (Bel.drew0 _))).2.2.2.2.2.2, (KX.out _ (H15.step (Bel.drew0 _))).2.2.2.2.1, (KX.out _ (H15.step (Bel.drew0 _))).2.2.2.2.2.1, (KX.out _ (H15.step (Bel.drew0 _))).2.2.2.2.2.2⟩ | exact ⟨hb16.of_drew, (K.out _ (G15.step hb16.of_drew)).2.2.2.2.1, (K.out _ (G15.step hb16.of_drew)).2.2.2.2.2.1, (K.out _ (G15.step hb16.of_drew)).2.2.2.2.2.2, (KX.out _ (H15.step hb16.of_drew)).2.2.2.2.1, (KX.out _ (H15.step hb16.of_drew)).2.2.2.2.2.1, (KX.out _ (H15.step hb16.of_drew)).2.2.2.2.2.2⟩ | exact ⟨(hb16.of_drew.step hb17), (K.out _ (G15.step (hb16.of_drew.step hb17))).2.2.2.2.1, (K.out _ (G15.step (hb16.of_drew.step hb17))).2.2.2.2.2.1, (K.out _ (G15.step (hb16.of_drew.step hb17))).2.2.2.2.2.2, (KX.out _ (H15.step (hb16.of_drew.step hb17))).2.2.2.2.1, (KX.out _ (H15.step (hb16.of_drew.step hb17))).2.2.2.2.2.1, (KX.out _ (H15.step (hb16.of_drew.step hb17))).2.2.2.2.2.2⟩)
    (first | (go_at_call 9; refine (HTY.out _ (HB.step (G15.step (Bel.drew0 _)))).mono ?_; rintro e w16 ⟨k0, k1, k2, k3, k4, k5, k6, rfl, hk1, hk2, ob, oc, hb16⟩) | (go_at_call 12; refine (eqLit_same _ _ _ _ y.1 _ _ _ _ y.2.1 y.2.2 _ (by omega) (by omega) (L3.below hb16.of_drew) (L4.below hb16.of_drew) ob.sl.in' oc.sl.in').mono ?_; rintro e w17 ⟨rfl, hb17⟩))
  have G17 := G15.step (hb16.of_drew.step hb17)
  have H17 := Bel.step H15 (hb16.of_drew.step hb17)
  replace L0 := L0.below (hb16.of_drew.step hb17)
  replace L1 := L1.below (hb16.of_drew.step hb17)
  replace L2 := L2.below (hb16.of_drew.step hb17)
  replace L3 := L3.below (hb16.of_drew.step hb17)
  replace L4 := L4.below (hb16.of_drew.step hb17)
  obtain ⟨z0p17, x0p17, x1p17, x2p17, y0p17, y1p17, y2p17⟩ := K.out _ G17
  obtain ⟨Z0p17, X0p17, X1p17, X2p17, Y0p17, Y1p17, Y2p17⟩ := KX.out _ H17
  clear hb16 hb17 ob oc hk1 hk2 G15 H15 z0p15 x0p15 x1p15 x2p15 y0p15 y1p15 y2p15 Z0p15 X0p15 X1p15 X2p15 Y0p15 Y1p15 Y2p15
  go_wp2_with fail
  go_ret
  exact ⟨rfl, HB.step G17⟩
end Go.Proofs.YtajmjjandkdhiaaDoor
