/- FnExactEvalIn: the walk of the law, out of the contracts of both functions. -/
import Derived.Test.YtjgbeclafdhijaaMgEvalIn10
namespace Go.Proofs.Ytjgbeclafdhijaa
open Go.RowKit

set_option maxRecDepth 100000 in
set_option maxHeartbeats 8000000 in
theorem lawEvalIn (w : World) (v0 : Value) (d0 : List Int) (hx0 : d0.length ≤ 9223372036854775807) (hv0 : SlI 0 w.heap.size w v0 d0) (z1 : Int) (v1 : Value) (d1 : List (List Int)) (hv1 : SlS 0 w.heap.size w v1 d1) (v2 : Value) (d2 : List Int) (hx2 : d2.length ≤ 9223372036854775807) (hv2 : SlI 0 w.heap.size w v2 d2) (v3 : Value) (d3 : List Int) (hx3 : d3.length ≤ 9223372036854775807) (hv3 : SlI 0 w.heap.size w v3 d3) :
    Calls Try.prog 3 #[.agg #[v0], .agg #[.int .i64 z1, v1], v2, v3] w (RetV w (.bool true)) := by
  obtain ⟨ad2, cp2, rfl⟩ := hv2.form
  obtain ⟨ad3, cp3, rfl⟩ := hv3.form
  by_cases hl2 : 1048576 < d2.length
  · go_enter Try.func3, Try.ntmps3
    go_wp2_with fail
    go_ret
    exact ⟨rfl, Bel.alloc2 _ _ _⟩
  by_cases hl3 : 1048576 < d3.length
  · go_enter Try.func3, Try.ntmps3
    go_wp2_with fail
    go_ret
    exact ⟨rfl, Bel.alloc2 _ _ _⟩
  have hl0 := szSign_c _ _ v0 d0 1048576 ((w.alloc (.cells #[v0] 24)).alloc (.cells #[.int .i64 z1, v1] 27)) hx0 (by omega) (by omega) (hv0.below (Bel.alloc2 _ _ _))
  by_cases hs0 : szI d0.length 1048576 < 0
  · have E : Hid (szI d0.length 1048576 = -1) := by show szI _ _ = _; revert hs0; unfold szI; split <;> omega
    rw [E.out] at hl0
    have HL0 := Lib.hid hl0; clear hl0 hs0
    go_enter Try.func3, Try.ntmps3
    go_wp2_with fail
    refine HL0.out.mono ?_; rintro e wa0 ⟨rfl, hb0⟩
    go_wp2_with fail
    go_ret
    exact ⟨rfl, hb0.of_alloc.of_alloc⟩
  have hy0 : d0.length ≤ 1048576 := by revert hs0; unfold szI; split <;> omega
  have hr0 : 0 ≤ szI d0.length 1048576 ∧ szI d0.length 1048576 ≤ 1048576 := ⟨by omega, by unfold szI; split <;> omega⟩
  have HL0 := Lib.hid hl0; clear hl0 hs0
  generalize szI d0.length 1048576 = r0 at *
  have hl1 := fun (w' : World) (hq : Bel w w') => szWorld_c _ _ z1 v1 d1 r0 w' hr0.1 hr0.2 (hv1.below hq)
  by_cases hs1 : szS d1 r0 < 0
  · have E : Hid (szS d1 r0 = -1) := by show szS _ _ = _; revert hs1; unfold szS; split <;> omega
    simp only [E.out] at hl1
    have HL1 := Lib.hid hl1; clear hl1 hs1
    go_enter Try.func3, Try.ntmps3
    go_wp2_with fail
    refine HL0.out.mono ?_; rintro e wa0 ⟨rfl, hb0⟩
    have kw0 := (boxk2 hb0 0 _ rfl).2; have kw1 := (boxk2 hb0 1 _ rfl).2
    go_wp2_with fail
    refine (HL1.out _ hb0.of_alloc.of_alloc).mono ?_; rintro e wa1 ⟨rfl, hc1⟩; have hb1 := hb0.step hc1; clear hc1 hb0
    go_wp2_with fail
    go_ret
    exact ⟨rfl, hb1.of_alloc.of_alloc⟩
  have ht1 : tot d1 ≤ 1048576 := by revert hs1; unfold szS; split <;> omega
  have hy1 : short d1 := short_of_tot ht1
  have hz1 : sumL d1 ≤ 1048576 := by unfold tot at ht1; omega
  have hr1 : 0 ≤ szS d1 r0 ∧ szS d1 r0 ≤ 1048576 := ⟨by omega, by unfold szS; split <;> omega⟩
  have HL1 := Lib.hid hl1; clear hl1 hs1
  generalize szS d1 r0 = r1 at *
  have hy2 : d2.length ≤ 1048576 := by omega
  have hy3 : d3.length ≤ 1048576 := by omega
  go_enter Try.func3, Try.ntmps3
  go_wp2_with fail
  refine HL0.out.mono ?_; rintro e wa0 ⟨rfl, hb0⟩
  have kw0 := (boxk2 hb0 0 _ rfl).2; have kw1 := (boxk2 hb0 1 _ rfl).2
  go_wp2_with fail
  refine (HL1.out _ hb0.of_alloc.of_alloc).mono ?_; rintro e wa1 ⟨rfl, hc1⟩; have hb1 := hb0.step hc1; clear hc1 hb0
  have zb : w.heap.size < wa1.heap.size := by have := hb1.size; simp at this; omega
  skip
  obtain ⟨w1, hw1⟩ : ∃ w1, w1 = wa1 := ⟨_, rfl⟩; subst hw1; have hb := hb1; clear hb1 HL0 HL1
  have hK := ((((((((bel_k hb.of_alloc.of_alloc).and (cell_ko (boxk hb.of_alloc _ rfl))).and (cell_ko (boxk2 hb 0 _ rfl))).and (cell_ko (boxk2 hb 1 _ rfl))).and (hv0.below hb.of_alloc.of_alloc).k).and (hv1.below hb.of_alloc.of_alloc).k).and (hv2.below hb.of_alloc.of_alloc).k).and (hv3.below hb.of_alloc.of_alloc).k); clear hb hv0 hv1 hv2 hv3
  obtain ⟨⟨⟨⟨⟨⟨⟨hB, hcb⟩, hcw⟩, hcu⟩, hv0⟩, hv1⟩, hv2⟩, hv3⟩ := hK.now
  have hcbc := hcb.2
  have hcwc := hcw.2
  have hcuc := hcu.2
  have HK := Lib.hid hK
  go_wp2_with fail
  go_region_held3 (fun w' => Bel w1 w' ∧ w'.cell? ⟨w.heap.size, 0, none⟩ = some (v0) ∧ w'.cell? ⟨w.heap.size + 1, 0, none⟩ = some (.int .i64 z1) ∧ w'.cell? ⟨w.heap.size + 1, 1, none⟩ = some (v1))
    (first | exact ⟨Bel.drew0 _, hcbc, hcwc, hcuc⟩ | exact ⟨B0, B0.at hcb.1 hcbc, B0.at hcw.1 hcwc, B0.at hcu.1 hcuc⟩ | exact ⟨B1, B1.at hcb.1 hcbc, B1.at hcw.1 hcwc, B1.at hcu.1 hcuc⟩ | exact ⟨B2, B2.at hcb.1 hcbc, B2.at hcw.1 hcwc, B2.at hcu.1 hcuc⟩ | exact ⟨B3, B3.at hcb.1 hcbc, B3.at hcw.1 hcwc, B3.at hcu.1 hcuc⟩ | exact ⟨BL, BL.at hcb.1 hcbc, BL.at hcw.1 hcwc, BL.at hcu.1 hcuc⟩ | fail)
    (first | (go_at_call 7; refine (sEvalIn_t hy0 (((os0.sl.below hq1).below hq2).below hq3) hy1 ((os1.sl.below hq2).below hq3) hy2 (os2.sl.below hq3) hy3 os3.sl).mono ?_; rintro e w6 ⟨rfl, hqL⟩; have BL := B3.step hqL) | (go_at_call 10; refine (toIntS_c _ _ _ d3 _ hy3 (hv3.below B2)).mono ?_; rintro e w5 ⟨aos3, nos3, cos3, rfl, os3, hq3⟩; have B3 := B2.step hq3) | (go_at_call 10; refine (toIntS_c _ _ _ d2 _ hy2 (hv2.below B1)).mono ?_; rintro e w4 ⟨aos2, nos2, cos2, rfl, os2, hq2⟩; have B2 := B1.step hq2) | (go_at_call 9; refine (toWorld_c _ _ _ d1 _ hy1 (hv1.below B0)).mono ?_; rintro e w3 ⟨aos1, nos1, cos1, rfl, os1, hq1⟩; have B1 := B0.step hq1) | (go_at_call 8; refine (toSign_c _ _ _ d0 _ hy0 (hv0.below (Bel.drew0 _))).mono ?_; rintro e w2 ⟨aos0, nos0, cos0, rfl, os0, hq0⟩; have B0 := (Bel.drew0 _).step hq0) | fail)
  have zw2 : w1.heap.size ≤ w2.heap.size := hq0.size
  have zw3 : w2.heap.size ≤ w3.heap.size := hq1.size
  have zw4 : w3.heap.size ≤ w4.heap.size := hq2.size
  have zw5 : w4.heap.size ≤ w5.heap.size := hq3.size
  have zw6 : w5.heap.size ≤ w6.heap.size := hqL.size
  replace hK := K.step HK.out BL; clear hB hcb hcw hcu hv0 hv1 hv2 hv3 hcbc hcwc hcuc HK BL hqL B0 hq0 B1 hq1 B2 hq2 B3 hq3 os0 os1 os2 os3
  obtain ⟨⟨⟨⟨⟨⟨⟨hB, hcb⟩, hcw⟩, hcu⟩, hv0⟩, hv1⟩, hv2⟩, hv3⟩ := hK.now
  have hcbc := hcb.2
  have hcwc := hcw.2
  have hcuc := hcu.2
  go_wp2_with fail
  refine (toSign_c _ _ _ d0 _ hy0 hv0).mono ?_; rintro e w7 ⟨ax0, nx0, cx0, rfl, os, hb⟩
  have zw7 : w6.heap.size ≤ w7.heap.size := hb.size
  replace hK := ((K.step hK hb).and os.k)
  clear hB hcb hcw hcu hv0 hv1 hv2 hv3 hcbc hcwc hcuc hb os
  obtain ⟨⟨⟨⟨⟨⟨⟨⟨hB, hcb⟩, hcw⟩, hcu⟩, hv0⟩, hv1⟩, hv2⟩, hv3⟩, ox0⟩ := hK.now
  have hcbc := hcb.2
  have hcwc := hcw.2
  have hcuc := hcu.2
  go_wp2_with fail
  refine (toWorld_c _ _ _ d1 _ hy1 (hv1.alloc _)).mono ?_; rintro e w8 ⟨ax1, nx1, cx1, rfl, os, hb⟩
  have zw8 : w7.heap.size < w8.heap.size := by have := hb.size; simp at this; omega
  replace hK := (((K.step hK hb.of_alloc).and (cell_ko (boxk hb _ rfl))).and os.k)
  clear hB hcb hcw hcu hv0 hv1 hv2 hv3 ox0 hcbc hcwc hcuc hb os
  obtain ⟨⟨⟨⟨⟨⟨⟨⟨⟨⟨hB, hcb⟩, hcw⟩, hcu⟩, hv0⟩, hv1⟩, hv2⟩, hv3⟩, ox0⟩, hcx0⟩, ox1⟩ := hK.now
  have hcbc := hcb.2
  have hcwc := hcw.2
  have hcuc := hcu.2
  have hcx0c := hcx0.2
  go_wp2_with fail
  refine (toIntS_c _ _ _ d2 _ hy2 (hv2.alloc _)).mono ?_; rintro e w9 ⟨ax2, nx2, cx2, rfl, os, hb⟩
  have zw9 : w8.heap.size < w9.heap.size := by have := hb.size; simp at this; omega
  replace hK := ((((K.step hK hb.of_alloc).and (cell_ko (boxk hb _ rfl))).and (cell_ko (boxk1 hb _ rfl))).and os.k)
  clear hB hcb hcw hcu hv0 hv1 hv2 hv3 ox0 hcx0 ox1 hcbc hcwc hcuc hcx0c hb os
  obtain ⟨⟨⟨⟨⟨⟨⟨⟨⟨⟨⟨⟨⟨hB, hcb⟩, hcw⟩, hcu⟩, hv0⟩, hv1⟩, hv2⟩, hv3⟩, ox0⟩, hcx0⟩, ox1⟩, hcx1⟩, hcx1u⟩, ox2⟩ := hK.now
  have hcbc := hcb.2
  have hcwc := hcw.2
  have hcuc := hcu.2
  have hcx0c := hcx0.2
  have hcx1c := hcx1.2
  have hcx1uc := hcx1u.2
  go_wp2_with fail
  refine (toIntS_c _ _ _ d3 _ hy3 hv3).mono ?_; rintro e w10 ⟨ax3, nx3, cx3, rfl, os, hb⟩
  have zw10 : w9.heap.size ≤ w10.heap.size := hb.size
  replace hK := ((K.step hK hb).and os.k)
  clear hB hcb hcw hcu hv0 hv1 hv2 hv3 ox0 hcx0 ox1 hcx1 hcx1u ox2 hcbc hcwc hcuc hcx0c hcx1c hcx1uc hb os
  obtain ⟨⟨⟨⟨⟨⟨⟨⟨⟨⟨⟨⟨⟨⟨hB, hcb⟩, hcw⟩, hcu⟩, hv0⟩, hv1⟩, hv2⟩, hv3⟩, ox0⟩, hcx0⟩, ox1⟩, hcx1⟩, hcx1u⟩, ox2⟩, ox3⟩ := hK.now
  have hcbc := hcb.2
  have hcwc := hcw.2
  have hcuc := hcu.2
  have hcx0c := hcx0.2
  have hcx1c := hcx1.2
  have hcx1uc := hcx1u.2
  go_wp2_with fail
  refine (iEvalIn_t hy0 ox0.sl hy1 ox1.sl hy2 ox2.sl hy3 ox3.sl).mono ?_; rintro e w11 ⟨rfl, hb⟩
  have zw11 : w10.heap.size ≤ w11.heap.size := hb.size
  replace hK := (K.step hK hb)
  clear hB hcb hcw hcu hv0 hv1 hv2 hv3 ox0 hcx0 ox1 hcx1 hcx1u ox2 ox3 hcbc hcwc hcuc hcx0c hcx1c hcx1uc hb
  obtain ⟨⟨⟨⟨⟨⟨⟨⟨⟨⟨⟨⟨⟨⟨hB, hcb⟩, hcw⟩, hcu⟩, hv0⟩, hv1⟩, hv2⟩, hv3⟩, ox0⟩, hcx0⟩, ox1⟩, hcx1⟩, hcx1u⟩, ox2⟩, ox3⟩ := hK.now
  have hcbc := hcb.2
  have hcwc := hcw.2
  have hcuc := hcu.2
  have hcx0c := hcx0.2
  have hcx1c := hcx1.2
  have hcx1uc := hcx1u.2
  have HK := Lib.hid hK
  go_wp2_with fail
  go_region_held3 (fun w' => Bel w11 w' ∧ w'.cell? ⟨w.heap.size, 0, none⟩ = some v0 ∧ w'.cell? ⟨w7.heap.size, 0, none⟩ = some (.slice ax0 nx0 cx0))
    (first | exact ⟨Bel.drew0 _, hcbc, hcx0c⟩ | exact ⟨hb8.of_drew, hb8.at hcb.1 hcbc, hb8.at hcx0.1 hcx0c⟩ | exact ⟨hb8.of_drew.step hb9, (hb8.of_drew.step hb9).at hcb.1 hcbc, (hb8.of_drew.step hb9).at hcx0.1 hcx0c⟩)
    (first | (go_at_call 8; refine (toSign_c _ _ _ d0 _ hy0 (hv0.below (Bel.drew0 _))).mono ?_; rintro e w12 ⟨a8, n8, c8, rfl, o8, hb8⟩) | (go_at_call 12; refine (eqSign_same _ _ _ _ _ _ d0 _ hy0 (ox0.sl.below hb8.of_drew) o8.sl).mono ?_; rintro e w13 ⟨rfl, hb9⟩))
  have zw12 : w11.heap.size ≤ w12.heap.size := hb8.of_drew.size
  have zw13 : w12.heap.size ≤ w13.heap.size := hb9.size
  replace hK := K.step HK.out (hb8.of_drew.step hb9); clear hB hcb hcw hcu hv0 hv1 hv2 hv3 ox0 hcx0 ox1 hcx1 hcx1u ox2 ox3 hcbc hcwc hcuc hcx0c hcx1c hcx1uc HK o8 hb8 hb9
  obtain ⟨⟨⟨⟨⟨⟨⟨⟨⟨⟨⟨⟨⟨⟨hB, hcb⟩, hcw⟩, hcu⟩, hv0⟩, hv1⟩, hv2⟩, hv3⟩, ox0⟩, hcx0⟩, ox1⟩, hcx1⟩, hcx1u⟩, ox2⟩, ox3⟩ := hK.now
  have hcbc := hcb.2
  have hcwc := hcw.2
  have hcuc := hcu.2
  have hcx0c := hcx0.2
  have hcx1c := hcx1.2
  have hcx1uc := hcx1u.2
  have HK := Lib.hid hK
  go_wp2_with fail
  go_region_held3 (fun w' => Bel w13 w' ∧ w'.cell? ⟨w.heap.size + 1, 0, none⟩ = some (.int .i64 z1) ∧ w'.cell? ⟨w.heap.size + 1, 1, none⟩ = some v1 ∧ w'.cell? ⟨w8.heap.size, 0, none⟩ = some (.int .i64 z1) ∧ w'.cell? ⟨w8.heap.size, 1, none⟩ = some (.slice ax1 nx1 cx1))
    (first | exact ⟨Bel.drew0 _, hcwc, hcuc, hcx1c, hcx1uc⟩ | exact ⟨hb8.of_drew, hb8.at hcw.1 hcwc, hb8.at hcu.1 hcuc, hb8.at hcx1.1 hcx1c, hb8.at hcx1u.1 hcx1uc⟩ | exact ⟨hb8.of_drew.step hb9, (hb8.of_drew.step hb9).at hcw.1 hcwc, (hb8.of_drew.step hb9).at hcu.1 hcuc, (hb8.of_drew.step hb9).at hcx1.1 hcx1c, (hb8.of_drew.step hb9).at hcx1u.1 hcx1uc⟩)
    (first | (go_at_call 9; refine (toWorld_c _ _ _ d1 _ hy1 (hv1.below (Bel.drew0 _))).mono ?_; rintro e w14 ⟨a8, n8, c8, rfl, o8, hb8⟩) | (go_at_call 13; refine (eqWorld_same _ _ _ _ _ _ d1 _ hy1 (ox1.sl.below hb8.of_drew) o8.sl).mono ?_; rintro e w15 ⟨rfl, hb9⟩))
  have zw14 : w13.heap.size ≤ w14.heap.size := hb8.of_drew.size
  have zw15 : w14.heap.size ≤ w15.heap.size := hb9.size
  replace hK := K.step HK.out (hb8.of_drew.step hb9); clear hB hcb hcw hcu hv0 hv1 hv2 hv3 ox0 hcx0 ox1 hcx1 hcx1u ox2 ox3 hcbc hcwc hcuc hcx0c hcx1c hcx1uc HK o8 hb8 hb9
  obtain ⟨⟨⟨⟨⟨⟨⟨⟨⟨⟨⟨⟨⟨⟨hB, hcb⟩, hcw⟩, hcu⟩, hv0⟩, hv1⟩, hv2⟩, hv3⟩, ox0⟩, hcx0⟩, ox1⟩, hcx1⟩, hcx1u⟩, ox2⟩, ox3⟩ := hK.now
  have hcbc := hcb.2
  have hcwc := hcw.2
  have hcuc := hcu.2
  have hcx0c := hcx0.2
  have hcx1c := hcx1.2
  have hcx1uc := hcx1u.2
  go_wp2_with fail
  refine (toIntS_c _ _ _ d2 _ hy2 hv2).mono ?_; rintro e w16 ⟨a8, n8, c8, rfl, o8, hb⟩
  have zw16 : w15.heap.size ≤ w16.heap.size := hb.size
  replace hK := ((K.step hK hb).and o8.sl.k)
  clear hB hcb hcw hcu hv0 hv1 hv2 hv3 ox0 hcx0 ox1 hcx1 hcx1u ox2 ox3 hcbc hcwc hcuc hcx0c hcx1c hcx1uc hb o8
  obtain ⟨⟨⟨⟨⟨⟨⟨⟨⟨⟨⟨⟨⟨⟨⟨hB, hcb⟩, hcw⟩, hcu⟩, hv0⟩, hv1⟩, hv2⟩, hv3⟩, ox0⟩, hcx0⟩, ox1⟩, hcx1⟩, hcx1u⟩, ox2⟩, ox3⟩, oe⟩ := hK.now
  have hcbc := hcb.2
  have hcwc := hcw.2
  have hcuc := hcu.2
  have hcx0c := hcx0.2
  have hcx1c := hcx1.2
  have hcx1uc := hcx1u.2
  go_wp2_with fail
  refine (eqIntS_same _ _ _ _ _ _ d2 _ hy2 ox2.sl oe).mono ?_; rintro e w17 ⟨rfl, hb⟩
  have zw17 : w16.heap.size ≤ w17.heap.size := hb.size
  replace hK := (K.step (K.imp hK fun _ h => h.1) hb)
  clear hB hcb hcw hcu hv0 hv1 hv2 hv3 ox0 hcx0 ox1 hcx1 hcx1u ox2 ox3 oe hcbc hcwc hcuc hcx0c hcx1c hcx1uc hb
  obtain ⟨⟨⟨⟨⟨⟨⟨⟨⟨⟨⟨⟨⟨⟨hB, hcb⟩, hcw⟩, hcu⟩, hv0⟩, hv1⟩, hv2⟩, hv3⟩, ox0⟩, hcx0⟩, ox1⟩, hcx1⟩, hcx1u⟩, ox2⟩, ox3⟩ := hK.now
  have hcbc := hcb.2
  have hcwc := hcw.2
  have hcuc := hcu.2
  have hcx0c := hcx0.2
  have hcx1c := hcx1.2
  have hcx1uc := hcx1u.2
  go_wp2_with fail
  refine (toIntS_c _ _ _ d3 _ hy3 hv3).mono ?_; rintro e w18 ⟨a8, n8, c8, rfl, o8, hb⟩
  have zw18 : w17.heap.size ≤ w18.heap.size := hb.size
  replace hK := ((K.step hK hb).and o8.sl.k)
  clear hB hcb hcw hcu hv0 hv1 hv2 hv3 ox0 hcx0 ox1 hcx1 hcx1u ox2 ox3 hcbc hcwc hcuc hcx0c hcx1c hcx1uc hb o8
  obtain ⟨⟨⟨⟨⟨⟨⟨⟨⟨⟨⟨⟨⟨⟨⟨hB, hcb⟩, hcw⟩, hcu⟩, hv0⟩, hv1⟩, hv2⟩, hv3⟩, ox0⟩, hcx0⟩, ox1⟩, hcx1⟩, hcx1u⟩, ox2⟩, ox3⟩, oe⟩ := hK.now
  have hcbc := hcb.2
  have hcwc := hcw.2
  have hcuc := hcu.2
  have hcx0c := hcx0.2
  have hcx1c := hcx1.2
  have hcx1uc := hcx1u.2
  go_wp2_with fail
  refine (eqIntS_same _ _ _ _ _ _ d3 _ hy3 ox3.sl oe).mono ?_; rintro e w19 ⟨rfl, hb⟩
  have zw19 : w18.heap.size ≤ w19.heap.size := hb.size
  replace hK := (K.step (K.imp hK fun _ h => h.1) hb)
  clear hB hcb hcw hcu hv0 hv1 hv2 hv3 ox0 hcx0 ox1 hcx1 hcx1u ox2 ox3 oe hcbc hcwc hcuc hcx0c hcx1c hcx1uc hb
  obtain ⟨⟨⟨⟨⟨⟨⟨⟨⟨⟨⟨⟨⟨⟨hB, hcb⟩, hcw⟩, hcu⟩, hv0⟩, hv1⟩, hv2⟩, hv3⟩, ox0⟩, hcx0⟩, ox1⟩, hcx1⟩, hcx1u⟩, ox2⟩, ox3⟩ := hK.now
  have hcbc := hcb.2
  have hcwc := hcw.2
  have hcuc := hcu.2
  have hcx0c := hcx0.2
  have hcx1c := hcx1.2
  have hcx1uc := hcx1u.2
  go_wp2_with fail
  go_ret
  exact ⟨rfl, hB⟩
end Go.Proofs.Ytjgbeclafdhijaa
