/- FnExactFactor: the walk of the law, out of the contracts of both functions. -/
import Derived.Test.YteegjnobmbcjiaaGreatDoorMgFactor12
namespace Go.Proofs.YteegjnobmbcjiaaGreatDoor
open Go.RowKit

set_option maxRecDepth 100000 in
set_option maxHeartbeats 8000000 in
theorem lawFactor (w : World) (hT : Tab w) (v0 : Value) (d0 : List Int) (hx0 : d0.length ≤ 9223372036854775807) (hv0 : SlI 0 w.heap.size w v0 d0) (v1 : Value) (d1 : List Lt) (hv1 : SlC 0 w.heap.size w v1 d1) (wi ws wj wo wa : Int) :
    Calls Tryz.prog 3 #[.agg #[v0], v1, .agg #[.int .i64 wi, .int .i64 ws, .int .i64 wj, .int .i64 wo, .int .i64 wa]] w (RetV w (.bool true)) := by
  have htot : sumC (facAns d0 d1 (wi, ws, wj, wo, wa)) ≤ 1048576 := facAns_len _ _ _
  have hlen := htot
  have hl0 := szSign_c _ _ v0 d0 1048576 ((w.alloc (.cells #[v0] 24)).alloc (.cells #[.int .i64 wi, .int .i64 ws, .int .i64 wj, .int .i64 wo, .int .i64 wa] 27)) hx0 (by omega) (by omega) (hv0.below (Bel.alloc2 _ _ _))
  by_cases hs0 : szI d0.length 1048576 < 0
  · have E : Hid (szI d0.length 1048576 = -1) := by show szI _ _ = _; revert hs0; unfold szI; split <;> omega
    rw [E.out] at hl0
    have HL0 := Lib.hid hl0; clear hl0 hs0
    go_enter Tryz.func3, Tryz.ntmps3
    go_wp2_with fail
    refine HL0.out.mono ?_; rintro e wa0 ⟨rfl, hb0⟩
    go_wp2_with fail
    go_ret
    exact ⟨rfl, hb0.of_alloc.of_alloc⟩
  have hy0 : d0.length ≤ 1048576 := by revert hs0; unfold szI; split <;> omega
  have hr0 : 0 ≤ szI d0.length 1048576 ∧ szI d0.length 1048576 ≤ 1048576 := ⟨by omega, by unfold szI; split <;> omega⟩
  have HL0 := Lib.hid hl0; clear hl0 hs0
  generalize szI d0.length 1048576 = r0 at *
  have hl1 := fun (w' : World) (hq : Bel w w') => szLitS_c _ _ v1 d1 r0 w' hr0.1 hr0.2 (hv1.below hq)
  by_cases hs1 : szC d1 r0 < 0
  · have E : Hid (szC d1 r0 = -1) := by show szC _ _ = _; revert hs1; unfold szC; split <;> omega
    simp only [E.out] at hl1
    have HL1 := Lib.hid hl1; clear hl1 hs1
    go_enter Tryz.func3, Tryz.ntmps3
    go_wp2_with fail
    refine HL0.out.mono ?_; rintro e wa0 ⟨rfl, hb0⟩
    go_wp2_with fail
    refine (HL1.out _ hb0.of_alloc.of_alloc).mono ?_; rintro e wa1 ⟨rfl, hc1⟩; have hb1 := hb0.step hc1; clear hc1 hb0
    go_wp2_with fail
    go_ret
    exact ⟨rfl, hb1.of_alloc.of_alloc⟩
  have ht1 : sumC d1 ≤ 1048576 := by revert hs1; unfold szC; split <;> omega
  have hy1 := ht1
  have hr1 : 0 ≤ szC d1 r0 ∧ szC d1 r0 ≤ 1048576 := ⟨by omega, by unfold szC; split <;> omega⟩
  have HL1 := Lib.hid hl1; clear hl1 hs1
  generalize szC d1 r0 = r1 at *
  go_enter Tryz.func3, Tryz.ntmps3
  go_wp2_with fail
  refine HL0.out.mono ?_; rintro e wa0 ⟨rfl, hb0⟩
  go_wp2_with fail
  refine (HL1.out _ hb0.of_alloc.of_alloc).mono ?_; rintro e wa1 ⟨rfl, hc1⟩; have hb1 := hb0.step hc1; clear hc1 hb0
  have zb : w.heap.size + 1 < wa1.heap.size := by have := hb1.size; simp at this; omega
  skip
  obtain ⟨w1, hw1⟩ : ∃ w1, w1 = wa1 := ⟨_, rfl⟩; subst hw1; have hb := hb1; clear hb1 HL0 HL1
  have hT0 := hT
  have hK := ((((((((((bel_k hb.of_alloc.of_alloc).and (cell_ko (boxk hb.of_alloc _ rfl))).and (cell_ko (boxk2 hb 0 _ rfl))).and (cell_ko (boxk2 hb 1 _ rfl))).and (cell_ko (boxk2 hb 2 _ rfl))).and (cell_ko (boxk2 hb 3 _ rfl))).and (cell_ko (boxk2 hb 4 _ rfl))).and (hv0.below hb.of_alloc.of_alloc).k).and (hv1.below hb.of_alloc.of_alloc).k).and (hT.bel hb.of_alloc.of_alloc).k); clear hb hv0 hv1 hT
  obtain ⟨⟨⟨⟨⟨⟨⟨⟨⟨hB, hcb⟩, hcw0⟩, hcw1⟩, hcw2⟩, hcw3⟩, hcw4⟩, hv0⟩, hv1⟩, hT⟩ := hK.now
  have hcbc := hcb.2
  have hcw0c := hcw0.2
  have hcw1c := hcw1.2
  have hcw2c := hcw2.2
  have hcw3c := hcw3.2
  have hcw4c := hcw4.2
  have HK := Lib.hid hK
  go_wp2_with fail
  go_region_held3 (fun w' => Bel w1 w' ∧ w'.cell? ⟨w.heap.size, 0, none⟩ = some (v0) ∧ w'.cell? ⟨w.heap.size + 1, 0, none⟩ = some (.int .i64 wi) ∧ w'.cell? ⟨w.heap.size + 1, 1, none⟩ = some (.int .i64 ws) ∧ w'.cell? ⟨w.heap.size + 1, 2, none⟩ = some (.int .i64 wj) ∧ w'.cell? ⟨w.heap.size + 1, 3, none⟩ = some (.int .i64 wo) ∧ w'.cell? ⟨w.heap.size + 1, 4, none⟩ = some (.int .i64 wa))
    (first | exact ⟨Bel.drew0 _, hcbc, hcw0c, hcw1c, hcw2c, hcw3c, hcw4c⟩ | exact ⟨B0, B0.at hcb.1 hcbc, B0.at hcw0.1 hcw0c, B0.at hcw1.1 hcw1c, B0.at hcw2.1 hcw2c, B0.at hcw3.1 hcw3c, B0.at hcw4.1 hcw4c⟩ | exact ⟨B1, B1.at hcb.1 hcbc, B1.at hcw0.1 hcw0c, B1.at hcw1.1 hcw1c, B1.at hcw2.1 hcw2c, B1.at hcw3.1 hcw3c, B1.at hcw4.1 hcw4c⟩ | exact ⟨BW, BW.at hcb.1 hcbc, BW.at hcw0.1 hcw0c, BW.at hcw1.1 hcw1c, BW.at hcw2.1 hcw2c, BW.at hcw3.1 hcw3c, BW.at hcw4.1 hcw4c⟩ | exact ⟨BL, BL.at hcb.1 hcbc, BL.at hcw0.1 hcw0c, BL.at hcw1.1 hcw1c, BL.at hcw2.1 hcw2c, BL.at hcw3.1 hcw3c, BL.at hcw4.1 hcw4c⟩ | fail)
    (first | (go_at_call 7; refine (sFactor_t (wi, ws, wj, wo, wa) hy0 ((os0.sl.below hq1).below hqW) hy1 (os1.sl.below hqW)).mono ?_; rintro e w5 ⟨aw, nw, cw, rfl, osw, hqL⟩; have BL := BW.step hqL) | (go_at_call 10; refine (toWay_c wi ws wj wo wa _).mono ?_; rintro e w4 ⟨rfl, hqW⟩; have BW := B1.step hqW) | (go_at_call 9; refine (toLitS_c _ _ _ d1 _ hy1 (hv1.below B0)).mono ?_; rintro e w3 ⟨aos1, nos1, cos1, rfl, os1, hq1⟩; have B1 := B0.step hq1) | (go_at_call 8; refine (toSign_c _ _ _ d0 _ hy0 (hv0.below (Bel.drew0 _))).mono ?_; rintro e w2 ⟨aos0, nos0, cos0, rfl, os0, hq0⟩; have B0 := (Bel.drew0 _).step hq0) | fail)
  have zw2 : w1.heap.size ≤ w2.heap.size := hq0.size
  have zw3 : w2.heap.size ≤ w3.heap.size := hq1.size
  have zw4 : w3.heap.size ≤ w4.heap.size := hqW.size
  have zw5 : w4.heap.size ≤ w5.heap.size := hqL.size
  replace hK := ((K.step HK.out BL).and osw.sl.k); clear hB hcb hcw0 hcw1 hcw2 hcw3 hcw4 hv0 hv1 hT hcbc hcw0c hcw1c hcw2c hcw3c hcw4c HK BL hqL BW hqW B0 hq0 B1 hq1 os0 os1 osw
  obtain ⟨⟨⟨⟨⟨⟨⟨⟨⟨⟨hB, hcb⟩, hcw0⟩, hcw1⟩, hcw2⟩, hcw3⟩, hcw4⟩, hv0⟩, hv1⟩, hT⟩, ow⟩ := hK.now
  have hcbc := hcb.2
  have hcw0c := hcw0.2
  have hcw1c := hcw1.2
  have hcw2c := hcw2.2
  have hcw3c := hcw3.2
  have hcw4c := hcw4.2
  go_wp2_with fail
  refine (toSign_c _ _ _ d0 _ hy0 hv0).mono ?_; rintro e w6 ⟨ax0, nx0, cx0, rfl, os, hb⟩
  have zw6 : w5.heap.size ≤ w6.heap.size := hb.size
  replace hK := ((K.step hK hb).and os.k)
  clear hB hcb hcw0 hcw1 hcw2 hcw3 hcw4 hv0 hv1 hT ow hcbc hcw0c hcw1c hcw2c hcw3c hcw4c hb os
  obtain ⟨⟨⟨⟨⟨⟨⟨⟨⟨⟨⟨hB, hcb⟩, hcw0⟩, hcw1⟩, hcw2⟩, hcw3⟩, hcw4⟩, hv0⟩, hv1⟩, hT⟩, ow⟩, ox0⟩ := hK.now
  have hcbc := hcb.2
  have hcw0c := hcw0.2
  have hcw1c := hcw1.2
  have hcw2c := hcw2.2
  have hcw3c := hcw3.2
  have hcw4c := hcw4.2
  go_wp2_with fail
  refine (toLitS_c _ _ _ d1 _ hy1 (hv1.alloc _)).mono ?_; rintro e w7 ⟨ax1, nx1, cx1, rfl, os, hb⟩
  have zw7 : w6.heap.size < w7.heap.size := by have := hb.size; simp at this; omega
  replace hK := (((K.step hK hb.of_alloc).and (cell_ko (boxk hb _ rfl))).and os.k)
  clear hB hcb hcw0 hcw1 hcw2 hcw3 hcw4 hv0 hv1 hT ow ox0 hcbc hcw0c hcw1c hcw2c hcw3c hcw4c hb os
  obtain ⟨⟨⟨⟨⟨⟨⟨⟨⟨⟨⟨⟨⟨hB, hcb⟩, hcw0⟩, hcw1⟩, hcw2⟩, hcw3⟩, hcw4⟩, hv0⟩, hv1⟩, hT⟩, ow⟩, ox0⟩, hcx0⟩, ox1⟩ := hK.now
  have hcbc := hcb.2
  have hcw0c := hcw0.2
  have hcw1c := hcw1.2
  have hcw2c := hcw2.2
  have hcw3c := hcw3.2
  have hcw4c := hcw4.2
  have hcx0c := hcx0.2
  have HK := Lib.hid hK
  go_wp2_with fail
  go_region_held3 (fun w' => Bel w7 w' ∧ w'.cell? ⟨w.heap.size + 1, 0, none⟩ = some (.int .i64 wi) ∧ w'.cell? ⟨w.heap.size + 1, 1, none⟩ = some (.int .i64 ws) ∧ w'.cell? ⟨w.heap.size + 1, 2, none⟩ = some (.int .i64 wj) ∧ w'.cell? ⟨w.heap.size + 1, 3, none⟩ = some (.int .i64 wo) ∧ w'.cell? ⟨w.heap.size + 1, 4, none⟩ = some (.int .i64 wa) ∧ w'.cell? ⟨w6.heap.size, 0, none⟩ = some (.slice ax0 nx0 cx0))
    (first | exact ⟨Bel.drew0 _, hcw0c, hcw1c, hcw2c, hcw3c, hcw4c, hcx0c⟩ | exact ⟨BW, BW.at hcw0.1 hcw0c, BW.at hcw1.1 hcw1c, BW.at hcw2.1 hcw2c, BW.at hcw3.1 hcw3c, BW.at hcw4.1 hcw4c, BW.at hcx0.1 hcx0c⟩ | exact ⟨BL, BL.at hcw0.1 hcw0c, BL.at hcw1.1 hcw1c, BL.at hcw2.1 hcw2c, BL.at hcw3.1 hcw3c, BL.at hcw4.1 hcw4c, BL.at hcx0.1 hcx0c⟩ | fail)
    (first | (go_at_call 11; refine (iFactor_t (wi, ws, wj, wo, wa) (hT.bel BW) hy0 (ox0.sl.below BW) hy1 (ox1.sl.below BW)).mono ?_; rintro e w9 ⟨ag, ng, cg, rfl, osw, hqL⟩; have BL := BW.step hqL) | (go_at_call 10; refine (toWay_c wi ws wj wo wa _).mono ?_; rintro e w8 ⟨rfl, hqW⟩; have BW := (Bel.drew0 w7).step hqW) | fail)
  have zw8 : w7.heap.size ≤ w8.heap.size := hqW.size
  have zw9 : w8.heap.size ≤ w9.heap.size := hqL.size
  replace hK := ((K.step HK.out BL).and osw.k); clear hB hcb hcw0 hcw1 hcw2 hcw3 hcw4 hv0 hv1 hT ow ox0 hcx0 ox1 hcbc hcw0c hcw1c hcw2c hcw3c hcw4c hcx0c HK BL BW hqL hqW osw
  obtain ⟨⟨⟨⟨⟨⟨⟨⟨⟨⟨⟨⟨⟨⟨hB, hcb⟩, hcw0⟩, hcw1⟩, hcw2⟩, hcw3⟩, hcw4⟩, hv0⟩, hv1⟩, hT⟩, ow⟩, ox0⟩, hcx0⟩, ox1⟩, og⟩ := hK.now
  have hcbc := hcb.2
  have hcw0c := hcw0.2
  have hcw1c := hcw1.2
  have hcw2c := hcw2.2
  have hcw3c := hcw3.2
  have hcw4c := hcw4.2
  have hcx0c := hcx0.2
  go_wp2_with fail
  refine (eqLitS_same _ _ _ _ _ _ _ _ hlen og.sl ow).mono ?_; rintro e w10 ⟨rfl, hb⟩
  have zw10 : w9.heap.size ≤ w10.heap.size := hb.size
  replace hK := (K.step hK hb)
  clear hB hcb hcw0 hcw1 hcw2 hcw3 hcw4 hv0 hv1 hT ow ox0 hcx0 ox1 og hcbc hcw0c hcw1c hcw2c hcw3c hcw4c hcx0c hb
  obtain ⟨⟨⟨⟨⟨⟨⟨⟨⟨⟨⟨⟨⟨⟨hB, hcb⟩, hcw0⟩, hcw1⟩, hcw2⟩, hcw3⟩, hcw4⟩, hv0⟩, hv1⟩, hT⟩, ow⟩, ox0⟩, hcx0⟩, ox1⟩, og⟩ := hK.now
  have hcbc := hcb.2
  have hcw0c := hcw0.2
  have hcw1c := hcw1.2
  have hcw2c := hcw2.2
  have hcw3c := hcw3.2
  have hcw4c := hcw4.2
  have hcx0c := hcx0.2
  have HK := Lib.hid hK
  go_wp2_with fail
  go_region_held3 (fun w' => Bel w10 w' ∧ w'.cell? ⟨w.heap.size, 0, none⟩ = some v0 ∧ w'.cell? ⟨w6.heap.size, 0, none⟩ = some (.slice ax0 nx0 cx0))
    (first | exact ⟨Bel.drew0 _, hcbc, hcx0c⟩ | exact ⟨hb8.of_drew, hb8.at hcb.1 hcbc, hb8.at hcx0.1 hcx0c⟩ | exact ⟨hb8.of_drew.step hb9, (hb8.of_drew.step hb9).at hcb.1 hcbc, (hb8.of_drew.step hb9).at hcx0.1 hcx0c⟩)
    (first | (go_at_call 8; refine (toSign_c _ _ _ d0 _ hy0 (hv0.below (Bel.drew0 _))).mono ?_; rintro e w11 ⟨a8, n8, c8, rfl, o8, hb8⟩) | (go_at_call 13; refine (eqSign_same _ _ _ _ _ _ d0 _ hy0 (ox0.sl.below hb8.of_drew) o8.sl).mono ?_; rintro e w12 ⟨rfl, hb9⟩))
  have zw11 : w10.heap.size ≤ w11.heap.size := hb8.of_drew.size
  have zw12 : w11.heap.size ≤ w12.heap.size := hb9.size
  replace hK := K.step HK.out (hb8.of_drew.step hb9); clear hB hcb hcw0 hcw1 hcw2 hcw3 hcw4 hv0 hv1 hT ow ox0 hcx0 ox1 og hcbc hcw0c hcw1c hcw2c hcw3c hcw4c hcx0c HK o8 hb8 hb9
  obtain ⟨⟨⟨⟨⟨⟨⟨⟨⟨⟨⟨⟨⟨⟨hB, hcb⟩, hcw0⟩, hcw1⟩, hcw2⟩, hcw3⟩, hcw4⟩, hv0⟩, hv1⟩, hT⟩, ow⟩, ox0⟩, hcx0⟩, ox1⟩, og⟩ := hK.now
  have hcbc := hcb.2
  have hcw0c := hcw0.2
  have hcw1c := hcw1.2
  have hcw2c := hcw2.2
  have hcw3c := hcw3.2
  have hcw4c := hcw4.2
  have hcx0c := hcx0.2
  go_wp2_with fail
  refine (toLitS_c _ _ _ d1 _ hy1 hv1).mono ?_; rintro e w13 ⟨a8, n8, c8, rfl, o8, hb⟩
  have zw13 : w12.heap.size ≤ w13.heap.size := hb.size
  replace hK := ((K.step hK hb).and o8.sl.k)
  clear hB hcb hcw0 hcw1 hcw2 hcw3 hcw4 hv0 hv1 hT ow ox0 hcx0 ox1 og hcbc hcw0c hcw1c hcw2c hcw3c hcw4c hcx0c hb o8
  obtain ⟨⟨⟨⟨⟨⟨⟨⟨⟨⟨⟨⟨⟨⟨⟨hB, hcb⟩, hcw0⟩, hcw1⟩, hcw2⟩, hcw3⟩, hcw4⟩, hv0⟩, hv1⟩, hT⟩, ow⟩, ox0⟩, hcx0⟩, ox1⟩, og⟩, oe⟩ := hK.now
  have hcbc := hcb.2
  have hcw0c := hcw0.2
  have hcw1c := hcw1.2
  have hcw2c := hcw2.2
  have hcw3c := hcw3.2
  have hcw4c := hcw4.2
  have hcx0c := hcx0.2
  go_wp2_with fail
  refine (eqLitS_same _ _ _ _ _ _ d1 _ hy1 ox1.sl oe).mono ?_; rintro e w14 ⟨rfl, hb⟩
  have zw14 : w13.heap.size ≤ w14.heap.size := hb.size
  replace hK := (K.step (K.imp hK fun _ h => h.1) hb)
  clear hB hcb hcw0 hcw1 hcw2 hcw3 hcw4 hv0 hv1 hT ow ox0 hcx0 ox1 og oe hcbc hcw0c hcw1c hcw2c hcw3c hcw4c hcx0c hb
  skip
  obtain ⟨⟨⟨⟨⟨⟨⟨⟨⟨⟨⟨⟨⟨⟨hB, hcb⟩, hcw0⟩, hcw1⟩, hcw2⟩, hcw3⟩, hcw4⟩, hv0⟩, hv1⟩, hT⟩, ow⟩, ox0⟩, hcx0⟩, ox1⟩, og⟩ := hK.now
  have hcbc := hcb.2
  have hcw0c := hcw0.2
  have hcw1c := hcw1.2
  have hcw2c := hcw2.2
  have hcw3c := hcw3.2
  have hcw4c := hcw4.2
  have hcx0c := hcx0.2
  go_wp2_with fail
  refine (markSign_c _ _ _ d0 (1) _ hy0 (by omega) (by first | omega | (simp; omega) | simp) ox0).mono ?_; rintro e w15 ⟨rfl, hch, -⟩
  have zw15 : w14.heap.size ≤ w15.heap.size := hch.size
  replace hK := (((((((((((((bel_k (hch.bel hB (by first | omega | (simp; omega) | simp))).and (cell_ko ⟨Nat.lt_of_lt_of_le hcb.1 hch.size, hch.cell hcb.1 (by first | omega | (simp; omega) | simp) hcb.2⟩)).and (cell_ko ⟨Nat.lt_of_lt_of_le hcw0.1 hch.size, hch.cell hcw0.1 (by first | omega | (simp; omega) | simp) hcw0.2⟩)).and (cell_ko ⟨Nat.lt_of_lt_of_le hcw1.1 hch.size, hch.cell hcw1.1 (by first | omega | (simp; omega) | simp) hcw1.2⟩)).and (cell_ko ⟨Nat.lt_of_lt_of_le hcw2.1 hch.size, hch.cell hcw2.1 (by first | omega | (simp; omega) | simp) hcw2.2⟩)).and (cell_ko ⟨Nat.lt_of_lt_of_le hcw3.1 hch.size, hch.cell hcw3.1 (by first | omega | (simp; omega) | simp) hcw3.2⟩)).and (cell_ko ⟨Nat.lt_of_lt_of_le hcw4.1 hch.size, hch.cell hcw4.1 (by first | omega | (simp; omega) | simp) hcw4.2⟩)).and (hv0.chg hch (by first | omega | (simp; omega) | simp)).k).and (hv1.chg hch (by first | omega | (simp; omega) | simp)).k).and (ow.chg hch (by first | omega | (simp; omega) | simp)).k).and (cell_ko ⟨Nat.lt_of_lt_of_le hcx0.1 hch.size, hch.cell hcx0.1 (by first | omega | (simp; omega) | simp) hcx0.2⟩)).and (ox1.chg hch (by first | omega | (simp; omega) | simp)).k).and (og.chg hch (by first | omega | (simp; omega) | simp)).k)
  clear hB hcb hcw0 hcw1 hcw2 hcw3 hcw4 hv0 hv1 hT ow ox0 hcx0 ox1 og hcbc hcw0c hcw1c hcw2c hcw3c hcw4c hcx0c hch
  obtain ⟨⟨⟨⟨⟨⟨⟨⟨⟨⟨⟨⟨hB, hcb⟩, hcw0⟩, hcw1⟩, hcw2⟩, hcw3⟩, hcw4⟩, hv0⟩, hv1⟩, ow⟩, hcx0⟩, ox1⟩, og⟩ := hK.now
  have hcbc := hcb.2
  have hcw0c := hcw0.2
  have hcw1c := hcw1.2
  have hcw2c := hcw2.2
  have hcw3c := hcw3.2
  have hcw4c := hcw4.2
  have hcx0c := hcx0.2
  go_wp2_with fail
  refine (markLitS_c _ _ _ d1 (1 + d0.length) _ ht1 (by omega) ox1).mono ?_; rintro e w16 ⟨rfl, hch, -⟩
  have zw16 : w15.heap.size ≤ w16.heap.size := hch.size
  replace hK := ((((((((((((bel_k (hch.bel hB (by first | omega | (simp; omega) | simp))).and (cell_ko ⟨Nat.lt_of_lt_of_le hcb.1 hch.size, hch.cell hcb.1 (by first | omega | (simp; omega) | simp) hcb.2⟩)).and (cell_ko ⟨Nat.lt_of_lt_of_le hcw0.1 hch.size, hch.cell hcw0.1 (by first | omega | (simp; omega) | simp) hcw0.2⟩)).and (cell_ko ⟨Nat.lt_of_lt_of_le hcw1.1 hch.size, hch.cell hcw1.1 (by first | omega | (simp; omega) | simp) hcw1.2⟩)).and (cell_ko ⟨Nat.lt_of_lt_of_le hcw2.1 hch.size, hch.cell hcw2.1 (by first | omega | (simp; omega) | simp) hcw2.2⟩)).and (cell_ko ⟨Nat.lt_of_lt_of_le hcw3.1 hch.size, hch.cell hcw3.1 (by first | omega | (simp; omega) | simp) hcw3.2⟩)).and (cell_ko ⟨Nat.lt_of_lt_of_le hcw4.1 hch.size, hch.cell hcw4.1 (by first | omega | (simp; omega) | simp) hcw4.2⟩)).and (hv0.chg hch (by first | omega | (simp; omega) | simp)).k).and (hv1.chg hch (by first | omega | (simp; omega) | simp)).k).and (ow.chg hch (by first | omega | (simp; omega) | simp)).k).and (cell_ko ⟨Nat.lt_of_lt_of_le hcx0.1 hch.size, hch.cell hcx0.1 (by first | omega | (simp; omega) | simp) hcx0.2⟩)).and (og.chg hch (by first | omega | (simp; omega) | simp)).k)
  clear hB hcb hcw0 hcw1 hcw2 hcw3 hcw4 hv0 hv1 ow hcx0 ox1 og hcbc hcw0c hcw1c hcw2c hcw3c hcw4c hcx0c hch
  obtain ⟨⟨⟨⟨⟨⟨⟨⟨⟨⟨⟨hB, hcb⟩, hcw0⟩, hcw1⟩, hcw2⟩, hcw3⟩, hcw4⟩, hv0⟩, hv1⟩, ow⟩, hcx0⟩, og⟩ := hK.now
  have hcbc := hcb.2
  have hcw0c := hcw0.2
  have hcw1c := hcw1.2
  have hcw2c := hcw2.2
  have hcw3c := hcw3.2
  have hcw4c := hcw4.2
  have hcx0c := hcx0.2
  replace hK := (((((((((((bel_k hB).and (cell_ko hcb)).and (cell_ko hcw0)).and (cell_ko hcw1)).and (cell_ko hcw2)).and (cell_ko hcw3)).and (cell_ko hcw4)).and (hv0.k)).and (hv1.k)).and (ow.k)).and (og.k))
  clear hB hcb hcw0 hcw1 hcw2 hcw3 hcw4 hv0 hv1 ow hcx0 og hcbc hcw0c hcw1c hcw2c hcw3c hcw4c hcx0c
  obtain ⟨⟨⟨⟨⟨⟨⟨⟨⟨⟨hB, hcb⟩, hcw0⟩, hcw1⟩, hcw2⟩, hcw3⟩, hcw4⟩, hv0⟩, hv1⟩, ow⟩, og⟩ := hK.now
  have hcbc := hcb.2
  have hcw0c := hcw0.2
  have hcw1c := hcw1.2
  have hcw2c := hcw2.2
  have hcw3c := hcw3.2
  have hcw4c := hcw4.2
  go_wp2_with fail
  refine (eqLitS_same _ _ _ _ _ _ _ _ hlen og.sl ow).mono ?_; rintro e w17 ⟨rfl, hb⟩
  have zw17 : w16.heap.size ≤ w17.heap.size := hb.size
  replace hK := (K.step hK hb)
  clear hB hcb hcw0 hcw1 hcw2 hcw3 hcw4 hv0 hv1 ow og hcbc hcw0c hcw1c hcw2c hcw3c hcw4c hb
  obtain ⟨⟨⟨⟨⟨⟨⟨⟨⟨⟨hB, hcb⟩, hcw0⟩, hcw1⟩, hcw2⟩, hcw3⟩, hcw4⟩, hv0⟩, hv1⟩, ow⟩, og⟩ := hK.now
  have hcbc := hcb.2
  have hcw0c := hcw0.2
  have hcw1c := hcw1.2
  have hcw2c := hcw2.2
  have hcw3c := hcw3.2
  have hcw4c := hcw4.2
  go_wp2_with fail
  refine (markLitS_c _ _ _ _ 1 _ htot (by omega) og).mono ?_; rintro e w18 ⟨rfl, hch, om⟩
  have zw18 : w17.heap.size ≤ w18.heap.size := hch.size
  replace hK := (((((((((((bel_k (hch.bel hB (by first | omega | (simp; omega) | simp))).and (cell_ko ⟨Nat.lt_of_lt_of_le hcb.1 hch.size, hch.cell hcb.1 (by first | omega | (simp; omega) | simp) hcb.2⟩)).and (cell_ko ⟨Nat.lt_of_lt_of_le hcw0.1 hch.size, hch.cell hcw0.1 (by first | omega | (simp; omega) | simp) hcw0.2⟩)).and (cell_ko ⟨Nat.lt_of_lt_of_le hcw1.1 hch.size, hch.cell hcw1.1 (by first | omega | (simp; omega) | simp) hcw1.2⟩)).and (cell_ko ⟨Nat.lt_of_lt_of_le hcw2.1 hch.size, hch.cell hcw2.1 (by first | omega | (simp; omega) | simp) hcw2.2⟩)).and (cell_ko ⟨Nat.lt_of_lt_of_le hcw3.1 hch.size, hch.cell hcw3.1 (by first | omega | (simp; omega) | simp) hcw3.2⟩)).and (cell_ko ⟨Nat.lt_of_lt_of_le hcw4.1 hch.size, hch.cell hcw4.1 (by first | omega | (simp; omega) | simp) hcw4.2⟩)).and (hv0.chg hch (by first | omega | (simp; omega) | simp)).k).and (hv1.chg hch (by first | omega | (simp; omega) | simp)).k).and (ow.chg hch (by first | omega | (simp; omega) | simp)).k).and om.sl.k)
  clear hB hcb hcw0 hcw1 hcw2 hcw3 hcw4 hv0 hv1 ow og hcbc hcw0c hcw1c hcw2c hcw3c hcw4c hch om
  obtain ⟨⟨⟨⟨⟨⟨⟨⟨⟨⟨hB, hcb⟩, hcw0⟩, hcw1⟩, hcw2⟩, hcw3⟩, hcw4⟩, hv0⟩, hv1⟩, ow⟩, om⟩ := hK.now
  have hcbc := hcb.2
  have hcw0c := hcw0.2
  have hcw1c := hcw1.2
  have hcw2c := hcw2.2
  have hcw3c := hcw3.2
  have hcw4c := hcw4.2
  go_wp2_with fail
  refine (heldLitS_c _ _ _ _ 1 _ htot (by omega) om).mono ?_; rintro e w19 ⟨rfl, hb⟩
  have zw19 : w18.heap.size ≤ w19.heap.size := hb.size
  replace hK := (K.step hK hb)
  clear hB hcb hcw0 hcw1 hcw2 hcw3 hcw4 hv0 hv1 ow om hcbc hcw0c hcw1c hcw2c hcw3c hcw4c hb
  obtain ⟨⟨⟨⟨⟨⟨⟨⟨⟨⟨hB, hcb⟩, hcw0⟩, hcw1⟩, hcw2⟩, hcw3⟩, hcw4⟩, hv0⟩, hv1⟩, ow⟩, om⟩ := hK.now
  have hcbc := hcb.2
  have hcw0c := hcw0.2
  have hcw1c := hcw1.2
  have hcw2c := hcw2.2
  have hcw3c := hcw3.2
  have hcw4c := hcw4.2
  have HK := Lib.hid hK
  go_wp2_with fail
  go_region_held3 (fun w' => Bel w19 w' ∧ w'.cell? ⟨w.heap.size, 0, none⟩ = some (v0) ∧ w'.cell? ⟨w.heap.size + 1, 0, none⟩ = some (.int .i64 wi) ∧ w'.cell? ⟨w.heap.size + 1, 1, none⟩ = some (.int .i64 ws) ∧ w'.cell? ⟨w.heap.size + 1, 2, none⟩ = some (.int .i64 wj) ∧ w'.cell? ⟨w.heap.size + 1, 3, none⟩ = some (.int .i64 wo) ∧ w'.cell? ⟨w.heap.size + 1, 4, none⟩ = some (.int .i64 wa))
    (first | exact ⟨Bel.drew0 _, hcbc, hcw0c, hcw1c, hcw2c, hcw3c, hcw4c⟩ | exact ⟨B0, B0.at hcb.1 hcbc, B0.at hcw0.1 hcw0c, B0.at hcw1.1 hcw1c, B0.at hcw2.1 hcw2c, B0.at hcw3.1 hcw3c, B0.at hcw4.1 hcw4c⟩ | exact ⟨B1, B1.at hcb.1 hcbc, B1.at hcw0.1 hcw0c, B1.at hcw1.1 hcw1c, B1.at hcw2.1 hcw2c, B1.at hcw3.1 hcw3c, B1.at hcw4.1 hcw4c⟩ | exact ⟨BW, BW.at hcb.1 hcbc, BW.at hcw0.1 hcw0c, BW.at hcw1.1 hcw1c, BW.at hcw2.1 hcw2c, BW.at hcw3.1 hcw3c, BW.at hcw4.1 hcw4c⟩ | exact ⟨BL, BL.at hcb.1 hcbc, BL.at hcw0.1 hcw0c, BL.at hcw1.1 hcw1c, BL.at hcw2.1 hcw2c, BL.at hcw3.1 hcw3c, BL.at hcw4.1 hcw4c⟩ | fail)
    (first | (go_at_call 11; refine (iFactor_t (wi, ws, wj, wo, wa) (hT0.bel (hB.step BW)) hy0 ((os0.sl.below hq1).below hqW) hy1 (os1.sl.below hqW)).mono ?_; rintro e w23 ⟨ah, nh, ch, rfl, osw, hqL⟩; have BL := BW.step hqL) | (go_at_call 10; refine (toWay_c wi ws wj wo wa _).mono ?_; rintro e w22 ⟨rfl, hqW⟩; have BW := B1.step hqW) | (go_at_call 9; refine (toLitS_c _ _ _ d1 _ hy1 (hv1.below B0)).mono ?_; rintro e w21 ⟨aos1, nos1, cos1, rfl, os1, hq1⟩; have B1 := B0.step hq1) | (go_at_call 8; refine (toSign_c _ _ _ d0 _ hy0 (hv0.below (Bel.drew0 _))).mono ?_; rintro e w20 ⟨aos0, nos0, cos0, rfl, os0, hq0⟩; have B0 := (Bel.drew0 _).step hq0) | fail)
  have zw20 : w19.heap.size ≤ w20.heap.size := hq0.size
  have zw21 : w20.heap.size ≤ w21.heap.size := hq1.size
  have zw22 : w21.heap.size ≤ w22.heap.size := hqW.size
  have zw23 : w22.heap.size ≤ w23.heap.size := hqL.size
  replace hK := ((K.step HK.out BL).and osw.sl.k); clear hB hcb hcw0 hcw1 hcw2 hcw3 hcw4 hv0 hv1 ow om hcbc hcw0c hcw1c hcw2c hcw3c hcw4c HK BL hqL BW hqW B0 hq0 B1 hq1 os0 os1 osw
  obtain ⟨⟨⟨⟨⟨⟨⟨⟨⟨⟨⟨hB, hcb⟩, hcw0⟩, hcw1⟩, hcw2⟩, hcw3⟩, hcw4⟩, hv0⟩, hv1⟩, ow⟩, om⟩, oh⟩ := hK.now
  have hcbc := hcb.2
  have hcw0c := hcw0.2
  have hcw1c := hcw1.2
  have hcw2c := hcw2.2
  have hcw3c := hcw3.2
  have hcw4c := hcw4.2
  go_wp2_with fail
  refine (eqLitS_same _ _ _ _ _ _ _ _ hlen oh ow).mono ?_; rintro e w24 ⟨rfl, hb⟩
  have zw24 : w23.heap.size ≤ w24.heap.size := hb.size
  replace hK := (K.step hK hb)
  clear hB hcb hcw0 hcw1 hcw2 hcw3 hcw4 hv0 hv1 ow om oh hcbc hcw0c hcw1c hcw2c hcw3c hcw4c hb
  obtain ⟨⟨⟨⟨⟨⟨⟨⟨⟨⟨⟨hB, hcb⟩, hcw0⟩, hcw1⟩, hcw2⟩, hcw3⟩, hcw4⟩, hv0⟩, hv1⟩, ow⟩, om⟩, oh⟩ := hK.now
  have hcbc := hcb.2
  have hcw0c := hcw0.2
  have hcw1c := hcw1.2
  have hcw2c := hcw2.2
  have hcw3c := hcw3.2
  have hcw4c := hcw4.2
  go_wp2_with fail
  refine (heldLitS_c _ _ _ _ 1 _ htot (by omega) om).mono ?_; rintro e w25 ⟨rfl, hb⟩
  have zw25 : w24.heap.size ≤ w25.heap.size := hb.size
  replace hK := (K.step hK hb)
  clear hB hcb hcw0 hcw1 hcw2 hcw3 hcw4 hv0 hv1 ow om oh hcbc hcw0c hcw1c hcw2c hcw3c hcw4c hb
  obtain ⟨⟨⟨⟨⟨⟨⟨⟨⟨⟨⟨hB, hcb⟩, hcw0⟩, hcw1⟩, hcw2⟩, hcw3⟩, hcw4⟩, hv0⟩, hv1⟩, ow⟩, om⟩, oh⟩ := hK.now
  have hcbc := hcb.2
  have hcw0c := hcw0.2
  have hcw1c := hcw1.2
  have hcw2c := hcw2.2
  have hcw3c := hcw3.2
  have hcw4c := hcw4.2
  go_wp2_with fail
  go_ret
  exact ⟨rfl, hB⟩
end Go.Proofs.YteegjnobmbcjiaaGreatDoor
