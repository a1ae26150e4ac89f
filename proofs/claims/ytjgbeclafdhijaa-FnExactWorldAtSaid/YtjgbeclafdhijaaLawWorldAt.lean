/- FnExactWorldAt: the walk of the law, out of the contracts of both functions. -/
import Derived.Test.YtjgbeclafdhijaaMgWorldAt10
namespace Go.Proofs.Ytjgbeclafdhijaa
open Go.RowKit

set_option maxRecDepth 100000 in
set_option maxHeartbeats 8000000 in
theorem lawWorldAt (w : World) (v0 : Value) (d0 : List Int) (hx0 : d0.length ≤ 9223372036854775807) (hv0 : SlI 0 w.heap.size w v0 d0) (a1 : Int) (b1 : -9223372036854775808 ≤ a1) (c1 : a1 ≤ 9223372036854775807) (a2 : Int) (b2 : -9223372036854775808 ≤ a2) (c2 : a2 ≤ 9223372036854775807) :
    Calls Try.prog 4 #[.agg #[v0], .int .i64 a1, .int .i64 a2] w (RetV w (.bool true)) := by
  have htot : tot (worldAtT d0 a1 a2) ≤ 1048576 := worldAtT_tot _ _ _
  have hlen : short (worldAtT d0 a1 a2) := short_of_tot htot
  have hl0 := szSign_c _ _ v0 d0 1048576 (w.alloc (.cells #[v0] 24)) hx0 (by omega) (by omega) (hv0.below (Bel.alloc0 _ _))
  by_cases hs0 : szI d0.length 1048576 < 0
  · have E : Hid (szI d0.length 1048576 = -1) := by show szI _ _ = _; revert hs0; unfold szI; split <;> omega
    rw [E.out] at hl0
    have HL0 := Lib.hid hl0; clear hl0 hs0
    go_enter Try.func4, Try.ntmps4
    go_wp2_with fail
    refine HL0.out.mono ?_; rintro e wa0 ⟨rfl, hb0⟩
    go_wp2_with fail
    go_ret
    exact ⟨rfl, hb0.of_alloc⟩
  have hy0 : d0.length ≤ 1048576 := by revert hs0; unfold szI; split <;> omega
  have hr0 : 0 ≤ szI d0.length 1048576 ∧ szI d0.length 1048576 ≤ 1048576 := ⟨by omega, by unfold szI; split <;> omega⟩
  have HL0 := Lib.hid hl0; clear hl0 hs0
  generalize szI d0.length 1048576 = r0 at *
  go_enter Try.func4, Try.ntmps4
  go_wp2_with fail
  refine HL0.out.mono ?_; rintro e wa0 ⟨rfl, hb0⟩
  have zb : w.heap.size < wa0.heap.size := by have := hb0.size; simp at this; omega
  skip
  obtain ⟨w1, hw1⟩ : ∃ w1, w1 = wa0 := ⟨_, rfl⟩; subst hw1; have hb := hb0; clear hb0 HL0
  have hK := (((bel_k hb.of_alloc).and (cell_k (boxk hb _ rfl))).and (hv0.below hb.of_alloc).k); clear hb hv0
  obtain ⟨⟨hB, hcb⟩, hv0⟩ := hK.now
  have hcbc := hcb.2
  go_wp2_with fail
  refine (toSign_c _ _ _ d0 _ hy0 hv0).mono ?_; rintro e w2 ⟨aos0, nos0, cos0, rfl, os, hb⟩
  have zw2 : w1.heap.size ≤ w2.heap.size := hb.size
  replace hK := ((K.step hK hb).and os.sl.k)
  clear hB hcb hv0 hcbc hb os
  obtain ⟨⟨⟨hB, hcb⟩, hv0⟩, os0⟩ := hK.now
  have hcbc := hcb.2
  go_wp2_with fail
  refine (sWorldAt_t hy0 os0 b1 c1 b2 c2).mono ?_; rintro e w3 ⟨aw, nw, cw, rfl, os, hb⟩
  have zw3 : w2.heap.size ≤ w3.heap.size := hb.size
  replace hK := ((K.step (K.imp hK fun _ h => h.1) hb).and os.sl.k)
  clear hB hcb hv0 os0 hcbc hb os
  obtain ⟨⟨⟨hB, hcb⟩, hv0⟩, ow⟩ := hK.now
  have hcbc := hcb.2
  go_wp2_with fail
  refine (toSign_c _ _ _ d0 _ hy0 (hv0.alloc _)).mono ?_; rintro e w4 ⟨ax0, nx0, cx0, rfl, os, hb⟩
  have zw4 : w3.heap.size < w4.heap.size := by have := hb.size; simp at this; omega
  replace hK := ((((K.step hK hb.of_alloc).and (cell_ko (boxk hb _ rfl))).and (cell_ko (boxk1 hb _ rfl))).and os.k)
  clear hB hcb hv0 ow hcbc hb os
  obtain ⟨⟨⟨⟨⟨⟨hB, hcb⟩, hv0⟩, ow⟩, hcyw⟩, hcywu⟩, ox0⟩ := hK.now
  have hcbc := hcb.2
  have hcywc := hcyw.2
  have hcywuc := hcywu.2
  go_wp2_with fail
  refine (iWorldAt_t hy0 (ox0.alloc _).sl b1 c1 b2 c2).mono ?_; rintro e w5 ⟨ag, ng, cg, rfl, os, hb⟩
  have zw5 : w4.heap.size < w5.heap.size := by have := hb.size; simp at this; omega
  replace hK := (((K.step hK hb.of_alloc).and (cell_ko (boxk hb _ rfl))).and os.k)
  clear hB hcb hv0 ow hcyw hcywu ox0 hcbc hcywc hcywuc hb os
  obtain ⟨⟨⟨⟨⟨⟨⟨⟨hB, hcb⟩, hv0⟩, ow⟩, hcyw⟩, hcywu⟩, ox0⟩, hcx0⟩, og⟩ := hK.now
  have hcbc := hcb.2
  have hcywc := hcyw.2
  have hcywuc := hcywu.2
  have hcx0c := hcx0.2
  have hq1 := (Bel.alloc0 w5 (.cells #[.int .i64 (worldAtZ d0 a1 a2), .slice ag ng cg] 34)).at hcyw.1 hcyw.2; have hq2 := (Bel.alloc0 w5 (.cells #[.int .i64 (worldAtZ d0 a1 a2), .slice ag ng cg] 34)).at hcywu.1 hcywu.2
  go_wp2_with fail
  refine (eqWorld_same _ _ _ _ _ _ _ _ hlen (og.alloc _).sl (ow.alloc _)).mono ?_; rintro e w6 ⟨rfl, hb⟩
  have zw6 : w5.heap.size < w6.heap.size := by have := hb.size; simp at this; omega
  replace hK := (((K.step hK hb.of_alloc).and (cell_ko (boxk hb _ rfl))).and (cell_ko (boxk1 hb _ rfl)))
  clear hB hcb hv0 ow hcyw hcywu ox0 hcx0 og hcbc hcywc hcywuc hcx0c hb hq1 hq2
  obtain ⟨⟨⟨⟨⟨⟨⟨⟨⟨⟨hB, hcb⟩, hv0⟩, ow⟩, hcyw⟩, hcywu⟩, ox0⟩, hcx0⟩, og⟩, hcyg⟩, hcygu⟩ := hK.now
  have hcbc := hcb.2
  have hcywc := hcyw.2
  have hcywuc := hcywu.2
  have hcx0c := hcx0.2
  have hcygc := hcyg.2
  have hcyguc := hcygu.2
  have HK := Lib.hid hK
  go_wp2_with fail
  go_region_held3 (fun w' => Bel w6 w' ∧ w'.cell? ⟨w.heap.size, 0, none⟩ = some v0 ∧ w'.cell? ⟨w4.heap.size, 0, none⟩ = some (.slice ax0 nx0 cx0))
    (first | exact ⟨Bel.drew0 _, hcbc, hcx0c⟩ | exact ⟨hb8.of_drew, hb8.at hcb.1 hcbc, hb8.at hcx0.1 hcx0c⟩ | exact ⟨hb8.of_drew.step hb9, (hb8.of_drew.step hb9).at hcb.1 hcbc, (hb8.of_drew.step hb9).at hcx0.1 hcx0c⟩)
    (first | (go_at_call 8; refine (toSign_c _ _ _ d0 _ hy0 (hv0.below (Bel.drew0 _))).mono ?_; rintro e w7 ⟨a8, n8, c8, rfl, o8, hb8⟩) | (go_at_call 12; refine (eqSign_same _ _ _ _ _ _ d0 _ hy0 (ox0.sl.below hb8.of_drew) o8.sl).mono ?_; rintro e w8 ⟨rfl, hb9⟩))
  have zw7 : w6.heap.size ≤ w7.heap.size := hb8.of_drew.size
  have zw8 : w7.heap.size ≤ w8.heap.size := hb9.size
  replace hK := K.step HK.out (hb8.of_drew.step hb9); clear hB hcb hv0 ow hcyw hcywu ox0 hcx0 og hcyg hcygu hcbc hcywc hcywuc hcx0c hcygc hcyguc HK o8 hb8 hb9
  skip
  obtain ⟨⟨⟨⟨⟨⟨⟨⟨⟨⟨hB, hcb⟩, hv0⟩, ow⟩, hcyw⟩, hcywu⟩, ox0⟩, hcx0⟩, og⟩, hcyg⟩, hcygu⟩ := hK.now
  have hcbc := hcb.2
  have hcywc := hcyw.2
  have hcywuc := hcywu.2
  have hcx0c := hcx0.2
  have hcygc := hcyg.2
  have hcyguc := hcygu.2
  go_wp2_with fail
  refine (markSign_c _ _ _ d0 (1) _ hy0 (by omega) (by first | omega | (simp; omega) | simp) ox0).mono ?_; rintro e w9 ⟨rfl, hch, -⟩
  have zw9 : w8.heap.size ≤ w9.heap.size := hch.size
  replace hK := ((((((((((bel_k (hch.bel hB (by first | omega | (simp; omega) | simp))).and (cell_ko ⟨Nat.lt_of_lt_of_le hcb.1 hch.size, hch.cell hcb.1 (by first | omega | (simp; omega) | simp) hcb.2⟩)).and (hv0.chg hch (by first | omega | (simp; omega) | simp)).k).and (ow.chg hch (by first | omega | (simp; omega) | simp)).k).and (cell_ko ⟨Nat.lt_of_lt_of_le hcyw.1 hch.size, hch.cell hcyw.1 (by first | omega | (simp; omega) | simp) hcyw.2⟩)).and (cell_ko ⟨Nat.lt_of_lt_of_le hcywu.1 hch.size, hch.cell hcywu.1 (by first | omega | (simp; omega) | simp) hcywu.2⟩)).and (cell_ko ⟨Nat.lt_of_lt_of_le hcx0.1 hch.size, hch.cell hcx0.1 (by first | omega | (simp; omega) | simp) hcx0.2⟩)).and (og.chg hch (by first | omega | (simp; omega) | simp)).k).and (cell_ko ⟨Nat.lt_of_lt_of_le hcyg.1 hch.size, hch.cell hcyg.1 (by first | omega | (simp; omega) | simp) hcyg.2⟩)).and (cell_ko ⟨Nat.lt_of_lt_of_le hcygu.1 hch.size, hch.cell hcygu.1 (by first | omega | (simp; omega) | simp) hcygu.2⟩))
  clear hB hcb hv0 ow hcyw hcywu ox0 hcx0 og hcyg hcygu hcbc hcywc hcywuc hcx0c hcygc hcyguc hch
  obtain ⟨⟨⟨⟨⟨⟨⟨⟨⟨hB, hcb⟩, hv0⟩, ow⟩, hcyw⟩, hcywu⟩, hcx0⟩, og⟩, hcyg⟩, hcygu⟩ := hK.now
  have hcbc := hcb.2
  have hcywc := hcyw.2
  have hcywuc := hcywu.2
  have hcx0c := hcx0.2
  have hcygc := hcyg.2
  have hcyguc := hcygu.2
  replace hK := (((((((((bel_k hB).and (cell_ko hcb)).and (hv0.k)).and (ow.k)).and (cell_ko hcyw)).and (cell_ko hcywu)).and (og.k)).and (cell_ko hcyg)).and (cell_ko hcygu))
  clear hB hcb hv0 ow hcyw hcywu hcx0 og hcyg hcygu hcbc hcywc hcywuc hcx0c hcygc hcyguc
  obtain ⟨⟨⟨⟨⟨⟨⟨⟨hB, hcb⟩, hv0⟩, ow⟩, hcyw⟩, hcywu⟩, og⟩, hcyg⟩, hcygu⟩ := hK.now
  have hcbc := hcb.2
  have hcywc := hcyw.2
  have hcywuc := hcywu.2
  have hcygc := hcyg.2
  have hcyguc := hcygu.2
  go_wp2_with fail
  refine (eqWorld_same _ _ _ _ _ _ _ _ hlen og.sl ow).mono ?_; rintro e w10 ⟨rfl, hb⟩
  have zw10 : w9.heap.size ≤ w10.heap.size := hb.size
  replace hK := (K.step hK hb)
  clear hB hcb hv0 ow hcyw hcywu og hcyg hcygu hcbc hcywc hcywuc hcygc hcyguc hb
  obtain ⟨⟨⟨⟨⟨⟨⟨⟨hB, hcb⟩, hv0⟩, ow⟩, hcyw⟩, hcywu⟩, og⟩, hcyg⟩, hcygu⟩ := hK.now
  have hcbc := hcb.2
  have hcywc := hcyw.2
  have hcywuc := hcywu.2
  have hcygc := hcyg.2
  have hcyguc := hcygu.2
  go_wp2_with fail
  refine (markWorld_c _ _ _ _ 1 _ htot (by omega) og).mono ?_; rintro e w11 ⟨rfl, hch, om⟩
  have zw11 : w10.heap.size ≤ w11.heap.size := hch.size
  replace hK := (((((((((bel_k (hch.bel hB (by first | omega | (simp; omega) | simp))).and (cell_ko ⟨Nat.lt_of_lt_of_le hcb.1 hch.size, hch.cell hcb.1 (by first | omega | (simp; omega) | simp) hcb.2⟩)).and (hv0.chg hch (by first | omega | (simp; omega) | simp)).k).and (ow.chg hch (by first | omega | (simp; omega) | simp)).k).and (cell_ko ⟨Nat.lt_of_lt_of_le hcyw.1 hch.size, hch.cell hcyw.1 (by first | omega | (simp; omega) | simp) hcyw.2⟩)).and (cell_ko ⟨Nat.lt_of_lt_of_le hcywu.1 hch.size, hch.cell hcywu.1 (by first | omega | (simp; omega) | simp) hcywu.2⟩)).and (cell_ko ⟨Nat.lt_of_lt_of_le hcyg.1 hch.size, hch.cell hcyg.1 (by first | omega | (simp; omega) | simp) hcyg.2⟩)).and (cell_ko ⟨Nat.lt_of_lt_of_le hcygu.1 hch.size, hch.cell hcygu.1 (by first | omega | (simp; omega) | simp) hcygu.2⟩)).and om.sl.k)
  clear hB hcb hv0 ow hcyw hcywu og hcyg hcygu hcbc hcywc hcywuc hcygc hcyguc hch om
  obtain ⟨⟨⟨⟨⟨⟨⟨⟨hB, hcb⟩, hv0⟩, ow⟩, hcyw⟩, hcywu⟩, hcyg⟩, hcygu⟩, om⟩ := hK.now
  have hcbc := hcb.2
  have hcywc := hcyw.2
  have hcywuc := hcywu.2
  have hcygc := hcyg.2
  have hcyguc := hcygu.2
  go_wp2_with fail
  refine (heldWorld_c _ _ _ _ 1 _ htot (by omega) om).mono ?_; rintro e w12 ⟨rfl, hb⟩
  have zw12 : w11.heap.size ≤ w12.heap.size := hb.size
  replace hK := (K.step hK hb)
  clear hB hcb hv0 ow hcyw hcywu hcyg hcygu om hcbc hcywc hcywuc hcygc hcyguc hb
  obtain ⟨⟨⟨⟨⟨⟨⟨⟨hB, hcb⟩, hv0⟩, ow⟩, hcyw⟩, hcywu⟩, hcyg⟩, hcygu⟩, om⟩ := hK.now
  have hcbc := hcb.2
  have hcywc := hcyw.2
  have hcywuc := hcywu.2
  have hcygc := hcyg.2
  have hcyguc := hcygu.2
  go_wp2_with fail
  refine (toSign_c _ _ _ d0 _ hy0 hv0).mono ?_; rintro e w13 ⟨aos0, nos0, cos0, rfl, os, hb⟩
  have zw13 : w12.heap.size ≤ w13.heap.size := hb.size
  replace hK := ((K.step hK hb).and os.sl.k)
  clear hB hcb hv0 ow hcyw hcywu hcyg hcygu om hcbc hcywc hcywuc hcygc hcyguc hb os
  obtain ⟨⟨⟨⟨⟨⟨⟨⟨⟨hB, hcb⟩, hv0⟩, ow⟩, hcyw⟩, hcywu⟩, hcyg⟩, hcygu⟩, om⟩, os0⟩ := hK.now
  have hcbc := hcb.2
  have hcywc := hcyw.2
  have hcywuc := hcywu.2
  have hcygc := hcyg.2
  have hcyguc := hcygu.2
  go_wp2_with fail
  refine (iWorldAt_t hy0 os0 b1 c1 b2 c2).mono ?_; rintro e w14 ⟨ah, nh, ch, rfl, os, hb⟩
  have zw14 : w13.heap.size ≤ w14.heap.size := hb.size
  replace hK := ((K.step (K.imp hK fun _ h => h.1) hb).and os.sl.k)
  clear hB hcb hv0 ow hcyw hcywu hcyg hcygu om os0 hcbc hcywc hcywuc hcygc hcyguc hb os
  obtain ⟨⟨⟨⟨⟨⟨⟨⟨⟨hB, hcb⟩, hv0⟩, ow⟩, hcyw⟩, hcywu⟩, hcyg⟩, hcygu⟩, om⟩, oh⟩ := hK.now
  have hcbc := hcb.2
  have hcywc := hcyw.2
  have hcywuc := hcywu.2
  have hcygc := hcyg.2
  have hcyguc := hcygu.2
  have hq1 := (Bel.alloc0 w14 (.cells #[.int .i64 (worldAtZ d0 a1 a2), .slice ah nh ch] 34)).at hcyw.1 hcyw.2; have hq2 := (Bel.alloc0 w14 (.cells #[.int .i64 (worldAtZ d0 a1 a2), .slice ah nh ch] 34)).at hcywu.1 hcywu.2
  go_wp2_with fail
  refine (eqWorld_same _ _ _ _ _ _ _ _ hlen (oh.alloc _) (ow.alloc _)).mono ?_; rintro e w15 ⟨rfl, hb⟩
  have zw15 : w14.heap.size < w15.heap.size := by have := hb.size; simp at this; omega
  replace hK := (((K.step hK hb.of_alloc).and (cell_ko (boxk hb _ rfl))).and (cell_ko (boxk1 hb _ rfl)))
  clear hB hcb hv0 ow hcyw hcywu hcyg hcygu om oh hcbc hcywc hcywuc hcygc hcyguc hb hq1 hq2
  obtain ⟨⟨⟨⟨⟨⟨⟨⟨⟨⟨⟨hB, hcb⟩, hv0⟩, ow⟩, hcyw⟩, hcywu⟩, hcyg⟩, hcygu⟩, om⟩, oh⟩, hcyh⟩, hcyhu⟩ := hK.now
  have hcbc := hcb.2
  have hcywc := hcyw.2
  have hcywuc := hcywu.2
  have hcygc := hcyg.2
  have hcyguc := hcygu.2
  have hcyhc := hcyh.2
  have hcyhuc := hcyhu.2
  go_wp2_with fail
  refine (heldWorld_c _ _ _ _ 1 _ htot (by omega) om).mono ?_; rintro e w16 ⟨rfl, hb⟩
  have zw16 : w15.heap.size ≤ w16.heap.size := hb.size
  replace hK := (K.step hK hb)
  clear hB hcb hv0 ow hcyw hcywu hcyg hcygu om oh hcyh hcyhu hcbc hcywc hcywuc hcygc hcyguc hcyhc hcyhuc hb
  obtain ⟨⟨⟨⟨⟨⟨⟨⟨⟨⟨⟨hB, hcb⟩, hv0⟩, ow⟩, hcyw⟩, hcywu⟩, hcyg⟩, hcygu⟩, om⟩, oh⟩, hcyh⟩, hcyhu⟩ := hK.now
  have hcbc := hcb.2
  have hcywc := hcyw.2
  have hcywuc := hcywu.2
  have hcygc := hcyg.2
  have hcyguc := hcygu.2
  have hcyhc := hcyh.2
  have hcyhuc := hcyhu.2
  go_wp2_with fail
  go_ret
  exact ⟨rfl, hB⟩
end Go.Proofs.Ytjgbeclafdhijaa
