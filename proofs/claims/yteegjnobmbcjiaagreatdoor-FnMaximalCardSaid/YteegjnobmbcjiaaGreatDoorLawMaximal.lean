/- FnMaximal: the law's walk. -/
import Derived.Test.YteegjnobmbcjiaaGreatDoorMgMaximal12
import Derived.Deep.RegionHeld3
namespace Go.Proofs.YteegjnobmbcjiaaGreatDoor
open Go.RowKit

set_option maxRecDepth 100000 in
set_option maxHeartbeats 16000000 in
theorem lawMaximal (w : World) (hT : Tab w) (v0 : Value) (n0 : Nat) (hn0 : n0 ≤ 9223372036854775807) (hv0 : SlB w.heap.size w v0 n0) (v1 : Value) (n1 : Nat) (hn1 : n1 ≤ 9223372036854775807) (hv1 : SlB w.heap.size w v1 n1) :
    Calls Tryz.prog 4 #[v0, v1] w (RetV w (.bool true)) := by
  obtain ⟨ca, cc, rfl⟩ := hv0.form
  obtain ⟨ma, mc, rfl⟩ := hv1.form
  by_cases hbig : n0 ≤ 1048576 ∧ n0 + n1 ≤ 1048576
  · go_enter Tryz.func4, Tryz.ntmps4
    have hB := Bel.rfl' w
    go_wp2_with fail
    refine (big_no n0 n1 _ _ _ _ _ hbig.1 hbig.2).mono ?_; rintro e w1 ⟨rfl, hb1⟩
    replace hv0 := hv0.bel hb1
    replace hv1 := hv1.bel hb1
    replace hB := hB.step hb1
    replace hT := hT.bel hb1
    go_wp2_with fail
    refine (drawMaximalIn_c n0 _ _ hbig.1 hv0).mono ?_; rintro e w2 ⟨sv, tv, ar, c, rfl, hdr, hs, ht, hfine, hb2⟩
    replace hv0 := hv0.bel hb2
    replace hv1 := hv1.bel hb2
    replace hB := hB.step hb2
    replace hT := hT.bel hb2
    have hal := drawn_len hdr
    have hsum := Nat.le_trans hfine.sum (show 100000 ≤ 1048576 by omega)
    obtain ⟨sXa, sXc, rfl⟩ := hs.form
    obtain ⟨ta, tc, rfl⟩ := ht.form
    have hbAX := Bel.alloc0 w2 (.cells #[.slice sXa ar.length sXc] 33)
    have hbxX : (w2.alloc (.cells #[.slice sXa ar.length sXc] 33)).cell? ⟨w2.heap.size, 0, none⟩ = some (.slice sXa ar.length sXc) := by rw [World.cell?_alloc_new w2]; rfl
    replace hv0 := hv0.bel hbAX
    replace hv1 := hv1.bel hbAX
    replace hB := hB.step hbAX
    replace hs := hs.below hbAX
    replace ht := ht.below hbAX
    replace hT := hT.bel hbAX
    generalize hgX : w2.heap.size = gX at *
    have hml := maxAns_len ar c
    generalize hM : maxAns ar c = l at hml
    generalize hG : goodClause ar c = g
    go_wp2_with fail
    refine (iMaximalIn_vv hT (by omega) hs hsum ht hM hG).mono ?_; rintro e w3 ⟨aL, mL, cL, rfl, oL, hb3⟩
    replace hv0 := hv0.bel hb3
    replace hv1 := hv1.bel hb3
    replace hB := hB.step hb3
    replace hs := hs.below hb3
    replace ht := ht.below hb3
    replace hbxX := hb3.at (World.block_lt_of_cell? _ ⟨_, 0, none⟩ hbxX) hbxX
    replace hT := hT.bel hb3
    replace oL := oL.sl
    have eL := slI_n oL
    subst eL
    go_wp2_with fail
    refine (sMaximalIn_vv (by omega) hs hsum ht hM hG).mono ?_; rintro e w4 ⟨aU, mU, cU, rfl, oU, hb4⟩
    replace hv0 := hv0.bel hb4
    replace hv1 := hv1.bel hb4
    replace hB := hB.step hb4
    replace hs := hs.below hb4
    replace ht := ht.below hb4
    replace hbxX := hb4.at (World.block_lt_of_cell? _ ⟨_, 0, none⟩ hbxX) hbxX
    replace oL := oL.below hb4
    replace hT := hT.bel hb4
    replace oU := oU.sl
    have eU := slI_n oU
    subst eU
    have hq1 : (g != g) = false := by simp
    have HMO := Lib.hid (max_ok hM)
    have HMS := Lib.hid (fun h : g = true => max_some hM (hG.trans h))
    have HSI := Lib.hid (sameInts_same _ _ _ _ _ _ l _ hml oL oU)
    have HX := Lib.hid (And.intro hfine (And.intro hsum hml))
    clear hM hG oU hfine hsum
    obtain ⟨wk, hwk⟩ : ∃ wk, wk = w4 := ⟨_, rfl⟩
    subst hwk
    go_upto_region 6 with fail
    go_cut [76] (fun s wx => s = .bool false ∧ ∃ wy, wy = wx ∧ Bel wk wy)
    case first =>
      cases g with
      | false =>
        go_wp2_with fail
        refine HSI.out.mono ?_; rintro e wq ⟨rfl, hbq⟩
        go_wp2_with fail
        go_meet
        exact ⟨rfl, _, rfl, hbq⟩
      | true =>
        by_cases hc0 : 0 < c.length
        · have hd1 : decide ((c.length : Int) > 0) = true := decide_eq_true (by omega)
          have hl0 := HMS.out rfl hc0
          have hd2 : ((l.length : Int) == 0) = false := beq_eq_false_iff_ne.2 (by omega)
          go_wp2_with fail
          refine HSI.out.mono ?_; rintro e wq ⟨rfl, hbq⟩
          go_wp2_with fail
          go_meet
          exact ⟨rfl, _, rfl, hbq⟩
        · have hd1 : decide ((c.length : Int) > 0) = false := decide_eq_false (by omega)
          go_wp2_with fail
          refine HSI.out.mono ?_; rintro e wq ⟨rfl, hbq⟩
          go_wp2_with fail
          go_meet
          exact ⟨rfl, _, rfl, hbq⟩
    case rest =>
    obtain ⟨rfl, wq, hwq, hbq⟩ := hcut
    subst hwq
    replace hv0 := hv0.bel hbq
    replace hv1 := hv1.bel hbq
    replace hB := hB.step hbq
    replace hs := hs.below hbq
    replace ht := ht.below hbq
    replace hbxX := hbq.at (World.block_lt_of_cell? _ ⟨_, 0, none⟩ hbxX) hbxX
    replace oL := oL.below hbq
    replace hT := hT.bel hbq
    clear hbq HSI HMS hq1
    have hsz0 : w.heap.size ≤ wq.heap.size := hB.size
    have HF0 := Lib.hid (And.intro hs (And.intro ht oL))
    have HB0 := Lib.hid (And.intro hB (And.intro hT (And.intro hv0 hv1)))
    have hbX0 := hbxX
    clear hB hT hv0 hv1 hbxX
    obtain ⟨hfine, hsum, hml⟩ := HX.out
    have hcl8 : c.length ≤ 1048576 := by have := sumC_len c; omega
    have HLEN : Hid (∀ i, i < c.length → (c.getD i lt0).2.1.length + (c.getD i lt0).2.2.length ≤ 1048576) := Lib.hid (fun i hi => by have := hfine.2 _ (mem_getD c lt0 i hi); omega)
    clear hs ht oL hfine HX
    go_wp2_with fail
    go_loopw [79] (fun i wr => ∃ j : Nat, j ≤ l.length ∧ i = .int .i64 j ∧ Bel wq wr) (fun i _ => l.length - (intOf i).toNat)
    case atStart => exact ⟨0, Nat.zero_le _, rfl, Bel.rfl' _⟩
    case round =>
      obtain ⟨j, hj, rfl, hb⟩ := hrel
      by_cases hlt : j < l.length
      · obtain ⟨k, hk1, hk2, hk3⟩ := HMO.out j hlt
        have HK3 := Lib.hid hk3
        clear hk3
        obtain ⟨bl, ol, rfl, hbl, hcl⟩ := (HF0.out.2.2.below hb).at j hlt
        rw [hk1] at hcl
        have hjI : (j : Int) < l.length := by omega
        have hkI : (k : Int) < c.length := by omega
        go_wp2_with fail
        go_loopw [85] (fun i wr => ∃ m : Nat, m ≤ c.length ∧ i = .int .i64 m ∧ Bel wq wr) (fun i _ => c.length - (intOf i).toNat)
        case atStart => exact ⟨0, Nat.zero_le _, rfl, hb⟩
        case round =>
          clear hb hcl
          obtain ⟨m, hm, rfl, hb⟩ := hrel
          by_cases hml2 : m < c.length
          · have hmI : (m : Int) < c.length := by omega
            obtain ⟨hs, ht, -⟩ := HF0.out
            obtain ⟨b, off, u1, u2, rfl, -, c1, c2, c3, s1, s2⟩ := ht.at hb m hml2
            obtain ⟨b', off', q1, q2, e0, -, d1, d2, d3, t1, t2⟩ := ht.at hb k hk2
            simp only [Option.some.injEq, Addr.mk.injEq] at e0
            obtain ⟨rfl, rfl, -⟩ := e0
            obtain ⟨hok, hne⟩ := HK3.out m hml2
            have zb := World.block_lt_of_cell? _ ⟨b, _, none⟩ c1
            have hbx := hb.at (World.block_lt_of_cell? _ ⟨_, _, none⟩ hbX0) hbX0
            have zx := World.block_lt_of_cell? _ ⟨gX, _, none⟩ hbx
            have hlm := HLEN.out m hml2
            have hlk := HLEN.out k hk2
            have HNE := Lib.hid hne
            clear hne ht
            have hsr := hs.below hb
            clear hs
            have HT := HB0.out.2.1.bel hb
            have HCC := Lib.hid (fun (w' : World) (h : Bel _ w') (z : Int) (e : litsAns ar (c.getD m lt0) (c.getD k lt0) = z) => iCompareLits_vv (HT.bel h) (by omega) (hsr.below h) hlm (s1.below h) (s2.below h) hlk (t1.below h) (t2.below h) e hok)
            clear s1 s2 t1 t2 hlm hlk hok HT hsr
            obtain ⟨z, hz⟩ : ∃ z, litsAns ar (c.getD m lt0) (c.getD k lt0) = z := ⟨_, rfl⟩
            have HC := Lib.hid (fun w' h => HCC.out w' h z hz)
            rw [hz] at HNE
            clear HCC hz
            generalize (c.getD m lt0).1 = pm at *
            generalize (c.getD k lt0).1 = pk at *
            go_wp2_with fail
            go_region_held3 (fun w' => w'.cell? ⟨gX, 0, none⟩ = some (.slice sXa ar.length sXc) ∧ (w'.cell? ⟨b, off + m * 3, none⟩ = some (.bool pm) ∧ w'.cell? ⟨b, off + m * 3 + 1, none⟩ = some u1 ∧ w'.cell? ⟨b, off + m * 3 + 2, none⟩ = some u2) ∧ (w'.cell? ⟨b, off + k * 3, none⟩ = some (.bool pk) ∧ w'.cell? ⟨b, off + k * 3 + 1, none⟩ = some q1 ∧ w'.cell? ⟨b, off + k * 3 + 2, none⟩ = some q2))
              (first | exact ⟨hbx, ⟨c1, c2, c3⟩, d1, d2, d3⟩ | exact ⟨HN1.at zx hbx, ⟨HN1.at zb c1, HN1.at zb c2, HN1.at zb c3⟩, HN1.at zb d1, HN1.at zb d2, HN1.at zb d3⟩ | fail)
              (first | (go_at_call 22; refine (HC.out _ (Bel.drew0 _)).mono ?_; rintro e wn ⟨rfl, hbn⟩; have HN1 := (Bel.drew0 _).step hbn) | fail)
            by_cases hmk : m = k
            · subst hmk
              have hdk : ((m : Int) != (m : Int)) = false := by simp
              go_wp2_with fail
              go_roundw
              case rel => exact ⟨m+1, by omega, by go_num, hb.step HN1⟩
              case measure => simp [intOf]; omega
            · have hdk : ((m : Int) != (k : Int)) = true := by simp; omega
              have hdz : (z == 1) = false := beq_eq_false_iff_ne.2 (fun h => hmk (HNE.out h))
              go_wp2_with fail
              go_roundw
              case rel => exact ⟨m+1, by omega, by go_num, hb.step HN1⟩
              case measure => simp [intOf]; omega
          · obtain rfl : m = c.length := by omega
            go_wp2_with fail
            go_roundw
            case rel => exact ⟨j+1, by omega, by go_num, hb⟩
            case measure => simp [intOf]; omega
      · obtain rfl : j = l.length := by omega
        obtain ⟨hB, hT, hv0, hv1⟩ := HB0.out
        clear HB0 HF0 HMO HLEN hbX0
        replace hv0 := hv0.bel hb
        replace hv1 := hv1.bel hb
        replace hB := hB.step hb
        replace hT := hT.bel hb
        clear hb
        go_wp2_with fail
        refine (drawCompareLits_c n1 _ _ (by omega) hv1).mono ?_; rintro e w5 ⟨sv2, pa1, pa2, pb1, pb2, ar2, x, y, rfl, hdr2, hs2, ⟨hx1, hx2⟩, ⟨hy1, hy2⟩, ⟨z1, z2, z3, z4⟩, hb5⟩
        replace hv0 := hv0.bel hb5
        replace hv1 := hv1.bel hb5
        replace hB := hB.step hb5
        replace hT := hT.bel hb5
        have hal2 := drawn_len hdr2
        obtain ⟨sYa, sYc, rfl⟩ := hs2.form
        obtain ⟨p1a, p1c, rfl⟩ := hx1.form
        obtain ⟨p2a, p2c, rfl⟩ := hx2.form
        obtain ⟨p3a, p3c, rfl⟩ := hy1.form
        obtain ⟨p4a, p4c, rfl⟩ := hy2.form
        have hbAY := Bel.alloc3 w5 (.cells #[.slice sYa ar2.length sYc] 33) (.cells #[.bool x.1, .slice p1a x.2.1.length p1c, .slice p2a x.2.2.length p2c] 53) (.cells #[.bool y.1, .slice p3a y.2.1.length p3c, .slice p4a y.2.2.length p4c] 53)
        have hbxY : (((w5.alloc (.cells #[.slice sYa ar2.length sYc] 33)).alloc (.cells #[.bool x.1, .slice p1a x.2.1.length p1c, .slice p2a x.2.2.length p2c] 53)).alloc (.cells #[.bool y.1, .slice p3a y.2.1.length p3c, .slice p4a y.2.2.length p4c] 53)).cell? ⟨w5.heap.size, 0, none⟩ = some (.slice sYa ar2.length sYc) := by simp [go_sem]
        have hA0 : (((w5.alloc (.cells #[.slice sYa ar2.length sYc] 33)).alloc (.cells #[.bool x.1, .slice p1a x.2.1.length p1c, .slice p2a x.2.2.length p2c] 53)).alloc (.cells #[.bool y.1, .slice p3a y.2.1.length p3c, .slice p4a y.2.2.length p4c] 53)).cell? ⟨w5.heap.size + 1, 0, none⟩ = some (.bool x.1) := by simp [go_sem]
        have hA1 : (((w5.alloc (.cells #[.slice sYa ar2.length sYc] 33)).alloc (.cells #[.bool x.1, .slice p1a x.2.1.length p1c, .slice p2a x.2.2.length p2c] 53)).alloc (.cells #[.bool y.1, .slice p3a y.2.1.length p3c, .slice p4a y.2.2.length p4c] 53)).cell? ⟨w5.heap.size + 1, 1, none⟩ = some (.slice p1a x.2.1.length p1c) := by simp [go_sem]
        have hA2 : (((w5.alloc (.cells #[.slice sYa ar2.length sYc] 33)).alloc (.cells #[.bool x.1, .slice p1a x.2.1.length p1c, .slice p2a x.2.2.length p2c] 53)).alloc (.cells #[.bool y.1, .slice p3a y.2.1.length p3c, .slice p4a y.2.2.length p4c] 53)).cell? ⟨w5.heap.size + 1, 2, none⟩ = some (.slice p2a x.2.2.length p2c) := by simp [go_sem]
        have hB0 : (((w5.alloc (.cells #[.slice sYa ar2.length sYc] 33)).alloc (.cells #[.bool x.1, .slice p1a x.2.1.length p1c, .slice p2a x.2.2.length p2c] 53)).alloc (.cells #[.bool y.1, .slice p3a y.2.1.length p3c, .slice p4a y.2.2.length p4c] 53)).cell? ⟨w5.heap.size + 1 + 1, 0, none⟩ = some (.bool y.1) := by simp [go_sem]
        have hB1 : (((w5.alloc (.cells #[.slice sYa ar2.length sYc] 33)).alloc (.cells #[.bool x.1, .slice p1a x.2.1.length p1c, .slice p2a x.2.2.length p2c] 53)).alloc (.cells #[.bool y.1, .slice p3a y.2.1.length p3c, .slice p4a y.2.2.length p4c] 53)).cell? ⟨w5.heap.size + 1 + 1, 1, none⟩ = some (.slice p3a y.2.1.length p3c) := by simp [go_sem]
        have hB2 : (((w5.alloc (.cells #[.slice sYa ar2.length sYc] 33)).alloc (.cells #[.bool x.1, .slice p1a x.2.1.length p1c, .slice p2a x.2.2.length p2c] 53)).alloc (.cells #[.bool y.1, .slice p3a y.2.1.length p3c, .slice p4a y.2.2.length p4c] 53)).cell? ⟨w5.heap.size + 1 + 1, 2, none⟩ = some (.slice p4a y.2.2.length p4c) := by simp [go_sem]
        replace hv0 := hv0.bel hbAY
        replace hv1 := hv1.bel hbAY
        replace hB := hB.step hbAY
        replace hs2 := hs2.below hbAY
        replace hx1 := hx1.below hbAY
        replace hx2 := hx2.below hbAY
        replace hy1 := hy1.below hbAY
        replace hy2 := hy2.below hbAY
        replace hT := hT.bel hbAY
        generalize hgY : w5.heap.size = gY at *
        generalize hZ : litsAns ar2 x y = z
        generalize hK : litsOk ar2 x y = kk
        go_wp2_with fail
        refine (iCompareLits_vv hT (by omega) hs2 (by omega) hx1 hx2 (by omega) hy1 hy2 hZ hK).mono ?_; rintro e w6 ⟨rfl, hb6⟩
        replace hv0 := hv0.bel hb6
        replace hv1 := hv1.bel hb6
        replace hB := hB.step hb6
        replace hs2 := hs2.below hb6
        replace hx1 := hx1.below hb6
        replace hx2 := hx2.below hb6
        replace hy1 := hy1.below hb6
        replace hy2 := hy2.below hb6
        replace hbxY := hb6.at (World.block_lt_of_cell? _ ⟨_, 0, none⟩ hbxY) hbxY
        replace hA0 := hb6.at (World.block_lt_of_cell? _ ⟨_, 0, none⟩ hA0) hA0
        replace hB0 := hb6.at (World.block_lt_of_cell? _ ⟨_, 0, none⟩ hB0) hB0
        replace hT := hT.bel hb6
        replace hA1 := hb6.at (World.block_lt_of_cell? _ ⟨_, 1, none⟩ hA1) hA1
        replace hA2 := hb6.at (World.block_lt_of_cell? _ ⟨_, 2, none⟩ hA2) hA2
        replace hB1 := hb6.at (World.block_lt_of_cell? _ ⟨_, 1, none⟩ hB1) hB1
        replace hB2 := hb6.at (World.block_lt_of_cell? _ ⟨_, 2, none⟩ hB2) hB2
        go_wp2_with fail
        refine (sCompareLits_vv (by omega) hs2 (by omega) hx1 hx2 (by omega) hy1 hy2 hZ hK).mono ?_; rintro e w7 ⟨rfl, hb7⟩
        replace hv0 := hv0.bel hb7
        replace hv1 := hv1.bel hb7
        replace hB := hB.step hb7
        replace hs2 := hs2.below hb7
        replace hx1 := hx1.below hb7
        replace hx2 := hx2.below hb7
        replace hy1 := hy1.below hb7
        replace hy2 := hy2.below hb7
        replace hbxY := hb7.at (World.block_lt_of_cell? _ ⟨_, 0, none⟩ hbxY) hbxY
        replace hA0 := hb7.at (World.block_lt_of_cell? _ ⟨_, 0, none⟩ hA0) hA0
        replace hB0 := hb7.at (World.block_lt_of_cell? _ ⟨_, 0, none⟩ hB0) hB0
        replace hT := hT.bel hb7
        replace hA1 := hb7.at (World.block_lt_of_cell? _ ⟨_, 1, none⟩ hA1) hA1
        replace hA2 := hb7.at (World.block_lt_of_cell? _ ⟨_, 2, none⟩ hA2) hA2
        replace hB1 := hb7.at (World.block_lt_of_cell? _ ⟨_, 1, none⟩ hB1) hB1
        replace hB2 := hb7.at (World.block_lt_of_cell? _ ⟨_, 2, none⟩ hB2) hB2
        clear hZ hK hs2 hx1 hx2 hy1 hy2 hbxY hA0 hA1 hA2 hB0 hB1 hB2
        go_wp2_with fail
        refine (drawApplyClause_c n1 _ _ (by omega) hv1).mono ?_; rintro e w8 ⟨sv3, lv, tv3, ar3, b, d, rfl, hdr3, hs3, hlv, hl12, hlj, ht3, hfine3, hb8⟩
        replace hv0 := hv0.bel hb8
        replace hv1 := hv1.bel hb8
        replace hB := hB.step hb8
        replace hT := hT.bel hb8
        clear hv1
        have hal3 := drawn_len hdr3
        have hsum3 := Nat.le_trans hfine3.sum (show 100000 ≤ 1048576 by omega)
        have hshb : short b := ⟨by omega, fun j _ => Nat.le_trans (hlj j) (by omega)⟩
        obtain ⟨sZa, sZc, rfl⟩ := hs3.form
        obtain ⟨t3a, t3c, rfl⟩ := ht3.form
        obtain ⟨l3a, l3c, rfl⟩ := hlv.form
        have hbAZ := Bel.alloc0 w8 (.cells #[.slice sZa ar3.length sZc] 33)
        have hbxZ : (w8.alloc (.cells #[.slice sZa ar3.length sZc] 33)).cell? ⟨w8.heap.size, 0, none⟩ = some (.slice sZa ar3.length sZc) := by rw [World.cell?_alloc_new w8]; rfl
        replace hv0 := hv0.bel hbAZ
        replace hB := hB.step hbAZ
        replace hs3 := hs3.below hbAZ
        replace hlv := hlv.below hbAZ
        replace ht3 := ht3.below hbAZ
        replace hT := hT.bel hbAZ
        generalize hgZ : w8.heap.size = gZ at *
        have hpl := applyCAns_len ar3 b d
        generalize hP : applyCAns ar3 b d = p at hpl
        generalize hO : applyCok ar3 b d = ok3
        go_wp2_with fail
        refine (iApplyClause_vv (by omega) hs3 hshb hlv hsum3 ht3 hP hO).mono ?_; rintro e w9 ⟨aP, mP, cP, rfl, oP, hb9⟩
        replace hv0 := hv0.bel hb9
        replace hB := hB.step hb9
        replace hs3 := hs3.below hb9
        replace hlv := hlv.below hb9
        replace ht3 := ht3.below hb9
        replace hbxZ := hb9.at (World.block_lt_of_cell? _ ⟨_, 0, none⟩ hbxZ) hbxZ
        replace hT := hT.bel hb9
        replace oP := oP.sl
        have eP := slC_n oP
        subst eP
        go_wp2_with fail
        refine (sApplyClause_vv (by omega) hs3 hshb hlv hsum3 ht3 hP hO).mono ?_; rintro e w10 ⟨aQ, mQ, cQ, rfl, oQ, hb10⟩
        replace hv0 := hv0.bel hb10
        replace hB := hB.step hb10
        replace hs3 := hs3.below hb10
        replace hlv := hlv.below hb10
        replace ht3 := ht3.below hb10
        replace hbxZ := hb10.at (World.block_lt_of_cell? _ ⟨_, 0, none⟩ hbxZ) hbxZ
        replace oP := oP.below hb10
        replace hT := hT.bel hb10
        replace oQ := oQ.sl
        have eQ := slC_n oQ
        subst eQ
        have hr1 : (kk != kk) = false := by simp
        have hr2 : (z != z) = false := by simp
        have hr3 : (ok3 != ok3) = false := by simp
        have HPO := Lib.hid (And.intro hP hO)
        clear hP hO
        go_wp2_with fail
        refine (sameLits_same _ _ _ _ _ _ p _ (shortC_of_sum hpl) oP oQ).mono ?_; rintro e w11 ⟨rfl, hb11⟩
        replace hv0 := hv0.bel hb11
        replace hB := hB.step hb11
        replace hs3 := hs3.below hb11
        replace hlv := hlv.below hb11
        replace ht3 := ht3.below hb11
        replace hbxZ := hb11.at (World.block_lt_of_cell? _ ⟨_, 0, none⟩ hbxZ) hbxZ
        replace oP := oP.below hb11
        replace oQ := oQ.below hb11
        replace hT := hT.bel hb11
        clear hr1 hr2 hr3 oQ hlv
        cases ok3 with
        | false =>
          go_wp2_with fail
          go_ret
          exact ⟨rfl, hB⟩
        | true =>
          go_wp2_with fail
          refine (worldOf_c _ n0 _ _ _ _ ar3 _ hbig.1 hdr3 hs3 hv0).mono ?_; rintro e w12 ⟨wv, Z, tb, rfl, hw, hw27, hwI, hwl, hZ1, hZ3, hb12⟩
          replace hv0 := hv0.bel hb12
          replace hB := hB.step hb12
          replace hs3 := hs3.below hb12
          replace ht3 := ht3.below hb12
          replace hbxZ := hb12.at (World.block_lt_of_cell? _ ⟨_, 0, none⟩ hbxZ) hbxZ
          replace oP := oP.below hb12
          replace hT := hT.bel hb12
          obtain ⟨wa, wc, rfl⟩ := hw.form
          have hshw : short tb := ⟨by omega, fun j _ => Nat.le_trans (hw27 j) (by omega)⟩
          clear hwl hw27 hv0
          have hbAW := Bel.alloc0 w12 (.cells #[.int .i64 Z, .slice wa tb.length wc] 62)
          have hbxW : (w12.alloc (.cells #[.int .i64 Z, .slice wa tb.length wc] 62)).cell? ⟨w12.heap.size, 0, none⟩ = some (.int .i64 Z) := by rw [World.cell?_alloc_new w12]; rfl
          have hbyW : (w12.alloc (.cells #[.int .i64 Z, .slice wa tb.length wc] 62)).cell? ⟨w12.heap.size, 1, none⟩ = some (.slice wa tb.length wc) := by rw [World.cell?_alloc_new w12]; rfl
          replace hB := hB.step hbAW
          replace hs3 := hs3.below hbAW
          replace ht3 := ht3.below hbAW
          replace hbxZ := hbAW.at (World.block_lt_of_cell? _ ⟨_, 0, none⟩ hbxZ) hbxZ
          replace oP := oP.below hbAW
          replace hw := hw.below hbAW
          replace hT := hT.bel hbAW
          generalize hgW : w12.heap.size = gW at *
          obtain ⟨hP, hO⟩ := HPO.out
          generalize hF1 : falseOk ar3 Z tb d = f1
          generalize hF2 : falseOk ar3 Z tb p = f2
          generalize hH1 : heldAns ar3 Z tb d = h1
          generalize hH2 : heldAns ar3 Z tb p = h2
          go_wp2_with fail
          refine (iHoldsIn_vv (by omega) hs3 hshw hw hsum3 ht3 hH1 hF1).mono ?_; rintro e w13 ⟨rfl, hb13⟩
          replace hB := hB.step hb13
          replace hs3 := hs3.below hb13
          replace ht3 := ht3.below hb13
          replace hbxZ := hb13.at (World.block_lt_of_cell? _ ⟨_, 0, none⟩ hbxZ) hbxZ
          replace oP := oP.below hb13
          replace hw := hw.below hb13
          replace hbxW := hb13.at (World.block_lt_of_cell? _ ⟨_, 0, none⟩ hbxW) hbxW
          replace hT := hT.bel hb13
          replace hbyW := hb13.at (World.block_lt_of_cell? _ ⟨_, 1, none⟩ hbyW) hbyW
          go_wp2_with fail
          refine (iHoldsIn_vv (by omega) hs3 hshw hw hpl oP hH2 hF2).mono ?_; rintro e w14 ⟨rfl, hb14⟩
          replace hB := hB.step hb14
          replace hs3 := hs3.below hb14
          replace ht3 := ht3.below hb14
          replace hbxZ := hb14.at (World.block_lt_of_cell? _ ⟨_, 0, none⟩ hbxZ) hbxZ
          replace oP := oP.below hb14
          replace hw := hw.below hb14
          replace hbxW := hb14.at (World.block_lt_of_cell? _ ⟨_, 0, none⟩ hbxW) hbxW
          replace hT := hT.bel hb14
          replace hbyW := hb14.at (World.block_lt_of_cell? _ ⟨_, 1, none⟩ hbyW) hbyW
          have HFIN := held_sub_ok hO hP hwI hF1 hF2 hH1 hH2
          clear hF1 hF2 hH1 hH2 hP hO HPO hw hbxW hbyW hs3 ht3 oP hbxZ
          cases f1 with
          | false =>
            clear HFIN
            go_wp2_with fail
            go_ret
            exact ⟨rfl, hB⟩
          | true =>
            cases f2 with
            | false =>
              clear HFIN
              go_wp2_with fail
              go_ret
              exact ⟨rfl, hB⟩
            | true =>
              cases h1 with
              | false =>
                clear HFIN
                go_wp2_with fail
                go_ret
                exact ⟨rfl, hB⟩
              | true =>
                obtain rfl : h2 = true := HFIN rfl rfl rfl
                go_wp2_with fail
                go_ret
                exact ⟨rfl, hB⟩
  · go_enter Tryz.func4, Tryz.ntmps4
    go_wp2_with fail
    refine (big_yes n0 n1 _ _ _ _ _ hn0 hbig).mono ?_; rintro e w1 ⟨rfl, hb1⟩
    go_wp2_with fail
    go_ret
    exact ⟨rfl, hb1⟩
end Go.Proofs.YteegjnobmbcjiaaGreatDoor
