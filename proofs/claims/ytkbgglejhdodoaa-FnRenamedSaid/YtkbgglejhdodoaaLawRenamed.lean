/- FnRenamed: the law's walk. -/
import Derived.Test.YtkbgglejhdodoaaMgRenamed11
import Derived.Deep.RegionHeld3
namespace Go.Proofs.Ytkbgglejhdodoaa
open Go.RowKit

set_option maxRecDepth 100000 in
set_option maxHeartbeats 4000000 in
theorem lawRenamed (w : World) (v0 : Value) (n0 : Nat) (hn0 : n0 ≤ 9223372036854775807) (hv0 : SlB w.heap.size w v0 n0) (v1 : Value) (n1 : Nat) (hn1 : n1 ≤ 9223372036854775807) (hv1 : SlB w.heap.size w v1 n1) :
    Calls Try.prog 4 #[v0, v1] w (RetV w (.bool true)) := by
  obtain ⟨ca, cc, rfl⟩ := hv0.form
  obtain ⟨ma, mc, rfl⟩ := hv1.form
  by_cases hbig : n0 ≤ 1048576 ∧ n0 + n1 ≤ 1048576
  · go_enter Try.func4, Try.ntmps4
    have hB := Bel.rfl' w
    go_wp2_with fail
    refine (big_no n0 n1 _ _ _ _ _ hbig.1 hbig.2).mono ?_; rintro e w1 ⟨rfl, hb1⟩
    replace hv0 := hv0.bel hb1
    replace hv1 := hv1.bel hb1
    replace hB := hB.step hb1
    go_wp2_with fail
    refine (drawRenameOf_c n0 _ _ hbig.1 hv0).mono ?_; rintro e w2 ⟨sv, lv, ar, l, rfl, hdr, hs, hl, hll, hlj, hb2⟩
    replace hv0 := hv0.bel hb2
    replace hv1 := hv1.bel hb2
    replace hB := hB.step hb2
    clear hv0
    have hal := drawn_len hdr
    have hsh := short_12 hll hlj
    obtain ⟨sXa, sXc, rfl⟩ := hs.form
    obtain ⟨la, lc, rfl⟩ := hl.form
    have hbAX := Bel.alloc0 w2 (.cells #[.slice sXa ar.length sXc] 28)
    have hbxX : (w2.alloc (.cells #[.slice sXa ar.length sXc] 28)).cell? ⟨w2.heap.size, 0, none⟩ = some (.slice sXa ar.length sXc) := by rw [World.cell?_alloc_new w2]; rfl
    replace hv1 := hv1.bel hbAX
    replace hB := hB.step hbAX
    replace hs := hs.below hbAX
    replace hl := hl.below hbAX
    generalize hgX : w2.heap.size = gX at *
    generalize hRa : renameAns ar l = r
    generalize hRk : renameOk ar l = rk
    have hrs : short r := by rw [← hRa]; exact short_of_tot (renameAns_len ar l)
    go_wp2_with fail
    refine (iRenameOf_v (by omega) hs hsh hl hRa hRk).mono ?_; rintro e w3 ⟨aM, mM, cM, rfl, oM, hb3⟩
    replace hv1 := hv1.bel hb3
    replace hB := hB.step hb3
    replace hs := hs.below hb3
    replace hl := hl.below hb3
    replace hbxX := hb3.at (World.block_lt_of_cell? _ ⟨_, 0, none⟩ hbxX) hbxX
    replace oM := oM.sl
    have eM := SlS.len oM
    subst eM
    go_wp2_with fail
    refine (sRenameOf_v (by omega) hs hsh hl hRa hRk).mono ?_; rintro e w4 ⟨aN, mN, cN, rfl, oN, hb4⟩
    replace hv1 := hv1.bel hb4
    replace hB := hB.step hb4
    replace hs := hs.below hb4
    replace hl := hl.below hb4
    replace hbxX := hb4.at (World.block_lt_of_cell? _ ⟨_, 0, none⟩ hbxX) hbxX
    replace oM := oM.below hb4
    replace oN := oN.sl
    have eN := SlS.len oN
    subst eN
    have hq1 : (rk != rk) = false := by simp
    go_wp2_with fail
    refine (sameLists_same _ _ _ _ _ _ r _ hrs oM oN).mono ?_; rintro e w5 ⟨rfl, hb5⟩
    replace hv1 := hv1.bel hb5
    replace hB := hB.step hb5
    replace hs := hs.below hb5
    replace hl := hl.below hb5
    replace hbxX := hb5.at (World.block_lt_of_cell? _ ⟨_, 0, none⟩ hbxX) hbxX
    replace oM := oM.below hb5
    replace oN := oN.below hb5
    cases rk with
    | false =>
      clear hRk hRa hs hl oM oN hbxX
      go_wp2_with fail
      refine (drawSameUpTo_c n1 _ _ (by omega) hv1).mono ?_; rintro e w6 ⟨sv2, av, bv, ar2, a, b, rfl, hdr2, hs2, ha, hal2, hbb, hbl2, hb6⟩
      replace hv1 := hv1.bel hb6
      replace hB := hB.step hb6
      have hal3 := drawn_len hdr2
      obtain ⟨sYa, sYc, rfl⟩ := hs2.form
      obtain ⟨aa, ac, rfl⟩ := ha.form
      obtain ⟨ba, bc, rfl⟩ := hbb.form
      have hbAY := Bel.alloc0 w6 (.cells #[.slice sYa ar2.length sYc] 28)
      have hbxY : (w6.alloc (.cells #[.slice sYa ar2.length sYc] 28)).cell? ⟨w6.heap.size, 0, none⟩ = some (.slice sYa ar2.length sYc) := by rw [World.cell?_alloc_new w6]; rfl
      replace hv1 := hv1.bel hbAY
      replace hB := hB.step hbAY
      replace hs2 := hs2.below hbAY
      replace ha := ha.below hbAY
      replace hbb := hbb.below hbAY
      generalize hgY : w6.heap.size = gY at *
      generalize hSa : sameAns ar2 a b = sa'
      generalize hSk : sameOk ar2 a b = sk
      go_wp2_with fail
      refine (iSameUpTo_vv (by omega) hs2 (by omega) ha (by omega) hbb hSa hSk).mono ?_; rintro e w7 ⟨rfl, hb7⟩
      replace hv1 := hv1.bel hb7
      replace hB := hB.step hb7
      replace hs2 := hs2.below hb7
      replace ha := ha.below hb7
      replace hbb := hbb.below hb7
      replace hbxY := hb7.at (World.block_lt_of_cell? _ ⟨_, 0, none⟩ hbxY) hbxY
      go_wp2_with fail
      refine (sSameUpTo_vv (by omega) hs2 (by omega) ha (by omega) hbb hSa hSk).mono ?_; rintro e w8 ⟨rfl, hb8⟩
      replace hv1 := hv1.bel hb8
      replace hB := hB.step hb8
      replace hs2 := hs2.below hb8
      replace ha := ha.below hb8
      replace hbb := hbb.below hb8
      replace hbxY := hb8.at (World.block_lt_of_cell? _ ⟨_, 0, none⟩ hbxY) hbxY
      clear hs2 ha hbb hbxY hSa hSk
      go_wp2_with fail
      refine (drawApply_c n1 _ _ (by omega) hv1).mono ?_; rintro e w9 ⟨sv3, xv, zv, ar3, xl, z, rfl, hdr3, hs3, hxl, hxll, hxlj, hz, hzl, hb9⟩
      replace hv1 := hv1.bel hb9
      replace hB := hB.step hb9
      clear hv1
      have hal4 := drawn_len hdr3
      have hshx := short_12 hxll hxlj
      obtain ⟨sZa, sZc, rfl⟩ := hs3.form
      obtain ⟨xla, xlc, rfl⟩ := hxl.form
      obtain ⟨za, zc, rfl⟩ := hz.form
      have hbAZ := Bel.alloc0 w9 (.cells #[.slice sZa ar3.length sZc] 28)
      have hbxZ : (w9.alloc (.cells #[.slice sZa ar3.length sZc] 28)).cell? ⟨w9.heap.size, 0, none⟩ = some (.slice sZa ar3.length sZc) := by rw [World.cell?_alloc_new w9]; rfl
      replace hB := hB.step hbAZ
      replace hs3 := hs3.below hbAZ
      replace hxl := hxl.below hbAZ
      replace hz := hz.below hbAZ
      generalize hgZ : w9.heap.size = gZ at *
      generalize hPa : applyAns ar3 xl z = pa'
      generalize hPk : applyOk ar3 xl z = pk
      have hpl : pa'.length ≤ 40 := by rw [← hPa]; exact applyAns_len40 ar3 xl z
      go_wp2_with fail
      refine (iApply_v (by omega) hs3 hshx hxl (by omega) hz hPa hPk).mono ?_; rintro e w10 ⟨aP, mP, cP, rfl, oP, hb10⟩
      replace hB := hB.step hb10
      replace hs3 := hs3.below hb10
      replace hxl := hxl.below hb10
      replace hz := hz.below hb10
      replace hbxZ := hb10.at (World.block_lt_of_cell? _ ⟨_, 0, none⟩ hbxZ) hbxZ
      replace oP := oP.sl
      have eP := slI_n oP
      subst eP
      go_wp2_with fail
      refine (sApply_v (by omega) hs3 hshx hxl (by omega) hz hPa hPk).mono ?_; rintro e w11 ⟨aQ, mQ, cQ, rfl, oQ, hb11⟩
      replace hB := hB.step hb11
      replace hs3 := hs3.below hb11
      replace hxl := hxl.below hb11
      replace hz := hz.below hb11
      replace hbxZ := hb11.at (World.block_lt_of_cell? _ ⟨_, 0, none⟩ hbxZ) hbxZ
      replace oP := oP.below hb11
      replace oQ := oQ.sl
      have eQ := slI_n oQ
      subst eQ
      have hz1 : (sk == sk) = true := by simp
      have hz2 : (sa' == sa') = true := by simp
      have hz3 : (pk == pk) = true := by simp
      go_wp2_with fail
      refine (sameTerm_same _ _ _ _ _ _ pa' _ (by omega) oP oQ).mono ?_; rintro e w12 ⟨rfl, hb12⟩
      replace hB := hB.step hb12
      replace hs3 := hs3.below hb12
      replace hxl := hxl.below hb12
      replace hz := hz.below hb12
      replace hbxZ := hb12.at (World.block_lt_of_cell? _ ⟨_, 0, none⟩ hbxZ) hbxZ
      replace oP := oP.below hb12
      replace oQ := oQ.below hb12
      go_wp2_with fail
      go_ret
      exact ⟨rfl, hB⟩
    | true =>
      have hag := rename_again hRk
      rw [hRa] at hag
      obtain ⟨g1, g2, g3, g4⟩ := hag
      have G3 := Lib.hid g3
      clear hRk hRa g3
      go_wp2_with fail
      refine (iRenameOf_v (by omega) hs hrs oM g2 g1).mono ?_; rintro e w6 ⟨aT, mT, cT, rfl, oT, hb6⟩
      replace hv1 := hv1.bel hb6
      replace hB := hB.step hb6
      replace hs := hs.below hb6
      replace hl := hl.below hb6
      replace hbxX := hb6.at (World.block_lt_of_cell? _ ⟨_, 0, none⟩ hbxX) hbxX
      replace oM := oM.below hb6
      replace oN := oN.below hb6
      replace oT := oT.sl
      have eT := SlS.len oT
      subst eT
      go_wp2_with fail
      refine (sameLists_same _ _ _ _ _ _ r _ hrs oT oM).mono ?_; rintro e w7 ⟨rfl, hb7⟩
      replace hv1 := hv1.bel hb7
      replace hB := hB.step hb7
      replace hs := hs.below hb7
      replace hl := hl.below hb7
      replace hbxX := hb7.at (World.block_lt_of_cell? _ ⟨_, 0, none⟩ hbxX) hbxX
      replace oM := oM.below hb7
      replace oN := oN.below hb7
      replace oT := oT.below hb7
      clear oT oN g1 g2
      go_wp2_with fail
      go_loopw [77] (fun i wr => ∃ j : Nat, j ≤ l.length ∧ i = .int .i64 j ∧ Bel w7 wr) (fun i _ => l.length - (intOf i).toNat)
      case atStart => exact ⟨0, Nat.zero_le _, rfl, Bel.rfl' _⟩
      case round =>
        obtain ⟨j, hj, rfl, hbj⟩ := hrel
        replace hv1 := hv1.bel hbj
        replace hB := hB.step hbj
        replace hs := hs.below hbj
        replace hl := hl.below hbj
        replace hbxX := hbj.at (World.block_lt_of_cell? _ ⟨_, 0, none⟩ hbxX) hbxX
        replace oM := oM.below hbj
        by_cases hlt : j < l.length
        · obtain ⟨g5, g6⟩ := g4 j hlt
          obtain ⟨b1, o1, p1, e1, -, hc1, hp1⟩ := hl.at (Bel.rfl' _) j hlt
          obtain ⟨b2, o2, p2, e2, -, hc2, hp2⟩ := oM.at (Bel.rfl' _) j (by rw [G3.out]; exact hlt)
          subst e1 e2
          have hjl := hsh.2 j hlt
          have hjr := hrs.2 j (by rw [G3.out]; exact hlt)
          have hj64 : (j : Int) < l.length := by omega
          have hj65 : (j : Int) < r.length := by rw [G3.out]; exact hj64
          generalize l.getD j [] = t1 at *
          generalize r.getD j [] = t2 at *
          obtain ⟨q1, d1, rfl⟩ := hp1.form
          obtain ⟨q2, d2, rfl⟩ := hp2.form
          have HS := Lib.hid (iSameUpTo_vv (by omega) (hs.below (Bel.drew0 _)) hjl (hp1.below (Bel.drew0 _)) hjr (hp2.below (Bel.drew0 _)) g6 g5)
          clear g5 g6
          go_wp2_with fail
          go_region_held3 (fun w' => w'.cell? ⟨gX, 0, none⟩ = some (.slice sXa ar.length sXc) ∧ w'.cell? ⟨b2, o2 + j, none⟩ = some (.slice q2 t2.length d2))
            (first | exact ⟨hbxX, hc2⟩ | exact hcc | fail)
            (first | (go_at_call 22; refine HS.out.mono ?_; rintro e y1 ⟨rfl, hy1⟩; have hcc : y1.cell? ⟨gX, 0, none⟩ = some (.slice sXa ar.length sXc) ∧ y1.cell? ⟨b2, o2 + j, none⟩ = some (.slice q2 t2.length d2) := ⟨hy1.of_drew.at (World.block_lt_of_cell? _ ⟨_, _, none⟩ hbxX) hbxX, hy1.of_drew.at (World.block_lt_of_cell? _ ⟨_, _, none⟩ hc2) hc2⟩) | fail)
          go_wp2_with fail
          go_roundw
          case rel => exact ⟨j+1, by omega, by go_num, hbj.step hy1.of_drew⟩
          case measure => simp [intOf]; omega
        · clear hl oM hs hbxX g4 hrs
          go_wp2_with fail
          refine (drawSameUpTo_c n1 _ _ (by omega) hv1).mono ?_; rintro e w8 ⟨sv2, av, bv, ar2, a, b, rfl, hdr2, hs2, ha, hal2, hbb, hbl2, hb8⟩
          replace hv1 := hv1.bel hb8
          replace hB := hB.step hb8
          have hal3 := drawn_len hdr2
          obtain ⟨sYa, sYc, rfl⟩ := hs2.form
          obtain ⟨aa, ac, rfl⟩ := ha.form
          obtain ⟨ba, bc, rfl⟩ := hbb.form
          have hbAY := Bel.alloc0 w8 (.cells #[.slice sYa ar2.length sYc] 28)
          have hbxY : (w8.alloc (.cells #[.slice sYa ar2.length sYc] 28)).cell? ⟨w8.heap.size, 0, none⟩ = some (.slice sYa ar2.length sYc) := by rw [World.cell?_alloc_new w8]; rfl
          replace hv1 := hv1.bel hbAY
          replace hB := hB.step hbAY
          replace hs2 := hs2.below hbAY
          replace ha := ha.below hbAY
          replace hbb := hbb.below hbAY
          generalize hgY : w8.heap.size = gY at *
          generalize hSa : sameAns ar2 a b = sa'
          generalize hSk : sameOk ar2 a b = sk
          go_wp2_with fail
          refine (iSameUpTo_vv (by omega) hs2 (by omega) ha (by omega) hbb hSa hSk).mono ?_; rintro e w9 ⟨rfl, hb9⟩
          replace hv1 := hv1.bel hb9
          replace hB := hB.step hb9
          replace hs2 := hs2.below hb9
          replace ha := ha.below hb9
          replace hbb := hbb.below hb9
          replace hbxY := hb9.at (World.block_lt_of_cell? _ ⟨_, 0, none⟩ hbxY) hbxY
          go_wp2_with fail
          refine (sSameUpTo_vv (by omega) hs2 (by omega) ha (by omega) hbb hSa hSk).mono ?_; rintro e w10 ⟨rfl, hb10⟩
          replace hv1 := hv1.bel hb10
          replace hB := hB.step hb10
          replace hs2 := hs2.below hb10
          replace ha := ha.below hb10
          replace hbb := hbb.below hb10
          replace hbxY := hb10.at (World.block_lt_of_cell? _ ⟨_, 0, none⟩ hbxY) hbxY
          clear hs2 ha hbb hbxY hSa hSk
          go_wp2_with fail
          refine (drawApply_c n1 _ _ (by omega) hv1).mono ?_; rintro e w11 ⟨sv3, xv, zv, ar3, xl, z, rfl, hdr3, hs3, hxl, hxll, hxlj, hz, hzl, hb11⟩
          replace hv1 := hv1.bel hb11
          replace hB := hB.step hb11
          clear hv1
          have hal4 := drawn_len hdr3
          have hshx := short_12 hxll hxlj
          obtain ⟨sZa, sZc, rfl⟩ := hs3.form
          obtain ⟨xla, xlc, rfl⟩ := hxl.form
          obtain ⟨za, zc, rfl⟩ := hz.form
          have hbAZ := Bel.alloc0 w11 (.cells #[.slice sZa ar3.length sZc] 28)
          have hbxZ : (w11.alloc (.cells #[.slice sZa ar3.length sZc] 28)).cell? ⟨w11.heap.size, 0, none⟩ = some (.slice sZa ar3.length sZc) := by rw [World.cell?_alloc_new w11]; rfl
          replace hB := hB.step hbAZ
          replace hs3 := hs3.below hbAZ
          replace hxl := hxl.below hbAZ
          replace hz := hz.below hbAZ
          generalize hgZ : w11.heap.size = gZ at *
          generalize hPa : applyAns ar3 xl z = pa'
          generalize hPk : applyOk ar3 xl z = pk
          have hpl : pa'.length ≤ 40 := by rw [← hPa]; exact applyAns_len40 ar3 xl z
          go_wp2_with fail
          refine (iApply_v (by omega) hs3 hshx hxl (by omega) hz hPa hPk).mono ?_; rintro e w12 ⟨aP, mP, cP, rfl, oP, hb12⟩
          replace hB := hB.step hb12
          replace hs3 := hs3.below hb12
          replace hxl := hxl.below hb12
          replace hz := hz.below hb12
          replace hbxZ := hb12.at (World.block_lt_of_cell? _ ⟨_, 0, none⟩ hbxZ) hbxZ
          replace oP := oP.sl
          have eP := slI_n oP
          subst eP
          go_wp2_with fail
          refine (sApply_v (by omega) hs3 hshx hxl (by omega) hz hPa hPk).mono ?_; rintro e w13 ⟨aQ, mQ, cQ, rfl, oQ, hb13⟩
          replace hB := hB.step hb13
          replace hs3 := hs3.below hb13
          replace hxl := hxl.below hb13
          replace hz := hz.below hb13
          replace hbxZ := hb13.at (World.block_lt_of_cell? _ ⟨_, 0, none⟩ hbxZ) hbxZ
          replace oP := oP.below hb13
          replace oQ := oQ.sl
          have eQ := slI_n oQ
          subst eQ
          have hz1 : (sk == sk) = true := by simp
          have hz2 : (sa' == sa') = true := by simp
          have hz3 : (pk == pk) = true := by simp
          go_wp2_with fail
          refine (sameTerm_same _ _ _ _ _ _ pa' _ (by omega) oP oQ).mono ?_; rintro e w14 ⟨rfl, hb14⟩
          replace hB := hB.step hb14
          replace hs3 := hs3.below hb14
          replace hxl := hxl.below hb14
          replace hz := hz.below hb14
          replace hbxZ := hb14.at (World.block_lt_of_cell? _ ⟨_, 0, none⟩ hbxZ) hbxZ
          replace oP := oP.below hb14
          replace oQ := oQ.below hb14
          go_wp2_with fail
          go_ret
          exact ⟨rfl, hB⟩
  · go_enter Try.func4, Try.ntmps4
    go_wp2_with fail
    refine (big_yes n0 n1 _ _ _ _ _ hn0 hbig).mono ?_; rintro e w1 ⟨rfl, hb1⟩
    go_wp2_with fail
    go_ret
    exact ⟨rfl, hb1⟩
end Go.Proofs.Ytkbgglejhdodoaa
