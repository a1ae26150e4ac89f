/- FnMatched: the law's walk. -/
import Derived.Test.YtikllmdmifecpaaMgMatched11
import Derived.Deep.RegionHeld3
namespace Go.Proofs.Ytikllmdmifecpaa
open Go.RowKit

set_option maxRecDepth 100000 in
set_option maxHeartbeats 4000000 in
theorem lawMatched (w : World) (v0 : Value) (n0 : Nat) (hn0 : n0 ≤ 9223372036854775807) (hv0 : SlB w.heap.size w v0 n0) (v1 : Value) (n1 : Nat) (hn1 : n1 ≤ 9223372036854775807) (hv1 : SlB w.heap.size w v1 n1) :
    Calls Try.prog 4 #[v0, v1] w (RetV w (.bool true)) := by
  obtain ⟨ca, cc, rfl⟩ := hv0.form
  obtain ⟨ma, mc, rfl⟩ := hv1.form
  by_cases hbig : n0 ≤ 1048576 ∧ n0 + n1 ≤ 1048576
  · go_enter Try.func4, Try.ntmps4
    have hB := Bel.rfl' w
    go_wp2_with fail
    refine (big_no n0 n1 _ _ _ _ _ hbig.1 hbig.2).mono ?_; rintro e w1 ⟨rfl, hb1⟩
    replace hv0 := hv0.bel hb1
    replace hv1 := hv1.bel hb1
    replace hB := hB.step hb1
    go_wp2_with fail
    refine (drawMatch_c n0 _ _ hbig.1 hv0).mono ?_; rintro e w2 ⟨sv, pv, tv, ar, p, t, rfl, hdr, hs, hp, hpl, ht, htl, hb2⟩
    replace hv0 := hv0.bel hb2
    replace hv1 := hv1.bel hb2
    replace hB := hB.step hb2
    clear hv0
    have hal := drawn_len hdr
    obtain ⟨sXa, sXc, rfl⟩ := hs.form
    obtain ⟨pa, pc, rfl⟩ := hp.form
    obtain ⟨ta, tc, rfl⟩ := ht.form
    have hbAX := Bel.alloc0 w2 (.cells #[.slice sXa ar.length sXc] 29)
    have hbxX : (w2.alloc (.cells #[.slice sXa ar.length sXc] 29)).cell? ⟨w2.heap.size, 0, none⟩ = some (.slice sXa ar.length sXc) := by rw [World.cell?_alloc_new w2]; rfl
    replace hv1 := hv1.bel hbAX
    replace hB := hB.step hbAX
    replace hs := hs.below hbAX
    replace hp := hp.below hbAX
    replace ht := ht.below hbAX
    generalize hgX : w2.heap.size = gX at *
    generalize hMa : matchAns ar p t = ma'
    generalize hMk : matchOk ar p t = mk
    have hms : short ma' := by rw [← hMa]; exact short_of_tot (matchAns_len ar p t)
    go_wp2_with fail
    refine (iMatch_v (by omega) hs (by omega) hp (by omega) ht hMa hMk).mono ?_; rintro e w3 ⟨aM, mM, cM, rfl, oM, hb3⟩
    replace hv1 := hv1.bel hb3
    replace hB := hB.step hb3
    replace hs := hs.below hb3
    replace hp := hp.below hb3
    replace ht := ht.below hb3
    replace hbxX := hb3.at (World.block_lt_of_cell? _ ⟨_, 0, none⟩ hbxX) hbxX
    replace oM := oM.sl
    have eM := SlS.len oM
    subst eM
    go_wp2_with fail
    refine (sMatch_v (by omega) hs (by omega) hp (by omega) ht hMa hMk).mono ?_; rintro e w4 ⟨aN, mN, cN, rfl, oN, hb4⟩
    replace hv1 := hv1.bel hb4
    replace hB := hB.step hb4
    replace hs := hs.below hb4
    replace hp := hp.below hb4
    replace ht := ht.below hb4
    replace hbxX := hb4.at (World.block_lt_of_cell? _ ⟨_, 0, none⟩ hbxX) hbxX
    replace oM := oM.below hb4
    replace oN := oN.sl
    have eN := SlS.len oN
    subst eN
    have hq1 : (mk != mk) = false := by simp
    go_wp2_with fail
    refine (sameLists_same _ _ _ _ _ _ ma' _ hms oM oN).mono ?_; rintro e w5 ⟨rfl, hb5⟩
    replace hv1 := hv1.bel hb5
    replace hB := hB.step hb5
    replace hs := hs.below hb5
    replace hp := hp.below hb5
    replace ht := ht.below hb5
    replace hbxX := hb5.at (World.block_lt_of_cell? _ ⟨_, 0, none⟩ hbxX) hbxX
    replace oM := oM.below hb5
    replace oN := oN.below hb5
    cases mk with
    | false =>
      clear hMk hMa
      go_wp2_with fail
      refine (drawCompose_c n1 _ _ (by omega) hv1).mono ?_; rintro e w6 ⟨sv2, lv, mv, ar2, l, m, rfl, hdr2, hs2, hl, hll, hlj, hm, hml, hmj, hb6⟩
      replace hv1 := hv1.bel hb6
      replace hB := hB.step hb6
      replace hs := hs.below hb6
      replace hp := hp.below hb6
      replace ht := ht.below hb6
      replace hbxX := hb6.at (World.block_lt_of_cell? _ ⟨_, 0, none⟩ hbxX) hbxX
      replace oM := oM.below hb6
      replace oN := oN.below hb6
      clear hs hp ht oM oN hbxX
      have hal2 := drawn_len hdr2
      have hshl := short_12 hll hlj
      have hshm := short_12 hml hmj
      obtain ⟨sYa, sYc, rfl⟩ := hs2.form
      obtain ⟨la, lc, rfl⟩ := hl.form
      obtain ⟨mma, mmc, rfl⟩ := hm.form
      have hbAY := Bel.alloc0 w6 (.cells #[.slice sYa ar2.length sYc] 29)
      have hbxY : (w6.alloc (.cells #[.slice sYa ar2.length sYc] 29)).cell? ⟨w6.heap.size, 0, none⟩ = some (.slice sYa ar2.length sYc) := by rw [World.cell?_alloc_new w6]; rfl
      replace hv1 := hv1.bel hbAY
      replace hB := hB.step hbAY
      replace hs2 := hs2.below hbAY
      replace hl := hl.below hbAY
      replace hm := hm.below hbAY
      generalize hgY : w6.heap.size = gY at *
      generalize hCa : composeAns ar2 l m = ca'
      generalize hCk : composeOk ar2 l m = ck
      generalize hGs : goodSubst ar2 l = gs
      have hcs : short ca' := by rw [← hCa]; exact short_of_tot (composeAns_len ar2 l m)
      go_wp2_with fail
      refine (iCompose_v (by omega) hs2 hshl hl hshm hm hCa hCk).mono ?_; rintro e w7 ⟨aC, mC, cC, rfl, oC, hb7⟩
      replace hv1 := hv1.bel hb7
      replace hB := hB.step hb7
      replace hs2 := hs2.below hb7
      replace hl := hl.below hb7
      replace hm := hm.below hb7
      replace hbxY := hb7.at (World.block_lt_of_cell? _ ⟨_, 0, none⟩ hbxY) hbxY
      replace oC := oC.sl
      have eC := SlS.len oC
      subst eC
      go_wp2_with fail
      refine (sCompose_v (by omega) hs2 hshl hl hshm hm hCa hCk).mono ?_; rintro e w8 ⟨aD, mD, cD, rfl, oD, hb8⟩
      replace hv1 := hv1.bel hb8
      replace hB := hB.step hb8
      replace hs2 := hs2.below hb8
      replace hl := hl.below hb8
      replace hm := hm.below hb8
      replace hbxY := hb8.at (World.block_lt_of_cell? _ ⟨_, 0, none⟩ hbxY) hbxY
      replace oC := oC.below hb8
      replace oD := oD.sl
      have eD := SlS.len oD
      subst eD
      have hq2 : (ck != ck) = false := by simp
      have hq3 : (gs != gs) = false := by simp
      have HGs := Lib.hid hGs
      have HCk := Lib.hid (And.intro hCa hCk)
      clear hGs hCk hCa
      go_wp2_with fail
      go_region_held3 (fun w' => w'.cell? ⟨gY, 0, none⟩ = some (.slice sYa ar2.length sYc))
        (first | exact hbxY | exact hx1 | exact hx2 | exact hx3 | fail)
        (first
          | (go_at_call 23; refine (sameLists_same _ _ _ _ _ _ ca' _ hcs (oC.below (Bel.drew0 w8)) (oD.below (Bel.drew0 w8))).mono ?_; rintro e y1 ⟨rfl, hc1⟩; replace hc1 := (Bel.drew0 w8).step hc1; have hx1 := hc1.at (World.block_lt_of_cell? _ ⟨_, 0, none⟩ hbxY) hbxY)
          | (go_at_call 29; refine (iGoodSubst_v _ _ _ _ _ _ ar2 l gs _ HGs.out (by omega) (hs2.below hc1) hshl (hl.below hc1)).mono ?_; rintro e y2 ⟨rfl, hc2⟩; replace hc2 := hc1.step hc2; have hx2 := hc2.at (World.block_lt_of_cell? _ ⟨_, 0, none⟩ hbxY) hbxY)
          | (go_at_call 30; refine (sGoodSubst_v _ _ _ _ _ _ ar2 l gs _ HGs.out (by omega) (hs2.below hc2) hshl (hl.below hc2)).mono ?_; rintro e y3 ⟨rfl, hc3⟩; replace hc3 := hc2.step hc3; have hx3 := hc3.at (World.block_lt_of_cell? _ ⟨_, 0, none⟩ hbxY) hbxY)
          | fail)
      clear hx1 hx2 hx3 hc1 hc2 hq2 hq3 HGs
      replace hv1 := hv1.bel hc3
      replace hB := hB.step hc3
      replace hs2 := hs2.below hc3
      replace hl := hl.below hc3
      replace hm := hm.below hc3
      replace hbxY := hc3.at (World.block_lt_of_cell? _ ⟨_, 0, none⟩ hbxY) hbxY
      replace oC := oC.below hc3
      replace oD := oD.below hc3
      clear hc3
      go_wp2_with fail
      refine (drawApply_c n1 _ _ (by omega) hv1).mono ?_; rintro e w9 ⟨sv3, xv, zv, ar3, xl, z, rfl, hdr3, hs3, hxl, -, -, hz, hzl, hb9⟩
      replace hv1 := hv1.bel hb9
      replace hB := hB.step hb9
      replace hs2 := hs2.below hb9
      replace hl := hl.below hb9
      replace hm := hm.below hb9
      replace hbxY := hb9.at (World.block_lt_of_cell? _ ⟨_, 0, none⟩ hbxY) hbxY
      replace oC := oC.below hb9
      replace oD := oD.below hb9
      clear hv1 hxl oD
      have hal3 := drawn_len hdr3
      obtain ⟨sZa, sZc, rfl⟩ := hs3.form
      obtain ⟨za, zc, rfl⟩ := hz.form
      have hbAZ := Bel.alloc0 w9 (.cells #[.slice sZa ar3.length sZc] 29)
      have hbxZ : (w9.alloc (.cells #[.slice sZa ar3.length sZc] 29)).cell? ⟨w9.heap.size, 0, none⟩ = some (.slice sZa ar3.length sZc) := by rw [World.cell?_alloc_new w9]; rfl
      replace hB := hB.step hbAZ
      replace hs2 := hs2.below hbAZ
      replace hl := hl.below hbAZ
      replace hm := hm.below hbAZ
      replace hbxY := hbAZ.at (World.block_lt_of_cell? _ ⟨_, 0, none⟩ hbxY) hbxY
      replace oC := oC.below hbAZ
      replace hs3 := hs3.below hbAZ
      replace hz := hz.below hbAZ
      generalize hgZ : w9.heap.size = gZ at *
      cases ck with
      | false =>
        go_wp2_with fail
        go_ret
        exact ⟨rfl, hB⟩
      | true =>
        cases hgt : goodTerm ar2 z with
        | false =>
          have HG := Lib.hid hgt
          clear hgt
          go_wp2_with fail
          refine (sGoodTerm_v _ _ _ _ _ _ ar2 z false _ HG.out (by omega) (by omega) hs2 hz).mono ?_; rintro e w10 ⟨rfl, hb10⟩
          replace hB := hB.step hb10
          replace hs2 := hs2.below hb10
          replace hl := hl.below hb10
          replace hm := hm.below hb10
          replace hbxY := hb10.at (World.block_lt_of_cell? _ ⟨_, 0, none⟩ hbxY) hbxY
          replace oC := oC.below hb10
          replace hs3 := hs3.below hb10
          replace hz := hz.below hb10
          replace hbxZ := hb10.at (World.block_lt_of_cell? _ ⟨_, 0, none⟩ hbxZ) hbxZ
          go_wp2_with fail
          go_ret
          exact ⟨rfl, hB⟩
        | true =>
          have HG := Lib.hid hgt
          clear hgt
          go_wp2_with fail
          refine (sGoodTerm_v _ _ _ _ _ _ ar2 z true _ HG.out (by omega) (by omega) hs2 hz).mono ?_; rintro e w10 ⟨rfl, hb10⟩
          replace hB := hB.step hb10
          replace hs2 := hs2.below hb10
          replace hl := hl.below hb10
          replace hm := hm.below hb10
          replace hbxY := hb10.at (World.block_lt_of_cell? _ ⟨_, 0, none⟩ hbxY) hbxY
          replace oC := oC.below hb10
          replace hs3 := hs3.below hb10
          replace hz := hz.below hb10
          replace hbxZ := hb10.at (World.block_lt_of_cell? _ ⟨_, 0, none⟩ hbxZ) hbxZ
          by_cases har : ar2 = ar3
          ·
            have hdec : decide (ar2 = ar3) = true := by simpa using har
            clear har
            go_wp2_with fail
            refine (sameInts_v _ _ _ _ _ _ ar2 ar3 true _ hdec (by omega) (by omega) hs2 hs3).mono ?_; rintro e w11 ⟨rfl, hb11⟩
            replace hB := hB.step hb11
            replace hs2 := hs2.below hb11
            replace hl := hl.below hb11
            replace hm := hm.below hb11
            replace hbxY := hb11.at (World.block_lt_of_cell? _ ⟨_, 0, none⟩ hbxY) hbxY
            replace oC := oC.below hb11
            replace hs3 := hs3.below hb11
            replace hz := hz.below hb11
            replace hbxZ := hb11.at (World.block_lt_of_cell? _ ⟨_, 0, none⟩ hbxZ) hbxZ
            generalize hK1 : applyOk ar2 l z = k1
            generalize hR1 : applyAns ar2 l z = r1
            have hr1 : r1.length ≤ 40 := by rw [← hR1]; exact applyAns_len40 ar2 l z
            generalize hK2 : applyOk ar2 m r1 = k2
            generalize hR2 : applyAns ar2 m r1 = r2
            have hr2 : r2.length ≤ 40 := by rw [← hR2]; exact applyAns_len40 ar2 m r1
            generalize hK3 : applyOk ar2 ca' z = k3
            generalize hR3 : applyAns ar2 ca' z = r3
            have hr3 : r3.length ≤ 40 := by rw [← hR3]; exact applyAns_len40 ar2 ca' z
            have HA := Lib.hid (fun (h1 : k1 = true) (h2 : k2 = true) => show k3 = true ∧ r3 = r2 by
              have := compose_app (z := z) HCk.out.2 (by rw [hK1]; exact h1) (by rw [hR1, hK2]; exact h2)
              rw [HCk.out.1, hK3, hR3, hR1, hR2] at this
              exact this)
            go_wp2_with fail
            refine (iApply_v (by omega) hs2 hshl hl (by omega) hz hR1 hK1).mono ?_; rintro e w12 ⟨aP, mP, cP, rfl, oP, hb12⟩
            replace hB := hB.step hb12
            replace hs2 := hs2.below hb12
            replace hl := hl.below hb12
            replace hm := hm.below hb12
            replace hbxY := hb12.at (World.block_lt_of_cell? _ ⟨_, 0, none⟩ hbxY) hbxY
            replace oC := oC.below hb12
            replace hs3 := hs3.below hb12
            replace hz := hz.below hb12
            replace hbxZ := hb12.at (World.block_lt_of_cell? _ ⟨_, 0, none⟩ hbxZ) hbxZ
            replace oP := oP.sl
            have eP := slI_n oP
            subst eP
            go_wp2_with fail
            refine (iApply_v (by omega) hs2 hshm hm (by omega) oP hR2 hK2).mono ?_; rintro e w13 ⟨aQ, mQ, cQ, rfl, oQ, hb13⟩
            replace hB := hB.step hb13
            replace hs2 := hs2.below hb13
            replace hl := hl.below hb13
            replace hm := hm.below hb13
            replace hbxY := hb13.at (World.block_lt_of_cell? _ ⟨_, 0, none⟩ hbxY) hbxY
            replace oC := oC.below hb13
            replace hs3 := hs3.below hb13
            replace hz := hz.below hb13
            replace hbxZ := hb13.at (World.block_lt_of_cell? _ ⟨_, 0, none⟩ hbxZ) hbxZ
            replace oP := oP.below hb13
            replace oQ := oQ.sl
            have eQ := slI_n oQ
            subst eQ
            go_wp2_with fail
            refine (iApply_v (by omega) hs2 hcs oC (by omega) hz hR3 hK3).mono ?_; rintro e w14 ⟨aR, mR, cR, rfl, oR, hb14⟩
            replace hB := hB.step hb14
            replace hs2 := hs2.below hb14
            replace hl := hl.below hb14
            replace hm := hm.below hb14
            replace hbxY := hb14.at (World.block_lt_of_cell? _ ⟨_, 0, none⟩ hbxY) hbxY
            replace oC := oC.below hb14
            replace hs3 := hs3.below hb14
            replace hz := hz.below hb14
            replace hbxZ := hb14.at (World.block_lt_of_cell? _ ⟨_, 0, none⟩ hbxZ) hbxZ
            replace oP := oP.below hb14
            replace oQ := oQ.below hb14
            replace oR := oR.sl
            have eR := slI_n oR
            subst eR
            clear hK1 hR1 hK2 hR2 hK3 hR3
            cases k1 with
            | false =>
              go_wp2_with fail
              go_ret
              exact ⟨rfl, hB⟩
            | true =>
              cases k2 with
              | false =>
                go_wp2_with fail
                go_ret
                exact ⟨rfl, hB⟩
              | true =>
                obtain ⟨rfl, rfl⟩ := HA.out rfl rfl
                clear HA
                go_wp2_with fail
                refine (sameTerm_same _ _ _ _ _ _ r3 _ (by omega) oR oQ).mono ?_; rintro e w15 ⟨rfl, hb15⟩
                replace hB := hB.step hb15
                replace hs2 := hs2.below hb15
                replace hl := hl.below hb15
                replace hm := hm.below hb15
                replace hbxY := hb15.at (World.block_lt_of_cell? _ ⟨_, 0, none⟩ hbxY) hbxY
                replace oC := oC.below hb15
                replace hs3 := hs3.below hb15
                replace hz := hz.below hb15
                replace hbxZ := hb15.at (World.block_lt_of_cell? _ ⟨_, 0, none⟩ hbxZ) hbxZ
                replace oP := oP.below hb15
                replace oQ := oQ.below hb15
                replace oR := oR.below hb15
                go_wp2_with fail
                go_ret
                exact ⟨rfl, hB⟩
          ·
            have hdec : decide (ar2 = ar3) = false := by simpa using har
            clear har
            go_wp2_with fail
            refine (sameInts_v _ _ _ _ _ _ ar2 ar3 false _ hdec (by omega) (by omega) hs2 hs3).mono ?_; rintro e w11 ⟨rfl, hb11⟩
            replace hB := hB.step hb11
            replace hs2 := hs2.below hb11
            replace hl := hl.below hb11
            replace hm := hm.below hb11
            replace hbxY := hb11.at (World.block_lt_of_cell? _ ⟨_, 0, none⟩ hbxY) hbxY
            replace oC := oC.below hb11
            replace hs3 := hs3.below hb11
            replace hz := hz.below hb11
            replace hbxZ := hb11.at (World.block_lt_of_cell? _ ⟨_, 0, none⟩ hbxZ) hbxZ
            go_wp2_with fail
            go_ret
            exact ⟨rfl, hB⟩
    | true =>
      have hap := match_app hMk
      rw [hMa] at hap
      clear hMk hMa
      go_wp2_with fail
      refine (iApply_v (by omega) hs hms oM (by omega) hp hap.2 hap.1).mono ?_; rintro e w6 ⟨aT, mT, cT, rfl, oT, hb6⟩
      replace hv1 := hv1.bel hb6
      replace hB := hB.step hb6
      replace hs := hs.below hb6
      replace hp := hp.below hb6
      replace ht := ht.below hb6
      replace hbxX := hb6.at (World.block_lt_of_cell? _ ⟨_, 0, none⟩ hbxX) hbxX
      replace oM := oM.below hb6
      replace oN := oN.below hb6
      replace oT := oT.sl
      have eT := slI_n oT
      subst eT
      clear hap
      go_wp2_with fail
      refine (sameTerm_same _ _ _ _ _ _ t _ (by omega) oT ht).mono ?_; rintro e w7 ⟨rfl, hb7⟩
      replace hv1 := hv1.bel hb7
      replace hB := hB.step hb7
      replace hs := hs.below hb7
      replace hp := hp.below hb7
      replace ht := ht.below hb7
      replace hbxX := hb7.at (World.block_lt_of_cell? _ ⟨_, 0, none⟩ hbxX) hbxX
      replace oM := oM.below hb7
      replace oN := oN.below hb7
      replace oT := oT.below hb7
      clear oT
      go_wp2_with fail
      refine (drawCompose_c n1 _ _ (by omega) hv1).mono ?_; rintro e w8 ⟨sv2, lv, mv, ar2, l, m, rfl, hdr2, hs2, hl, hll, hlj, hm, hml, hmj, hb8⟩
      replace hv1 := hv1.bel hb8
      replace hB := hB.step hb8
      replace hs := hs.below hb8
      replace hp := hp.below hb8
      replace ht := ht.below hb8
      replace hbxX := hb8.at (World.block_lt_of_cell? _ ⟨_, 0, none⟩ hbxX) hbxX
      replace oM := oM.below hb8
      replace oN := oN.below hb8
      clear hs hp ht oM oN hbxX
      have hal2 := drawn_len hdr2
      have hshl := short_12 hll hlj
      have hshm := short_12 hml hmj
      obtain ⟨sYa, sYc, rfl⟩ := hs2.form
      obtain ⟨la, lc, rfl⟩ := hl.form
      obtain ⟨mma, mmc, rfl⟩ := hm.form
      have hbAY := Bel.alloc0 w8 (.cells #[.slice sYa ar2.length sYc] 29)
      have hbxY : (w8.alloc (.cells #[.slice sYa ar2.length sYc] 29)).cell? ⟨w8.heap.size, 0, none⟩ = some (.slice sYa ar2.length sYc) := by rw [World.cell?_alloc_new w8]; rfl
      replace hv1 := hv1.bel hbAY
      replace hB := hB.step hbAY
      replace hs2 := hs2.below hbAY
      replace hl := hl.below hbAY
      replace hm := hm.below hbAY
      generalize hgY : w8.heap.size = gY at *
      generalize hCa : composeAns ar2 l m = ca'
      generalize hCk : composeOk ar2 l m = ck
      generalize hGs : goodSubst ar2 l = gs
      have hcs : short ca' := by rw [← hCa]; exact short_of_tot (composeAns_len ar2 l m)
      go_wp2_with fail
      refine (iCompose_v (by omega) hs2 hshl hl hshm hm hCa hCk).mono ?_; rintro e w9 ⟨aC, mC, cC, rfl, oC, hb9⟩
      replace hv1 := hv1.bel hb9
      replace hB := hB.step hb9
      replace hs2 := hs2.below hb9
      replace hl := hl.below hb9
      replace hm := hm.below hb9
      replace hbxY := hb9.at (World.block_lt_of_cell? _ ⟨_, 0, none⟩ hbxY) hbxY
      replace oC := oC.sl
      have eC := SlS.len oC
      subst eC
      go_wp2_with fail
      refine (sCompose_v (by omega) hs2 hshl hl hshm hm hCa hCk).mono ?_; rintro e w10 ⟨aD, mD, cD, rfl, oD, hb10⟩
      replace hv1 := hv1.bel hb10
      replace hB := hB.step hb10
      replace hs2 := hs2.below hb10
      replace hl := hl.below hb10
      replace hm := hm.below hb10
      replace hbxY := hb10.at (World.block_lt_of_cell? _ ⟨_, 0, none⟩ hbxY) hbxY
      replace oC := oC.below hb10
      replace oD := oD.sl
      have eD := SlS.len oD
      subst eD
      have hq2 : (ck != ck) = false := by simp
      have hq3 : (gs != gs) = false := by simp
      have HGs := Lib.hid hGs
      have HCk := Lib.hid (And.intro hCa hCk)
      clear hGs hCk hCa
      go_wp2_with fail
      go_region_held3 (fun w' => w'.cell? ⟨gY, 0, none⟩ = some (.slice sYa ar2.length sYc))
        (first | exact hbxY | exact hx1 | exact hx2 | exact hx3 | fail)
        (first
          | (go_at_call 23; refine (sameLists_same _ _ _ _ _ _ ca' _ hcs (oC.below (Bel.drew0 w10)) (oD.below (Bel.drew0 w10))).mono ?_; rintro e y1 ⟨rfl, hc1⟩; replace hc1 := (Bel.drew0 w10).step hc1; have hx1 := hc1.at (World.block_lt_of_cell? _ ⟨_, 0, none⟩ hbxY) hbxY)
          | (go_at_call 29; refine (iGoodSubst_v _ _ _ _ _ _ ar2 l gs _ HGs.out (by omega) (hs2.below hc1) hshl (hl.below hc1)).mono ?_; rintro e y2 ⟨rfl, hc2⟩; replace hc2 := hc1.step hc2; have hx2 := hc2.at (World.block_lt_of_cell? _ ⟨_, 0, none⟩ hbxY) hbxY)
          | (go_at_call 30; refine (sGoodSubst_v _ _ _ _ _ _ ar2 l gs _ HGs.out (by omega) (hs2.below hc2) hshl (hl.below hc2)).mono ?_; rintro e y3 ⟨rfl, hc3⟩; replace hc3 := hc2.step hc3; have hx3 := hc3.at (World.block_lt_of_cell? _ ⟨_, 0, none⟩ hbxY) hbxY)
          | fail)
      clear hx1 hx2 hx3 hc1 hc2 hq2 hq3 HGs
      replace hv1 := hv1.bel hc3
      replace hB := hB.step hc3
      replace hs2 := hs2.below hc3
      replace hl := hl.below hc3
      replace hm := hm.below hc3
      replace hbxY := hc3.at (World.block_lt_of_cell? _ ⟨_, 0, none⟩ hbxY) hbxY
      replace oC := oC.below hc3
      replace oD := oD.below hc3
      clear hc3
      go_wp2_with fail
      refine (drawApply_c n1 _ _ (by omega) hv1).mono ?_; rintro e w11 ⟨sv3, xv, zv, ar3, xl, z, rfl, hdr3, hs3, hxl, -, -, hz, hzl, hb11⟩
      replace hv1 := hv1.bel hb11
      replace hB := hB.step hb11
      replace hs2 := hs2.below hb11
      replace hl := hl.below hb11
      replace hm := hm.below hb11
      replace hbxY := hb11.at (World.block_lt_of_cell? _ ⟨_, 0, none⟩ hbxY) hbxY
      replace oC := oC.below hb11
      replace oD := oD.below hb11
      clear hv1 hxl oD
      have hal3 := drawn_len hdr3
      obtain ⟨sZa, sZc, rfl⟩ := hs3.form
      obtain ⟨za, zc, rfl⟩ := hz.form
      have hbAZ := Bel.alloc0 w11 (.cells #[.slice sZa ar3.length sZc] 29)
      have hbxZ : (w11.alloc (.cells #[.slice sZa ar3.length sZc] 29)).cell? ⟨w11.heap.size, 0, none⟩ = some (.slice sZa ar3.length sZc) := by rw [World.cell?_alloc_new w11]; rfl
      replace hB := hB.step hbAZ
      replace hs2 := hs2.below hbAZ
      replace hl := hl.below hbAZ
      replace hm := hm.below hbAZ
      replace hbxY := hbAZ.at (World.block_lt_of_cell? _ ⟨_, 0, none⟩ hbxY) hbxY
      replace oC := oC.below hbAZ
      replace hs3 := hs3.below hbAZ
      replace hz := hz.below hbAZ
      generalize hgZ : w11.heap.size = gZ at *
      cases ck with
      | false =>
        go_wp2_with fail
        go_ret
        exact ⟨rfl, hB⟩
      | true =>
        cases hgt : goodTerm ar2 z with
        | false =>
          have HG := Lib.hid hgt
          clear hgt
          go_wp2_with fail
          refine (sGoodTerm_v _ _ _ _ _ _ ar2 z false _ HG.out (by omega) (by omega) hs2 hz).mono ?_; rintro e w12 ⟨rfl, hb12⟩
          replace hB := hB.step hb12
          replace hs2 := hs2.below hb12
          replace hl := hl.below hb12
          replace hm := hm.below hb12
          replace hbxY := hb12.at (World.block_lt_of_cell? _ ⟨_, 0, none⟩ hbxY) hbxY
          replace oC := oC.below hb12
          replace hs3 := hs3.below hb12
          replace hz := hz.below hb12
          replace hbxZ := hb12.at (World.block_lt_of_cell? _ ⟨_, 0, none⟩ hbxZ) hbxZ
          go_wp2_with fail
          go_ret
          exact ⟨rfl, hB⟩
        | true =>
          have HG := Lib.hid hgt
          clear hgt
          go_wp2_with fail
          refine (sGoodTerm_v _ _ _ _ _ _ ar2 z true _ HG.out (by omega) (by omega) hs2 hz).mono ?_; rintro e w12 ⟨rfl, hb12⟩
          replace hB := hB.step hb12
          replace hs2 := hs2.below hb12
          replace hl := hl.below hb12
          replace hm := hm.below hb12
          replace hbxY := hb12.at (World.block_lt_of_cell? _ ⟨_, 0, none⟩ hbxY) hbxY
          replace oC := oC.below hb12
          replace hs3 := hs3.below hb12
          replace hz := hz.below hb12
          replace hbxZ := hb12.at (World.block_lt_of_cell? _ ⟨_, 0, none⟩ hbxZ) hbxZ
          by_cases har : ar2 = ar3
          ·
            have hdec : decide (ar2 = ar3) = true := by simpa using har
            clear har
            go_wp2_with fail
            refine (sameInts_v _ _ _ _ _ _ ar2 ar3 true _ hdec (by omega) (by omega) hs2 hs3).mono ?_; rintro e w13 ⟨rfl, hb13⟩
            replace hB := hB.step hb13
            replace hs2 := hs2.below hb13
            replace hl := hl.below hb13
            replace hm := hm.below hb13
            replace hbxY := hb13.at (World.block_lt_of_cell? _ ⟨_, 0, none⟩ hbxY) hbxY
            replace oC := oC.below hb13
            replace hs3 := hs3.below hb13
            replace hz := hz.below hb13
            replace hbxZ := hb13.at (World.block_lt_of_cell? _ ⟨_, 0, none⟩ hbxZ) hbxZ
            generalize hK1 : applyOk ar2 l z = k1
            generalize hR1 : applyAns ar2 l z = r1
            have hr1 : r1.length ≤ 40 := by rw [← hR1]; exact applyAns_len40 ar2 l z
            generalize hK2 : applyOk ar2 m r1 = k2
            generalize hR2 : applyAns ar2 m r1 = r2
            have hr2 : r2.length ≤ 40 := by rw [← hR2]; exact applyAns_len40 ar2 m r1
            generalize hK3 : applyOk ar2 ca' z = k3
            generalize hR3 : applyAns ar2 ca' z = r3
            have hr3 : r3.length ≤ 40 := by rw [← hR3]; exact applyAns_len40 ar2 ca' z
            have HA := Lib.hid (fun (h1 : k1 = true) (h2 : k2 = true) => show k3 = true ∧ r3 = r2 by
              have := compose_app (z := z) HCk.out.2 (by rw [hK1]; exact h1) (by rw [hR1, hK2]; exact h2)
              rw [HCk.out.1, hK3, hR3, hR1, hR2] at this
              exact this)
            go_wp2_with fail
            refine (iApply_v (by omega) hs2 hshl hl (by omega) hz hR1 hK1).mono ?_; rintro e w14 ⟨aP, mP, cP, rfl, oP, hb14⟩
            replace hB := hB.step hb14
            replace hs2 := hs2.below hb14
            replace hl := hl.below hb14
            replace hm := hm.below hb14
            replace hbxY := hb14.at (World.block_lt_of_cell? _ ⟨_, 0, none⟩ hbxY) hbxY
            replace oC := oC.below hb14
            replace hs3 := hs3.below hb14
            replace hz := hz.below hb14
            replace hbxZ := hb14.at (World.block_lt_of_cell? _ ⟨_, 0, none⟩ hbxZ) hbxZ
            replace oP := oP.sl
            have eP := slI_n oP
            subst eP
            go_wp2_with fail
            refine (iApply_v (by omega) hs2 hshm hm (by omega) oP hR2 hK2).mono ?_; rintro e w15 ⟨aQ, mQ, cQ, rfl, oQ, hb15⟩
            replace hB := hB.step hb15
            replace hs2 := hs2.below hb15
            replace hl := hl.below hb15
            replace hm := hm.below hb15
            replace hbxY := hb15.at (World.block_lt_of_cell? _ ⟨_, 0, none⟩ hbxY) hbxY
            replace oC := oC.below hb15
            replace hs3 := hs3.below hb15
            replace hz := hz.below hb15
            replace hbxZ := hb15.at (World.block_lt_of_cell? _ ⟨_, 0, none⟩ hbxZ) hbxZ
            replace oP := oP.below hb15
            replace oQ := oQ.sl
            have eQ := slI_n oQ
            subst eQ
            go_wp2_with fail
            refine (iApply_v (by omega) hs2 hcs oC (by omega) hz hR3 hK3).mono ?_; rintro e w16 ⟨aR, mR, cR, rfl, oR, hb16⟩
            replace hB := hB.step hb16
            replace hs2 := hs2.below hb16
            replace hl := hl.below hb16
            replace hm := hm.below hb16
            replace hbxY := hb16.at (World.block_lt_of_cell? _ ⟨_, 0, none⟩ hbxY) hbxY
            replace oC := oC.below hb16
            replace hs3 := hs3.below hb16
            replace hz := hz.below hb16
            replace hbxZ := hb16.at (World.block_lt_of_cell? _ ⟨_, 0, none⟩ hbxZ) hbxZ
            replace oP := oP.below hb16
            replace oQ := oQ.below hb16
            replace oR := oR.sl
            have eR := slI_n oR
            subst eR
            clear hK1 hR1 hK2 hR2 hK3 hR3
            cases k1 with
            | false =>
              go_wp2_with fail
              go_ret
              exact ⟨rfl, hB⟩
            | true =>
              cases k2 with
              | false =>
                go_wp2_with fail
                go_ret
                exact ⟨rfl, hB⟩
              | true =>
                obtain ⟨rfl, rfl⟩ := HA.out rfl rfl
                clear HA
                go_wp2_with fail
                refine (sameTerm_same _ _ _ _ _ _ r3 _ (by omega) oR oQ).mono ?_; rintro e w17 ⟨rfl, hb17⟩
                replace hB := hB.step hb17
                replace hs2 := hs2.below hb17
                replace hl := hl.below hb17
                replace hm := hm.below hb17
                replace hbxY := hb17.at (World.block_lt_of_cell? _ ⟨_, 0, none⟩ hbxY) hbxY
                replace oC := oC.below hb17
                replace hs3 := hs3.below hb17
                replace hz := hz.below hb17
                replace hbxZ := hb17.at (World.block_lt_of_cell? _ ⟨_, 0, none⟩ hbxZ) hbxZ
                replace oP := oP.below hb17
                replace oQ := oQ.below hb17
                replace oR := oR.below hb17
                go_wp2_with fail
                go_ret
                exact ⟨rfl, hB⟩
          ·
            have hdec : decide (ar2 = ar3) = false := by simpa using har
            clear har
            go_wp2_with fail
            refine (sameInts_v _ _ _ _ _ _ ar2 ar3 false _ hdec (by omega) (by omega) hs2 hs3).mono ?_; rintro e w13 ⟨rfl, hb13⟩
            replace hB := hB.step hb13
            replace hs2 := hs2.below hb13
            replace hl := hl.below hb13
            replace hm := hm.below hb13
            replace hbxY := hb13.at (World.block_lt_of_cell? _ ⟨_, 0, none⟩ hbxY) hbxY
            replace oC := oC.below hb13
            replace hs3 := hs3.below hb13
            replace hz := hz.below hb13
            replace hbxZ := hb13.at (World.block_lt_of_cell? _ ⟨_, 0, none⟩ hbxZ) hbxZ
            go_wp2_with fail
            go_ret
            exact ⟨rfl, hB⟩
  · go_enter Try.func4, Try.ntmps4
    go_wp2_with fail
    refine (big_yes n0 n1 _ _ _ _ _ hn0 hbig).mono ?_; rintro e w1 ⟨rfl, hb1⟩
    go_wp2_with fail
    go_ret
    exact ⟨rfl, hb1⟩
end Go.Proofs.Ytikllmdmifecpaa
