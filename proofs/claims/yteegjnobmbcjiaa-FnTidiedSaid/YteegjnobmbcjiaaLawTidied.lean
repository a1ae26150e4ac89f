/- FnTidied: the law's walk. -/
import Derived.Test.YteegjnobmbcjiaaMgTidied12
import Derived.Deep.RegionHeld3
namespace Go.Proofs.Yteegjnobmbcjiaa
open Go.RowKit

set_option maxRecDepth 100000 in
set_option maxHeartbeats 16000000 in
theorem lawTidied (w : World) (v0 : Value) (n0 : Nat) (hn0 : n0 ≤ 9223372036854775807) (hv0 : SlB w.heap.size w v0 n0) (v1 : Value) (n1 : Nat) (hn1 : n1 ≤ 9223372036854775807) (hv1 : SlB w.heap.size w v1 n1) :
    Calls Try.prog 5 #[v0, v1] w (RetV w (.bool true)) := by
  obtain ⟨ca, cc, rfl⟩ := hv0.form
  obtain ⟨ma, mc, rfl⟩ := hv1.form
  by_cases hbig : n0 ≤ 1048576 ∧ n0 + n1 ≤ 1048576
  · go_enter Try.func5, Try.ntmps5
    have hB := Bel.rfl' w
    go_wp2_with fail
    refine (big_no n0 n1 _ _ _ _ _ hbig.1 hbig.2).mono ?_; rintro e w1 ⟨rfl, hb1⟩
    replace hv0 := hv0.bel hb1
    replace hv1 := hv1.bel hb1
    replace hB := hB.step hb1
    go_wp2_with fail
    refine (drawTidyClause_c n0 _ _ hbig.1 hv0).mono ?_; rintro e w2 ⟨sv, tv, ar, c, rfl, hdr, hs, ht, hfine, hb2⟩
    replace hv0 := hv0.bel hb2
    replace hv1 := hv1.bel hb2
    replace hB := hB.step hb2
    clear hv0
    have hal := drawn_len hdr
    have hsum := Nat.le_trans hfine.sum (show 100000 ≤ 1048576 by omega)
    obtain ⟨sXa, sXc, rfl⟩ := hs.form
    obtain ⟨ta, tc, rfl⟩ := ht.form
    have hbAX := Bel.alloc0 w2 (.cells #[.slice sXa ar.length sXc] 30)
    have hbxX : (w2.alloc (.cells #[.slice sXa ar.length sXc] 30)).cell? ⟨w2.heap.size, 0, none⟩ = some (.slice sXa ar.length sXc) := by rw [World.cell?_alloc_new w2]; rfl
    replace hv1 := hv1.bel hbAX
    replace hB := hB.step hbAX
    replace hs := hs.below hbAX
    replace ht := ht.below hbAX
    generalize hgX : w2.heap.size = gX at *
    have htl := tidyAns_len ar c
    have hrl := renCAns_len ar c
    generalize hT : tidyAns ar c = t at htl
    generalize hR : renCAns ar c = r at hrl
    generalize hA : tautAns ar c = tau
    generalize hG : goodClause ar c = g
    go_wp2_with fail
    refine (iTidyClause_vv (by omega) hs hsum ht hT hG).mono ?_; rintro e w3 ⟨aT, mT, cT, rfl, oT, hb3⟩
    replace hv1 := hv1.bel hb3
    replace hB := hB.step hb3
    replace hs := hs.below hb3
    replace ht := ht.below hb3
    replace hbxX := hb3.at (World.block_lt_of_cell? _ ⟨_, 0, none⟩ hbxX) hbxX
    replace oT := oT.sl
    have eT := slC_n oT
    subst eT
    go_wp2_with fail
    refine (sTidyClause_vv (by omega) hs hsum ht hT hG).mono ?_; rintro e w4 ⟨aU, mU, cU, rfl, oU, hb4⟩
    replace hv1 := hv1.bel hb4
    replace hB := hB.step hb4
    replace hs := hs.below hb4
    replace ht := ht.below hb4
    replace hbxX := hb4.at (World.block_lt_of_cell? _ ⟨_, 0, none⟩ hbxX) hbxX
    replace oT := oT.below hb4
    replace oU := oU.sl
    have eU := slC_n oU
    subst eU
    go_wp2_with fail
    refine (iRenameClause_vv (by omega) hs hsum ht hR hG).mono ?_; rintro e w5 ⟨aR, mR, cR, rfl, oR, hb5⟩
    replace hv1 := hv1.bel hb5
    replace hB := hB.step hb5
    replace hs := hs.below hb5
    replace ht := ht.below hb5
    replace hbxX := hb5.at (World.block_lt_of_cell? _ ⟨_, 0, none⟩ hbxX) hbxX
    replace oT := oT.below hb5
    replace oU := oU.below hb5
    replace oR := oR.sl
    have eR := slC_n oR
    subst eR
    go_wp2_with fail
    refine (sRenameClause_vv (by omega) hs hsum ht hR hG).mono ?_; rintro e w6 ⟨aS, mS, cS, rfl, oS, hb6⟩
    replace hv1 := hv1.bel hb6
    replace hB := hB.step hb6
    replace hs := hs.below hb6
    replace ht := ht.below hb6
    replace hbxX := hb6.at (World.block_lt_of_cell? _ ⟨_, 0, none⟩ hbxX) hbxX
    replace oT := oT.below hb6
    replace oU := oU.below hb6
    replace oR := oR.below hb6
    replace oS := oS.sl
    have eS := slC_n oS
    subst eS
    go_wp2_with fail
    refine (iIsTautology_vv (by omega) hs hsum ht hA hG).mono ?_; rintro e w7 ⟨rfl, hb7⟩
    replace hv1 := hv1.bel hb7
    replace hB := hB.step hb7
    replace hs := hs.below hb7
    replace ht := ht.below hb7
    replace hbxX := hb7.at (World.block_lt_of_cell? _ ⟨_, 0, none⟩ hbxX) hbxX
    replace oT := oT.below hb7
    replace oU := oU.below hb7
    replace oR := oR.below hb7
    replace oS := oS.below hb7
    go_wp2_with fail
    refine (sIsTautology_vv (by omega) hs hsum ht hA hG).mono ?_; rintro e w8 ⟨rfl, hb8⟩
    replace hv1 := hv1.bel hb8
    replace hB := hB.step hb8
    replace hs := hs.below hb8
    replace ht := ht.below hb8
    replace hbxX := hb8.at (World.block_lt_of_cell? _ ⟨_, 0, none⟩ hbxX) hbxX
    replace oT := oT.below hb8
    replace oU := oU.below hb8
    replace oR := oR.below hb8
    replace oS := oS.below hb8
    have hq1 : (g != g) = false := by simp
    have hq2 : (tau != tau) = false := by simp
    have HG := Lib.hid hG
    have HP := Lib.hid (And.intro hT (And.intro hR (And.intro hA hG)))
    clear hT hR hA hG
    go_wp2_with fail
    go_region_held3 (fun w' => w'.cell? ⟨gX, 0, none⟩ = some (.slice sXa ar.length sXc))
      (first | exact hbxX | exact hx1 | exact hx2 | exact hx3 | exact hx4 | fail)
      (first
        | (go_at_call 33; refine (sGoodClause_v HG.out (by omega) (hs.below hc3) hsum (ht.below hc3)).mono ?_; rintro e y4 ⟨rfl, hc4⟩; replace hc4 := hc3.step hc4; have hx4 := hc4.at (World.block_lt_of_cell? _ ⟨_, 0, none⟩ hbxX) hbxX)
        | (go_at_call 32; refine (iGoodClause_v HG.out (by omega) (hs.below hc2) hsum (ht.below hc2)).mono ?_; rintro e y3 ⟨rfl, hc3⟩; replace hc3 := hc2.step hc3; have hx3 := hc3.at (World.block_lt_of_cell? _ ⟨_, 0, none⟩ hbxX) hbxX)
        | (go_at_call 31; refine (sameLits_same _ _ _ _ _ _ r _ (shortC_of_sum hrl) (oR.below hc1) (oS.below hc1)).mono ?_; rintro e y2 ⟨rfl, hc2⟩; replace hc2 := hc1.step hc2; have hx2 := hc2.at (World.block_lt_of_cell? _ ⟨_, 0, none⟩ hbxX) hbxX)
        | (go_at_call 31; refine (sameLits_same _ _ _ _ _ _ t _ (shortC_of_sum htl) (oT.below (Bel.drew0 w8)) (oU.below (Bel.drew0 w8))).mono ?_; rintro e y1 ⟨rfl, hc1⟩; replace hc1 := (Bel.drew0 w8).step hc1; have hx1 := hc1.at (World.block_lt_of_cell? _ ⟨_, 0, none⟩ hbxX) hbxX)
        | fail)
    clear hx1 hx2 hx3 hx4 hc1 hc2 hc3 hq1 hq2 HG oU oS
    replace hv1 := hv1.bel hc4
    replace hB := hB.step hc4
    replace hs := hs.below hc4
    replace ht := ht.below hc4
    replace hbxX := hc4.at (World.block_lt_of_cell? _ ⟨_, 0, none⟩ hbxX) hbxX
    replace oT := oT.below hc4
    replace oR := oR.below hc4
    clear hc4
    cases g with
    | false =>
      clear HP
      go_wp2_with fail
      refine (drawWeightOf_c n1 _ _ (by omega) hv1).mono ?_; rintro e w9 ⟨sv2, tv2, ar2, d, rfl, hdr2, hs2, ht2, hfine2, hb9⟩
      replace hv1 := hv1.bel hb9
      replace hB := hB.step hb9
      replace hs := hs.below hb9
      replace ht := ht.below hb9
      replace hbxX := hb9.at (World.block_lt_of_cell? _ ⟨_, 0, none⟩ hbxX) hbxX
      replace oT := oT.below hb9
      replace oR := oR.below hb9
      have hal2 := drawn_len hdr2
      have hsum2 := Nat.le_trans hfine2.sum (show 100000 ≤ 1048576 by omega)
      obtain ⟨sYa, sYc, rfl⟩ := hs2.form
      obtain ⟨t2a, t2c, rfl⟩ := ht2.form
      clear hs ht hbxX oT oR hv1
      have hbAY := Bel.alloc0 w9 (.cells #[.slice sYa ar2.length sYc] 30)
      have hbxY : (w9.alloc (.cells #[.slice sYa ar2.length sYc] 30)).cell? ⟨w9.heap.size, 0, none⟩ = some (.slice sYa ar2.length sYc) := by rw [World.cell?_alloc_new w9]; rfl
      replace hB := hB.step hbAY
      replace hs2 := hs2.below hbAY
      replace ht2 := ht2.below hbAY
      generalize hgY : w9.heap.size = gY at *
      have hvl := varsInAns_len ar2 d
      generalize hV : varsInAns ar2 d = vs at hvl
      generalize hW : weightAns ar2 d = wt
      generalize hG2 : goodClause ar2 d = g2
      go_wp2_with fail
      refine (iWeightOf_vv (by omega) hs2 hsum2 ht2 hW hG2).mono ?_; rintro e w10 ⟨rfl, hb10⟩
      replace hB := hB.step hb10
      replace hs2 := hs2.below hb10
      replace ht2 := ht2.below hb10
      replace hbxY := hb10.at (World.block_lt_of_cell? _ ⟨_, 0, none⟩ hbxY) hbxY
      go_wp2_with fail
      refine (sWeightOf_vv (by omega) hs2 hsum2 ht2 hW hG2).mono ?_; rintro e w11 ⟨rfl, hb11⟩
      replace hB := hB.step hb11
      replace hs2 := hs2.below hb11
      replace ht2 := ht2.below hb11
      replace hbxY := hb11.at (World.block_lt_of_cell? _ ⟨_, 0, none⟩ hbxY) hbxY
      go_wp2_with fail
      refine (iVarsIn_vv (by omega) hs2 hsum2 ht2 hV hG2).mono ?_; rintro e w12 ⟨aV, mV, cV, rfl, oV, hb12⟩
      replace hB := hB.step hb12
      replace hs2 := hs2.below hb12
      replace ht2 := ht2.below hb12
      replace hbxY := hb12.at (World.block_lt_of_cell? _ ⟨_, 0, none⟩ hbxY) hbxY
      replace oV := oV.sl
      have eV := slI_n oV
      subst eV
      go_wp2_with fail
      refine (sVarsIn_vv (by omega) hs2 hsum2 ht2 hV hG2).mono ?_; rintro e w13 ⟨aZ, mZ, cZ, rfl, oZ, hb13⟩
      replace hB := hB.step hb13
      replace hs2 := hs2.below hb13
      replace ht2 := ht2.below hb13
      replace hbxY := hb13.at (World.block_lt_of_cell? _ ⟨_, 0, none⟩ hbxY) hbxY
      replace oV := oV.below hb13
      replace oZ := oZ.sl
      have eZ := slI_n oZ
      subst eZ
      have hp1 : (g2 == g2) = true := by simp
      have hp2 : (wt == wt) = true := by simp
      clear hV hW hG2
      go_wp2_with fail
      refine (sameInts_same _ _ _ _ _ _ vs _ hvl oV oZ).mono ?_; rintro e w14 ⟨rfl, hb14⟩
      replace hB := hB.step hb14
      replace hs2 := hs2.below hb14
      replace ht2 := ht2.below hb14
      replace hbxY := hb14.at (World.block_lt_of_cell? _ ⟨_, 0, none⟩ hbxY) hbxY
      replace oV := oV.below hb14
      replace oZ := oZ.below hb14
      go_wp2_with fail
      go_ret
      exact ⟨rfl, hB⟩
    | true =>
      obtain ⟨hT, hR, hA, hG⟩ := HP.out
      obtain ⟨hGt, hTt, hfacts⟩ := tidied_ok hG hT hR hA
      clear hT hR hA
      go_wp2_with fail
      refine (worldOf_c _ n1 _ _ _ _ ar _ (by omega) hdr hs hv1).mono ?_; rintro e w9 ⟨wv, Z, tb, rfl, hw, hw27, hwI, hwl, hZ1, hZ3, hb9⟩
      replace hv1 := hv1.bel hb9
      replace hB := hB.step hb9
      replace hs := hs.below hb9
      replace ht := ht.below hb9
      replace hbxX := hb9.at (World.block_lt_of_cell? _ ⟨_, 0, none⟩ hbxX) hbxX
      replace oT := oT.below hb9
      replace oR := oR.below hb9
      obtain ⟨wa, wc, rfl⟩ := hw.form
      have hshw : short tb := ⟨by omega, fun j _ => Nat.le_trans (hw27 j) (by omega)⟩
      clear hwl hw27
      have hbAW := Bel.alloc0 w9 (.cells #[.int .i64 Z, .slice wa tb.length wc] 58)
      have hbxW : (w9.alloc (.cells #[.int .i64 Z, .slice wa tb.length wc] 58)).cell? ⟨w9.heap.size, 0, none⟩ = some (.int .i64 Z) := by rw [World.cell?_alloc_new w9]; rfl
      have hbyW : (w9.alloc (.cells #[.int .i64 Z, .slice wa tb.length wc] 58)).cell? ⟨w9.heap.size, 1, none⟩ = some (.slice wa tb.length wc) := by rw [World.cell?_alloc_new w9]; rfl
      replace hv1 := hv1.bel hbAW
      replace hB := hB.step hbAW
      replace hs := hs.below hbAW
      replace ht := ht.below hbAW
      replace hbxX := hbAW.at (World.block_lt_of_cell? _ ⟨_, 0, none⟩ hbxX) hbxX
      replace oT := oT.below hbAW
      replace oR := oR.below hbAW
      replace hw := hw.below hbAW
      generalize hgW : w9.heap.size = gW at *
      go_wp2_with fail
      refine (envOf_c _ n1 _ _ Z _ _ tb _ (by omega) hZ1 hZ3 hw hv1).mono ?_; rintro e w10 ⟨ea, en, ec, env, rfl, hE, hEok, hb10⟩
      replace hv1 := hv1.bel hb10
      replace hB := hB.step hb10
      replace hs := hs.below hb10
      replace ht := ht.below hb10
      replace hbxX := hb10.at (World.block_lt_of_cell? _ ⟨_, 0, none⟩ hbxX) hbxX
      replace oT := oT.below hb10
      replace oR := oR.below hb10
      replace hw := hw.below hb10
      replace hbxW := hb10.at (World.block_lt_of_cell? _ ⟨_, 0, none⟩ hbxW) hbxW
      replace hbyW := hb10.at (World.block_lt_of_cell? _ ⟨_, 1, none⟩ hbyW) hbyW
      replace hE := hE.sl
      have eE := slI_n hE
      subst eE
      have hel : env.length ≤ 1048576 := by have := (okEnv_iff.1 hEok).1; omega
      obtain ⟨k1, k2, k3, k4, k5, k6⟩ := hfacts Z tb env hZ1 hZ3 hwI hEok
      clear hfacts
      generalize hH : holdsAns ar Z tb c env = ha at k3 k4
      generalize hF : falseOk ar Z tb c = fo at k5
      generalize hD : heldAns ar Z tb c = hd at k6
      go_wp2_with fail
      refine (iHoldsAt_vv (by omega) hs hshw hw hsum ht hel hE hH k1).mono ?_; rintro e w11 ⟨rfl, hb11⟩
      replace hv1 := hv1.bel hb11
      replace hB := hB.step hb11
      replace hs := hs.below hb11
      replace ht := ht.below hb11
      replace hbxX := hb11.at (World.block_lt_of_cell? _ ⟨_, 0, none⟩ hbxX) hbxX
      replace oT := oT.below hb11
      replace oR := oR.below hb11
      replace hw := hw.below hb11
      replace hbxW := hb11.at (World.block_lt_of_cell? _ ⟨_, 0, none⟩ hbxW) hbxW
      replace hE := hE.below hb11
      replace hbyW := hb11.at (World.block_lt_of_cell? _ ⟨_, 1, none⟩ hbyW) hbyW
      go_wp2_with fail
      refine (iHoldsAt_vv (by omega) hs hshw hw htl oT hel hE k3 k2).mono ?_; rintro e w12 ⟨rfl, hb12⟩
      replace hv1 := hv1.bel hb12
      replace hB := hB.step hb12
      replace hs := hs.below hb12
      replace ht := ht.below hb12
      replace hbxX := hb12.at (World.block_lt_of_cell? _ ⟨_, 0, none⟩ hbxX) hbxX
      replace oT := oT.below hb12
      replace oR := oR.below hb12
      replace hw := hw.below hb12
      replace hbxW := hb12.at (World.block_lt_of_cell? _ ⟨_, 0, none⟩ hbxW) hbxW
      replace hE := hE.below hb12
      replace hbyW := hb12.at (World.block_lt_of_cell? _ ⟨_, 1, none⟩ hbyW) hbyW
      go_wp2_with fail
      refine (iHoldsIn_vv (by omega) hs hshw hw hsum ht hD hF).mono ?_; rintro e w13 ⟨rfl, hb13⟩
      replace hv1 := hv1.bel hb13
      replace hB := hB.step hb13
      replace hs := hs.below hb13
      replace ht := ht.below hb13
      replace hbxX := hb13.at (World.block_lt_of_cell? _ ⟨_, 0, none⟩ hbxX) hbxX
      replace oT := oT.below hb13
      replace oR := oR.below hb13
      replace hw := hw.below hb13
      replace hbxW := hb13.at (World.block_lt_of_cell? _ ⟨_, 0, none⟩ hbxW) hbxW
      replace hE := hE.below hb13
      replace hbyW := hb13.at (World.block_lt_of_cell? _ ⟨_, 1, none⟩ hbyW) hbyW
      go_wp2_with fail
      refine (iHoldsIn_vv (by omega) hs hshw hw hrl oR k6 k5).mono ?_; rintro e w14 ⟨rfl, hb14⟩
      replace hv1 := hv1.bel hb14
      replace hB := hB.step hb14
      replace hs := hs.below hb14
      replace ht := ht.below hb14
      replace hbxX := hb14.at (World.block_lt_of_cell? _ ⟨_, 0, none⟩ hbxX) hbxX
      replace oT := oT.below hb14
      replace oR := oR.below hb14
      replace hw := hw.below hb14
      replace hbxW := hb14.at (World.block_lt_of_cell? _ ⟨_, 0, none⟩ hbxW) hbxW
      replace hE := hE.below hb14
      replace hbyW := hb14.at (World.block_lt_of_cell? _ ⟨_, 1, none⟩ hbyW) hbyW
      go_wp2_with fail
      refine (iTidyClause_vv (by omega) hs htl oT hTt hGt).mono ?_; rintro e w15 ⟨aM, mM, cM, rfl, oM, hb15⟩
      replace hv1 := hv1.bel hb15
      replace hB := hB.step hb15
      replace hs := hs.below hb15
      replace ht := ht.below hb15
      replace hbxX := hb15.at (World.block_lt_of_cell? _ ⟨_, 0, none⟩ hbxX) hbxX
      replace oT := oT.below hb15
      replace oR := oR.below hb15
      replace hw := hw.below hb15
      replace hbxW := hb15.at (World.block_lt_of_cell? _ ⟨_, 0, none⟩ hbxW) hbxW
      replace hE := hE.below hb15
      replace hbyW := hb15.at (World.block_lt_of_cell? _ ⟨_, 1, none⟩ hbyW) hbyW
      replace oM := oM.sl
      have eM := slC_n oM
      subst eM
      have hq1 : (ha != ha) = false := by simp
      have hq2 : (fo != fo) = false := by simp
      have hq3 : (hd != hd) = false := by simp
      clear hH hF hD k1 k2 k3 k5 k6 hTt hGt hG HP
      cases tau with
      | false =>
        cases ha with
        | false =>
          go_wp2_with fail
          refine (sameLits_same _ _ _ _ _ _ t _ (shortC_of_sum htl) oM oT).mono ?_; rintro e w16 ⟨rfl, hb16⟩
          replace hv1 := hv1.bel hb16
          replace hB := hB.step hb16
          replace hs := hs.below hb16
          replace ht := ht.below hb16
          replace hbxX := hb16.at (World.block_lt_of_cell? _ ⟨_, 0, none⟩ hbxX) hbxX
          replace oT := oT.below hb16
          replace oR := oR.below hb16
          replace hw := hw.below hb16
          replace hbxW := hb16.at (World.block_lt_of_cell? _ ⟨_, 0, none⟩ hbxW) hbxW
          replace hE := hE.below hb16
          replace oM := oM.below hb16
          replace hbyW := hb16.at (World.block_lt_of_cell? _ ⟨_, 1, none⟩ hbyW) hbyW
          clear hw hbxW hbyW hE oM k4
          go_wp2_with fail
          refine (drawWeightOf_c n1 _ _ (by omega) hv1).mono ?_; rintro e w17 ⟨sv2, tv2, ar2, d, rfl, hdr2, hs2, ht2, hfine2, hb17⟩
          replace hv1 := hv1.bel hb17
          replace hB := hB.step hb17
          replace hs := hs.below hb17
          replace ht := ht.below hb17
          replace hbxX := hb17.at (World.block_lt_of_cell? _ ⟨_, 0, none⟩ hbxX) hbxX
          replace oT := oT.below hb17
          replace oR := oR.below hb17
          have hal2 := drawn_len hdr2
          have hsum2 := Nat.le_trans hfine2.sum (show 100000 ≤ 1048576 by omega)
          obtain ⟨sYa, sYc, rfl⟩ := hs2.form
          obtain ⟨t2a, t2c, rfl⟩ := ht2.form
          clear hs ht hbxX oT oR hv1
          have hbAY := Bel.alloc0 w17 (.cells #[.slice sYa ar2.length sYc] 30)
          have hbxY : (w17.alloc (.cells #[.slice sYa ar2.length sYc] 30)).cell? ⟨w17.heap.size, 0, none⟩ = some (.slice sYa ar2.length sYc) := by rw [World.cell?_alloc_new w17]; rfl
          replace hB := hB.step hbAY
          replace hs2 := hs2.below hbAY
          replace ht2 := ht2.below hbAY
          generalize hgY : w17.heap.size = gY at *
          have hvl := varsInAns_len ar2 d
          generalize hV : varsInAns ar2 d = vs at hvl
          generalize hW : weightAns ar2 d = wt
          generalize hG2 : goodClause ar2 d = g2
          go_wp2_with fail
          refine (iWeightOf_vv (by omega) hs2 hsum2 ht2 hW hG2).mono ?_; rintro e w18 ⟨rfl, hb18⟩
          replace hB := hB.step hb18
          replace hs2 := hs2.below hb18
          replace ht2 := ht2.below hb18
          replace hbxY := hb18.at (World.block_lt_of_cell? _ ⟨_, 0, none⟩ hbxY) hbxY
          go_wp2_with fail
          refine (sWeightOf_vv (by omega) hs2 hsum2 ht2 hW hG2).mono ?_; rintro e w19 ⟨rfl, hb19⟩
          replace hB := hB.step hb19
          replace hs2 := hs2.below hb19
          replace ht2 := ht2.below hb19
          replace hbxY := hb19.at (World.block_lt_of_cell? _ ⟨_, 0, none⟩ hbxY) hbxY
          go_wp2_with fail
          refine (iVarsIn_vv (by omega) hs2 hsum2 ht2 hV hG2).mono ?_; rintro e w20 ⟨aV, mV, cV, rfl, oV, hb20⟩
          replace hB := hB.step hb20
          replace hs2 := hs2.below hb20
          replace ht2 := ht2.below hb20
          replace hbxY := hb20.at (World.block_lt_of_cell? _ ⟨_, 0, none⟩ hbxY) hbxY
          replace oV := oV.sl
          have eV := slI_n oV
          subst eV
          go_wp2_with fail
          refine (sVarsIn_vv (by omega) hs2 hsum2 ht2 hV hG2).mono ?_; rintro e w21 ⟨aZ, mZ, cZ, rfl, oZ, hb21⟩
          replace hB := hB.step hb21
          replace hs2 := hs2.below hb21
          replace ht2 := ht2.below hb21
          replace hbxY := hb21.at (World.block_lt_of_cell? _ ⟨_, 0, none⟩ hbxY) hbxY
          replace oV := oV.below hb21
          replace oZ := oZ.sl
          have eZ := slI_n oZ
          subst eZ
          have hp1 : (g2 == g2) = true := by simp
          have hp2 : (wt == wt) = true := by simp
          clear hV hW hG2
          go_wp2_with fail
          refine (sameInts_same _ _ _ _ _ _ vs _ hvl oV oZ).mono ?_; rintro e w22 ⟨rfl, hb22⟩
          replace hB := hB.step hb22
          replace hs2 := hs2.below hb22
          replace ht2 := ht2.below hb22
          replace hbxY := hb22.at (World.block_lt_of_cell? _ ⟨_, 0, none⟩ hbxY) hbxY
          replace oV := oV.below hb22
          replace oZ := oZ.below hb22
          go_wp2_with fail
          go_ret
          exact ⟨rfl, hB⟩
        | true =>
          go_wp2_with fail
          refine (sameLits_same _ _ _ _ _ _ t _ (shortC_of_sum htl) oM oT).mono ?_; rintro e w16 ⟨rfl, hb16⟩
          replace hv1 := hv1.bel hb16
          replace hB := hB.step hb16
          replace hs := hs.below hb16
          replace ht := ht.below hb16
          replace hbxX := hb16.at (World.block_lt_of_cell? _ ⟨_, 0, none⟩ hbxX) hbxX
          replace oT := oT.below hb16
          replace oR := oR.below hb16
          replace hw := hw.below hb16
          replace hbxW := hb16.at (World.block_lt_of_cell? _ ⟨_, 0, none⟩ hbxW) hbxW
          replace hE := hE.below hb16
          replace oM := oM.below hb16
          replace hbyW := hb16.at (World.block_lt_of_cell? _ ⟨_, 1, none⟩ hbyW) hbyW
          clear hw hbxW hbyW hE oM k4
          go_wp2_with fail
          refine (drawWeightOf_c n1 _ _ (by omega) hv1).mono ?_; rintro e w17 ⟨sv2, tv2, ar2, d, rfl, hdr2, hs2, ht2, hfine2, hb17⟩
          replace hv1 := hv1.bel hb17
          replace hB := hB.step hb17
          replace hs := hs.below hb17
          replace ht := ht.below hb17
          replace hbxX := hb17.at (World.block_lt_of_cell? _ ⟨_, 0, none⟩ hbxX) hbxX
          replace oT := oT.below hb17
          replace oR := oR.below hb17
          have hal2 := drawn_len hdr2
          have hsum2 := Nat.le_trans hfine2.sum (show 100000 ≤ 1048576 by omega)
          obtain ⟨sYa, sYc, rfl⟩ := hs2.form
          obtain ⟨t2a, t2c, rfl⟩ := ht2.form
          clear hs ht hbxX oT oR hv1
          have hbAY := Bel.alloc0 w17 (.cells #[.slice sYa ar2.length sYc] 30)
          have hbxY : (w17.alloc (.cells #[.slice sYa ar2.length sYc] 30)).cell? ⟨w17.heap.size, 0, none⟩ = some (.slice sYa ar2.length sYc) := by rw [World.cell?_alloc_new w17]; rfl
          replace hB := hB.step hbAY
          replace hs2 := hs2.below hbAY
          replace ht2 := ht2.below hbAY
          generalize hgY : w17.heap.size = gY at *
          have hvl := varsInAns_len ar2 d
          generalize hV : varsInAns ar2 d = vs at hvl
          generalize hW : weightAns ar2 d = wt
          generalize hG2 : goodClause ar2 d = g2
          go_wp2_with fail
          refine (iWeightOf_vv (by omega) hs2 hsum2 ht2 hW hG2).mono ?_; rintro e w18 ⟨rfl, hb18⟩
          replace hB := hB.step hb18
          replace hs2 := hs2.below hb18
          replace ht2 := ht2.below hb18
          replace hbxY := hb18.at (World.block_lt_of_cell? _ ⟨_, 0, none⟩ hbxY) hbxY
          go_wp2_with fail
          refine (sWeightOf_vv (by omega) hs2 hsum2 ht2 hW hG2).mono ?_; rintro e w19 ⟨rfl, hb19⟩
          replace hB := hB.step hb19
          replace hs2 := hs2.below hb19
          replace ht2 := ht2.below hb19
          replace hbxY := hb19.at (World.block_lt_of_cell? _ ⟨_, 0, none⟩ hbxY) hbxY
          go_wp2_with fail
          refine (iVarsIn_vv (by omega) hs2 hsum2 ht2 hV hG2).mono ?_; rintro e w20 ⟨aV, mV, cV, rfl, oV, hb20⟩
          replace hB := hB.step hb20
          replace hs2 := hs2.below hb20
          replace ht2 := ht2.below hb20
          replace hbxY := hb20.at (World.block_lt_of_cell? _ ⟨_, 0, none⟩ hbxY) hbxY
          replace oV := oV.sl
          have eV := slI_n oV
          subst eV
          go_wp2_with fail
          refine (sVarsIn_vv (by omega) hs2 hsum2 ht2 hV hG2).mono ?_; rintro e w21 ⟨aZ, mZ, cZ, rfl, oZ, hb21⟩
          replace hB := hB.step hb21
          replace hs2 := hs2.below hb21
          replace ht2 := ht2.below hb21
          replace hbxY := hb21.at (World.block_lt_of_cell? _ ⟨_, 0, none⟩ hbxY) hbxY
          replace oV := oV.below hb21
          replace oZ := oZ.sl
          have eZ := slI_n oZ
          subst eZ
          have hp1 : (g2 == g2) = true := by simp
          have hp2 : (wt == wt) = true := by simp
          clear hV hW hG2
          go_wp2_with fail
          refine (sameInts_same _ _ _ _ _ _ vs _ hvl oV oZ).mono ?_; rintro e w22 ⟨rfl, hb22⟩
          replace hB := hB.step hb22
          replace hs2 := hs2.below hb22
          replace ht2 := ht2.below hb22
          replace hbxY := hb22.at (World.block_lt_of_cell? _ ⟨_, 0, none⟩ hbxY) hbxY
          replace oV := oV.below hb22
          replace oZ := oZ.below hb22
          go_wp2_with fail
          go_ret
          exact ⟨rfl, hB⟩
      | true =>
        cases ha with
        | false => simp at k4
        | true =>
          go_wp2_with fail
          refine (sameLits_same _ _ _ _ _ _ t _ (shortC_of_sum htl) oM oT).mono ?_; rintro e w16 ⟨rfl, hb16⟩
          replace hv1 := hv1.bel hb16
          replace hB := hB.step hb16
          replace hs := hs.below hb16
          replace ht := ht.below hb16
          replace hbxX := hb16.at (World.block_lt_of_cell? _ ⟨_, 0, none⟩ hbxX) hbxX
          replace oT := oT.below hb16
          replace oR := oR.below hb16
          replace hw := hw.below hb16
          replace hbxW := hb16.at (World.block_lt_of_cell? _ ⟨_, 0, none⟩ hbxW) hbxW
          replace hE := hE.below hb16
          replace oM := oM.below hb16
          replace hbyW := hb16.at (World.block_lt_of_cell? _ ⟨_, 1, none⟩ hbyW) hbyW
          clear hw hbxW hbyW hE oM k4
          go_wp2_with fail
          refine (drawWeightOf_c n1 _ _ (by omega) hv1).mono ?_; rintro e w17 ⟨sv2, tv2, ar2, d, rfl, hdr2, hs2, ht2, hfine2, hb17⟩
          replace hv1 := hv1.bel hb17
          replace hB := hB.step hb17
          replace hs := hs.below hb17
          replace ht := ht.below hb17
          replace hbxX := hb17.at (World.block_lt_of_cell? _ ⟨_, 0, none⟩ hbxX) hbxX
          replace oT := oT.below hb17
          replace oR := oR.below hb17
          have hal2 := drawn_len hdr2
          have hsum2 := Nat.le_trans hfine2.sum (show 100000 ≤ 1048576 by omega)
          obtain ⟨sYa, sYc, rfl⟩ := hs2.form
          obtain ⟨t2a, t2c, rfl⟩ := ht2.form
          clear hs ht hbxX oT oR hv1
          have hbAY := Bel.alloc0 w17 (.cells #[.slice sYa ar2.length sYc] 30)
          have hbxY : (w17.alloc (.cells #[.slice sYa ar2.length sYc] 30)).cell? ⟨w17.heap.size, 0, none⟩ = some (.slice sYa ar2.length sYc) := by rw [World.cell?_alloc_new w17]; rfl
          replace hB := hB.step hbAY
          replace hs2 := hs2.below hbAY
          replace ht2 := ht2.below hbAY
          generalize hgY : w17.heap.size = gY at *
          have hvl := varsInAns_len ar2 d
          generalize hV : varsInAns ar2 d = vs at hvl
          generalize hW : weightAns ar2 d = wt
          generalize hG2 : goodClause ar2 d = g2
          go_wp2_with fail
          refine (iWeightOf_vv (by omega) hs2 hsum2 ht2 hW hG2).mono ?_; rintro e w18 ⟨rfl, hb18⟩
          replace hB := hB.step hb18
          replace hs2 := hs2.below hb18
          replace ht2 := ht2.below hb18
          replace hbxY := hb18.at (World.block_lt_of_cell? _ ⟨_, 0, none⟩ hbxY) hbxY
          go_wp2_with fail
          refine (sWeightOf_vv (by omega) hs2 hsum2 ht2 hW hG2).mono ?_; rintro e w19 ⟨rfl, hb19⟩
          replace hB := hB.step hb19
          replace hs2 := hs2.below hb19
          replace ht2 := ht2.below hb19
          replace hbxY := hb19.at (World.block_lt_of_cell? _ ⟨_, 0, none⟩ hbxY) hbxY
          go_wp2_with fail
          refine (iVarsIn_vv (by omega) hs2 hsum2 ht2 hV hG2).mono ?_; rintro e w20 ⟨aV, mV, cV, rfl, oV, hb20⟩
          replace hB := hB.step hb20
          replace hs2 := hs2.below hb20
          replace ht2 := ht2.below hb20
          replace hbxY := hb20.at (World.block_lt_of_cell? _ ⟨_, 0, none⟩ hbxY) hbxY
          replace oV := oV.sl
          have eV := slI_n oV
          subst eV
          go_wp2_with fail
          refine (sVarsIn_vv (by omega) hs2 hsum2 ht2 hV hG2).mono ?_; rintro e w21 ⟨aZ, mZ, cZ, rfl, oZ, hb21⟩
          replace hB := hB.step hb21
          replace hs2 := hs2.below hb21
          replace ht2 := ht2.below hb21
          replace hbxY := hb21.at (World.block_lt_of_cell? _ ⟨_, 0, none⟩ hbxY) hbxY
          replace oV := oV.below hb21
          replace oZ := oZ.sl
          have eZ := slI_n oZ
          subst eZ
          have hp1 : (g2 == g2) = true := by simp
          have hp2 : (wt == wt) = true := by simp
          clear hV hW hG2
          go_wp2_with fail
          refine (sameInts_same _ _ _ _ _ _ vs _ hvl oV oZ).mono ?_; rintro e w22 ⟨rfl, hb22⟩
          replace hB := hB.step hb22
          replace hs2 := hs2.below hb22
          replace ht2 := ht2.below hb22
          replace hbxY := hb22.at (World.block_lt_of_cell? _ ⟨_, 0, none⟩ hbxY) hbxY
          replace oV := oV.below hb22
          replace oZ := oZ.below hb22
          go_wp2_with fail
          go_ret
          exact ⟨rfl, hB⟩
  · go_enter Try.func5, Try.ntmps5
    go_wp2_with fail
    refine (big_yes n0 n1 _ _ _ _ _ hn0 hbig).mono ?_; rintro e w1 ⟨rfl, hb1⟩
    go_wp2_with fail
    go_ret
    exact ⟨rfl, hb1⟩
end Go.Proofs.Yteegjnobmbcjiaa
