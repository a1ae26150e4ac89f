/- FnReplaced: the law's walk. -/
import Derived.Test.YtajmjjandkdhiabMgReplaced11
import Derived.Deep.RegionHeld3
namespace Go.Proofs.Ytajmjjandkdhiab
open Go.RowKit

set_option maxRecDepth 100000 in
set_option maxHeartbeats 4000000 in
theorem lawReplaced (w : World) (v0 : Value) (n0 : Nat) (hn0 : n0 ≤ 9223372036854775807) (hv0 : SlB w.heap.size w v0 n0) (v1 : Value) (n1 : Nat) (hn1 : n1 ≤ 9223372036854775807) (hv1 : SlB w.heap.size w v1 n1) :
    Calls Try.prog 4 #[v0, v1] w (RetV w (.bool true)) := by
  obtain ⟨ca, cc, rfl⟩ := hv0.form
  obtain ⟨ma, mc, rfl⟩ := hv1.form
  by_cases hbig : n0 ≤ 1048576 ∧ n0 + n1 ≤ 1048576
  · go_enter Try.func4, Try.ntmps4
    have hB := Bel.rfl' w
    go_wp2_with fail
    refine (big_no n0 n1 _ _ _ _ _ hbig.1 hbig.2).mono ?_; rintro e w1 ⟨rfl, hb1⟩
    replace hv0 := hv0.bel hb1
    replace hv1 := hv1.bel hb1
    replace hB := hB.step hb1
    go_wp2_with fail
    refine (drawReplaceAt_c n0 _ _ hbig.1 hv0).mono ?_; rintro e w2 ⟨sv, tv, uv, ar, t, u, z, rfl, hdr, hs, ht, htl, hz1, hz2, hu, hul, hb2⟩
    replace hv0 := hv0.bel hb2
    replace hv1 := hv1.bel hb2
    replace hB := hB.step hb2
    clear hv0
    have hal := drawn_len hdr
    obtain ⟨sa, sc, rfl⟩ := hs.form
    obtain ⟨ta, tc, rfl⟩ := ht.form
    obtain ⟨ua, uc, rfl⟩ := hu.form
    have hbA := Bel.alloc0 w2 (.cells #[.slice sa ar.length sc] 28)
    have hbx : (w2.alloc (.cells #[.slice sa ar.length sc] 28)).cell? ⟨w2.heap.size, 0, none⟩ = some (.slice sa ar.length sc) := by rw [World.cell?_alloc_new w2]; rfl
    replace hv1 := hv1.bel hbA
    replace hB := hB.step hbA
    replace hs := hs.below hbA
    replace ht := ht.below hbA
    replace hu := hu.below hbA
    generalize hgx : w2.heap.size = gx at *
    generalize hRk : replOk ar t z u = rk
    generalize hRa : replAns ar t z u = ra
    generalize hQa : askOk ar t z = qa
    generalize hPa : partAns ar t z = pa
    generalize hEn : endN ar t z = ze
    generalize hAa : argsAns ar t z = aa
    generalize hGt : goodTerm ar t = gt
    generalize hGs : goodSign ar = gs
    have hral : ra.length ≤ 1048576 := by rw [← hRa]; exact replAns_len ar t z u
    have hpal : pa.length ≤ 1048576 := by rw [← hPa]; exact partAns_len ar t z
    have haal : aa.length ≤ 1048576 := by rw [← hAa]; exact argsAns_len ar t z
    go_wp2_with fail
    refine (iReplaceAt_v (by omega) hs (by omega) ht (by omega) (by omega) (by omega) hu hRa hRk).mono ?_; rintro e w3 ⟨aR, mR, cR, rfl, oR, hb3⟩
    replace hv1 := hv1.bel hb3
    replace hB := hB.step hb3
    replace hs := hs.below hb3
    replace ht := ht.below hb3
    replace hu := hu.below hb3
    replace hbx := hb3.at (World.block_lt_of_cell? _ ⟨_, 0, none⟩ hbx) hbx
    replace oR := oR.sl
    have eR := slI_n oR
    subst eR
    go_wp2_with fail
    refine (sReplaceAt_v (by omega) hs (by omega) ht (by omega) (by omega) (by omega) hu hRa hRk).mono ?_; rintro e w4 ⟨aS, mS, cS, rfl, oS, hb4⟩
    replace hv1 := hv1.bel hb4
    replace hB := hB.step hb4
    replace hs := hs.below hb4
    replace ht := ht.below hb4
    replace hu := hu.below hb4
    replace hbx := hb4.at (World.block_lt_of_cell? _ ⟨_, 0, none⟩ hbx) hbx
    replace oR := oR.below hb4
    replace oS := oS.sl
    have eS := slI_n oS
    subst eS
    go_wp2_with fail
    refine (iPartAt_v (by omega) hs (by omega) ht (by omega) (by omega) hPa hQa).mono ?_; rintro e w5 ⟨aP, mP, cP, rfl, oP, hb5⟩
    replace hv1 := hv1.bel hb5
    replace hB := hB.step hb5
    replace hs := hs.below hb5
    replace ht := ht.below hb5
    replace hu := hu.below hb5
    replace hbx := hb5.at (World.block_lt_of_cell? _ ⟨_, 0, none⟩ hbx) hbx
    replace oR := oR.below hb5
    replace oS := oS.below hb5
    replace oP := oP.sl
    have eP := slI_n oP
    subst eP
    go_wp2_with fail
    refine (sPartAt_v (by omega) hs (by omega) ht (by omega) (by omega) hPa hQa).mono ?_; rintro e w6 ⟨aQ, mQ, cQ, rfl, oQ, hb6⟩
    replace hv1 := hv1.bel hb6
    replace hB := hB.step hb6
    replace hs := hs.below hb6
    replace ht := ht.below hb6
    replace hu := hu.below hb6
    replace hbx := hb6.at (World.block_lt_of_cell? _ ⟨_, 0, none⟩ hbx) hbx
    replace oR := oR.below hb6
    replace oS := oS.below hb6
    replace oP := oP.below hb6
    replace oQ := oQ.sl
    have eQ := slI_n oQ
    subst eQ
    go_wp2_with fail
    refine (iEndOf_vv (by omega) hs (by omega) ht (by omega) (by omega) hEn hQa).mono ?_; rintro e w7 ⟨rfl, hb7⟩
    replace hv1 := hv1.bel hb7
    replace hB := hB.step hb7
    replace hs := hs.below hb7
    replace ht := ht.below hb7
    replace hu := hu.below hb7
    replace hbx := hb7.at (World.block_lt_of_cell? _ ⟨_, 0, none⟩ hbx) hbx
    replace oR := oR.below hb7
    replace oS := oS.below hb7
    replace oP := oP.below hb7
    replace oQ := oQ.below hb7
    go_wp2_with fail
    refine (sEndOf_vv (by omega) hs (by omega) ht (by omega) (by omega) hEn hQa).mono ?_; rintro e w8 ⟨rfl, hb8⟩
    replace hv1 := hv1.bel hb8
    replace hB := hB.step hb8
    replace hs := hs.below hb8
    replace ht := ht.below hb8
    replace hu := hu.below hb8
    replace hbx := hb8.at (World.block_lt_of_cell? _ ⟨_, 0, none⟩ hbx) hbx
    replace oR := oR.below hb8
    replace oS := oS.below hb8
    replace oP := oP.below hb8
    replace oQ := oQ.below hb8
    go_wp2_with fail
    refine (iArgsAt_v (by omega) hs (by omega) ht (by omega) (by omega) hAa hQa).mono ?_; rintro e w9 ⟨aA, mA, cA, rfl, oA, hb9⟩
    replace hv1 := hv1.bel hb9
    replace hB := hB.step hb9
    replace hs := hs.below hb9
    replace ht := ht.below hb9
    replace hu := hu.below hb9
    replace hbx := hb9.at (World.block_lt_of_cell? _ ⟨_, 0, none⟩ hbx) hbx
    replace oR := oR.below hb9
    replace oS := oS.below hb9
    replace oP := oP.below hb9
    replace oQ := oQ.below hb9
    replace oA := oA.sl
    have eA := slI_n oA
    subst eA
    go_wp2_with fail
    refine (sArgsAt_v (by omega) hs (by omega) ht (by omega) (by omega) hAa hQa).mono ?_; rintro e w10 ⟨aB, mB, cB, rfl, oB, hb10⟩
    replace hv1 := hv1.bel hb10
    replace hB := hB.step hb10
    replace hs := hs.below hb10
    replace ht := ht.below hb10
    replace hu := hu.below hb10
    replace hbx := hb10.at (World.block_lt_of_cell? _ ⟨_, 0, none⟩ hbx) hbx
    replace oR := oR.below hb10
    replace oS := oS.below hb10
    replace oP := oP.below hb10
    replace oQ := oQ.below hb10
    replace oA := oA.below hb10
    replace oB := oB.sl
    have eB := slI_n oB
    subst eB
    have HQ := Lib.hid (And.intro hRk (And.intro hRa (And.intro hQa (And.intro hPa (And.intro hEn (And.intro hGt hGs))))))
    have hq1 : (rk != rk) = false := by simp
    have hq2 : (qa != qa) = false := by simp
    have hq3 : (ze != ze) = false := by simp
    have hq4 : (gt != gt) = false := by simp
    have hq5 : (gs != gs) = false := by simp
    have HGt := Lib.hid hGt
    have HGs := Lib.hid hGs
    clear hRk hRa hQa hPa hEn hAa hGt hGs
    go_wp2_with fail
    go_region_held3 (fun w' => w'.cell? ⟨gx, 0, none⟩ = some (.slice sa ar.length sc))
      (first | exact hbx | exact hx1 | exact hx2 | exact hx3 | exact hx4 | exact hx5 | exact hx6 | exact hx7 | fail)
      (first
        | (go_at_call 25; refine (sameTerm_same _ _ _ _ _ _ ra _ hral (oR.below (Bel.drew0 _)) (oS.below (Bel.drew0 _))).mono ?_; rintro e y1 ⟨rfl, hc1⟩; replace hc1 := (Bel.drew0 w10).step hc1; have hx1 := hc1.at (World.block_lt_of_cell? _ ⟨_, 0, none⟩ hbx) hbx)
        | (go_at_call 25; refine (sameTerm_same _ _ _ _ _ _ pa _ hpal (oP.below hc1) (oQ.below hc1)).mono ?_; rintro e y2 ⟨rfl, hc2⟩; replace hc2 := hc1.step hc2; have hx2 := hc2.at (World.block_lt_of_cell? _ ⟨_, 0, none⟩ hbx) hbx)
        | (go_at_call 26; refine (sameInts_same _ _ _ _ _ _ aa _ haal (oA.below hc2) (oB.below hc2)).mono ?_; rintro e y3 ⟨rfl, hc3⟩; replace hc3 := hc2.step hc3; have hx3 := hc3.at (World.block_lt_of_cell? _ ⟨_, 0, none⟩ hbx) hbx)
        | (go_at_call 27; refine (iGoodTerm_v _ _ _ _ _ _ ar t gt _ HGt.out (by omega) (by omega) (hs.below hc3) (ht.below hc3)).mono ?_; rintro e y4 ⟨rfl, hc4⟩; replace hc4 := hc3.step hc4; have hx4 := hc4.at (World.block_lt_of_cell? _ ⟨_, 0, none⟩ hbx) hbx)
        | (go_at_call 28; refine (sGoodTerm_v _ _ _ _ _ _ ar t gt _ HGt.out (by omega) (by omega) (hs.below hc4) (ht.below hc4)).mono ?_; rintro e y5 ⟨rfl, hc5⟩; replace hc5 := hc4.step hc5; have hx5 := hc5.at (World.block_lt_of_cell? _ ⟨_, 0, none⟩ hbx) hbx)
        | (go_at_call 29; refine (iGoodSign_v _ _ _ ar gs _ HGs.out (by omega) (hs.below hc5)).mono ?_; rintro e y6 ⟨rfl, hc6⟩; replace hc6 := hc5.step hc6; have hx6 := hc6.at (World.block_lt_of_cell? _ ⟨_, 0, none⟩ hbx) hbx)
        | (go_at_call 30; refine (sGoodSign_v _ _ _ ar gs _ HGs.out (by omega) (hs.below hc6)).mono ?_; rintro e y7 ⟨rfl, hc7⟩; replace hc7 := hc6.step hc7; have hx7 := hc7.at (World.block_lt_of_cell? _ ⟨_, 0, none⟩ hbx) hbx)
        | fail)
    clear hx1 hx2 hx3 hx4 hx5 hx6 hx7 hc1 hc2 hc3 hc4 hc5 hc6 hq1 hq2 hq3 hq4 hq5 HGt HGs
    replace hv1 := hv1.bel hc7
    replace hB := hB.step hc7
    replace hs := hs.below hc7
    replace ht := ht.below hc7
    replace hu := hu.below hc7
    replace hbx := hc7.at (World.block_lt_of_cell? _ ⟨_, 0, none⟩ hbx) hbx
    replace oR := oR.below hc7
    replace oS := oS.below hc7
    replace oP := oP.below hc7
    replace oQ := oQ.below hc7
    replace oA := oA.below hc7
    replace oB := oB.below hc7
    clear hc7
    obtain ⟨hRk, hRa, hQa, hPa, hEn, hGt, hGs⟩ := HQ.out
    have hHR := Lib.hid hRa
    clear hGt hGs
    cases qa with
    | true =>
      have hp := repl_part hQa
      rw [hPa, hEn] at hp
      obtain ⟨p1, p2, p3, p4, p5⟩ := hp
      go_wp2_with fail
      refine (iReplaceAt_v (by omega) hs (by omega)  ht (by omega) (by omega) (by omega) oP p2 p1).mono ?_; rintro e w11 ⟨aT, mT, cT, rfl, oT, hb11⟩
      replace hv1 := hv1.bel hb11
      replace hB := hB.step hb11
      replace hs := hs.below hb11
      replace ht := ht.below hb11
      replace hu := hu.below hb11
      replace hbx := hb11.at (World.block_lt_of_cell? _ ⟨_, 0, none⟩ hbx) hbx
      replace oR := oR.below hb11
      replace oS := oS.below hb11
      replace oP := oP.below hb11
      replace oQ := oQ.below hb11
      replace oA := oA.below hb11
      replace oB := oB.below hb11
      replace oT := oT.sl
      have eT := slI_n oT
      subst eT
      have hwa := IntWalk.i64_in (z + pa.length) (by omega)
      have hne : (ze != z + (pa.length : Int)) = false := by rw [p3]; simp
      go_wp2_with fail
      refine (sameTerm_same _ _ _ _ _ _ t _ (by omega) oT ht).mono ?_; rintro e w12 ⟨rfl, hb12⟩
      replace hv1 := hv1.bel hb12
      replace hB := hB.step hb12
      replace hs := hs.below hb12
      replace ht := ht.below hb12
      replace hu := hu.below hb12
      replace hbx := hb12.at (World.block_lt_of_cell? _ ⟨_, 0, none⟩ hbx) hbx
      replace oR := oR.below hb12
      replace oS := oS.below hb12
      replace oP := oP.below hb12
      replace oQ := oQ.below hb12
      replace oA := oA.below hb12
      replace oB := oB.below hb12
      replace oT := oT.below hb12
      go_wp2_with fail
      refine (iGoodTerm_v _ _ _ _ _ _ ar pa true _ p4 (by omega) (by omega) hs oP).mono ?_; rintro e w13 ⟨rfl, hb13⟩
      replace hv1 := hv1.bel hb13
      replace hB := hB.step hb13
      replace hs := hs.below hb13
      replace ht := ht.below hb13
      replace hu := hu.below hb13
      replace hbx := hb13.at (World.block_lt_of_cell? _ ⟨_, 0, none⟩ hbx) hbx
      replace oR := oR.below hb13
      replace oS := oS.below hb13
      replace oP := oP.below hb13
      replace oQ := oQ.below hb13
      replace oA := oA.below hb13
      replace oB := oB.below hb13
      replace oT := oT.below hb13
      clear hwa hne oT p1 p2 p3 p4
      cases rk with
      | true =>
        have hq := part_repl hRk
        rw [hHR.out, hPa] at hq
        obtain ⟨q1, q2, q3⟩ := hq
        go_wp2_with fail
        refine (iPartAt_v (by omega) hs (by omega) oR (by omega) (by omega) q2 q1).mono ?_; rintro e w14 ⟨aU, mU, cU, rfl, oU, hb14⟩
        replace hv1 := hv1.bel hb14
        replace hB := hB.step hb14
        replace hs := hs.below hb14
        replace ht := ht.below hb14
        replace hu := hu.below hb14
        replace hbx := hb14.at (World.block_lt_of_cell? _ ⟨_, 0, none⟩ hbx) hbx
        replace oR := oR.below hb14
        replace oS := oS.below hb14
        replace oP := oP.below hb14
        replace oQ := oQ.below hb14
        replace oA := oA.below hb14
        replace oB := oB.below hb14
        replace oU := oU.sl
        have eU := slI_n oU
        subst eU
        have hwa := IntWalk.i64_in ((t.length : Int) - pa.length) (by omega)
        have hwb := IntWalk.i64_in ((t.length : Int) - pa.length + u.length) (by omega)
        have hne : ((ra.length : Int) != (t.length : Int) - pa.length + u.length) = false := by rw [q3]; simp
        go_wp2_with fail
        refine (sameTerm_same _ _ _ _ _ _ u _ (by omega) oU hu).mono ?_; rintro e w15 ⟨rfl, hb15⟩
        replace hv1 := hv1.bel hb15
        replace hB := hB.step hb15
        replace hs := hs.below hb15
        replace ht := ht.below hb15
        replace hu := hu.below hb15
        replace hbx := hb15.at (World.block_lt_of_cell? _ ⟨_, 0, none⟩ hbx) hbx
        replace oR := oR.below hb15
        replace oS := oS.below hb15
        replace oP := oP.below hb15
        replace oQ := oQ.below hb15
        replace oA := oA.below hb15
        replace oB := oB.below hb15
        replace oU := oU.below hb15
        go_wp2_with fail
        refine (drawCountOf_c n1 _ _ (by omega) hv1).mono ?_; rintro e w16 ⟨sv2, xv, ar2, x, z2, rfl, hdr2, hs2, hxx, hxl, hz3, hz4, hb16⟩
        replace hv1 := hv1.bel hb16
        replace hB := hB.step hb16
        replace hs := hs.below hb16
        replace ht := ht.below hb16
        replace hu := hu.below hb16
        replace hbx := hb16.at (World.block_lt_of_cell? _ ⟨_, 0, none⟩ hbx) hbx
        replace oR := oR.below hb16
        replace oS := oS.below hb16
        replace oP := oP.below hb16
        replace oQ := oQ.below hb16
        replace oA := oA.below hb16
        replace oB := oB.below hb16
        have hal2 := drawn_len hdr2
        obtain ⟨sa2, sc2, rfl⟩ := hs2.form
        obtain ⟨xa, xc, rfl⟩ := hxx.form
        clear hv1 hbx hs ht hu oR oS oP oQ oA oB hwa hwb hne oU q1 q2 q3
        have hbA2 := Bel.alloc0 w16 (.cells #[.slice sa2 ar2.length sc2] 28)
        have hbx : (w16.alloc (.cells #[.slice sa2 ar2.length sc2] 28)).cell? ⟨w16.heap.size, 0, none⟩ = some (.slice sa2 ar2.length sc2) := by rw [World.cell?_alloc_new w16]; rfl
        replace hB := hB.step hbA2
        replace hs2 := hs2.below hbA2
        replace hxx := hxx.below hbA2
        generalize hgy : w16.heap.size = gy at *
        generalize hCo : countAns ar2 x z2 = co
        generalize hDe : depthAns ar2 x = de
        generalize hVa : varsAns ar2 x = va
        generalize hGt2 : goodTerm ar2 x = gt2
        have hval : va.length ≤ 1048576 := by rw [← hVa]; exact varsAns_len ar2 x
        have hdel : de ≤ x.length := by rw [← hDe]; exact depthAns_le ar2 x
        go_wp2_with fail
        refine (iCountOf_vv (by omega) hs2 (by omega) hxx (by omega) (by omega) hCo hGt2).mono ?_; rintro e w17 ⟨rfl, hb17⟩
        replace hB := hB.step hb17
        replace hs2 := hs2.below hb17
        replace hxx := hxx.below hb17
        replace hbx := hb17.at (World.block_lt_of_cell? _ ⟨_, 0, none⟩ hbx) hbx
        go_wp2_with fail
        refine (sCountOf_vv (by omega) hs2 (by omega) hxx (by omega) (by omega) hCo hGt2).mono ?_; rintro e w18 ⟨rfl, hb18⟩
        replace hB := hB.step hb18
        replace hs2 := hs2.below hb18
        replace hxx := hxx.below hb18
        replace hbx := hb18.at (World.block_lt_of_cell? _ ⟨_, 0, none⟩ hbx) hbx
        go_wp2_with fail
        refine (iDepthOf_vv (by omega) hs2 (by omega) hxx hDe hGt2).mono ?_; rintro e w19 ⟨rfl, hb19⟩
        replace hB := hB.step hb19
        replace hs2 := hs2.below hb19
        replace hxx := hxx.below hb19
        replace hbx := hb19.at (World.block_lt_of_cell? _ ⟨_, 0, none⟩ hbx) hbx
        go_wp2_with fail
        refine (sDepthOf_vv (by omega) hs2 (by omega) hxx hDe hGt2).mono ?_; rintro e w20 ⟨rfl, hb20⟩
        replace hB := hB.step hb20
        replace hs2 := hs2.below hb20
        replace hxx := hxx.below hb20
        replace hbx := hb20.at (World.block_lt_of_cell? _ ⟨_, 0, none⟩ hbx) hbx
        go_wp2_with fail
        refine (iVarsOf_vv (by omega) hs2 (by omega) hxx hVa hGt2).mono ?_; rintro e w21 ⟨aV, mV, cV, rfl, oV, hb21⟩
        replace hB := hB.step hb21
        replace hs2 := hs2.below hb21
        replace hxx := hxx.below hb21
        replace hbx := hb21.at (World.block_lt_of_cell? _ ⟨_, 0, none⟩ hbx) hbx
        replace oV := oV.sl
        have eV := slI_n oV
        subst eV
        go_wp2_with fail
        refine (sVarsOf_vv (by omega) hs2 (by omega) hxx hVa hGt2).mono ?_; rintro e w22 ⟨aW, mW, cW, rfl, oW, hb22⟩
        replace hB := hB.step hb22
        replace hs2 := hs2.below hb22
        replace hxx := hxx.below hb22
        replace hbx := hb22.at (World.block_lt_of_cell? _ ⟨_, 0, none⟩ hbx) hbx
        replace oV := oV.below hb22
        replace oW := oW.sl
        have eW := slI_n oW
        subst eW
        have hr1 : (gt2 == gt2) = true := by simp
        have hr2 : (co == co) = true := by simp
        have hr3 : (de == de) = true := by simp
        have hr4 : decide (de ≤ (x.length : Int)) = true := by simpa using hdel
        clear hCo hDe hVa hGt2
        go_wp2_with fail
        refine (sameInts_same _ _ _ _ _ _ va _ hval oV oW).mono ?_; rintro e w23 ⟨rfl, hb23⟩
        replace hB := hB.step hb23
        replace hs2 := hs2.below hb23
        replace hxx := hxx.below hb23
        replace hbx := hb23.at (World.block_lt_of_cell? _ ⟨_, 0, none⟩ hbx) hbx
        replace oV := oV.below hb23
        replace oW := oW.below hb23
        go_wp2_with fail
        go_ret
        exact ⟨rfl, hB⟩
      | false =>
        go_wp2_with fail
        refine (drawCountOf_c n1 _ _ (by omega) hv1).mono ?_; rintro e w14 ⟨sv2, xv, ar2, x, z2, rfl, hdr2, hs2, hxx, hxl, hz3, hz4, hb14⟩
        replace hv1 := hv1.bel hb14
        replace hB := hB.step hb14
        replace hs := hs.below hb14
        replace ht := ht.below hb14
        replace hu := hu.below hb14
        replace hbx := hb14.at (World.block_lt_of_cell? _ ⟨_, 0, none⟩ hbx) hbx
        replace oR := oR.below hb14
        replace oS := oS.below hb14
        replace oP := oP.below hb14
        replace oQ := oQ.below hb14
        replace oA := oA.below hb14
        replace oB := oB.below hb14
        have hal2 := drawn_len hdr2
        obtain ⟨sa2, sc2, rfl⟩ := hs2.form
        obtain ⟨xa, xc, rfl⟩ := hxx.form
        clear hv1 hbx hs ht hu oR oS oP oQ oA oB 
        have hbA2 := Bel.alloc0 w14 (.cells #[.slice sa2 ar2.length sc2] 28)
        have hbx : (w14.alloc (.cells #[.slice sa2 ar2.length sc2] 28)).cell? ⟨w14.heap.size, 0, none⟩ = some (.slice sa2 ar2.length sc2) := by rw [World.cell?_alloc_new w14]; rfl
        replace hB := hB.step hbA2
        replace hs2 := hs2.below hbA2
        replace hxx := hxx.below hbA2
        generalize hgy : w14.heap.size = gy at *
        generalize hCo : countAns ar2 x z2 = co
        generalize hDe : depthAns ar2 x = de
        generalize hVa : varsAns ar2 x = va
        generalize hGt2 : goodTerm ar2 x = gt2
        have hval : va.length ≤ 1048576 := by rw [← hVa]; exact varsAns_len ar2 x
        have hdel : de ≤ x.length := by rw [← hDe]; exact depthAns_le ar2 x
        go_wp2_with fail
        refine (iCountOf_vv (by omega) hs2 (by omega) hxx (by omega) (by omega) hCo hGt2).mono ?_; rintro e w15 ⟨rfl, hb15⟩
        replace hB := hB.step hb15
        replace hs2 := hs2.below hb15
        replace hxx := hxx.below hb15
        replace hbx := hb15.at (World.block_lt_of_cell? _ ⟨_, 0, none⟩ hbx) hbx
        go_wp2_with fail
        refine (sCountOf_vv (by omega) hs2 (by omega) hxx (by omega) (by omega) hCo hGt2).mono ?_; rintro e w16 ⟨rfl, hb16⟩
        replace hB := hB.step hb16
        replace hs2 := hs2.below hb16
        replace hxx := hxx.below hb16
        replace hbx := hb16.at (World.block_lt_of_cell? _ ⟨_, 0, none⟩ hbx) hbx
        go_wp2_with fail
        refine (iDepthOf_vv (by omega) hs2 (by omega) hxx hDe hGt2).mono ?_; rintro e w17 ⟨rfl, hb17⟩
        replace hB := hB.step hb17
        replace hs2 := hs2.below hb17
        replace hxx := hxx.below hb17
        replace hbx := hb17.at (World.block_lt_of_cell? _ ⟨_, 0, none⟩ hbx) hbx
        go_wp2_with fail
        refine (sDepthOf_vv (by omega) hs2 (by omega) hxx hDe hGt2).mono ?_; rintro e w18 ⟨rfl, hb18⟩
        replace hB := hB.step hb18
        replace hs2 := hs2.below hb18
        replace hxx := hxx.below hb18
        replace hbx := hb18.at (World.block_lt_of_cell? _ ⟨_, 0, none⟩ hbx) hbx
        go_wp2_with fail
        refine (iVarsOf_vv (by omega) hs2 (by omega) hxx hVa hGt2).mono ?_; rintro e w19 ⟨aV, mV, cV, rfl, oV, hb19⟩
        replace hB := hB.step hb19
        replace hs2 := hs2.below hb19
        replace hxx := hxx.below hb19
        replace hbx := hb19.at (World.block_lt_of_cell? _ ⟨_, 0, none⟩ hbx) hbx
        replace oV := oV.sl
        have eV := slI_n oV
        subst eV
        go_wp2_with fail
        refine (sVarsOf_vv (by omega) hs2 (by omega) hxx hVa hGt2).mono ?_; rintro e w20 ⟨aW, mW, cW, rfl, oW, hb20⟩
        replace hB := hB.step hb20
        replace hs2 := hs2.below hb20
        replace hxx := hxx.below hb20
        replace hbx := hb20.at (World.block_lt_of_cell? _ ⟨_, 0, none⟩ hbx) hbx
        replace oV := oV.below hb20
        replace oW := oW.sl
        have eW := slI_n oW
        subst eW
        have hr1 : (gt2 == gt2) = true := by simp
        have hr2 : (co == co) = true := by simp
        have hr3 : (de == de) = true := by simp
        have hr4 : decide (de ≤ (x.length : Int)) = true := by simpa using hdel
        clear hCo hDe hVa hGt2
        go_wp2_with fail
        refine (sameInts_same _ _ _ _ _ _ va _ hval oV oW).mono ?_; rintro e w21 ⟨rfl, hb21⟩
        replace hB := hB.step hb21
        replace hs2 := hs2.below hb21
        replace hxx := hxx.below hb21
        replace hbx := hb21.at (World.block_lt_of_cell? _ ⟨_, 0, none⟩ hbx) hbx
        replace oV := oV.below hb21
        replace oW := oW.below hb21
        go_wp2_with fail
        go_ret
        exact ⟨rfl, hB⟩
    | false =>
      cases rk with
      | true =>
        have hq := part_repl hRk
        rw [hHR.out, hPa] at hq
        obtain ⟨q1, q2, q3⟩ := hq
        go_wp2_with fail
        refine (iPartAt_v (by omega) hs (by omega) oR (by omega) (by omega) q2 q1).mono ?_; rintro e w11 ⟨aU, mU, cU, rfl, oU, hb11⟩
        replace hv1 := hv1.bel hb11
        replace hB := hB.step hb11
        replace hs := hs.below hb11
        replace ht := ht.below hb11
        replace hu := hu.below hb11
        replace hbx := hb11.at (World.block_lt_of_cell? _ ⟨_, 0, none⟩ hbx) hbx
        replace oR := oR.below hb11
        replace oS := oS.below hb11
        replace oP := oP.below hb11
        replace oQ := oQ.below hb11
        replace oA := oA.below hb11
        replace oB := oB.below hb11
        replace oU := oU.sl
        have eU := slI_n oU
        subst eU
        have hwa := IntWalk.i64_in ((t.length : Int) - pa.length) (by omega)
        have hwb := IntWalk.i64_in ((t.length : Int) - pa.length + u.length) (by omega)
        have hne : ((ra.length : Int) != (t.length : Int) - pa.length + u.length) = false := by rw [q3]; simp
        go_wp2_with fail
        refine (sameTerm_same _ _ _ _ _ _ u _ (by omega) oU hu).mono ?_; rintro e w12 ⟨rfl, hb12⟩
        replace hv1 := hv1.bel hb12
        replace hB := hB.step hb12
        replace hs := hs.below hb12
        replace ht := ht.below hb12
        replace hu := hu.below hb12
        replace hbx := hb12.at (World.block_lt_of_cell? _ ⟨_, 0, none⟩ hbx) hbx
        replace oR := oR.below hb12
        replace oS := oS.below hb12
        replace oP := oP.below hb12
        replace oQ := oQ.below hb12
        replace oA := oA.below hb12
        replace oB := oB.below hb12
        replace oU := oU.below hb12
        go_wp2_with fail
        refine (drawCountOf_c n1 _ _ (by omega) hv1).mono ?_; rintro e w13 ⟨sv2, xv, ar2, x, z2, rfl, hdr2, hs2, hxx, hxl, hz3, hz4, hb13⟩
        replace hv1 := hv1.bel hb13
        replace hB := hB.step hb13
        replace hs := hs.below hb13
        replace ht := ht.below hb13
        replace hu := hu.below hb13
        replace hbx := hb13.at (World.block_lt_of_cell? _ ⟨_, 0, none⟩ hbx) hbx
        replace oR := oR.below hb13
        replace oS := oS.below hb13
        replace oP := oP.below hb13
        replace oQ := oQ.below hb13
        replace oA := oA.below hb13
        replace oB := oB.below hb13
        have hal2 := drawn_len hdr2
        obtain ⟨sa2, sc2, rfl⟩ := hs2.form
        obtain ⟨xa, xc, rfl⟩ := hxx.form
        clear hv1 hbx hs ht hu oR oS oP oQ oA oB hwa hwb hne oU q1 q2 q3
        have hbA2 := Bel.alloc0 w13 (.cells #[.slice sa2 ar2.length sc2] 28)
        have hbx : (w13.alloc (.cells #[.slice sa2 ar2.length sc2] 28)).cell? ⟨w13.heap.size, 0, none⟩ = some (.slice sa2 ar2.length sc2) := by rw [World.cell?_alloc_new w13]; rfl
        replace hB := hB.step hbA2
        replace hs2 := hs2.below hbA2
        replace hxx := hxx.below hbA2
        generalize hgy : w13.heap.size = gy at *
        generalize hCo : countAns ar2 x z2 = co
        generalize hDe : depthAns ar2 x = de
        generalize hVa : varsAns ar2 x = va
        generalize hGt2 : goodTerm ar2 x = gt2
        have hval : va.length ≤ 1048576 := by rw [← hVa]; exact varsAns_len ar2 x
        have hdel : de ≤ x.length := by rw [← hDe]; exact depthAns_le ar2 x
        go_wp2_with fail
        refine (iCountOf_vv (by omega) hs2 (by omega) hxx (by omega) (by omega) hCo hGt2).mono ?_; rintro e w14 ⟨rfl, hb14⟩
        replace hB := hB.step hb14
        replace hs2 := hs2.below hb14
        replace hxx := hxx.below hb14
        replace hbx := hb14.at (World.block_lt_of_cell? _ ⟨_, 0, none⟩ hbx) hbx
        go_wp2_with fail
        refine (sCountOf_vv (by omega) hs2 (by omega) hxx (by omega) (by omega) hCo hGt2).mono ?_; rintro e w15 ⟨rfl, hb15⟩
        replace hB := hB.step hb15
        replace hs2 := hs2.below hb15
        replace hxx := hxx.below hb15
        replace hbx := hb15.at (World.block_lt_of_cell? _ ⟨_, 0, none⟩ hbx) hbx
        go_wp2_with fail
        refine (iDepthOf_vv (by omega) hs2 (by omega) hxx hDe hGt2).mono ?_; rintro e w16 ⟨rfl, hb16⟩
        replace hB := hB.step hb16
        replace hs2 := hs2.below hb16
        replace hxx := hxx.below hb16
        replace hbx := hb16.at (World.block_lt_of_cell? _ ⟨_, 0, none⟩ hbx) hbx
        go_wp2_with fail
        refine (sDepthOf_vv (by omega) hs2 (by omega) hxx hDe hGt2).mono ?_; rintro e w17 ⟨rfl, hb17⟩
        replace hB := hB.step hb17
        replace hs2 := hs2.below hb17
        replace hxx := hxx.below hb17
        replace hbx := hb17.at (World.block_lt_of_cell? _ ⟨_, 0, none⟩ hbx) hbx
        go_wp2_with fail
        refine (iVarsOf_vv (by omega) hs2 (by omega) hxx hVa hGt2).mono ?_; rintro e w18 ⟨aV, mV, cV, rfl, oV, hb18⟩
        replace hB := hB.step hb18
        replace hs2 := hs2.below hb18
        replace hxx := hxx.below hb18
        replace hbx := hb18.at (World.block_lt_of_cell? _ ⟨_, 0, none⟩ hbx) hbx
        replace oV := oV.sl
        have eV := slI_n oV
        subst eV
        go_wp2_with fail
        refine (sVarsOf_vv (by omega) hs2 (by omega) hxx hVa hGt2).mono ?_; rintro e w19 ⟨aW, mW, cW, rfl, oW, hb19⟩
        replace hB := hB.step hb19
        replace hs2 := hs2.below hb19
        replace hxx := hxx.below hb19
        replace hbx := hb19.at (World.block_lt_of_cell? _ ⟨_, 0, none⟩ hbx) hbx
        replace oV := oV.below hb19
        replace oW := oW.sl
        have eW := slI_n oW
        subst eW
        have hr1 : (gt2 == gt2) = true := by simp
        have hr2 : (co == co) = true := by simp
        have hr3 : (de == de) = true := by simp
        have hr4 : decide (de ≤ (x.length : Int)) = true := by simpa using hdel
        clear hCo hDe hVa hGt2
        go_wp2_with fail
        refine (sameInts_same _ _ _ _ _ _ va _ hval oV oW).mono ?_; rintro e w20 ⟨rfl, hb20⟩
        replace hB := hB.step hb20
        replace hs2 := hs2.below hb20
        replace hxx := hxx.below hb20
        replace hbx := hb20.at (World.block_lt_of_cell? _ ⟨_, 0, none⟩ hbx) hbx
        replace oV := oV.below hb20
        replace oW := oW.below hb20
        go_wp2_with fail
        go_ret
        exact ⟨rfl, hB⟩
      | false =>
        go_wp2_with fail
        refine (drawCountOf_c n1 _ _ (by omega) hv1).mono ?_; rintro e w11 ⟨sv2, xv, ar2, x, z2, rfl, hdr2, hs2, hxx, hxl, hz3, hz4, hb11⟩
        replace hv1 := hv1.bel hb11
        replace hB := hB.step hb11
        replace hs := hs.below hb11
        replace ht := ht.below hb11
        replace hu := hu.below hb11
        replace hbx := hb11.at (World.block_lt_of_cell? _ ⟨_, 0, none⟩ hbx) hbx
        replace oR := oR.below hb11
        replace oS := oS.below hb11
        replace oP := oP.below hb11
        replace oQ := oQ.below hb11
        replace oA := oA.below hb11
        replace oB := oB.below hb11
        have hal2 := drawn_len hdr2
        obtain ⟨sa2, sc2, rfl⟩ := hs2.form
        obtain ⟨xa, xc, rfl⟩ := hxx.form
        clear hv1 hbx hs ht hu oR oS oP oQ oA oB 
        have hbA2 := Bel.alloc0 w11 (.cells #[.slice sa2 ar2.length sc2] 28)
        have hbx : (w11.alloc (.cells #[.slice sa2 ar2.length sc2] 28)).cell? ⟨w11.heap.size, 0, none⟩ = some (.slice sa2 ar2.length sc2) := by rw [World.cell?_alloc_new w11]; rfl
        replace hB := hB.step hbA2
        replace hs2 := hs2.below hbA2
        replace hxx := hxx.below hbA2
        generalize hgy : w11.heap.size = gy at *
        generalize hCo : countAns ar2 x z2 = co
        generalize hDe : depthAns ar2 x = de
        generalize hVa : varsAns ar2 x = va
        generalize hGt2 : goodTerm ar2 x = gt2
        have hval : va.length ≤ 1048576 := by rw [← hVa]; exact varsAns_len ar2 x
        have hdel : de ≤ x.length := by rw [← hDe]; exact depthAns_le ar2 x
        go_wp2_with fail
        refine (iCountOf_vv (by omega) hs2 (by omega) hxx (by omega) (by omega) hCo hGt2).mono ?_; rintro e w12 ⟨rfl, hb12⟩
        replace hB := hB.step hb12
        replace hs2 := hs2.below hb12
        replace hxx := hxx.below hb12
        replace hbx := hb12.at (World.block_lt_of_cell? _ ⟨_, 0, none⟩ hbx) hbx
        go_wp2_with fail
        refine (sCountOf_vv (by omega) hs2 (by omega) hxx (by omega) (by omega) hCo hGt2).mono ?_; rintro e w13 ⟨rfl, hb13⟩
        replace hB := hB.step hb13
        replace hs2 := hs2.below hb13
        replace hxx := hxx.below hb13
        replace hbx := hb13.at (World.block_lt_of_cell? _ ⟨_, 0, none⟩ hbx) hbx
        go_wp2_with fail
        refine (iDepthOf_vv (by omega) hs2 (by omega) hxx hDe hGt2).mono ?_; rintro e w14 ⟨rfl, hb14⟩
        replace hB := hB.step hb14
        replace hs2 := hs2.below hb14
        replace hxx := hxx.below hb14
        replace hbx := hb14.at (World.block_lt_of_cell? _ ⟨_, 0, none⟩ hbx) hbx
        go_wp2_with fail
        refine (sDepthOf_vv (by omega) hs2 (by omega) hxx hDe hGt2).mono ?_; rintro e w15 ⟨rfl, hb15⟩
        replace hB := hB.step hb15
        replace hs2 := hs2.below hb15
        replace hxx := hxx.below hb15
        replace hbx := hb15.at (World.block_lt_of_cell? _ ⟨_, 0, none⟩ hbx) hbx
        go_wp2_with fail
        refine (iVarsOf_vv (by omega) hs2 (by omega) hxx hVa hGt2).mono ?_; rintro e w16 ⟨aV, mV, cV, rfl, oV, hb16⟩
        replace hB := hB.step hb16
        replace hs2 := hs2.below hb16
        replace hxx := hxx.below hb16
        replace hbx := hb16.at (World.block_lt_of_cell? _ ⟨_, 0, none⟩ hbx) hbx
        replace oV := oV.sl
        have eV := slI_n oV
        subst eV
        go_wp2_with fail
        refine (sVarsOf_vv (by omega) hs2 (by omega) hxx hVa hGt2).mono ?_; rintro e w17 ⟨aW, mW, cW, rfl, oW, hb17⟩
        replace hB := hB.step hb17
        replace hs2 := hs2.below hb17
        replace hxx := hxx.below hb17
        replace hbx := hb17.at (World.block_lt_of_cell? _ ⟨_, 0, none⟩ hbx) hbx
        replace oV := oV.below hb17
        replace oW := oW.sl
        have eW := slI_n oW
        subst eW
        have hr1 : (gt2 == gt2) = true := by simp
        have hr2 : (co == co) = true := by simp
        have hr3 : (de == de) = true := by simp
        have hr4 : decide (de ≤ (x.length : Int)) = true := by simpa using hdel
        clear hCo hDe hVa hGt2
        go_wp2_with fail
        refine (sameInts_same _ _ _ _ _ _ va _ hval oV oW).mono ?_; rintro e w18 ⟨rfl, hb18⟩
        replace hB := hB.step hb18
        replace hs2 := hs2.below hb18
        replace hxx := hxx.below hb18
        replace hbx := hb18.at (World.block_lt_of_cell? _ ⟨_, 0, none⟩ hbx) hbx
        replace oV := oV.below hb18
        replace oW := oW.below hb18
        go_wp2_with fail
        go_ret
        exact ⟨rfl, hB⟩
  · go_enter Try.func4, Try.ntmps4
    go_wp2_with fail
    refine (big_yes n0 n1 _ _ _ _ _ hn0 hbig).mono ?_; rintro e w1 ⟨rfl, hb1⟩
    go_wp2_with fail
    go_ret
    exact ⟨rfl, hb1⟩
end Go.Proofs.Ytajmjjandkdhiab
