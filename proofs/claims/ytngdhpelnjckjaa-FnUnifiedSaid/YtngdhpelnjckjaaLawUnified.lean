/- FnUnified: the law's walk. -/
import Derived.Test.YtngdhpelnjckjaaMgUnified12
import Derived.Deep.RegionHeld3
namespace Go.Proofs.Ytngdhpelnjckjaa
open Go.RowKit

set_option maxRecDepth 100000 in
set_option maxHeartbeats 4000000 in
theorem lawUnified (w : World) (v0 : Value) (n0 : Nat) (hn0 : n0 ≤ 9223372036854775807) (hv0 : SlB w.heap.size w v0 n0) (v1 : Value) (n1 : Nat) (hn1 : n1 ≤ 9223372036854775807) (hv1 : SlB w.heap.size w v1 n1) :
    Calls Try.prog 5 #[v0, v1] w (RetV w (.bool true)) := by
  obtain ⟨ca, cc, rfl⟩ := hv0.form
  obtain ⟨ma, mc, rfl⟩ := hv1.form
  by_cases hbig : n0 ≤ 1048576 ∧ n0 + n1 ≤ 1048576
  · go_enter Try.func5, Try.ntmps5
    have hB := Bel.rfl' w
    go_wp2_with fail
    refine (big_no n0 n1 _ _ _ _ _ hbig.1 hbig.2).mono ?_; rintro e w1 ⟨rfl, hb1⟩
    replace hv0 := hv0.bel hb1
    replace hv1 := hv1.bel hb1
    replace hB := hB.step hb1
    go_wp2_with fail
    refine (drawUnify_c n0 _ _ hbig.1 hv0).mono ?_; rintro e w2 ⟨sv, pv, tv, ar, a, b, rfl, hdr, hs, hp, hpl, ht, htl, hb2⟩
    replace hv0 := hv0.bel hb2
    replace hv1 := hv1.bel hb2
    replace hB := hB.step hb2
    clear hv0
    have hal := drawn_len hdr
    obtain ⟨sXa, sXc, rfl⟩ := hs.form
    obtain ⟨pa, pc, rfl⟩ := hp.form
    obtain ⟨ta, tc, rfl⟩ := ht.form
    have hbAX := Bel.alloc0 w2 (.cells #[.slice sXa ar.length sXc] 26)
    have hbxX : (w2.alloc (.cells #[.slice sXa ar.length sXc] 26)).cell? ⟨w2.heap.size, 0, none⟩ = some (.slice sXa ar.length sXc) := by rw [World.cell?_alloc_new w2]; rfl
    replace hv1 := hv1.bel hbAX
    replace hB := hB.step hbAX
    replace hs := hs.below hbAX
    replace hp := hp.below hbAX
    replace ht := ht.below hbAX
    generalize hgX : w2.heap.size = gX at *
    generalize hUa : unifyAns ar a b = u
    generalize hUk : unifyOk ar a b = uk
    have hus : short u := by rw [← hUa]; exact short_of_tot (unifyAns_len ar a b)
    go_wp2_with fail
    refine (iUnify_v (by omega) hs (by omega) hp (by omega) ht hUa hUk).mono ?_; rintro e w3 ⟨aM, mM, cM, rfl, oM, hb3⟩
    replace hv1 := hv1.bel hb3
    replace hB := hB.step hb3
    replace hs := hs.below hb3
    replace hp := hp.below hb3
    replace ht := ht.below hb3
    replace hbxX := hb3.at (World.block_lt_of_cell? _ ⟨_, 0, none⟩ hbxX) hbxX
    replace oM := oM.sl
    have eM := SlS.len oM
    subst eM
    go_wp2_with fail
    refine (sUnify_v (by omega) hs (by omega) hp (by omega) ht hUa hUk).mono ?_; rintro e w4 ⟨aN, mN, cN, rfl, oN, hb4⟩
    replace hv1 := hv1.bel hb4
    replace hB := hB.step hb4
    replace hs := hs.below hb4
    replace hp := hp.below hb4
    replace ht := ht.below hb4
    replace hbxX := hb4.at (World.block_lt_of_cell? _ ⟨_, 0, none⟩ hbxX) hbxX
    replace oM := oM.below hb4
    replace oN := oN.sl
    have eN := SlS.len oN
    subst eN
    have hq1 : (uk != uk) = false := by simp
    go_wp2_with fail
    refine (sameLists_same _ _ _ _ _ _ u _ hus oM oN).mono ?_; rintro e w5 ⟨rfl, hb5⟩
    replace hv1 := hv1.bel hb5
    replace hB := hB.step hb5
    replace hs := hs.below hb5
    replace hp := hp.below hb5
    replace ht := ht.below hb5
    replace hbxX := hb5.at (World.block_lt_of_cell? _ ⟨_, 0, none⟩ hbxX) hbxX
    replace oM := oM.below hb5
    replace oN := oN.below hb5
    clear oN
    cases uk with
    | false =>
      clear hUk hUa
      go_wp2_with fail
      refine (drawIsUnifier_c n1 _ _ (by omega) hv1).mono ?_; rintro e w6 ⟨sv2, lv, xv, yv, ar2, l, x, y, rfl, hdr2, hs2, hl, hsh, hx, hxl, hy, hyl, hb6⟩
      replace hv1 := hv1.bel hb6
      replace hB := hB.step hb6
      replace hs := hs.below hb6
      replace hp := hp.below hb6
      replace ht := ht.below hb6
      replace hbxX := hb6.at (World.block_lt_of_cell? _ ⟨_, 0, none⟩ hbxX) hbxX
      replace oM := oM.below hb6
      have hal2 := drawn_len hdr2
      obtain ⟨sYa, sYc, rfl⟩ := hs2.form
      obtain ⟨la, lc, rfl⟩ := hl.form
      obtain ⟨xa, xc, rfl⟩ := hx.form
      obtain ⟨ya, yc, rfl⟩ := hy.form
      clear hs hp ht oM hbxX hv1
      have hbAY := Bel.alloc0 w6 (.cells #[.slice sYa ar2.length sYc] 26)
      have hbxY : (w6.alloc (.cells #[.slice sYa ar2.length sYc] 26)).cell? ⟨w6.heap.size, 0, none⟩ = some (.slice sYa ar2.length sYc) := by rw [World.cell?_alloc_new w6]; rfl
      replace hB := hB.step hbAY
      replace hs2 := hs2.below hbAY
      replace hl := hl.below hbAY
      replace hx := hx.below hbAY
      replace hy := hy.below hbAY
      generalize hgY : w6.heap.size = gY at *
      generalize hIa : unifAns ar2 l x y = ia
      generalize hIk : (applyOk ar2 l x && applyOk ar2 l y) = ik
      go_wp2_with fail
      refine (iIsUnifier_vv (by omega) hs2 hsh hl (by omega) hx (by omega) hy hIa hIk).mono ?_; rintro e w7 ⟨rfl, hb7⟩
      replace hB := hB.step hb7
      replace hs2 := hs2.below hb7
      replace hl := hl.below hb7
      replace hx := hx.below hb7
      replace hy := hy.below hb7
      replace hbxY := hb7.at (World.block_lt_of_cell? _ ⟨_, 0, none⟩ hbxY) hbxY
      go_wp2_with fail
      refine (sIsUnifier_vv (by omega) hs2 hsh hl (by omega) hx (by omega) hy hIa hIk).mono ?_; rintro e w8 ⟨rfl, hb8⟩
      replace hB := hB.step hb8
      replace hs2 := hs2.below hb8
      replace hl := hl.below hb8
      replace hx := hx.below hb8
      replace hy := hy.below hb8
      replace hbxY := hb8.at (World.block_lt_of_cell? _ ⟨_, 0, none⟩ hbxY) hbxY
      have hz1 : (ik != ik) = false := by simp
      have hz2 : (ia != ia) = false := by simp
      cases ik with
      | false =>
        go_wp2_with fail
        go_ret
        exact ⟨rfl, hB⟩
      | true =>
        cases ia with
        | false =>
          go_wp2_with fail
          go_ret
          exact ⟨rfl, hB⟩
        | true =>
          simp only [Bool.and_eq_true] at hIk
          have hE : applyAns ar2 l x = applyAns ar2 l y := by
            unfold unifAns at hIa
            simp only [Bool.and_eq_true, decide_eq_true_eq] at hIa
            exact hIa.2
          generalize hMa : unifyAns ar2 x y = m
          generalize hMk : unifyOk ar2 x y = mk
          have hms : short m := by rw [← hMa]; exact short_of_tot (unifyAns_len ar2 x y)
          have HI := Lib.hid (And.intro hIk hE)
          clear hIk hE hIa
          go_wp2_with fail
          refine (iUnify_v (by omega) hs2 (by omega) hx (by omega) hy hMa hMk).mono ?_; rintro e w9 ⟨aP, mP, cP, rfl, oP, hb9⟩
          replace hB := hB.step hb9
          replace hs2 := hs2.below hb9
          replace hl := hl.below hb9
          replace hx := hx.below hb9
          replace hy := hy.below hb9
          replace hbxY := hb9.at (World.block_lt_of_cell? _ ⟨_, 0, none⟩ hbxY) hbxY
          replace oP := oP.sl
          have eP := SlS.len oP
          subst eP
          cases mk with
          | false =>
            go_wp2_with fail
            go_ret
            exact ⟨rfl, hB⟩
          | true =>
            generalize hCa : composeAns ar2 m l = c
            generalize hCk : composeOk ar2 m l = ck
            have hcs : short c := by rw [← hCa]; exact short_of_tot (composeAns_len ar2 m l)
            generalize hQa : applyAns ar2 c x = qa
            generalize hQk : applyOk ar2 c x = qk
            generalize hPa : applyAns ar2 l x = pa'
            have hql : qa.length ≤ 40 := by rw [← hQa]; exact applyAns_len40 ar2 c x
            have hpl' : pa'.length ≤ 40 := by rw [← hPa]; exact applyAns_len40 ar2 l x
            have HA := Lib.hid (fun (h1 : ck = true) => show qk = true ∧ qa = pa' by
              have := unify_most HI.out.1.1 HI.out.1.2 HI.out.2 hMk (by rw [hMa, hCk]; exact h1)
              rw [hMa, hCa, hQk, hQa, hPa] at this
              exact this)
            have hPk := HI.out.1.1
            go_wp2_with fail
            refine (iCompose_v (by omega) hs2 hms oP hsh hl hCa hCk).mono ?_; rintro e w10 ⟨aC, mC, cC, rfl, oC, hb10⟩
            replace hB := hB.step hb10
            replace hs2 := hs2.below hb10
            replace hl := hl.below hb10
            replace hx := hx.below hb10
            replace hy := hy.below hb10
            replace hbxY := hb10.at (World.block_lt_of_cell? _ ⟨_, 0, none⟩ hbxY) hbxY
            replace oP := oP.below hb10
            replace oC := oC.sl
            have eC := SlS.len oC
            subst eC
            go_wp2_with fail
            refine (iApply_v (by omega) hs2 hsh hl (by omega) hx hPa hPk).mono ?_; rintro e w11 ⟨aQ, mQ, cQ, rfl, oQ, hb11⟩
            replace hB := hB.step hb11
            replace hs2 := hs2.below hb11
            replace hl := hl.below hb11
            replace hx := hx.below hb11
            replace hy := hy.below hb11
            replace hbxY := hb11.at (World.block_lt_of_cell? _ ⟨_, 0, none⟩ hbxY) hbxY
            replace oP := oP.below hb11
            replace oC := oC.below hb11
            replace oQ := oQ.sl
            have eQ := slI_n oQ
            subst eQ
            go_wp2_with fail
            refine (iApply_v (by omega) hs2 hcs oC (by omega) hx hQa hQk).mono ?_; rintro e w12 ⟨aR, mR, cR, rfl, oR, hb12⟩
            replace hB := hB.step hb12
            replace hs2 := hs2.below hb12
            replace hl := hl.below hb12
            replace hx := hx.below hb12
            replace hy := hy.below hb12
            replace hbxY := hb12.at (World.block_lt_of_cell? _ ⟨_, 0, none⟩ hbxY) hbxY
            replace oP := oP.below hb12
            replace oC := oC.below hb12
            replace oQ := oQ.below hb12
            replace oR := oR.sl
            have eR := slI_n oR
            subst eR
            clear hCa hCk hQa hQk hPa hPk HI hMa hMk
            cases ck with
            | false =>
              go_wp2_with fail
              go_ret
              exact ⟨rfl, hB⟩
            | true =>
              obtain ⟨rfl, rfl⟩ := HA.out rfl
              clear HA
              go_wp2_with fail
              refine (sameTerm_same _ _ _ _ _ _ qa _ (by omega) oQ oR).mono ?_; rintro e w13 ⟨rfl, hb13⟩
              replace hB := hB.step hb13
              replace hs2 := hs2.below hb13
              replace hl := hl.below hb13
              replace hx := hx.below hb13
              replace hy := hy.below hb13
              replace hbxY := hb13.at (World.block_lt_of_cell? _ ⟨_, 0, none⟩ hbxY) hbxY
              replace oP := oP.below hb13
              replace oC := oC.below hb13
              replace oQ := oQ.below hb13
              replace oR := oR.below hb13
              go_wp2_with fail
              go_ret
              exact ⟨rfl, hB⟩
    | true =>
      have hu1 := unify_unifies hUk
      have hu2 := unify_twice hUk
      rw [hUa] at hu1 hu2
      have hu3 : (applyOk ar u a && applyOk ar u b) = true := by rw [hu1.1, hu1.2.1]; rfl
      clear hUk hUa
      go_wp2_with fail
      refine (iIsUnifier_vv (by omega) hs hus oM (by omega) hp (by omega) ht hu1.2.2 hu3).mono ?_; rintro e w6 ⟨rfl, hb6⟩
      replace hv1 := hv1.bel hb6
      replace hB := hB.step hb6
      replace hs := hs.below hb6
      replace hp := hp.below hb6
      replace ht := ht.below hb6
      replace hbxX := hb6.at (World.block_lt_of_cell? _ ⟨_, 0, none⟩ hbxX) hbxX
      replace oM := oM.below hb6
      go_wp2_with fail
      refine (iCompose_v (by omega) hs hus oM hus oM hu2.2 hu2.1).mono ?_; rintro e w7 ⟨aT, mT, cT, rfl, oT, hb7⟩
      replace hv1 := hv1.bel hb7
      replace hB := hB.step hb7
      replace hs := hs.below hb7
      replace hp := hp.below hb7
      replace ht := ht.below hb7
      replace hbxX := hb7.at (World.block_lt_of_cell? _ ⟨_, 0, none⟩ hbxX) hbxX
      replace oM := oM.below hb7
      replace oT := oT.sl
      have eT := SlS.len oT
      subst eT
      clear hu1 hu2 hu3
      go_wp2_with fail
      refine (sameLists_same _ _ _ _ _ _ u _ hus oT oM).mono ?_; rintro e w8 ⟨rfl, hb8⟩
      replace hv1 := hv1.bel hb8
      replace hB := hB.step hb8
      replace hs := hs.below hb8
      replace hp := hp.below hb8
      replace ht := ht.below hb8
      replace hbxX := hb8.at (World.block_lt_of_cell? _ ⟨_, 0, none⟩ hbxX) hbxX
      replace oM := oM.below hb8
      replace oT := oT.below hb8
      clear oT
      go_wp2_with fail
      refine (drawIsUnifier_c n1 _ _ (by omega) hv1).mono ?_; rintro e w9 ⟨sv2, lv, xv, yv, ar2, l, x, y, rfl, hdr2, hs2, hl, hsh, hx, hxl, hy, hyl, hb9⟩
      replace hv1 := hv1.bel hb9
      replace hB := hB.step hb9
      replace hs := hs.below hb9
      replace hp := hp.below hb9
      replace ht := ht.below hb9
      replace hbxX := hb9.at (World.block_lt_of_cell? _ ⟨_, 0, none⟩ hbxX) hbxX
      replace oM := oM.below hb9
      have hal2 := drawn_len hdr2
      obtain ⟨sYa, sYc, rfl⟩ := hs2.form
      obtain ⟨la, lc, rfl⟩ := hl.form
      obtain ⟨xa, xc, rfl⟩ := hx.form
      obtain ⟨ya, yc, rfl⟩ := hy.form
      clear hs hp ht oM hbxX hv1
      have hbAY := Bel.alloc0 w9 (.cells #[.slice sYa ar2.length sYc] 26)
      have hbxY : (w9.alloc (.cells #[.slice sYa ar2.length sYc] 26)).cell? ⟨w9.heap.size, 0, none⟩ = some (.slice sYa ar2.length sYc) := by rw [World.cell?_alloc_new w9]; rfl
      replace hB := hB.step hbAY
      replace hs2 := hs2.below hbAY
      replace hl := hl.below hbAY
      replace hx := hx.below hbAY
      replace hy := hy.below hbAY
      generalize hgY : w9.heap.size = gY at *
      generalize hIa : unifAns ar2 l x y = ia
      generalize hIk : (applyOk ar2 l x && applyOk ar2 l y) = ik
      go_wp2_with fail
      refine (iIsUnifier_vv (by omega) hs2 hsh hl (by omega) hx (by omega) hy hIa hIk).mono ?_; rintro e w10 ⟨rfl, hb10⟩
      replace hB := hB.step hb10
      replace hs2 := hs2.below hb10
      replace hl := hl.below hb10
      replace hx := hx.below hb10
      replace hy := hy.below hb10
      replace hbxY := hb10.at (World.block_lt_of_cell? _ ⟨_, 0, none⟩ hbxY) hbxY
      go_wp2_with fail
      refine (sIsUnifier_vv (by omega) hs2 hsh hl (by omega) hx (by omega) hy hIa hIk).mono ?_; rintro e w11 ⟨rfl, hb11⟩
      replace hB := hB.step hb11
      replace hs2 := hs2.below hb11
      replace hl := hl.below hb11
      replace hx := hx.below hb11
      replace hy := hy.below hb11
      replace hbxY := hb11.at (World.block_lt_of_cell? _ ⟨_, 0, none⟩ hbxY) hbxY
      have hz1 : (ik != ik) = false := by simp
      have hz2 : (ia != ia) = false := by simp
      cases ik with
      | false =>
        go_wp2_with fail
        go_ret
        exact ⟨rfl, hB⟩
      | true =>
        cases ia with
        | false =>
          go_wp2_with fail
          go_ret
          exact ⟨rfl, hB⟩
        | true =>
          simp only [Bool.and_eq_true] at hIk
          have hE : applyAns ar2 l x = applyAns ar2 l y := by
            unfold unifAns at hIa
            simp only [Bool.and_eq_true, decide_eq_true_eq] at hIa
            exact hIa.2
          generalize hMa : unifyAns ar2 x y = m
          generalize hMk : unifyOk ar2 x y = mk
          have hms : short m := by rw [← hMa]; exact short_of_tot (unifyAns_len ar2 x y)
          have HI := Lib.hid (And.intro hIk hE)
          clear hIk hE hIa
          go_wp2_with fail
          refine (iUnify_v (by omega) hs2 (by omega) hx (by omega) hy hMa hMk).mono ?_; rintro e w12 ⟨aP, mP, cP, rfl, oP, hb12⟩
          replace hB := hB.step hb12
          replace hs2 := hs2.below hb12
          replace hl := hl.below hb12
          replace hx := hx.below hb12
          replace hy := hy.below hb12
          replace hbxY := hb12.at (World.block_lt_of_cell? _ ⟨_, 0, none⟩ hbxY) hbxY
          replace oP := oP.sl
          have eP := SlS.len oP
          subst eP
          cases mk with
          | false =>
            go_wp2_with fail
            go_ret
            exact ⟨rfl, hB⟩
          | true =>
            generalize hCa : composeAns ar2 m l = c
            generalize hCk : composeOk ar2 m l = ck
            have hcs : short c := by rw [← hCa]; exact short_of_tot (composeAns_len ar2 m l)
            generalize hQa : applyAns ar2 c x = qa
            generalize hQk : applyOk ar2 c x = qk
            generalize hPa : applyAns ar2 l x = pa'
            have hql : qa.length ≤ 40 := by rw [← hQa]; exact applyAns_len40 ar2 c x
            have hpl' : pa'.length ≤ 40 := by rw [← hPa]; exact applyAns_len40 ar2 l x
            have HA := Lib.hid (fun (h1 : ck = true) => show qk = true ∧ qa = pa' by
              have := unify_most HI.out.1.1 HI.out.1.2 HI.out.2 hMk (by rw [hMa, hCk]; exact h1)
              rw [hMa, hCa, hQk, hQa, hPa] at this
              exact this)
            have hPk := HI.out.1.1
            go_wp2_with fail
            refine (iCompose_v (by omega) hs2 hms oP hsh hl hCa hCk).mono ?_; rintro e w13 ⟨aC, mC, cC, rfl, oC, hb13⟩
            replace hB := hB.step hb13
            replace hs2 := hs2.below hb13
            replace hl := hl.below hb13
            replace hx := hx.below hb13
            replace hy := hy.below hb13
            replace hbxY := hb13.at (World.block_lt_of_cell? _ ⟨_, 0, none⟩ hbxY) hbxY
            replace oP := oP.below hb13
            replace oC := oC.sl
            have eC := SlS.len oC
            subst eC
            go_wp2_with fail
            refine (iApply_v (by omega) hs2 hsh hl (by omega) hx hPa hPk).mono ?_; rintro e w14 ⟨aQ, mQ, cQ, rfl, oQ, hb14⟩
            replace hB := hB.step hb14
            replace hs2 := hs2.below hb14
            replace hl := hl.below hb14
            replace hx := hx.below hb14
            replace hy := hy.below hb14
            replace hbxY := hb14.at (World.block_lt_of_cell? _ ⟨_, 0, none⟩ hbxY) hbxY
            replace oP := oP.below hb14
            replace oC := oC.below hb14
            replace oQ := oQ.sl
            have eQ := slI_n oQ
            subst eQ
            go_wp2_with fail
            refine (iApply_v (by omega) hs2 hcs oC (by omega) hx hQa hQk).mono ?_; rintro e w15 ⟨aR, mR, cR, rfl, oR, hb15⟩
            replace hB := hB.step hb15
            replace hs2 := hs2.below hb15
            replace hl := hl.below hb15
            replace hx := hx.below hb15
            replace hy := hy.below hb15
            replace hbxY := hb15.at (World.block_lt_of_cell? _ ⟨_, 0, none⟩ hbxY) hbxY
            replace oP := oP.below hb15
            replace oC := oC.below hb15
            replace oQ := oQ.below hb15
            replace oR := oR.sl
            have eR := slI_n oR
            subst eR
            clear hCa hCk hQa hQk hPa hPk HI hMa hMk
            cases ck with
            | false =>
              go_wp2_with fail
              go_ret
              exact ⟨rfl, hB⟩
            | true =>
              obtain ⟨rfl, rfl⟩ := HA.out rfl
              clear HA
              go_wp2_with fail
              refine (sameTerm_same _ _ _ _ _ _ qa _ (by omega) oQ oR).mono ?_; rintro e w16 ⟨rfl, hb16⟩
              replace hB := hB.step hb16
              replace hs2 := hs2.below hb16
              replace hl := hl.below hb16
              replace hx := hx.below hb16
              replace hy := hy.below hb16
              replace hbxY := hb16.at (World.block_lt_of_cell? _ ⟨_, 0, none⟩ hbxY) hbxY
              replace oP := oP.below hb16
              replace oC := oC.below hb16
              replace oQ := oQ.below hb16
              replace oR := oR.below hb16
              go_wp2_with fail
              go_ret
              exact ⟨rfl, hB⟩
  · go_enter Try.func5, Try.ntmps5
    go_wp2_with fail
    refine (big_yes n0 n1 _ _ _ _ _ hn0 hbig).mono ?_; rintro e w1 ⟨rfl, hb1⟩
    go_wp2_with fail
    go_ret
    exact ⟨rfl, hb1⟩
end Go.Proofs.Ytngdhpelnjckjaa
