/- FnTermText: the law's walk. -/
import Derived.Test.YtkbgglejhdodoaaMgTexts12
import Derived.Deep.RegionHeld3
namespace Go.Proofs.Ytkbgglejhdodoaa
open Go.RowKit

set_option maxRecDepth 100000 in
set_option maxHeartbeats 4000000 in
theorem lawTexts (w : World) (v0 : Value) (n0 : Nat) (hn0 : n0 ≤ 9223372036854775807) (hv0 : SlB w.heap.size w v0 n0) (v1 : Value) (n1 : Nat) (hn1 : n1 ≤ 9223372036854775807) (hv1 : SlB w.heap.size w v1 n1) :
    Calls Try.prog 5 #[v0, v1] w (RetV w (.bool true)) := by
  obtain ⟨ca, cc, rfl⟩ := hv0.form
  obtain ⟨ma, mc, rfl⟩ := hv1.form
  by_cases hbig : n0 ≤ 1048576 ∧ n0 + n1 ≤ 1048576
  · go_enter Try.func5, Try.ntmps5
    have hB := Bel.rfl' w
    go_wp2_with fail
    refine (big_no n0 n1 _ _ _ _ _ hbig.1 hbig.2).mono ?_; rintro e w1 ⟨rfl, hb1⟩
    replace hv0 := hv0.bel hb1
    replace hv1 := hv1.bel hb1
    replace hB := hB.step hb1
    go_wp2_with fail
    refine (drawTermText_c n0 _ _ hbig.1 hv0).mono ?_; rintro e w2 ⟨sv, tv, ar, t, rfl, hdr, hs, ht, htl, hb2⟩
    replace hv0 := hv0.bel hb2
    replace hv1 := hv1.bel hb2
    replace hB := hB.step hb2
    clear hv0
    have hal := drawn_len hdr
    obtain ⟨sXa, sXc, rfl⟩ := hs.form
    obtain ⟨ta, tc, rfl⟩ := ht.form
    have hbAX := Bel.alloc0 w2 (.cells #[.slice sXa ar.length sXc] 28)
    have hbxX : (w2.alloc (.cells #[.slice sXa ar.length sXc] 28)).cell? ⟨w2.heap.size, 0, none⟩ = some (.slice sXa ar.length sXc) := by rw [World.cell?_alloc_new w2]; rfl
    replace hv1 := hv1.bel hbAX
    replace hB := hB.step hbAX
    replace hs := hs.below hbAX
    replace ht := ht.below hbAX
    generalize hgX : w2.heap.size = gX at *
    have hsz := text_size ar t
    generalize hTx : textBA ar t = tx at *
    generalize hGt : goodTerm ar t = gt
    go_wp2_with fail
    refine (iTermText_vv (by omega) hs (by omega) ht hTx hGt).mono ?_; rintro e w3 ⟨rfl, hb3⟩
    replace hv1 := hv1.bel hb3
    replace hB := hB.step hb3
    replace hs := hs.below hb3
    replace ht := ht.below hb3
    replace hbxX := hb3.at (World.block_lt_of_cell? _ ⟨_, 0, none⟩ hbxX) hbxX
    go_wp2_with fail
    refine (sTermText_vv (by omega) hs (by omega) ht hTx hGt).mono ?_; rintro e w4 ⟨rfl, hb4⟩
    replace hv1 := hv1.bel hb4
    replace hB := hB.step hb4
    replace hs := hs.below hb4
    replace ht := ht.below hb4
    replace hbxX := hb4.at (World.block_lt_of_cell? _ ⟨_, 0, none⟩ hbxX) hbxX
    have hq1 : (gt != gt) = false := by simp
    cases gt with
    | false =>
      clear hTx hGt
      go_wp2_with fail
      refine (drawReadTerm_c n1 _ _ (by omega) hv1).mono ?_; rintro e w5 ⟨sv2, ar2, s2, rfl, hdr2, hs2, hs2z, hb5⟩
      replace hv1 := hv1.bel hb5
      replace hB := hB.step hb5
      replace hs := hs.below hb5
      replace ht := ht.below hb5
      replace hbxX := hb5.at (World.block_lt_of_cell? _ ⟨_, 0, none⟩ hbxX) hbxX
      have hal2 := drawn_len hdr2
      obtain ⟨sYa, sYc, rfl⟩ := hs2.form
      clear hs ht hbxX
      have hbAY := Bel.alloc0 w5 (.cells #[.slice sYa ar2.length sYc] 28)
      have hbxY : (w5.alloc (.cells #[.slice sYa ar2.length sYc] 28)).cell? ⟨w5.heap.size, 0, none⟩ = some (.slice sYa ar2.length sYc) := by rw [World.cell?_alloc_new w5]; rfl
      replace hv1 := hv1.bel hbAY
      replace hB := hB.step hbAY
      replace hs2 := hs2.below hbAY
      generalize hgY : w5.heap.size = gY at *
      generalize hRd : readAns ar2 s2 = rd
      obtain ⟨y, pl, rk⟩ := rd
      have hyl := read_len hRd
      go_wp2_with fail
      refine (iReadTerm_vv (by omega) hs2 (by omega) hRd).mono ?_; rintro e w6 ⟨aY, mY, cY, rfl, oY, hb6⟩
      replace hv1 := hv1.bel hb6
      replace hB := hB.step hb6
      replace hs2 := hs2.below hb6
      replace hbxY := hb6.at (World.block_lt_of_cell? _ ⟨_, 0, none⟩ hbxY) hbxY
      replace oY := oY.sl
      have eY := slI_n oY
      subst eY
      go_wp2_with fail
      refine (sReadTerm_vv (by omega) hs2 (by omega) hRd).mono ?_; rintro e w7 ⟨aZ, mZ, cZ, rfl, oZ, hb7⟩
      replace hv1 := hv1.bel hb7
      replace hB := hB.step hb7
      replace hs2 := hs2.below hb7
      replace hbxY := hb7.at (World.block_lt_of_cell? _ ⟨_, 0, none⟩ hbxY) hbxY
      replace oY := oY.below hb7
      replace oZ := oZ.sl
      have eZ := slI_n oZ
      subst eZ
      have hy1 : (rk != rk) = false := by simp
      have hy2 : ((pl : Int) != (pl : Int)) = false := by simp
      go_wp2_with fail
      refine (sameTerm_same _ _ _ _ _ _ y _ hyl oY oZ).mono ?_; rintro e w8 ⟨rfl, hb8⟩
      replace hv1 := hv1.bel hb8
      replace hB := hB.step hb8
      replace hs2 := hs2.below hb8
      replace hbxY := hb8.at (World.block_lt_of_cell? _ ⟨_, 0, none⟩ hbxY) hbxY
      replace oY := oY.below hb8
      replace oZ := oZ.below hb8
      cases rk with
      | false =>
        clear hRd
        go_wp2_with fail
        refine (drawShiftVars_c n1 _ _ (by omega) hv1).mono ?_; rintro e w9 ⟨sv3, zv, ar3, z, by', rfl, hdr3, hs3, hz, hzl, hb1', hb2', hb9⟩
        replace hv1 := hv1.bel hb9
        replace hB := hB.step hb9
        replace hs2 := hs2.below hb9
        replace hbxY := hb9.at (World.block_lt_of_cell? _ ⟨_, 0, none⟩ hbxY) hbxY
        replace oY := oY.below hb9
        replace oZ := oZ.below hb9
        have hal3 := drawn_len hdr3
        obtain ⟨sZa, sZc, rfl⟩ := hs3.form
        obtain ⟨za, zc, rfl⟩ := hz.form
        have hbAZ := Bel.alloc0 w9 (.cells #[.slice sZa ar3.length sZc] 28)
        have hbxZ : (w9.alloc (.cells #[.slice sZa ar3.length sZc] 28)).cell? ⟨w9.heap.size, 0, none⟩ = some (.slice sZa ar3.length sZc) := by rw [World.cell?_alloc_new w9]; rfl
        replace hB := hB.step hbAZ
        replace hs3 := hs3.below hbAZ
        replace hz := hz.below hbAZ
        generalize hgZ : w9.heap.size = gZ at *
        generalize hSa : shiftAns ar3 z by' = sa'
        generalize hSk : shiftOk ar3 z by' = sk
        have hsl : sa'.length ≤ 1048576 := by rw [← hSa]; exact shiftAns_len ar3 z by'
        go_wp2_with fail
        refine (iShiftVars_v (by omega) hs3 (by omega) hz (by omega) (by omega) hSa hSk).mono ?_; rintro e w10 ⟨aP, mP, cP, rfl, oP, hb10⟩
        replace hB := hB.step hb10
        replace hs3 := hs3.below hb10
        replace hz := hz.below hb10
        replace hbxZ := hb10.at (World.block_lt_of_cell? _ ⟨_, 0, none⟩ hbxZ) hbxZ
        replace oP := oP.sl
        have eP := slI_n oP
        subst eP
        go_wp2_with fail
        refine (sShiftVars_v (by omega) hs3 (by omega) hz (by omega) (by omega) hSa hSk).mono ?_; rintro e w11 ⟨aQ, mQ, cQ, rfl, oQ, hb11⟩
        replace hB := hB.step hb11
        replace hs3 := hs3.below hb11
        replace hz := hz.below hb11
        replace hbxZ := hb11.at (World.block_lt_of_cell? _ ⟨_, 0, none⟩ hbxZ) hbxZ
        replace oP := oP.below hb11
        replace oQ := oQ.sl
        have eQ := slI_n oQ
        subst eQ
        have hz1 : (sk != sk) = false := by simp
        go_wp2_with fail
        refine (sameTerm_same _ _ _ _ _ _ sa' _ (by omega) oP oQ).mono ?_; rintro e w12 ⟨rfl, hb12⟩
        replace hB := hB.step hb12
        replace hs3 := hs3.below hb12
        replace hz := hz.below hb12
        replace hbxZ := hb12.at (World.block_lt_of_cell? _ ⟨_, 0, none⟩ hbxZ) hbxZ
        replace oP := oP.below hb12
        replace oQ := oQ.below hb12
        cases sk with
        | false =>
          go_wp2_with fail
          go_ret
          exact ⟨rfl, hB⟩
        | true =>
          have hsh := shift_same hSk
          rw [hSa] at hsh
          clear hSa hSk
          go_wp2_with fail
          refine (iSameUpTo_vv (by omega) hs3 (by omega) oP (by omega) hz hsh.2 hsh.1).mono ?_; rintro e w13 ⟨rfl, hb13⟩
          replace hB := hB.step hb13
          replace hs3 := hs3.below hb13
          replace hz := hz.below hb13
          replace hbxZ := hb13.at (World.block_lt_of_cell? _ ⟨_, 0, none⟩ hbxZ) hbxZ
          replace oP := oP.below hb13
          replace oQ := oQ.below hb13
          go_wp2_with fail
          go_ret
          exact ⟨rfl, hB⟩
      | true =>
        have htr := text_read2 hRd
        clear hRd
        go_wp2_with fail
        refine (iTermText_vv (by omega) hs2 hyl oY htr.2 htr.1).mono ?_; rintro e w9 ⟨rfl, hb9⟩
        replace hv1 := hv1.bel hb9
        replace hB := hB.step hb9
        replace hs2 := hs2.below hb9
        replace hbxY := hb9.at (World.block_lt_of_cell? _ ⟨_, 0, none⟩ hbxY) hbxY
        replace oY := oY.below hb9
        replace oZ := oZ.below hb9
        clear htr
        go_wp2_with fail
        refine (drawShiftVars_c n1 _ _ (by omega) hv1).mono ?_; rintro e w10 ⟨sv3, zv, ar3, z, by', rfl, hdr3, hs3, hz, hzl, hb1', hb2', hb10⟩
        replace hv1 := hv1.bel hb10
        replace hB := hB.step hb10
        replace hs2 := hs2.below hb10
        replace hbxY := hb10.at (World.block_lt_of_cell? _ ⟨_, 0, none⟩ hbxY) hbxY
        replace oY := oY.below hb10
        replace oZ := oZ.below hb10
        have hal3 := drawn_len hdr3
        obtain ⟨sZa, sZc, rfl⟩ := hs3.form
        obtain ⟨za, zc, rfl⟩ := hz.form
        have hbAZ := Bel.alloc0 w10 (.cells #[.slice sZa ar3.length sZc] 28)
        have hbxZ : (w10.alloc (.cells #[.slice sZa ar3.length sZc] 28)).cell? ⟨w10.heap.size, 0, none⟩ = some (.slice sZa ar3.length sZc) := by rw [World.cell?_alloc_new w10]; rfl
        replace hB := hB.step hbAZ
        replace hs3 := hs3.below hbAZ
        replace hz := hz.below hbAZ
        generalize hgZ : w10.heap.size = gZ at *
        generalize hSa : shiftAns ar3 z by' = sa'
        generalize hSk : shiftOk ar3 z by' = sk
        have hsl : sa'.length ≤ 1048576 := by rw [← hSa]; exact shiftAns_len ar3 z by'
        go_wp2_with fail
        refine (iShiftVars_v (by omega) hs3 (by omega) hz (by omega) (by omega) hSa hSk).mono ?_; rintro e w11 ⟨aP, mP, cP, rfl, oP, hb11⟩
        replace hB := hB.step hb11
        replace hs3 := hs3.below hb11
        replace hz := hz.below hb11
        replace hbxZ := hb11.at (World.block_lt_of_cell? _ ⟨_, 0, none⟩ hbxZ) hbxZ
        replace oP := oP.sl
        have eP := slI_n oP
        subst eP
        go_wp2_with fail
        refine (sShiftVars_v (by omega) hs3 (by omega) hz (by omega) (by omega) hSa hSk).mono ?_; rintro e w12 ⟨aQ, mQ, cQ, rfl, oQ, hb12⟩
        replace hB := hB.step hb12
        replace hs3 := hs3.below hb12
        replace hz := hz.below hb12
        replace hbxZ := hb12.at (World.block_lt_of_cell? _ ⟨_, 0, none⟩ hbxZ) hbxZ
        replace oP := oP.below hb12
        replace oQ := oQ.sl
        have eQ := slI_n oQ
        subst eQ
        have hz1 : (sk != sk) = false := by simp
        go_wp2_with fail
        refine (sameTerm_same _ _ _ _ _ _ sa' _ (by omega) oP oQ).mono ?_; rintro e w13 ⟨rfl, hb13⟩
        replace hB := hB.step hb13
        replace hs3 := hs3.below hb13
        replace hz := hz.below hb13
        replace hbxZ := hb13.at (World.block_lt_of_cell? _ ⟨_, 0, none⟩ hbxZ) hbxZ
        replace oP := oP.below hb13
        replace oQ := oQ.below hb13
        cases sk with
        | false =>
          go_wp2_with fail
          go_ret
          exact ⟨rfl, hB⟩
        | true =>
          have hsh := shift_same hSk
          rw [hSa] at hsh
          clear hSa hSk
          go_wp2_with fail
          refine (iSameUpTo_vv (by omega) hs3 (by omega) oP (by omega) hz hsh.2 hsh.1).mono ?_; rintro e w14 ⟨rfl, hb14⟩
          replace hB := hB.step hb14
          replace hs3 := hs3.below hb14
          replace hz := hz.below hb14
          replace hbxZ := hb14.at (World.block_lt_of_cell? _ ⟨_, 0, none⟩ hbxZ) hbxZ
          replace oP := oP.below hb14
          replace oQ := oQ.below hb14
          go_wp2_with fail
          go_ret
          exact ⟨rfl, hB⟩
    | true =>
      have hrt := read_text hGt (by rw [hTx]; omega)
      rw [hTx] at hrt
      clear hTx hGt
      have hx1 : decide ((tx.size : Int) ≤ 200) = true := by simp; omega
      have hx2 : ((tx.size : Int) != (tx.size : Int)) = false := by simp
      go_wp2_with fail
      refine (iReadTerm_vv (by omega) hs (by omega) hrt).mono ?_; rintro e w5 ⟨aM, mM, cM, rfl, oM, hb5⟩
      replace hv1 := hv1.bel hb5
      replace hB := hB.step hb5
      replace hs := hs.below hb5
      replace ht := ht.below hb5
      replace hbxX := hb5.at (World.block_lt_of_cell? _ ⟨_, 0, none⟩ hbxX) hbxX
      replace oM := oM.sl
      have eM := slI_n oM
      subst eM
      clear hrt
      go_wp2_with fail
      refine (sameTerm_same _ _ _ _ _ _ t _ (by omega) oM ht).mono ?_; rintro e w6 ⟨rfl, hb6⟩
      replace hv1 := hv1.bel hb6
      replace hB := hB.step hb6
      replace hs := hs.below hb6
      replace ht := ht.below hb6
      replace hbxX := hb6.at (World.block_lt_of_cell? _ ⟨_, 0, none⟩ hbxX) hbxX
      replace oM := oM.below hb6
      go_wp2_with fail
      refine (drawReadTerm_c n1 _ _ (by omega) hv1).mono ?_; rintro e w7 ⟨sv2, ar2, s2, rfl, hdr2, hs2, hs2z, hb7⟩
      replace hv1 := hv1.bel hb7
      replace hB := hB.step hb7
      replace hs := hs.below hb7
      replace ht := ht.below hb7
      replace hbxX := hb7.at (World.block_lt_of_cell? _ ⟨_, 0, none⟩ hbxX) hbxX
      replace oM := oM.below hb7
      have hal2 := drawn_len hdr2
      obtain ⟨sYa, sYc, rfl⟩ := hs2.form
      clear hs ht hbxX
      have hbAY := Bel.alloc0 w7 (.cells #[.slice sYa ar2.length sYc] 28)
      have hbxY : (w7.alloc (.cells #[.slice sYa ar2.length sYc] 28)).cell? ⟨w7.heap.size, 0, none⟩ = some (.slice sYa ar2.length sYc) := by rw [World.cell?_alloc_new w7]; rfl
      replace hv1 := hv1.bel hbAY
      replace hB := hB.step hbAY
      replace hs2 := hs2.below hbAY
      generalize hgY : w7.heap.size = gY at *
      generalize hRd : readAns ar2 s2 = rd
      obtain ⟨y, pl, rk⟩ := rd
      have hyl := read_len hRd
      go_wp2_with fail
      refine (iReadTerm_vv (by omega) hs2 (by omega) hRd).mono ?_; rintro e w8 ⟨aY, mY, cY, rfl, oY, hb8⟩
      replace hv1 := hv1.bel hb8
      replace hB := hB.step hb8
      replace hs2 := hs2.below hb8
      replace hbxY := hb8.at (World.block_lt_of_cell? _ ⟨_, 0, none⟩ hbxY) hbxY
      replace oY := oY.sl
      have eY := slI_n oY
      subst eY
      go_wp2_with fail
      refine (sReadTerm_vv (by omega) hs2 (by omega) hRd).mono ?_; rintro e w9 ⟨aZ, mZ, cZ, rfl, oZ, hb9⟩
      replace hv1 := hv1.bel hb9
      replace hB := hB.step hb9
      replace hs2 := hs2.below hb9
      replace hbxY := hb9.at (World.block_lt_of_cell? _ ⟨_, 0, none⟩ hbxY) hbxY
      replace oY := oY.below hb9
      replace oZ := oZ.sl
      have eZ := slI_n oZ
      subst eZ
      have hy1 : (rk != rk) = false := by simp
      have hy2 : ((pl : Int) != (pl : Int)) = false := by simp
      go_wp2_with fail
      refine (sameTerm_same _ _ _ _ _ _ y _ hyl oY oZ).mono ?_; rintro e w10 ⟨rfl, hb10⟩
      replace hv1 := hv1.bel hb10
      replace hB := hB.step hb10
      replace hs2 := hs2.below hb10
      replace hbxY := hb10.at (World.block_lt_of_cell? _ ⟨_, 0, none⟩ hbxY) hbxY
      replace oY := oY.below hb10
      replace oZ := oZ.below hb10
      cases rk with
      | false =>
        clear hRd
        go_wp2_with fail
        refine (drawShiftVars_c n1 _ _ (by omega) hv1).mono ?_; rintro e w11 ⟨sv3, zv, ar3, z, by', rfl, hdr3, hs3, hz, hzl, hb1', hb2', hb11⟩
        replace hv1 := hv1.bel hb11
        replace hB := hB.step hb11
        replace hs2 := hs2.below hb11
        replace hbxY := hb11.at (World.block_lt_of_cell? _ ⟨_, 0, none⟩ hbxY) hbxY
        replace oY := oY.below hb11
        replace oZ := oZ.below hb11
        have hal3 := drawn_len hdr3
        obtain ⟨sZa, sZc, rfl⟩ := hs3.form
        obtain ⟨za, zc, rfl⟩ := hz.form
        have hbAZ := Bel.alloc0 w11 (.cells #[.slice sZa ar3.length sZc] 28)
        have hbxZ : (w11.alloc (.cells #[.slice sZa ar3.length sZc] 28)).cell? ⟨w11.heap.size, 0, none⟩ = some (.slice sZa ar3.length sZc) := by rw [World.cell?_alloc_new w11]; rfl
        replace hB := hB.step hbAZ
        replace hs3 := hs3.below hbAZ
        replace hz := hz.below hbAZ
        generalize hgZ : w11.heap.size = gZ at *
        generalize hSa : shiftAns ar3 z by' = sa'
        generalize hSk : shiftOk ar3 z by' = sk
        have hsl : sa'.length ≤ 1048576 := by rw [← hSa]; exact shiftAns_len ar3 z by'
        go_wp2_with fail
        refine (iShiftVars_v (by omega) hs3 (by omega) hz (by omega) (by omega) hSa hSk).mono ?_; rintro e w12 ⟨aP, mP, cP, rfl, oP, hb12⟩
        replace hB := hB.step hb12
        replace hs3 := hs3.below hb12
        replace hz := hz.below hb12
        replace hbxZ := hb12.at (World.block_lt_of_cell? _ ⟨_, 0, none⟩ hbxZ) hbxZ
        replace oP := oP.sl
        have eP := slI_n oP
        subst eP
        go_wp2_with fail
        refine (sShiftVars_v (by omega) hs3 (by omega) hz (by omega) (by omega) hSa hSk).mono ?_; rintro e w13 ⟨aQ, mQ, cQ, rfl, oQ, hb13⟩
        replace hB := hB.step hb13
        replace hs3 := hs3.below hb13
        replace hz := hz.below hb13
        replace hbxZ := hb13.at (World.block_lt_of_cell? _ ⟨_, 0, none⟩ hbxZ) hbxZ
        replace oP := oP.below hb13
        replace oQ := oQ.sl
        have eQ := slI_n oQ
        subst eQ
        have hz1 : (sk != sk) = false := by simp
        go_wp2_with fail
        refine (sameTerm_same _ _ _ _ _ _ sa' _ (by omega) oP oQ).mono ?_; rintro e w14 ⟨rfl, hb14⟩
        replace hB := hB.step hb14
        replace hs3 := hs3.below hb14
        replace hz := hz.below hb14
        replace hbxZ := hb14.at (World.block_lt_of_cell? _ ⟨_, 0, none⟩ hbxZ) hbxZ
        replace oP := oP.below hb14
        replace oQ := oQ.below hb14
        cases sk with
        | false =>
          go_wp2_with fail
          go_ret
          exact ⟨rfl, hB⟩
        | true =>
          have hsh := shift_same hSk
          rw [hSa] at hsh
          clear hSa hSk
          go_wp2_with fail
          refine (iSameUpTo_vv (by omega) hs3 (by omega) oP (by omega) hz hsh.2 hsh.1).mono ?_; rintro e w15 ⟨rfl, hb15⟩
          replace hB := hB.step hb15
          replace hs3 := hs3.below hb15
          replace hz := hz.below hb15
          replace hbxZ := hb15.at (World.block_lt_of_cell? _ ⟨_, 0, none⟩ hbxZ) hbxZ
          replace oP := oP.below hb15
          replace oQ := oQ.below hb15
          go_wp2_with fail
          go_ret
          exact ⟨rfl, hB⟩
      | true =>
        have htr := text_read2 hRd
        clear hRd
        go_wp2_with fail
        refine (iTermText_vv (by omega) hs2 hyl oY htr.2 htr.1).mono ?_; rintro e w11 ⟨rfl, hb11⟩
        replace hv1 := hv1.bel hb11
        replace hB := hB.step hb11
        replace hs2 := hs2.below hb11
        replace hbxY := hb11.at (World.block_lt_of_cell? _ ⟨_, 0, none⟩ hbxY) hbxY
        replace oY := oY.below hb11
        replace oZ := oZ.below hb11
        clear htr
        go_wp2_with fail
        refine (drawShiftVars_c n1 _ _ (by omega) hv1).mono ?_; rintro e w12 ⟨sv3, zv, ar3, z, by', rfl, hdr3, hs3, hz, hzl, hb1', hb2', hb12⟩
        replace hv1 := hv1.bel hb12
        replace hB := hB.step hb12
        replace hs2 := hs2.below hb12
        replace hbxY := hb12.at (World.block_lt_of_cell? _ ⟨_, 0, none⟩ hbxY) hbxY
        replace oY := oY.below hb12
        replace oZ := oZ.below hb12
        have hal3 := drawn_len hdr3
        obtain ⟨sZa, sZc, rfl⟩ := hs3.form
        obtain ⟨za, zc, rfl⟩ := hz.form
        have hbAZ := Bel.alloc0 w12 (.cells #[.slice sZa ar3.length sZc] 28)
        have hbxZ : (w12.alloc (.cells #[.slice sZa ar3.length sZc] 28)).cell? ⟨w12.heap.size, 0, none⟩ = some (.slice sZa ar3.length sZc) := by rw [World.cell?_alloc_new w12]; rfl
        replace hB := hB.step hbAZ
        replace hs3 := hs3.below hbAZ
        replace hz := hz.below hbAZ
        generalize hgZ : w12.heap.size = gZ at *
        generalize hSa : shiftAns ar3 z by' = sa'
        generalize hSk : shiftOk ar3 z by' = sk
        have hsl : sa'.length ≤ 1048576 := by rw [← hSa]; exact shiftAns_len ar3 z by'
        go_wp2_with fail
        refine (iShiftVars_v (by omega) hs3 (by omega) hz (by omega) (by omega) hSa hSk).mono ?_; rintro e w13 ⟨aP, mP, cP, rfl, oP, hb13⟩
        replace hB := hB.step hb13
        replace hs3 := hs3.below hb13
        replace hz := hz.below hb13
        replace hbxZ := hb13.at (World.block_lt_of_cell? _ ⟨_, 0, none⟩ hbxZ) hbxZ
        replace oP := oP.sl
        have eP := slI_n oP
        subst eP
        go_wp2_with fail
        refine (sShiftVars_v (by omega) hs3 (by omega) hz (by omega) (by omega) hSa hSk).mono ?_; rintro e w14 ⟨aQ, mQ, cQ, rfl, oQ, hb14⟩
        replace hB := hB.step hb14
        replace hs3 := hs3.below hb14
        replace hz := hz.below hb14
        replace hbxZ := hb14.at (World.block_lt_of_cell? _ ⟨_, 0, none⟩ hbxZ) hbxZ
        replace oP := oP.below hb14
        replace oQ := oQ.sl
        have eQ := slI_n oQ
        subst eQ
        have hz1 : (sk != sk) = false := by simp
        go_wp2_with fail
        refine (sameTerm_same _ _ _ _ _ _ sa' _ (by omega) oP oQ).mono ?_; rintro e w15 ⟨rfl, hb15⟩
        replace hB := hB.step hb15
        replace hs3 := hs3.below hb15
        replace hz := hz.below hb15
        replace hbxZ := hb15.at (World.block_lt_of_cell? _ ⟨_, 0, none⟩ hbxZ) hbxZ
        replace oP := oP.below hb15
        replace oQ := oQ.below hb15
        cases sk with
        | false =>
          go_wp2_with fail
          go_ret
          exact ⟨rfl, hB⟩
        | true =>
          have hsh := shift_same hSk
          rw [hSa] at hsh
          clear hSa hSk
          go_wp2_with fail
          refine (iSameUpTo_vv (by omega) hs3 (by omega) oP (by omega) hz hsh.2 hsh.1).mono ?_; rintro e w16 ⟨rfl, hb16⟩
          replace hB := hB.step hb16
          replace hs3 := hs3.below hb16
          replace hz := hz.below hb16
          replace hbxZ := hb16.at (World.block_lt_of_cell? _ ⟨_, 0, none⟩ hbxZ) hbxZ
          replace oP := oP.below hb16
          replace oQ := oQ.below hb16
          go_wp2_with fail
          go_ret
          exact ⟨rfl, hB⟩
  · go_enter Try.func5, Try.ntmps5
    go_wp2_with fail
    refine (big_yes n0 n1 _ _ _ _ _ hn0 hbig).mono ?_; rintro e w1 ⟨rfl, hb1⟩
    go_wp2_with fail
    go_ret
    exact ⟨rfl, hb1⟩
end Go.Proofs.Ytkbgglejhdodoaa
