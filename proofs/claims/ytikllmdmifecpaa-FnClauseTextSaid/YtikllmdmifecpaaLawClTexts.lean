/- FnClauseText: the law's walk. -/
import Derived.Test.YtikllmdmifecpaaMgClTexts11
import Derived.Deep.RegionHeld3
namespace Go.Proofs.Ytikllmdmifecpaa
open Go.RowKit

set_option maxRecDepth 100000 in
set_option maxHeartbeats 4000000 in
theorem lawClTexts (w : World) (v0 : Value) (n0 : Nat) (hn0 : n0 ≤ 9223372036854775807) (hv0 : SlB w.heap.size w v0 n0) (v1 : Value) (n1 : Nat) (hn1 : n1 ≤ 9223372036854775807) (hv1 : SlB w.heap.size w v1 n1) :
    Calls Try.prog 8 #[v0, v1] w (RetV w (.bool true)) := by
  obtain ⟨ca, cc, rfl⟩ := hv0.form
  obtain ⟨ma, mc, rfl⟩ := hv1.form
  by_cases hbig : n0 ≤ 1048576 ∧ n0 + n1 ≤ 1048576
  · go_enter Try.func8, Try.ntmps8
    have hB := Bel.rfl' w
    go_wp2_with fail
    refine (big_no n0 n1 _ _ _ _ _ hbig.1 hbig.2).mono ?_; rintro e w1 ⟨rfl, hb1⟩
    replace hv0 := hv0.bel hb1
    replace hv1 := hv1.bel hb1
    replace hB := hB.step hb1
    go_wp2_with fail
    refine (drawClauseText_c n0 _ _ hbig.1 hv0).mono ?_; rintro e w2 ⟨sv, tv, ar, t, rfl, hdr, hs, ht, hfine, hb2⟩
    replace hv0 := hv0.bel hb2
    replace hv1 := hv1.bel hb2
    replace hB := hB.step hb2
    clear hv0
    have hal := drawn_len hdr
    have hsum := Nat.le_trans hfine.sum (show 100000 ≤ 1048576 by omega)
    obtain ⟨sXa, sXc, rfl⟩ := hs.form
    obtain ⟨ta, tc, rfl⟩ := ht.form
    have hbAX := Bel.alloc0 w2 (.cells #[.slice sXa ar.length sXc] 29)
    have hbxX : (w2.alloc (.cells #[.slice sXa ar.length sXc] 29)).cell? ⟨w2.heap.size, 0, none⟩ = some (.slice sXa ar.length sXc) := by rw [World.cell?_alloc_new w2]; rfl
    replace hv1 := hv1.bel hbAX
    replace hB := hB.step hbAX
    replace hs := hs.below hbAX
    replace ht := ht.below hbAX
    generalize hgX : w2.heap.size = gX at *
    have hsz := textC_size ar t
    generalize hTx : textClA ar t = tx at *
    generalize hGt : goodClause ar t = gt
    go_wp2_with fail
    refine (iClauseText_vv (by omega) hs hsum ht hTx hGt).mono ?_; rintro e w3 ⟨rfl, hb3⟩
    replace hv1 := hv1.bel hb3
    replace hB := hB.step hb3
    replace hs := hs.below hb3
    replace ht := ht.below hb3
    replace hbxX := hb3.at (World.block_lt_of_cell? _ ⟨_, 0, none⟩ hbxX) hbxX
    go_wp2_with fail
    refine (sClauseText_vv (by omega) hs hsum ht hTx hGt).mono ?_; rintro e w4 ⟨rfl, hb4⟩
    replace hv1 := hv1.bel hb4
    replace hB := hB.step hb4
    replace hs := hs.below hb4
    replace ht := ht.below hb4
    replace hbxX := hb4.at (World.block_lt_of_cell? _ ⟨_, 0, none⟩ hbxX) hbxX
    have hq1 : (gt != gt) = false := by simp
    cases gt with
    | false =>
      clear hTx hGt
      go_wp2_with fail
      refine (drawReadClause_c n1 _ _ (by omega) hv1).mono ?_; rintro e w5 ⟨sv2, ar2, s2, rfl, hdr2, hs2, hs2z, hb5⟩
      replace hv1 := hv1.bel hb5
      replace hB := hB.step hb5
      replace hs := hs.below hb5
      replace ht := ht.below hb5
      replace hbxX := hb5.at (World.block_lt_of_cell? _ ⟨_, 0, none⟩ hbxX) hbxX
      have hal2 := drawn_len hdr2
      obtain ⟨sYa, sYc, rfl⟩ := hs2.form
      clear hs ht hbxX
      have hbAY := Bel.alloc0 w5 (.cells #[.slice sYa ar2.length sYc] 29)
      have hbxY : (w5.alloc (.cells #[.slice sYa ar2.length sYc] 29)).cell? ⟨w5.heap.size, 0, none⟩ = some (.slice sYa ar2.length sYc) := by rw [World.cell?_alloc_new w5]; rfl
      replace hv1 := hv1.bel hbAY
      replace hB := hB.step hbAY
      replace hs2 := hs2.below hbAY
      generalize hgY : w5.heap.size = gY at *
      generalize hRd : readClAns ar2 s2 = rd
      obtain ⟨y, pl, rk⟩ := rd
      obtain ⟨hyl, hpl⟩ := readCl_facts hRd
      have hys := shortC_of_sum hyl
      go_wp2_with fail
      refine (iReadClause_vv (by omega) hs2 (by omega) hRd).mono ?_; rintro e w6 ⟨aY, mY, cY, rfl, oY, hb6⟩
      replace hv1 := hv1.bel hb6
      replace hB := hB.step hb6
      replace hs2 := hs2.below hb6
      replace hbxY := hb6.at (World.block_lt_of_cell? _ ⟨_, 0, none⟩ hbxY) hbxY
      replace oY := oY.sl
      have eY := slC_n oY
      subst eY
      go_wp2_with fail
      refine (sReadClause_vv (by omega) hs2 (by omega) hRd).mono ?_; rintro e w7 ⟨aZ, mZ, cZ, rfl, oZ, hb7⟩
      replace hv1 := hv1.bel hb7
      replace hB := hB.step hb7
      replace hs2 := hs2.below hb7
      replace hbxY := hb7.at (World.block_lt_of_cell? _ ⟨_, 0, none⟩ hbxY) hbxY
      replace oY := oY.below hb7
      replace oZ := oZ.sl
      have eZ := slC_n oZ
      subst eZ
      have hy1 : (rk != rk) = false := by simp
      have hy2 : ((pl : Int) != (pl : Int)) = false := by simp
      go_wp2_with fail
      refine (sameLits_same _ _ _ _ _ _ y _ hys oY oZ).mono ?_; rintro e w8 ⟨rfl, hb8⟩
      replace hv1 := hv1.bel hb8
      replace hB := hB.step hb8
      replace hs2 := hs2.below hb8
      replace hbxY := hb8.at (World.block_lt_of_cell? _ ⟨_, 0, none⟩ hbxY) hbxY
      replace oY := oY.below hb8
      replace oZ := oZ.below hb8
      cases rk with
      | false =>
        clear hRd
        have hz0 : decide ((0 : Int) ≤ (pl : Int)) = true := decide_eq_true (by omega)
        have hz1 : decide ((pl : Int) ≤ (s2.size : Int)) = true := decide_eq_true (by omega)
        go_wp2_with fail
        go_ret
        exact ⟨rfl, hB⟩
      | true =>
        have htr := textCl_read hRd
        clear hRd
        go_wp2_with fail
        refine (iClauseText_vv (by omega) hs2 hyl oY htr.2 htr.1).mono ?_; rintro e w9 ⟨rfl, hb9⟩
        replace hv1 := hv1.bel hb9
        replace hB := hB.step hb9
        replace hs2 := hs2.below hb9
        replace hbxY := hb9.at (World.block_lt_of_cell? _ ⟨_, 0, none⟩ hbxY) hbxY
        replace oY := oY.below hb9
        replace oZ := oZ.below hb9
        clear htr
        go_wp2_with fail
        go_ret
        exact ⟨rfl, hB⟩
    | true =>
      by_cases h1000 : tx.size ≤ 1000
      ·
        have hrt := readCl_text hGt (by rw [hTx]; omega)
        rw [hTx] at hrt
        clear hTx hGt
        have hx1 : decide ((tx.size : Int) ≤ 1000) = true := decide_eq_true (by omega)
        have hx2 : ((tx.size : Int) != (tx.size : Int)) = false := by simp
        go_wp2_with fail
        refine (iReadClause_vv (by omega) hs (by omega) hrt).mono ?_; rintro e w5 ⟨aM, mM, cM, rfl, oM, hb5⟩
        replace hv1 := hv1.bel hb5
        replace hB := hB.step hb5
        replace hs := hs.below hb5
        replace ht := ht.below hb5
        replace hbxX := hb5.at (World.block_lt_of_cell? _ ⟨_, 0, none⟩ hbxX) hbxX
        replace oM := oM.sl
        have eM := slC_n oM
        subst eM
        clear hrt
        go_wp2_with fail
        refine (sameLits_same _ _ _ _ _ _ t _ (shortC_of_sum hsum) oM ht).mono ?_; rintro e w6 ⟨rfl, hb6⟩
        replace hv1 := hv1.bel hb6
        replace hB := hB.step hb6
        replace hs := hs.below hb6
        replace ht := ht.below hb6
        replace hbxX := hb6.at (World.block_lt_of_cell? _ ⟨_, 0, none⟩ hbxX) hbxX
        replace oM := oM.below hb6
        go_wp2_with fail
        refine (drawReadClause_c n1 _ _ (by omega) hv1).mono ?_; rintro e w7 ⟨sv2, ar2, s2, rfl, hdr2, hs2, hs2z, hb7⟩
        replace hv1 := hv1.bel hb7
        replace hB := hB.step hb7
        replace hs := hs.below hb7
        replace ht := ht.below hb7
        replace hbxX := hb7.at (World.block_lt_of_cell? _ ⟨_, 0, none⟩ hbxX) hbxX
        replace oM := oM.below hb7
        have hal2 := drawn_len hdr2
        obtain ⟨sYa, sYc, rfl⟩ := hs2.form
        clear hs ht hbxX
        have hbAY := Bel.alloc0 w7 (.cells #[.slice sYa ar2.length sYc] 29)
        have hbxY : (w7.alloc (.cells #[.slice sYa ar2.length sYc] 29)).cell? ⟨w7.heap.size, 0, none⟩ = some (.slice sYa ar2.length sYc) := by rw [World.cell?_alloc_new w7]; rfl
        replace hv1 := hv1.bel hbAY
        replace hB := hB.step hbAY
        replace hs2 := hs2.below hbAY
        generalize hgY : w7.heap.size = gY at *
        generalize hRd : readClAns ar2 s2 = rd
        obtain ⟨y, pl, rk⟩ := rd
        obtain ⟨hyl, hpl⟩ := readCl_facts hRd
        have hys := shortC_of_sum hyl
        go_wp2_with fail
        refine (iReadClause_vv (by omega) hs2 (by omega) hRd).mono ?_; rintro e w8 ⟨aY, mY, cY, rfl, oY, hb8⟩
        replace hv1 := hv1.bel hb8
        replace hB := hB.step hb8
        replace hs2 := hs2.below hb8
        replace hbxY := hb8.at (World.block_lt_of_cell? _ ⟨_, 0, none⟩ hbxY) hbxY
        replace oY := oY.sl
        have eY := slC_n oY
        subst eY
        go_wp2_with fail
        refine (sReadClause_vv (by omega) hs2 (by omega) hRd).mono ?_; rintro e w9 ⟨aZ, mZ, cZ, rfl, oZ, hb9⟩
        replace hv1 := hv1.bel hb9
        replace hB := hB.step hb9
        replace hs2 := hs2.below hb9
        replace hbxY := hb9.at (World.block_lt_of_cell? _ ⟨_, 0, none⟩ hbxY) hbxY
        replace oY := oY.below hb9
        replace oZ := oZ.sl
        have eZ := slC_n oZ
        subst eZ
        have hy1 : (rk != rk) = false := by simp
        have hy2 : ((pl : Int) != (pl : Int)) = false := by simp
        go_wp2_with fail
        refine (sameLits_same _ _ _ _ _ _ y _ hys oY oZ).mono ?_; rintro e w10 ⟨rfl, hb10⟩
        replace hv1 := hv1.bel hb10
        replace hB := hB.step hb10
        replace hs2 := hs2.below hb10
        replace hbxY := hb10.at (World.block_lt_of_cell? _ ⟨_, 0, none⟩ hbxY) hbxY
        replace oY := oY.below hb10
        replace oZ := oZ.below hb10
        cases rk with
        | false =>
          clear hRd
          have hz0 : decide ((0 : Int) ≤ (pl : Int)) = true := decide_eq_true (by omega)
          have hz1 : decide ((pl : Int) ≤ (s2.size : Int)) = true := decide_eq_true (by omega)
          go_wp2_with fail
          go_ret
          exact ⟨rfl, hB⟩
        | true =>
          have htr := textCl_read hRd
          clear hRd
          go_wp2_with fail
          refine (iClauseText_vv (by omega) hs2 hyl oY htr.2 htr.1).mono ?_; rintro e w11 ⟨rfl, hb11⟩
          replace hv1 := hv1.bel hb11
          replace hB := hB.step hb11
          replace hs2 := hs2.below hb11
          replace hbxY := hb11.at (World.block_lt_of_cell? _ ⟨_, 0, none⟩ hbxY) hbxY
          replace oY := oY.below hb11
          replace oZ := oZ.below hb11
          clear htr
          go_wp2_with fail
          go_ret
          exact ⟨rfl, hB⟩
      ·
        clear hTx hGt
        have hx1 : decide ((tx.size : Int) ≤ 1000) = false := decide_eq_false (by omega)
        go_wp2_with fail
        refine (drawReadClause_c n1 _ _ (by omega) hv1).mono ?_; rintro e w5 ⟨sv2, ar2, s2, rfl, hdr2, hs2, hs2z, hb5⟩
        replace hv1 := hv1.bel hb5
        replace hB := hB.step hb5
        replace hs := hs.below hb5
        replace ht := ht.below hb5
        replace hbxX := hb5.at (World.block_lt_of_cell? _ ⟨_, 0, none⟩ hbxX) hbxX
        have hal2 := drawn_len hdr2
        obtain ⟨sYa, sYc, rfl⟩ := hs2.form
        clear hs ht hbxX
        have hbAY := Bel.alloc0 w5 (.cells #[.slice sYa ar2.length sYc] 29)
        have hbxY : (w5.alloc (.cells #[.slice sYa ar2.length sYc] 29)).cell? ⟨w5.heap.size, 0, none⟩ = some (.slice sYa ar2.length sYc) := by rw [World.cell?_alloc_new w5]; rfl
        replace hv1 := hv1.bel hbAY
        replace hB := hB.step hbAY
        replace hs2 := hs2.below hbAY
        generalize hgY : w5.heap.size = gY at *
        generalize hRd : readClAns ar2 s2 = rd
        obtain ⟨y, pl, rk⟩ := rd
        obtain ⟨hyl, hpl⟩ := readCl_facts hRd
        have hys := shortC_of_sum hyl
        go_wp2_with fail
        refine (iReadClause_vv (by omega) hs2 (by omega) hRd).mono ?_; rintro e w6 ⟨aY, mY, cY, rfl, oY, hb6⟩
        replace hv1 := hv1.bel hb6
        replace hB := hB.step hb6
        replace hs2 := hs2.below hb6
        replace hbxY := hb6.at (World.block_lt_of_cell? _ ⟨_, 0, none⟩ hbxY) hbxY
        replace oY := oY.sl
        have eY := slC_n oY
        subst eY
        go_wp2_with fail
        refine (sReadClause_vv (by omega) hs2 (by omega) hRd).mono ?_; rintro e w7 ⟨aZ, mZ, cZ, rfl, oZ, hb7⟩
        replace hv1 := hv1.bel hb7
        replace hB := hB.step hb7
        replace hs2 := hs2.below hb7
        replace hbxY := hb7.at (World.block_lt_of_cell? _ ⟨_, 0, none⟩ hbxY) hbxY
        replace oY := oY.below hb7
        replace oZ := oZ.sl
        have eZ := slC_n oZ
        subst eZ
        have hy1 : (rk != rk) = false := by simp
        have hy2 : ((pl : Int) != (pl : Int)) = false := by simp
        go_wp2_with fail
        refine (sameLits_same _ _ _ _ _ _ y _ hys oY oZ).mono ?_; rintro e w8 ⟨rfl, hb8⟩
        replace hv1 := hv1.bel hb8
        replace hB := hB.step hb8
        replace hs2 := hs2.below hb8
        replace hbxY := hb8.at (World.block_lt_of_cell? _ ⟨_, 0, none⟩ hbxY) hbxY
        replace oY := oY.below hb8
        replace oZ := oZ.below hb8
        cases rk with
        | false =>
          clear hRd
          have hz0 : decide ((0 : Int) ≤ (pl : Int)) = true := decide_eq_true (by omega)
          have hz1 : decide ((pl : Int) ≤ (s2.size : Int)) = true := decide_eq_true (by omega)
          go_wp2_with fail
          go_ret
          exact ⟨rfl, hB⟩
        | true =>
          have htr := textCl_read hRd
          clear hRd
          go_wp2_with fail
          refine (iClauseText_vv (by omega) hs2 hyl oY htr.2 htr.1).mono ?_; rintro e w9 ⟨rfl, hb9⟩
          replace hv1 := hv1.bel hb9
          replace hB := hB.step hb9
          replace hs2 := hs2.below hb9
          replace hbxY := hb9.at (World.block_lt_of_cell? _ ⟨_, 0, none⟩ hbxY) hbxY
          replace oY := oY.below hb9
          replace oZ := oZ.below hb9
          clear htr
          go_wp2_with fail
          go_ret
          exact ⟨rfl, hB⟩
  · go_enter Try.func8, Try.ntmps8
    go_wp2_with fail
    refine (big_yes n0 n1 _ _ _ _ _ hn0 hbig).mono ?_; rintro e w1 ⟨rfl, hb1⟩
    go_wp2_with fail
    go_ret
    exact ⟨rfl, hb1⟩
end Go.Proofs.Ytikllmdmifecpaa
