/- FnPutFor: the law's walk. -/
import Derived.Test.YteegjnobmbcjiaaMgPutFor12
import Derived.Deep.RegionHeld3
namespace Go.Proofs.Yteegjnobmbcjiaa
open Go.RowKit

set_option maxRecDepth 100000 in
set_option maxHeartbeats 16000000 in
theorem lawPutFor (w : World) (v0 : Value) (n0 : Nat) (hn0 : n0 ≤ 9223372036854775807) (hv0 : SlB w.heap.size w v0 n0) (v1 : Value) (n1 : Nat) (hn1 : n1 ≤ 9223372036854775807) (hv1 : SlB w.heap.size w v1 n1) :
    Calls Try.prog 6 #[v0, v1] w (RetV w (.bool true)) := by
  obtain ⟨ca, cc, rfl⟩ := hv0.form
  obtain ⟨ma, mc, rfl⟩ := hv1.form
  by_cases hbig : n0 ≤ 1048576 ∧ n0 + n1 ≤ 1048576
  · go_enter Try.func6, Try.ntmps6
    have hB := Bel.rfl' w
    go_wp2_with fail
    refine (big_no n0 n1 _ _ _ _ _ hbig.1 hbig.2).mono ?_; rintro e w1 ⟨rfl, hb1⟩
    replace hv0 := hv0.bel hb1
    replace hv1 := hv1.bel hb1
    replace hB := hB.step hb1
    go_wp2_with fail
    refine (drawApply_c n0 _ _ hbig.1 hv0).mono ?_; rintro e w2 ⟨sv, lv, tv, ar, b, t, rfl, hdr, hs, hlv, hl12, hlj, ht, htl, hb2⟩
    replace hv0 := hv0.bel hb2
    replace hv1 := hv1.bel hb2
    replace hB := hB.step hb2
    clear hv0
    have hal := drawn_len hdr
    have hshb : short b := ⟨by omega, fun j _ => Nat.le_trans (hlj j) (by omega)⟩
    obtain ⟨sXa, sXc, rfl⟩ := hs.form
    obtain ⟨ta, tc, rfl⟩ := ht.form
    obtain ⟨la, lc, rfl⟩ := hlv.form
    have hbAX := Bel.alloc0 w2 (.cells #[.slice sXa ar.length sXc] 30)
    have hbxX : (w2.alloc (.cells #[.slice sXa ar.length sXc] 30)).cell? ⟨w2.heap.size, 0, none⟩ = some (.slice sXa ar.length sXc) := by rw [World.cell?_alloc_new w2]; rfl
    replace hv1 := hv1.bel hbAX
    replace hB := hB.step hbAX
    replace hs := hs.below hbAX
    replace hlv := hlv.below hbAX
    replace ht := ht.below hbAX
    generalize hgX : w2.heap.size = gX at *
    go_wp2_with fail
    refine (worldOf_c _ n1 _ _ _ _ ar _ (by omega) hdr hs hv1).mono ?_; rintro e w3 ⟨wv, Z, tb, rfl, hw, hw27, hwI, hwl, hZ1, hZ3, hb3⟩
    replace hv1 := hv1.bel hb3
    replace hB := hB.step hb3
    replace hs := hs.below hb3
    replace hlv := hlv.below hb3
    replace ht := ht.below hb3
    replace hbxX := hb3.at (World.block_lt_of_cell? _ ⟨_, 0, none⟩ hbxX) hbxX
    obtain ⟨wa, wc, rfl⟩ := hw.form
    have hshw : short tb := ⟨by omega, fun j _ => Nat.le_trans (hw27 j) (by omega)⟩
    clear hwl hw27
    have hbAW := Bel.alloc0 w3 (.cells #[.int .i64 Z, .slice wa tb.length wc] 58)
    have hbxW : (w3.alloc (.cells #[.int .i64 Z, .slice wa tb.length wc] 58)).cell? ⟨w3.heap.size, 0, none⟩ = some (.int .i64 Z) := by rw [World.cell?_alloc_new w3]; rfl
    have hbyW : (w3.alloc (.cells #[.int .i64 Z, .slice wa tb.length wc] 58)).cell? ⟨w3.heap.size, 1, none⟩ = some (.slice wa tb.length wc) := by rw [World.cell?_alloc_new w3]; rfl
    replace hv1 := hv1.bel hbAW
    replace hB := hB.step hbAW
    replace hs := hs.below hbAW
    replace hlv := hlv.below hbAW
    replace ht := ht.below hbAW
    replace hbxX := hbAW.at (World.block_lt_of_cell? _ ⟨_, 0, none⟩ hbxX) hbxX
    replace hw := hw.below hbAW
    generalize hgW : w3.heap.size = gW at *
    go_wp2_with fail
    refine (envOf_c _ n1 _ _ Z _ _ tb _ (by omega) hZ1 hZ3 hw hv1).mono ?_; rintro e w4 ⟨ea, en, ec, env, rfl, hE, hEok, hb4⟩
    replace hv1 := hv1.bel hb4
    replace hB := hB.step hb4
    replace hs := hs.below hb4
    replace hlv := hlv.below hb4
    replace ht := ht.below hb4
    replace hbxX := hb4.at (World.block_lt_of_cell? _ ⟨_, 0, none⟩ hbxX) hbxX
    replace hw := hw.below hb4
    replace hbxW := hb4.at (World.block_lt_of_cell? _ ⟨_, 0, none⟩ hbxW) hbxW
    replace hbyW := hb4.at (World.block_lt_of_cell? _ ⟨_, 1, none⟩ hbyW) hbyW
    replace hE := hE.sl
    have eE := slI_n hE
    subst eE
    have hel : env.length ≤ 1048576 := by have := (okEnv_iff.1 hEok).1; omega
    have hpl := applyAns_len ar b t
    generalize hP : applyAns ar b t = p at hpl
    generalize hO : applyOk ar b t = ok
    go_wp2_with fail
    refine (iApply_ww (by omega) hs hshb hlv (by omega) ht hP hO).mono ?_; rintro e w5 ⟨aP, mP, cP, rfl, oP, hb5⟩
    replace hv1 := hv1.bel hb5
    replace hB := hB.step hb5
    replace hs := hs.below hb5
    replace hlv := hlv.below hb5
    replace ht := ht.below hb5
    replace hbxX := hb5.at (World.block_lt_of_cell? _ ⟨_, 0, none⟩ hbxX) hbxX
    replace hw := hw.below hb5
    replace hbxW := hb5.at (World.block_lt_of_cell? _ ⟨_, 0, none⟩ hbxW) hbxW
    replace hE := hE.below hb5
    replace hbyW := hb5.at (World.block_lt_of_cell? _ ⟨_, 1, none⟩ hbyW) hbyW
    replace oP := oP.sl
    have eP := slI_n oP
    subst eP
    cases ok with
    | false =>
      clear hP hO oP hE hw hs ht hlv hbxX hbxW hbyW
      go_wp2_with fail
      refine (drawEvalIn_c n1 _ _ (by omega) hv1).mono ?_; rintro e w6 ⟨sv2, wv2, tv2, ev2, ar2, Z2, tb2, t2, env2, rfl, hdr2, hs2, hw2, htb6, htb27, ht2, ht2l, he2, he2l, hb6⟩
      replace hv1 := hv1.bel hb6
      replace hB := hB.step hb6
      have hal2 := drawn_len hdr2
      obtain ⟨sYa, sYc, rfl⟩ := hs2.form
      obtain ⟨w2a, w2c, rfl⟩ := hw2.form
      obtain ⟨t2a, t2c, rfl⟩ := ht2.form
      obtain ⟨e2a, e2c, rfl⟩ := he2.form
      have hsh2 : short tb2 := ⟨by omega, fun j _ => Nat.le_trans (htb27 j) (by omega)⟩
      have hel2 : env2.length ≤ 1048576 := by omega
      clear htb6 htb27 he2l
      have hbAY := Bel.alloc2 w6 (.cells #[.slice sYa ar2.length sYc] 30) (.cells #[.int .i64 (Z2 : Int), .slice w2a tb2.length w2c] 58)
      have hbY0 : ((w6.alloc (.cells #[.slice sYa ar2.length sYc] 30)).alloc (.cells #[.int .i64 (Z2 : Int), .slice w2a tb2.length w2c] 58)).cell? ⟨w6.heap.size, 0, none⟩ = some (.slice sYa ar2.length sYc) := by simp [go_sem]
      have hbY1 : ((w6.alloc (.cells #[.slice sYa ar2.length sYc] 30)).alloc (.cells #[.int .i64 (Z2 : Int), .slice w2a tb2.length w2c] 58)).cell? ⟨w6.heap.size + 1, 0, none⟩ = some (.int .i64 (Z2 : Int)) := by simp [go_sem]
      have hbY2 : ((w6.alloc (.cells #[.slice sYa ar2.length sYc] 30)).alloc (.cells #[.int .i64 (Z2 : Int), .slice w2a tb2.length w2c] 58)).cell? ⟨w6.heap.size + 1, 1, none⟩ = some (.slice w2a tb2.length w2c) := by simp [go_sem]
      replace hv1 := hv1.bel hbAY
      replace hB := hB.step hbAY
      replace hs2 := hs2.below hbAY
      replace hw2 := hw2.below hbAY
      replace ht2 := ht2.below hbAY
      replace he2 := he2.below hbAY
      generalize hgY : w6.heap.size = gY at *
      generalize hY : evalAns ar2 Z2 tb2 t2 env2 = y2
      generalize hK : evalOk ar2 Z2 tb2 t2 env2 = k2
      go_wp2_with fail
      refine (iEvalIn_vv (by omega) hs2 hsh2 hw2 (by omega) ht2 hel2 he2 hY hK).mono ?_; rintro e w7 ⟨rfl, hb7⟩
      replace hv1 := hv1.bel hb7
      replace hB := hB.step hb7
      replace hs2 := hs2.below hb7
      replace hw2 := hw2.below hb7
      replace ht2 := ht2.below hb7
      replace he2 := he2.below hb7
      replace hbY0 := hb7.at (World.block_lt_of_cell? _ ⟨_, 0, none⟩ hbY0) hbY0
      replace hbY1 := hb7.at (World.block_lt_of_cell? _ ⟨_, 0, none⟩ hbY1) hbY1
      replace hbY2 := hb7.at (World.block_lt_of_cell? _ ⟨_, 1, none⟩ hbY2) hbY2
      go_wp2_with fail
      refine (sEvalIn_vv (by omega) hs2 hsh2 hw2 (by omega) ht2 hel2 he2 hY hK).mono ?_; rintro e w8 ⟨rfl, hb8⟩
      replace hv1 := hv1.bel hb8
      replace hB := hB.step hb8
      replace hs2 := hs2.below hb8
      replace hw2 := hw2.below hb8
      replace ht2 := ht2.below hb8
      replace he2 := he2.below hb8
      replace hbY0 := hb8.at (World.block_lt_of_cell? _ ⟨_, 0, none⟩ hbY0) hbY0
      replace hbY1 := hb8.at (World.block_lt_of_cell? _ ⟨_, 0, none⟩ hbY1) hbY1
      replace hbY2 := hb8.at (World.block_lt_of_cell? _ ⟨_, 1, none⟩ hbY2) hbY2
      clear hY hK ht2 he2
      go_wp2_with fail
      refine (drawHoldsAt_c n1 _ _ (by omega) hv1).mono ?_; rintro e w9 ⟨sv3, wv3, tv3, ev3, ar3, Z3, tb3, c3, env3, rfl, hdr3, hs3, hw3, htb6, htb27, hc3, hfine3, he3, he3l, hb9⟩
      replace hv1 := hv1.bel hb9
      replace hB := hB.step hb9
      replace hs2 := hs2.below hb9
      replace hw2 := hw2.below hb9
      replace hbY0 := hb9.at (World.block_lt_of_cell? _ ⟨_, 0, none⟩ hbY0) hbY0
      replace hbY1 := hb9.at (World.block_lt_of_cell? _ ⟨_, 0, none⟩ hbY1) hbY1
      replace hbY2 := hb9.at (World.block_lt_of_cell? _ ⟨_, 1, none⟩ hbY2) hbY2
      have hal3 := drawn_len hdr3
      have hsum3 := Nat.le_trans hfine3.sum (show 100000 ≤ 1048576 by omega)
      obtain ⟨sZa, sZc, rfl⟩ := hs3.form
      obtain ⟨w3a, w3c, rfl⟩ := hw3.form
      obtain ⟨t3a, t3c, rfl⟩ := hc3.form
      obtain ⟨e3a, e3c, rfl⟩ := he3.form
      have hsh3 : short tb3 := ⟨by omega, fun j _ => Nat.le_trans (htb27 j) (by omega)⟩
      have hel3 : env3.length ≤ 1048576 := by omega
      clear htb6 htb27 he3l hv1
      have hbAZ := Bel.alloc2 w9 (.cells #[.slice sZa ar3.length sZc] 30) (.cells #[.int .i64 (Z3 : Int), .slice w3a tb3.length w3c] 58)
      have hbZ0 : ((w9.alloc (.cells #[.slice sZa ar3.length sZc] 30)).alloc (.cells #[.int .i64 (Z3 : Int), .slice w3a tb3.length w3c] 58)).cell? ⟨w9.heap.size, 0, none⟩ = some (.slice sZa ar3.length sZc) := by simp [go_sem]
      have hbZ1 : ((w9.alloc (.cells #[.slice sZa ar3.length sZc] 30)).alloc (.cells #[.int .i64 (Z3 : Int), .slice w3a tb3.length w3c] 58)).cell? ⟨w9.heap.size + 1, 0, none⟩ = some (.int .i64 (Z3 : Int)) := by simp [go_sem]
      have hbZ2 : ((w9.alloc (.cells #[.slice sZa ar3.length sZc] 30)).alloc (.cells #[.int .i64 (Z3 : Int), .slice w3a tb3.length w3c] 58)).cell? ⟨w9.heap.size + 1, 1, none⟩ = some (.slice w3a tb3.length w3c) := by simp [go_sem]
      replace hB := hB.step hbAZ
      replace hs2 := hs2.below hbAZ
      replace hw2 := hw2.below hbAZ
      replace hbY0 := hbAZ.at (World.block_lt_of_cell? _ ⟨_, 0, none⟩ hbY0) hbY0
      replace hbY1 := hbAZ.at (World.block_lt_of_cell? _ ⟨_, 0, none⟩ hbY1) hbY1
      replace hs3 := hs3.below hbAZ
      replace hw3 := hw3.below hbAZ
      replace hc3 := hc3.below hbAZ
      replace he3 := he3.below hbAZ
      replace hbY2 := hbAZ.at (World.block_lt_of_cell? _ ⟨_, 1, none⟩ hbY2) hbY2
      generalize hgZ : w9.heap.size = gZ at *
      generalize hY : holdsAns ar3 Z3 tb3 c3 env3 = y3
      generalize hK : holdsOk ar3 Z3 tb3 c3 env3 = k3
      go_wp2_with fail
      refine (iHoldsAt_ww (by omega) hs3 hsh3 hw3 hsum3 hc3 hel3 he3 hY hK).mono ?_; rintro e w10 ⟨rfl, hb10⟩
      replace hB := hB.step hb10
      replace hs2 := hs2.below hb10
      replace hw2 := hw2.below hb10
      replace hbY0 := hb10.at (World.block_lt_of_cell? _ ⟨_, 0, none⟩ hbY0) hbY0
      replace hbY1 := hb10.at (World.block_lt_of_cell? _ ⟨_, 0, none⟩ hbY1) hbY1
      replace hs3 := hs3.below hb10
      replace hw3 := hw3.below hb10
      replace hc3 := hc3.below hb10
      replace he3 := he3.below hb10
      replace hbZ0 := hb10.at (World.block_lt_of_cell? _ ⟨_, 0, none⟩ hbZ0) hbZ0
      replace hbZ1 := hb10.at (World.block_lt_of_cell? _ ⟨_, 0, none⟩ hbZ1) hbZ1
      replace hbY2 := hb10.at (World.block_lt_of_cell? _ ⟨_, 1, none⟩ hbY2) hbY2
      replace hbZ2 := hb10.at (World.block_lt_of_cell? _ ⟨_, 1, none⟩ hbZ2) hbZ2
      go_wp2_with fail
      refine (sHoldsAt_ww (by omega) hs3 hsh3 hw3 hsum3 hc3 hel3 he3 hY hK).mono ?_; rintro e w11 ⟨rfl, hb11⟩
      replace hB := hB.step hb11
      replace hs2 := hs2.below hb11
      replace hw2 := hw2.below hb11
      replace hbY0 := hb11.at (World.block_lt_of_cell? _ ⟨_, 0, none⟩ hbY0) hbY0
      replace hbY1 := hb11.at (World.block_lt_of_cell? _ ⟨_, 0, none⟩ hbY1) hbY1
      replace hs3 := hs3.below hb11
      replace hw3 := hw3.below hb11
      replace hc3 := hc3.below hb11
      replace he3 := he3.below hb11
      replace hbZ0 := hb11.at (World.block_lt_of_cell? _ ⟨_, 0, none⟩ hbZ0) hbZ0
      replace hbZ1 := hb11.at (World.block_lt_of_cell? _ ⟨_, 0, none⟩ hbZ1) hbZ1
      replace hbY2 := hb11.at (World.block_lt_of_cell? _ ⟨_, 1, none⟩ hbY2) hbY2
      replace hbZ2 := hb11.at (World.block_lt_of_cell? _ ⟨_, 1, none⟩ hbZ2) hbZ2
      have hq1 : (k2 == k2) = true := by simp
      have hq2 : (y2 == y2) = true := by simp
      have hq3 : (k3 == k3) = true := by simp
      have hq4 : (y3 == y3) = true := by simp
      clear hY hK hs3 hw3 hc3 he3 hbZ0 hbZ1 hbZ2
      generalize hGW : goodWorld ar2 Z2 tb2 = gw
      have hq5 : (gw == gw) = true := by simp
      have y0 := World.block_lt_of_cell? _ ⟨gY, _, none⟩ hbY0
      have y1 := World.block_lt_of_cell? _ ⟨gY + 1, _, none⟩ hbY1
      go_wp2_with fail
      go_region_held3 (fun w' => w'.cell? ⟨gY, 0, none⟩ = some (.slice sYa ar2.length sYc) ∧ (w'.cell? ⟨gY + 1, 0, none⟩ = some (.int .i64 (Z2 : Int)) ∧ w'.cell? ⟨gY + 1, 1, none⟩ = some (.slice w2a tb2.length w2c)))
        (first | exact ⟨hbY0, hbY1, hbY2⟩ | exact ⟨HX1.at y0 hbY0, HX1.at y1 hbY1, HX1.at y1 hbY2⟩ | exact ⟨HX2.at y0 hbY0, HX2.at y1 hbY1, HX2.at y1 hbY2⟩ | fail)
        (first | (go_at_call 52; refine (sGoodWorld_vv hGW (by omega) (hs2.below HX1) hsh2 (hw2.below HX1)).mono ?_; rintro e x2 ⟨rfl, hx2⟩; have HX2 := HX1.step hx2) | (go_at_call 51; refine (iGoodWorld_vv hGW (by omega) (hs2.below (Bel.drew0 w11)) hsh2 (hw2.below (Bel.drew0 w11))).mono ?_; rintro e x1 ⟨rfl, hx1⟩; have HX1 := (Bel.drew0 w11).step hx1) | fail)
      replace hB := hB.step HX2
      clear hbY0 hbY1 hbY2 hs2 hw2
      all_goals
        go_wp2_with fail
        go_ret
        exact ⟨rfl, hB⟩
    | true =>
      obtain ⟨hb12, hvals, hk1, hk2, hyy⟩ := putfor_ok hO hP hwI hEok
      have hEl := subEnv_len ar Z tb env b
      have HV := Lib.hid hvals
      generalize subEnv ar Z tb env b = E at *
      clear hvals hO hP hwI hEok
      obtain ⟨w0, hw0⟩ : ∃ w0, w0 = w5 := ⟨_, rfl⟩
      subst hw0
      have HF0 := Lib.hid (And.intro hs (And.intro ht (And.intro hlv (And.intro hw (And.intro hE oP)))))
      have HB0 := Lib.hid (And.intro hB hv1)
      have hX0 := hbxX
      have hW0 := hbxW
      have hW1 := hbyW
      have zX : gX < w0.heap.size := World.block_lt_of_cell? _ ⟨gX, _, none⟩ hX0
      have zW : gW < w0.heap.size := World.block_lt_of_cell? _ ⟨gW, _, none⟩ hW0
      have HBL := Lib.hid hb12
      have HEL := Lib.hid hEl
      have HKY := Lib.hid (And.intro hk1 (And.intro hk2 hyy))
      clear hs ht hlv hw hE oP hB hv1 hbxX hbxW hbyW hb12 hEl hk1 hk2 hyy
      obtain ⟨i0, hi0, hz0, hz1, hz2⟩ := info_parts Try.info3
      go_wp2_with fail
      go_loopw [12, 13] (fun o i wr => ∃ m : Nat, m ≤ 12 ∧ i = .int .i64 m ∧ wr.ownsRow w0.heap.size 3 1 o (E.take m).length ((E.take m).map (Value.int .i64)) ∧ Bel w0 wr) (fun _ i _ => 12 - (intOf i).toNat)
      case atStart => exact ⟨0, by omega, rfl, World.ownsRow_nil _ _ _ _, Bel.rfl' _⟩
      case round =>
        obtain ⟨m, hm, rfl, hown, hb⟩ := hrel
        have cX := hb.at zX hX0
        have cW0 := hb.at zW hW0
        have cW1 := hb.at zW hW1
        obtain ⟨hs, ht, hlv, hw, hE, oP⟩ := HF0.out
        by_cases hlt : m < 12
        · have hd : decide ((m : Int) < 12) = true := decide_eq_true (by omega)
          obtain ⟨bb, off, pv, rfl, -, hcl, hp⟩ := hlv.at hb m (by have := HBL.out; omega)
          have hvI : (m : Int) < b.length := by have := HBL.out; omega
          have hsn : Hid (E.take (m+1) = E.take m ++ [E.getD m 0]) := Lib.hid (by rw [List.take_succ_eq_append_getElem (by have := HEL.out; omega)]; simp [List.getD, show m < E.length by have := HEL.out; omega])
          have hel12 : (E.take m).length ≤ 12 := by rw [List.length_take]; omega
          obtain ⟨hok, hans⟩ := HV.out m hlt
          have hjm := hlj m
          have hdf : xvOf b m = if 0 < (b.getD m []).length then b.getD m [] else [-1 - (m : Int)] := rfl
          generalize xvOf b m = xv at *
          generalize b.getD m [] = bm at *
          generalize E.getD m 0 = en at *
          generalize E.take m = Em at *
          obtain ⟨pa, pc, rfl⟩ := hp.form
          by_cases hpos : 0 < bm.length
          · have hd2 : ((bm.length : Int) == 0) = false := beq_eq_false_iff_ne.2 (by omega)
            rw [if_pos hpos] at hdf
            subst hdf
            have HC := Lib.hid (iEvalIn_vv (w := wr) (by omega) (hs.below hb) hshw (hw.below hb) (by omega) hp hel (hE.below hb) hans hok)
            clear hs ht hlv hw hE oP hp hok hans
            go_wp2_with fail
            refine HC.out.mono ?_; rintro e x1 ⟨rfl, hx1⟩
            have hown1 := ownsRow_bel hown hx1
            have hb1 := hb.step hx1
            have hzb := hb1.size
            clear hown HC
            go_wp2_with (at_builtin; refine wpList_append_own _ rfl _ _ 22 rfl w0.heap.size 3 i0 (.int .i64 0) 1 8 Try.underlying22 hi0 hz0 hz1 hz2 rfl (by decide) _ _ _ rfl (hown1.alloc _) ⟨x1.heap.size, 0, none⟩ 1 1 [.int .i64 en] rfl rfl (news_one _ _ _) (one_int _) (by unfold maxLen; omega) (by omega) (by simp; omega) ?_; intro v' w4 hown' hgrow _)
            have hown4 : w4.ownsRow w0.heap.size 3 1 v' (Em ++ [en]).length ((Em ++ [en]).map (Value.int .i64)) := by simpa using hown'
            rw [← hsn.out] at hown4
            have hB4 := (hb1.alloc (.cells #[.int .i64 en] 3)).grown hgrow (fun q hq => own_base hown1 q hq)
            go_roundw
            case rel => exact ⟨m+1, by omega, by go_num, hown4, hB4⟩
            case measure => simp [intOf]; omega
          · have hd2 : ((bm.length : Int) == 0) = true := beq_iff_eq.2 (by omega)
            rw [if_neg hpos] at hdf
            subst hdf
            have hBA := Bel.alloc0 wr (.cells #[.int .i64 (-1 - (m : Int))] 3)
            have hxs : SlI wr.heap.size (wr.heap.size + 1) (wr.alloc (.cells #[.int .i64 (-1 - (m : Int))] 3)) (.slice (some ⟨wr.heap.size, 0, none⟩) 1 1) [-1 - (m : Int)] := SlI.arr (xs := [-1 - (m : Int)]) rfl (by simp) (by simp) (Nat.le_refl _) (Nat.lt_succ_self _)
            have HC := Lib.hid (iEvalIn_vv (w := wr.alloc (.cells #[.int .i64 (-1 - (m : Int))] 3)) (by omega) ((hs.below hb).below hBA) hshw ((hw.below hb).below hBA) (by simp) hxs hel ((hE.below hb).below hBA) hans hok)
            have hw5 := IntWalk.i64_in (-1 - (m : Int)) (by omega)
            have cXa := hBA.at (by have := hb.size; omega) cX
            have cWa := hBA.at (by have := hb.size; omega) cW0
            have cWb := hBA.at (by have := hb.size; omega) cW1
            clear hs ht hlv hw hE oP hp hok hans hxs
            go_wp2_with fail
            refine HC.out.mono ?_; rintro e x1 ⟨rfl, hx1⟩
            have hb1 := hb.step (hBA.step hx1)
            have hown1 := ownsRow_bel hown (hBA.step hx1)
            have hzb := hb1.size
            clear hown HC hBA
            go_wp2_with (at_builtin; refine wpList_append_own _ rfl _ _ 22 rfl w0.heap.size 3 i0 (.int .i64 0) 1 8 Try.underlying22 hi0 hz0 hz1 hz2 rfl (by decide) _ _ _ rfl (hown1.alloc _) ⟨x1.heap.size, 0, none⟩ 1 1 [.int .i64 en] rfl rfl (news_one _ _ _) (one_int _) (by unfold maxLen; omega) (by omega) (by simp; omega) ?_; intro v' w4 hown' hgrow _)
            have hown4 : w4.ownsRow w0.heap.size 3 1 v' (Em ++ [en]).length ((Em ++ [en]).map (Value.int .i64)) := by simpa using hown'
            rw [← hsn.out] at hown4
            have hB4 := (hb1.alloc (.cells #[.int .i64 en] 3)).grown hgrow (fun q hq => own_base hown1 q hq)
            go_roundw
            case rel => exact ⟨m+1, by omega, by go_num, hown4, hB4⟩
            case measure => simp [intOf]; omega
        · obtain rfl : m = 12 := by omega
          have hd : decide ((12 : Int) < 12) = false := by decide
          rw [List.take_of_length_le (by have := HEL.out; omega)] at hown
          have oO := (OwnI.of_row hown).sl
          obtain ⟨oa, on, oc, rfl⟩ := own_form hown
          have eO := slI_n oO
          subst eO
          have hol : E.length ≤ 1048576 := by have := HEL.out; omega
          obtain ⟨hB, hv1⟩ := HB0.out
          obtain ⟨hk1, hk2, hyy⟩ := HKY.out
          clear HB0 HF0 HV HBL HEL HKY hX0 hW0 hW1 hown
          replace hs := hs.below hb
          replace ht := ht.below hb
          replace hw := hw.below hb
          replace hE := hE.below hb
          replace oP := oP.below hb
          replace hB := hB.step hb
          replace hv1 := hv1.bel hb
          generalize hy1 : evalAns ar Z tb p env = ya at hyy
          have hyb := hyy.symm
          clear hyy
          have hqa : (ya != ya) = false := by simp
          go_wp2_with fail
          refine (iEvalIn_vv (by omega) hs hshw hw hpl oP hel hE hy1 hk1).mono ?_; rintro e w6 ⟨rfl, hb6⟩
          replace hv1 := hv1.bel hb6
          replace hB := hB.step hb6
          replace hs := hs.below hb6
          replace ht := ht.below hb6
          replace hw := hw.below hb6
          replace hE := hE.below hb6
          replace oP := oP.below hb6
          replace oO := oO.below hb6
          replace cX := hb6.at (World.block_lt_of_cell? _ ⟨_, 0, none⟩ cX) cX
          replace cW0 := hb6.at (World.block_lt_of_cell? _ ⟨_, 0, none⟩ cW0) cW0
          replace cW1 := hb6.at (World.block_lt_of_cell? _ ⟨_, 1, none⟩ cW1) cW1
          go_wp2_with fail
          refine (iEvalIn_vv (by omega) hs hshw hw (by omega) ht hol oO hyb hk2).mono ?_; rintro e w7 ⟨rfl, hb7⟩
          replace hv1 := hv1.bel hb7
          replace hB := hB.step hb7
          replace hs := hs.below hb7
          replace ht := ht.below hb7
          replace hw := hw.below hb7
          replace hE := hE.below hb7
          replace oP := oP.below hb7
          replace oO := oO.below hb7
          replace cX := hb7.at (World.block_lt_of_cell? _ ⟨_, 0, none⟩ cX) cX
          replace cW0 := hb7.at (World.block_lt_of_cell? _ ⟨_, 0, none⟩ cW0) cW0
          replace cW1 := hb7.at (World.block_lt_of_cell? _ ⟨_, 1, none⟩ cW1) cW1
          clear hs ht hw hE oP oO cX cW0 cW1 hy1 hyb hk1 hk2
          go_wp2_with fail
          refine (drawEvalIn_c n1 _ _ (by omega) hv1).mono ?_; rintro e w8 ⟨sv2, wv2, tv2, ev2, ar2, Z2, tb2, t2, env2, rfl, hdr2, hs2, hw2, htb6, htb27, ht2, ht2l, he2, he2l, hb8⟩
          replace hv1 := hv1.bel hb8
          replace hB := hB.step hb8
          have hal2 := drawn_len hdr2
          obtain ⟨sYa, sYc, rfl⟩ := hs2.form
          obtain ⟨w2a, w2c, rfl⟩ := hw2.form
          obtain ⟨t2a, t2c, rfl⟩ := ht2.form
          obtain ⟨e2a, e2c, rfl⟩ := he2.form
          have hsh2 : short tb2 := ⟨by omega, fun j _ => Nat.le_trans (htb27 j) (by omega)⟩
          have hel2 : env2.length ≤ 1048576 := by omega
          clear htb6 htb27 he2l
          have hbAY := Bel.alloc2 w8 (.cells #[.slice sYa ar2.length sYc] 30) (.cells #[.int .i64 (Z2 : Int), .slice w2a tb2.length w2c] 58)
          have hbY0 : ((w8.alloc (.cells #[.slice sYa ar2.length sYc] 30)).alloc (.cells #[.int .i64 (Z2 : Int), .slice w2a tb2.length w2c] 58)).cell? ⟨w8.heap.size, 0, none⟩ = some (.slice sYa ar2.length sYc) := by simp [go_sem]
          have hbY1 : ((w8.alloc (.cells #[.slice sYa ar2.length sYc] 30)).alloc (.cells #[.int .i64 (Z2 : Int), .slice w2a tb2.length w2c] 58)).cell? ⟨w8.heap.size + 1, 0, none⟩ = some (.int .i64 (Z2 : Int)) := by simp [go_sem]
          have hbY2 : ((w8.alloc (.cells #[.slice sYa ar2.length sYc] 30)).alloc (.cells #[.int .i64 (Z2 : Int), .slice w2a tb2.length w2c] 58)).cell? ⟨w8.heap.size + 1, 1, none⟩ = some (.slice w2a tb2.length w2c) := by simp [go_sem]
          replace hv1 := hv1.bel hbAY
          replace hB := hB.step hbAY
          replace hs2 := hs2.below hbAY
          replace hw2 := hw2.below hbAY
          replace ht2 := ht2.below hbAY
          replace he2 := he2.below hbAY
          generalize hgY : w8.heap.size = gY at *
          generalize hY : evalAns ar2 Z2 tb2 t2 env2 = y2
          generalize hK : evalOk ar2 Z2 tb2 t2 env2 = k2
          go_wp2_with fail
          refine (iEvalIn_vv (by omega) hs2 hsh2 hw2 (by omega) ht2 hel2 he2 hY hK).mono ?_; rintro e w9 ⟨rfl, hb9⟩
          replace hv1 := hv1.bel hb9
          replace hB := hB.step hb9
          replace hs2 := hs2.below hb9
          replace hw2 := hw2.below hb9
          replace ht2 := ht2.below hb9
          replace he2 := he2.below hb9
          replace hbY0 := hb9.at (World.block_lt_of_cell? _ ⟨_, 0, none⟩ hbY0) hbY0
          replace hbY1 := hb9.at (World.block_lt_of_cell? _ ⟨_, 0, none⟩ hbY1) hbY1
          replace hbY2 := hb9.at (World.block_lt_of_cell? _ ⟨_, 1, none⟩ hbY2) hbY2
          go_wp2_with fail
          refine (sEvalIn_vv (by omega) hs2 hsh2 hw2 (by omega) ht2 hel2 he2 hY hK).mono ?_; rintro e w10 ⟨rfl, hb10⟩
          replace hv1 := hv1.bel hb10
          replace hB := hB.step hb10
          replace hs2 := hs2.below hb10
          replace hw2 := hw2.below hb10
          replace ht2 := ht2.below hb10
          replace he2 := he2.below hb10
          replace hbY0 := hb10.at (World.block_lt_of_cell? _ ⟨_, 0, none⟩ hbY0) hbY0
          replace hbY1 := hb10.at (World.block_lt_of_cell? _ ⟨_, 0, none⟩ hbY1) hbY1
          replace hbY2 := hb10.at (World.block_lt_of_cell? _ ⟨_, 1, none⟩ hbY2) hbY2
          clear hY hK ht2 he2
          go_wp2_with fail
          refine (drawHoldsAt_c n1 _ _ (by omega) hv1).mono ?_; rintro e w11 ⟨sv3, wv3, tv3, ev3, ar3, Z3, tb3, c3, env3, rfl, hdr3, hs3, hw3, htb6, htb27, hc3, hfine3, he3, he3l, hb11⟩
          replace hv1 := hv1.bel hb11
          replace hB := hB.step hb11
          replace hs2 := hs2.below hb11
          replace hw2 := hw2.below hb11
          replace hbY0 := hb11.at (World.block_lt_of_cell? _ ⟨_, 0, none⟩ hbY0) hbY0
          replace hbY1 := hb11.at (World.block_lt_of_cell? _ ⟨_, 0, none⟩ hbY1) hbY1
          replace hbY2 := hb11.at (World.block_lt_of_cell? _ ⟨_, 1, none⟩ hbY2) hbY2
          have hal3 := drawn_len hdr3
          have hsum3 := Nat.le_trans hfine3.sum (show 100000 ≤ 1048576 by omega)
          obtain ⟨sZa, sZc, rfl⟩ := hs3.form
          obtain ⟨w3a, w3c, rfl⟩ := hw3.form
          obtain ⟨t3a, t3c, rfl⟩ := hc3.form
          obtain ⟨e3a, e3c, rfl⟩ := he3.form
          have hsh3 : short tb3 := ⟨by omega, fun j _ => Nat.le_trans (htb27 j) (by omega)⟩
          have hel3 : env3.length ≤ 1048576 := by omega
          clear htb6 htb27 he3l hv1
          have hbAZ := Bel.alloc2 w11 (.cells #[.slice sZa ar3.length sZc] 30) (.cells #[.int .i64 (Z3 : Int), .slice w3a tb3.length w3c] 58)
          have hbZ0 : ((w11.alloc (.cells #[.slice sZa ar3.length sZc] 30)).alloc (.cells #[.int .i64 (Z3 : Int), .slice w3a tb3.length w3c] 58)).cell? ⟨w11.heap.size, 0, none⟩ = some (.slice sZa ar3.length sZc) := by simp [go_sem]
          have hbZ1 : ((w11.alloc (.cells #[.slice sZa ar3.length sZc] 30)).alloc (.cells #[.int .i64 (Z3 : Int), .slice w3a tb3.length w3c] 58)).cell? ⟨w11.heap.size + 1, 0, none⟩ = some (.int .i64 (Z3 : Int)) := by simp [go_sem]
          have hbZ2 : ((w11.alloc (.cells #[.slice sZa ar3.length sZc] 30)).alloc (.cells #[.int .i64 (Z3 : Int), .slice w3a tb3.length w3c] 58)).cell? ⟨w11.heap.size + 1, 1, none⟩ = some (.slice w3a tb3.length w3c) := by simp [go_sem]
          replace hB := hB.step hbAZ
          replace hs2 := hs2.below hbAZ
          replace hw2 := hw2.below hbAZ
          replace hbY0 := hbAZ.at (World.block_lt_of_cell? _ ⟨_, 0, none⟩ hbY0) hbY0
          replace hbY1 := hbAZ.at (World.block_lt_of_cell? _ ⟨_, 0, none⟩ hbY1) hbY1
          replace hs3 := hs3.below hbAZ
          replace hw3 := hw3.below hbAZ
          replace hc3 := hc3.below hbAZ
          replace he3 := he3.below hbAZ
          replace hbY2 := hbAZ.at (World.block_lt_of_cell? _ ⟨_, 1, none⟩ hbY2) hbY2
          generalize hgZ : w11.heap.size = gZ at *
          generalize hY : holdsAns ar3 Z3 tb3 c3 env3 = y3
          generalize hK : holdsOk ar3 Z3 tb3 c3 env3 = k3
          go_wp2_with fail
          refine (iHoldsAt_ww (by omega) hs3 hsh3 hw3 hsum3 hc3 hel3 he3 hY hK).mono ?_; rintro e w12 ⟨rfl, hb12⟩
          replace hB := hB.step hb12
          replace hs2 := hs2.below hb12
          replace hw2 := hw2.below hb12
          replace hbY0 := hb12.at (World.block_lt_of_cell? _ ⟨_, 0, none⟩ hbY0) hbY0
          replace hbY1 := hb12.at (World.block_lt_of_cell? _ ⟨_, 0, none⟩ hbY1) hbY1
          replace hs3 := hs3.below hb12
          replace hw3 := hw3.below hb12
          replace hc3 := hc3.below hb12
          replace he3 := he3.below hb12
          replace hbZ0 := hb12.at (World.block_lt_of_cell? _ ⟨_, 0, none⟩ hbZ0) hbZ0
          replace hbZ1 := hb12.at (World.block_lt_of_cell? _ ⟨_, 0, none⟩ hbZ1) hbZ1
          replace hbY2 := hb12.at (World.block_lt_of_cell? _ ⟨_, 1, none⟩ hbY2) hbY2
          replace hbZ2 := hb12.at (World.block_lt_of_cell? _ ⟨_, 1, none⟩ hbZ2) hbZ2
          go_wp2_with fail
          refine (sHoldsAt_ww (by omega) hs3 hsh3 hw3 hsum3 hc3 hel3 he3 hY hK).mono ?_; rintro e w13 ⟨rfl, hb13⟩
          replace hB := hB.step hb13
          replace hs2 := hs2.below hb13
          replace hw2 := hw2.below hb13
          replace hbY0 := hb13.at (World.block_lt_of_cell? _ ⟨_, 0, none⟩ hbY0) hbY0
          replace hbY1 := hb13.at (World.block_lt_of_cell? _ ⟨_, 0, none⟩ hbY1) hbY1
          replace hs3 := hs3.below hb13
          replace hw3 := hw3.below hb13
          replace hc3 := hc3.below hb13
          replace he3 := he3.below hb13
          replace hbZ0 := hb13.at (World.block_lt_of_cell? _ ⟨_, 0, none⟩ hbZ0) hbZ0
          replace hbZ1 := hb13.at (World.block_lt_of_cell? _ ⟨_, 0, none⟩ hbZ1) hbZ1
          replace hbY2 := hb13.at (World.block_lt_of_cell? _ ⟨_, 1, none⟩ hbY2) hbY2
          replace hbZ2 := hb13.at (World.block_lt_of_cell? _ ⟨_, 1, none⟩ hbZ2) hbZ2
          have hq1 : (k2 == k2) = true := by simp
          have hq2 : (y2 == y2) = true := by simp
          have hq3 : (k3 == k3) = true := by simp
          have hq4 : (y3 == y3) = true := by simp
          clear hY hK hs3 hw3 hc3 he3 hbZ0 hbZ1 hbZ2
          generalize hGW : goodWorld ar2 Z2 tb2 = gw
          have hq5 : (gw == gw) = true := by simp
          have y0 := World.block_lt_of_cell? _ ⟨gY, _, none⟩ hbY0
          have y1 := World.block_lt_of_cell? _ ⟨gY + 1, _, none⟩ hbY1
          go_wp2_with fail
          go_region_held3 (fun w' => w'.cell? ⟨gY, 0, none⟩ = some (.slice sYa ar2.length sYc) ∧ (w'.cell? ⟨gY + 1, 0, none⟩ = some (.int .i64 (Z2 : Int)) ∧ w'.cell? ⟨gY + 1, 1, none⟩ = some (.slice w2a tb2.length w2c)))
            (first | exact ⟨hbY0, hbY1, hbY2⟩ | exact ⟨HX1.at y0 hbY0, HX1.at y1 hbY1, HX1.at y1 hbY2⟩ | exact ⟨HX2.at y0 hbY0, HX2.at y1 hbY1, HX2.at y1 hbY2⟩ | fail)
            (first | (go_at_call 52; refine (sGoodWorld_vv hGW (by omega) (hs2.below HX1) hsh2 (hw2.below HX1)).mono ?_; rintro e x2 ⟨rfl, hx2⟩; have HX2 := HX1.step hx2) | (go_at_call 51; refine (iGoodWorld_vv hGW (by omega) (hs2.below (Bel.drew0 w13)) hsh2 (hw2.below (Bel.drew0 w13))).mono ?_; rintro e x1 ⟨rfl, hx1⟩; have HX1 := (Bel.drew0 w13).step hx1) | fail)
          replace hB := hB.step HX2
          clear hbY0 hbY1 hbY2 hs2 hw2
          all_goals
            go_wp2_with fail
            go_ret
            exact ⟨rfl, hB⟩
  · go_enter Try.func6, Try.ntmps6
    go_wp2_with fail
    refine (big_yes n0 n1 _ _ _ _ _ hn0 hbig).mono ?_; rintro e w1 ⟨rfl, hb1⟩
    go_wp2_with fail
    go_ret
    exact ⟨rfl, hb1⟩
end Go.Proofs.Yteegjnobmbcjiaa
