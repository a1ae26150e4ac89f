/- FnWorlds: the walk, part C. -/
import Derived.Test.YtlcjcihohclmhaaWorB
namespace Go.Proofs.Ytlcjcihohclmhaa
open Go.RowKit

set_option maxRecDepth 100000 in
set_option maxHeartbeats 16000000 in
theorem worC (w : World) (n0 n1 : Nat) (ca : Option Addr) (cc : Nat) (ma : Option Addr) (mc : Nat) (hv0 : SlB w.heap.size w (.slice ca n0 cc) n0) (hv1 : SlB w.heap.size w (.slice ma n1 mc) n1) (hbig : n0 ≤ 1048576 ∧ n0 + n1 ≤ 1048576) : (worB w n0 n1 ca cc ma mc hv0 hv1 hbig).1 := by
    unfold worB
    intro w1 hb1 w2 ar Z tb c hdr hfine hb2 hal hsum sXa sXc wa wc ta tc hsh hbAX gX hgX e0 hel ok hh one w3 aE cE hb3 w4 aU cU hb4 w5 hb5 wk hb6 wq u16 u17 wr w7 ar2 cs z hdr2 hz4 hb7 hal2 htot sYa sYc t2a t2c hbAY gY hgY fz ft hft fo hshf w8 aF cF hb8 hbAF gF hgF w9 aG cG hb9 hbAG gG hgG wl hb10 hKB218 KB219 u4 u25 u26 u45 u46 u47 u48 u49 u50 u51 u52 u53 u54 u55 u56 u57 u58 u59 u60 u61 u62 u63 u64 u65 u66 u67 u68 u69 u70 u71 u72 u73 u74 u75 u76 u77 u78 u79 u80 u81 u82 u83 u84 u85 u86 u87 u88 u89 u90 u91 u92 u93 u94 u95 u96 u97 u98 u99 u100 u101 u102 u103 u104 u105 u106 u107 u108 u109 u110 u111 u112 u113 u114 u115 u116 u117 u118 u119 u120 u121 u122 u123 u124 u125 u126 u127 u128 u129 u130 u131 u132 u133 u134 u135 u136 u137 u138 u139 u140 u141 u142 u143 u144 u145 u146 u147 u148 u149 u150 u151 u152 u153 u154 u155 u156 u157 u158 u159 u160 u161 u162 u163 u164 u165 u166 u167 u168 u169 u170 u171 u172 u173 u174 u175 u176 u177 u178 u179 u180 u181 u182 u183 u184 u185 u186 u187 u188 u189 u190 u191 u192 u193 u194 u195 u196 u197 u198 u199 u200 u201 u202 u203 u204 u205 u206 u207 u208 u209 u210 u211 u212 u213 u214 u215 u216 u217 u218 u219 u220 u221 u222 u223 u224 u225 u226 u227 u228 u229 u230 u231 u232 u233 u234 u235 u236 u237 u238 u239 u240 u241 u242 u243 u244 u245 u246 u247 u248 u249 u250 u251 u252 u253 u254 u255 u256 u257 u258 u259 u260 wm hv1 hB
    go_wp2_with fail
    refine (drawWorldAt_c n1 _ _ (by omega) hv1).mono ?_; rintro e w11 ⟨sv3, ar3, z3, no, rfl, hdr3, hs3, hz34, hno1, hno2, hb11⟩
    replace hv1 := hv1.bel hb11
    replace hB := hB.step hb11
    have hal3 := drawn_len hdr3
    obtain ⟨sZa, sZc, rfl⟩ := hs3.form
    have hbAZ := Bel.alloc0 w11 (.cells #[.slice sZa ar3.length sZc] 26)
    have hbxZ : (w11.alloc (.cells #[.slice sZa ar3.length sZc] 26)).cell? ⟨w11.heap.size, 0, none⟩ = some (.slice sZa ar3.length sZc) := by rw [World.cell?_alloc_new w11]; rfl
    replace hv1 := hv1.bel hbAZ
    replace hB := hB.step hbAZ
    replace hs3 := hs3.below hbAZ
    generalize hgZ : w11.heap.size = gZ at *
    have hat := worldAtT_tot ar3 (z3 : Int) no
    have hak := @worldAt_ok ar3 (z3 : Int) no
    generalize haz : worldAtZ ar3 (z3 : Int) no = az at hak
    generalize haT : worldAtT ar3 (z3 : Int) no = at3 at hak hat
    generalize hai : worldAtOk ar3 (z3 : Int) no = ao at hak
    have HAK := Lib.hid hak
    clear hak
    have hsha : short at3 := short_of_tot hat
    generalize hcn : worldsAns ar3 (z3 : Int) = cn
    generalize hck : (goodSign ar3 && inB (z3 : Int) 1 3) = ck
    go_wp2_with fail
    refine (iWorldAt_vv (by omega) hs3 (by omega) (by omega) (by omega) (by omega) haz haT hai).mono ?_; rintro e w12 ⟨aP, mP, cP, rfl, oP, hb12⟩
    replace hv1 := hv1.bel hb12
    replace hB := hB.step hb12
    replace hs3 := hs3.below hb12
    replace hbxZ := hb12.at (World.block_lt_of_cell? _ ⟨_, 0, none⟩ hbxZ) hbxZ
    replace oP := oP.sl
    have eP := SlS.len oP
    subst eP
    have hbAP := Bel.alloc0 w12 (.cells #[.int .i64 az, .slice aP at3.length cP] 29)
    have hbP1 : (w12.alloc (.cells #[.int .i64 az, .slice aP at3.length cP] 29)).cell? ⟨w12.heap.size, 0, none⟩ = some (.int .i64 az) := by simp [go_sem]
    have hbP2 : (w12.alloc (.cells #[.int .i64 az, .slice aP at3.length cP] 29)).cell? ⟨w12.heap.size, 1, none⟩ = some (.slice aP at3.length cP) := by simp [go_sem]
    replace hv1 := hv1.bel hbAP
    replace hB := hB.step hbAP
    replace hs3 := hs3.below hbAP
    replace hbxZ := hbAP.at (World.block_lt_of_cell? _ ⟨_, 0, none⟩ hbxZ) hbxZ
    replace oP := oP.below hbAP
    generalize hgP : w12.heap.size = gP at *
    go_wp2_with fail
    refine (sWorldAt_vv (by omega) hs3 (by omega) (by omega) (by omega) (by omega) haz haT hai).mono ?_; rintro e w13 ⟨aQ, mQ, cQ, rfl, oQ, hb13⟩
    replace hv1 := hv1.bel hb13
    replace hB := hB.step hb13
    replace hs3 := hs3.below hb13
    replace hbxZ := hb13.at (World.block_lt_of_cell? _ ⟨_, 0, none⟩ hbxZ) hbxZ
    replace oP := oP.below hb13
    replace hbP1 := hb13.at (World.block_lt_of_cell? _ ⟨_, 0, none⟩ hbP1) hbP1
    replace hbP2 := hb13.at (World.block_lt_of_cell? _ ⟨_, 1, none⟩ hbP2) hbP2
    replace oQ := oQ.sl
    have eQ := SlS.len oQ
    subst eQ
    have hbAQ := Bel.alloc0 w13 (.cells #[.int .i64 az, .slice aQ at3.length cQ] 29)
    have hbQ1 : (w13.alloc (.cells #[.int .i64 az, .slice aQ at3.length cQ] 29)).cell? ⟨w13.heap.size, 0, none⟩ = some (.int .i64 az) := by simp [go_sem]
    have hbQ2 : (w13.alloc (.cells #[.int .i64 az, .slice aQ at3.length cQ] 29)).cell? ⟨w13.heap.size, 1, none⟩ = some (.slice aQ at3.length cQ) := by simp [go_sem]
    replace hv1 := hv1.bel hbAQ
    replace hB := hB.step hbAQ
    replace hs3 := hs3.below hbAQ
    replace hbxZ := hbAQ.at (World.block_lt_of_cell? _ ⟨_, 0, none⟩ hbxZ) hbxZ
    replace oP := oP.below hbAQ
    replace hbP1 := hbAQ.at (World.block_lt_of_cell? _ ⟨_, 0, none⟩ hbP1) hbP1
    replace oQ := oQ.below hbAQ
    replace hbP2 := hbAQ.at (World.block_lt_of_cell? _ ⟨_, 1, none⟩ hbP2) hbP2
    generalize hgQ : w13.heap.size = gQ at *
    go_wp2_with fail
    refine (iCountWorlds_vv (by omega) hs3 (by omega) (by omega) hcn hck).mono ?_; rintro e w14 ⟨rfl, hb14⟩
    replace hv1 := hv1.bel hb14
    replace hB := hB.step hb14
    replace hs3 := hs3.below hb14
    replace hbxZ := hb14.at (World.block_lt_of_cell? _ ⟨_, 0, none⟩ hbxZ) hbxZ
    replace oP := oP.below hb14
    replace hbP1 := hb14.at (World.block_lt_of_cell? _ ⟨_, 0, none⟩ hbP1) hbP1
    replace oQ := oQ.below hb14
    replace hbQ1 := hb14.at (World.block_lt_of_cell? _ ⟨_, 0, none⟩ hbQ1) hbQ1
    replace hbP2 := hb14.at (World.block_lt_of_cell? _ ⟨_, 1, none⟩ hbP2) hbP2
    replace hbQ2 := hb14.at (World.block_lt_of_cell? _ ⟨_, 1, none⟩ hbQ2) hbQ2
    go_wp2_with fail
    refine (sCountWorlds_vv (by omega) hs3 (by omega) (by omega) hcn hck).mono ?_; rintro e w15 ⟨rfl, hb15⟩
    replace hv1 := hv1.bel hb15
    replace hB := hB.step hb15
    replace hs3 := hs3.below hb15
    replace hbxZ := hb15.at (World.block_lt_of_cell? _ ⟨_, 0, none⟩ hbxZ) hbxZ
    replace oP := oP.below hb15
    replace hbP1 := hb15.at (World.block_lt_of_cell? _ ⟨_, 0, none⟩ hbP1) hbP1
    replace oQ := oQ.below hb15
    replace hbQ1 := hb15.at (World.block_lt_of_cell? _ ⟨_, 0, none⟩ hbQ1) hbQ1
    replace hbP2 := hb15.at (World.block_lt_of_cell? _ ⟨_, 1, none⟩ hbP2) hbP2
    replace hbQ2 := hb15.at (World.block_lt_of_cell? _ ⟨_, 1, none⟩ hbQ2) hbQ2
    clear haz haT hai hcn hck
    go_wp2_with fail
    refine (drawAllHold_c n1 _ _ (by omega) hv1).mono ?_; rintro e w16 ⟨sv4, wv4, tv4, ar4, Z4, tb4, cs4, rfl, hdr4, hs4, hw4, htb6, htb27, hcs4, hcl4, hb16⟩
    replace hv1 := hv1.bel hb16
    replace hB := hB.step hb16
    replace hs3 := hs3.below hb16
    replace hbxZ := hb16.at (World.block_lt_of_cell? _ ⟨_, 0, none⟩ hbxZ) hbxZ
    replace oP := oP.below hb16
    replace hbP1 := hb16.at (World.block_lt_of_cell? _ ⟨_, 0, none⟩ hbP1) hbP1
    replace oQ := oQ.below hb16
    replace hbQ1 := hb16.at (World.block_lt_of_cell? _ ⟨_, 0, none⟩ hbQ1) hbQ1
    replace hbP2 := hb16.at (World.block_lt_of_cell? _ ⟨_, 1, none⟩ hbP2) hbP2
    replace hbQ2 := hb16.at (World.block_lt_of_cell? _ ⟨_, 1, none⟩ hbQ2) hbQ2
    clear hv1
    have hal4 := drawn_len hdr4
    have htot4 := fine_tot hcl4
    clear hcl4
    obtain ⟨sTa, sTc, rfl⟩ := hs4.form
    obtain ⟨w4a, w4c, rfl⟩ := hw4.form
    obtain ⟨t4a, t4c, rfl⟩ := hcs4.form
    have hsh4 : short tb4 := ⟨by omega, fun j _ => Nat.le_trans (htb27 j) (by omega)⟩
    clear htb6 htb27
    have hbAT := Bel.alloc2 w16 (.cells #[.slice sTa ar4.length sTc] 26) (.cells #[.int .i64 (Z4 : Int), .slice w4a tb4.length w4c] 29)
    have hbT0 : ((w16.alloc (.cells #[.slice sTa ar4.length sTc] 26)).alloc (.cells #[.int .i64 (Z4 : Int), .slice w4a tb4.length w4c] 29)).cell? ⟨w16.heap.size, 0, none⟩ = some (.slice sTa ar4.length sTc) := by simp [go_sem]
    have hbT1 : ((w16.alloc (.cells #[.slice sTa ar4.length sTc] 26)).alloc (.cells #[.int .i64 (Z4 : Int), .slice w4a tb4.length w4c] 29)).cell? ⟨w16.heap.size + 1, 0, none⟩ = some (.int .i64 (Z4 : Int)) := by simp [go_sem]
    have hbT2 : ((w16.alloc (.cells #[.slice sTa ar4.length sTc] 26)).alloc (.cells #[.int .i64 (Z4 : Int), .slice w4a tb4.length w4c] 29)).cell? ⟨w16.heap.size + 1, 1, none⟩ = some (.slice w4a tb4.length w4c) := by simp [go_sem]
    replace hB := hB.step hbAT
    replace hs3 := hs3.below hbAT
    replace hbxZ := hbAT.at (World.block_lt_of_cell? _ ⟨_, 0, none⟩ hbxZ) hbxZ
    replace oP := oP.below hbAT
    replace hbP1 := hbAT.at (World.block_lt_of_cell? _ ⟨_, 0, none⟩ hbP1) hbP1
    replace oQ := oQ.below hbAT
    replace hbQ1 := hbAT.at (World.block_lt_of_cell? _ ⟨_, 0, none⟩ hbQ1) hbQ1
    replace hs4 := hs4.below hbAT
    replace hw4 := hw4.below hbAT
    replace hcs4 := hcs4.below hbAT
    replace hbP2 := hbAT.at (World.block_lt_of_cell? _ ⟨_, 1, none⟩ hbP2) hbP2
    replace hbQ2 := hbAT.at (World.block_lt_of_cell? _ ⟨_, 1, none⟩ hbQ2) hbQ2
    generalize hgT : w16.heap.size = gT at *
    generalize hy4 : allAns ar4 Z4 tb4 cs4 = y4
    generalize hk4 : allOk ar4 Z4 tb4 cs4 = k4
    go_wp2_with fail
    refine (iAllHold_vv (by omega) hs4 hsh4 hw4 htot4 hcs4 hy4 hk4).mono ?_; rintro e w17 ⟨rfl, hb17⟩
    replace hB := hB.step hb17
    replace hs3 := hs3.below hb17
    replace hbxZ := hb17.at (World.block_lt_of_cell? _ ⟨_, 0, none⟩ hbxZ) hbxZ
    replace oP := oP.below hb17
    replace hbP1 := hb17.at (World.block_lt_of_cell? _ ⟨_, 0, none⟩ hbP1) hbP1
    replace oQ := oQ.below hb17
    replace hbQ1 := hb17.at (World.block_lt_of_cell? _ ⟨_, 0, none⟩ hbQ1) hbQ1
    replace hs4 := hs4.below hb17
    replace hw4 := hw4.below hb17
    replace hcs4 := hcs4.below hb17
    replace hbT0 := hb17.at (World.block_lt_of_cell? _ ⟨_, 0, none⟩ hbT0) hbT0
    replace hbT1 := hb17.at (World.block_lt_of_cell? _ ⟨_, 0, none⟩ hbT1) hbT1
    replace hbP2 := hb17.at (World.block_lt_of_cell? _ ⟨_, 1, none⟩ hbP2) hbP2
    replace hbQ2 := hb17.at (World.block_lt_of_cell? _ ⟨_, 1, none⟩ hbQ2) hbQ2
    replace hbT2 := hb17.at (World.block_lt_of_cell? _ ⟨_, 1, none⟩ hbT2) hbT2
    go_wp2_with fail
    refine (sAllHold_vv (by omega) hs4 hsh4 hw4 htot4 hcs4 hy4 hk4).mono ?_; rintro e w18 ⟨rfl, hb18⟩
    replace hB := hB.step hb18
    replace hs3 := hs3.below hb18
    replace hbxZ := hb18.at (World.block_lt_of_cell? _ ⟨_, 0, none⟩ hbxZ) hbxZ
    replace oP := oP.below hb18
    replace hbP1 := hb18.at (World.block_lt_of_cell? _ ⟨_, 0, none⟩ hbP1) hbP1
    replace oQ := oQ.below hb18
    replace hbQ1 := hb18.at (World.block_lt_of_cell? _ ⟨_, 0, none⟩ hbQ1) hbQ1
    replace hs4 := hs4.below hb18
    replace hw4 := hw4.below hb18
    replace hcs4 := hcs4.below hb18
    replace hbT0 := hb18.at (World.block_lt_of_cell? _ ⟨_, 0, none⟩ hbT0) hbT0
    replace hbT1 := hb18.at (World.block_lt_of_cell? _ ⟨_, 0, none⟩ hbT1) hbT1
    replace hbP2 := hb18.at (World.block_lt_of_cell? _ ⟨_, 1, none⟩ hbP2) hbP2
    replace hbQ2 := hb18.at (World.block_lt_of_cell? _ ⟨_, 1, none⟩ hbQ2) hbQ2
    replace hbT2 := hb18.at (World.block_lt_of_cell? _ ⟨_, 1, none⟩ hbT2) hbT2
    clear hy4 hk4 hs4 hw4 hcs4 hbT0 hbT1 hbT2
    have hq1 : (ao == ao) = true := by simp
    have hq2 : (ck == ck) = true := by simp
    have hq3 : (cn == cn) = true := by simp
    have hq4 : (k4 == k4) = true := by simp
    have hq5 : (y4 == y4) = true := by simp
    go_wp2_with fail
    refine (sameWorld_same _ _ _ _ _ _ az at3 _ hsha oP oQ).mono ?_; rintro e w19 ⟨rfl, hb19⟩
    replace hB := hB.step hb19
    replace hs3 := hs3.below hb19
    replace hbxZ := hb19.at (World.block_lt_of_cell? _ ⟨_, 0, none⟩ hbxZ) hbxZ
    replace oP := oP.below hb19
    replace hbP1 := hb19.at (World.block_lt_of_cell? _ ⟨_, 0, none⟩ hbP1) hbP1
    replace oQ := oQ.below hb19
    replace hbQ1 := hb19.at (World.block_lt_of_cell? _ ⟨_, 0, none⟩ hbQ1) hbQ1
    replace hbP2 := hb19.at (World.block_lt_of_cell? _ ⟨_, 1, none⟩ hbP2) hbP2
    replace hbQ2 := hb19.at (World.block_lt_of_cell? _ ⟨_, 1, none⟩ hbQ2) hbQ2
    clear oQ hbQ1 hbQ2
    cases ao with
    | false =>
      go_wp2_with fail
      go_ret
      exact ⟨rfl, hB⟩
    | true =>
      have hgw := HAK.out rfl
      go_wp2_with fail
      refine (iGoodWorld_xx hgw (by omega) hs3 hsha oP).mono ?_; rintro e w20 ⟨rfl, hb20⟩
      replace hB := hB.step hb20
      replace hs3 := hs3.below hb20
      replace hbxZ := hb20.at (World.block_lt_of_cell? _ ⟨_, 0, none⟩ hbxZ) hbxZ
      replace oP := oP.below hb20
      replace hbP1 := hb20.at (World.block_lt_of_cell? _ ⟨_, 0, none⟩ hbP1) hbP1
      replace hbP2 := hb20.at (World.block_lt_of_cell? _ ⟨_, 1, none⟩ hbP2) hbP2
      go_wp2_with fail
      go_ret
      exact ⟨rfl, hB⟩
end Go.Proofs.Ytlcjcihohclmhaa
