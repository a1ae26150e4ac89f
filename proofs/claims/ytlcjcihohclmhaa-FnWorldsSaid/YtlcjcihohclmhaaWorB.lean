/- FnWorlds: the walk, part B. -/
import Derived.Test.YtlcjcihohclmhaaWorA
namespace Go.Proofs.Ytlcjcihohclmhaa
open Go.RowKit

set_option maxRecDepth 100000 in
set_option maxHeartbeats 16000000 in
def worB (w : World) (n0 n1 : Nat) (ca : Option Addr) (cc : Nat) (ma : Option Addr) (mc : Nat) (hv0 : SlB w.heap.size w (.slice ca n0 cc) n0) (hv1 : SlB w.heap.size w (.slice ma n1 mc) n1) (hbig : n0 ≤ 1048576 ∧ n0 + n1 ≤ 1048576) : { G : Prop // Hid G → (worA w n0 n1 ca cc ma mc hv0 hv1 hbig).1 } := by
  refine ⟨?G, fun hG => ?body⟩
  case body =>
    unfold worA
    intro w1 hb1 w2 ar Z tb c hdr hfine hb2 hal hsum sXa sXc wa wc ta tc hsh hbAX gX hgX e0 hel ok hh one w3 aE cE hb3 w4 aU cU hb4 w5 hb5 wk hb6 wq hKA216 KA217 u4 u16 u17 u45 u46 u47 u48 u49 u50 u51 u52 u53 u54 u55 u56 u57 u58 u59 u60 u61 u62 u63 u64 u65 u66 u67 u68 u69 u70 u71 u72 u73 u74 u75 u76 u77 u78 u79 u80 u81 u82 u83 u84 u85 u86 u87 u88 u89 u90 u91 u92 u93 u94 u95 u96 u97 u98 u99 u100 u101 u102 u103 u104 u105 u106 u107 u108 u109 u110 u111 u112 u113 u114 u115 u116 u117 u118 u119 u120 u121 u122 u123 u124 u125 u126 u127 u128 u129 u130 u131 u132 u133 u134 u135 u136 u137 u138 u139 u140 u141 u142 u143 u144 u145 u146 u147 u148 u149 u150 u151 u152 u153 u154 u155 u156 u157 u158 u159 u160 u161 u162 u163 u164 u165 u166 u167 u168 u169 u170 u171 u172 u173 u174 u175 u176 u177 u178 u179 u180 u181 u182 u183 u184 u185 u186 u187 u188 u189 u190 u191 u192 u193 u194 u195 u196 u197 u198 u199 u200 u201 u202 u203 u204 u205 u206 u207 u208 u209 u210 u211 u212 u213 u214 u215 u216 u217 u218 u219 u220 u221 u222 u223 u224 u225 u226 u227 u228 u229 u230 u231 u232 u233 u234 u235 u236 u237 u238 u239 u240 u241 u242 u243 u244 u245 u246 u247 u248 u249 u250 u251 u252 u253 u254 u255 u256 u257 u258 u259 u260 wr hv1 hB
    go_wp2_with fail
    refine (drawFindWorld_c n1 _ _ (by omega) hv1).mono ?_; rintro e w7 ⟨sv2, tv2, ar2, cs, z, rfl, hdr2, hs2, hcs, hcl, hz4, hb7⟩
    replace hv1 := hv1.bel hb7
    replace hB := hB.step hb7
    have hal2 := drawn_len hdr2
    have htot := fine_tot hcl
    clear hcl
    obtain ⟨sYa, sYc, rfl⟩ := hs2.form
    obtain ⟨t2a, t2c, rfl⟩ := hcs.form
    have hbAY := Bel.alloc0 w7 (.cells #[.slice sYa ar2.length sYc] 26)
    have hbxY : (w7.alloc (.cells #[.slice sYa ar2.length sYc] 26)).cell? ⟨w7.heap.size, 0, none⟩ = some (.slice sYa ar2.length sYc) := by rw [World.cell?_alloc_new w7]; rfl
    replace hv1 := hv1.bel hbAY
    replace hB := hB.step hbAY
    replace hs2 := hs2.below hbAY
    replace hcs := hcs.below hbAY
    generalize hgY : w7.heap.size = gY at *
    have hft := findT_tot ar2 cs (z : Int)
    have hfk := @find_ok ar2 cs (z : Int)
    generalize hfz : findZ ar2 cs (z : Int) = fz at hfk
    generalize hfT : findT ar2 cs (z : Int) = ft at hfk hft
    generalize hfi : findIs ar2 cs (z : Int) = fo at hfk
    have HFK := Lib.hid hfk
    clear hfk
    have hshf : short ft := short_of_tot hft
    go_wp2_with fail
    refine (iFindWorld_vv (by omega) hs2 htot hcs (by omega) (by omega) hfz hfT hfi).mono ?_; rintro e w8 ⟨aF, mF, cF, rfl, oF, hb8⟩
    replace hv1 := hv1.bel hb8
    replace hB := hB.step hb8
    replace hs2 := hs2.below hb8
    replace hcs := hcs.below hb8
    replace hbxY := hb8.at (World.block_lt_of_cell? _ ⟨_, 0, none⟩ hbxY) hbxY
    replace oF := oF.sl
    have eF := SlS.len oF
    subst eF
    have hbAF := Bel.alloc0 w8 (.cells #[.int .i64 fz, .slice aF ft.length cF] 29)
    have hbF1 : (w8.alloc (.cells #[.int .i64 fz, .slice aF ft.length cF] 29)).cell? ⟨w8.heap.size, 0, none⟩ = some (.int .i64 fz) := by simp [go_sem]
    have hbF2 : (w8.alloc (.cells #[.int .i64 fz, .slice aF ft.length cF] 29)).cell? ⟨w8.heap.size, 1, none⟩ = some (.slice aF ft.length cF) := by simp [go_sem]
    replace hv1 := hv1.bel hbAF
    replace hB := hB.step hbAF
    replace hs2 := hs2.below hbAF
    replace hcs := hcs.below hbAF
    replace hbxY := hbAF.at (World.block_lt_of_cell? _ ⟨_, 0, none⟩ hbxY) hbxY
    replace oF := oF.below hbAF
    generalize hgF : w8.heap.size = gF at *
    go_wp2_with fail
    refine (sFindWorld_vv (by omega) hs2 htot hcs (by omega) (by omega) hfz hfT hfi).mono ?_; rintro e w9 ⟨aG, mG, cG, rfl, oG, hb9⟩
    replace hv1 := hv1.bel hb9
    replace hB := hB.step hb9
    replace hs2 := hs2.below hb9
    replace hcs := hcs.below hb9
    replace hbxY := hb9.at (World.block_lt_of_cell? _ ⟨_, 0, none⟩ hbxY) hbxY
    replace oF := oF.below hb9
    replace hbF1 := hb9.at (World.block_lt_of_cell? _ ⟨_, 0, none⟩ hbF1) hbF1
    replace hbF2 := hb9.at (World.block_lt_of_cell? _ ⟨_, 1, none⟩ hbF2) hbF2
    replace oG := oG.sl
    have eG := SlS.len oG
    subst eG
    have hbAG := Bel.alloc0 w9 (.cells #[.int .i64 fz, .slice aG ft.length cG] 29)
    have hbG1 : (w9.alloc (.cells #[.int .i64 fz, .slice aG ft.length cG] 29)).cell? ⟨w9.heap.size, 0, none⟩ = some (.int .i64 fz) := by simp [go_sem]
    have hbG2 : (w9.alloc (.cells #[.int .i64 fz, .slice aG ft.length cG] 29)).cell? ⟨w9.heap.size, 1, none⟩ = some (.slice aG ft.length cG) := by simp [go_sem]
    replace hv1 := hv1.bel hbAG
    replace hB := hB.step hbAG
    replace hs2 := hs2.below hbAG
    replace hcs := hcs.below hbAG
    replace hbxY := hbAG.at (World.block_lt_of_cell? _ ⟨_, 0, none⟩ hbxY) hbxY
    replace oF := oF.below hbAG
    replace hbF1 := hbAG.at (World.block_lt_of_cell? _ ⟨_, 0, none⟩ hbF1) hbF1
    replace oG := oG.below hbAG
    replace hbF2 := hbAG.at (World.block_lt_of_cell? _ ⟨_, 1, none⟩ hbF2) hbF2
    generalize hgG : w9.heap.size = gG at *
    clear hfz hfT hfi
    have hq1 : (fo != fo) = false := by simp
    go_wp2_with fail
    refine (sameWorld_same _ _ _ _ _ _ fz ft _ hshf oF oG).mono ?_; rintro e w10 ⟨rfl, hb10⟩
    replace hv1 := hv1.bel hb10
    replace hB := hB.step hb10
    replace hs2 := hs2.below hb10
    replace hcs := hcs.below hb10
    replace hbxY := hb10.at (World.block_lt_of_cell? _ ⟨_, 0, none⟩ hbxY) hbxY
    replace oF := oF.below hb10
    replace hbF1 := hb10.at (World.block_lt_of_cell? _ ⟨_, 0, none⟩ hbF1) hbF1
    replace oG := oG.below hb10
    replace hbG1 := hb10.at (World.block_lt_of_cell? _ ⟨_, 0, none⟩ hbG1) hbG1
    replace hbF2 := hb10.at (World.block_lt_of_cell? _ ⟨_, 1, none⟩ hbF2) hbF2
    replace hbG2 := hb10.at (World.block_lt_of_cell? _ ⟨_, 1, none⟩ hbG2) hbG2
    clear oG hbG1 hbG2 hq1
    obtain ⟨wl, hwl⟩ : ∃ wl, wl = w10 := ⟨_, rfl⟩
    subst hwl
    go_upto_if 152 with fail
    go_cut [] (fun wx => ∃ wy, wy = wx ∧ Bel wl wy)
    case first =>
      cases fo with
      | false =>
        clear HFK
        go_wp2_with fail
        go_meet
        exact ⟨_, rfl, Bel.rfl' _⟩
      | true =>
        obtain ⟨hx1, hx2, hx3⟩ := HFK.out rfl
        have HA := Lib.hid (iAllHold_vv (by omega) hs2 hshf oF htot hcs hx2 hx1)
        have HGW := Lib.hid (fun (w' : World) (hb : Bel wl w') => iGoodWorld_xx hx3 (by omega) (hs2.below hb) hshf (oF.below hb))
        clear HFK hx1 hx2 hx3
        have zY : gY < wl.heap.size := World.block_lt_of_cell? _ ⟨gY, _, none⟩ hbxY
        have zF : gF < wl.heap.size := World.block_lt_of_cell? _ ⟨gF, _, none⟩ hbF1
        go_wp2_with fail
        refine HA.out.mono ?_; rintro e wp ⟨rfl, hbp⟩
        have d1 := hbp.at zY hbxY
        have d2 := hbp.at zF hbF1
        have d3 := hbp.at zF hbF2
        go_wp2_with fail
        refine (HGW.out _ hbp).mono ?_; rintro e wp2 ⟨rfl, hbp2⟩
        go_wp2_with fail
        go_meet
        exact ⟨_, rfl, hbp.step hbp2⟩
    case rest =>
    obtain ⟨wm, hwm, hbm⟩ := hcut
    subst hwm
    clear hs2 hcs oF hbxY hbF1 hbF2 HFK
    replace hv1 := hv1.bel hbm
    replace hB := hB.step hbm
    clear hbm
    rename_i dead1 dead2 dead3 dead4 dead5 dead6 dead7 dead8 dead9 dead10 dead11 dead12 dead13 dead14 dead15 dead16 dead17 dead18 dead19 dead20 dead21 dead22 dead23 dead24 dead25 dead26 dead27 dead28 dead29 dead30 dead31 dead32 dead33 dead34 dead35 dead36 dead37 dead38 dead39 dead40 dead41 dead42 dead43 dead44 dead45 dead46 dead47 dead48 dead49 dead50 dead51 dead52 dead53 dead54 dead55 dead56 dead57 dead58 dead59 dead60 dead61 dead62 dead63 dead64 dead65 dead66 dead67 dead68 dead69 dead70 dead71 dead72 dead73 dead74 dead75 dead76 dead77 dead78 dead79 dead80 dead81 dead82 dead83 dead84 dead85 dead86 dead87 dead88 dead89 dead90 dead91 dead92 dead93 dead94 dead95 dead96 dead97 dead98 dead99 dead100 dead101 dead102 dead103 dead104 dead105 dead106 dead107 dead108 dead109 dead110 dead111 dead112 dead113 dead114 dead115 dead116 dead117 dead118 dead119 dead120 dead121 dead122 dead123 dead124 dead125 dead126 dead127 dead128 dead129 dead130 dead131 dead132 dead133 dead134 dead135 dead136 dead137 dead138 dead139 dead140 dead141 dead142 dead143 dead144 dead145 dead146 dead147 dead148 dead149 dead150 dead151 dead152 dead153 dead154 dead155 dead156 dead157 dead158 dead159 dead160 dead161 dead162 dead163 dead164 dead165 dead166 dead167 dead168 dead169 dead170 dead171 dead172 dead173 dead174 dead175 dead176 dead177 dead178 dead179 dead180 dead181 dead182 dead183 dead184 dead185 dead186 dead187 dead188 dead189 dead190 dead191 dead192 dead193 dead194 dead195 dead196 dead197 dead198 dead199 dead200 dead201 dead202 dead203 dead204 dead205 dead206 dead207 dead208 dead209 dead210 dead211 dead212 dead213 dead214 dead215 dead216 dead217 hKB218 KB219
    clear dead1 dead2 dead3 dead4 dead5 dead6 dead7 dead8 dead9 dead10 dead11 dead12 dead13 dead14 dead15 dead16 dead17 dead18 dead19 dead20 dead21 dead22 dead23 dead24 dead25 dead26 dead27 dead28 dead29 dead30 dead31 dead32 dead33 dead34 dead35 dead36 dead37 dead38 dead39 dead40 dead41 dead42 dead43 dead44 dead45 dead46 dead47 dead48 dead49 dead50 dead51 dead52 dead53 dead54 dead55 dead56 dead57 dead58 dead59 dead60 dead61 dead62 dead63 dead64 dead65 dead66 dead67 dead68 dead69 dead70 dead71 dead72 dead73 dead74 dead75 dead76 dead77 dead78 dead79 dead80 dead81 dead82 dead83 dead84 dead85 dead86 dead87 dead88 dead89 dead90 dead91 dead92 dead93 dead94 dead95 dead96 dead97 dead98 dead99 dead100 dead101 dead102 dead103 dead104 dead105 dead106 dead107 dead108 dead109 dead110 dead111 dead112 dead113 dead114 dead115 dead116 dead117 dead118 dead119 dead120 dead121 dead122 dead123 dead124 dead125 dead126 dead127 dead128 dead129 dead130 dead131 dead132 dead133 dead134 dead135 dead136 dead137 dead138 dead139 dead140 dead141 dead142 dead143 dead144 dead145 dead146 dead147 dead148 dead149 dead150 dead151 dead152 dead153 dead154 dead155 dead156 dead157 dead158 dead159 dead160 dead161 dead162 dead163 dead164 dead165 dead166 dead167 dead168 dead169 dead170 dead171 dead172 dead173 dead174 dead175 dead176 dead177 dead178 dead179 dead180 dead181 dead182 dead183 dead184 dead185 dead186 dead187 dead188 dead189 dead190 dead191 dead192 dead193 dead194 dead195 dead196 dead197 dead198 dead199 dead200 dead201 dead202 dead203 dead204 dead205 dead206 dead207 dead208 dead209 dead210 dead211 dead212 dead213 dead214 dead215 dead216 dead217
    revert w1 hb1 w2 ar Z tb c hdr hfine hb2 hal hsum sXa sXc wa wc ta tc hsh hbAX gX hgX e0 hel ok hh one w3 aE cE hb3 w4 aU cU hb4 w5 hb5 wk hb6 wq u16 u17 wr w7 ar2 cs z hdr2 hz4 hb7 hal2 htot sYa sYc t2a t2c hbAY gY hgY fz ft hft fo hshf w8 aF cF hb8 hbAF gF hgF w9 aG cG hb9 hbAG gG hgG wl hb10 hKB218 KB219 u4 u25 u26 u45 u46 u47 u48 u49 u50 u51 u52 u53 u54 u55 u56 u57 u58 u59 u60 u61 u62 u63 u64 u65 u66 u67 u68 u69 u70 u71 u72 u73 u74 u75 u76 u77 u78 u79 u80 u81 u82 u83 u84 u85 u86 u87 u88 u89 u90 u91 u92 u93 u94 u95 u96 u97 u98 u99 u100 u101 u102 u103 u104 u105 u106 u107 u108 u109 u110 u111 u112 u113 u114 u115 u116 u117 u118 u119 u120 u121 u122 u123 u124 u125 u126 u127 u128 u129 u130 u131 u132 u133 u134 u135 u136 u137 u138 u139 u140 u141 u142 u143 u144 u145 u146 u147 u148 u149 u150 u151 u152 u153 u154 u155 u156 u157 u158 u159 u160 u161 u162 u163 u164 u165 u166 u167 u168 u169 u170 u171 u172 u173 u174 u175 u176 u177 u178 u179 u180 u181 u182 u183 u184 u185 u186 u187 u188 u189 u190 u191 u192 u193 u194 u195 u196 u197 u198 u199 u200 u201 u202 u203 u204 u205 u206 u207 u208 u209 u210 u211 u212 u213 u214 u215 u216 u217 u218 u219 u220 u221 u222 u223 u224 u225 u226 u227 u228 u229 u230 u231 u232 u233 u234 u235 u236 u237 u238 u239 u240 u241 u242 u243 u244 u245 u246 u247 u248 u249 u250 u251 u252 u253 u254 u255 u256 u257 u258 u259 u260 wm hv1 hB
    exact hG.out
end Go.Proofs.Ytlcjcihohclmhaa
