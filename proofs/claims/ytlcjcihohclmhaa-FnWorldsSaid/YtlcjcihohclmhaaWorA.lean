/- FnWorlds: the walk, part A. -/
import Derived.Test.YtlcjcihohclmhaaMgWorlds12
import Derived.Deep.RegionHeld3
namespace Go.Proofs.Ytlcjcihohclmhaa
open Go.RowKit

theorem fine_tot {cs : List (List Lt)} (h : cs.length ≤ 3 ∧ ∀ x ∈ cs, fineC x) : totCs cs ≤ 1048576 := by
  have : ∀ l : List (List Lt), (∀ x ∈ l, fineC x) → sumCs l ≤ 100000 * l.length := by
    intro l
    induction l with
    | nil => intro _; simp [sumCs]
    | cons x r ih =>
      intro hx
      have h1 := ih (fun y hy => hx y (List.mem_cons_of_mem _ hy))
      have h2 := (hx x (by simp)).sum
      unfold sumCs at h1 ⊢
      simp only [List.map_cons, List.sum_cons, List.length_cons]
      omega
  have := this cs h.2
  unfold totCs
  omega


set_option maxRecDepth 100000 in
set_option maxHeartbeats 16000000 in
def worA (w : World) (n0 n1 : Nat) (ca : Option Addr) (cc : Nat) (ma : Option Addr) (mc : Nat) (hv0 : SlB w.heap.size w (.slice ca n0 cc) n0) (hv1 : SlB w.heap.size w (.slice ma n1 mc) n1) (hbig : n0 ≤ 1048576 ∧ n0 + n1 ≤ 1048576) : { G : Prop // Hid G → Calls Try.prog 3 #[.slice ca n0 cc, .slice ma n1 mc] w (RetV w (.bool true)) } := by
  refine ⟨?G, fun hG => ?body⟩
  case body =>
    go_enter Try.func3, Try.ntmps3
    have hB := Bel.rfl' w
    go_wp2_with fail
    refine (big_no n0 n1 _ _ _ _ _ hbig.1 hbig.2).mono ?_; rintro e w1 ⟨rfl, hb1⟩
    replace hv0 := hv0.bel hb1
    replace hv1 := hv1.bel hb1
    replace hB := hB.step hb1
    go_wp2_with fail
    refine (drawFalseAt_c n0 _ _ hbig.1 hv0).mono ?_; rintro e w2 ⟨sv, wv, tv, ar, Z, tb, c, rfl, hdr, hs, hw, htb6, htb27, hc, hfine, hb2⟩
    replace hv0 := hv0.bel hb2
    replace hv1 := hv1.bel hb2
    replace hB := hB.step hb2
    clear hv0
    have hal := drawn_len hdr
    have hsum := Nat.le_trans hfine.sum (show 100000 ≤ 1048576 by omega)
    obtain ⟨sXa, sXc, rfl⟩ := hs.form
    obtain ⟨wa, wc, rfl⟩ := hw.form
    obtain ⟨ta, tc, rfl⟩ := hc.form
    have hsh : short tb := ⟨by omega, fun j _ => Nat.le_trans (htb27 j) (by omega)⟩
    clear htb6 htb27
    have hbAX := Bel.alloc2 w2 (.cells #[.slice sXa ar.length sXc] 26) (.cells #[.int .i64 (Z : Int), .slice wa tb.length wc] 29)
    have hbX0 : ((w2.alloc (.cells #[.slice sXa ar.length sXc] 26)).alloc (.cells #[.int .i64 (Z : Int), .slice wa tb.length wc] 29)).cell? ⟨w2.heap.size, 0, none⟩ = some (.slice sXa ar.length sXc) := by simp [go_sem]
    have hbX1 : ((w2.alloc (.cells #[.slice sXa ar.length sXc] 26)).alloc (.cells #[.int .i64 (Z : Int), .slice wa tb.length wc] 29)).cell? ⟨w2.heap.size + 1, 0, none⟩ = some (.int .i64 (Z : Int)) := by simp [go_sem]
    have hbX2 : ((w2.alloc (.cells #[.slice sXa ar.length sXc] 26)).alloc (.cells #[.int .i64 (Z : Int), .slice wa tb.length wc] 29)).cell? ⟨w2.heap.size + 1, 1, none⟩ = some (.slice wa tb.length wc) := by simp [go_sem]
    replace hv1 := hv1.bel hbAX
    replace hB := hB.step hbAX
    replace hs := hs.below hbAX
    replace hw := hw.below hbAX
    replace hc := hc.below hbAX
    generalize hgX : w2.heap.size = gX at *
    have hel := falseAns_len ar Z tb c
    generalize hE : falseAns ar Z tb c = e0 at hel
    generalize hI : falseIs ar Z tb c = ok
    generalize hH : heldAns ar Z tb c = hh
    generalize hF : falseOk ar Z tb c = one
    go_wp2_with fail
    refine (iFalseAt_vv (by omega) hs hsh hw hsum hc hE hI).mono ?_; rintro e w3 ⟨aE, mE, cE, rfl, oE, hb3⟩
    replace hv1 := hv1.bel hb3
    replace hB := hB.step hb3
    replace hs := hs.below hb3
    replace hw := hw.below hb3
    replace hc := hc.below hb3
    replace hbX0 := hb3.at (World.block_lt_of_cell? _ ⟨_, 0, none⟩ hbX0) hbX0
    replace hbX1 := hb3.at (World.block_lt_of_cell? _ ⟨_, 0, none⟩ hbX1) hbX1
    replace hbX2 := hb3.at (World.block_lt_of_cell? _ ⟨_, 1, none⟩ hbX2) hbX2
    replace oE := oE.sl
    have eE := slI_n oE
    subst eE
    go_wp2_with fail
    refine (sFalseAt_vv (by omega) hs hsh hw hsum hc hE hI).mono ?_; rintro e w4 ⟨aU, mU, cU, rfl, oU, hb4⟩
    replace hv1 := hv1.bel hb4
    replace hB := hB.step hb4
    replace hs := hs.below hb4
    replace hw := hw.below hb4
    replace hc := hc.below hb4
    replace hbX0 := hb4.at (World.block_lt_of_cell? _ ⟨_, 0, none⟩ hbX0) hbX0
    replace hbX1 := hb4.at (World.block_lt_of_cell? _ ⟨_, 0, none⟩ hbX1) hbX1
    replace oE := oE.below hb4
    replace hbX2 := hb4.at (World.block_lt_of_cell? _ ⟨_, 1, none⟩ hbX2) hbX2
    replace oU := oU.sl
    have eU := slI_n oU
    subst eU
    go_wp2_with fail
    refine (iHoldsIn_ww (by omega) hs hsh hw hsum hc hH hF).mono ?_; rintro e w5 ⟨rfl, hb5⟩
    replace hv1 := hv1.bel hb5
    replace hB := hB.step hb5
    replace hs := hs.below hb5
    replace hw := hw.below hb5
    replace hc := hc.below hb5
    replace hbX0 := hb5.at (World.block_lt_of_cell? _ ⟨_, 0, none⟩ hbX0) hbX0
    replace hbX1 := hb5.at (World.block_lt_of_cell? _ ⟨_, 0, none⟩ hbX1) hbX1
    replace oE := oE.below hb5
    replace oU := oU.below hb5
    replace hbX2 := hb5.at (World.block_lt_of_cell? _ ⟨_, 1, none⟩ hbX2) hbX2
    go_wp2_with fail
    refine (sHoldsIn_ww (by omega) hs hsh hw hsum hc hH hF).mono ?_; rintro e w6 ⟨rfl, hb6⟩
    replace hv1 := hv1.bel hb6
    replace hB := hB.step hb6
    replace hs := hs.below hb6
    replace hw := hw.below hb6
    replace hc := hc.below hb6
    replace hbX0 := hb6.at (World.block_lt_of_cell? _ ⟨_, 0, none⟩ hbX0) hbX0
    replace hbX1 := hb6.at (World.block_lt_of_cell? _ ⟨_, 0, none⟩ hbX1) hbX1
    replace oE := oE.below hb6
    replace oU := oU.below hb6
    replace hbX2 := hb6.at (World.block_lt_of_cell? _ ⟨_, 1, none⟩ hbX2) hbX2
    obtain ⟨hr1, hr2⟩ := worlds1_ok hE hI hH hF
    have HR1 := Lib.hid hr1
    have HR2 := Lib.hid hr2
    clear hr1 hr2 hE hI hH hF
    have hq1 : (ok != ok) = false := by simp
    have hq2 : (one != one) = false := by simp
    have hq3 : (hh != hh) = false := by simp
    have HSI := Lib.hid (sameInts_same _ _ _ _ _ _ e0 _ hel oE oU)
    clear oU
    obtain ⟨wk, hwk⟩ : ∃ wk, wk = w6 := ⟨_, rfl⟩
    subst hwk
    go_upto_region 8 with fail
    go_cut [108] (fun s wx => s = .bool false ∧ ∃ wy, wy = wx ∧ Bel wk wy)
    case first =>
      cases one with
      | false =>
        clear HR1 HR2
        go_wp2_with fail
        refine HSI.out.mono ?_; rintro e wq ⟨rfl, hbq⟩
        go_wp2_with fail
        go_meet
        exact ⟨rfl, _, rfl, hbq⟩
      | true =>
        have hoh := HR1.out rfl
        clear HR1 HR2
        cases hh with
        | false =>
          obtain rfl : ok = true := hoh
          go_wp2_with fail
          refine HSI.out.mono ?_; rintro e wq ⟨rfl, hbq⟩
          go_wp2_with fail
          go_meet
          exact ⟨rfl, _, rfl, hbq⟩
        | true =>
          obtain rfl : ok = false := hoh
          go_wp2_with fail
          refine HSI.out.mono ?_; rintro e wq ⟨rfl, hbq⟩
          go_wp2_with fail
          go_meet
          exact ⟨rfl, _, rfl, hbq⟩
    case rest =>
    obtain ⟨rfl, wq, hwq, hbq⟩ := hcut
    subst hwq
    replace hv1 := hv1.bel hbq
    replace hB := hB.step hbq
    replace hs := hs.below hbq
    replace hw := hw.below hbq
    replace hc := hc.below hbq
    replace hbX0 := hbq.at (World.block_lt_of_cell? _ ⟨_, 0, none⟩ hbX0) hbX0
    replace hbX1 := hbq.at (World.block_lt_of_cell? _ ⟨_, 0, none⟩ hbX1) hbX1
    replace oE := oE.below hbq
    replace hbX2 := hbq.at (World.block_lt_of_cell? _ ⟨_, 1, none⟩ hbX2) hbX2
    clear hbq HSI HR1 hq1 hq2 hq3
    go_upto_if 109 with fail
    go_cut [] (fun wx => ∃ wy, wy = wx ∧ Bel wq wy)
    case first =>
      cases ok with
      | false =>
        clear HR2
        go_wp2_with fail
        go_meet
        exact ⟨_, rfl, Bel.rfl' _⟩
      | true =>
        obtain ⟨hx1, hx2⟩ := HR2.out rfl
        have HA := Lib.hid (iHoldsAt_xx (by omega) hs hsh hw hsum hc hel oE hx2 hx1)
        clear HR2 hx1 hx2
        go_wp2_with fail
        refine HA.out.mono ?_; rintro e wp ⟨rfl, hbp⟩
        go_wp2_with fail
        go_meet
        exact ⟨_, rfl, hbp⟩
    case rest =>
    obtain ⟨wr, hwr, hbr⟩ := hcut
    subst hwr
    clear hs hw hc oE hbX0 hbX1 hbX2 HR2
    replace hv1 := hv1.bel hbr
    replace hB := hB.step hbr
    clear hbr
    rename_i dead1 dead2 dead3 dead4 dead5 dead6 dead7 dead8 dead9 dead10 dead11 dead12 dead13 dead14 dead15 dead16 dead17 dead18 dead19 dead20 dead21 dead22 dead23 dead24 dead25 dead26 dead27 dead28 dead29 dead30 dead31 dead32 dead33 dead34 dead35 dead36 dead37 dead38 dead39 dead40 dead41 dead42 dead43 dead44 dead45 dead46 dead47 dead48 dead49 dead50 dead51 dead52 dead53 dead54 dead55 dead56 dead57 dead58 dead59 dead60 dead61 dead62 dead63 dead64 dead65 dead66 dead67 dead68 dead69 dead70 dead71 dead72 dead73 dead74 dead75 dead76 dead77 dead78 dead79 dead80 dead81 dead82 dead83 dead84 dead85 dead86 dead87 dead88 dead89 dead90 dead91 dead92 dead93 dead94 dead95 dead96 dead97 dead98 dead99 dead100 dead101 dead102 dead103 dead104 dead105 dead106 dead107 dead108 dead109 dead110 dead111 dead112 dead113 dead114 dead115 dead116 dead117 dead118 dead119 dead120 dead121 dead122 dead123 dead124 dead125 dead126 dead127 dead128 dead129 dead130 dead131 dead132 dead133 dead134 dead135 dead136 dead137 dead138 dead139 dead140 dead141 dead142 dead143 dead144 dead145 dead146 dead147 dead148 dead149 dead150 dead151 dead152 dead153 dead154 dead155 dead156 dead157 dead158 dead159 dead160 dead161 dead162 dead163 dead164 dead165 dead166 dead167 dead168 dead169 dead170 dead171 dead172 dead173 dead174 dead175 dead176 dead177 dead178 dead179 dead180 dead181 dead182 dead183 dead184 dead185 dead186 dead187 dead188 dead189 dead190 dead191 dead192 dead193 dead194 dead195 dead196 dead197 dead198 dead199 dead200 dead201 dead202 dead203 dead204 dead205 dead206 dead207 dead208 dead209 dead210 dead211 dead212 dead213 dead214 dead215 hKA216 KA217
    clear dead1 dead2 dead3 dead4 dead5 dead6 dead7 dead8 dead9 dead10 dead11 dead12 dead13 dead14 dead15 dead16 dead17 dead18 dead19 dead20 dead21 dead22 dead23 dead24 dead25 dead26 dead27 dead28 dead29 dead30 dead31 dead32 dead33 dead34 dead35 dead36 dead37 dead38 dead39 dead40 dead41 dead42 dead43 dead44 dead45 dead46 dead47 dead48 dead49 dead50 dead51 dead52 dead53 dead54 dead55 dead56 dead57 dead58 dead59 dead60 dead61 dead62 dead63 dead64 dead65 dead66 dead67 dead68 dead69 dead70 dead71 dead72 dead73 dead74 dead75 dead76 dead77 dead78 dead79 dead80 dead81 dead82 dead83 dead84 dead85 dead86 dead87 dead88 dead89 dead90 dead91 dead92 dead93 dead94 dead95 dead96 dead97 dead98 dead99 dead100 dead101 dead102 dead103 dead104 dead105 dead106 dead107 dead108 dead109 dead110 dead111 dead112 dead113 dead114 dead115 dead116 dead117 dead118 dead119 dead120 dead121 dead122 dead123 dead124 dead125 dead126 dead127 dead128 dead129 dead130 dead131 dead132 dead133 dead134 dead135 dead136 dead137 dead138 dead139 dead140 dead141 dead142 dead143 dead144 dead145 dead146 dead147 dead148 dead149 dead150 dead151 dead152 dead153 dead154 dead155 dead156 dead157 dead158 dead159 dead160 dead161 dead162 dead163 dead164 dead165 dead166 dead167 dead168 dead169 dead170 dead171 dead172 dead173 dead174 dead175 dead176 dead177 dead178 dead179 dead180 dead181 dead182 dead183 dead184 dead185 dead186 dead187 dead188 dead189 dead190 dead191 dead192 dead193 dead194 dead195 dead196 dead197 dead198 dead199 dead200 dead201 dead202 dead203 dead204 dead205 dead206 dead207 dead208 dead209 dead210 dead211 dead212 dead213 dead214 dead215
    revert w1 hb1 w2 ar Z tb c hdr hfine hb2 hal hsum sXa sXc wa wc ta tc hsh hbAX gX hgX e0 hel ok hh one w3 aE cE hb3 w4 aU cU hb4 w5 hb5 wk hb6 wq hKA216 KA217 u4 u16 u17 u45 u46 u47 u48 u49 u50 u51 u52 u53 u54 u55 u56 u57 u58 u59 u60 u61 u62 u63 u64 u65 u66 u67 u68 u69 u70 u71 u72 u73 u74 u75 u76 u77 u78 u79 u80 u81 u82 u83 u84 u85 u86 u87 u88 u89 u90 u91 u92 u93 u94 u95 u96 u97 u98 u99 u100 u101 u102 u103 u104 u105 u106 u107 u108 u109 u110 u111 u112 u113 u114 u115 u116 u117 u118 u119 u120 u121 u122 u123 u124 u125 u126 u127 u128 u129 u130 u131 u132 u133 u134 u135 u136 u137 u138 u139 u140 u141 u142 u143 u144 u145 u146 u147 u148 u149 u150 u151 u152 u153 u154 u155 u156 u157 u158 u159 u160 u161 u162 u163 u164 u165 u166 u167 u168 u169 u170 u171 u172 u173 u174 u175 u176 u177 u178 u179 u180 u181 u182 u183 u184 u185 u186 u187 u188 u189 u190 u191 u192 u193 u194 u195 u196 u197 u198 u199 u200 u201 u202 u203 u204 u205 u206 u207 u208 u209 u210 u211 u212 u213 u214 u215 u216 u217 u218 u219 u220 u221 u222 u223 u224 u225 u226 u227 u228 u229 u230 u231 u232 u233 u234 u235 u236 u237 u238 u239 u240 u241 u242 u243 u244 u245 u246 u247 u248 u249 u250 u251 u252 u253 u254 u255 u256 u257 u258 u259 u260 wr hv1 hB
    exact hG.out
end Go.Proofs.Ytlcjcihohclmhaa
