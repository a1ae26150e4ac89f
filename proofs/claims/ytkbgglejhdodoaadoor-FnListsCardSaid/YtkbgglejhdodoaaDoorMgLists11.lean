/- Texts merged, part 11. -/
import Derived.Deep.RegionHeld3
import Derived.Test.YtkbgglejhdodoaaDoorCards
import Derived.Test.YtkbgglejhdodoaaDoorTie
import Derived.OpenVars
import Derived.OpenShut
import Derived.ProofKit
import Derived.Deep.DeepHandedRow
import Derived.Lib.LaidTab
import Derived.Test.YtkbgglejhdodoaaDoorMgLists10
section
/- FnLists: the walk, part A. -/
namespace Go.Proofs.YtkbgglejhdodoaaDoor
open Go.RowKit

theorem SlS.nn {lo hi : Nat} {w : World} {ad : Option Addr} {n c : Nat} {xss : List (List Int)} (h : SlS lo hi w (.slice ad n c) xss) : ad = none → xss.length = 0 ∧ c = 0 := by
  obtain ⟨ad', cap, e, h1, ⟨_, h2⟩, _⟩ := h
  simp only [Value.slice.injEq] at e
  obtain ⟨rfl, rfl, rfl⟩ := e
  intro hn
  have := h2 hn
  omega

set_option maxRecDepth 100000 in
set_option maxHeartbeats 16000000 in
def listsA (w : World) (hT : Tab w) (n0 n1 : Nat) (ca : Option Addr) (cc : Nat) (ma : Option Addr) (mc : Nat) (hv0 : SlB w.heap.size w (.slice ca n0 cc) n0) (hv1 : SlB w.heap.size w (.slice ma n1 mc) n1) (hbig : n0 ≤ 1048576 ∧ n0 + n1 ≤ 1048576) : { G : Prop // Hid G → Calls Tryd.prog 4 #[.slice ca n0 cc, .slice ma n1 mc] w (RetV w (.bool true)) } := by
  refine ⟨?G, fun hG => ?body⟩
  case body =>
    go_enter Tryd.func4, Tryd.ntmps4
    have hB := Bel.rfl' w
    go_wp2_with fail
    refine (big_no n0 n1 _ _ _ _ _ hbig.1 hbig.2).mono ?_; rintro e w1 ⟨rfl, hb1⟩
    replace hv0 := hv0.belo hb1
    replace hv1 := hv1.belo hb1
    replace hB := hB.step hb1
    replace hT := hT.bel hb1
    go_wp2_with fail
    refine (drawCompareLists_c n0 _ _ hbig.1 hv0).mono ?_; rintro e w2 ⟨sv, av, bv, ar, la, lb, rfl, hdr, hs, hx, hal, haj, hy, hbl, hbj, hb2⟩
    replace hv0 := hv0.belo hb2
    replace hv1 := hv1.belo hb2
    replace hB := hB.step hb2
    replace hT := hT.bel hb2
    clear hv0
    have harl := drawn_len hdr
    obtain ⟨sXa, sXc, rfl⟩ := hs.form
    obtain ⟨aa, ac, rfl⟩ := hx.form
    obtain ⟨ba, bc, rfl⟩ := hy.form
    have hbAX := Bel.alloc0 w2 (.cells #[.slice sXa ar.length sXc] 26)
    have hbxX : (w2.alloc (.cells #[.slice sXa ar.length sXc] 26)).cell? ⟨w2.heap.size, 0, none⟩ = some (.slice sXa ar.length sXc) := by rw [World.cell?_alloc_new w2]; rfl
    replace hv1 := hv1.belo hbAX
    replace hB := hB.step hbAX
    replace hT := hT.bel hbAX
    replace hs := hs.below hbAX
    replace hx := hx.below hbAX
    replace hy := hy.below hbAX
    generalize hgX : w2.heap.size = gX at *
    have hsa := short_of hal (by decide) haj
    have hsb := short_of hbl (by decide) hbj
    have HP := Lib.hid (fun (h : lisOk ar la lb = true) => lis_pair h)
    have HSN := Lib.hid (fun (h : lisOk ar la lb = true) => lis_snoc h (show la.length < 8 by omega) (show lb.length < 8 by omega))
    have hsw : lisOk ar lb la = lisOk ar la lb := lisOk_swap ar la lb
    generalize hN : lisAns ar la lb = n at *
    generalize hM : lisAns ar lb la = m at *
    generalize hOk : lisOk ar la lb = ok at *
    go_wp2_with fail
    refine (iCompareLists_o hT (by omega) hs hsa hx hsb hy hN hOk).mono ?_; rintro e w3 ⟨rfl, hb3⟩
    replace hv1 := hv1.belo hb3
    replace hB := hB.step hb3
    replace hT := hT.bel hb3
    replace hs := hs.below hb3
    replace hx := hx.below hb3
    replace hy := hy.below hb3
    replace hbxX := hb3.at (World.block_lt_of_cell? _ ⟨_, 0, none⟩ hbxX) hbxX
    go_wp2_with fail
    refine (sCompareLists_o (by omega) hs hsa hx hsb hy hN hOk).mono ?_; rintro e w4 ⟨rfl, hb4⟩
    replace hv1 := hv1.belo hb4
    replace hB := hB.step hb4
    replace hT := hT.bel hb4
    replace hs := hs.below hb4
    replace hx := hx.below hb4
    replace hy := hy.below hb4
    replace hbxX := hb4.at (World.block_lt_of_cell? _ ⟨_, 0, none⟩ hbxX) hbxX
    go_wp2_with fail
    refine (iCompareLists_o hT (by omega) hs hsb hy hsa hx hM hsw).mono ?_; rintro e w5 ⟨rfl, hb5⟩
    replace hv1 := hv1.belo hb5
    replace hB := hB.step hb5
    replace hT := hT.bel hb5
    replace hs := hs.below hb5
    replace hx := hx.below hb5
    replace hy := hy.below hb5
    replace hbxX := hb5.at (World.block_lt_of_cell? _ ⟨_, 0, none⟩ hbxX) hbxX
    have hq1 : (ok != ok) = false := by simp
    have hq2 : (n != n) = false := by simp
    clear hsw hM hN hOk
    go_upto_region 7 with fail
    go_cut [95] (fun s wx => s = .bool false ∧ Bel w5 wx)
    case first =>
      cases ok with
      | false =>
        go_wp2_with fail
        go_meet
        exact ⟨rfl, Bel.rfl' _⟩
      | true =>
        rcases HP.out rfl with ⟨rfl, rfl⟩ | ⟨rfl, rfl⟩ | ⟨rfl, rfl⟩ | ⟨rfl, rfl⟩
        all_goals (go_wp2_with fail; go_meet; exact ⟨rfl, Bel.rfl' _⟩)
    case rest =>
    obtain ⟨w6, rfl⟩ : ∃ w6, w6 = wc := ⟨wc, rfl⟩
    obtain ⟨rfl, hb6⟩ := hcut
    replace hv1 := hv1.belo hb6
    replace hB := hB.step hb6
    replace hT := hT.bel hb6
    replace hs := hs.below hb6
    replace hx := hx.below hb6
    replace hy := hy.below hb6
    replace hbxX := hb6.at (World.block_lt_of_cell? _ ⟨_, 0, none⟩ hbxX) hbxX
    clear HP hq1
    have hla8 : decide ((la.length : Int) < 8) = true := by simp; omega
    have hlb8 : decide ((lb.length : Int) < 8) = true := by simp; omega
    go_upto_region 9 with fail
    go_cut [106] (fun s wx => s = .bool ok ∧ Bel w6 wx)
    case first =>
      cases ok with
      | false =>
        go_wp2_with fail
        go_meet
        exact ⟨rfl, Bel.rfl' _⟩
      | true =>
        go_wp2_with fail
        go_meet
        exact ⟨rfl, Bel.rfl' _⟩
    case rest =>
    obtain ⟨w7, rfl⟩ : ∃ w7, w7 = wc := ⟨wc, rfl⟩
    obtain ⟨rfl, hb7⟩ := hcut
    replace hv1 := hv1.belo hb7
    replace hB := hB.step hb7
    replace hT := hT.bel hb7
    replace hs := hs.below hb7
    replace hx := hx.below hb7
    replace hy := hy.below hb7
    replace hbxX := hb7.at (World.block_lt_of_cell? _ ⟨_, 0, none⟩ hbxX) hbxX
    rename_i dead1 dead2 dead3 dead4 dead5 dead6 dead7 dead8 dead9 dead10 dead11 dead12 dead13 dead14 dead15 dead16 dead17 dead18 dead19 dead20 dead21 dead22 dead23 dead24 dead25 dead26 dead27 dead28 dead29 dead30 dead31 dead32 dead33 dead34 dead35 dead36 dead37 dead38 dead39 dead40 dead41 dead42 dead43 dead44 dead45 dead46 dead47 dead48 dead49 dead50 dead51 dead52 dead53 dead54 dead55 dead56 dead57 dead58 dead59 dead60 dead61 dead62 dead63 dead64 dead65 dead66 dead67 dead68 dead69 dead70 dead71 dead72 dead73 dead74 dead75 dead76 dead77 dead78 dead79 dead80 dead81 dead82 dead83 dead84 dead85 dead86 dead87 dead88 dead89 dead90 dead91 dead92 dead93 dead94 dead95 dead96 dead97 dead98 dead99 dead100 dead101 dead102 dead103 dead104 dead105 dead106 dead107 dead108 dead109 dead110 dead111 dead112 dead113 dead114 dead115 dead116 dead117 dead118 dead119 dead120 dead121 dead122 dead123 dead124 dead125 dead126 dead127 dead128 dead129 dead130 dead131 dead132 dead133 dead134 dead135 dead136 dead137 dead138 dead139 dead140 dead141 dead142 dead143 dead144 dead145 dead146 dead147 dead148 dead149 dead150 dead151 dead152 dead153 dead154 dead155 dead156 dead157 dead158 dead159 dead160 dead161 dead162 dead163 dead164 dead165 dead166 dead167 dead168 dead169 dead170 dead171 dead172 dead173 dead174 dead175 dead176 dead177 dead178 dead179 dead180 dead181 hKA182 KA183 hKA184 KA185
    clear dead1 dead2 dead3 dead4 dead5 dead6 dead7 dead8 dead9 dead10 dead11 dead12 dead13 dead14 dead15 dead16 dead17 dead18 dead19 dead20 dead21 dead22 dead23 dead24 dead25 dead26 dead27 dead28 dead29 dead30 dead31 dead32 dead33 dead34 dead35 dead36 dead37 dead38 dead39 dead40 dead41 dead42 dead43 dead44 dead45 dead46 dead47 dead48 dead49 dead50 dead51 dead52 dead53 dead54 dead55 dead56 dead57 dead58 dead59 dead60 dead61 dead62 dead63 dead64 dead65 dead66 dead67 dead68 dead69 dead70 dead71 dead72 dead73 dead74 dead75 dead76 dead77 dead78 dead79 dead80 dead81 dead82 dead83 dead84 dead85 dead86 dead87 dead88 dead89 dead90 dead91 dead92 dead93 dead94 dead95 dead96 dead97 dead98 dead99 dead100 dead101 dead102 dead103 dead104 dead105 dead106 dead107 dead108 dead109 dead110 dead111 dead112 dead113 dead114 dead115 dead116 dead117 dead118 dead119 dead120 dead121 dead122 dead123 dead124 dead125 dead126 dead127 dead128 dead129 dead130 dead131 dead132 dead133 dead134 dead135 dead136 dead137 dead138 dead139 dead140 dead141 dead142 dead143 dead144 dead145 dead146 dead147 dead148 dead149 dead150 dead151 dead152 dead153 dead154 dead155 dead156 dead157 dead158 dead159 dead160 dead161 dead162 dead163 dead164 dead165 dead166 dead167 dead168 dead169 dead170 dead171 dead172 dead173 dead174 dead175 dead176 dead177 dead178 dead179 dead180 dead181
    revert w1 hb1 w2 ar la lb hdr hal haj hbl hbj hb2 harl sXa sXc aa ac ba bc hbAX gX hgX hsa hsb n m ok HSN w3 hb3 w4 hb4 w5 hb5 hq2 u106 w6 hb6 hla8 hlb8 hKA182 KA183 hKA184 KA185 u33 u34 u35 u36 u37 u38 u39 u40 u41 u42 u43 u44 u45 u46 u47 u48 u49 u50 u51 u52 u53 u54 u55 u56 u57 u58 u59 u60 u61 u62 u63 u64 u65 u66 u67 u68 u69 u70 u71 u72 u73 u74 u75 u76 u77 u78 u79 u80 u81 u82 u83 u84 u85 u86 u87 u88 u89 u90 u91 u92 u93 u94 u95 u96 u97 u98 u99 u100 u101 u102 u103 u104 u105 u107 u108 u109 u110 u111 u112 u113 u114 u115 u116 u117 u118 u119 u120 u121 u122 u123 u124 u125 u126 u127 u128 u129 u130 u131 u132 u133 u134 u135 u136 u137 u138 u139 u140 u141 u142 u143 u144 u145 u146 u147 u148 u149 u150 u151 u152 u153 u154 u155 u156 u157 u158 u159 u160 u161 u162 u163 u164 u165 u168 u169 u170 u171 u172 u173 u174 u175 u176 u177 u178 u179 u180 u181 u182 u183 u184 u185 u186 u187 u188 u189 u190 u191 u192 u193 u194 u195 u196 u197 u198 u199 u200 u201 u202 u203 u204 u205 u206 u207 u208 u209 u210 u211 u212 u213 u214 u215 u216 u217 w7 hb7 hv1 hB hT hs hx hy hbxX
    exact hG.out
end Go.Proofs.YtkbgglejhdodoaaDoor
end
section
/- FnLists: the walk, part B. -/
namespace Go.Proofs.YtkbgglejhdodoaaDoor
open Go.RowKit

set_option maxRecDepth 100000 in
set_option maxHeartbeats 16000000 in
def listsB (w : World) (hT : Tab w) (n0 n1 : Nat) (ca : Option Addr) (cc : Nat) (ma : Option Addr) (mc : Nat) (hv0 : SlB w.heap.size w (.slice ca n0 cc) n0) (hv1 : SlB w.heap.size w (.slice ma n1 mc) n1) (hbig : n0 ≤ 1048576 ∧ n0 + n1 ≤ 1048576) : { G : Prop // Hid G → (listsA w hT n0 n1 ca cc ma mc hv0 hv1 hbig).1 } := by
  refine ⟨?G, fun hG => ?body⟩
  case body =>
    unfold listsA
    intro w1 hb1 w2 ar la lb hdr hal haj hbl hbj hb2 harl sXa sXc aa ac ba bc hbAX gX hgX hsa hsb n m ok HSN w3 hb3 w4 hb4 w5 hb5 hq2 u106 w6 hb6 hla8 hlb8 hKA182 KA183 hKA184 KA185 u33 u34 u35 u36 u37 u38 u39 u40 u41 u42 u43 u44 u45 u46 u47 u48 u49 u50 u51 u52 u53 u54 u55 u56 u57 u58 u59 u60 u61 u62 u63 u64 u65 u66 u67 u68 u69 u70 u71 u72 u73 u74 u75 u76 u77 u78 u79 u80 u81 u82 u83 u84 u85 u86 u87 u88 u89 u90 u91 u92 u93 u94 u95 u96 u97 u98 u99 u100 u101 u102 u103 u104 u105 u107 u108 u109 u110 u111 u112 u113 u114 u115 u116 u117 u118 u119 u120 u121 u122 u123 u124 u125 u126 u127 u128 u129 u130 u131 u132 u133 u134 u135 u136 u137 u138 u139 u140 u141 u142 u143 u144 u145 u146 u147 u148 u149 u150 u151 u152 u153 u154 u155 u156 u157 u158 u159 u160 u161 u162 u163 u164 u165 u168 u169 u170 u171 u172 u173 u174 u175 u176 u177 u178 u179 u180 u181 u182 u183 u184 u185 u186 u187 u188 u189 u190 u191 u192 u193 u194 u195 u196 u197 u198 u199 u200 u201 u202 u203 u204 u205 u206 u207 u208 u209 u210 u211 u212 u213 u214 u215 u216 u217 w7 hb7 hv1 hB hT hs hx hy hbxX
    go_upto_if 106 with fail
    go_cut [] (fun wx => Bel w7 wx)
    case first =>
      cases ok with
      | false =>
        go_wp2_with fail
        go_meet
        exact Bel.rfl' _
      | true =>
        have hB0 := Bel.rfl' w7
        obtain ⟨hz1, hz2, hgs⟩ := HSN.out rfl
        clear HSN
        have hg0 : (leastAns ar).length ≤ 1000 := by unfold leastAns; split <;> simp
        generalize hG0 : leastAns ar = g0 at *
        go_wp2_with fail
        refine (iLeastGround_o (by omega) hs hG0 hgs).mono ?_; rintro e w8 ⟨aG, mG, cG, rfl, oG, hb8⟩
        replace hv1 := hv1.belo hb8
        replace hB := hB.step hb8
        replace hT := hT.bel hb8
        replace hs := hs.below hb8
        replace hx := hx.below hb8
        replace hy := hy.below hb8
        replace hbxX := hb8.at (World.block_lt_of_cell? _ ⟨_, 0, none⟩ hbxX) hbxX
        replace hB0 := hB0.step hb8
        replace oG := oG.sl
        have eG := slI_no oG
        subst eG
        go_wp2_with fail
        have hdr9 := Bel.drew0 w8
        replace hv1 := hv1.belo hdr9
        replace hB := hB.step hdr9
        replace hT := hT.bel hdr9
        replace hs := hs.below hdr9
        replace hx := hx.below hdr9
        replace hy := hy.below hdr9
        replace hbxX := hdr9.at (World.block_lt_of_cell? _ ⟨_, 0, none⟩ hbxX) hbxX
        replace hB0 := hB0.step hdr9
        replace oG := oG.below hdr9
        refine wp_region_held_drew (S := fun w' => w'.cell? ⟨gX, 0, none⟩ = some (.slice sXa ar.length sXc)) (by kernel_rfl) hbxX (fun _ => ?_)
        clear hdr9
        generalize World.drew _ = w9 at *
        obtain ⟨za, hEa, hCa⟩ := hx.vals
        obtain ⟨zb, hEb, hCb⟩ := hy.vals
        have hNa := hx.nn
        have hNb := hy.nn
        have hza := hEa.1
        have hzb := hEb.1
        change wpAnyH _ _ _ _ _ 19 #[false, false, false, false, false, false, false, false, false, false, false, false, false, false, false, false, false, false, false] _ _
        refine wpAnyH_take (i := 0) (v := ?v0) rfl (by kernel_rfl) (by kernel_rfl) (by kernel_rfl) (fun _ _ _ h => h) (Or.inl ⟨by rfl, ?hy0⟩) hbxX ?rest0
        case hy0 =>
          intro w' hSw
          go_simp
          try with_reducible rfl
        try simp only [Act.put, List.setIfInBounds_toArray, List.set_cons_zero, List.set_cons_succ]
        refine wpAnyH_take (i := 2) (v := ?v2) rfl (by kernel_rfl) (by kernel_rfl) (by kernel_rfl) (fun _ _ _ h => h) (Or.inl ⟨by rfl, ?hy2⟩) hbxX ?rest2
        case hy2 =>
          intro w' hSw
          go_simp
          try with_reducible rfl
        try simp only [Act.put, List.setIfInBounds_toArray, List.set_cons_zero, List.set_cons_succ]
        refine wpAnyH_take (i := 4) (v := ?v4) rfl (by kernel_rfl) (by kernel_rfl) (by kernel_rfl) (fun _ _ _ h => h) (Or.inl ⟨by rfl, ?hy4⟩) hbxX ?rest4
        case hy4 =>
          intro w' hSw
          go_simp
          try with_reducible rfl
        try simp only [Act.put, List.setIfInBounds_toArray, List.set_cons_zero, List.set_cons_succ]
        refine wpAnyH_take (i := 8) (v := ?v8) rfl (by kernel_rfl) (by kernel_rfl) (by kernel_rfl) (fun _ _ _ h => h) (Or.inl ⟨by rfl, ?hy8⟩) hbxX ?rest8
        case hy8 =>
          intro w' hSw
          go_simp
          try with_reducible rfl
        try simp only [Act.put, List.setIfInBounds_toArray, List.set_cons_zero, List.set_cons_succ]
        refine wpAnyH_take (i := 10) (v := ?v10) rfl (by kernel_rfl) (by kernel_rfl) (by kernel_rfl) (fun _ _ _ h => h) (Or.inl ⟨by rfl, ?hy10⟩) hbxX ?rest10
        case hy10 =>
          intro w' hSw
          go_simp
          try with_reducible rfl
        try simp only [Act.put, List.setIfInBounds_toArray, List.set_cons_zero, List.set_cons_succ]
        change wpAnyH _ _ _ _ _ 14 #[true, false, true, false, true, false, false, false, true, false, true, false, false, false, false, false, false, false, false] _ _
        refine Rg.region_go (aG, g0.length, cG) za zb ⟨by show 128 ≤ 218; decide, ⟨_, rfl, rfl, rfl, rfl⟩, ⟨_, rfl, rfl, rfl, rfl⟩, ⟨_, rfl, rfl, rfl, rfl⟩, ⟨_, rfl, rfl, rfl, rfl⟩, ⟨_, rfl, rfl, rfl, rfl⟩, ⟨_, rfl, rfl, rfl, rfl⟩, ⟨_, rfl, rfl, rfl, rfl⟩, ⟨_, rfl, rfl, rfl, rfl⟩, ⟨aa, ac, by rw [List.length_map, hza]; rfl, by rw [List.length_map, hza]; exact hNa, hCa⟩, ⟨ba, bc, by rw [List.length_map, hzb]; rfl, by rw [List.length_map, hzb]; exact hNb, hCb⟩, rfl, rfl, by rw [List.length_map, hza]; omega, by rw [List.length_map, hzb]; omega, by kernel_rfl⟩ (fun wq hq => hq.at (World.block_lt_of_cell? _ ⟨_, 0, none⟩ hbxX) hbxX) ?_
        intro tag v1 v3 v5 v6 v7 v9 v11 v12 w10 hb10 hO1 hO2
        have hX1 : SlS 0 w10.heap.size w10 v6 (la ++ [g0]) := RowV.sls ⟨za ++ [(aG, g0.length, cG)], by simpa using hO1.1, hEa.snoc (show SlI 0 w9.heap.size w9 (encS (aG, g0.length, cG)) g0 from oG.in')⟩ hb10
        have hX2 : SlS 0 w10.heap.size w10 v12 (lb ++ [g0]) := RowV.sls ⟨zb ++ [(aG, g0.length, cG)], by simpa using hO2.1, hEb.snoc (show SlI 0 w9.heap.size w9 (encS (aG, g0.length, cG)) g0 from oG.in')⟩ hb10
        clear hO1 hO2 hCa hCb hNa hNb hEa hEb hza hzb oG
        replace hT := hT.bel hb10
        replace hs := hs.below hb10
        replace hbxX := hb10.at (World.block_lt_of_cell? _ ⟨_, 0, none⟩ hbxX) hbxX
        replace hB0 := hB0.step hb10
        obtain ⟨a6, c6, rfl⟩ := hX1.form
        obtain ⟨a12, c12, rfl⟩ := hX2.form
        have hsa2 := short_of (n := 6) (xss := la ++ [g0]) (by simp; omega) (by decide) (len_snoc haj hg0)
        have hsb2 := short_of (n := 6) (xss := lb ++ [g0]) (by simp; omega) (by decide) (len_snoc hbj hg0)
        generalize hL1 : la ++ [g0] = l1 at *
        generalize hL2 : lb ++ [g0] = l2 at *
        simp only [Rg.puts, List.setIfInBounds_toArray, List.set_cons_zero, List.set_cons_succ]
        refine wpAnyH_ready (rs := [13]) (by kernel_rfl) (by simp) ?_
        refine AllReadyH.cons rfl (fun K hK => ?_) AllReadyH.nil
        go_simp
        go_wp2_with ((go_at_call 25; refine (iCompareLists_o hT (by omega) hs hsa2 hX1 hsb2 hX2 hz2 hz1).mono ?_; rintro e w11 ⟨rfl, hb11⟩))
        clear hX1 hX2 hs hsa2 hsb2
        replace hT := hT.bel hb11
        replace hbxX := hb11.at (World.block_lt_of_cell? _ ⟨_, 0, none⟩ hbxX) hbxX
        replace hB0 := hB0.step hb11
        refine hK.out _ _ hbxX (fun _ => ?_)
        clear hK K
        refine wpAnyH_take (i := 14) (v := ?v14) rfl (by kernel_rfl) (by kernel_rfl) (by kernel_rfl) (fun _ _ _ h => h) (Or.inl ⟨by rfl, ?hy14⟩) hbxX ?rest14
        case hy14 =>
          intro w' hSw
          go_simp
          try with_reducible rfl
        try simp only [Act.put, List.setIfInBounds_toArray, List.set_cons_zero, List.set_cons_succ]
        refine wpAnyH_take (i := 15) (v := ?v15) rfl (by kernel_rfl) (by kernel_rfl) (by kernel_rfl) (fun _ _ _ h => h) (Or.inl ⟨by rfl, ?hy15⟩) hbxX ?rest15
        case hy15 =>
          intro w' hSw
          go_simp
          try with_reducible rfl
        try simp only [Act.put, List.setIfInBounds_toArray, List.set_cons_zero, List.set_cons_succ]
        refine wpAnyH_take (i := 16) (v := ?v16) rfl (by kernel_rfl) (by kernel_rfl) (by kernel_rfl) (fun _ _ _ h => h) (Or.inl ⟨by rfl, ?hy16⟩) hbxX ?rest16
        case hy16 =>
          intro w' hSw
          go_simp
          try with_reducible rfl
        try simp only [Act.put, List.setIfInBounds_toArray, List.set_cons_zero, List.set_cons_succ]
        refine wpAnyH_ready (rs := [17]) (by kernel_rfl) (by simp) ?_
        refine AllReadyH.cons rfl (fun K hK => ?_) AllReadyH.nil
        go_simp
        refine hK.out _ _ hbxX (fun _ => ?_)
        clear hK K
        refine wpAnyH_ready (rs := [18]) (by kernel_rfl) (by simp) ?_
        refine AllReadyH.cons rfl (fun K hK => ?_) AllReadyH.nil
        go_simp
        refine hK.out _ _ hbxX (fun _ => ?_)
        clear hK K
        refine wpAnyH_done (by kernel_rfl) ?_ _
        go_wp2_with fail
        go_meet
        exact hB0
    case rest =>
    obtain ⟨w8, rfl⟩ : ∃ w8, w8 = wc := ⟨wc, rfl⟩
    have hb8 := hcut
    replace hv1 := hv1.belo hb8
    replace hB := hB.step hb8
    replace hT := hT.bel hb8
    clear hcut HSN hs hx hy hbxX hq2
    rename_i dead1 dead2 dead3 dead4 dead5 dead6 dead7 dead8 dead9 dead10 dead11 dead12 dead13 dead14 dead15 dead16 dead17 dead18 dead19 dead20 dead21 dead22 dead23 dead24 dead25 dead26 dead27 dead28 dead29 dead30 dead31 dead32 dead33 dead34 dead35 dead36 dead37 dead38 dead39 dead40 dead41 dead42 dead43 dead44 dead45 dead46 dead47 dead48 dead49 dead50 dead51 dead52 dead53 dead54 dead55 dead56 dead57 dead58 dead59 dead60 dead61 dead62 dead63 dead64 dead65 dead66 dead67 dead68 dead69 dead70 dead71 dead72 dead73 dead74 dead75 dead76 dead77 dead78 dead79 dead80 dead81 dead82 dead83 dead84 dead85 dead86 dead87 dead88 dead89 dead90 dead91 dead92 dead93 dead94 dead95 dead96 dead97 dead98 dead99 dead100 dead101 dead102 dead103 dead104 dead105 dead106 dead107 dead108 dead109 dead110 dead111 dead112 dead113 dead114 dead115 dead116 dead117 dead118 dead119 dead120 dead121 dead122 dead123 dead124 dead125 dead126 dead127 dead128 dead129 dead130 dead131 dead132 dead133 dead134 dead135 dead136 dead137 dead138 dead139 dead140 dead141 dead142 dead143 dead144 dead145 dead146 dead147 dead148 dead149 dead150 dead151 dead152 dead153 dead154 dead155 dead156 dead157 dead158 dead159 dead160 dead161 dead162 dead163 dead164 dead165 dead166 dead167 dead168 dead169 dead170 dead171 dead172 dead173 dead174 dead175 dead176 dead177 dead178 dead179 dead180 dead181 dead182 dead183
    clear dead1 dead2 dead3 dead4 dead5 dead6 dead7 dead8 dead9 dead10 dead11 dead12 dead13 dead14 dead15 dead16 dead17 dead18 dead19 dead20 dead21 dead22 dead23 dead24 dead25 dead26 dead27 dead28 dead29 dead30 dead31 dead32 dead33 dead34 dead35 dead36 dead37 dead38 dead39 dead40 dead41 dead42 dead43 dead44 dead45 dead46 dead47 dead48 dead49 dead50 dead51 dead52 dead53 dead54 dead55 dead56 dead57 dead58 dead59 dead60 dead61 dead62 dead63 dead64 dead65 dead66 dead67 dead68 dead69 dead70 dead71 dead72 dead73 dead74 dead75 dead76 dead77 dead78 dead79 dead80 dead81 dead82 dead83 dead84 dead85 dead86 dead87 dead88 dead89 dead90 dead91 dead92 dead93 dead94 dead95 dead96 dead97 dead98 dead99 dead100 dead101 dead102 dead103 dead104 dead105 dead106 dead107 dead108 dead109 dead110 dead111 dead112 dead113 dead114 dead115 dead116 dead117 dead118 dead119 dead120 dead121 dead122 dead123 dead124 dead125 dead126 dead127 dead128 dead129 dead130 dead131 dead132 dead133 dead134 dead135 dead136 dead137 dead138 dead139 dead140 dead141 dead142 dead143 dead144 dead145 dead146 dead147 dead148 dead149 dead150 dead151 dead152 dead153 dead154 dead155 dead156 dead157 dead158 dead159 dead160 dead161 dead162 dead163 dead164 dead165 dead166 dead167 dead168 dead169 dead170 dead171 dead172 dead173 dead174 dead175 dead176 dead177 dead178 dead179 dead180 dead181 dead182 dead183
    revert w1 hb1 w2 ar la lb hdr hal haj hbl hbj hb2 harl sXa sXc aa ac ba bc hbAX gX hgX hsa hsb n m ok w3 hb3 w4 hb4 w5 hb5 w6 hb6 hla8 hlb8 hKA182 KA183 w7 hb7 u4 u14 u15 u16 u17 u33 u34 u35 u36 u37 u38 u39 u40 u41 u42 u43 u44 u45 u46 u47 u48 u49 u50 u51 u52 u53 u54 u55 u56 u57 u58 u59 u60 u61 u62 u63 u64 u65 u66 u67 u68 u69 u70 u71 u72 u73 u74 u75 u76 u77 u78 u79 u80 u81 u82 u83 u84 u85 u86 u87 u88 u89 u90 u91 u92 u93 u94 u95 u96 u97 u98 u99 u100 u101 u102 u103 u104 u105 u106 u107 u108 u109 u110 u111 u112 u113 u114 u115 u116 u117 u118 u119 u120 u121 u122 u123 u124 u125 u126 u127 u128 u129 u130 u131 u132 u133 u134 u135 u136 u137 u138 u139 u140 u141 u142 u143 u144 u145 u146 u147 u148 u149 u150 u151 u152 u153 u154 u155 u156 u157 u158 u159 u160 u161 u162 u163 u164 u165 u168 u169 u170 u171 u172 u173 u174 u175 u176 u177 u178 u179 u180 u181 u182 u183 u184 u185 u186 u187 u188 u189 u190 u191 u192 u193 u194 u195 u196 u197 u198 u199 u200 u201 u202 u203 u204 u205 u206 u207 u208 u209 u210 u211 u212 u213 u214 u215 u216 u217 w8 hb8 hv1 hB hT
    exact hG.out
end Go.Proofs.YtkbgglejhdodoaaDoor
end
section
/- FnLists: the walk, part C. -/
namespace Go.Proofs.YtkbgglejhdodoaaDoor
open Go.RowKit

set_option maxRecDepth 100000 in
set_option maxHeartbeats 16000000 in
theorem listsC (w : World) (hT : Tab w) (n0 n1 : Nat) (ca : Option Addr) (cc : Nat) (ma : Option Addr) (mc : Nat) (hv0 : SlB w.heap.size w (.slice ca n0 cc) n0) (hv1 : SlB w.heap.size w (.slice ma n1 mc) n1) (hbig : n0 ≤ 1048576 ∧ n0 + n1 ≤ 1048576) : (listsB w hT n0 n1 ca cc ma mc hv0 hv1 hbig).1 := by
    unfold listsB
    intro w1 hb1 w2 ar la lb hdr hal haj hbl hbj hb2 harl sXa sXc aa ac ba bc hbAX gX hgX hsa hsb n m ok w3 hb3 w4 hb4 w5 hb5 w6 hb6 hla8 hlb8 hKA182 KA183 w7 hb7 u4 u14 u15 u16 u17 u33 u34 u35 u36 u37 u38 u39 u40 u41 u42 u43 u44 u45 u46 u47 u48 u49 u50 u51 u52 u53 u54 u55 u56 u57 u58 u59 u60 u61 u62 u63 u64 u65 u66 u67 u68 u69 u70 u71 u72 u73 u74 u75 u76 u77 u78 u79 u80 u81 u82 u83 u84 u85 u86 u87 u88 u89 u90 u91 u92 u93 u94 u95 u96 u97 u98 u99 u100 u101 u102 u103 u104 u105 u106 u107 u108 u109 u110 u111 u112 u113 u114 u115 u116 u117 u118 u119 u120 u121 u122 u123 u124 u125 u126 u127 u128 u129 u130 u131 u132 u133 u134 u135 u136 u137 u138 u139 u140 u141 u142 u143 u144 u145 u146 u147 u148 u149 u150 u151 u152 u153 u154 u155 u156 u157 u158 u159 u160 u161 u162 u163 u164 u165 u168 u169 u170 u171 u172 u173 u174 u175 u176 u177 u178 u179 u180 u181 u182 u183 u184 u185 u186 u187 u188 u189 u190 u191 u192 u193 u194 u195 u196 u197 u198 u199 u200 u201 u202 u203 u204 u205 u206 u207 u208 u209 u210 u211 u212 u213 u214 u215 u216 u217 w8 hb8 hv1 hB hT
    go_wp2_with fail
    refine (drawIsFalling_c n1 _ _ (by omega) hv1).mono ?_; rintro e w9 ⟨sv2, lv, ar2, l, rfl, hdr2, hs2, hl, hll, hlj, hb9⟩
    replace hv1 := hv1.belo hb9
    replace hB := hB.step hb9
    replace hT := hT.bel hb9
    have harl2 := drawn_len hdr2
    obtain ⟨sYa, sYc, rfl⟩ := hs2.form
    obtain ⟨lya, lyc, rfl⟩ := hl.form
    have hbAY := Bel.alloc0 w9 (.cells #[.slice sYa ar2.length sYc] 26)
    have hbxY : (w9.alloc (.cells #[.slice sYa ar2.length sYc] 26)).cell? ⟨w9.heap.size, 0, none⟩ = some (.slice sYa ar2.length sYc) := by rw [World.cell?_alloc_new w9]; rfl
    replace hv1 := hv1.belo hbAY
    replace hB := hB.step hbAY
    replace hT := hT.bel hbAY
    replace hs2 := hs2.below hbAY
    replace hl := hl.below hbAY
    generalize hgY : w9.heap.size = gY at *
    have hsl := short_of hll (by decide) hlj
    have HFC := Lib.hid (fun (h : falAns ar2 l = true) (j i : Nat) (hj : j < i) (hi : i < l.length) => fal_cmp h j i hj hi)
    generalize hF : falAns ar2 l = f at *
    generalize hFk : goodTerms ar2 l 8 = fk at *
    go_wp2_with fail
    refine (iIsFalling_o hT (by omega) hs2 hsl hl hF hFk).mono ?_; rintro e w10 ⟨rfl, hb10⟩
    replace hv1 := hv1.belo hb10
    replace hB := hB.step hb10
    replace hT := hT.bel hb10
    replace hs2 := hs2.below hb10
    replace hl := hl.below hb10
    replace hbxY := hb10.at (World.block_lt_of_cell? _ ⟨_, 0, none⟩ hbxY) hbxY
    go_wp2_with fail
    refine (sIsFalling_o (by omega) hs2 hsl hl hF hFk).mono ?_; rintro e w11 ⟨rfl, hb11⟩
    replace hv1 := hv1.belo hb11
    replace hB := hB.step hb11
    replace hT := hT.bel hb11
    replace hs2 := hs2.below hb11
    replace hl := hl.below hb11
    replace hbxY := hb11.at (World.block_lt_of_cell? _ ⟨_, 0, none⟩ hbxY) hbxY
    have hqf : (f != f) = false := by simp
    have hqk : (fk != fk) = false := by simp
    clear hF hFk
    go_wp2_with fail
    go_loopw [167] (fun i wr => ∃ k : Nat, k ≤ l.length ∧ i = .int .i64 k ∧ Bel w11 wr) (fun i _ => l.length - (intOf i).toNat)
    case atStart => exact ⟨0, Nat.zero_le _, rfl, Bel.rfl' _⟩
    case round =>
      obtain ⟨k, hk, rfl, hbw⟩ := hrel
      by_cases hlt : k < l.length
      · have hd1 : decide ((k : Int) < l.length) = true := by simp; omega
        have hwk := IntWalk.i64_in ((k : Int) + 1) (by omega)
        go_wp2_with fail
        go_loopw [25] (fun j wr => ∃ q : Nat, q ≤ k ∧ j = .int .i64 q ∧ Bel w11 wr) (fun j _ => k - (intOf j).toNat)
        case atStart => exact ⟨0, Nat.zero_le _, rfl, hbw⟩
        case round =>
          clear hbw
          obtain ⟨q, hq, rfl, hbw⟩ := hrel
          by_cases hqlt : q < k
          · have hd2 : decide ((q : Int) < k) = true := by simp; omega
            cases f with
            | false =>
              go_wp2_with fail
              exact ⟨⟨k + 1, by omega, by go_num, hbw⟩, by simp [intOf]; omega⟩
            | true =>
              have hC := HFC.out rfl q k hqlt hlt
              obtain ⟨bb, off, p, rfl, hbb, hc, hp⟩ := hl.at hbw q (by omega)
              obtain ⟨bb', off', p', e', -, hc', hp'⟩ := hl.at hbw k hlt
              simp only [Option.some.injEq, Addr.mk.injEq, and_true] at e'
              obtain ⟨rfl, rfl⟩ := e'
              have hxl0 := hlj q
              have hyl0 := hlj k
              have hi0 : (0 : Int) ≤ q := by omega
              have hi1 : (q : Int) < l.length := by omega
              have hi2 : (0 : Int) ≤ k := by omega
              have hi3 : (k : Int) < l.length := by omega
              have hwq := IntWalk.i64_in ((q : Int) + 1) (by omega)
              have HL := Lib.hid hl
              have HJ := Lib.hid hlj
              have HS := Lib.hid hsl
              clear hl hlj hsl
              generalize l.getD q [] = s at *
              generalize l.getD k [] = t at *
              obtain ⟨ap, cp, rfl⟩ := hp.form
              obtain ⟨ap', cp', rfl⟩ := hp'.form
              have hbxY2 := hbw.at (World.block_lt_of_cell? _ ⟨_, 0, none⟩ hbxY) hbxY
              have HA := Lib.hid (fun (w' : World) (hq2 : Bel wr w') => iCompareTerms_o (hT.bel (hbw.step hq2)) (show ar2.length ≤ 1048576 by omega) ((hs2.below hbw).below hq2) (show s.length ≤ 1048576 by omega) (hp.below hq2) (show t.length ≤ 1048576 by omega) (hp'.below hq2) hC.2 hC.1)
              have hbk := World.block_lt_of_cell? wr ⟨_, _, none⟩ hc
              have hbk2 := World.block_lt_of_cell? wr ⟨_, _, none⟩ hbxY2
              clear hp hp' hC
              go_wp2_with fail
              go_region_held3 (fun w' => w'.cell? ⟨gY, 0, none⟩ = some (.slice sYa ar2.length sYc) ∧ w'.cell? ⟨bb, off + q, none⟩ = some (.slice ap s.length cp) ∧ w'.cell? ⟨bb, off + k, none⟩ = some (.slice ap' t.length cp'))
                (first | exact ⟨hbxY2, hc, hc'⟩ | exact ⟨hb2.of_drew.at hbk2 hbxY2, hb2.of_drew.at hbk hc, hb2.of_drew.at hbk hc'⟩)
                (first | (go_at_call 11; refine (HA.out _ (Bel.drew0 _)).mono ?_; rintro e w2 ⟨rfl, hb2⟩) | fail)
              clear hbxY2 HA
              go_wp2_with fail
              exact ⟨⟨q + 1, by omega, by go_num, hbw.step hb2.of_drew⟩, by simp [intOf]; omega⟩
          · obtain rfl : q = k := by omega
            have hd2 : decide ((q : Int) < q) = false := by simp
            go_wp2_with fail
            exact ⟨⟨q + 1, by omega, by go_num, hbw⟩, by simp [intOf]; omega⟩
      · obtain rfl : k = l.length := by omega
        have hd1 : decide ((l.length : Int) < l.length) = false := by simp
        clear hT hs2 hl HFC hbxY
        replace hv1 := hv1.belo hbw
        replace hB := hB.step hbw
        clear hbw
        go_wp2_with fail
        refine (drawLeastGround_c n1 _ _ (by omega) hv1).mono ?_; rintro e w12 ⟨sv3, ar3, rfl, hdr3, hs3, hb12⟩
        replace hv1 := hv1.belo hb12
        replace hB := hB.step hb12
        have harl3 := drawn_len hdr3
        obtain ⟨sZa, sZc, rfl⟩ := hs3.form
        have hbAZ := Bel.alloc0 w12 (.cells #[.slice sZa ar3.length sZc] 26)
        have hbxZ : (w12.alloc (.cells #[.slice sZa ar3.length sZc] 26)).cell? ⟨w12.heap.size, 0, none⟩ = some (.slice sZa ar3.length sZc) := by rw [World.cell?_alloc_new w12]; rfl
        replace hv1 := hv1.belo hbAZ
        replace hB := hB.step hbAZ
        replace hs3 := hs3.below hbAZ
        generalize hgZ : w12.heap.size = gZ at *
        have hgl := leastAns_len ar3
        generalize hG : leastAns ar3 = gl at *
        generalize hGs : goodSign ar3 = gs
        go_wp2_with fail
        refine (iLeastGround_o (by omega) hs3 hG hGs).mono ?_; rintro e w13 ⟨aL, mL, cL, rfl, oL, hb13⟩
        replace hv1 := hv1.belo hb13
        replace hB := hB.step hb13
        replace hs3 := hs3.below hb13
        replace hbxZ := hb13.at (World.block_lt_of_cell? _ ⟨_, 0, none⟩ hbxZ) hbxZ
        replace oL := oL.sl
        have eL := slI_no oL
        subst eL
        go_wp2_with fail
        refine (sLeastGround_o (by omega) hs3 hG hGs).mono ?_; rintro e w14 ⟨aM, mM, cM, rfl, oM, hb14⟩
        replace hv1 := hv1.belo hb14
        replace hB := hB.step hb14
        replace hs3 := hs3.below hb14
        replace hbxZ := hb14.at (World.block_lt_of_cell? _ ⟨_, 0, none⟩ hbxZ) hbxZ
        replace oL := oL.below hb14
        replace oM := oM.sl
        have eM := slI_no oM
        subst eM
        clear hG hGs
        have hgq : (gs == gs) = true := by simp
        go_wp2_with fail
        refine (sameTerm_same _ _ _ _ _ _ gl _ (by omega) oL oM).mono ?_; rintro e w15 ⟨rfl, hb15⟩
        replace hv1 := hv1.belo hb15
        replace hB := hB.step hb15
        replace hs3 := hs3.below hb15
        replace hbxZ := hb15.at (World.block_lt_of_cell? _ ⟨_, 0, none⟩ hbxZ) hbxZ
        replace oL := oL.below hb15
        replace oM := oM.below hb15
        go_wp2_with fail
        go_ret
        exact ⟨rfl, hB⟩
end Go.Proofs.YtkbgglejhdodoaaDoor
end
section
/- The door: what the listed table gives, and a world for the witness. -/
namespace Go.Proofs.YtkbgglejhdodoaaDoor
open Go.ChangeShapes Go.WideShapes Go.ChangeAt Go.RowKit

theorem tab_of_laid {W : World} (h : laidMetH Tryd.prog [("loop.example/g00682/impl.weights", Rows.laid_loop_example_g00682_impl_weights)] W) : Tab W := by
  have g1 : Tryd.prog.globalNamed "loop.example/g00682/impl.weights" = some 0 := by kernel_rfl
  have g2 : (Tryd.prog.globals[0]?).map (·.type) = some 94 := by kernel_rfl
  have g3 : Tryd.prog.cellsOf 94 = 2 := by kernel_rfl
  have g4 : Tryd.prog.cellsOf 3 = 1 := by kernel_rfl
  have ht : Lib.TabIs Tryd.prog W "loop.example/g00682/impl.weights" .i64 [1, 1] := Lib.tabIs_of_head (rest := []) g1 g2 Tryd.underlying94 Tryd.underlying3 g4 g3 h
  exact ⟨ht.cell g1 0 (by decide), ht.cell g1 1 (by decide)⟩

/-- A world for the witness: the settled one, the table as its text lays it. -/
noncomputable def laidWorld (os : Os) : World :=
  { World.holding Tryd.prog os ⟨#[], #[], []⟩ with heap := (World.holding Tryd.prog os ⟨#[], #[], []⟩).heap.modify 0 fun
      | .cells _ t frozen => .cells #[.int .i64 1, .int .i64 1] t frozen
      | o => o }
theorem laid_met (os : Os) (args : Array Value) : laidMet Tryd.prog [("loop.example/g00682/impl.weights", Rows.laid_loop_example_g00682_impl_weights)] ((laidWorld os).forCall (fun _ _ => 0) ⟨#[], args, []⟩).memory :=
  laidMet_of_run' 8 (by kernel_rfl) (by kernel_rfl)
end Go.Proofs.YtkbgglejhdodoaaDoor
end
