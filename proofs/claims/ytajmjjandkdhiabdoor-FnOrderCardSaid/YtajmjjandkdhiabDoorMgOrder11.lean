/- Texts merged, part 11. -/
import Derived.Deep.RegionHeld3
import Derived.Test.YtajmjjandkdhiabDoorCards
import Derived.Test.YtajmjjandkdhiabDoorTie
import Derived.OpenVars
import Derived.OpenShut
import Derived.ProofKit
import Derived.Deep.DeepHandedRow
import Derived.Lib.LaidTab
import Derived.Test.YtajmjjandkdhiabDoorMgOrder10
section
/- Contracts with the answers named: chapter 3's law on terms. -/
namespace Go.Proofs.YtajmjjandkdhiabDoor
open Go.RowKit

theorem SlB.belo {w w' : World} {v : Value} {n : Nat} (h : SlB w.heap.size w v n) (hb : Bel w w') : SlB w'.heap.size w' v n := by
  obtain ⟨ad, cap, e, hc, hr⟩ := h.chg (Chg.of_bel (lo := w.heap.size) (hi := w.heap.size) hb) (Nat.le_refl _)
  exact ⟨ad, cap, e, hc, fun hp => by obtain ⟨b, off, e1, e2, e3⟩ := hr hp; exact ⟨b, off, e1, Nat.lt_of_lt_of_le e2 hb.size, e3⟩⟩
theorem slI_no {lo hi : Nat} {w : World} {ad : Option Addr} {n c : Nat} {xs : List Int} (h : SlI lo hi w (.slice ad n c) xs) : n = xs.length := by
  obtain ⟨ad', c', e⟩ := h.form
  simp only [Value.slice.injEq] at e
  exact e.2.1
theorem SlB.formo {hi : Nat} {w : World} {v : Value} {n : Nat} (h : SlB hi w v n) : ∃ a c, v = .slice a n c := by obtain ⟨a, c, e, _⟩ := h; exact ⟨a, c, e⟩
theorem iApply_o {l h l' h' l2 h2 : Nat} {v u x : Value} {ar : List Int} {b : List (List Int)} {t : List Int} {w : World} (ha : ar.length ≤ 1048576) (hv : SlI l h w v ar) (hb : short b) (hu : SlS l' h' w u b) (ht : t.length ≤ 1048576) (hx : SlI l2 h2 w x t) {xs : List Int} {k : Bool} (e1 : applyAns ar b t = xs) (e2 : applyOk ar b t = k) :
    Calls Tryd.prog 13 #[.agg #[v], u, x] w (RetIB w xs k) := by subst e1 e2; exact iApply_t ha hv hb hu ht hx
theorem iReplaceAt_o {l h l' h' l2 h2 : Nat} {v u x : Value} {ar t r : List Int} {w : World} (ha : ar.length ≤ 1048576) (hv : SlI l h w v ar) (ht : t.length ≤ 1048576) (hu : SlI l' h' w u t) {i : Int} (h1 : -9223372036854775808 ≤ i) (h2' : i ≤ 9223372036854775807) (hr : r.length ≤ 1048576) (hx : SlI l2 h2 w x r) {xs : List Int} {b : Bool} (e1 : replAns ar t i r = xs) (e2 : replOk ar t i r = b) :
    Calls Tryd.prog 17 #[.agg #[v], u, .int .i64 i, x] w (RetIB w xs b) := by subst e1 e2; exact iReplaceAt_t ha hv ht hu h1 h2' hr hx
theorem iPartAt_o {l h l' h' : Nat} {v u : Value} {ar t : List Int} {w : World} (ha : ar.length ≤ 1048576) (hv : SlI l h w v ar) (ht : t.length ≤ 1048576) (hu : SlI l' h' w u t) {i : Int} (h1 : -9223372036854775808 ≤ i) (h2 : i ≤ 9223372036854775807) {xs : List Int} {b : Bool} (e1 : partAns ar t i = xs) (e2 : askOk ar t i = b) :
    Calls Tryd.prog 18 #[.agg #[v], u, .int .i64 i] w (RetIB w xs b) := by subst e1 e2; exact iPartAt_t ha hv ht hu h1 h2
theorem iVarsOf_o {l h l' h' : Nat} {v u : Value} {ar t : List Int} {w : World} (ha : ar.length ≤ 1048576) (hv : SlI l h w v ar) (ht : t.length ≤ 1048576) (hu : SlI l' h' w u t) {xs : List Int} {b : Bool} (e1 : varsAns ar t = xs) (e2 : goodTerm ar t = b) :
    Calls Tryd.prog 10 #[.agg #[v], u] w (RetIB w xs b) := by subst e1 e2; exact iVarsOf_t ha hv ht hu
theorem iCompareTerms_o {l h l' h' l2 h2 : Nat} {v x y : Value} {ar a b : List Int} {w : World} (hT : Tab w) (ha : ar.length ≤ 1048576) (hv : SlI l h w v ar) (hal : a.length ≤ 1048576) (hx : SlI l' h' w x a) (hbl : b.length ≤ 1048576) (hy : SlI l2 h2 w y b) {n : Int} {k : Bool} (e1 : cmpAns ar a b = n) (e2 : cmpOk ar a b = k) :
    Calls Tryd.prog 6 #[.agg #[v], x, y] w (RetV w (.tuple #[.int .i64 n, .bool k])) := by subst e1 e2; exact iCompareTerms_t hT ha hv hal hx hbl hy
theorem iWeighsMore_o {l h l' h' l2 h2 : Nat} {v x y : Value} {ar a b : List Int} {w : World} (hT : Tab w) (ha : ar.length ≤ 1048576) (hv : SlI l h w v ar) (hal : a.length ≤ 1048576) (hx : SlI l' h' w x a) (hbl : b.length ≤ 1048576) (hy : SlI l2 h2 w y b) {n k : Bool} (e1 : weiAns ar a b = n) (e2 : cmpOk ar a b = k) :
    Calls Tryd.prog 8 #[.agg #[v], x, y] w (RetV w (.tuple #[.bool n, .bool k])) := by subst e1 e2; exact iWeighsMore_t hT ha hv hal hx hbl hy
theorem sCompareTerms_o {l h l' h' l2 h2 : Nat} {v x y : Value} {ar a b : List Int} {w : World} (ha : ar.length ≤ 1048576) (hv : SlI l h w v ar) (hal : a.length ≤ 1048576) (hx : SlI l' h' w x a) (hbl : b.length ≤ 1048576) (hy : SlI l2 h2 w y b) {n : Int} {k : Bool} (e1 : cmpAns ar a b = n) (e2 : cmpOk ar a b = k) :
    Calls Tryd.prog 7 #[.agg #[v], x, y] w (RetV w (.tuple #[.int .i64 n, .bool k])) := by subst e1 e2; exact sCompareTerms_t ha hv hal hx hbl hy
theorem sWeighsMore_o {l h l' h' l2 h2 : Nat} {v x y : Value} {ar a b : List Int} {w : World} (ha : ar.length ≤ 1048576) (hv : SlI l h w v ar) (hal : a.length ≤ 1048576) (hx : SlI l' h' w x a) (hbl : b.length ≤ 1048576) (hy : SlI l2 h2 w y b) {n k : Bool} (e1 : weiAns ar a b = n) (e2 : cmpOk ar a b = k) :
    Calls Tryd.prog 9 #[.agg #[v], x, y] w (RetV w (.tuple #[.bool n, .bool k])) := by subst e1 e2; exact sWeighsMore_t ha hv hal hx hbl hy
end Go.Proofs.YtajmjjandkdhiabDoor
end
section
/- FnOrder: the walk, part A. -/
namespace Go.Proofs.YtajmjjandkdhiabDoor
open Go.RowKit

theorem part_facts {ar a : List Int} (h : goodTerm ar a = true) (zz : Int) (hz : 0 ≤ zz) :
    cmpOk ar a (partAns ar a (zz.tmod (a.length : Int))) = true ∧ (cmpAns ar a (partAns ar a (zz.tmod (a.length : Int))) = 1 ∨ (partAns ar a (zz.tmod (a.length : Int)) = a ∧ cmpAns ar a (partAns ar a (zz.tmod (a.length : Int))) = 0)) ∧ (partAns ar a (zz.tmod (a.length : Int))).length ≤ 1048576 ∧ askOk ar a (zz.tmod (a.length : Int)) = true := by
  rw [Int.tmod_eq_emod_of_nonneg hz]
  have h1 := ((okTerm_iff _ _).1 (goodTerm_iff.1 h).2)
  have hlp : 0 < a.length := by omega
  have hask : askOk ar a (zz % (a.length : Int)) = true := askOk_iff.2 ⟨h, Int.emod_nonneg _ (by omega), by have := Int.emod_lt_of_pos zz (show (0 : Int) < a.length by omega); omega⟩
  obtain ⟨h2, h3⟩ := cmp_part hask
  refine ⟨h2, ?_, partAns_len _ _ _, hask⟩
  rcases h3 with h3 | h3
  · exact .inl h3
  · exact .inr ⟨h3, by rw [cmp_yes h2]; exact cmpT_zero.2 h3.symm⟩

set_option maxRecDepth 100000 in
set_option maxHeartbeats 16000000 in
def ordA (w : World) (hT : Tab w) (n0 n1 : Nat) (ca : Option Addr) (cc : Nat) (ma : Option Addr) (mc : Nat) (hv0 : SlB w.heap.size w (.slice ca n0 cc) n0) (hv1 : SlB w.heap.size w (.slice ma n1 mc) n1) (hbig : n0 ≤ 1048576 ∧ n0 + n1 ≤ 1048576) : { G : Prop × Prop // Hid G.1 → Hid G.2 → Calls Tryd.prog 3 #[.slice ca n0 cc, .slice ma n1 mc] w (RetV w (.bool true)) } := by
  refine ⟨(?G1, ?G2), fun hG1 hG2 => ?body⟩
  case body =>
    go_enter Tryd.func3, Tryd.ntmps3
    have hB := Bel.rfl' w
    go_wp2_with fail
    refine (big_no n0 n1 _ _ _ _ _ hbig.1 hbig.2).mono ?_; rintro e w1 ⟨rfl, hb1⟩
    replace hv0 := hv0.belo hb1
    replace hv1 := hv1.belo hb1
    replace hB := hB.step hb1
    replace hT := hT.bel hb1
    go_wp2_with fail
    refine (drawCompareTerms_c n0 _ _ hbig.1 hv0).mono ?_; rintro e w2 ⟨sv, av, bv, ar, a, b, rfl, hdr, hs, hx, hal, hy, hbl, hb2⟩
    replace hv0 := hv0.belo hb2
    replace hv1 := hv1.belo hb2
    replace hB := hB.step hb2
    replace hT := hT.bel hb2
    clear hv0
    have harl := drawn_len hdr
    obtain ⟨sXa, sXc, rfl⟩ := hs.form
    obtain ⟨aa, ac, rfl⟩ := hx.form
    obtain ⟨ba, bc, rfl⟩ := hy.form
    have hbAX := Bel.alloc0 w2 (.cells #[.slice sXa ar.length sXc] 26)
    have hbxX : (w2.alloc (.cells #[.slice sXa ar.length sXc] 26)).cell? ⟨w2.heap.size, 0, none⟩ = some (.slice sXa ar.length sXc) := by rw [World.cell?_alloc_new w2]; rfl
    replace hv1 := hv1.belo hbAX
    replace hB := hB.step hbAX
    replace hT := hT.bel hbAX
    replace hs := hs.below hbAX
    replace hx := hx.below hbAX
    replace hy := hy.below hbAX
    generalize hgX : w2.heap.size = gX at *
    have HF := Lib.hid (fun h => cmp_facts (ar := ar) (a := a) (b := b) h)
    have HGO := Lib.hid (fun h => cmpOk_iff (ar := ar) (a := a) (b := b) |>.1 h)
    have HPP := Lib.hid (fun (h : cmpOk ar a b = true) (zz : Int) (hz : 0 ≤ zz) => part_facts (cmpOk_iff.1 h).1 zz hz)
    have hsw : cmpOk ar b a = cmpOk ar a b := cmpOk_swap ar b a
    generalize hN : cmpAns ar a b = n at *
    generalize hM : cmpAns ar b a = m at *
    generalize hWm : weiAns ar a b = wm at *
    generalize hOk : cmpOk ar a b = ok at *
    go_wp2_with fail
    refine (iCompareTerms_o hT (by omega) hs (by omega) hx (by omega) hy hN hOk).mono ?_; rintro e w3 ⟨rfl, hb3⟩
    replace hv1 := hv1.belo hb3
    replace hB := hB.step hb3
    replace hT := hT.bel hb3
    replace hs := hs.below hb3
    replace hx := hx.below hb3
    replace hy := hy.below hb3
    replace hbxX := hb3.at (World.block_lt_of_cell? _ ⟨_, 0, none⟩ hbxX) hbxX
    go_wp2_with fail
    refine (sCompareTerms_o (by omega) hs (by omega) hx (by omega) hy hN hOk).mono ?_; rintro e w4 ⟨rfl, hb4⟩
    replace hv1 := hv1.belo hb4
    replace hB := hB.step hb4
    replace hT := hT.bel hb4
    replace hs := hs.below hb4
    replace hx := hx.below hb4
    replace hy := hy.below hb4
    replace hbxX := hb4.at (World.block_lt_of_cell? _ ⟨_, 0, none⟩ hbxX) hbxX
    go_wp2_with fail
    refine (iCompareTerms_o hT (by omega) hs (by omega) hy (by omega) hx hM hsw).mono ?_; rintro e w5 ⟨rfl, hb5⟩
    replace hv1 := hv1.belo hb5
    replace hB := hB.step hb5
    replace hT := hT.bel hb5
    replace hs := hs.below hb5
    replace hx := hx.below hb5
    replace hy := hy.below hb5
    replace hbxX := hb5.at (World.block_lt_of_cell? _ ⟨_, 0, none⟩ hbxX) hbxX
    go_wp2_with fail
    refine (iWeighsMore_o hT (by omega) hs (by omega) hx (by omega) hy hWm hOk).mono ?_; rintro e w6 ⟨rfl, hb6⟩
    replace hv1 := hv1.belo hb6
    replace hB := hB.step hb6
    replace hT := hT.bel hb6
    replace hs := hs.below hb6
    replace hx := hx.below hb6
    replace hy := hy.below hb6
    replace hbxX := hb6.at (World.block_lt_of_cell? _ ⟨_, 0, none⟩ hbxX) hbxX
    go_wp2_with fail
    refine (sWeighsMore_o (by omega) hs (by omega) hx (by omega) hy hWm hOk).mono ?_; rintro e w7 ⟨rfl, hb7⟩
    replace hv1 := hv1.belo hb7
    replace hB := hB.step hb7
    replace hT := hT.bel hb7
    replace hs := hs.below hb7
    replace hx := hx.below hb7
    replace hy := hy.below hb7
    replace hbxX := hb7.at (World.block_lt_of_cell? _ ⟨_, 0, none⟩ hbxX) hbxX
    have hq1 : (ok != ok) = false := by simp
    have hq2 : (n != n) = false := by simp
    have hq3 : (wm != wm) = false := by simp
    clear hsw hM hWm
    cases ok with
    | false =>
      go_wp2_with fail
      go_ret
      exact ⟨rfl, hB⟩
    | true =>
      replace HF := HF.out rfl
      obtain ⟨hga, hgb⟩ := HGO.out rfl
      replace HPP := Lib.hid (HPP.out rfl)
      have hal40 := ((okTerm_iff _ _).1 (goodTerm_iff.1 hga).2)
      have hbl40 := ((okTerm_iff _ _).1 (goodTerm_iff.1 hgb).2)
      have halp : 0 < a.length := by omega
      have hal1 : a.length ≤ 40 := by omega
      have hbl1 : b.length ≤ 40 := by omega
      clear hal40 hbl40
      have hanz : ((a.length : Int) == 0) = false := by rw [beq_eq_false_iff_ne]; omega
      have hann : ¬ (a.length : Int) = 0 := by omega
      have hane : ¬ a = [] := by intro h; rw [h] at halp; simp at halp
      have hanf : (a = []) = False := by simpa using hane
      have hang : decide (a = []) = false := by simpa using hane
      have hanh : a.isEmpty = false := by simpa using hane
      have HNT := Lib.hid (show n = cmpT a b by rw [← hN]; exact cmp_yes hOk)
      have HPT := Lib.hid (fun (w' : World) (q1 q2 q3 q4 : Nat) (zz : Int) (h0 : 0 ≤ zz) (h1 : zz < 1000003) (hs' : SlI q1 q2 w' (.slice sXa ar.length sXc) ar) (hx' : SlI q3 q4 w' (.slice aa a.length ac) a) => iPartAt_o (i := zz.tmod (a.length : Int)) (by omega) hs' (by omega) hx' (by rw [Int.tmod_eq_emod_of_nonneg h0]; have := Int.emod_nonneg zz hann; omega) (by rw [Int.tmod_eq_emod_of_nonneg h0]; have := Int.emod_lt_of_pos zz (show (0 : Int) < a.length by omega); omega) rfl ((HPP.out zz h0).2.2.2))
      generalize hVx : varsAns ar a = vx at *
      generalize hVy : varsAns ar b = vy at *
      have hvxl : vx.length ≤ 1048576 := by rw [← hVx]; exact varsAns_len ar a
      have hvyl : vy.length ≤ 1048576 := by rw [← hVy]; exact varsAns_len ar b
      clear hN hOk HGO hq1 hq2 hq3
      go_wp2_with fail
      refine (iVarsOf_o (by omega) hs (by omega) hx hVx hga).mono ?_; rintro e w8 ⟨aVX, mVX, cVX, rfl, oVX, hb8⟩
      replace hv1 := hv1.belo hb8
      replace hB := hB.step hb8
      replace hT := hT.bel hb8
      replace hs := hs.below hb8
      replace hx := hx.below hb8
      replace hy := hy.below hb8
      replace hbxX := hb8.at (World.block_lt_of_cell? _ ⟨_, 0, none⟩ hbxX) hbxX
      replace oVX := oVX.sl
      have eVX := slI_no oVX
      subst eVX
      go_wp2_with fail
      refine (iVarsOf_o (by omega) hs (by omega) hy hVy hgb).mono ?_; rintro e w9 ⟨aVY, mVY, cVY, rfl, oVY, hb9⟩
      replace hv1 := hv1.belo hb9
      replace hB := hB.step hb9
      replace hT := hT.bel hb9
      replace hs := hs.below hb9
      replace hx := hx.below hb9
      replace hy := hy.below hb9
      replace hbxX := hb9.at (World.block_lt_of_cell? _ ⟨_, 0, none⟩ hbxX) hbxX
      replace oVX := oVX.below hb9
      replace oVY := oVY.sl
      have eVY := slI_no oVY
      subst eVY
      clear oVX oVY hVx hVy hga hgb
      go_upto_region 15 with fail
      go_cut [175] (fun s wx => s = .bool false ∧ Bel w9 wx)
      case first =>
          rcases HF with ⟨rfl, rfl⟩ | ⟨rfl, rfl, rfl, rfl⟩ | ⟨rfl, rfl, rfl, hpos⟩ | ⟨rfl, rfl⟩
          ·
            cases wm with
            | false =>
              go_wp2_with fail
              go_meet
              exact ⟨rfl, Bel.rfl' _⟩
            | true =>
              go_wp2_with fail
              go_meet
              exact ⟨rfl, Bel.rfl' _⟩
          ·
            go_wp2_with fail
            refine (sameTerm_same _ _ _ _ _ _ _ _ (by omega) hx hy).mono ?_; rintro e w10 ⟨rfl, hb10⟩
            replace hv1 := hv1.belo hb10
            replace hB := hB.step hb10
            replace hT := hT.bel hb10
            replace hs := hs.below hb10
            replace hx := hx.below hb10
            replace hy := hy.below hb10
            replace hbxX := hb10.at (World.block_lt_of_cell? _ ⟨_, 0, none⟩ hbxX) hbxX
            go_wp2_with fail
            go_meet
            exact ⟨rfl, hb10⟩
          ·
            have hsum : ((vx.length : Int) + vy.length == 0) = false := by rw [beq_eq_false_iff_ne]; omega
            have hws := IntWalk.i64_in ((vx.length : Int) + vy.length) (by omega)
            go_wp2_with fail
            go_meet
            exact ⟨rfl, Bel.rfl' _⟩
          ·
            go_wp2_with fail
            go_meet
            exact ⟨rfl, Bel.rfl' _⟩
      case rest =>
      obtain ⟨w10, rfl⟩ : ∃ w10, w10 = wc := ⟨wc, rfl⟩
      obtain ⟨rfl, hb10⟩ := hcut
      replace hv1 := hv1.belo hb10
      replace hB := hB.step hb10
      replace hT := hT.bel hb10
      replace hs := hs.below hb10
      replace hx := hx.below hb10
      replace hy := hy.below hb10
      replace hbxX := hb10.at (World.block_lt_of_cell? _ ⟨_, 0, none⟩ hbxX) hbxX
      clear HF
      by_cases hn1 : n = 1
      · subst hn1
        rename_i KA1 hKA2 KA3 hKA4
        revert w1 hb1 w2 ar a b hdr hal hbl hb2 harl sXa sXc aa ac ba bc hbAX gX hgX m wm w3 hb3 w4 hb4 w5 hb5 w6 hb6 w7 hb7 HPP halp hal1 hbl1 hanz hann hane hanf hang hanh HPT vx vy hvxl hvyl w8 aVX cVX hb8 w9 aVY cVY hb9 KA1 hKA2 KA3 hKA4 u22 u31 u44 u45 u46 u47 u48 u49 u50 u51 u52 u53 u54 u55 u56 u57 u58 u59 u60 u61 u62 u63 u64 u65 u66 u67 u68 u69 u70 u71 u72 u73 u74 u75 u76 u77 u78 u79 u80 u81 u82 u83 u84 u85 u86 u87 u88 u89 u90 u91 u92 u93 u94 u95 u96 u97 u98 u99 u100 u101 u102 u103 u104 u105 u106 u107 u108 u109 u110 u111 u112 u113 u114 u115 u116 u117 u118 u119 u120 u121 u122 u123 u124 u125 u126 u127 u128 u129 u130 u131 u132 u133 u134 u135 u136 u137 u138 u139 u140 u141 u142 u143 u144 u145 u146 u147 u148 u149 u150 u151 u152 u153 u154 u155 u156 u157 u158 u159 u160 u161 u162 u163 u164 u165 u166 u167 u168 u169 u170 u171 u172 u173 u174 u176 u177 u178 u179 u180 u181 u182 u183 u184 u185 u186 u187 u188 u189 u190 u191 u192 u193 u194 u195 u196 u197 u198 u199 u200 u201 u202 u203 u204 u205 u206 u207 u208 u209 u210 u211 u212 u213 u214 u215 u216 u217 u218 u219 u220 u221 u222 u223 u224 u225 u226 u227 u228 u229 u230 u231 u232 u233 u234 u235 u236 u237 u238 u239 u240 u241 u242 u243 u244 u245 u246 u247 u248 u249 u250 u251 u252 u253 u254 u255 u256 u257 u258 u259 u260 u261 u262 u263 u264 u265 u266 u267 u268 u269 u270 u271 u272 u273 u274 u275 u276 u277 u278 u279 u280 u281 u282 u283 u284 u285 u286 u287 u288 u289 u290 u291 u292 u293 u294 u295 u296 u297 u298 u299 w10 hb10 hv1 hB hT hs hx hy hbxX HNT
        exact hG1.out
      ·
        rename_i KA1 hKA2 KA3 hKA4
        revert w1 hb1 w2 ar a b hdr hal hbl hb2 harl sXa sXc aa ac ba bc hbAX gX hgX n m wm w3 hb3 w4 hb4 w5 hb5 w6 hb6 w7 hb7 HPP halp hal1 hbl1 hanz hann hane hanf hang hanh HNT HPT vx vy hvxl hvyl w8 aVX cVX hb8 w9 aVY cVY hb9 KA1 hKA2 KA3 hKA4 u22 u31 u44 u45 u46 u47 u48 u49 u50 u51 u52 u53 u54 u55 u56 u57 u58 u59 u60 u61 u62 u63 u64 u65 u66 u67 u68 u69 u70 u71 u72 u73 u74 u75 u76 u77 u78 u79 u80 u81 u82 u83 u84 u85 u86 u87 u88 u89 u90 u91 u92 u93 u94 u95 u96 u97 u98 u99 u100 u101 u102 u103 u104 u105 u106 u107 u108 u109 u110 u111 u112 u113 u114 u115 u116 u117 u118 u119 u120 u121 u122 u123 u124 u125 u126 u127 u128 u129 u130 u131 u132 u133 u134 u135 u136 u137 u138 u139 u140 u141 u142 u143 u144 u145 u146 u147 u148 u149 u150 u151 u152 u153 u154 u155 u156 u157 u158 u159 u160 u161 u162 u163 u164 u165 u166 u167 u168 u169 u170 u171 u172 u173 u174 u176 u177 u178 u179 u180 u181 u182 u183 u184 u185 u186 u187 u188 u189 u190 u191 u192 u193 u194 u195 u196 u197 u198 u199 u200 u201 u202 u203 u204 u205 u206 u207 u208 u209 u210 u211 u212 u213 u214 u215 u216 u217 u218 u219 u220 u221 u222 u223 u224 u225 u226 u227 u228 u229 u230 u231 u232 u233 u234 u235 u236 u237 u238 u239 u240 u241 u242 u243 u244 u245 u246 u247 u248 u249 u250 u251 u252 u253 u254 u255 u256 u257 u258 u259 u260 u261 u262 u263 u264 u265 u266 u267 u268 u269 u270 u271 u272 u273 u274 u275 u276 u277 u278 u279 u280 u281 u282 u283 u284 u285 u286 u287 u288 u289 u290 u291 u292 u293 u294 u295 u296 u297 u298 u299 w10 hb10 hv1 hB hT hs hx hy hbxX hn1
        exact hG2.out
end Go.Proofs.YtajmjjandkdhiabDoor
end
section
/- FnOrder: the walk, part B. -/
namespace Go.Proofs.YtajmjjandkdhiabDoor
open Go.RowKit

set_option maxRecDepth 100000 in
set_option maxHeartbeats 16000000 in
def ordB (w : World) (hT : Tab w) (n0 n1 : Nat) (ca : Option Addr) (cc : Nat) (ma : Option Addr) (mc : Nat) (hv0 : SlB w.heap.size w (.slice ca n0 cc) n0) (hv1 : SlB w.heap.size w (.slice ma n1 mc) n1) (hbig : n0 ≤ 1048576 ∧ n0 + n1 ≤ 1048576) : { G : Prop // Hid G → (ordA w hT n0 n1 ca cc ma mc hv0 hv1 hbig).1.1 } := by
  refine ⟨?G, fun hG => ?body⟩
  case body =>
          unfold ordA
          intro w1 hb1 w2 ar a b hdr hal hbl hb2 harl sXa sXc aa ac ba bc hbAX gX hgX m wm w3 hb3 w4 hb4 w5 hb5 w6 hb6 w7 hb7 HPP halp hal1 hbl1 hanz hann hane hanf hang hanh HPT vx vy hvxl hvyl w8 aVX cVX hb8 w9 aVY cVY hb9 KA1 hKA2 KA3 hKA4 u22 u31 u44 u45 u46 u47 u48 u49 u50 u51 u52 u53 u54 u55 u56 u57 u58 u59 u60 u61 u62 u63 u64 u65 u66 u67 u68 u69 u70 u71 u72 u73 u74 u75 u76 u77 u78 u79 u80 u81 u82 u83 u84 u85 u86 u87 u88 u89 u90 u91 u92 u93 u94 u95 u96 u97 u98 u99 u100 u101 u102 u103 u104 u105 u106 u107 u108 u109 u110 u111 u112 u113 u114 u115 u116 u117 u118 u119 u120 u121 u122 u123 u124 u125 u126 u127 u128 u129 u130 u131 u132 u133 u134 u135 u136 u137 u138 u139 u140 u141 u142 u143 u144 u145 u146 u147 u148 u149 u150 u151 u152 u153 u154 u155 u156 u157 u158 u159 u160 u161 u162 u163 u164 u165 u166 u167 u168 u169 u170 u171 u172 u173 u174 u176 u177 u178 u179 u180 u181 u182 u183 u184 u185 u186 u187 u188 u189 u190 u191 u192 u193 u194 u195 u196 u197 u198 u199 u200 u201 u202 u203 u204 u205 u206 u207 u208 u209 u210 u211 u212 u213 u214 u215 u216 u217 u218 u219 u220 u221 u222 u223 u224 u225 u226 u227 u228 u229 u230 u231 u232 u233 u234 u235 u236 u237 u238 u239 u240 u241 u242 u243 u244 u245 u246 u247 u248 u249 u250 u251 u252 u253 u254 u255 u256 u257 u258 u259 u260 u261 u262 u263 u264 u265 u266 u267 u268 u269 u270 u271 u272 u273 u274 u275 u276 u277 u278 u279 u280 u281 u282 u283 u284 u285 u286 u287 u288 u289 u290 u291 u292 u293 u294 u295 u296 u297 u298 u299 w10 hb10 hv1 hB hT hs hx hy hbxX HNT
          have HN1 := Lib.hid HNT.out.symm
          clear HNT
          go_wp2_with fail
          refine (drawApply_c n1 _ _ (by omega) hv1).mono ?_; rintro e w11 ⟨sv2, lv, tv2, ar2, l, t2, rfl, hdr2, hs2, hl, hll, hlj, ht2, ht2l, hb11⟩
          replace hv1 := hv1.belo hb11
          replace hB := hB.step hb11
          replace hT := hT.bel hb11
          replace hs := hs.below hb11
          replace hx := hx.below hb11
          replace hy := hy.below hb11
          replace hbxX := hb11.at (World.block_lt_of_cell? _ ⟨_, 0, none⟩ hbxX) hbxX
          have hsl := short_12 hll hlj
          obtain ⟨sYa, sYc, rfl⟩ := hs2.form
          obtain ⟨la, lc, rfl⟩ := hl.form
          obtain ⟨t2a, t2c, rfl⟩ := ht2.form
          clear hs2 ht2
          have hbAY := Bel.alloc0 w11 (.cells #[.slice sYa ar2.length sYc] 26)
          replace hv1 := hv1.belo hbAY
          replace hB := hB.step hbAY
          replace hT := hT.bel hbAY
          replace hs := hs.below hbAY
          replace hx := hx.below hbAY
          replace hy := hy.below hbAY
          replace hbxX := hbAY.at (World.block_lt_of_cell? _ ⟨_, 0, none⟩ hbxX) hbxX
          replace hl := hl.below hbAY
          generalize hP : applyAns ar l a = p
          generalize hPk : applyOk ar l a = pk
          generalize hQ : applyAns ar l b = q
          generalize hQk : applyOk ar l b = qk
          have hpl : p.length ≤ 40 := by rw [← hP]; exact applyAns_len40 ar l a
          have hql : q.length ≤ 40 := by rw [← hQ]; exact applyAns_len40 ar l b
          have HAP := Lib.hid (fun (h1 : pk = true) (h2 : qk = true) => show cmpOk ar p q = true ∧ cmpAns ar p q = 1 by
            have := cmp_app HN1.out (hPk.trans h1) (hQk.trans h2)
            rw [hP, hQ] at this
            exact this)
          go_wp2_with fail
          refine (iApply_o (by omega) hs hsl hl (by omega) hx hP hPk).mono ?_; rintro e w12 ⟨aP, mP, cP, rfl, oP, hb12⟩
          replace hv1 := hv1.belo hb12
          replace hB := hB.step hb12
          replace hT := hT.bel hb12
          replace hs := hs.below hb12
          replace hx := hx.below hb12
          replace hy := hy.below hb12
          replace hbxX := hb12.at (World.block_lt_of_cell? _ ⟨_, 0, none⟩ hbxX) hbxX
          replace hl := hl.below hb12
          replace oP := oP.sl
          have eP := slI_no oP
          subst eP
          go_wp2_with fail
          refine (iApply_o (by omega) hs hsl hl (by omega) hy hQ hQk).mono ?_; rintro e w13 ⟨aQ, mQ, cQ, rfl, oQ, hb13⟩
          replace hv1 := hv1.belo hb13
          replace hB := hB.step hb13
          replace hT := hT.bel hb13
          replace hs := hs.below hb13
          replace hx := hx.below hb13
          replace hy := hy.below hb13
          replace hbxX := hb13.at (World.block_lt_of_cell? _ ⟨_, 0, none⟩ hbxX) hbxX
          replace hl := hl.below hb13
          replace oP := oP.below hb13
          replace oQ := oQ.sl
          have eQ := slI_no oQ
          subst eQ
          clear hP hPk hQ hQk hl
          go_upto_region 20 with fail
          go_cut [203] (fun s wx => s = .bool (pk && qk) ∧ Bel w13 wx)
          case first =>
              cases pk with
              | false =>
                cases qk with
                | false =>
                  go_wp2_with fail
                  go_meet
                  exact ⟨rfl, Bel.rfl' _⟩
                | true =>
                  go_wp2_with fail
                  go_meet
                  exact ⟨rfl, Bel.rfl' _⟩
              | true =>
                cases qk with
                | false =>
                  go_wp2_with fail
                  go_meet
                  exact ⟨rfl, Bel.rfl' _⟩
                | true =>
                  go_wp2_with fail
                  go_meet
                  exact ⟨rfl, Bel.rfl' _⟩
          case rest =>
          obtain ⟨w14, rfl⟩ : ∃ w14, w14 = wc := ⟨wc, rfl⟩
          obtain ⟨rfl, hb14⟩ := hcut
          replace hv1 := hv1.belo hb14
          replace hB := hB.step hb14
          replace hT := hT.bel hb14
          replace hs := hs.below hb14
          replace hx := hx.below hb14
          replace hy := hy.below hb14
          replace hbxX := hb14.at (World.block_lt_of_cell? _ ⟨_, 0, none⟩ hbxX) hbxX
          replace oP := oP.below hb14
          replace oQ := oQ.below hb14
          rename_i dead1 dead2 dead3 dead4 dead5 dead6 dead7 dead8 dead9 dead10 dead11 dead12 dead13 dead14 dead15 dead16 dead17 dead18 dead19 dead20 dead21 dead22 dead23 dead24 dead25 dead26 dead27 dead28 dead29 dead30 dead31 dead32 dead33 dead34 dead35 dead36 dead37 dead38 dead39 dead40 dead41 dead42 dead43 dead44 dead45 dead46 dead47 dead48 dead49 dead50 dead51 dead52 dead53 dead54 dead55 dead56 dead57 dead58 dead59 dead60 dead61 dead62 dead63 dead64 dead65 dead66 dead67 dead68 dead69 dead70 dead71 dead72 dead73 dead74 dead75 dead76 dead77 dead78 dead79 dead80 dead81 dead82 dead83 dead84 dead85 dead86 dead87 dead88 dead89 dead90 dead91 dead92 dead93 dead94 dead95 dead96 dead97 dead98 dead99 dead100 dead101 dead102 dead103 dead104 dead105 dead106 dead107 dead108 dead109 dead110 dead111 dead112 dead113 dead114 dead115 dead116 dead117 dead118 dead119 dead120 dead121 dead122 dead123 dead124 dead125 dead126 dead127 dead128 dead129 dead130 dead131 dead132 dead133 dead134 dead135 dead136 dead137 dead138 dead139 dead140 dead141 dead142 dead143 dead144 dead145 dead146 dead147 dead148 dead149 dead150 dead151 dead152 dead153 dead154 dead155 dead156 dead157 dead158 dead159 dead160 dead161 dead162 dead163 dead164 dead165 dead166 dead167 dead168 dead169 dead170 dead171 dead172 dead173 dead174 dead175 dead176 dead177 dead178 dead179 dead180 dead181 dead182 dead183 dead184 dead185 dead186 dead187 dead188 dead189 dead190 dead191 dead192 dead193 dead194 dead195 dead196 dead197 dead198 dead199 dead200 dead201 dead202 dead203 dead204 dead205 dead206 dead207 dead208 dead209 dead210 dead211 dead212 dead213 dead214 dead215 dead216 dead217 dead218 dead219 dead220 dead221 dead222 dead223 dead224 dead225 dead226 dead227 dead228 dead229 dead230 dead231 dead232 dead233 dead234 dead235 dead236 dead237 dead238 dead239 dead240 dead241 dead242 dead243 dead244 dead245 dead246 dead247 dead248 dead249 dead250 dead251 dead252 dead253 dead254 dead255 dead256 KB257 hKB258 KB259 hKB260
          clear dead1 dead2 dead3 dead4 dead5 dead6 dead7 dead8 dead9 dead10 dead11 dead12 dead13 dead14 dead15 dead16 dead17 dead18 dead19 dead20 dead21 dead22 dead23 dead24 dead25 dead26 dead27 dead28 dead29 dead30 dead31 dead32 dead33 dead34 dead35 dead36 dead37 dead38 dead39 dead40 dead41 dead42 dead43 dead44 dead45 dead46 dead47 dead48 dead49 dead50 dead51 dead52 dead53 dead54 dead55 dead56 dead57 dead58 dead59 dead60 dead61 dead62 dead63 dead64 dead65 dead66 dead67 dead68 dead69 dead70 dead71 dead72 dead73 dead74 dead75 dead76 dead77 dead78 dead79 dead80 dead81 dead82 dead83 dead84 dead85 dead86 dead87 dead88 dead89 dead90 dead91 dead92 dead93 dead94 dead95 dead96 dead97 dead98 dead99 dead100 dead101 dead102 dead103 dead104 dead105 dead106 dead107 dead108 dead109 dead110 dead111 dead112 dead113 dead114 dead115 dead116 dead117 dead118 dead119 dead120 dead121 dead122 dead123 dead124 dead125 dead126 dead127 dead128 dead129 dead130 dead131 dead132 dead133 dead134 dead135 dead136 dead137 dead138 dead139 dead140 dead141 dead142 dead143 dead144 dead145 dead146 dead147 dead148 dead149 dead150 dead151 dead152 dead153 dead154 dead155 dead156 dead157 dead158 dead159 dead160 dead161 dead162 dead163 dead164 dead165 dead166 dead167 dead168 dead169 dead170 dead171 dead172 dead173 dead174 dead175 dead176 dead177 dead178 dead179 dead180 dead181 dead182 dead183 dead184 dead185 dead186 dead187 dead188 dead189 dead190 dead191 dead192 dead193 dead194 dead195 dead196 dead197 dead198 dead199 dead200 dead201 dead202 dead203 dead204 dead205 dead206 dead207 dead208 dead209 dead210 dead211 dead212 dead213 dead214 dead215 dead216 dead217 dead218 dead219 dead220 dead221 dead222 dead223 dead224 dead225 dead226 dead227 dead228 dead229 dead230 dead231 dead232 dead233 dead234 dead235 dead236 dead237 dead238 dead239 dead240 dead241 dead242 dead243 dead244 dead245 dead246 dead247 dead248 dead249 dead250 dead251 dead252 dead253 dead254 dead255 dead256
          revert w1 hb1 w2 ar a b hdr hal hbl hb2 harl sXa sXc aa ac ba bc hbAX gX hgX m wm w3 hb3 w4 hb4 w5 hb5 w6 hb6 w7 hb7 HPP halp hal1 hbl1 hanz hann hane hanf hang hanh HPT vx vy hvxl hvyl w8 aVX cVX hb8 w9 aVY cVY hb9 u203 w10 hb10 HN1 w11 ar2 l t2 hdr2 hll hlj ht2l hb11 hsl sYa sYc la lc t2a t2c hbAY p pk q qk hpl hql HAP w12 aP cP hb12 w13 aQ cQ hb13 KB257 hKB258 KB259 hKB260 u22 u31 u44 u45 u46 u47 u48 u49 u50 u51 u52 u53 u54 u55 u56 u57 u58 u59 u60 u61 u62 u63 u64 u65 u66 u67 u68 u69 u70 u71 u72 u73 u74 u75 u76 u77 u78 u79 u80 u81 u82 u83 u84 u85 u86 u87 u88 u89 u90 u91 u92 u93 u94 u95 u96 u97 u98 u99 u100 u101 u102 u103 u104 u105 u106 u107 u108 u109 u110 u111 u112 u113 u114 u115 u116 u117 u118 u119 u120 u121 u122 u123 u124 u125 u126 u127 u128 u129 u130 u131 u132 u133 u134 u135 u136 u137 u138 u139 u140 u141 u142 u143 u144 u145 u146 u147 u148 u149 u150 u151 u152 u153 u154 u155 u156 u157 u158 u159 u160 u161 u162 u163 u164 u165 u166 u167 u168 u169 u170 u171 u172 u173 u174 u175 u176 u177 u178 u179 u180 u181 u182 u183 u184 u185 u186 u187 u188 u189 u190 u191 u192 u193 u194 u195 u196 u197 u198 u199 u200 u201 u202 u204 u205 u206 u207 u208 u209 u210 u211 u212 u213 u214 u215 u216 u217 u218 u219 u220 u221 u222 u223 u224 u225 u226 u227 u228 u229 u230 u231 u232 u233 u234 u235 u236 u237 u238 u239 u240 u241 u242 u243 u244 u245 u246 u247 u248 u249 u250 u251 u252 u253 u254 u255 u256 u257 u258 u259 u260 u261 u262 u263 u264 u265 u266 u267 u268 u269 u270 u271 u272 u273 u274 u275 u276 u277 u278 u279 u280 u281 u282 u283 u284 u285 u286 u287 u288 u289 u290 u291 u292 u293 u294 u295 u296 u297 u298 u299 w14 hb14 hv1 hB hT hs hx hy hbxX oP oQ
          exact hG.out
end Go.Proofs.YtajmjjandkdhiabDoor
end
section
/- FnOrder: the walk, part Bb. -/
namespace Go.Proofs.YtajmjjandkdhiabDoor
open Go.RowKit

set_option maxRecDepth 100000 in
set_option maxHeartbeats 16000000 in
def ordBb (w : World) (hT : Tab w) (n0 n1 : Nat) (ca : Option Addr) (cc : Nat) (ma : Option Addr) (mc : Nat) (hv0 : SlB w.heap.size w (.slice ca n0 cc) n0) (hv1 : SlB w.heap.size w (.slice ma n1 mc) n1) (hbig : n0 ≤ 1048576 ∧ n0 + n1 ≤ 1048576) : { G : Prop // Hid G → (ordB w hT n0 n1 ca cc ma mc hv0 hv1 hbig).1 } := by
  refine ⟨?G, fun hG => ?body⟩
  case body =>
          unfold ordB
          intro w1 hb1 w2 ar a b hdr hal hbl hb2 harl sXa sXc aa ac ba bc hbAX gX hgX m wm w3 hb3 w4 hb4 w5 hb5 w6 hb6 w7 hb7 HPP halp hal1 hbl1 hanz hann hane hanf hang hanh HPT vx vy hvxl hvyl w8 aVX cVX hb8 w9 aVY cVY hb9 u203 w10 hb10 HN1 w11 ar2 l t2 hdr2 hll hlj ht2l hb11 hsl sYa sYc la lc t2a t2c hbAY p pk q qk hpl hql HAP w12 aP cP hb12 w13 aQ cQ hb13 KB257 hKB258 KB259 hKB260 u22 u31 u44 u45 u46 u47 u48 u49 u50 u51 u52 u53 u54 u55 u56 u57 u58 u59 u60 u61 u62 u63 u64 u65 u66 u67 u68 u69 u70 u71 u72 u73 u74 u75 u76 u77 u78 u79 u80 u81 u82 u83 u84 u85 u86 u87 u88 u89 u90 u91 u92 u93 u94 u95 u96 u97 u98 u99 u100 u101 u102 u103 u104 u105 u106 u107 u108 u109 u110 u111 u112 u113 u114 u115 u116 u117 u118 u119 u120 u121 u122 u123 u124 u125 u126 u127 u128 u129 u130 u131 u132 u133 u134 u135 u136 u137 u138 u139 u140 u141 u142 u143 u144 u145 u146 u147 u148 u149 u150 u151 u152 u153 u154 u155 u156 u157 u158 u159 u160 u161 u162 u163 u164 u165 u166 u167 u168 u169 u170 u171 u172 u173 u174 u175 u176 u177 u178 u179 u180 u181 u182 u183 u184 u185 u186 u187 u188 u189 u190 u191 u192 u193 u194 u195 u196 u197 u198 u199 u200 u201 u202 u204 u205 u206 u207 u208 u209 u210 u211 u212 u213 u214 u215 u216 u217 u218 u219 u220 u221 u222 u223 u224 u225 u226 u227 u228 u229 u230 u231 u232 u233 u234 u235 u236 u237 u238 u239 u240 u241 u242 u243 u244 u245 u246 u247 u248 u249 u250 u251 u252 u253 u254 u255 u256 u257 u258 u259 u260 u261 u262 u263 u264 u265 u266 u267 u268 u269 u270 u271 u272 u273 u274 u275 u276 u277 u278 u279 u280 u281 u282 u283 u284 u285 u286 u287 u288 u289 u290 u291 u292 u293 u294 u295 u296 u297 u298 u299 w14 hb14 hv1 hB hT hs hx hy hbxX oP oQ
          go_upto_if 203 with fail
          go_cut [] (fun wx => Bel w14 wx)
          case first =>
              cases pk with
              | false =>
                cases qk with
                | false =>
                  go_wp2_with fail
                  go_meet
                  exact Bel.rfl' _
                | true =>
                  go_wp2_with fail
                  go_meet
                  exact Bel.rfl' _
              | true =>
                cases qk with
                | false =>
                  go_wp2_with fail
                  go_meet
                  exact Bel.rfl' _
                | true =>
                  go_wp2_with fail
                  refine (iCompareTerms_o hT (by omega) hs (by omega) oP (by omega) oQ (HAP.out (by simp) (by simp)).2 (HAP.out (by simp) (by simp)).1).mono ?_; rintro e w15 ⟨rfl, hb15⟩
                  replace hv1 := hv1.belo hb15
                  replace hB := hB.step hb15
                  replace hT := hT.bel hb15
                  replace hs := hs.below hb15
                  replace hx := hx.below hb15
                  replace hy := hy.below hb15
                  replace hbxX := hb15.at (World.block_lt_of_cell? _ ⟨_, 0, none⟩ hbxX) hbxX
                  replace oP := oP.below hb15
                  replace oQ := oQ.below hb15
                  go_wp2_with fail
                  go_meet
                  exact hb15
          case rest =>
          obtain ⟨w15, rfl⟩ : ∃ w15, w15 = wc := ⟨wc, rfl⟩
          have hb15 := hcut
          replace hv1 := hv1.belo hb15
          replace hB := hB.step hb15
          replace hT := hT.bel hb15
          replace hs := hs.below hb15
          replace hx := hx.below hb15
          replace hy := hy.below hb15
          replace hbxX := hb15.at (World.block_lt_of_cell? _ ⟨_, 0, none⟩ hbxX) hbxX
          replace oP := oP.below hb15
          replace oQ := oQ.below hb15
          clear hcut
          clear HAP
          clear oP oQ
          rename_i dead1 dead2 dead3 dead4 dead5 dead6 dead7 dead8 dead9 dead10 dead11 dead12 dead13 dead14 dead15 dead16 dead17 dead18 dead19 dead20 dead21 dead22 dead23 dead24 dead25 dead26 dead27 dead28 dead29 dead30 dead31 dead32 dead33 dead34 dead35 dead36 dead37 dead38 dead39 dead40 dead41 dead42 dead43 dead44 dead45 dead46 dead47 dead48 dead49 dead50 dead51 dead52 dead53 dead54 dead55 dead56 dead57 dead58 dead59 dead60 dead61 dead62 dead63 dead64 dead65 dead66 dead67 dead68 dead69 dead70 dead71 dead72 dead73 dead74 dead75 dead76 dead77 dead78 dead79 dead80 dead81 dead82 dead83 dead84 dead85 dead86 dead87 dead88 dead89 dead90 dead91 dead92 dead93 dead94 dead95 dead96 dead97 dead98 dead99 dead100 dead101 dead102 dead103 dead104 dead105 dead106 dead107 dead108 dead109 dead110 dead111 dead112 dead113 dead114 dead115 dead116 dead117 dead118 dead119 dead120 dead121 dead122 dead123 dead124 dead125 dead126 dead127 dead128 dead129 dead130 dead131 dead132 dead133 dead134 dead135 dead136 dead137 dead138 dead139 dead140 dead141 dead142 dead143 dead144 dead145 dead146 dead147 dead148 dead149 dead150 dead151 dead152 dead153 dead154 dead155 dead156 dead157 dead158 dead159 dead160 dead161 dead162 dead163 dead164 dead165 dead166 dead167 dead168 dead169 dead170 dead171 dead172 dead173 dead174 dead175 dead176 dead177 dead178 dead179 dead180 dead181 dead182 dead183 dead184 dead185 dead186 dead187 dead188 dead189 dead190 dead191 dead192 dead193 dead194 dead195 dead196 dead197 dead198 dead199 dead200 dead201 dead202 dead203 dead204 dead205 dead206 dead207 dead208 dead209 dead210 dead211 dead212 dead213 dead214 dead215 dead216 dead217 dead218 dead219 dead220 dead221 dead222 dead223 dead224 dead225 dead226 dead227 dead228 dead229 dead230 dead231 dead232 dead233 dead234 dead235 dead236 dead237 dead238 dead239 dead240 dead241 dead242 dead243 dead244 dead245 dead246 dead247 dead248 dead249 dead250 dead251 dead252 dead253 dead254 dead255 dead256 dead257 dead258
          clear dead1 dead2 dead3 dead4 dead5 dead6 dead7 dead8 dead9 dead10 dead11 dead12 dead13 dead14 dead15 dead16 dead17 dead18 dead19 dead20 dead21 dead22 dead23 dead24 dead25 dead26 dead27 dead28 dead29 dead30 dead31 dead32 dead33 dead34 dead35 dead36 dead37 dead38 dead39 dead40 dead41 dead42 dead43 dead44 dead45 dead46 dead47 dead48 dead49 dead50 dead51 dead52 dead53 dead54 dead55 dead56 dead57 dead58 dead59 dead60 dead61 dead62 dead63 dead64 dead65 dead66 dead67 dead68 dead69 dead70 dead71 dead72 dead73 dead74 dead75 dead76 dead77 dead78 dead79 dead80 dead81 dead82 dead83 dead84 dead85 dead86 dead87 dead88 dead89 dead90 dead91 dead92 dead93 dead94 dead95 dead96 dead97 dead98 dead99 dead100 dead101 dead102 dead103 dead104 dead105 dead106 dead107 dead108 dead109 dead110 dead111 dead112 dead113 dead114 dead115 dead116 dead117 dead118 dead119 dead120 dead121 dead122 dead123 dead124 dead125 dead126 dead127 dead128 dead129 dead130 dead131 dead132 dead133 dead134 dead135 dead136 dead137 dead138 dead139 dead140 dead141 dead142 dead143 dead144 dead145 dead146 dead147 dead148 dead149 dead150 dead151 dead152 dead153 dead154 dead155 dead156 dead157 dead158 dead159 dead160 dead161 dead162 dead163 dead164 dead165 dead166 dead167 dead168 dead169 dead170 dead171 dead172 dead173 dead174 dead175 dead176 dead177 dead178 dead179 dead180 dead181 dead182 dead183 dead184 dead185 dead186 dead187 dead188 dead189 dead190 dead191 dead192 dead193 dead194 dead195 dead196 dead197 dead198 dead199 dead200 dead201 dead202 dead203 dead204 dead205 dead206 dead207 dead208 dead209 dead210 dead211 dead212 dead213 dead214 dead215 dead216 dead217 dead218 dead219 dead220 dead221 dead222 dead223 dead224 dead225 dead226 dead227 dead228 dead229 dead230 dead231 dead232 dead233 dead234 dead235 dead236 dead237 dead238 dead239 dead240 dead241 dead242 dead243 dead244 dead245 dead246 dead247 dead248 dead249 dead250 dead251 dead252 dead253 dead254 dead255 dead256 dead257 dead258
          revert w1 hb1 w2 ar a b hdr hal hbl hb2 harl sXa sXc aa ac ba bc hbAX gX hgX m wm w3 hb3 w4 hb4 w5 hb5 w6 hb6 w7 hb7 HPP halp hal1 hbl1 hanz hann hane hanf hang hanh HPT vx vy hvxl hvyl w8 aVX cVX hb8 w9 aVY cVY hb9 w10 hb10 HN1 w11 ar2 l t2 hdr2 hll hlj ht2l hb11 hsl sYa sYc la lc t2a t2c hbAY p pk q qk hpl hql w12 aP cP hb12 w13 aQ cQ hb13 KB257 hKB258 w14 hb14 u4 u22 u29 u30 u31 u44 u45 u46 u47 u48 u49 u50 u51 u52 u53 u54 u55 u56 u57 u58 u59 u60 u61 u62 u63 u64 u65 u66 u67 u68 u69 u70 u71 u72 u73 u74 u75 u76 u77 u78 u79 u80 u81 u82 u83 u84 u85 u86 u87 u88 u89 u90 u91 u92 u93 u94 u95 u96 u97 u98 u99 u100 u101 u102 u103 u104 u105 u106 u107 u108 u109 u110 u111 u112 u113 u114 u115 u116 u117 u118 u119 u120 u121 u122 u123 u124 u125 u126 u127 u128 u129 u130 u131 u132 u133 u134 u135 u136 u137 u138 u139 u140 u141 u142 u143 u144 u145 u146 u147 u148 u149 u150 u151 u152 u153 u154 u155 u156 u157 u158 u159 u160 u161 u162 u163 u164 u165 u166 u167 u168 u169 u170 u171 u172 u173 u174 u175 u176 u177 u178 u179 u180 u181 u182 u183 u184 u185 u186 u187 u188 u189 u190 u191 u192 u193 u194 u195 u196 u197 u198 u199 u200 u201 u202 u203 u204 u205 u206 u207 u208 u209 u210 u211 u212 u213 u214 u215 u216 u217 u218 u219 u220 u221 u222 u223 u224 u225 u226 u227 u228 u229 u230 u231 u232 u233 u234 u235 u236 u237 u238 u239 u240 u241 u242 u243 u244 u245 u246 u247 u248 u249 u250 u251 u252 u253 u254 u255 u256 u257 u258 u259 u260 u261 u262 u263 u264 u265 u266 u267 u268 u269 u270 u271 u272 u273 u274 u275 u276 u277 u278 u279 u280 u281 u282 u283 u284 u285 u286 u287 u288 u289 u290 u291 u292 u293 u294 u295 u296 u297 u298 u299 w15 hb15 hv1 hB hT hs hx hy hbxX
          exact hG.out
end Go.Proofs.YtajmjjandkdhiabDoor
end
section
/- FnOrder: the walk, part B2. -/
namespace Go.Proofs.YtajmjjandkdhiabDoor
open Go.RowKit

set_option maxRecDepth 100000 in
set_option maxHeartbeats 16000000 in
def ordB2 (w : World) (hT : Tab w) (n0 n1 : Nat) (ca : Option Addr) (cc : Nat) (ma : Option Addr) (mc : Nat) (hv0 : SlB w.heap.size w (.slice ca n0 cc) n0) (hv1 : SlB w.heap.size w (.slice ma n1 mc) n1) (hbig : n0 ≤ 1048576 ∧ n0 + n1 ≤ 1048576) : { G : Prop // Hid G → (ordBb w hT n0 n1 ca cc ma mc hv0 hv1 hbig).1 } := by
  refine ⟨?G, fun hG => ?body⟩
  case body =>
          unfold ordBb
          intro w1 hb1 w2 ar a b hdr hal hbl hb2 harl sXa sXc aa ac ba bc hbAX gX hgX m wm w3 hb3 w4 hb4 w5 hb5 w6 hb6 w7 hb7 HPP halp hal1 hbl1 hanz hann hane hanf hang hanh HPT vx vy hvxl hvyl w8 aVX cVX hb8 w9 aVY cVY hb9 w10 hb10 HN1 w11 ar2 l t2 hdr2 hll hlj ht2l hb11 hsl sYa sYc la lc t2a t2c hbAY p pk q qk hpl hql w12 aP cP hb12 w13 aQ cQ hb13 KB257 hKB258 w14 hb14 u4 u22 u29 u30 u31 u44 u45 u46 u47 u48 u49 u50 u51 u52 u53 u54 u55 u56 u57 u58 u59 u60 u61 u62 u63 u64 u65 u66 u67 u68 u69 u70 u71 u72 u73 u74 u75 u76 u77 u78 u79 u80 u81 u82 u83 u84 u85 u86 u87 u88 u89 u90 u91 u92 u93 u94 u95 u96 u97 u98 u99 u100 u101 u102 u103 u104 u105 u106 u107 u108 u109 u110 u111 u112 u113 u114 u115 u116 u117 u118 u119 u120 u121 u122 u123 u124 u125 u126 u127 u128 u129 u130 u131 u132 u133 u134 u135 u136 u137 u138 u139 u140 u141 u142 u143 u144 u145 u146 u147 u148 u149 u150 u151 u152 u153 u154 u155 u156 u157 u158 u159 u160 u161 u162 u163 u164 u165 u166 u167 u168 u169 u170 u171 u172 u173 u174 u175 u176 u177 u178 u179 u180 u181 u182 u183 u184 u185 u186 u187 u188 u189 u190 u191 u192 u193 u194 u195 u196 u197 u198 u199 u200 u201 u202 u203 u204 u205 u206 u207 u208 u209 u210 u211 u212 u213 u214 u215 u216 u217 u218 u219 u220 u221 u222 u223 u224 u225 u226 u227 u228 u229 u230 u231 u232 u233 u234 u235 u236 u237 u238 u239 u240 u241 u242 u243 u244 u245 u246 u247 u248 u249 u250 u251 u252 u253 u254 u255 u256 u257 u258 u259 u260 u261 u262 u263 u264 u265 u266 u267 u268 u269 u270 u271 u272 u273 u274 u275 u276 u277 u278 u279 u280 u281 u282 u283 u284 u285 u286 u287 u288 u289 u290 u291 u292 u293 u294 u295 u296 u297 u298 u299 w15 hb15 hv1 hB hT hs hx hy hbxX
          go_wp2_with fail
          refine (drawGoodTerm_e n1 _ _ (by omega) hv1).mono ?_; rintro e w16 ⟨sv3, tv3, ar3, t3, rfl, hdr3, hs3, ht3, ht3l, hb16⟩
          replace hv1 := hv1.belo hb16
          replace hB := hB.step hb16
          replace hT := hT.bel hb16
          replace hs := hs.below hb16
          replace hx := hx.below hb16
          replace hy := hy.below hb16
          replace hbxX := hb16.at (World.block_lt_of_cell? _ ⟨_, 0, none⟩ hbxX) hbxX
          obtain ⟨sZa, sZc, rfl⟩ := hs3.form
          obtain ⟨t3a, t3c, rfl⟩ := ht3.form
          clear hs3
          have hbAZ := Bel.alloc0 w16 (.cells #[.slice sZa ar3.length sZc] 26)
          replace hv1 := hv1.belo hbAZ
          replace hB := hB.step hbAZ
          replace hT := hT.bel hbAZ
          replace hs := hs.below hbAZ
          replace hx := hx.below hbAZ
          replace hy := hy.below hbAZ
          replace hbxX := hbAZ.at (World.block_lt_of_cell? _ ⟨_, 0, none⟩ hbxX) hbxX
          replace ht3 := ht3.below hbAZ
          generalize hgt : goodTerm ar t3 = gt
          have HG := Lib.hid hgt
          clear hgt
          go_upto_region 25 with fail
          go_cut [228] (fun s wx => s = .bool gt ∧ Bel (w16.alloc (.cells #[.slice sZa ar3.length sZc] 26)) wx)
          case first =>
              cases gt with
              | false =>
                go_wp2_with fail
                refine (sGoodTerm_v _ _ _ _ _ _ ar t3 false _ HG.out (by omega) (by omega) hs ht3).mono ?_; rintro e w17 ⟨rfl, hb17⟩
                replace hv1 := hv1.belo hb17
                replace hB := hB.step hb17
                replace hT := hT.bel hb17
                replace hs := hs.below hb17
                replace hx := hx.below hb17
                replace hy := hy.below hb17
                replace hbxX := hb17.at (World.block_lt_of_cell? _ ⟨_, 0, none⟩ hbxX) hbxX
                replace ht3 := ht3.below hb17
                go_wp2_with fail
                go_meet
                exact ⟨rfl, hb17⟩
              | true =>
                go_wp2_with fail
                refine (sGoodTerm_v _ _ _ _ _ _ ar t3 true _ HG.out (by omega) (by omega) hs ht3).mono ?_; rintro e w17 ⟨rfl, hb17⟩
                replace hv1 := hv1.belo hb17
                replace hB := hB.step hb17
                replace hT := hT.bel hb17
                replace hs := hs.below hb17
                replace hx := hx.below hb17
                replace hy := hy.below hb17
                replace hbxX := hb17.at (World.block_lt_of_cell? _ ⟨_, 0, none⟩ hbxX) hbxX
                replace ht3 := ht3.below hb17
                go_wp2_with fail
                go_meet
                exact ⟨rfl, hb17⟩
          case rest =>
          obtain ⟨w17, rfl⟩ : ∃ w17, w17 = wc := ⟨wc, rfl⟩
          obtain ⟨rfl, hb17⟩ := hcut
          replace hv1 := hv1.belo hb17
          replace hB := hB.step hb17
          replace hT := hT.bel hb17
          replace hs := hs.below hb17
          replace hx := hx.below hb17
          replace hy := hy.below hb17
          replace hbxX := hb17.at (World.block_lt_of_cell? _ ⟨_, 0, none⟩ hbxX) hbxX
          replace ht3 := ht3.below hb17
          rename_i dead1 dead2 dead3 dead4 dead5 dead6 dead7 dead8 dead9 dead10 dead11 dead12 dead13 dead14 dead15 dead16 dead17 dead18 dead19 dead20 dead21 dead22 dead23 dead24 dead25 dead26 dead27 dead28 dead29 dead30 dead31 dead32 dead33 dead34 dead35 dead36 dead37 dead38 dead39 dead40 dead41 dead42 dead43 dead44 dead45 dead46 dead47 dead48 dead49 dead50 dead51 dead52 dead53 dead54 dead55 dead56 dead57 dead58 dead59 dead60 dead61 dead62 dead63 dead64 dead65 dead66 dead67 dead68 dead69 dead70 dead71 dead72 dead73 dead74 dead75 dead76 dead77 dead78 dead79 dead80 dead81 dead82 dead83 dead84 dead85 dead86 dead87 dead88 dead89 dead90 dead91 dead92 dead93 dead94 dead95 dead96 dead97 dead98 dead99 dead100 dead101 dead102 dead103 dead104 dead105 dead106 dead107 dead108 dead109 dead110 dead111 dead112 dead113 dead114 dead115 dead116 dead117 dead118 dead119 dead120 dead121 dead122 dead123 dead124 dead125 dead126 dead127 dead128 dead129 dead130 dead131 dead132 dead133 dead134 dead135 dead136 dead137 dead138 dead139 dead140 dead141 dead142 dead143 dead144 dead145 dead146 dead147 dead148 dead149 dead150 dead151 dead152 dead153 dead154 dead155 dead156 dead157 dead158 dead159 dead160 dead161 dead162 dead163 dead164 dead165 dead166 dead167 dead168 dead169 dead170 dead171 dead172 dead173 dead174 dead175 dead176 dead177 dead178 dead179 dead180 dead181 dead182 dead183 dead184 dead185 dead186 dead187 dead188 dead189 dead190 dead191 dead192 dead193 dead194 dead195 dead196 dead197 dead198 dead199 dead200 dead201 dead202 dead203 dead204 dead205 dead206 dead207 dead208 dead209 dead210 dead211 dead212 dead213 dead214 dead215 dead216 dead217 dead218 dead219 dead220 dead221 dead222 dead223 dead224 dead225 dead226 dead227 dead228 dead229 dead230 dead231 dead232 dead233 dead234 dead235 dead236 dead237 dead238 dead239 dead240 dead241 dead242 dead243 dead244 dead245 dead246 dead247 dead248 dead249 dead250 dead251 dead252 dead253 dead254 dead255 dead256 dead257 hKB2258 KB2259 hKB2260 KB2261
          clear dead1 dead2 dead3 dead4 dead5 dead6 dead7 dead8 dead9 dead10 dead11 dead12 dead13 dead14 dead15 dead16 dead17 dead18 dead19 dead20 dead21 dead22 dead23 dead24 dead25 dead26 dead27 dead28 dead29 dead30 dead31 dead32 dead33 dead34 dead35 dead36 dead37 dead38 dead39 dead40 dead41 dead42 dead43 dead44 dead45 dead46 dead47 dead48 dead49 dead50 dead51 dead52 dead53 dead54 dead55 dead56 dead57 dead58 dead59 dead60 dead61 dead62 dead63 dead64 dead65 dead66 dead67 dead68 dead69 dead70 dead71 dead72 dead73 dead74 dead75 dead76 dead77 dead78 dead79 dead80 dead81 dead82 dead83 dead84 dead85 dead86 dead87 dead88 dead89 dead90 dead91 dead92 dead93 dead94 dead95 dead96 dead97 dead98 dead99 dead100 dead101 dead102 dead103 dead104 dead105 dead106 dead107 dead108 dead109 dead110 dead111 dead112 dead113 dead114 dead115 dead116 dead117 dead118 dead119 dead120 dead121 dead122 dead123 dead124 dead125 dead126 dead127 dead128 dead129 dead130 dead131 dead132 dead133 dead134 dead135 dead136 dead137 dead138 dead139 dead140 dead141 dead142 dead143 dead144 dead145 dead146 dead147 dead148 dead149 dead150 dead151 dead152 dead153 dead154 dead155 dead156 dead157 dead158 dead159 dead160 dead161 dead162 dead163 dead164 dead165 dead166 dead167 dead168 dead169 dead170 dead171 dead172 dead173 dead174 dead175 dead176 dead177 dead178 dead179 dead180 dead181 dead182 dead183 dead184 dead185 dead186 dead187 dead188 dead189 dead190 dead191 dead192 dead193 dead194 dead195 dead196 dead197 dead198 dead199 dead200 dead201 dead202 dead203 dead204 dead205 dead206 dead207 dead208 dead209 dead210 dead211 dead212 dead213 dead214 dead215 dead216 dead217 dead218 dead219 dead220 dead221 dead222 dead223 dead224 dead225 dead226 dead227 dead228 dead229 dead230 dead231 dead232 dead233 dead234 dead235 dead236 dead237 dead238 dead239 dead240 dead241 dead242 dead243 dead244 dead245 dead246 dead247 dead248 dead249 dead250 dead251 dead252 dead253 dead254 dead255 dead256 dead257
          revert w1 hb1 w2 ar a b hdr hal hbl hb2 harl sXa sXc aa ac ba bc hbAX gX hgX m wm w3 hb3 w4 hb4 w5 hb5 w6 hb6 w7 hb7 HPP halp hal1 hbl1 hanz hann hane hanf hang hanh HPT vx vy hvxl hvyl w8 aVX cVX hb8 w9 aVY cVY hb9 w10 hb10 HN1 w11 ar2 l t2 hdr2 hll hlj ht2l hb11 hsl sYa sYc la lc t2a t2c hbAY p pk q qk hpl hql w12 aP cP hb12 w13 aQ cQ hb13 w14 hb14 u4 u29 u30 u228 w15 hb15 w16 ar3 t3 hdr3 ht3l hb16 sZa sZc t3a t3c hbAZ gt HG hKB2258 KB2259 hKB2260 KB2261 u22 u31 u44 u45 u46 u47 u48 u49 u50 u51 u52 u53 u54 u55 u56 u57 u58 u59 u60 u61 u62 u63 u64 u65 u66 u67 u68 u69 u70 u71 u72 u73 u74 u75 u76 u77 u78 u79 u80 u81 u82 u83 u84 u85 u86 u87 u88 u89 u90 u91 u92 u93 u94 u95 u96 u97 u98 u99 u100 u101 u102 u103 u104 u105 u106 u107 u108 u109 u110 u111 u112 u113 u114 u115 u116 u117 u118 u119 u120 u121 u122 u123 u124 u125 u126 u127 u128 u129 u130 u131 u132 u133 u134 u135 u136 u137 u138 u139 u140 u141 u142 u143 u144 u145 u146 u147 u148 u149 u150 u151 u152 u153 u154 u155 u156 u157 u158 u159 u160 u161 u162 u163 u164 u165 u166 u167 u168 u169 u170 u171 u172 u173 u174 u175 u176 u177 u178 u179 u180 u181 u182 u183 u184 u185 u186 u187 u188 u189 u190 u191 u192 u193 u194 u195 u196 u197 u198 u199 u200 u201 u202 u203 u204 u205 u206 u207 u208 u209 u210 u211 u212 u213 u214 u215 u216 u217 u218 u219 u220 u221 u222 u223 u224 u225 u226 u227 u229 u230 u231 u232 u233 u234 u235 u236 u237 u238 u239 u240 u241 u242 u243 u244 u245 u246 u247 u248 u249 u250 u251 u252 u253 u254 u255 u256 u257 u258 u259 u260 u261 u262 u263 u264 u265 u266 u267 u268 u269 u270 u271 u272 u273 u274 u275 u276 u277 u278 u279 u280 u281 u282 u283 u284 u285 u286 u287 u288 u289 u290 u291 u292 u293 u294 u295 u296 u297 u298 u299 w17 hb17 hv1 hB hT hs hx hy hbxX ht3
          exact hG.out
end Go.Proofs.YtajmjjandkdhiabDoor
end
section
/- FnOrder: the walk, part B2b. -/
namespace Go.Proofs.YtajmjjandkdhiabDoor
open Go.RowKit

set_option maxRecDepth 100000 in
set_option maxHeartbeats 16000000 in
def ordB2b (w : World) (hT : Tab w) (n0 n1 : Nat) (ca : Option Addr) (cc : Nat) (ma : Option Addr) (mc : Nat) (hv0 : SlB w.heap.size w (.slice ca n0 cc) n0) (hv1 : SlB w.heap.size w (.slice ma n1 mc) n1) (hbig : n0 ≤ 1048576 ∧ n0 + n1 ≤ 1048576) : { G : Prop // Hid G → (ordB2 w hT n0 n1 ca cc ma mc hv0 hv1 hbig).1 } := by
  refine ⟨?G, fun hG => ?body⟩
  case body =>
          unfold ordB2
          intro w1 hb1 w2 ar a b hdr hal hbl hb2 harl sXa sXc aa ac ba bc hbAX gX hgX m wm w3 hb3 w4 hb4 w5 hb5 w6 hb6 w7 hb7 HPP halp hal1 hbl1 hanz hann hane hanf hang hanh HPT vx vy hvxl hvyl w8 aVX cVX hb8 w9 aVY cVY hb9 w10 hb10 HN1 w11 ar2 l t2 hdr2 hll hlj ht2l hb11 hsl sYa sYc la lc t2a t2c hbAY p pk q qk hpl hql w12 aP cP hb12 w13 aQ cQ hb13 w14 hb14 u4 u29 u30 u228 w15 hb15 w16 ar3 t3 hdr3 ht3l hb16 sZa sZc t3a t3c hbAZ gt HG hKB2258 KB2259 hKB2260 KB2261 u22 u31 u44 u45 u46 u47 u48 u49 u50 u51 u52 u53 u54 u55 u56 u57 u58 u59 u60 u61 u62 u63 u64 u65 u66 u67 u68 u69 u70 u71 u72 u73 u74 u75 u76 u77 u78 u79 u80 u81 u82 u83 u84 u85 u86 u87 u88 u89 u90 u91 u92 u93 u94 u95 u96 u97 u98 u99 u100 u101 u102 u103 u104 u105 u106 u107 u108 u109 u110 u111 u112 u113 u114 u115 u116 u117 u118 u119 u120 u121 u122 u123 u124 u125 u126 u127 u128 u129 u130 u131 u132 u133 u134 u135 u136 u137 u138 u139 u140 u141 u142 u143 u144 u145 u146 u147 u148 u149 u150 u151 u152 u153 u154 u155 u156 u157 u158 u159 u160 u161 u162 u163 u164 u165 u166 u167 u168 u169 u170 u171 u172 u173 u174 u175 u176 u177 u178 u179 u180 u181 u182 u183 u184 u185 u186 u187 u188 u189 u190 u191 u192 u193 u194 u195 u196 u197 u198 u199 u200 u201 u202 u203 u204 u205 u206 u207 u208 u209 u210 u211 u212 u213 u214 u215 u216 u217 u218 u219 u220 u221 u222 u223 u224 u225 u226 u227 u229 u230 u231 u232 u233 u234 u235 u236 u237 u238 u239 u240 u241 u242 u243 u244 u245 u246 u247 u248 u249 u250 u251 u252 u253 u254 u255 u256 u257 u258 u259 u260 u261 u262 u263 u264 u265 u266 u267 u268 u269 u270 u271 u272 u273 u274 u275 u276 u277 u278 u279 u280 u281 u282 u283 u284 u285 u286 u287 u288 u289 u290 u291 u292 u293 u294 u295 u296 u297 u298 u299 w17 hb17 hv1 hB hT hs hx hy hbxX ht3
          go_upto_if 228 with fail
          go_cut [] (fun wx => Bel w17 wx)
          case first =>
              cases gt with
              | false =>
                go_wp2_with fail
                go_meet
                exact Bel.rfl' _
              | true =>
                have hB0 := Bel.rfl' w17
                have h3p : 0 < t3.length := by have := ((okTerm_iff _ _).1 (goodTerm_iff.1 HG.out).2).1; omega
                have h3z : ((t3.length : Int) == 0) = false := by rw [beq_eq_false_iff_ne]; omega
                have h3n : ¬ (t3.length : Int) = 0 := by omega
                go_wp2_with fail
                refine (numberOf_n _ n1 _ _ (by omega) hv1).mono ?_; rintro e w18 ⟨zt, rfl, hzt0, hzt1, hb18⟩
                replace hv1 := hv1.belo hb18
                replace hB := hB.step hb18
                replace hT := hT.bel hb18
                replace hs := hs.below hb18
                replace hx := hx.below hb18
                replace hy := hy.below hb18
                replace hbxX := hb18.at (World.block_lt_of_cell? _ ⟨_, 0, none⟩ hbxX) hbxX
                replace ht3 := ht3.below hb18
                replace hB0 := hB0.step hb18
                have hat0 : 0 ≤ zt % (t3.length : Int) := Int.emod_nonneg _ h3n
                have hat1 : zt % (t3.length : Int) < t3.length := Int.emod_lt_of_pos _ (by omega)
                have hat2 : zt % (t3.length : Int) ≤ 1000003 := by omega
                generalize hAT : zt % (t3.length : Int) = at3 at *
                generalize hUU : replAns ar t3 at3 a = ru at *
                generalize hUk : replOk ar t3 at3 a = ruk at *
                generalize hVV : replAns ar t3 at3 b = rv at *
                generalize hVk : replOk ar t3 at3 b = rvk at *
                have hru : ru.length ≤ 1048576 := by rw [← hUU]; exact replAns_len ar t3 at3 a
                have hrv : rv.length ≤ 1048576 := by rw [← hVV]; exact replAns_len ar t3 at3 b
                generalize hK : cmpAns ar ru rv = kc
                generalize hKk : cmpOk ar ru rv = kk
                have HCX := Lib.hid (fun (h1 : ruk = true) (h2 : rvk = true) => show kk = true ∧ kc = 1 by
                  have := cmp_ctx (HN1.out) (hUk.trans h1) (hVk.trans h2)
                  rw [hUU, hVV, hK, hKk] at this
                  exact this)
                go_wp2_with fail
                refine (iReplaceAt_o (by omega) hs (by omega) ht3 (by omega) (by omega) (by omega) hx hUU hUk).mono ?_; rintro e w19 ⟨aRU, mRU, cRU, rfl, oRU, hb19⟩
                replace hv1 := hv1.belo hb19
                replace hB := hB.step hb19
                replace hT := hT.bel hb19
                replace hs := hs.below hb19
                replace hx := hx.below hb19
                replace hy := hy.below hb19
                replace hbxX := hb19.at (World.block_lt_of_cell? _ ⟨_, 0, none⟩ hbxX) hbxX
                replace ht3 := ht3.below hb19
                replace hB0 := hB0.step hb19
                replace oRU := oRU.sl
                have eRU := slI_no oRU
                subst eRU
                go_wp2_with fail
                refine (iReplaceAt_o (by omega) hs (by omega) ht3 (by omega) (by omega) (by omega) hy hVV hVk).mono ?_; rintro e w20 ⟨aRV, mRV, cRV, rfl, oRV, hb20⟩
                replace hv1 := hv1.belo hb20
                replace hB := hB.step hb20
                replace hT := hT.bel hb20
                replace hs := hs.below hb20
                replace hx := hx.below hb20
                replace hy := hy.below hb20
                replace hbxX := hb20.at (World.block_lt_of_cell? _ ⟨_, 0, none⟩ hbxX) hbxX
                replace ht3 := ht3.below hb20
                replace hB0 := hB0.step hb20
                replace oRU := oRU.below hb20
                replace oRV := oRV.sl
                have eRV := slI_no oRV
                subst eRV
                go_wp2_with fail
                refine (iCompareTerms_o hT (by omega) hs hru oRU hrv oRV hK hKk).mono ?_; rintro e w21 ⟨rfl, hb21⟩
                replace hv1 := hv1.belo hb21
                replace hB := hB.step hb21
                replace hT := hT.bel hb21
                replace hs := hs.below hb21
                replace hx := hx.below hb21
                replace hy := hy.below hb21
                replace hbxX := hb21.at (World.block_lt_of_cell? _ ⟨_, 0, none⟩ hbxX) hbxX
                replace ht3 := ht3.below hb21
                replace hB0 := hB0.step hb21
                replace oRU := oRU.below hb21
                replace oRV := oRV.below hb21
                clear hUU hUk hVV hVk hK hKk
                cases ruk with
                | false =>
                  go_wp2_with fail
                  go_meet
                  exact hB0
                | true =>
                  cases rvk with
                  | false =>
                    go_wp2_with fail
                    go_meet
                    exact hB0
                  | true =>
                    obtain ⟨rfl, rfl⟩ := HCX.out (by simp) (by simp)
                    go_wp2_with fail
                    go_meet
                    exact hB0
          case rest =>
          obtain ⟨w18, rfl⟩ : ∃ w18, w18 = wc := ⟨wc, rfl⟩
          have hb18 := hcut
          replace hv1 := hv1.belo hb18
          replace hB := hB.step hb18
          replace hT := hT.bel hb18
          replace hs := hs.below hb18
          replace hx := hx.below hb18
          replace hy := hy.below hb18
          replace hbxX := hb18.at (World.block_lt_of_cell? _ ⟨_, 0, none⟩ hbxX) hbxX
          replace ht3 := ht3.below hb18
          clear hcut
          clear ht3 HG
          rename_i dead1 dead2 dead3 dead4 dead5 dead6 dead7 dead8 dead9 dead10 dead11 dead12 dead13 dead14 dead15 dead16 dead17 dead18 dead19 dead20 dead21 dead22 dead23 dead24 dead25 dead26 dead27 dead28 dead29 dead30 dead31 dead32 dead33 dead34 dead35 dead36 dead37 dead38 dead39 dead40 dead41 dead42 dead43 dead44 dead45 dead46 dead47 dead48 dead49 dead50 dead51 dead52 dead53 dead54 dead55 dead56 dead57 dead58 dead59 dead60 dead61 dead62 dead63 dead64 dead65 dead66 dead67 dead68 dead69 dead70 dead71 dead72 dead73 dead74 dead75 dead76 dead77 dead78 dead79 dead80 dead81 dead82 dead83 dead84 dead85 dead86 dead87 dead88 dead89 dead90 dead91 dead92 dead93 dead94 dead95 dead96 dead97 dead98 dead99 dead100 dead101 dead102 dead103 dead104 dead105 dead106 dead107 dead108 dead109 dead110 dead111 dead112 dead113 dead114 dead115 dead116 dead117 dead118 dead119 dead120 dead121 dead122 dead123 dead124 dead125 dead126 dead127 dead128 dead129 dead130 dead131 dead132 dead133 dead134 dead135 dead136 dead137 dead138 dead139 dead140 dead141 dead142 dead143 dead144 dead145 dead146 dead147 dead148 dead149 dead150 dead151 dead152 dead153 dead154 dead155 dead156 dead157 dead158 dead159 dead160 dead161 dead162 dead163 dead164 dead165 dead166 dead167 dead168 dead169 dead170 dead171 dead172 dead173 dead174 dead175 dead176 dead177 dead178 dead179 dead180 dead181 dead182 dead183 dead184 dead185 dead186 dead187 dead188 dead189 dead190 dead191 dead192 dead193 dead194 dead195 dead196 dead197 dead198 dead199 dead200 dead201 dead202 dead203 dead204 dead205 dead206 dead207 dead208 dead209 dead210 dead211 dead212 dead213 dead214 dead215 dead216 dead217 dead218 dead219 dead220 dead221 dead222 dead223 dead224 dead225 dead226 dead227 dead228 dead229 dead230 dead231 dead232 dead233 dead234 dead235 dead236 dead237 dead238 dead239 dead240 dead241 dead242 dead243 dead244 dead245 dead246 dead247 dead248 dead249 dead250 dead251 dead252 dead253 dead254 dead255 dead256 dead257 dead258 dead259
          clear dead1 dead2 dead3 dead4 dead5 dead6 dead7 dead8 dead9 dead10 dead11 dead12 dead13 dead14 dead15 dead16 dead17 dead18 dead19 dead20 dead21 dead22 dead23 dead24 dead25 dead26 dead27 dead28 dead29 dead30 dead31 dead32 dead33 dead34 dead35 dead36 dead37 dead38 dead39 dead40 dead41 dead42 dead43 dead44 dead45 dead46 dead47 dead48 dead49 dead50 dead51 dead52 dead53 dead54 dead55 dead56 dead57 dead58 dead59 dead60 dead61 dead62 dead63 dead64 dead65 dead66 dead67 dead68 dead69 dead70 dead71 dead72 dead73 dead74 dead75 dead76 dead77 dead78 dead79 dead80 dead81 dead82 dead83 dead84 dead85 dead86 dead87 dead88 dead89 dead90 dead91 dead92 dead93 dead94 dead95 dead96 dead97 dead98 dead99 dead100 dead101 dead102 dead103 dead104 dead105 dead106 dead107 dead108 dead109 dead110 dead111 dead112 dead113 dead114 dead115 dead116 dead117 dead118 dead119 dead120 dead121 dead122 dead123 dead124 dead125 dead126 dead127 dead128 dead129 dead130 dead131 dead132 dead133 dead134 dead135 dead136 dead137 dead138 dead139 dead140 dead141 dead142 dead143 dead144 dead145 dead146 dead147 dead148 dead149 dead150 dead151 dead152 dead153 dead154 dead155 dead156 dead157 dead158 dead159 dead160 dead161 dead162 dead163 dead164 dead165 dead166 dead167 dead168 dead169 dead170 dead171 dead172 dead173 dead174 dead175 dead176 dead177 dead178 dead179 dead180 dead181 dead182 dead183 dead184 dead185 dead186 dead187 dead188 dead189 dead190 dead191 dead192 dead193 dead194 dead195 dead196 dead197 dead198 dead199 dead200 dead201 dead202 dead203 dead204 dead205 dead206 dead207 dead208 dead209 dead210 dead211 dead212 dead213 dead214 dead215 dead216 dead217 dead218 dead219 dead220 dead221 dead222 dead223 dead224 dead225 dead226 dead227 dead228 dead229 dead230 dead231 dead232 dead233 dead234 dead235 dead236 dead237 dead238 dead239 dead240 dead241 dead242 dead243 dead244 dead245 dead246 dead247 dead248 dead249 dead250 dead251 dead252 dead253 dead254 dead255 dead256 dead257 dead258 dead259
          revert w1 hb1 w2 ar a b hdr hal hbl hb2 harl sXa sXc aa ac ba bc hbAX gX hgX m wm w3 hb3 w4 hb4 w5 hb5 w6 hb6 w7 hb7 HPP halp hal1 hbl1 hanz hann hane hanf hang hanh HPT vx vy hvxl hvyl w8 aVX cVX hb8 w9 aVY cVY hb9 w10 hb10 HN1 w11 ar2 l t2 hdr2 hll hlj ht2l hb11 hsl sYa sYc la lc t2a t2c hbAY p pk q qk hpl hql w12 aP cP hb12 w13 aQ cQ hb13 w14 hb14 u29 u30 w15 hb15 w16 ar3 t3 hdr3 ht3l hb16 sZa sZc t3a t3c hbAZ gt hKB2258 KB2259 w17 hb17 u4 u22 u31 u33 u34 u35 u36 u37 u38 u39 u44 u45 u46 u47 u48 u49 u50 u51 u52 u53 u54 u55 u56 u57 u58 u59 u60 u61 u62 u63 u64 u65 u66 u67 u68 u69 u70 u71 u72 u73 u74 u75 u76 u77 u78 u79 u80 u81 u82 u83 u84 u85 u86 u87 u88 u89 u90 u91 u92 u93 u94 u95 u96 u97 u98 u99 u100 u101 u102 u103 u104 u105 u106 u107 u108 u109 u110 u111 u112 u113 u114 u115 u116 u117 u118 u119 u120 u121 u122 u123 u124 u125 u126 u127 u128 u129 u130 u131 u132 u133 u134 u135 u136 u137 u138 u139 u140 u141 u142 u143 u144 u145 u146 u147 u148 u149 u150 u151 u152 u153 u154 u155 u156 u157 u158 u159 u160 u161 u162 u163 u164 u165 u166 u167 u168 u169 u170 u171 u172 u173 u174 u175 u176 u177 u178 u179 u180 u181 u182 u183 u184 u185 u186 u187 u188 u189 u190 u191 u192 u193 u194 u195 u196 u197 u198 u199 u200 u201 u202 u203 u204 u205 u206 u207 u208 u209 u210 u211 u212 u213 u214 u215 u216 u217 u218 u219 u220 u221 u222 u223 u224 u225 u226 u227 u228 u229 u230 u231 u232 u233 u234 u235 u236 u237 u238 u239 u240 u241 u242 u243 u244 u245 u246 u247 u248 u249 u250 u251 u252 u253 u254 u255 u256 u257 u258 u259 u260 u261 u262 u263 u264 u265 u266 u267 u268 u269 u270 u271 u272 u273 u274 u275 u276 u277 u278 u279 u280 u281 u282 u283 u284 u285 u286 u287 u288 u289 u290 u291 u292 u293 u294 u295 u296 u297 u298 u299 w18 hb18 hv1 hB hT hs hx hy hbxX
          exact hG.out
end Go.Proofs.YtajmjjandkdhiabDoor
end
section
/- FnOrder: the walk, part B3. -/
namespace Go.Proofs.YtajmjjandkdhiabDoor
open Go.RowKit

set_option maxRecDepth 100000 in
set_option maxHeartbeats 16000000 in
theorem ordB3 (w : World) (hT : Tab w) (n0 n1 : Nat) (ca : Option Addr) (cc : Nat) (ma : Option Addr) (mc : Nat) (hv0 : SlB w.heap.size w (.slice ca n0 cc) n0) (hv1 : SlB w.heap.size w (.slice ma n1 mc) n1) (hbig : n0 ≤ 1048576 ∧ n0 + n1 ≤ 1048576) : (ordB2b w hT n0 n1 ca cc ma mc hv0 hv1 hbig).1 := by
          unfold ordB2b
          intro w1 hb1 w2 ar a b hdr hal hbl hb2 harl sXa sXc aa ac ba bc hbAX gX hgX m wm w3 hb3 w4 hb4 w5 hb5 w6 hb6 w7 hb7 HPP halp hal1 hbl1 hanz hann hane hanf hang hanh HPT vx vy hvxl hvyl w8 aVX cVX hb8 w9 aVY cVY hb9 w10 hb10 HN1 w11 ar2 l t2 hdr2 hll hlj ht2l hb11 hsl sYa sYc la lc t2a t2c hbAY p pk q qk hpl hql w12 aP cP hb12 w13 aQ cQ hb13 w14 hb14 u29 u30 w15 hb15 w16 ar3 t3 hdr3 ht3l hb16 sZa sZc t3a t3c hbAZ gt hKB2258 KB2259 w17 hb17 u4 u22 u31 u33 u34 u35 u36 u37 u38 u39 u44 u45 u46 u47 u48 u49 u50 u51 u52 u53 u54 u55 u56 u57 u58 u59 u60 u61 u62 u63 u64 u65 u66 u67 u68 u69 u70 u71 u72 u73 u74 u75 u76 u77 u78 u79 u80 u81 u82 u83 u84 u85 u86 u87 u88 u89 u90 u91 u92 u93 u94 u95 u96 u97 u98 u99 u100 u101 u102 u103 u104 u105 u106 u107 u108 u109 u110 u111 u112 u113 u114 u115 u116 u117 u118 u119 u120 u121 u122 u123 u124 u125 u126 u127 u128 u129 u130 u131 u132 u133 u134 u135 u136 u137 u138 u139 u140 u141 u142 u143 u144 u145 u146 u147 u148 u149 u150 u151 u152 u153 u154 u155 u156 u157 u158 u159 u160 u161 u162 u163 u164 u165 u166 u167 u168 u169 u170 u171 u172 u173 u174 u175 u176 u177 u178 u179 u180 u181 u182 u183 u184 u185 u186 u187 u188 u189 u190 u191 u192 u193 u194 u195 u196 u197 u198 u199 u200 u201 u202 u203 u204 u205 u206 u207 u208 u209 u210 u211 u212 u213 u214 u215 u216 u217 u218 u219 u220 u221 u222 u223 u224 u225 u226 u227 u228 u229 u230 u231 u232 u233 u234 u235 u236 u237 u238 u239 u240 u241 u242 u243 u244 u245 u246 u247 u248 u249 u250 u251 u252 u253 u254 u255 u256 u257 u258 u259 u260 u261 u262 u263 u264 u265 u266 u267 u268 u269 u270 u271 u272 u273 u274 u275 u276 u277 u278 u279 u280 u281 u282 u283 u284 u285 u286 u287 u288 u289 u290 u291 u292 u293 u294 u295 u296 u297 u298 u299 w18 hb18 hv1 hB hT hs hx hy hbxX
          go_wp2_with fail
          go_region_held3 (fun w' => w'.cell? ⟨gX, 0, none⟩ = some (.slice sXa ar.length sXc))
            (first | exact hbxX | exact hx1 | exact hx2 | fail)
            (first
              | (go_at_call 18; refine (HPT.out y1 _ _ _ _ zz hz0 hz1 (hs.below hc1) (hx.below hc1)).mono ?_; rintro e y2 ⟨aU, mU, cU, rfl, oU, hc2⟩; replace hc2 := hc1.step hc2; have hx2 := hc2.at (World.block_lt_of_cell? _ ⟨_, 0, none⟩ hbxX) hbxX)
              | (go_at_call 16; refine (numberOf_n _ n1 _ _ (by omega) (hv1.belo (Bel.drew0 w18))).mono ?_; rintro e y1 ⟨zz, rfl, hz0, hz1, hc1⟩; replace hc1 := (Bel.drew0 w18).step hc1; have hx1 := hc1.at (World.block_lt_of_cell? _ ⟨_, 0, none⟩ hbxX) hbxX)
              | fail)
          have hPP := HPP.out zz hz0
          replace oU := oU.sl
          have eU := slI_no oU
          subst eU
          clear hx1 hx2 hc1
          replace hv1 := hv1.belo hc2
          replace hB := hB.step hc2
          replace hT := hT.bel hc2
          replace hs := hs.below hc2
          replace hx := hx.below hc2
          replace hy := hy.below hc2
          replace hbxX := hc2.at (World.block_lt_of_cell? _ ⟨_, 0, none⟩ hbxX) hbxX
          clear hc2 HPT HPP
          have hPl := hPP.2.2
          generalize hPt : partAns ar a (zz.tmod (a.length : Int)) = pt at *
          generalize hPc : cmpAns ar a pt = pc at *
          go_wp2_with fail
          refine (iCompareTerms_o hT (by omega) hs (by omega) hx (by omega) oU hPc hPP.1).mono ?_; rintro e w19 ⟨rfl, hb19⟩
          replace hv1 := hv1.belo hb19
          replace hB := hB.step hb19
          replace hT := hT.bel hb19
          replace hs := hs.below hb19
          replace hx := hx.below hb19
          replace hy := hy.below hb19
          replace hbxX := hb19.at (World.block_lt_of_cell? _ ⟨_, 0, none⟩ hbxX) hbxX
          replace oU := oU.below hb19
          rcases hPP.2.1 with rfl | ⟨rfl, rfl⟩
          ·
            clear hPP
            go_wp2_with fail
            go_ret
            exact ⟨rfl, hB⟩
          ·
            clear hPP
            go_wp2_with fail
            refine (sameTerm_same _ _ _ _ _ _ _ _ (by omega) oU hx).mono ?_; rintro e w20 ⟨rfl, hb20⟩
            replace hv1 := hv1.belo hb20
            replace hB := hB.step hb20
            replace hT := hT.bel hb20
            replace hs := hs.below hb20
            replace hx := hx.below hb20
            replace hy := hy.below hb20
            replace hbxX := hb20.at (World.block_lt_of_cell? _ ⟨_, 0, none⟩ hbxX) hbxX
            replace oU := oU.below hb20
            go_wp2_with fail
            go_ret
            exact ⟨rfl, hB⟩
end Go.Proofs.YtajmjjandkdhiabDoor
end
section
/- FnOrder: the walk, part C. -/
namespace Go.Proofs.YtajmjjandkdhiabDoor
open Go.RowKit

set_option maxRecDepth 100000 in
set_option maxHeartbeats 16000000 in
def ordC (w : World) (hT : Tab w) (n0 n1 : Nat) (ca : Option Addr) (cc : Nat) (ma : Option Addr) (mc : Nat) (hv0 : SlB w.heap.size w (.slice ca n0 cc) n0) (hv1 : SlB w.heap.size w (.slice ma n1 mc) n1) (hbig : n0 ≤ 1048576 ∧ n0 + n1 ≤ 1048576) : { G : Prop // Hid G → (ordA w hT n0 n1 ca cc ma mc hv0 hv1 hbig).1.2 } := by
  refine ⟨?G, fun hG => ?body⟩
  case body =>
          unfold ordA
          intro w1 hb1 w2 ar a b hdr hal hbl hb2 harl sXa sXc aa ac ba bc hbAX gX hgX n m wm w3 hb3 w4 hb4 w5 hb5 w6 hb6 w7 hb7 HPP halp hal1 hbl1 hanz hann hane hanf hang hanh HNT HPT vx vy hvxl hvyl w8 aVX cVX hb8 w9 aVY cVY hb9 KA1 hKA2 KA3 hKA4 u22 u31 u44 u45 u46 u47 u48 u49 u50 u51 u52 u53 u54 u55 u56 u57 u58 u59 u60 u61 u62 u63 u64 u65 u66 u67 u68 u69 u70 u71 u72 u73 u74 u75 u76 u77 u78 u79 u80 u81 u82 u83 u84 u85 u86 u87 u88 u89 u90 u91 u92 u93 u94 u95 u96 u97 u98 u99 u100 u101 u102 u103 u104 u105 u106 u107 u108 u109 u110 u111 u112 u113 u114 u115 u116 u117 u118 u119 u120 u121 u122 u123 u124 u125 u126 u127 u128 u129 u130 u131 u132 u133 u134 u135 u136 u137 u138 u139 u140 u141 u142 u143 u144 u145 u146 u147 u148 u149 u150 u151 u152 u153 u154 u155 u156 u157 u158 u159 u160 u161 u162 u163 u164 u165 u166 u167 u168 u169 u170 u171 u172 u173 u174 u176 u177 u178 u179 u180 u181 u182 u183 u184 u185 u186 u187 u188 u189 u190 u191 u192 u193 u194 u195 u196 u197 u198 u199 u200 u201 u202 u203 u204 u205 u206 u207 u208 u209 u210 u211 u212 u213 u214 u215 u216 u217 u218 u219 u220 u221 u222 u223 u224 u225 u226 u227 u228 u229 u230 u231 u232 u233 u234 u235 u236 u237 u238 u239 u240 u241 u242 u243 u244 u245 u246 u247 u248 u249 u250 u251 u252 u253 u254 u255 u256 u257 u258 u259 u260 u261 u262 u263 u264 u265 u266 u267 u268 u269 u270 u271 u272 u273 u274 u275 u276 u277 u278 u279 u280 u281 u282 u283 u284 u285 u286 u287 u288 u289 u290 u291 u292 u293 u294 u295 u296 u297 u298 u299 w10 hb10 hv1 hB hT hs hx hy hbxX hn1
          have hnb : (n == 1) = false := by rw [beq_eq_false_iff_ne]; exact hn1
          have hnd : decide (n = 1) = false := by simpa using hn1
          clear HNT
          go_wp2_with fail
          refine (drawApply_c n1 _ _ (by omega) hv1).mono ?_; rintro e w11 ⟨sv2, lv, tv2, ar2, l, t2, rfl, hdr2, hs2, hl, hll, hlj, ht2, ht2l, hb11⟩
          replace hv1 := hv1.belo hb11
          replace hB := hB.step hb11
          replace hT := hT.bel hb11
          replace hs := hs.below hb11
          replace hx := hx.below hb11
          replace hy := hy.below hb11
          replace hbxX := hb11.at (World.block_lt_of_cell? _ ⟨_, 0, none⟩ hbxX) hbxX
          have hsl := short_12 hll hlj
          obtain ⟨sYa, sYc, rfl⟩ := hs2.form
          obtain ⟨la, lc, rfl⟩ := hl.form
          obtain ⟨t2a, t2c, rfl⟩ := ht2.form
          clear hs2 ht2
          have hbAY := Bel.alloc0 w11 (.cells #[.slice sYa ar2.length sYc] 26)
          replace hv1 := hv1.belo hbAY
          replace hB := hB.step hbAY
          replace hT := hT.bel hbAY
          replace hs := hs.below hbAY
          replace hx := hx.below hbAY
          replace hy := hy.below hbAY
          replace hbxX := hbAY.at (World.block_lt_of_cell? _ ⟨_, 0, none⟩ hbxX) hbxX
          replace hl := hl.below hbAY
          generalize hP : applyAns ar l a = p
          generalize hPk : applyOk ar l a = pk
          generalize hQ : applyAns ar l b = q
          generalize hQk : applyOk ar l b = qk
          have hpl : p.length ≤ 40 := by rw [← hP]; exact applyAns_len40 ar l a
          have hql : q.length ≤ 40 := by rw [← hQ]; exact applyAns_len40 ar l b
          go_wp2_with fail
          refine (iApply_o (by omega) hs hsl hl (by omega) hx hP hPk).mono ?_; rintro e w12 ⟨aP, mP, cP, rfl, oP, hb12⟩
          replace hv1 := hv1.belo hb12
          replace hB := hB.step hb12
          replace hT := hT.bel hb12
          replace hs := hs.below hb12
          replace hx := hx.below hb12
          replace hy := hy.below hb12
          replace hbxX := hb12.at (World.block_lt_of_cell? _ ⟨_, 0, none⟩ hbxX) hbxX
          replace hl := hl.below hb12
          replace oP := oP.sl
          have eP := slI_no oP
          subst eP
          go_wp2_with fail
          refine (iApply_o (by omega) hs hsl hl (by omega) hy hQ hQk).mono ?_; rintro e w13 ⟨aQ, mQ, cQ, rfl, oQ, hb13⟩
          replace hv1 := hv1.belo hb13
          replace hB := hB.step hb13
          replace hT := hT.bel hb13
          replace hs := hs.below hb13
          replace hx := hx.below hb13
          replace hy := hy.below hb13
          replace hbxX := hb13.at (World.block_lt_of_cell? _ ⟨_, 0, none⟩ hbxX) hbxX
          replace hl := hl.below hb13
          replace oP := oP.below hb13
          replace oQ := oQ.sl
          have eQ := slI_no oQ
          subst eQ
          clear hP hPk hQ hQk hl
          go_upto_region 20 with fail
          go_cut [203] (fun s wx => s = .bool false ∧ Bel w13 wx)
          case first =>
              cases pk with
              | false =>
                cases qk with
                | false =>
                  go_wp2_with fail
                  go_meet
                  exact ⟨rfl, Bel.rfl' _⟩
                | true =>
                  go_wp2_with fail
                  go_meet
                  exact ⟨rfl, Bel.rfl' _⟩
              | true =>
                cases qk with
                | false =>
                  go_wp2_with fail
                  go_meet
                  exact ⟨rfl, Bel.rfl' _⟩
                | true =>
                  go_wp2_with fail
                  go_meet
                  exact ⟨rfl, Bel.rfl' _⟩
          case rest =>
          obtain ⟨w14, rfl⟩ : ∃ w14, w14 = wc := ⟨wc, rfl⟩
          obtain ⟨rfl, hb14⟩ := hcut
          replace hv1 := hv1.belo hb14
          replace hB := hB.step hb14
          replace hT := hT.bel hb14
          replace hs := hs.below hb14
          replace hx := hx.below hb14
          replace hy := hy.below hb14
          replace hbxX := hb14.at (World.block_lt_of_cell? _ ⟨_, 0, none⟩ hbxX) hbxX
          replace oP := oP.below hb14
          replace oQ := oQ.below hb14
          clear oP oQ
          rename_i dead1 dead2 dead3 dead4 dead5 dead6 dead7 dead8 dead9 dead10 dead11 dead12 dead13 dead14 dead15 dead16 dead17 dead18 dead19 dead20 dead21 dead22 dead23 dead24 dead25 dead26 dead27 dead28 dead29 dead30 dead31 dead32 dead33 dead34 dead35 dead36 dead37 dead38 dead39 dead40 dead41 dead42 dead43 dead44 dead45 dead46 dead47 dead48 dead49 dead50 dead51 dead52 dead53 dead54 dead55 dead56 dead57 dead58 dead59 dead60 dead61 dead62 dead63 dead64 dead65 dead66 dead67 dead68 dead69 dead70 dead71 dead72 dead73 dead74 dead75 dead76 dead77 dead78 dead79 dead80 dead81 dead82 dead83 dead84 dead85 dead86 dead87 dead88 dead89 dead90 dead91 dead92 dead93 dead94 dead95 dead96 dead97 dead98 dead99 dead100 dead101 dead102 dead103 dead104 dead105 dead106 dead107 dead108 dead109 dead110 dead111 dead112 dead113 dead114 dead115 dead116 dead117 dead118 dead119 dead120 dead121 dead122 dead123 dead124 dead125 dead126 dead127 dead128 dead129 dead130 dead131 dead132 dead133 dead134 dead135 dead136 dead137 dead138 dead139 dead140 dead141 dead142 dead143 dead144 dead145 dead146 dead147 dead148 dead149 dead150 dead151 dead152 dead153 dead154 dead155 dead156 dead157 dead158 dead159 dead160 dead161 dead162 dead163 dead164 dead165 dead166 dead167 dead168 dead169 dead170 dead171 dead172 dead173 dead174 dead175 dead176 dead177 dead178 dead179 dead180 dead181 dead182 dead183 dead184 dead185 dead186 dead187 dead188 dead189 dead190 dead191 dead192 dead193 dead194 dead195 dead196 dead197 dead198 dead199 dead200 dead201 dead202 dead203 dead204 dead205 dead206 dead207 dead208 dead209 dead210 dead211 dead212 dead213 dead214 dead215 dead216 dead217 dead218 dead219 dead220 dead221 dead222 dead223 dead224 dead225 dead226 dead227 dead228 dead229 dead230 dead231 dead232 dead233 dead234 dead235 dead236 dead237 dead238 dead239 dead240 dead241 dead242 dead243 dead244 dead245 dead246 dead247 dead248 dead249 dead250 dead251 dead252 dead253 dead254 dead255 dead256 KC257 hKC258 KC259 hKC260
          clear dead1 dead2 dead3 dead4 dead5 dead6 dead7 dead8 dead9 dead10 dead11 dead12 dead13 dead14 dead15 dead16 dead17 dead18 dead19 dead20 dead21 dead22 dead23 dead24 dead25 dead26 dead27 dead28 dead29 dead30 dead31 dead32 dead33 dead34 dead35 dead36 dead37 dead38 dead39 dead40 dead41 dead42 dead43 dead44 dead45 dead46 dead47 dead48 dead49 dead50 dead51 dead52 dead53 dead54 dead55 dead56 dead57 dead58 dead59 dead60 dead61 dead62 dead63 dead64 dead65 dead66 dead67 dead68 dead69 dead70 dead71 dead72 dead73 dead74 dead75 dead76 dead77 dead78 dead79 dead80 dead81 dead82 dead83 dead84 dead85 dead86 dead87 dead88 dead89 dead90 dead91 dead92 dead93 dead94 dead95 dead96 dead97 dead98 dead99 dead100 dead101 dead102 dead103 dead104 dead105 dead106 dead107 dead108 dead109 dead110 dead111 dead112 dead113 dead114 dead115 dead116 dead117 dead118 dead119 dead120 dead121 dead122 dead123 dead124 dead125 dead126 dead127 dead128 dead129 dead130 dead131 dead132 dead133 dead134 dead135 dead136 dead137 dead138 dead139 dead140 dead141 dead142 dead143 dead144 dead145 dead146 dead147 dead148 dead149 dead150 dead151 dead152 dead153 dead154 dead155 dead156 dead157 dead158 dead159 dead160 dead161 dead162 dead163 dead164 dead165 dead166 dead167 dead168 dead169 dead170 dead171 dead172 dead173 dead174 dead175 dead176 dead177 dead178 dead179 dead180 dead181 dead182 dead183 dead184 dead185 dead186 dead187 dead188 dead189 dead190 dead191 dead192 dead193 dead194 dead195 dead196 dead197 dead198 dead199 dead200 dead201 dead202 dead203 dead204 dead205 dead206 dead207 dead208 dead209 dead210 dead211 dead212 dead213 dead214 dead215 dead216 dead217 dead218 dead219 dead220 dead221 dead222 dead223 dead224 dead225 dead226 dead227 dead228 dead229 dead230 dead231 dead232 dead233 dead234 dead235 dead236 dead237 dead238 dead239 dead240 dead241 dead242 dead243 dead244 dead245 dead246 dead247 dead248 dead249 dead250 dead251 dead252 dead253 dead254 dead255 dead256
          revert w1 hb1 w2 ar a b hdr hal hbl hb2 harl sXa sXc aa ac ba bc hbAX gX hgX n m wm w3 hb3 w4 hb4 w5 hb5 w6 hb6 w7 hb7 HPP halp hal1 hbl1 hanz hann hane hanf hang hanh HPT vx vy hvxl hvyl w8 aVX cVX hb8 w9 aVY cVY hb9 u203 w10 hb10 hn1 hnb hnd w11 ar2 l t2 hdr2 hll hlj ht2l hb11 hsl sYa sYc la lc t2a t2c hbAY p pk q qk hpl hql w12 aP cP hb12 w13 aQ cQ hb13 KC257 hKC258 KC259 hKC260 u22 u31 u44 u45 u46 u47 u48 u49 u50 u51 u52 u53 u54 u55 u56 u57 u58 u59 u60 u61 u62 u63 u64 u65 u66 u67 u68 u69 u70 u71 u72 u73 u74 u75 u76 u77 u78 u79 u80 u81 u82 u83 u84 u85 u86 u87 u88 u89 u90 u91 u92 u93 u94 u95 u96 u97 u98 u99 u100 u101 u102 u103 u104 u105 u106 u107 u108 u109 u110 u111 u112 u113 u114 u115 u116 u117 u118 u119 u120 u121 u122 u123 u124 u125 u126 u127 u128 u129 u130 u131 u132 u133 u134 u135 u136 u137 u138 u139 u140 u141 u142 u143 u144 u145 u146 u147 u148 u149 u150 u151 u152 u153 u154 u155 u156 u157 u158 u159 u160 u161 u162 u163 u164 u165 u166 u167 u168 u169 u170 u171 u172 u173 u174 u175 u176 u177 u178 u179 u180 u181 u182 u183 u184 u185 u186 u187 u188 u189 u190 u191 u192 u193 u194 u195 u196 u197 u198 u199 u200 u201 u202 u204 u205 u206 u207 u208 u209 u210 u211 u212 u213 u214 u215 u216 u217 u218 u219 u220 u221 u222 u223 u224 u225 u226 u227 u228 u229 u230 u231 u232 u233 u234 u235 u236 u237 u238 u239 u240 u241 u242 u243 u244 u245 u246 u247 u248 u249 u250 u251 u252 u253 u254 u255 u256 u257 u258 u259 u260 u261 u262 u263 u264 u265 u266 u267 u268 u269 u270 u271 u272 u273 u274 u275 u276 u277 u278 u279 u280 u281 u282 u283 u284 u285 u286 u287 u288 u289 u290 u291 u292 u293 u294 u295 u296 u297 u298 u299 w14 hb14 hv1 hB hT hs hx hy hbxX
          exact hG.out
end Go.Proofs.YtajmjjandkdhiabDoor
end
section
/- FnOrder: the walk, part C2. -/
namespace Go.Proofs.YtajmjjandkdhiabDoor
open Go.RowKit

set_option maxRecDepth 100000 in
set_option maxHeartbeats 16000000 in
def ordC2 (w : World) (hT : Tab w) (n0 n1 : Nat) (ca : Option Addr) (cc : Nat) (ma : Option Addr) (mc : Nat) (hv0 : SlB w.heap.size w (.slice ca n0 cc) n0) (hv1 : SlB w.heap.size w (.slice ma n1 mc) n1) (hbig : n0 ≤ 1048576 ∧ n0 + n1 ≤ 1048576) : { G : Prop // Hid G → (ordC w hT n0 n1 ca cc ma mc hv0 hv1 hbig).1 } := by
  refine ⟨?G, fun hG => ?body⟩
  case body =>
          unfold ordC
          intro w1 hb1 w2 ar a b hdr hal hbl hb2 harl sXa sXc aa ac ba bc hbAX gX hgX n m wm w3 hb3 w4 hb4 w5 hb5 w6 hb6 w7 hb7 HPP halp hal1 hbl1 hanz hann hane hanf hang hanh HPT vx vy hvxl hvyl w8 aVX cVX hb8 w9 aVY cVY hb9 u203 w10 hb10 hn1 hnb hnd w11 ar2 l t2 hdr2 hll hlj ht2l hb11 hsl sYa sYc la lc t2a t2c hbAY p pk q qk hpl hql w12 aP cP hb12 w13 aQ cQ hb13 KC257 hKC258 KC259 hKC260 u22 u31 u44 u45 u46 u47 u48 u49 u50 u51 u52 u53 u54 u55 u56 u57 u58 u59 u60 u61 u62 u63 u64 u65 u66 u67 u68 u69 u70 u71 u72 u73 u74 u75 u76 u77 u78 u79 u80 u81 u82 u83 u84 u85 u86 u87 u88 u89 u90 u91 u92 u93 u94 u95 u96 u97 u98 u99 u100 u101 u102 u103 u104 u105 u106 u107 u108 u109 u110 u111 u112 u113 u114 u115 u116 u117 u118 u119 u120 u121 u122 u123 u124 u125 u126 u127 u128 u129 u130 u131 u132 u133 u134 u135 u136 u137 u138 u139 u140 u141 u142 u143 u144 u145 u146 u147 u148 u149 u150 u151 u152 u153 u154 u155 u156 u157 u158 u159 u160 u161 u162 u163 u164 u165 u166 u167 u168 u169 u170 u171 u172 u173 u174 u175 u176 u177 u178 u179 u180 u181 u182 u183 u184 u185 u186 u187 u188 u189 u190 u191 u192 u193 u194 u195 u196 u197 u198 u199 u200 u201 u202 u204 u205 u206 u207 u208 u209 u210 u211 u212 u213 u214 u215 u216 u217 u218 u219 u220 u221 u222 u223 u224 u225 u226 u227 u228 u229 u230 u231 u232 u233 u234 u235 u236 u237 u238 u239 u240 u241 u242 u243 u244 u245 u246 u247 u248 u249 u250 u251 u252 u253 u254 u255 u256 u257 u258 u259 u260 u261 u262 u263 u264 u265 u266 u267 u268 u269 u270 u271 u272 u273 u274 u275 u276 u277 u278 u279 u280 u281 u282 u283 u284 u285 u286 u287 u288 u289 u290 u291 u292 u293 u294 u295 u296 u297 u298 u299 w14 hb14 hv1 hB hT hs hx hy hbxX
          go_wp2_with fail
          refine (drawGoodTerm_e n1 _ _ (by omega) hv1).mono ?_; rintro e w15 ⟨sv3, tv3, ar3, t3, rfl, hdr3, hs3, ht3, ht3l, hb15⟩
          replace hv1 := hv1.belo hb15
          replace hB := hB.step hb15
          replace hT := hT.bel hb15
          replace hs := hs.below hb15
          replace hx := hx.below hb15
          replace hy := hy.below hb15
          replace hbxX := hb15.at (World.block_lt_of_cell? _ ⟨_, 0, none⟩ hbxX) hbxX
          obtain ⟨sZa, sZc, rfl⟩ := hs3.form
          obtain ⟨t3a, t3c, rfl⟩ := ht3.form
          clear hs3
          have hbAZ := Bel.alloc0 w15 (.cells #[.slice sZa ar3.length sZc] 26)
          replace hv1 := hv1.belo hbAZ
          replace hB := hB.step hbAZ
          replace hT := hT.bel hbAZ
          replace hs := hs.below hbAZ
          replace hx := hx.below hbAZ
          replace hy := hy.below hbAZ
          replace hbxX := hbAZ.at (World.block_lt_of_cell? _ ⟨_, 0, none⟩ hbxX) hbxX
          replace ht3 := ht3.below hbAZ
          generalize hgt : goodTerm ar t3 = gt
          have HG := Lib.hid hgt
          clear hgt
          go_upto_region 25 with fail
          go_cut [228] (fun s wx => s = .bool false ∧ Bel (w15.alloc (.cells #[.slice sZa ar3.length sZc] 26)) wx)
          case first =>
              cases gt with
              | false =>
                go_wp2_with fail
                refine (sGoodTerm_v _ _ _ _ _ _ ar t3 false _ HG.out (by omega) (by omega) hs ht3).mono ?_; rintro e w16 ⟨rfl, hb16⟩
                replace hv1 := hv1.belo hb16
                replace hB := hB.step hb16
                replace hT := hT.bel hb16
                replace hs := hs.below hb16
                replace hx := hx.below hb16
                replace hy := hy.below hb16
                replace hbxX := hb16.at (World.block_lt_of_cell? _ ⟨_, 0, none⟩ hbxX) hbxX
                replace ht3 := ht3.below hb16
                go_wp2_with fail
                go_meet
                exact ⟨rfl, hb16⟩
              | true =>
                go_wp2_with fail
                refine (sGoodTerm_v _ _ _ _ _ _ ar t3 true _ HG.out (by omega) (by omega) hs ht3).mono ?_; rintro e w16 ⟨rfl, hb16⟩
                replace hv1 := hv1.belo hb16
                replace hB := hB.step hb16
                replace hT := hT.bel hb16
                replace hs := hs.below hb16
                replace hx := hx.below hb16
                replace hy := hy.below hb16
                replace hbxX := hb16.at (World.block_lt_of_cell? _ ⟨_, 0, none⟩ hbxX) hbxX
                replace ht3 := ht3.below hb16
                go_wp2_with fail
                go_meet
                exact ⟨rfl, hb16⟩
          case rest =>
          obtain ⟨w16, rfl⟩ : ∃ w16, w16 = wc := ⟨wc, rfl⟩
          obtain ⟨rfl, hb16⟩ := hcut
          replace hv1 := hv1.belo hb16
          replace hB := hB.step hb16
          replace hT := hT.bel hb16
          replace hs := hs.below hb16
          replace hx := hx.below hb16
          replace hy := hy.below hb16
          replace hbxX := hb16.at (World.block_lt_of_cell? _ ⟨_, 0, none⟩ hbxX) hbxX
          replace ht3 := ht3.below hb16
          clear ht3 HG
          rename_i dead1 dead2 dead3 dead4 dead5 dead6 dead7 dead8 dead9 dead10 dead11 dead12 dead13 dead14 dead15 dead16 dead17 dead18 dead19 dead20 dead21 dead22 dead23 dead24 dead25 dead26 dead27 dead28 dead29 dead30 dead31 dead32 dead33 dead34 dead35 dead36 dead37 dead38 dead39 dead40 dead41 dead42 dead43 dead44 dead45 dead46 dead47 dead48 dead49 dead50 dead51 dead52 dead53 dead54 dead55 dead56 dead57 dead58 dead59 dead60 dead61 dead62 dead63 dead64 dead65 dead66 dead67 dead68 dead69 dead70 dead71 dead72 dead73 dead74 dead75 dead76 dead77 dead78 dead79 dead80 dead81 dead82 dead83 dead84 dead85 dead86 dead87 dead88 dead89 dead90 dead91 dead92 dead93 dead94 dead95 dead96 dead97 dead98 dead99 dead100 dead101 dead102 dead103 dead104 dead105 dead106 dead107 dead108 dead109 dead110 dead111 dead112 dead113 dead114 dead115 dead116 dead117 dead118 dead119 dead120 dead121 dead122 dead123 dead124 dead125 dead126 dead127 dead128 dead129 dead130 dead131 dead132 dead133 dead134 dead135 dead136 dead137 dead138 dead139 dead140 dead141 dead142 dead143 dead144 dead145 dead146 dead147 dead148 dead149 dead150 dead151 dead152 dead153 dead154 dead155 dead156 dead157 dead158 dead159 dead160 dead161 dead162 dead163 dead164 dead165 dead166 dead167 dead168 dead169 dead170 dead171 dead172 dead173 dead174 dead175 dead176 dead177 dead178 dead179 dead180 dead181 dead182 dead183 dead184 dead185 dead186 dead187 dead188 dead189 dead190 dead191 dead192 dead193 dead194 dead195 dead196 dead197 dead198 dead199 dead200 dead201 dead202 dead203 dead204 dead205 dead206 dead207 dead208 dead209 dead210 dead211 dead212 dead213 dead214 dead215 dead216 dead217 dead218 dead219 dead220 dead221 dead222 dead223 dead224 dead225 dead226 dead227 dead228 dead229 dead230 dead231 dead232 dead233 dead234 dead235 dead236 dead237 dead238 dead239 dead240 dead241 dead242 dead243 dead244 dead245 dead246 dead247 dead248 dead249 dead250 dead251 dead252 dead253 dead254 dead255 dead256 dead257 hKC2258 KC2259 hKC2260 KC2261
          clear dead1 dead2 dead3 dead4 dead5 dead6 dead7 dead8 dead9 dead10 dead11 dead12 dead13 dead14 dead15 dead16 dead17 dead18 dead19 dead20 dead21 dead22 dead23 dead24 dead25 dead26 dead27 dead28 dead29 dead30 dead31 dead32 dead33 dead34 dead35 dead36 dead37 dead38 dead39 dead40 dead41 dead42 dead43 dead44 dead45 dead46 dead47 dead48 dead49 dead50 dead51 dead52 dead53 dead54 dead55 dead56 dead57 dead58 dead59 dead60 dead61 dead62 dead63 dead64 dead65 dead66 dead67 dead68 dead69 dead70 dead71 dead72 dead73 dead74 dead75 dead76 dead77 dead78 dead79 dead80 dead81 dead82 dead83 dead84 dead85 dead86 dead87 dead88 dead89 dead90 dead91 dead92 dead93 dead94 dead95 dead96 dead97 dead98 dead99 dead100 dead101 dead102 dead103 dead104 dead105 dead106 dead107 dead108 dead109 dead110 dead111 dead112 dead113 dead114 dead115 dead116 dead117 dead118 dead119 dead120 dead121 dead122 dead123 dead124 dead125 dead126 dead127 dead128 dead129 dead130 dead131 dead132 dead133 dead134 dead135 dead136 dead137 dead138 dead139 dead140 dead141 dead142 dead143 dead144 dead145 dead146 dead147 dead148 dead149 dead150 dead151 dead152 dead153 dead154 dead155 dead156 dead157 dead158 dead159 dead160 dead161 dead162 dead163 dead164 dead165 dead166 dead167 dead168 dead169 dead170 dead171 dead172 dead173 dead174 dead175 dead176 dead177 dead178 dead179 dead180 dead181 dead182 dead183 dead184 dead185 dead186 dead187 dead188 dead189 dead190 dead191 dead192 dead193 dead194 dead195 dead196 dead197 dead198 dead199 dead200 dead201 dead202 dead203 dead204 dead205 dead206 dead207 dead208 dead209 dead210 dead211 dead212 dead213 dead214 dead215 dead216 dead217 dead218 dead219 dead220 dead221 dead222 dead223 dead224 dead225 dead226 dead227 dead228 dead229 dead230 dead231 dead232 dead233 dead234 dead235 dead236 dead237 dead238 dead239 dead240 dead241 dead242 dead243 dead244 dead245 dead246 dead247 dead248 dead249 dead250 dead251 dead252 dead253 dead254 dead255 dead256 dead257
          revert w1 hb1 w2 ar a b hdr hal hbl hb2 harl sXa sXc aa ac ba bc hbAX gX hgX n m wm w3 hb3 w4 hb4 w5 hb5 w6 hb6 w7 hb7 HPP halp hal1 hbl1 hanz hann hane hanf hang hanh HPT vx vy hvxl hvyl w8 aVX cVX hb8 w9 aVY cVY hb9 w10 hb10 hn1 hnb hnd w11 ar2 l t2 hdr2 hll hlj ht2l hb11 hsl sYa sYc la lc t2a t2c hbAY p pk q qk hpl hql w12 aP cP hb12 w13 aQ cQ hb13 u228 w14 hb14 w15 ar3 t3 hdr3 ht3l hb15 sZa sZc t3a t3c hbAZ gt hKC2258 KC2259 hKC2260 KC2261 u22 u31 u44 u45 u46 u47 u48 u49 u50 u51 u52 u53 u54 u55 u56 u57 u58 u59 u60 u61 u62 u63 u64 u65 u66 u67 u68 u69 u70 u71 u72 u73 u74 u75 u76 u77 u78 u79 u80 u81 u82 u83 u84 u85 u86 u87 u88 u89 u90 u91 u92 u93 u94 u95 u96 u97 u98 u99 u100 u101 u102 u103 u104 u105 u106 u107 u108 u109 u110 u111 u112 u113 u114 u115 u116 u117 u118 u119 u120 u121 u122 u123 u124 u125 u126 u127 u128 u129 u130 u131 u132 u133 u134 u135 u136 u137 u138 u139 u140 u141 u142 u143 u144 u145 u146 u147 u148 u149 u150 u151 u152 u153 u154 u155 u156 u157 u158 u159 u160 u161 u162 u163 u164 u165 u166 u167 u168 u169 u170 u171 u172 u173 u174 u175 u176 u177 u178 u179 u180 u181 u182 u183 u184 u185 u186 u187 u188 u189 u190 u191 u192 u193 u194 u195 u196 u197 u198 u199 u200 u201 u202 u203 u204 u205 u206 u207 u208 u209 u210 u211 u212 u213 u214 u215 u216 u217 u218 u219 u220 u221 u222 u223 u224 u225 u226 u227 u229 u230 u231 u232 u233 u234 u235 u236 u237 u238 u239 u240 u241 u242 u243 u244 u245 u246 u247 u248 u249 u250 u251 u252 u253 u254 u255 u256 u257 u258 u259 u260 u261 u262 u263 u264 u265 u266 u267 u268 u269 u270 u271 u272 u273 u274 u275 u276 u277 u278 u279 u280 u281 u282 u283 u284 u285 u286 u287 u288 u289 u290 u291 u292 u293 u294 u295 u296 u297 u298 u299 w16 hb16 hv1 hB hT hs hx hy hbxX
          exact hG.out
end Go.Proofs.YtajmjjandkdhiabDoor
end
section
/- FnOrder: the walk, part C3. -/
namespace Go.Proofs.YtajmjjandkdhiabDoor
open Go.RowKit

set_option maxRecDepth 100000 in
set_option maxHeartbeats 16000000 in
theorem ordC3 (w : World) (hT : Tab w) (n0 n1 : Nat) (ca : Option Addr) (cc : Nat) (ma : Option Addr) (mc : Nat) (hv0 : SlB w.heap.size w (.slice ca n0 cc) n0) (hv1 : SlB w.heap.size w (.slice ma n1 mc) n1) (hbig : n0 ≤ 1048576 ∧ n0 + n1 ≤ 1048576) : (ordC2 w hT n0 n1 ca cc ma mc hv0 hv1 hbig).1 := by
          unfold ordC2
          intro w1 hb1 w2 ar a b hdr hal hbl hb2 harl sXa sXc aa ac ba bc hbAX gX hgX n m wm w3 hb3 w4 hb4 w5 hb5 w6 hb6 w7 hb7 HPP halp hal1 hbl1 hanz hann hane hanf hang hanh HPT vx vy hvxl hvyl w8 aVX cVX hb8 w9 aVY cVY hb9 w10 hb10 hn1 hnb hnd w11 ar2 l t2 hdr2 hll hlj ht2l hb11 hsl sYa sYc la lc t2a t2c hbAY p pk q qk hpl hql w12 aP cP hb12 w13 aQ cQ hb13 u228 w14 hb14 w15 ar3 t3 hdr3 ht3l hb15 sZa sZc t3a t3c hbAZ gt hKC2258 KC2259 hKC2260 KC2261 u22 u31 u44 u45 u46 u47 u48 u49 u50 u51 u52 u53 u54 u55 u56 u57 u58 u59 u60 u61 u62 u63 u64 u65 u66 u67 u68 u69 u70 u71 u72 u73 u74 u75 u76 u77 u78 u79 u80 u81 u82 u83 u84 u85 u86 u87 u88 u89 u90 u91 u92 u93 u94 u95 u96 u97 u98 u99 u100 u101 u102 u103 u104 u105 u106 u107 u108 u109 u110 u111 u112 u113 u114 u115 u116 u117 u118 u119 u120 u121 u122 u123 u124 u125 u126 u127 u128 u129 u130 u131 u132 u133 u134 u135 u136 u137 u138 u139 u140 u141 u142 u143 u144 u145 u146 u147 u148 u149 u150 u151 u152 u153 u154 u155 u156 u157 u158 u159 u160 u161 u162 u163 u164 u165 u166 u167 u168 u169 u170 u171 u172 u173 u174 u175 u176 u177 u178 u179 u180 u181 u182 u183 u184 u185 u186 u187 u188 u189 u190 u191 u192 u193 u194 u195 u196 u197 u198 u199 u200 u201 u202 u203 u204 u205 u206 u207 u208 u209 u210 u211 u212 u213 u214 u215 u216 u217 u218 u219 u220 u221 u222 u223 u224 u225 u226 u227 u229 u230 u231 u232 u233 u234 u235 u236 u237 u238 u239 u240 u241 u242 u243 u244 u245 u246 u247 u248 u249 u250 u251 u252 u253 u254 u255 u256 u257 u258 u259 u260 u261 u262 u263 u264 u265 u266 u267 u268 u269 u270 u271 u272 u273 u274 u275 u276 u277 u278 u279 u280 u281 u282 u283 u284 u285 u286 u287 u288 u289 u290 u291 u292 u293 u294 u295 u296 u297 u298 u299 w16 hb16 hv1 hB hT hs hx hy hbxX
          go_wp2_with fail
          go_region_held3 (fun w' => w'.cell? ⟨gX, 0, none⟩ = some (.slice sXa ar.length sXc))
            (first | exact hbxX | exact hx1 | exact hx2 | fail)
            (first
              | (go_at_call 18; refine (HPT.out y1 _ _ _ _ zz hz0 hz1 (hs.below hc1) (hx.below hc1)).mono ?_; rintro e y2 ⟨aU, mU, cU, rfl, oU, hc2⟩; replace hc2 := hc1.step hc2; have hx2 := hc2.at (World.block_lt_of_cell? _ ⟨_, 0, none⟩ hbxX) hbxX)
              | (go_at_call 16; refine (numberOf_n _ n1 _ _ (by omega) (hv1.belo (Bel.drew0 w16))).mono ?_; rintro e y1 ⟨zz, rfl, hz0, hz1, hc1⟩; replace hc1 := (Bel.drew0 w16).step hc1; have hx1 := hc1.at (World.block_lt_of_cell? _ ⟨_, 0, none⟩ hbxX) hbxX)
              | fail)
          have hPP := HPP.out zz hz0
          replace oU := oU.sl
          have eU := slI_no oU
          subst eU
          clear hx1 hx2 hc1
          replace hv1 := hv1.belo hc2
          replace hB := hB.step hc2
          replace hT := hT.bel hc2
          replace hs := hs.below hc2
          replace hx := hx.below hc2
          replace hy := hy.below hc2
          replace hbxX := hc2.at (World.block_lt_of_cell? _ ⟨_, 0, none⟩ hbxX) hbxX
          clear hc2 HPT HPP
          have hPl := hPP.2.2
          generalize hPt : partAns ar a (zz.tmod (a.length : Int)) = pt at *
          generalize hPc : cmpAns ar a pt = pc at *
          go_wp2_with fail
          refine (iCompareTerms_o hT (by omega) hs (by omega) hx (by omega) oU hPc hPP.1).mono ?_; rintro e w17 ⟨rfl, hb17⟩
          replace hv1 := hv1.belo hb17
          replace hB := hB.step hb17
          replace hT := hT.bel hb17
          replace hs := hs.below hb17
          replace hx := hx.below hb17
          replace hy := hy.below hb17
          replace hbxX := hb17.at (World.block_lt_of_cell? _ ⟨_, 0, none⟩ hbxX) hbxX
          replace oU := oU.below hb17
          rcases hPP.2.1 with rfl | ⟨rfl, rfl⟩
          ·
            clear hPP
            go_wp2_with fail
            go_ret
            exact ⟨rfl, hB⟩
          ·
            clear hPP
            go_wp2_with fail
            refine (sameTerm_same _ _ _ _ _ _ _ _ (by omega) oU hx).mono ?_; rintro e w18 ⟨rfl, hb18⟩
            replace hv1 := hv1.belo hb18
            replace hB := hB.step hb18
            replace hT := hT.bel hb18
            replace hs := hs.below hb18
            replace hx := hx.below hb18
            replace hy := hy.below hb18
            replace hbxX := hb18.at (World.block_lt_of_cell? _ ⟨_, 0, none⟩ hbxX) hbxX
            replace oU := oU.below hb18
            go_wp2_with fail
            go_ret
            exact ⟨rfl, hB⟩
end Go.Proofs.YtajmjjandkdhiabDoor
end
section
/- The door: what the listed table gives, and a world for the witness. -/
namespace Go.Proofs.YtajmjjandkdhiabDoor
open Go.ChangeShapes Go.WideShapes Go.ChangeAt Go.RowKit

theorem tab_of_laid {W : World} (h : laidMetH Tryd.prog [("loop.example/g00682/impl.weights", Rows.laid_loop_example_g00682_impl_weights)] W) : Tab W := by
  have g1 : Tryd.prog.globalNamed "loop.example/g00682/impl.weights" = some 0 := by kernel_rfl
  have g2 : (Tryd.prog.globals[0]?).map (·.type) = some 73 := by kernel_rfl
  have g3 : Tryd.prog.cellsOf 73 = 2 := by kernel_rfl
  have g4 : Tryd.prog.cellsOf 3 = 1 := by kernel_rfl
  have ht : Lib.TabIs Tryd.prog W "loop.example/g00682/impl.weights" .i64 [1, 1] := Lib.tabIs_of_head (rest := []) g1 g2 Tryd.underlying73 Tryd.underlying3 g4 g3 h
  exact ⟨ht.cell g1 0 (by decide), ht.cell g1 1 (by decide)⟩

/-- A world for the witness: the settled one, the table as its text lays it. -/
noncomputable def laidWorld (os : Os) : World :=
  { World.holding Tryd.prog os ⟨#[], #[], []⟩ with heap := (World.holding Tryd.prog os ⟨#[], #[], []⟩).heap.modify 0 fun
      | .cells _ t frozen => .cells #[.int .i64 1, .int .i64 1] t frozen
      | o => o }
theorem laid_met (os : Os) (args : Array Value) : laidMet Tryd.prog [("loop.example/g00682/impl.weights", Rows.laid_loop_example_g00682_impl_weights)] ((laidWorld os).forCall (fun _ _ => 0) ⟨#[], args, []⟩).memory :=
  laidMet_of_run' 8 (by kernel_rfl) (by kernel_rfl)
end Go.Proofs.YtajmjjandkdhiabDoor
end
