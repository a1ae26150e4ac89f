/- Texts merged, part 12. -/
import Derived.Test.YteegjnobmbcjiaaGreatDoorCards
import Derived.Test.YteegjnobmbcjiaaGreatDoorTie
import Derived.OpenVars
import Derived.OpenShut
import Derived.ProofKit
import Derived.Deep.DeepHandedRow
import Derived.Lib.LaidTab
import Derived.Test.YteegjnobmbcjiaaGreatDoorMgMaximal11
section
/- Chapter 4: CompareLits, both sides. -/
namespace Go.Proofs.YteegjnobmbcjiaaGreatDoor
open Go.RowKit

set_option maxRecDepth 100000 in
set_option maxHeartbeats 1000000 in
theorem comparedLits_c (l h l' h' : Nat) (x y : Lt) (u1 u2 q1 q2 : Value) (w : World) (hT : Tab w) (hsx : short (listL x)) (hlx : lowL (listL x)) (hsy : short (listL y)) (hly : lowL (listL y)) (h1 : SlI l h w u1 x.2.1) (h2 : SlI l h w u2 x.2.2) (h3 : SlI l' h' w q1 y.2.1) (h4 : SlI l' h' w q2 y.2.2) :
    Calls Tryz.prog 47 #[.agg #[.bool x.1, u1, u2], .agg #[.bool y.1, q1, q2]] w (RetV w (.int .i64 (cmpL (listL x) (listL y)))) := by
  have HX := Lib.hid (fun (w' : World) (hb : Bel w w') => countedTerms_c l h x u1 u2 w' (h1.below hb) (h2.below hb))
  have HY := Lib.hid (fun (w' : World) (hb : Bel w w') => countedTerms_c l' h' y q1 q2 w' (h3.below hb) (h4.below hb))
  have HM := Lib.hid (fun (w' : World) (z1 z2 : Value) (hb : Bel w w') (g1 : SlS 0 w'.heap.size w' z1 (listL x)) (g2 : SlS 0 w'.heap.size w' z2 (listL y)) => comparedLists_c _ _ _ _ z1 z2 _ _ w' (hT.bel hb) hsx hlx hsy hly g1 g2)
  clear h1 h2 h3 h4
  generalize listL x = X at *
  generalize listL y = Y at *
  generalize x.1 = p at *
  generalize y.1 = q at *
  have HB0 : Bel w ((w.alloc (.cells #[.bool p, u1, u2] 53)).alloc (.cells #[.bool q, q1, q2] 53)).drew := (Bel.alloc2 _ _ _).drew
  have K : Hid (∀ w', Bel ((w.alloc (.cells #[.bool p, u1, u2] 53)).alloc (.cells #[.bool q, q1, q2] 53)).drew w' → (w'.cell? ⟨w.heap.size, 0, none⟩ = some (.bool p) ∧ w'.cell? ⟨w.heap.size, 1, none⟩ = some u1 ∧ w'.cell? ⟨w.heap.size, 2, none⟩ = some u2) ∧ w'.cell? ⟨w.heap.size + 1, 0, none⟩ = some (.bool q) ∧ w'.cell? ⟨w.heap.size + 1, 1, none⟩ = some q1 ∧ w'.cell? ⟨w.heap.size + 1, 2, none⟩ = some q2) := fun w' hb => by
    have hq := hb.of_drew
    exact ⟨⟨hq.at (by simp; omega) (by simp [go_sem]), hq.at (by simp; omega) (by simp [go_sem]), hq.at (by simp; omega) (by simp [go_sem])⟩, hq.at (by simp) (by simp [go_sem]), hq.at (by simp) (by simp [go_sem]), hq.at (by simp) (by simp [go_sem])⟩
  go_enter Tryz.func47, Tryz.ntmps47
  go_wp2_with fail
  go_region_held3 (fun w' => (w'.cell? ⟨w.heap.size, 0, none⟩ = some (.bool p) ∧ w'.cell? ⟨w.heap.size, 1, none⟩ = some u1 ∧ w'.cell? ⟨w.heap.size, 2, none⟩ = some u2) ∧ w'.cell? ⟨w.heap.size + 1, 0, none⟩ = some (.bool q) ∧ w'.cell? ⟨w.heap.size + 1, 1, none⟩ = some q1 ∧ w'.cell? ⟨w.heap.size + 1, 2, none⟩ = some q2)
    (first | exact K.out _ ((g3.step g4).step g5) | exact K.out _ (g3.step g4) | exact K.out _ g3 | exact K.out _ (Bel.rfl' _) | fail)
    (first
      | (go_at_call 84; refine (HM.out _ _ _ HB4 R1 R2).mono ?_; rintro e w5 ⟨rfl, g5⟩)
      | (go_at_call 85; refine (HY.out _ HB3).mono ?_; rintro e w4 ⟨a2, n2, c2, rfl, r2, g4⟩; have HB4 := HB3.step g4; have R1 := (r1.bel g4).sls (g3.step g4); have R2 := r2.sls g4)
      | (go_at_call 85; refine (HX.out _ HB3).mono ?_; rintro e w4 ⟨a1, n1, c1, rfl, r1, g4⟩; have HB4 := HB3.step g4; have R2 := (r2.bel g4).sls (g3.step g4); have R1 := r1.sls g4)
      | (go_at_call 85; refine (HX.out _ HB0).mono ?_; rintro e w3 ⟨a1, n1, c1, rfl, r1, g3⟩; have HB3 := HB0.step g3)
      | (go_at_call 85; refine (HY.out _ HB0).mono ?_; rintro e w3 ⟨a2, n2, c2, rfl, r2, g3⟩; have HB3 := HB0.step g3)
      | fail)
  all_goals
    go_wp2_with fail
    go_ret
    exact ⟨rfl, HB4.step g5⟩

theorem listL_short {ar : List Int} {x : Lt} (h : okLit ar x = true) : short (listL x) := by
  have h1 := listL_low h
  refine ⟨by have := listL_len x; omega, fun j hj => ?_⟩
  have := (okTerm_len (h1 _ (mem_getD _ [] j hj))).2
  omega
theorem listL_lowL {ar : List Int} {x : Lt} (h : okLit ar x = true) : lowL (listL x) := fun j hj => low_memC fun _ hn => ok_low (listL_low h _ (mem_getD _ [] j hj)) hn
theorem litsOk_good (ar : List Int) (x y : Lt) : goodClause ar [x, y] = litsOk ar x y := by simp [goodClause, okLits, litsOk]
/-- Two literals in a block of their own. -/
theorem slc_two {w : World} {x y : Lt} {u1 u2 q1 q2 : Value} {t : TypeId} (g : Nat) (hg : g = w.heap.size) (h1 : SlI 0 w.heap.size w u1 x.2.1) (h2 : SlI 0 w.heap.size w u2 x.2.2) (h3 : SlI 0 w.heap.size w q1 y.2.1) (h4 : SlI 0 w.heap.size w q2 y.2.2) :
    SlC 0 (w.alloc (.cells #[.bool x.1, u1, u2, .bool y.1, q1, q2] t)).heap.size (w.alloc (.cells #[.bool x.1, u1, u2, .bool y.1, q1, q2] t)) (.slice (some ⟨g, 0, none⟩) 2 2) [x, y] := by
  subst hg
  have hb := Bel.alloc0 w (.cells #[.bool x.1, u1, u2, .bool y.1, q1, q2] t)
  have hc : ∀ i v, (#[Value.bool x.1, u1, u2, .bool y.1, q1, q2])[i]? = some v → (w.alloc (.cells #[.bool x.1, u1, u2, .bool y.1, q1, q2] t)).cell? ⟨w.heap.size, i, none⟩ = some v := fun i v h => by rw [World.cell?_alloc_new w]; exact h
  refine ⟨_, 2, rfl, Nat.le_refl _, ⟨by unfold maxLen; omega, fun h => by simp at h⟩, fun _ => ⟨w.heap.size, 0, rfl, Nat.zero_le _, by simp, fun j hj => ?_⟩⟩
  match j, hj with
  | 0, _ => exact ⟨u1, u2, hc 0 _ rfl, hc 1 _ rfl, hc 2 _ rfl, (h1.below hb).mono (Nat.le_refl _) hb.size, (h2.below hb).mono (Nat.le_refl _) hb.size⟩
  | 1, _ => exact ⟨q1, q2, hc 3 _ rfl, hc 4 _ rfl, hc 5 _ rfl, (h3.below hb).mono (Nat.le_refl _) hb.size, (h4.below hb).mono (Nat.le_refl _) hb.size⟩

set_option maxRecDepth 100000 in
set_option maxHeartbeats 1000000 in
theorem iCompareLits_t {l h l' h' l2 h2 : Nat} {v u1 u2 q1 q2 : Value} {ar : List Int} {x y : Lt} {w : World} (hT : Tab w) (ha : ar.length ≤ 1048576) (hv : SlI l h w v ar) (hx : x.2.1.length + x.2.2.length ≤ 1048576) (s1 : SlI l' h' w u1 x.2.1) (s2 : SlI l' h' w u2 x.2.2) (hy : y.2.1.length + y.2.2.length ≤ 1048576) (t1 : SlI l2 h2 w q1 y.2.1) (t2 : SlI l2 h2 w q2 y.2.2) :
    Calls Tryz.prog 22 #[.agg #[v], .agg #[.bool x.1, u1, u2], .agg #[.bool y.1, q1, q2]] w (RetV w (.tuple #[.int .i64 (litsAns ar x y), .bool (litsOk ar x y)])) := by
  have hsh : shortC [x, y] := ⟨by simp, fun j hj => by
    match j, hj with
    | 0, _ => exact ⟨by show x.2.1.length ≤ _; omega, by show x.2.2.length ≤ _; omega⟩
    | 1, _ => exact ⟨by show y.2.1.length ≤ _; omega, by show y.2.2.length ≤ _; omega⟩⟩
  have HB : Bel w (((w.alloc (.cells #[v] 33)).alloc (.cells #[.bool x.1, u1, u2] 53)).alloc (.cells #[.bool y.1, q1, q2] 53)) := Bel.alloc3 _ _ _ _
  have hsl := slc_two (w := ((w.alloc (.cells #[v] 33)).alloc (.cells #[.bool x.1, u1, u2] 53)).alloc (.cells #[.bool y.1, q1, q2] 53)) (t := 53) (w.heap.size + 1 + 1 + 1) (by simp) (s1.below HB).in' (s2.below HB).in' (t1.below HB).in' (t2.below HB).in'
  have hg := fun (q : Bool) (hq : goodClause ar [x, y] = q) => (iGoodClause_sh ha ((hv.below HB).alloc (.cells #[.bool x.1, u1, u2, .bool y.1, q1, q2] 53)) hsh hsl)
  have hgo := litsOk_good ar x y
  unfold litsAns
  cases hq : litsOk ar x y with
  | false =>
    rw [if_neg (by simp)]
    have HG := hg _ rfl
    rw [hgo, hq] at HG
    have HGG := Lib.hid HG
    clear HG hg hgo hq hsl hsh
    go_enter Tryz.func22, Tryz.ntmps22
    go_wp2_with fail
    refine HGG.out.mono ?_; rintro e w1 ⟨rfl, hb1⟩
    go_wp2_with fail
    go_ret2
    exact ⟨rfl, HB.step hb1.of_alloc⟩
  | true =>
    rw [if_pos rfl]
    have HG := hg _ rfl
    rw [hgo, hq] at HG
    have HGG := Lib.hid HG
    simp only [litsOk, Bool.and_eq_true] at hq
    obtain ⟨hgs, okx, oky⟩ := hq
    have HCM := Lib.hid (fun (w' : World) (hb : Bel w w') => comparedLits_c _ _ _ _ x y u1 u2 q1 q2 w' (hT.bel hb) (listL_short okx) (listL_lowL okx) (listL_short oky) (listL_lowL oky) (s1.below hb) (s2.below hb) (t1.below hb) (t2.below hb))
    clear HG hg hgo hsl hsh s1 s2 t1 t2
    have K : Hid (∀ w', Bel (((w.alloc (.cells #[v] 33)).alloc (.cells #[.bool x.1, u1, u2] 53)).alloc (.cells #[.bool y.1, q1, q2] 53)) w' → (w'.cell? ⟨w.heap.size + 1, 0, none⟩ = some (.bool x.1) ∧ w'.cell? ⟨w.heap.size + 1, 1, none⟩ = some u1 ∧ w'.cell? ⟨w.heap.size + 1, 2, none⟩ = some u2) ∧ w'.cell? ⟨w.heap.size + 1 + 1, 0, none⟩ = some (.bool y.1) ∧ w'.cell? ⟨w.heap.size + 1 + 1, 1, none⟩ = some q1 ∧ w'.cell? ⟨w.heap.size + 1 + 1, 2, none⟩ = some q2) := fun w' hb =>
      ⟨⟨hb.at (by simp <;> omega) (by simp [go_sem]), hb.at (by simp <;> omega) (by simp [go_sem]), hb.at (by simp <;> omega) (by simp [go_sem])⟩, hb.at (by simp) (by simp [go_sem]), hb.at (by simp) (by simp [go_sem]), hb.at (by simp) (by simp [go_sem])⟩
    generalize cmpL (listL x) (listL y) = r at *
    generalize x.1 = p at *
    generalize y.1 = q at *
    go_enter Tryz.func22, Tryz.ntmps22
    go_wp2_with fail
    refine HGG.out.mono ?_; rintro e w1 ⟨rfl, hb1⟩
    obtain ⟨⟨x0, x1, x2⟩, y0, y1, y2⟩ := K.out _ hb1.of_alloc
    have HB1 := HB.step hb1.of_alloc
    go_wp2_with fail
    refine (HCM.out _ HB1).mono ?_; rintro e w2 ⟨rfl, hb2⟩
    go_wp2_with fail
    go_ret2
    exact ⟨rfl, HB1.step hb2⟩

set_option maxRecDepth 100000 in
set_option maxHeartbeats 2000000 in
theorem sCompareLits_t {l h l' h' l2 h2 : Nat} {v u1 u2 q1 q2 : Value} {ar : List Int} {x y : Lt} {w : World} (ha : ar.length ≤ 1048576) (hv : SlI l h w v ar) (hx : x.2.1.length + x.2.2.length ≤ 1048576) (s1 : SlI l' h' w u1 x.2.1) (s2 : SlI l' h' w u2 x.2.2) (hy : y.2.1.length + y.2.2.length ≤ 1048576) (t1 : SlI l2 h2 w q1 y.2.1) (t2 : SlI l2 h2 w q2 y.2.2) :
    Calls Tryz.prog 24 #[.agg #[v], .agg #[.bool x.1, u1, u2], .agg #[.bool y.1, q1, q2]] w (RetV w (.tuple #[.int .i64 (litsAns ar x y), .bool (litsOk ar x y)])) := by
  have HB : Bel w (((w.alloc (.cells #[v] 33)).alloc (.cells #[.bool x.1, u1, u2] 53)).alloc (.cells #[.bool y.1, q1, q2] 53)) := Bel.alloc3 _ _ _ _
  have K : Hid (∀ w', Bel (((w.alloc (.cells #[v] 33)).alloc (.cells #[.bool x.1, u1, u2] 53)).alloc (.cells #[.bool y.1, q1, q2] 53)) w' → w'.cell? ⟨w.heap.size, 0, none⟩ = some v ∧ (w'.cell? ⟨w.heap.size + 1, 0, none⟩ = some (.bool x.1) ∧ w'.cell? ⟨w.heap.size + 1, 1, none⟩ = some u1 ∧ w'.cell? ⟨w.heap.size + 1, 2, none⟩ = some u2) ∧ w'.cell? ⟨w.heap.size + 1 + 1, 0, none⟩ = some (.bool y.1) ∧ w'.cell? ⟨w.heap.size + 1 + 1, 1, none⟩ = some q1 ∧ w'.cell? ⟨w.heap.size + 1 + 1, 2, none⟩ = some q2) := fun w' hb =>
    ⟨hb.at (by simp <;> omega) (by simp [go_sem]), ⟨hb.at (by simp <;> omega) (by simp [go_sem]), hb.at (by simp <;> omega) (by simp [go_sem]), hb.at (by simp <;> omega) (by simp [go_sem])⟩, hb.at (by simp) (by simp [go_sem]), hb.at (by simp) (by simp [go_sem]), hb.at (by simp) (by simp [go_sem])⟩
  unfold litsAns litsOk
  cases hgs : goodSign ar with
  | false =>
    rw [Bool.false_and, if_neg (by simp)]
    have HG := Lib.hid (sGoodSign_v l h v ar false _ hgs ha (hv.below HB))
    clear hgs
    generalize x.1 = p at *
    generalize y.1 = q at *
    go_enter Tryz.func24, Tryz.ntmps24
    go_wp2_with fail
    refine HG.out.mono ?_; rintro e w1 ⟨rfl, hb1⟩
    go_wp2_with fail
    go_ret2
    exact ⟨rfl, HB.step hb1⟩
  | true =>
    rw [Bool.true_and]
    have HG := Lib.hid (sGoodSign_v l h v ar true _ hgs ha (hv.below HB))
    have H1 := fun (r : Bool) (hr : okLit ar x = r) (w' : World) (hb : Bel w w') => l4Lit_v l h l' h' v u1 u2 ar x.2.1 x.2.2 x.1 r w' hr hgs (by omega) (by omega) (hv.below hb) (s1.below hb) (s2.below hb)
    have H2 := fun (r : Bool) (hr : okLit ar y = r) (w' : World) (hb : Bel w w') => l4Lit_v l h l2 h2 v q1 q2 ar y.2.1 y.2.2 y.1 r w' hr hgs (by omega) (by omega) (hv.below hb) (t1.below hb) (t2.below hb)
    cases hox : okLit ar x with
    | false =>
      rw [Bool.false_and, if_neg (by simp)]
      have HL1 := Lib.hid (H1 false hox)
      clear H1 H2 hox hgs
      generalize x.1 = p at *
      generalize y.1 = q at *
      go_enter Tryz.func24, Tryz.ntmps24
      go_wp2_with fail
      refine HG.out.mono ?_; rintro e w1 ⟨rfl, hb1⟩
      obtain ⟨z, ⟨x0, x1, x2⟩, y0, y1, y2⟩ := K.out _ hb1
      have HB1 := HB.step hb1
      go_wp2_with fail
      refine (HL1.out _ HB1).mono ?_; rintro e w2 ⟨rfl, hb2⟩
      go_wp2_with fail
      go_ret2
      exact ⟨rfl, HB1.step hb2⟩
    | true =>
      rw [Bool.true_and]
      have HL1 := Lib.hid (H1 true hox)
      cases hoy : okLit ar y with
      | false =>
        rw [if_neg (by simp)]
        have HL2 := Lib.hid (H2 false hoy)
        clear H1 H2 hox hoy hgs
        generalize x.1 = p at *
        generalize y.1 = q at *
        go_enter Tryz.func24, Tryz.ntmps24
        go_wp2_with fail
        refine HG.out.mono ?_; rintro e w1 ⟨rfl, hb1⟩
        obtain ⟨z, ⟨x0, x1, x2⟩, y0, y1, y2⟩ := K.out _ hb1
        have HB1 := HB.step hb1
        go_wp2_with fail
        refine (HL1.out _ HB1).mono ?_; rintro e w2 ⟨rfl, hb2⟩
        obtain ⟨zz, ⟨xx0, xx1, xx2⟩, yy0, yy1, yy2⟩ := K.out _ (hb1.step hb2)
        have HB2 := HB1.step hb2
        go_wp2_with fail
        refine (HL2.out _ HB2).mono ?_; rintro e w3 ⟨rfl, hb3⟩
        go_wp2_with fail
        go_ret2
        exact ⟨rfl, HB2.step hb3⟩
      | true =>
        rw [if_pos rfl]
        have HL2 := Lib.hid (H2 true hoy)
        have HX := Lib.hid (fun (w' : World) (hb : Bel w w') => l4List_c l' h' x u1 u2 w' (s1.below hb) (s2.below hb))
        have HY := Lib.hid (fun (w' : World) (hb : Bel w w') => l4List_c l2 h2 y q1 q2 w' (t1.below hb) (t2.below hb))
        have HM := Lib.hid (fun (w' : World) (z1 z2 : Value) (g1 : SlS 0 w'.heap.size w' z1 (listL x)) (g2 : SlS 0 w'.heap.size w' z2 (listL y)) => l3Lists_c _ _ _ _ z1 z2 _ _ w' (listL_short hox) (listL_lowL hox) (listL_short hoy) (listL_lowL hoy) g1 g2)
        clear H1 H2 hox hoy hgs s1 s2 t1 t2
        generalize cmpL (listL x) (listL y) = r at *
        generalize listL x = X at *
        generalize listL y = Y at *
        generalize x.1 = p at *
        generalize y.1 = q at *
        go_enter Tryz.func24, Tryz.ntmps24
        go_wp2_with fail
        refine HG.out.mono ?_; rintro e w1 ⟨rfl, hb1⟩
        obtain ⟨z, ⟨x0, x1, x2⟩, y0, y1, y2⟩ := K.out _ hb1
        have HB1 := HB.step hb1
        go_wp2_with fail
        refine (HL1.out _ HB1).mono ?_; rintro e w2 ⟨rfl, hb2⟩
        obtain ⟨zz, ⟨xx0, xx1, xx2⟩, yy0, yy1, yy2⟩ := K.out _ (hb1.step hb2)
        have HB2 := HB1.step hb2
        go_wp2_with fail
        refine (HL2.out _ HB2).mono ?_; rintro e w3 ⟨rfl, hb3⟩
        have HB3 := HB2.step hb3
        have K3 := (hb1.step hb2).step hb3
        go_wp2_with fail
        have D3 := Bel.drew0 w3
        have HB0 := HB3.step D3
        have KW := K3.step D3
        go_region_held3 (fun w' => (w'.cell? ⟨w.heap.size + 1, 0, none⟩ = some (.bool p) ∧ w'.cell? ⟨w.heap.size + 1, 1, none⟩ = some u1 ∧ w'.cell? ⟨w.heap.size + 1, 2, none⟩ = some u2) ∧ w'.cell? ⟨w.heap.size + 1 + 1, 0, none⟩ = some (.bool q) ∧ w'.cell? ⟨w.heap.size + 1 + 1, 1, none⟩ = some q1 ∧ w'.cell? ⟨w.heap.size + 1 + 1, 2, none⟩ = some q2)
          (first | exact (K.out _ (KW.step ((g3.step g4).step g5))).2 | exact (K.out _ (KW.step (g3.step g4))).2 | exact (K.out _ (KW.step g3)).2 | exact (K.out _ KW).2 | fail)
          (first
            | (go_at_call 53; refine (HM.out _ _ _ R1 R2).mono ?_; rintro e w6 ⟨rfl, g5⟩)
            | (go_at_call 54; refine (HY.out _ HB4).mono ?_; rintro e w5 ⟨a2, n2, c2, rfl, r2, g4⟩; have HB5 := HB4.step g4; have R1 := (r1.bel g4).sls (g3.step g4); have R2 := r2.sls g4)
            | (go_at_call 54; refine (HX.out _ HB4).mono ?_; rintro e w5 ⟨a1, n1, c1, rfl, r1, g4⟩; have HB5 := HB4.step g4; have R2 := (r2.bel g4).sls (g3.step g4); have R1 := r1.sls g4)
            | (go_at_call 54; refine (HX.out _ HB0).mono ?_; rintro e w4 ⟨a1, n1, c1, rfl, r1, g3⟩; have HB4 := HB0.step g3)
            | (go_at_call 54; refine (HY.out _ HB0).mono ?_; rintro e w4 ⟨a2, n2, c2, rfl, r2, g3⟩; have HB4 := HB0.step g3)
            | fail)
        all_goals
          go_wp2_with fail
          go_ret2
          exact ⟨rfl, HB5.step g5⟩
end Go.Proofs.YteegjnobmbcjiaaGreatDoor
end
section
/- Chapter 4: the ordering of lists is transitive; a clause that has a literal has a maximal one. No program. -/
namespace Go.Proofs.YteegjnobmbcjiaaGreatDoor

theorem cmpL_gt {a b : List (List Int)} : cmpL a b = 1 ↔ minus a b ≠ [] ∧ ∀ y, a.count y < b.count y → ∃ x, above x y = true ∧ b.count x < a.count x := by
  rw [cmpL_one, dom_iff]
  refine and_congr Iff.rfl ⟨fun h y hy => ?_, fun h y hy => ?_⟩
  · obtain ⟨u, hu, k⟩ := h y (minus_mem.2 hy)
    exact ⟨u, k, minus_mem.1 hu⟩
  · obtain ⟨x, k, hx⟩ := h y (minus_mem.1 hy)
    exact ⟨x, minus_mem.2 hx, k⟩
theorem cmpL_irrefl (a : List (List Int)) : cmpL a a ≠ 1 := by
  intro h
  have h1 := (cmpL_flip a a).1.1 h
  omega
theorem cmpL_trans {M N P : List (List Int)} (h1 : cmpL M N = 1) (h2 : cmpL N P = 1) : cmpL M P = 1 := by
  have hNM : cmpL N M ≠ 1 := fun h => by have := (cmpL_flip M N).1.1 h1; omega
  obtain ⟨n1, g1⟩ := cmpL_gt.1 h1
  obtain ⟨n2, g2⟩ := cmpL_gt.1 h2
  have A : ∀ z, M.count z < N.count z → ∃ x, above x z = true ∧ P.count x < M.count x := by
    intro z hz
    obtain ⟨x0, k0, c0⟩ := g1 z hz
    have hne : (minus M N).filter (fun x => above x z) ≠ [] := by
      intro e
      have : x0 ∈ (minus M N).filter (fun x => above x z) := List.mem_filter.2 ⟨minus_mem.2 c0, k0⟩
      rw [e] at this; simp at this
    obtain ⟨m, hm, hmax⟩ := top_of _ hne
    obtain ⟨m1, m2⟩ := List.mem_filter.1 hm
    have m3 := minus_mem.1 m1
    by_cases hP : P.count m < M.count m
    · exact ⟨m, m2, hP⟩
    · obtain ⟨w, kw, cw⟩ := g2 m (by omega)
      by_cases hw : M.count w < N.count w
      · obtain ⟨x, kx, cx⟩ := g1 w hw
        have kxm := above_trans kx kw
        have := hmax x (List.mem_filter.2 ⟨minus_mem.2 cx, above_trans kxm m2⟩)
        rw [kxm] at this; simp at this
      · exact ⟨w, above_trans kw m2, by omega⟩
  have B : ∀ y, M.count y < P.count y → ∃ x, above x y = true ∧ P.count x < M.count x := by
    intro y hy
    by_cases hN : M.count y < N.count y
    · exact A y hN
    · obtain ⟨w, kw, cw⟩ := g2 y (by omega)
      by_cases hw : M.count w < N.count w
      · obtain ⟨x, kx, cx⟩ := A w hw
        exact ⟨x, above_trans kx kw, cx⟩
      · exact ⟨w, kw, by omega⟩
  refine cmpL_gt.2 ⟨fun e => ?_, B⟩
  have e0 : ∀ t, M.count t ≤ P.count t := fun t => by
    have := (nil_iff.1 e) t
    rw [minus_mem] at this; omega
  have e1 : ∀ t, P.count t = M.count t := fun t => by
    by_cases hlt : M.count t < P.count t
    · obtain ⟨x, _, cx⟩ := B t hlt
      have := e0 x; omega
    · have := e0 t; omega
  refine hNM (cmpL_gt.2 ⟨fun en => n2 (nil_iff.2 fun t ht => ?_), fun y hy => ?_⟩)
  · rw [minus_mem, e1] at ht
    exact (nil_iff.1 en) t (minus_mem.2 ht)
  · obtain ⟨x, kx, cx⟩ := g2 y (by rw [e1]; exact hy)
    exact ⟨x, kx, by rw [← e1]; exact cx⟩

theorem top_L (c : List Lt) (h : c ≠ []) : ∃ m ∈ c, ∀ x ∈ c, cmpL (listL x) (listL m) ≠ 1 := by
  induction c with
  | nil => exact absurd rfl h
  | cons y l ih =>
    by_cases hl : l = []
    · subst hl
      exact ⟨y, List.mem_cons_self, fun x hx => by simp at hx; subst hx; exact cmpL_irrefl _⟩
    · obtain ⟨m, hm, hmax⟩ := ih hl
      by_cases hy : cmpL (listL y) (listL m) = 1
      · refine ⟨y, List.mem_cons_self, fun x hx => ?_⟩
        rcases List.mem_cons.1 hx with rfl | hx
        · exact cmpL_irrefl _
        · intro hxy
          exact hmax x hx (cmpL_trans hxy hy)
      · exact ⟨m, List.mem_cons_of_mem _ hm, fun x hx => by rcases List.mem_cons.1 hx with rfl | hx; exact hy; exact hmax x hx⟩
theorem maxC_mem {c : List Lt} {k : Nat} : k ∈ maxC c ↔ k < c.length ∧ ∀ i, i < c.length → i = k ∨ cmpL (listL (c.getD i lt0)) (listL (c.getD k lt0)) ≠ 1 := by
  unfold maxC
  rw [List.mem_filter, List.mem_range]
  refine and_congr Iff.rfl ?_
  unfold maxAt
  simp only [List.all_eq_true, List.mem_range, Bool.or_eq_true, decide_eq_true_eq, Bool.not_eq_true', decide_eq_false_iff_not, ne_eq]
theorem maxC_ne {c : List Lt} (h : c ≠ []) : maxC c ≠ [] := by
  obtain ⟨m, hm, hmax⟩ := top_L c h
  obtain ⟨k, hk, rfl⟩ := List.getElem_of_mem hm
  intro e
  have : k ∈ maxC c := maxC_mem.2 ⟨hk, fun i hi => .inr (by
    have := hmax c[i] (List.getElem_mem hi)
    simpa [List.getD, hi, hk] using this)⟩
  rw [e] at this; simp at this
end Go.Proofs.YteegjnobmbcjiaaGreatDoor
end
section
/- Chapter 4, the reference: the maximal literals. -/
namespace Go.Proofs.YteegjnobmbcjiaaGreatDoor
open Go.RowKit

def maxTo (c : List Lt) (k m : Nat) : Prop := ∀ j, j < m → j = k ∨ cmpL (listL (c.getD j lt0)) (listL (c.getD k lt0)) ≠ 1
theorem maxTo.step {c : List Lt} {k m : Nat} (h : maxTo c k m) (hm : m = k ∨ cmpL (listL (c.getD m lt0)) (listL (c.getD k lt0)) ≠ 1) : maxTo c k (m+1) := fun j hj => by
  by_cases e : j = m
  · subst e; exact hm
  · exact h j (by omega)
theorem maxAt_true {c : List Lt} {k : Nat} (h : maxTo c k c.length) : maxAt c k = true := by
  unfold maxAt
  simp only [List.all_eq_true, List.mem_range, Bool.or_eq_true, decide_eq_true_eq, Bool.not_eq_true', decide_eq_false_iff_not]
  exact h
theorem maxAt_false {c : List Lt} {k m : Nat} (hm : m < c.length) (h : m ≠ k) (h1 : cmpL (listL (c.getD m lt0)) (listL (c.getD k lt0)) = 1) : maxAt c k = false := by
  rw [← Bool.not_eq_true]
  intro h2
  unfold maxAt at h2
  simp only [List.all_eq_true, List.mem_range, Bool.or_eq_true, decide_eq_true_eq, Bool.not_eq_true', decide_eq_false_iff_not] at h2
  rcases h2 m hm with e | e
  · exact h e
  · exact e h1
def lowC (c : List Lt) : Prop := ∀ j, j < c.length → short (listL (c.getD j lt0)) ∧ lowL (listL (c.getD j lt0))

set_option maxRecDepth 100000 in
set_option maxHeartbeats 1000000 in
theorem l4Maximal_c (l h : Nat) (v : Value) (c : List Lt) (k : Nat) (w : World) (hx : shortC c) (hk : k < c.length) (hok : lowC c) (hu : SlC l h w v c) :
    Calls Tryz.prog 46 #[v, .int .i64 k] w (RetV w (.bool (maxAt c k))) := by
  obtain ⟨ad, cap, rfl⟩ := hu.form
  obtain ⟨hxl, hxj⟩ := hx
  have hkI : (k : Int) < c.length := by omega
  go_enter Tryz.func46, Tryz.ntmps46
  go_wp2_with fail
  go_loopw [9] (fun i wr => ∃ m : Nat, m ≤ c.length ∧ i = .int .i64 m ∧ maxTo c k m ∧ Bel w wr) (fun i _ => c.length - (intOf i).toNat)
  case atStart => exact ⟨0, Nat.zero_le _, rfl, fun j hj => absurd hj (by omega), Bel.rfl' _⟩
  case round =>
    obtain ⟨m, hm, rfl, hto, hb⟩ := hrel
    by_cases hlt : m < c.length
    · obtain ⟨b, off, u1, u2, rfl, hbs, c1, c2, c3, s1, s2⟩ := hu.at hb m hlt
      obtain ⟨b', off', q1, q2, e', hbs', d1, d2, d3, t1, t2⟩ := hu.at hb k hk
      cases e'
      have hstep := hto.step
      have hbad := maxAt_false (k := k) hlt
      obtain ⟨k1, k2⟩ := hok m hlt
      obtain ⟨k3, k4⟩ := hok k hk
      have hmI : (m : Int) < c.length := by omega
      clear hto hu hok hxj
      by_cases hmk : m = k
      · subst hmk
        have E := Lib.hid (hstep (.inl rfl))
        clear hstep hbad k1 k2 k3 k4 t1 t2 d1 d2 d3 hbs'
        generalize c.getD m lt0 = x at *
        obtain ⟨p, xl, xr⟩ := x
        simp only at *
        obtain ⟨a1, e1, rfl⟩ := s1.form
        obtain ⟨a2, e2, rfl⟩ := s2.form
        clear s1 s2
        have hne : (BEq.beq (m : Int) (m : Int)) = true := by simp
        go_wp2_with fail
        go_region
        go_wp2_with fail
        go_roundw
        case rel => exact ⟨m+1, by omega, by go_num, E.out, (hb.alloc _).drew⟩
        case measure => simp [intOf]; omega
      · have hbne : ((m : Int) != (k : Int)) = true := bne_iff_ne.2 (by omega)
        have HX := Lib.hid (fun (w' : World) (hb' : Bel wr w') => l4List_c _ _ (c.getD m lt0) u1 u2 w' (s1.below hb') (s2.below hb'))
        have HY := Lib.hid (fun (w' : World) (hb' : Bel wr w') => l4List_c _ _ (c.getD k lt0) q1 q2 w' (t1.below hb') (t2.below hb'))
        have HM := Lib.hid (fun (w' : World) (z1 z2 : Value) (g1 : SlS 0 w'.heap.size w' z1 (listL (c.getD m lt0))) (g2 : SlS 0 w'.heap.size w' z2 (listL (c.getD k lt0))) => l3Lists_c _ _ _ _ z1 z2 _ _ w' k1 k2 k3 k4 g1 g2)
        have HK := Lib.hid (fun (w' : World) (hb' : Bel wr w') => (⟨hb'.at (Nat.lt_of_lt_of_le hbs' hb.size) d1, hb'.at (Nat.lt_of_lt_of_le hbs' hb.size) d2, hb'.at (Nat.lt_of_lt_of_le hbs' hb.size) d3⟩ : w'.cell? ⟨b, off + k * 3, none⟩ = some (.bool (c.getD k lt0).1) ∧ w'.cell? ⟨b, off + k * 3 + 1, none⟩ = some q1 ∧ w'.cell? ⟨b, off + k * 3 + 2, none⟩ = some q2))
        obtain ⟨a1, e1, f1⟩ := s1.form
        obtain ⟨a2, e2, f2⟩ := s2.form
        obtain ⟨a3, e3, f3⟩ := t1.form
        obtain ⟨a4, e4, f4⟩ := t2.form
        have hstep' := fun h => hstep (.inr h)
        have hbad' := hbad hmk
        clear hstep hbad k1 k2 k3 k4 s1 s2 t1 t2 hmk
        generalize c.getD m lt0 = x at *
        generalize c.getD k lt0 = y at *
        obtain ⟨p, xl, xr⟩ := x
        obtain ⟨q, yl, yr⟩ := y
        simp only at *
        subst f1 f2 f3 f4
        have D3 := Bel.drew0 (wr.alloc (.cells #[.bool p, .slice a1 xl.length e1, .slice a2 xr.length e2] 53))
        have HB0 := (Bel.alloc0 wr (.cells #[.bool p, .slice a1 xl.length e1, .slice a2 xr.length e2] 53)).step D3
        have KB : Hid (∀ w', Bel (wr.alloc (.cells #[.bool p, .slice a1 xl.length e1, .slice a2 xr.length e2] 53)) w' → w'.cell? ⟨wr.heap.size, 0, none⟩ = some (.bool p) ∧ w'.cell? ⟨wr.heap.size, 1, none⟩ = some (.slice a1 xl.length e1) ∧ w'.cell? ⟨wr.heap.size, 2, none⟩ = some (.slice a2 xr.length e2)) := Lib.hid fun w' hb' => ⟨hb'.at (by simp) (by simp [go_sem]), hb'.at (by simp) (by simp [go_sem]), hb'.at (by simp) (by simp [go_sem])⟩
        generalize listL (p, xl, xr) = X at *
        generalize listL (q, yl, yr) = Y at *
        by_cases hr : cmpL X Y = 1
        · have E := Lib.hid (hbad' hr)
          clear hstep' hbad'
          generalize cmpL X Y = r at *
          subst hr
          go_wp2_with fail
          go_region_held3 (fun w' => (w'.cell? ⟨wr.heap.size, 0, none⟩ = some (.bool p) ∧ w'.cell? ⟨wr.heap.size, 1, none⟩ = some (.slice a1 xl.length e1) ∧ w'.cell? ⟨wr.heap.size, 2, none⟩ = some (.slice a2 xr.length e2)) ∧ w'.cell? ⟨b, off + k * 3, none⟩ = some (.bool q) ∧ w'.cell? ⟨b, off + k * 3 + 1, none⟩ = some (.slice a3 yl.length e3) ∧ w'.cell? ⟨b, off + k * 3 + 2, none⟩ = some (.slice a4 yr.length e4))
            (first | exact ⟨KB.out _ (D3.step ((g3.step g4).step g5)), HK.out _ (HB0.step ((g3.step g4).step g5))⟩ | exact ⟨KB.out _ (D3.step (g3.step g4)), HK.out _ (HB0.step (g3.step g4))⟩ | exact ⟨KB.out _ (D3.step g3), HK.out _ (HB0.step g3)⟩ | exact ⟨KB.out _ D3, HK.out _ HB0⟩ | fail)
            (first
              | (go_at_call 53; refine (HM.out _ _ _ R1 R2).mono ?_; rintro e w6 ⟨rfl, g5⟩)
              | (go_at_call 54; refine (HY.out _ HB4).mono ?_; rintro e w5 ⟨z2, n2, o2, rfl, r2, g4⟩; have HB5 := HB4.step g4; have R1 := (r1.bel g4).sls (g3.step g4); have R2 := r2.sls g4)
              | (go_at_call 54; refine (HX.out _ HB4).mono ?_; rintro e w5 ⟨z1, n1, o1, rfl, r1, g4⟩; have HB5 := HB4.step g4; have R2 := (r2.bel g4).sls (g3.step g4); have R1 := r1.sls g4)
              | (go_at_call 54; refine (HX.out _ HB0).mono ?_; rintro e w4 ⟨z1, n1, o1, rfl, r1, g3⟩; have HB4 := HB0.step g3)
              | (go_at_call 54; refine (HY.out _ HB0).mono ?_; rintro e w4 ⟨z2, n2, o2, rfl, r2, g3⟩; have HB4 := HB0.step g3)
              | fail)
          all_goals
            go_wp2_with fail
            go_ret
            exact ⟨by rw [E.out]; rfl, hb.step (HB5.step g5)⟩
        · have E := Lib.hid (hstep' hr)
          clear hstep' hbad'
          generalize cmpL X Y = r at *
          go_wp2_with fail
          go_region_held3 (fun w' => (w'.cell? ⟨wr.heap.size, 0, none⟩ = some (.bool p) ∧ w'.cell? ⟨wr.heap.size, 1, none⟩ = some (.slice a1 xl.length e1) ∧ w'.cell? ⟨wr.heap.size, 2, none⟩ = some (.slice a2 xr.length e2)) ∧ w'.cell? ⟨b, off + k * 3, none⟩ = some (.bool q) ∧ w'.cell? ⟨b, off + k * 3 + 1, none⟩ = some (.slice a3 yl.length e3) ∧ w'.cell? ⟨b, off + k * 3 + 2, none⟩ = some (.slice a4 yr.length e4))
            (first | exact ⟨KB.out _ (D3.step ((g3.step g4).step g5)), HK.out _ (HB0.step ((g3.step g4).step g5))⟩ | exact ⟨KB.out _ (D3.step (g3.step g4)), HK.out _ (HB0.step (g3.step g4))⟩ | exact ⟨KB.out _ (D3.step g3), HK.out _ (HB0.step g3)⟩ | exact ⟨KB.out _ D3, HK.out _ HB0⟩ | fail)
            (first
              | (go_at_call 53; refine (HM.out _ _ _ R1 R2).mono ?_; rintro e w6 ⟨rfl, g5⟩)
              | (go_at_call 54; refine (HY.out _ HB4).mono ?_; rintro e w5 ⟨z2, n2, o2, rfl, r2, g4⟩; have HB5 := HB4.step g4; have R1 := (r1.bel g4).sls (g3.step g4); have R2 := r2.sls g4)
              | (go_at_call 54; refine (HX.out _ HB4).mono ?_; rintro e w5 ⟨z1, n1, o1, rfl, r1, g4⟩; have HB5 := HB4.step g4; have R2 := (r2.bel g4).sls (g3.step g4); have R1 := r1.sls g4)
              | (go_at_call 54; refine (HX.out _ HB0).mono ?_; rintro e w4 ⟨z1, n1, o1, rfl, r1, g3⟩; have HB4 := HB0.step g3)
              | (go_at_call 54; refine (HY.out _ HB0).mono ?_; rintro e w4 ⟨z2, n2, o2, rfl, r2, g3⟩; have HB4 := HB0.step g3)
              | fail)
          all_goals
            go_wp2_with fail
            go_roundw
          case rel => exact ⟨m+1, by omega, by go_num, E.out, hb.step (HB5.step g5)⟩
          case measure => simp [intOf]; omega
    · obtain rfl : m = c.length := by omega
      have E := Lib.hid (maxAt_true hto)
      clear hto
      go_wp2_with fail
      go_ret
      exact ⟨by rw [E.out]; rfl, hb⟩
end Go.Proofs.YteegjnobmbcjiaaGreatDoor
end
section
/- Chapter 4, the reference: MaximalIn. -/
namespace Go.Proofs.YteegjnobmbcjiaaGreatDoor
open Go.RowKit

def maxUp (c : List Lt) (m : Nat) : List Nat := (List.range m).filter (maxAt c)
theorem maxUp_yes {c : List Lt} {m : Nat} (h : maxAt c m = true) : maxUp c (m+1) = maxUp c m ++ [m] := by unfold maxUp; rw [List.range_succ, List.filter_append]; simp [h]
theorem maxUp_no {c : List Lt} {m : Nat} (h : maxAt c m = false) : maxUp c (m+1) = maxUp c m := by unfold maxUp; rw [List.range_succ, List.filter_append]; simp [h]
theorem maxUp_len (c : List Lt) (m : Nat) : (maxUp c m).length ≤ m := by unfold maxUp; exact Nat.le_trans (List.length_filter_le _ _) (by simp)
theorem okLits_low {ar : List Int} {c : List Lt} (h : okLits ar c = true) : lowC c := fun j hj => by
  have : okLit ar (c.getD j lt0) = true := by
    exact (okLits_iff.1 h).2 _ (mem_getD c lt0 j hj)
  exact ⟨listL_short this, listL_lowL this⟩
/-- What MaximalIn answers. -/
def maxAns (ar : List Int) (c : List Lt) : List Int := if goodClause ar c then natsI (maxC c) else []

theorem l4Maximal_v (l h : Nat) (v : Value) (c : List Lt) (k : Nat) (q : Bool) (w : World) (hq : maxAt c k = q) (hx : shortC c) (hk : k < c.length) (hok : lowC c) (hu : SlC l h w v c) :
    Calls Tryz.prog 46 #[v, .int .i64 k] w (RetV w (.bool q)) := by subst hq; exact l4Maximal_c l h v c k w hx hk hok hu

set_option maxRecDepth 100000 in
set_option maxHeartbeats 1000000 in
theorem sMaximalIn_t {l h l' h' : Nat} {v u : Value} {ar : List Int} {c : List Lt} {w : World} (ha : ar.length ≤ 1048576) (hv : SlI l h w v ar) (hc : sumC c ≤ 1048576) (hu : SlC l' h' w u c) :
    Calls Tryz.prog 20 #[.agg #[v], u] w (RetIB w (maxAns ar c) (goodClause ar c)) := by
  obtain ⟨i0, hi0, hz0, hz1, hz2⟩ := info_parts Tryz.info3
  unfold maxAns
  cases hg : goodClause ar c with
  | false =>
    rw [if_neg (by simp)]
    have HG := Lib.hid hg; clear hg
    go_enter Tryz.func20, Tryz.ntmps20
    go_wp2_with fail
    refine (sGoodClause_v HG.out ha (hv.alloc _) hc (hu.alloc _)).mono ?_; rintro e w1 ⟨rfl, hb1⟩
    go_wp2_with fail
    go_ret2
    exact ⟨_, _, _, rfl, OwnI.nil _ _ _, hb1.of_alloc⟩
  | true =>
    rw [if_pos rfl]
    have hsh := shortC_of_sum hc
    have hlow : lowC c := by unfold goodClause at hg; exact okLits_low (Bool.and_eq_true_iff.1 hg).2
    have HG := Lib.hid hg; clear hg
    have hxl : c.length ≤ 1048576 := hsh.1
    obtain ⟨ad, cap, rfl⟩ := hu.form
    have HS := Lib.hid hsh
    clear hsh
    go_enter Tryz.func20, Tryz.ntmps20
    go_wp2_with fail
    refine (sGoodClause_v HG.out ha (hv.alloc _) hc (hu.alloc _)).mono ?_; rintro e w1 ⟨rfl, hb1⟩
    have hb0 := hb1
    go_wp2_with fail
    go_loopw [6, 14] (fun vs i wr => ∃ m : Nat, m ≤ c.length ∧ i = .int .i64 m ∧ wr.ownsRow (w.heap.size + 1) 3 1 vs (natsI (maxUp c m)).length ((natsI (maxUp c m)).map (Value.int .i64)) ∧ Bel (w.alloc (.cells #[v] 33)) wr) (fun _ i _ => c.length - (intOf i).toNat)
    case atStart => exact ⟨0, Nat.zero_le _, rfl, World.ownsRow_nil _ _ _ _, hb1⟩
    case round =>
      obtain ⟨m, hm, rfl, hown, hb⟩ := hrel
      by_cases hlt : m < c.length
      · have hyes := maxUp_yes (c := c) (m := m)
        have hno := maxUp_no (c := c) (m := m)
        have HC := fun (q : Bool) (hq : maxAt c m = q) => l4Maximal_v _ _ _ c m q wr hq HS.out hlt hlow (hu.below hb.of_alloc)
        have hal : (natsI (maxUp c m)).length ≤ 1048576 := by rw [natsI_len]; have := maxUp_len c m; omega
        cases hq : maxAt c m with
        | false =>
          have HCC := Lib.hid (HC _ hq)
          have E := Lib.hid (hno hq)
          clear hyes hno HC hq
          go_wp2_with fail
          refine HCC.out.mono ?_; rintro e w2 ⟨rfl, hb2⟩
          have hown2 := ownsRow_bel hown hb2
          go_wp2_with fail
          go_roundw
          case rel => exact ⟨m+1, by omega, by go_num, by rw [E.out]; exact hown2, hb.step hb2⟩
          case measure => simp [intOf]; omega
        | true =>
          have HCC := Lib.hid (HC _ hq)
          have E : Hid (natsI (maxUp c (m+1)) = natsI (maxUp c m) ++ [(m : Int)]) := Lib.hid (by rw [hyes hq, natsI_snoc])
          clear hyes hno HC hq
          go_wp2_with fail
          refine HCC.out.mono ?_; rintro e w2 ⟨rfl, hb2⟩
          have hown2 := ownsRow_bel hown hb2
          have hb3 := hb.step hb2
          clear hown hb hb2
          generalize natsI (maxUp c m) = xs at *
          go_wp2_with (at_builtin; refine wpList_append_own _ rfl _ _ 22 rfl (w.heap.size + 1) 3 i0 (.int .i64 0) 1 8 Tryz.underlying22 hi0 hz0 hz1 hz2 rfl (by decide) _ _ _ rfl (hown2.alloc _) ⟨w2.heap.size, 0, none⟩ 1 1 [.int .i64 m] rfl rfl (news_one _ _ _) (one_int _) (by unfold maxLen; omega) (by omega) (by have := hb3.size; simp at *; omega) ?_; intro v' w3 hown' hgrow _)
          have hown3 := row_snoc hown'
          rw [← E.out] at hown3
          exact ⟨⟨m+1, by omega, by go_num, hown3, (hb3.alloc (.cells #[.int .i64 m] 3)).grown hgrow (fun k hk => by have := own_base hown2 k hk; simp; omega)⟩, by simp [intOf]; omega⟩
      · obtain rfl : m = c.length := by omega
        go_wp2_with fail
        obtain ⟨g, n, o, hv'⟩ := own_form hown
        subst hv'
        go_ret2
        exact ⟨_, _, _, rfl, (OwnI.of_row hown).mono (by omega) (Nat.le_refl _), hb.of_alloc⟩
end Go.Proofs.YteegjnobmbcjiaaGreatDoor
end
section
/- Chapter 4, the program: MaximalIn. -/
namespace Go.Proofs.YteegjnobmbcjiaaGreatDoor
open Go.RowKit

theorem anyF_take {f : Lt → Bool} {c : List Lt} {k : Nat} (hk : k < c.length) (hn : (c.take k).any f = false) : (c.take (k+1)).any f = f (c.getD k lt0) := by
  rw [List.take_add_one, List.any_append, hn, List.getElem?_eq_getElem hk]; simp [List.getD, hk]
theorem anyF_yes {f : Lt → Bool} {c : List Lt} {k : Nat} (hk : k < c.length) (h : f (c.getD k lt0) = true) : c.any f = true := List.any_eq_true.2 ⟨_, mem_getD c lt0 k hk, h⟩
theorem anyF_end {f : Lt → Bool} {c : List Lt} {k : Nat} (hk : ¬ k < c.length) (hn : (c.take k).any f = false) : c.any f = false := by rw [List.take_of_length_le (by omega)] at hn; exact hn
def overF (Y : List (List Int)) (u : Lt) : Bool := decide (cmpL (listL u) Y = 1)
theorem over_max {c : List Lt} {k : Nat} : c.any (overF (listL (c.getD k lt0))) = !maxAt c k := by
  cases h : maxAt c k with
  | true =>
    unfold maxAt at h
    simp only [List.all_eq_true, List.mem_range, Bool.or_eq_true, decide_eq_true_eq, Bool.not_eq_true', decide_eq_false_iff_not] at h
    refine (Bool.eq_false_iff.2 fun h2 => ?_)
    obtain ⟨x, hx, hc⟩ := List.any_eq_true.1 h2
    obtain ⟨i, hi, rfl⟩ := List.getElem_of_mem hx
    have hc : cmpL (listL c[i]) (listL (c.getD k lt0)) = 1 := of_decide_eq_true hc
    rcases h i hi with e | e
    · subst e
      have : c.getD i lt0 = c[i] := by simp [List.getD, hi]
      rw [this] at hc
      exact cmpL_irrefl _ hc
    · have : c.getD i lt0 = c[i] := by simp [List.getD, hi]
      rw [this] at e
      exact e hc
  | false =>
    show _ = true
    cases h2 : c.any (overF (listL (c.getD k lt0))) with
    | true => rfl
    | false =>
      have h3 : maxAt c k = true := by
        unfold maxAt
        simp only [List.all_eq_true, List.mem_range, Bool.or_eq_true, decide_eq_true_eq, Bool.not_eq_true', decide_eq_false_iff_not]
        refine fun i hi => .inr fun h4 => ?_
        have := List.any_eq_false.1 h2 _ (mem_getD c lt0 i hi)
        exact this (decide_eq_true h4)
      rw [h] at h3
      cases h3

set_option maxRecDepth 100000 in
set_option maxHeartbeats 400000 in
theorem overFn_c (l h l' h' g g2 k : Nat) (x : Lt) (c : List Lt) (u1 u2 vc : Value) (q : Bool) (w : World) (he : overF (listL (c.getD k lt0)) x = q) (hT : Tab w) (hsx : short (listL x)) (hlx : lowL (listL x)) (hsy : short (listL (c.getD k lt0))) (hly : lowL (listL (c.getD k lt0))) (hk : k < c.length) (h1 : SlI l h w u1 x.2.1) (h2 : SlI l h w u2 x.2.2) (hv : SlC l' h' w vc c)
    (hc1 : w.cell? ⟨g, 0, none⟩ = some vc) (hc2 : w.cell? ⟨g2, 0, none⟩ = some (.int .i64 k)) :
    Calls Tryz.prog 82 #[.agg #[.bool x.1, u1, u2], .pointer (some ⟨g, 0, none⟩), .pointer (some ⟨g2, 0, none⟩)] w (RetV w (.bool q)) := by
  obtain ⟨ad, cap, rfl⟩ := hv.form
  obtain ⟨b, off, q1, q2, rfl, hbs, d1, d2, d3, t1, t2⟩ := hv.at (Bel.rfl' w) k hk
  have hgl := World.block_lt_of_cell? w ⟨g, 0, none⟩ hc1
  have hgl2 := World.block_lt_of_cell? w ⟨g2, 0, none⟩ hc2
  have hkI : (k : Int) < c.length := by omega
  have HC := Lib.hid (fun (w' : World) (hb : Bel w w') => comparedLits_c _ _ _ _ x (c.getD k lt0) u1 u2 q1 q2 w' (hT.bel hb) hsx hlx hsy hly (h1.below hb) (h2.below hb) (t1.below hb) (t2.below hb))
  have HE := Lib.hid he
  clear he hv hsx hlx hsy hly
  unfold overF at HE
  generalize cmpL (listL x) (listL (c.getD k lt0)) = r at *
  generalize c.getD k lt0 = y at *
  obtain ⟨px, xl, xr⟩ := x
  obtain ⟨py, yl, yr⟩ := y
  simp only at *
  obtain ⟨a1, e1, rfl⟩ := h1.form
  obtain ⟨a2, e2, rfl⟩ := h2.form
  obtain ⟨a3, e3, rfl⟩ := t1.form
  obtain ⟨a4, e4, rfl⟩ := t2.form
  clear h1 h2 t1 t2
  have B0 := (Bel.alloc0 w (.cells #[.bool px, .slice a1 xl.length e1, .slice a2 xr.length e2] 53)).drew
  have f0 : (w.alloc (.cells #[.bool px, .slice a1 xl.length e1, .slice a2 xr.length e2] 53)).drew.cell? ⟨w.heap.size, 0, none⟩ = some (.bool px) := boxc ((Bel.rfl' _).drew) 0 _ rfl
  have f1 : (w.alloc (.cells #[.bool px, .slice a1 xl.length e1, .slice a2 xr.length e2] 53)).drew.cell? ⟨w.heap.size, 1, none⟩ = some (.slice a1 xl.length e1) := boxc ((Bel.rfl' _).drew) 1 _ rfl
  have f2 : (w.alloc (.cells #[.bool px, .slice a1 xl.length e1, .slice a2 xr.length e2] 53)).drew.cell? ⟨w.heap.size, 2, none⟩ = some (.slice a2 xr.length e2) := boxc ((Bel.rfl' _).drew) 2 _ rfl
  have f3 := B0.at hgl hc1
  have f4 := B0.at hgl2 hc2
  have f5 := B0.at hbs d1
  have f6 := B0.at hbs d2
  have f7 := B0.at hbs d3
  have HF := Lib.hid (fun (w' : World) (hb : Bel (w.alloc (.cells #[.bool px, .slice a1 xl.length e1, .slice a2 xr.length e2] 53)).drew w') => (⟨hb.at (World.block_lt_of_cell? _ ⟨_, _, none⟩ f0) f0, hb.at (World.block_lt_of_cell? _ ⟨_, _, none⟩ f1) f1, hb.at (World.block_lt_of_cell? _ ⟨_, _, none⟩ f2) f2, hb.at (World.block_lt_of_cell? _ ⟨_, _, none⟩ f3) f3, hb.at (World.block_lt_of_cell? _ ⟨_, _, none⟩ f4) f4, hb.at (World.block_lt_of_cell? _ ⟨_, _, none⟩ f5) f5, hb.at (World.block_lt_of_cell? _ ⟨_, _, none⟩ f6) f6, hb.at (World.block_lt_of_cell? _ ⟨_, _, none⟩ f7) f7⟩ : (w'.cell? ⟨w.heap.size, 0, none⟩ = some (.bool px) ∧ w'.cell? ⟨w.heap.size, 1, none⟩ = some (.slice a1 xl.length e1) ∧ w'.cell? ⟨w.heap.size, 2, none⟩ = some (.slice a2 xr.length e2) ∧ w'.cell? ⟨g, 0, none⟩ = some (.slice (some ⟨b, off, none⟩) c.length cap) ∧ w'.cell? ⟨g2, 0, none⟩ = some (.int .i64 k) ∧ w'.cell? ⟨b, off + k * 3, none⟩ = some (.bool py) ∧ w'.cell? ⟨b, off + k * 3 + 1, none⟩ = some (.slice a3 yl.length e3) ∧ w'.cell? ⟨b, off + k * 3 + 2, none⟩ = some (.slice a4 yr.length e4))))
  clear d1 d2 d3 hc1 hc2 f0 f1 f2 f3 f4 f5 f6 f7
  go_enter Tryz.func82, Tryz.ntmps82
  go_wp2_with fail
  go_region_held3 (fun w' => w'.cell? ⟨w.heap.size, 0, none⟩ = some (.bool px) ∧ w'.cell? ⟨w.heap.size, 1, none⟩ = some (.slice a1 xl.length e1) ∧ w'.cell? ⟨w.heap.size, 2, none⟩ = some (.slice a2 xr.length e2) ∧ w'.cell? ⟨g, 0, none⟩ = some (.slice (some ⟨b, off, none⟩) c.length cap) ∧ w'.cell? ⟨g2, 0, none⟩ = some (.int .i64 k) ∧ w'.cell? ⟨b, off + k * 3, none⟩ = some (.bool py) ∧ w'.cell? ⟨b, off + k * 3 + 1, none⟩ = some (.slice a3 yl.length e3) ∧ w'.cell? ⟨b, off + k * 3 + 2, none⟩ = some (.slice a4 yr.length e4))
    (first | exact HF.out _ (Bel.rfl' _) | exact HF.out _ hb1 | fail)
    (first | (go_at_call 47; refine (HC.out _ B0).mono ?_; rintro e w1 ⟨rfl, hb1⟩) | fail)
  all_goals
    go_wp2_with fail
    go_ret
    exact ⟨by rw [← HE.out]; simp [Bool.beq_eq_decide_eq], B0.step hb1⟩

set_option maxRecDepth 100000 in
set_option maxHeartbeats 400000 in
theorem indexLit_c (l h l' h' g g2 n : Nat) (v vc : Value) (c d : List Lt) (w : World) (hT : Tab w) (hx : shortC c) (hok : lowC c) (hn : n < d.length) (hsy : short (listL (d.getD n lt0))) (hly : lowL (listL (d.getD n lt0))) (hd : SlC l' h' w vc d)
    (hc1 : w.cell? ⟨g, 0, none⟩ = some vc) (hc2 : w.cell? ⟨g2, 0, none⟩ = some (.int .i64 n)) (hv : SlC l h w v c) :
    Calls Tryz.prog 123 #[v, .func (.func 82) #[] #[.pointer (some ⟨g, 0, none⟩), .pointer (some ⟨g2, 0, none⟩)]] w (RetIx w (c.any (overF (listL (d.getD n lt0))))) := by
  have eg : ∀ args w, (callFunc 82 args).run Tryz.prog w = .ok (.enter 82 args) w := enters_of Tryz.func82 (by kernel_rfl) rfl
  obtain ⟨ad, cap, rfl⟩ := hv.form
  obtain ⟨hcl, hcm⟩ := hx
  have hgl := World.block_lt_of_cell? w ⟨g, 0, none⟩ hc1
  have hgl2 := World.block_lt_of_cell? w ⟨g2, 0, none⟩ hc2
  have HDF := Lib.hid (fun (wr : World) (k : Nat) (u1 u2 : Value) (q : Bool) (hb : Bel w wr) (hk : k < c.length) (he : overF (listL (d.getD n lt0)) (c.getD k lt0) = q) (s1 : SlI l h wr u1 (c.getD k lt0).2.1) (s2 : SlI l h wr u2 (c.getD k lt0).2.2) => overFn_c _ _ _ _ g g2 n (c.getD k lt0) d u1 u2 vc q wr he (hT.bel hb) (hok k hk).1 (hok k hk).2 hsy hly hn s1 s2 (hd.below hb) (hb.at hgl hc1) (hb.at hgl2 hc2))
  clear hsy hly hn hd hc1 hc2 hok hT
  generalize overF (listL (d.getD n lt0)) = G at *
  go_enter Tryz.func123, Tryz.ntmps123
  go_wp2_with fail
  go_loopw [8] (fun i wr => ∃ k : Nat, k ≤ c.length ∧ i = .int .i64 k ∧ (c.take k).any G = false ∧ Bel w wr) (fun i _ => c.length - (intOf i).toNat)
  case atStart => exact ⟨0, Nat.zero_le _, rfl, rfl, Bel.rfl' _⟩
  case round =>
    obtain ⟨k, hk, rfl, hnn, hb⟩ := hrel
    by_cases hkl : k < c.length
    · obtain ⟨bb, off, u1, u2, rfl, hbs, c1, c2, c3, s1, s2⟩ := hv.at hb k hkl
      have HD := fun (q : Bool) (he : G (c.getD k lt0) = q) => HDF.out wr k u1 u2 q hb hkl he s1 s2
      have HN := Lib.hid (And.intro (anyF_take hkl hnn) (fun h => anyF_yes (f := G) hkl h))
      clear hnn hv hcm HDF
      generalize c.getD k lt0 = x at *
      obtain ⟨p, xl, xr⟩ := x
      simp only at *
      obtain ⟨a1, e1, rfl⟩ := s1.form
      obtain ⟨a2, e2, rfl⟩ := s2.form
      clear s1 s2
      cases hab : G (p, xl, xr) with
      | true =>
        have HDD := Lib.hid (HD _ hab)
        have E := Lib.hid (HN.out.2 hab)
        clear HN hab HD
        go_wp2_with (go_at_fn 82; refine HDD.out.mono ?_; rintro e w2 ⟨rfl, hb2⟩)
        go_ret
        exact ⟨_, rfl, by rw [E.out]; simp, hb.step hb2⟩
      | false =>
        have HDD := Lib.hid (HD _ hab)
        have E := Lib.hid (HN.out.1.trans hab)
        clear HN hab HD
        go_wp2_with (go_at_fn 82; refine HDD.out.mono ?_; rintro e w2 ⟨rfl, hb2⟩)
        go_roundw
        case rel => exact ⟨k+1, by omega, by go_num, E.out, hb.step hb2⟩
        case measure => simp [intOf]; omega
    · have E := Lib.hid (anyF_end hkl hnn)
      clear hnn
      go_wp2_with fail
      go_ret
      exact ⟨_, rfl, by rw [E.out]; rfl, hb⟩
theorem containsLit_c (l h l' h' g g2 n : Nat) (v vc : Value) (c d : List Lt) (q : Bool) (w : World) (he : c.any (overF (listL (d.getD n lt0))) = q) (hT : Tab w) (hx : shortC c) (hok : lowC c) (hn : n < d.length) (hsy : short (listL (d.getD n lt0))) (hly : lowL (listL (d.getD n lt0))) (hd : SlC l' h' w vc d)
    (hc1 : w.cell? ⟨g, 0, none⟩ = some vc) (hc2 : w.cell? ⟨g2, 0, none⟩ = some (.int .i64 n)) (hv : SlC l h w v c) :
    Calls Tryz.prog 83 #[v, .func (.func 82) #[] #[.pointer (some ⟨g, 0, none⟩), .pointer (some ⟨g2, 0, none⟩)]] w (RetV w (.bool q)) := by
  have HI := Lib.hid (indexLit_c l h l' h' g g2 n v vc c d w hT hx hok hn hsy hly hd hc1 hc2 hv)
  rw [he] at HI
  obtain ⟨ad, cap, rfl⟩ := hv.form
  clear he
  go_enter Tryz.func83, Tryz.ntmps83
  go_wp2_with fail
  refine HI.out.mono ?_; rintro e w1 ⟨x, rfl, hx, hb1⟩
  go_wp2_with fail
  go_ret
  subst hx
  exact ⟨rfl, hb1⟩

set_option maxRecDepth 100000 in
set_option maxHeartbeats 400000 in
theorem isMaximal_c (l h : Nat) (v : Value) (c : List Lt) (n : Nat) (w : World) (hT : Tab w) (hx : shortC c) (hok : lowC c) (hn : n < c.length) (hu : SlC l h w v c) :
    Calls Tryz.prog 45 #[v, .int .i64 n] w (RetV w (.bool (maxAt c n))) := by
  have hmf : ∀ (fn : Fn) (first cap : Array Value) (w : World), (Instr.makeFunc fn first cap).run Tryz.prog w = .ok (.func fn first cap) w := fun _ _ _ _ => rfl
  obtain ⟨ad, cap, rfl⟩ := hu.form
  obtain ⟨k1, k2⟩ := hok n hn
  have HC := Lib.hid (fun (w' : World) (hb' : Bel w w') (g1 : w'.cell? ⟨w.heap.size, 0, none⟩ = some (.slice ad c.length cap)) (g2 : w'.cell? ⟨w.heap.size + 1, 0, none⟩ = some (.int .i64 n)) => containsLit_c _ _ _ _ w.heap.size (w.heap.size + 1) n (.slice ad c.length cap) (.slice ad c.length cap) c c (!maxAt c n) w' over_max (hT.bel hb') hx hok hn k1 k2 (hu.below hb') g1 g2 (hu.below hb'))
  have hs := Bel.alloc2 w (.cells #[.slice ad c.length cap] 30) (.cells #[.int .i64 n] 3)
  have g1 : ((w.alloc (.cells #[.slice ad c.length cap] 30)).alloc (.cells #[.int .i64 n] 3)).cell? ⟨w.heap.size, 0, none⟩ = some (.slice ad c.length cap) := boxc (Bel.alloc0 _ _) 0 _ rfl
  have g2 : ((w.alloc (.cells #[.slice ad c.length cap] 30)).alloc (.cells #[.int .i64 n] 3)).cell? ⟨w.heap.size + 1, 0, none⟩ = some (.int .i64 n) := by
    have := boxc (Bel.rfl' ((w.alloc (.cells #[.slice ad c.length cap] 30)).alloc (.cells #[.int .i64 n] 3))) 0 _ rfl
    rw [World.size_alloc] at this
    exact this
  have HCC := Lib.hid (HC.out _ hs g1 g2)
  clear HC hu hx hok k1 k2
  generalize maxAt c n = q at *
  go_enter Tryz.func45, Tryz.ntmps45
  go_wp2_with fail
  refine HCC.out.mono ?_; rintro e w1 ⟨rfl, hb1⟩
  go_wp2_with fail
  go_ret
  exact ⟨by simp, hs.step hb1⟩
theorem isMaximal_v (l h : Nat) (v : Value) (c : List Lt) (n : Nat) (q : Bool) (w : World) (hq : maxAt c n = q) (hT : Tab w) (hx : shortC c) (hok : lowC c) (hn : n < c.length) (hu : SlC l h w v c) :
    Calls Tryz.prog 45 #[v, .int .i64 n] w (RetV w (.bool q)) := by subst hq; exact isMaximal_c l h v c n w hT hx hok hn hu
end Go.Proofs.YteegjnobmbcjiaaGreatDoor
end
section
/- Chapter 4, the program: MaximalIn, the whole. -/
namespace Go.Proofs.YteegjnobmbcjiaaGreatDoor
open Go.RowKit

set_option maxRecDepth 100000 in
set_option maxHeartbeats 1000000 in
theorem iMaximalIn_t {l h l' h' : Nat} {v u : Value} {ar : List Int} {c : List Lt} {w : World} (hT : Tab w) (ha : ar.length ≤ 1048576) (hv : SlI l h w v ar) (hc : sumC c ≤ 1048576) (hu : SlC l' h' w u c) :
    Calls Tryz.prog 19 #[.agg #[v], u] w (RetIB w (maxAns ar c) (goodClause ar c)) := by
  obtain ⟨i0, hi0, hz0, hz1, hz2⟩ := info_parts Tryz.info3
  unfold maxAns
  cases hg : goodClause ar c with
  | false =>
    rw [if_neg (by simp)]
    have HG := Lib.hid hg; clear hg
    go_enter Tryz.func19, Tryz.ntmps19
    go_wp2_with fail
    refine (iGoodClause_v HG.out ha (hv.alloc _) hc (hu.alloc _)).mono ?_; rintro e w1 ⟨rfl, hb1⟩
    go_wp2_with fail
    go_ret2
    exact ⟨_, _, _, rfl, OwnI.nil _ _ _, hb1.of_alloc⟩
  | true =>
    rw [if_pos rfl]
    have hsh := shortC_of_sum hc
    have hlow : lowC c := by unfold goodClause at hg; exact okLits_low (Bool.and_eq_true_iff.1 hg).2
    have HG := Lib.hid hg; clear hg
    have hxl : c.length ≤ 1048576 := hsh.1
    obtain ⟨ad, cap, rfl⟩ := hu.form
    have HS := Lib.hid hsh
    clear hsh
    go_enter Tryz.func19, Tryz.ntmps19
    go_wp2_with fail
    refine (iGoodClause_v HG.out ha (hv.alloc _) hc (hu.alloc _)).mono ?_; rintro e w1 ⟨rfl, hb1⟩
    have hb0 := hb1
    go_wp2_with fail
    go_loopw [6, 14] (fun vs i wr => ∃ m : Nat, m ≤ c.length ∧ i = .int .i64 m ∧ wr.ownsRow (w.heap.size + 1) 3 1 vs (natsI (maxUp c m)).length ((natsI (maxUp c m)).map (Value.int .i64)) ∧ Bel (w.alloc (.cells #[v] 33)) wr) (fun _ i _ => c.length - (intOf i).toNat)
    case atStart => exact ⟨0, Nat.zero_le _, rfl, World.ownsRow_nil _ _ _ _, hb1⟩
    case round =>
      obtain ⟨m, hm, rfl, hown, hb⟩ := hrel
      by_cases hlt : m < c.length
      · have hyes := maxUp_yes (c := c) (m := m)
        have hno := maxUp_no (c := c) (m := m)
        have HC := fun (q : Bool) (hq : maxAt c m = q) => isMaximal_v _ _ _ c m q wr hq (hT.bel hb.of_alloc) HS.out hlow hlt (hu.below hb.of_alloc)
        have hal : (natsI (maxUp c m)).length ≤ 1048576 := by rw [natsI_len]; have := maxUp_len c m; omega
        cases hq : maxAt c m with
        | false =>
          have HCC := Lib.hid (HC _ hq)
          have E := Lib.hid (hno hq)
          clear hyes hno HC hq
          go_wp2_with fail
          refine HCC.out.mono ?_; rintro e w2 ⟨rfl, hb2⟩
          have hown2 := ownsRow_bel hown hb2
          go_wp2_with fail
          go_roundw
          case rel => exact ⟨m+1, by omega, by go_num, by rw [E.out]; exact hown2, hb.step hb2⟩
          case measure => simp [intOf]; omega
        | true =>
          have HCC := Lib.hid (HC _ hq)
          have E : Hid (natsI (maxUp c (m+1)) = natsI (maxUp c m) ++ [(m : Int)]) := Lib.hid (by rw [hyes hq, natsI_snoc])
          clear hyes hno HC hq
          go_wp2_with fail
          refine HCC.out.mono ?_; rintro e w2 ⟨rfl, hb2⟩
          have hown2 := ownsRow_bel hown hb2
          have hb3 := hb.step hb2
          clear hown hb hb2
          generalize natsI (maxUp c m) = xs at *
          go_wp2_with (at_builtin; refine wpList_append_own _ rfl _ _ 22 rfl (w.heap.size + 1) 3 i0 (.int .i64 0) 1 8 Tryz.underlying22 hi0 hz0 hz1 hz2 rfl (by decide) _ _ _ rfl (hown2.alloc _) ⟨w2.heap.size, 0, none⟩ 1 1 [.int .i64 m] rfl rfl (news_one _ _ _) (one_int _) (by unfold maxLen; omega) (by omega) (by have := hb3.size; simp at *; omega) ?_; intro v' w3 hown' hgrow _)
          have hown3 := row_snoc hown'
          rw [← E.out] at hown3
          exact ⟨⟨m+1, by omega, by go_num, hown3, (hb3.alloc (.cells #[.int .i64 m] 3)).grown hgrow (fun k hk => by have := own_base hown2 k hk; simp; omega)⟩, by simp [intOf]; omega⟩
      · obtain rfl : m = c.length := by omega
        go_wp2_with fail
        obtain ⟨g, n, o, hv'⟩ := own_form hown
        subst hv'
        go_ret2
        exact ⟨_, _, _, rfl, (OwnI.of_row hown).mono (by omega) (Nat.le_refl _), hb.of_alloc⟩
theorem maxAns_len (ar : List Int) (c : List Lt) : (maxAns ar c).length ≤ 1048576 := by
  unfold maxAns
  split
  · rename_i h
    rw [natsI_len]
    have h1 : (maxC c).length ≤ c.length := maxUp_len c c.length
    unfold goodClause at h
    have := (okLits_iff.1 (Bool.and_eq_true_iff.1 h).2).1
    omega
  · exact Nat.zero_le _
end Go.Proofs.YteegjnobmbcjiaaGreatDoor
end
section
/- Chapter 4, the program: changedClause, over a function value. -/
namespace Go.Proofs.YteegjnobmbcjiaaGreatDoor
open Go.RowKit

set_option maxRecDepth 100000 in
set_option maxHeartbeats 1000000 in
theorem changedA_c (l h : Nat) (v : Value) (g : Nat) (c : List Lt) (w : World) (F : List Int → List Int) (okF : List Int → Bool) (hx : c.length ≤ 1048576) (hv : SlC l h w v c)
    (hF : ∀ t, t ∈ flatC c → ∀ lo hi x w', Bel w w' → SlI lo hi w' x t → Calls Tryz.prog 97 #[x, .pointer (some ⟨g, 0, none⟩)] w' (RetIB w' (if okF t then F t else []) (okF t))) (q : Bool) (r : List Lt) (hq : (flatC c).all okF = q) (hr : (if q then zipC c ((flatC c).map F) else []) = r) :
    Calls Tryz.prog 96 #[v, .func (.func 97) #[] #[.pointer (some ⟨g, 0, none⟩)]] w (RetCB w r q) := by
  have eg : ∀ args w, (callFunc 97 args).run Tryz.prog w = .ok (.enter 97 args) w := enters_of Tryz.func97 (by kernel_rfl) rfl
  obtain ⟨i1, hi1, hy0, hy1, hy2⟩ := info_parts Tryz.info22
  obtain ⟨ad, cap, rfl⟩ := hv.form
  have HQ := Lib.hid hq
  have HR := Lib.hid hr
  have HF := Lib.hid hF
  clear hq hr hF
  go_enter Tryz.func96, Tryz.ntmps96
  go_wp2_with fail
  refine (termsIn_c l h _ c _ hx hv).mono ?_; rintro e w1 ⟨a1, n1, c1, rfl, hrow, hb1⟩
  have hs := hrow.sls hb1
  have hfl := flatC_len c
  have hn1 : n1 = (flatC c).length := by obtain ⟨_, _, e⟩ := hs.form; simp only [Value.slice.injEq] at e; exact e.2.1
  subst hn1
  have HFL : Hid ((flatC c).length = 2 * c.length) := hfl
  have hl2 : (flatC c).length ≤ 2097152 := by omega
  have HV1 := hv.below hb1
  clear hfl hrow hv
  generalize flatC c = L at *
  go_wp2_with fail
  go_loopw [6, 14] (fun o i wr => ∃ k : Nat, k ≤ L.length ∧ i = .int .i64 k ∧ RowO w1.heap.size wr o ((L.take k).map F) ∧ (∀ t ∈ L.take k, okF t = true) ∧ Bel w1 wr) (fun _ i _ => L.length - (intOf i).toNat)
  case atStart => exact ⟨0, Nat.zero_le _, rfl, RowO.nil _ _, fun t h => by simp at h, Bel.rfl' _⟩
  case round =>
    obtain ⟨k, hk, rfl, hro, hall, hb⟩ := hrel
    by_cases hlt : k < L.length
    · obtain ⟨b1, o1, u1, rfl, hbs, c1, s1⟩ := hs.at hb k hlt
      have HTK : Hid (L.take (k+1) = L.take k ++ [L.getD k []]) := by show _ = _; rw [List.take_succ_eq_append_getElem hlt]; simp [List.getD, hlt]
      have hmem := mem_getD L [] k hlt
      have hin1 : (k : Int) < L.length := by omega
      generalize L.getD k [] = t at *
      have HC := HF.out t hmem _ _ u1 wr (hb1.step hb) s1
      obtain ⟨x1, y1, rfl⟩ := s1.form
      cases hok : okF t with
      | false =>
        rw [hok, if_neg (by simp)] at HC
        have HCC := Lib.hid HC
        have hqf : q = false := by
          rw [← HQ.out]; rw [List.all_eq_false]; exact ⟨t, hmem, by simp [hok]⟩
        subst hqf
        have hr0 : r = [] := by rw [← HR.out]; rfl
        subst hr0
        clear hs HC s1 hro hall
        go_wp2_with fail
        refine HCC.out.mono ?_; rintro e w2 ⟨a2, n2, c2, rfl, ho2, hb2⟩
        go_wp2_with fail
        go_ret2
        exact ⟨_, _, _, rfl, OwnC.nil _ _ _, (hb1.step hb).step hb2⟩
      | true =>
        rw [hok, if_pos rfl] at HC
        have HCC := Lib.hid HC
        have HAL := Lib.hid hall
        have HRO := Lib.hid hro
        have HOK := Lib.hid hok
        have hbz := hb.size
        clear hs HC s1 hro hall hok hmem
        go_wp2_with fail
        refine HCC.out.mono ?_; rintro e w2 ⟨a2, n2, c2, rfl, ho2, hb2⟩
        have hAl := Bel.alloc0 w2 (.cells #[.slice a2 n2 c2] 22)
        obtain ⟨us, hown, hul, hnext⟩ := HRO.out.step hb2 hAl ho2 hbz
        have hkl : us.length = k := by rw [hul]; simp; omega
        have HN := Lib.hid hnext
        clear hnext
        go_wp2_with (at_builtin; refine wpList_append_own_at _ rfl _ _ 56 rfl w1.heap.size 22 i1 (.slice none 0 0) 1 24 Tryz.underlying56 hi1 hy0 hy1 hy2 rfl (by decide) _ _ _ rfl hown _ _ _ [.slice a2 n2 c2] rfl rfl (news_oneV _ _ _) (one_slice _ _ _) (by unfold maxLen; omega) (by omega) (by have := hb2.size; simp; omega) ?_; intro v' w4 hown' hgrow _ hat)
        have hR4 := HN.out w4 v' hown' hgrow hat
        have hB4 := ((hb.step hb2).step hAl).grown hgrow (fun x hx => own_base hown x hx)
        go_roundw
        case rel =>
          refine ⟨k+1, by omega, by go_num, by rw [HTK.out, List.map_append]; exact hR4, fun t' h => ?_, hB4⟩
          rw [HTK.out] at h
          rcases List.mem_append.1 h with h | h
          · exact HAL.out t' h
          · simp at h; subst h; exact HOK.out
        case measure => simp [intOf]; omega
    · have ek : L.take k = L := List.take_of_length_le (by omega)
      rw [ek] at hro hall
      have hqt : q = true := by rw [← HQ.out, List.all_eq_true]; exact hall
      subst hqt
      have hr1 : zipC c (L.map F) = r := HR.out
      subst hr1
      obtain ⟨a5, c5, e5⟩ := hro.form
      rw [List.length_map] at e5
      subst e5
      have hin1 : ¬ (k : Int) < L.length := by omega
      have hw := withTerms_c _ _ _ _ _ _ c (L.map F) wr hx (by rw [List.length_map]; exact HFL.out) hb.size (Nat.le_refl _) (HV1.below hb) hro.own
      have HW := Lib.hid hw
      clear hs hro hall hw HV1
      go_wp2_with fail
      refine HW.out.mono ?_; rintro e w2 ⟨a2, n2, c2, rfl, ho2, hb2⟩
      go_wp2_with fail
      go_ret2
      exact ⟨_, _, _, rfl, ho2.mono hb1.size (Nat.le_refl _), (hb1.step hb).step hb2⟩

end Go.Proofs.YteegjnobmbcjiaaGreatDoor
end
section
/- Chapter 4, the program: ApplyClause (over changedClause and a function value). -/
namespace Go.Proofs.YteegjnobmbcjiaaGreatDoor
open Go.RowKit

theorem app40_if (b : List (List Int)) (t : List Int) : app40 b t = if app40ok b t then appT b t else [] := by
  by_cases h : 40 < (appT b t).length
  · rw [(app40_no h).1, (app40_no h).2]; rfl
  · rw [(app40_yes h).1, (app40_yes h).2]; rfl

set_option maxRecDepth 100000 in
set_option maxHeartbeats 400000 in
theorem appliedFn_c (g l h l' h' : Nat) (v u : Value) (b : List (List Int)) (t : List Int) (w : World) (hlen : b.length = 12) (hb : lens40 b) (ht : t.length ≤ 1024) (hlow : ∀ k, k < t.length → -12 ≤ t.getD k 0) (hc : w.cell? ⟨g, 0, none⟩ = some u) (hu : SlS l' h' w u b) (hv : SlI l h w v t) :
    Calls Tryz.prog 97 #[v, .pointer (some ⟨g, 0, none⟩)] w (RetIB w (app40 b t) (app40ok b t)) := by
  have HC := Lib.hid (applied_c l h l' h' v u b t w hlen hb ht hlow hu hv)
  obtain ⟨ad, cap, rfl⟩ := hv.form
  obtain ⟨au, cu, rfl⟩ := hu.form
  clear hlen hb ht hlow hu hv
  generalize app40 b t = r at *
  generalize app40ok b t = q at *
  go_enter Tryz.func97, Tryz.ntmps97
  go_wp2_with fail
  refine HC.out.mono ?_; rintro e w1 ⟨a1, n1, c1, rfl, ho1, hb1⟩
  go_wp2_with fail
  go_ret2
  exact ⟨_, _, _, rfl, ho1, hb1⟩

set_option maxRecDepth 100000 in
set_option maxHeartbeats 400000 in
theorem appliedClause_c (l h l' h' : Nat) (v u : Value) (b : List (List Int)) (c : List Lt) (w : World) (hlen : b.length = 12) (hb40 : lens40 b) (hx : c.length ≤ 1048576) (ht : ∀ t ∈ flatC c, t.length ≤ 1024 ∧ ∀ k, k < t.length → -12 ≤ t.getD k 0) (hu : SlS l' h' w u b) (hv : SlC l h w v c) (q : Bool) (r : List Lt) (hq : (flatC c).all (app40ok b) = q) (hr : (if q then applyC b c else []) = r) :
    Calls Tryz.prog 58 #[u, v] w (RetCB w r q) := by
  have hmf : ∀ (fn : Fn) (first cap : Array Value) (w : World), (Instr.makeFunc fn first cap).run Tryz.prog w = .ok (.func fn first cap) w := fun _ _ _ _ => rfl
  obtain ⟨ad, cap, rfl⟩ := hv.form
  obtain ⟨au, cu, rfl⟩ := hu.form
  have hA := Bel.alloc0 w (.cells #[.slice au b.length cu] 56)
  have hbox := boxc (Bel.rfl' (w.alloc (.cells #[.slice au b.length cu] 56))) 0 _ rfl
  have hz : zipC c ((flatC c).map (appT b)) = applyC b c := by rw [zipC_map]; rfl
  have HC := Lib.hid (changedA_c l h (.slice ad c.length cap) w.heap.size c _ (appT b) (app40ok b) hx (hv.below hA)
    (fun t hm lo hi x w' hbb hs => by
      rw [← app40_if]
      exact appliedFn_c _ _ _ _ _ _ _ b t w' hlen hb40 (ht t hm).1 (ht t hm).2 (hbb.at (World.block_lt_of_cell? _ ⟨_, _, none⟩ hbox) hbox) (hu.below (hA.step hbb)) hs) q r hq (by rw [hz]; exact hr))
  clear hlen hb40 ht hu hv hq hr hz hbox
  go_enter Tryz.func58, Tryz.ntmps58
  go_wp2_with fail
  refine HC.out.mono ?_; rintro e w1 ⟨a1, n1, c1, rfl, ho1, hb1⟩
  go_wp2_with fail
  go_ret2
  exact ⟨_, _, _, rfl, ho1.mono hA.size (Nat.le_refl _), hA.step hb1⟩
end Go.Proofs.YteegjnobmbcjiaaGreatDoor
end
section
/- Chapter 4: ApplyClause, both sides. -/
namespace Go.Proofs.YteegjnobmbcjiaaGreatDoor
open Go.RowKit

theorem l4Clause_v (l h l' h' : Nat) (v u : Value) (ar : List Int) (c : List Lt) (q : Bool) (w : World) (he : okLits ar c = q) (hg : goodSign ar = true) (hx : shortC c) (hv : SlI l h w v ar) (hu : SlC l' h' w u c) :
    Calls Tryz.prog 60 #[.agg #[v], u] w (RetV w (.bool q)) := by subst he; exact l4Clause_c l h l' h' v u ar c w hg hx hv hu

set_option maxRecDepth 100000 in
set_option maxHeartbeats 400000 in
theorem l4Made_c (l h lo hi : Nat) (v u : Value) (ar : List Int) (c : List Lt) (w : World) (hg : goodSign ar = true) (hx : shortC c) (hv : SlI l h w v ar) (hu : OwnC lo hi w u c) :
    Calls Tryz.prog 61 #[.agg #[v], u] w (fun e w' => ∃ ad n k, e = .returned (.tuple #[.slice ad n k, .bool (okLits ar c)]) ∧ OwnC lo hi w' (.slice ad n k) (if okLits ar c then c else []) ∧ Bel w w') := by
  cases hq : okLits ar c with
  | false =>
    rw [if_neg (by simp)]
    have HQ := Lib.hid hq; clear hq
    have hul := hu.sl
    go_enter Tryz.func61, Tryz.ntmps61
    go_wp2_with fail
    refine (l4Clause_v _ _ _ _ _ _ ar c false _ HQ.out hg hx (hv.alloc _) (hul.alloc _)).mono ?_; rintro e w1 ⟨rfl, hb1⟩
    go_wp2_with fail
    go_ret2
    exact ⟨_, _, _, rfl, OwnC.nil _ _ _, hb1.of_alloc⟩
  | true =>
    rw [if_pos rfl]
    have HQ := Lib.hid hq; clear hq
    have HU := Lib.hid hu
    have hul := hu.sl
    clear hu
    obtain ⟨au, cu, rfl⟩ := hul.form
    go_enter Tryz.func61, Tryz.ntmps61
    go_wp2_with fail
    refine (l4Clause_v _ _ _ _ _ _ ar c true _ HQ.out hg hx (hv.alloc _) (hul.alloc _)).mono ?_; rintro e w1 ⟨rfl, hb1⟩
    go_wp2_with fail
    go_ret2
    exact ⟨_, _, _, rfl, HU.out.below hb1.of_alloc, hb1.of_alloc⟩

theorem flat_rows {ar : List Int} {c : List Lt} (h : okLits ar c = true) : ∀ t ∈ flatC c, t.length ≤ 1024 ∧ ∀ k, k < t.length → -12 ≤ t.getD k 0 := fun t ht => by
  have := flat_ok (okLits_iff.1 h).2 ht
  exact ⟨by have := (okTerm_len this).2; omega, low_memC fun _ hn => ok_low this hn⟩
theorem applyC_short {ar : List Int} {b : List (List Int)} {c : List Lt} (hb : lens40 b) (hc : okLits ar c = true) : shortC (applyC b c) := by
  obtain ⟨h8, hok⟩ := okLits_iff.1 hc
  refine ⟨by simp [applyC]; omega, fun j hj => ?_⟩
  have hj' : j < c.length := by simpa [applyC] using hj
  obtain ⟨o1, o2⟩ := okLits_get hok j hj'
  have l1 := appT_len hb (c.getD j lt0).2.1
  have l2 := appT_len hb (c.getD j lt0).2.2
  have k1 := (okTerm_len o1).2
  have k2 := (okTerm_len o2).2
  have e : (applyC b c).getD j lt0 = ((c.getD j lt0).1, appT b (c.getD j lt0).2.1, appT b (c.getD j lt0).2.2) := by simp [applyC, List.getD, hj']
  rw [e]
  exact ⟨by show (appT b _).length ≤ _; omega, by show (appT b _).length ≤ _; omega⟩

set_option maxRecDepth 100000 in
set_option maxHeartbeats 1000000 in
theorem sApplyClause_t {l h l' h' l2 h2 : Nat} {v u x : Value} {ar : List Int} {b : List (List Int)} {c : List Lt} {w : World} (ha : ar.length ≤ 1048576) (hv : SlI l h w v ar) (hb : short b) (hu : SlS l' h' w u b) (hc : sumC c ≤ 1048576) (hx : SlC l2 h2 w x c) :
    Calls Tryz.prog 27 #[.agg #[v], u, x] w (RetCB w (applyCAns ar b c) (applyCok ar b c)) := by
  unfold applyCAns applyCok
  cases hs : goodSubst ar b with
  | false =>
    rw [Bool.false_and, Bool.false_and, if_neg (by simp)]
    have HS := Lib.hid hs; clear hs
    go_enter Tryz.func27, Tryz.ntmps27
    go_wp2_with fail
    refine (sGoodSubst_v _ _ _ _ _ _ ar b false _ HS.out ha (hv.alloc _) hb (hu.alloc _)).mono ?_; rintro e w1 ⟨rfl, hb1⟩
    go_wp2_with fail
    go_ret2
    exact ⟨_, _, _, rfl, OwnC.nil _ _ _, hb1.of_alloc⟩
  | true =>
    rw [Bool.true_and]
    have hg := (goodSubst_iff.1 hs).1
    have hl12 := (goodSubst_iff.1 hs).2.1
    have h40 := goodSubst_len40 hs
    have HS := Lib.hid hs; clear hs
    cases hq : okLits ar c with
    | false =>
      rw [Bool.false_and, if_neg (by simp)]
      have HQ := Lib.hid hq; clear hq hl12
      have hsc := shortC_of_sum hc
      go_enter Tryz.func27, Tryz.ntmps27
      go_wp2_with fail
      refine (sGoodSubst_v _ _ _ _ _ _ ar b true _ HS.out ha (hv.alloc _) hb (hu.alloc _)).mono ?_; rintro e w1 ⟨rfl, hb1⟩
      have hbox := boxc hb1 0 _ rfl
      go_wp2_with fail
      refine (l4Clause_v _ _ _ _ _ _ ar c false _ HQ.out hg hsc (hv.below hb1.of_alloc) (hx.below hb1.of_alloc)).mono ?_; rintro e w2 ⟨rfl, hb2⟩
      go_wp2_with fail
      go_ret2
      exact ⟨_, _, _, rfl, OwnC.nil _ _ _, hb1.of_alloc.step hb2⟩
    | true =>
      rw [Bool.true_and]
      have hsa := applyC_short h40 hq
      have hfr := flat_rows hq
      have hsc := shortC_of_sum hc
      have HA := Lib.hid (fun (w' : World) (hb' : Bel w w') => l4Apply_c _ _ _ _ _ _ b c w' hl12 h40 hsc.1 hfr (hu.below hb') (hx.below hb'))
      have HM := Lib.hid (fun (w' : World) (y : Value) (hb' : Bel w w') (hy : OwnC w.heap.size w'.heap.size w' y (applyC b c)) => l4Made_c _ _ _ _ _ y ar (applyC b c) w' hg hsa (hv.below hb') hy)
      have HQ := Lib.hid hq; clear hq hl12 hfr hsa
      generalize applyC b c = r at *
      generalize okLits ar r = q2 at *
      generalize (if q2 = true then r else []) = r2 at *
      go_enter Tryz.func27, Tryz.ntmps27
      go_wp2_with fail
      refine (sGoodSubst_v _ _ _ _ _ _ ar b true _ HS.out ha (hv.alloc _) hb (hu.alloc _)).mono ?_; rintro e w1 ⟨rfl, hb1⟩
      have hbox := boxc hb1 0 _ rfl
      go_wp2_with fail
      refine (l4Clause_v _ _ _ _ _ _ ar c true _ HQ.out hg hsc (hv.below hb1.of_alloc) (hx.below hb1.of_alloc)).mono ?_; rintro e w2 ⟨rfl, hb2⟩
      have hbox2 := hb2.at (World.block_lt_of_cell? _ ⟨_, _, none⟩ hbox) hbox
      have HB2 := hb1.of_alloc.step hb2
      go_wp2_with fail
      have HD2 := HB2.drew
      have hbox3 := (Bel.drew0 w2).at (World.block_lt_of_cell? _ ⟨_, _, none⟩ hbox2) hbox2
      go_region_held3 (fun w' => w'.cell? ⟨w.heap.size, 0, none⟩ = some v)
        (first | exact hbox5 | exact hbox4 | exact hbox3 | fail)
        (first | (go_at_call 61; refine (HM.out _ _ HB3 (ho3.mono HD2.size (Nat.le_refl _))).mono ?_; rintro e w4 ⟨a4, n4, c4, rfl, ho4, hb4⟩; have hbox5 := hb4.at (World.block_lt_of_cell? _ ⟨_, _, none⟩ hbox4) hbox4) | (go_at_call 62; refine (HA.out _ HD2).mono ?_; rintro e w3 ⟨a3, n3, c3, rfl, ho3, hb3⟩; have HB3 := HD2.step hb3; have hbox4 := hb3.at (World.block_lt_of_cell? _ ⟨_, _, none⟩ hbox3) hbox3) | fail)
      have hz4 := hb4.size
      go_wp2_with fail
      go_ret2
      exact ⟨_, _, _, rfl, ho4.mono (Nat.le_refl _) hz4, HB3.step hb4⟩

set_option maxRecDepth 100000 in
set_option maxHeartbeats 1000000 in
theorem iApplyClause_t {l h l' h' l2 h2 : Nat} {v u x : Value} {ar : List Int} {b : List (List Int)} {c : List Lt} {w : World} (ha : ar.length ≤ 1048576) (hv : SlI l h w v ar) (hb : short b) (hu : SlS l' h' w u b) (hc : sumC c ≤ 1048576) (hx : SlC l2 h2 w x c) :
    Calls Tryz.prog 26 #[.agg #[v], u, x] w (RetCB w (applyCAns ar b c) (applyCok ar b c)) := by
  unfold applyCAns applyCok
  cases hs : goodSubst ar b with
  | false =>
    rw [Bool.false_and, Bool.false_and, if_neg (by simp)]
    have HS := Lib.hid hs; clear hs
    go_enter Tryz.func26, Tryz.ntmps26
    go_wp2_with fail
    refine (iGoodSubst_v _ _ _ _ _ _ ar b false _ HS.out ha (hv.alloc _) hb (hu.alloc _)).mono ?_; rintro e w1 ⟨rfl, hb1⟩
    go_wp2_with fail
    go_ret2
    exact ⟨_, _, _, rfl, OwnC.nil _ _ _, hb1.of_alloc⟩
  | true =>
    rw [Bool.true_and]
    have hg := (goodSubst_iff.1 hs).1
    have hl12 := (goodSubst_iff.1 hs).2.1
    have h40 := goodSubst_len40 hs
    have hs0 := hs
    have HS := Lib.hid hs; clear hs
    have hgc : goodClause ar c = okLits ar c := by unfold goodClause; rw [hg, Bool.true_and]
    cases hq : okLits ar c with
    | false =>
      rw [Bool.false_and, if_neg (by simp)]
      rw [hq] at hgc
      have HQ := Lib.hid hgc; clear hq hl12 hgc hs0
      go_enter Tryz.func26, Tryz.ntmps26
      go_wp2_with fail
      refine (iGoodSubst_v _ _ _ _ _ _ ar b true _ HS.out ha (hv.alloc _) hb (hu.alloc _)).mono ?_; rintro e w1 ⟨rfl, hb1⟩
      have hbox := boxc hb1 0 _ rfl
      go_wp2_with fail
      refine (iGoodClause_v HQ.out ha (hv.below hb1.of_alloc) hc (hx.below hb1.of_alloc)).mono ?_; rintro e w2 ⟨rfl, hb2⟩
      go_wp2_with fail
      go_ret2
      exact ⟨_, _, _, rfl, OwnC.nil _ _ _, hb1.of_alloc.step hb2⟩
    | true =>
      rw [Bool.true_and]
      have hok := applyC_ok hs0 hq
      have hfr := flat_rows hq
      rw [hq] at hgc
      have hle := sumC_len c
      have HA := Lib.hid (fun (w' : World) (hb' : Bel w w') => appliedClause_c _ _ _ _ _ _ b c w' hl12 h40 (by omega) hfr (hu.below hb') (hx.below hb') _ _ hok.symm rfl)
      have HQ := Lib.hid hgc; clear hq hl12 hfr hok hgc hs0 hle
      generalize okLits ar (applyC b c) = q2 at *
      generalize (if q2 = true then applyC b c else []) = r2 at *
      go_enter Tryz.func26, Tryz.ntmps26
      go_wp2_with fail
      refine (iGoodSubst_v _ _ _ _ _ _ ar b true _ HS.out ha (hv.alloc _) hb (hu.alloc _)).mono ?_; rintro e w1 ⟨rfl, hb1⟩
      have hbox := boxc hb1 0 _ rfl
      go_wp2_with fail
      refine (iGoodClause_v HQ.out ha (hv.below hb1.of_alloc) hc (hx.below hb1.of_alloc)).mono ?_; rintro e w2 ⟨rfl, hb2⟩
      have HB2 := hb1.of_alloc.step hb2
      go_wp2_with fail
      refine (HA.out _ HB2).mono ?_; rintro e w3 ⟨a3, n3, c3, rfl, ho3, hb3⟩
      go_wp2_with fail
      go_ret2
      exact ⟨_, _, _, rfl, ho3.mono HB2.size (Nat.le_refl _), HB2.step hb3⟩
theorem applyCAns_len (ar : List Int) (b : List (List Int)) (c : List Lt) : sumC (applyCAns ar b c) ≤ 1048576 := by
  unfold applyCAns
  split
  · rename_i hg
    unfold applyCok at hg
    simp only [Bool.and_eq_true] at hg
    obtain ⟨h8, hok⟩ := okLits_iff.1 hg.2
    rw [sumC_eq]
    unfold lenC
    have := sumL_le40 (flatC (applyC b c)) (fun t ht => (okTerm_len (flat_ok hok ht)).2)
    rw [flatC_len] at this
    omega
  · simp [sumC]
end Go.Proofs.YteegjnobmbcjiaaGreatDoor
end
section
/- The draw of a substitution and a clause. -/
namespace Go.Proofs.YteegjnobmbcjiaaGreatDoor
open Go.RowKit

def RetDSC (w : World) (e : Ending) (w' : World) : Prop :=
  ∃ (sv lv tv : Value) (ar : List Int) (l : List (List Int)) (c : List Lt), e = .returned (.tuple #[.agg #[sv], lv, tv]) ∧ drawn ar ∧ SlI w.heap.size w'.heap.size w' sv ar ∧ SlS w.heap.size w'.heap.size w' lv l ∧ l.length ≤ 12 ∧ (∀ j, (l.getD j []).length ≤ 1000) ∧ SlC w.heap.size w'.heap.size w' tv c ∧ fineC c ∧ Bel w w'
set_option maxRecDepth 100000 in
set_option maxHeartbeats 2000000 in
theorem drawApplyClause_c (n : Nat) (v : Value) (w : World) (hn : n ≤ 1048576) (hv : SlB w.heap.size w v n) :
    Calls Tryz.prog 25 #[v] w (RetDSC w) := by
  obtain ⟨ad, cap, rfl, hcap, hr⟩ := hv
  have hv : SlB w.heap.size w (.slice ad n cap) n := ⟨ad, cap, rfl, hcap, hr⟩
  have hB1 := Bel.alloc0 w (.cells #[.slice none 0 0] 33)
  have hs1 : (w.alloc (.cells #[.slice none 0 0] 33)).heap.size = w.heap.size + 1 := by simp
  have hC := Cur.new (T := 81) (w := w.alloc (.cells #[.slice none 0 0] 33)) (v := .slice ad n cap) (n := n) (by
    obtain ⟨ad', cap', e, hc, hr'⟩ := hv.chg (Chg.of_bel (lo := w.heap.size) (hi := w.heap.size) hB1) (Nat.le_refl _)
    exact ⟨ad', cap', e, hc, fun hp => by obtain ⟨b, off, e1, e2, e3⟩ := hr' hp; exact ⟨b, off, e1, by omega, e3⟩⟩)
  rw [hs1] at hC
  have hB2 := hB1.step (Bel.alloc0 (w.alloc (.cells #[.slice none 0 0] 33)) (.cells #[.slice ad n cap, .int .i64 0, .int .u64 0] 81))
  have hbx : ((w.alloc (.cells #[.slice none 0 0] 33)).alloc (.cells #[.slice ad n cap, .int .i64 0, .int .u64 0] 81)).cell? ⟨w.heap.size, 0, none⟩ = some (.slice none 0 0) := (Bel.alloc0 _ _).at (by simp) (by rw [World.cell?_alloc_new w]; rfl)
  have hfx : ((w.alloc (.cells #[.slice none 0 0] 33)).alloc (.cells #[.slice ad n cap, .int .i64 0, .int .u64 0] 81)).frozen? ⟨w.heap.size, 0, none⟩ = false := by simp [go_sem]; try rfl
  have HS := Lib.hid (sign_c (w.heap.size + 1) n 0 _ (by omega) (by omega) hC)
  go_enter Tryz.func25, Tryz.ntmps25
  go_wp2_with fail
  refine HS.out.mono ?_; rintro e w1 ⟨sv, ar, k1, rfl, hdr, hsv, hk1, hk2, hc1, hg1⟩
  obtain ⟨sa, sc, rfl⟩ := hsv.form
  have hW0 : ((w.alloc (.cells #[.slice none 0 0] 33)).alloc (.cells #[.slice ad n cap, .int .i64 0, .int .u64 0] 81)).heap.size = w.heap.size + 1 + 1 := by simp
  generalize ((w.alloc (.cells #[.slice none 0 0] 33)).alloc (.cells #[.slice ad n cap, .int .i64 0, .int .u64 0] 81)) = W0 at *
  have hsz1 : W0.heap.size ≤ w1.heap.size := hg1.size
  rw [hW0] at hsv
  have hbx1 := hg1.cell (by omega) (by omega) hbx
  have hfx1 : w1.frozen? ⟨w.heap.size, 0, none⟩ = false := (World.frozen?_of_block (w := W0) (w' := w1) (a := ⟨w.heap.size, 0, none⟩) (hg1.block w.heap.size (by omega) (by omega))).trans hfx
  have hB3 := Bel.alloc0 w1 (.cells #[.slice sa ar.length sc] 33)
  have hs2 : (w1.alloc (.cells #[.slice sa ar.length sc] 33)).heap.size = w1.heap.size + 1 := by simp
  have hbx7 : (w1.alloc (.cells #[.slice sa ar.length sc] 33)).cell? ⟨w1.heap.size, 0, none⟩ = some (.slice sa ar.length sc) := by rw [World.cell?_alloc_new w1]; rfl
  have hbx2 := hB3.at (by omega) hbx1
  have hfx2 := (World.frozen?_of_block (w := w1) (a := ⟨w.heap.size, 0, none⟩) (hB3.block w.heap.size (by omega))).trans hfx1
  have hc2 := hc1.below hB3
  have hsv2 := hsv.below hB3
  have hg2 := hg1.trans (Chg.of_bel (lo := w.heap.size + 1) (hi := w.heap.size + 1 + 1) hB3)
  generalize hw2 : w1.alloc (.cells #[.slice sa ar.length sc] 33) = w2 at *
  have hal := drawn_len hdr
  clear hc1 hg1 hbx1 hfx1 hB3 hsv hbx hfx HS hC hB1
  have hhi0 : w1.heap.size ≤ w2.heap.size := by omega
  go_wp2_with fail
  go_region_held3 (fun w' => w'.cell? ⟨w1.heap.size, 0, none⟩ = some (.slice sa ar.length sc))
    (first | exact hbx7 | exact hx1 | exact hx2 | exact hb7F | fail)
    (first
      | (go_at_call 55; refine (subst_d (w.heap.size + 1) n k1 _ _ _ ar _ (by omega) (by omega) hdr (by omega) (by exact hhi0) (hc2.below (Bel.drew0 w2)) (hsv2.below (Bel.drew0 w2))).mono ?_; rintro e y1_2 ⟨aA, cA, lA, k2x, rfl, hA, hlA, hjA, hk1k2x, hk2k2x, hcr1, hr1⟩; have G1 := (Chg.of_bel (lo := w.heap.size + 1) (hi := w.heap.size + 1 + 1) (Bel.drew0 w2)).trans hr1; have hzr1 : w2.heap.size ≤ y1_2.heap.size := G1.size; have hx1 := G1.cell (by omega) (by omega) hbx7)
      | (go_at_call 56; refine (clause_c (w.heap.size + 1) n k2x _ _ _ ar _ (by omega) (by omega) hdr (by omega) hcr1 (hsv2.chg G1 (by omega))).mono ?_; rintro e y2_2 ⟨oT, tB, rfl, hB, hc9, hsh, k3x, hk1k3x, hk2k3x, hcr2, hr2⟩; obtain ⟨aB, cB, rfl⟩ := hB.form; have hfine : fineC tB := ⟨hc9, hsh⟩; have G2 := G1.trans hr2; have hzr2 : w2.heap.size ≤ y2_2.heap.size := G2.size; have hx2 := G2.cell (by omega) (by omega) hbx7; have hzs2 := hr2.size; have hbxL := G2.cell (by omega) (by omega) hbx2; have hb7F := (World.cell?_setCell_other y2_2 ⟨w.heap.size, 0, none⟩ ⟨w1.heap.size, 0, none⟩ (.slice sa ar.length sc) (fun h => (show w.heap.size ≠ w1.heap.size by omega) (congrArg Addr.block h))).trans hx2; have hfxL := (World.frozen?_of_block (w := w2) (w' := y2_2) (a := ⟨w.heap.size, 0, none⟩) (G2.block w.heap.size (by omega) (by omega))).trans hfx2)
      | fail)
  replace hA := hA.mono (show w2.heap.size ≤ w2.drew.heap.size from Nat.le_refl _) (Nat.le_refl _)
  replace hA := hA.chg hr2 (by omega)
  replace hB := hB.mono (show w2.heap.size ≤ _ by omega) (Nat.le_refl _)
  clear hfx2
  have hzL : w2.heap.size ≤ y2_2.heap.size := G2.size
  replace hsv2 := hsv2.chg G2 (by omega)
  replace hg2 := hg2.trans G2
  have hbF : (y2_2.setCell ⟨w.heap.size, 0, none⟩ (.slice sa ar.length sc)).cell? ⟨w.heap.size, 0, none⟩ = some (.slice sa ar.length sc) := World.cell?_setCell_same _ _ _ hbxL
  have hsv2F := (hsv2.set (p := ⟨w.heap.size, 0, none⟩) (.inl (by simp; omega)) (.slice sa ar.length sc)).mono (show w.heap.size ≤ _ by omega) (show _ ≤ (y2_2.setCell ⟨w.heap.size, 0, none⟩ (.slice sa ar.length sc)).heap.size by first | (simp; done) | (simp; omega))
  have hAF := (hA.set (p := ⟨w.heap.size, 0, none⟩) (.inl (by simp; omega)) (.slice sa ar.length sc)).mono (show w.heap.size ≤ _ by omega) (show _ ≤ (y2_2.setCell ⟨w.heap.size, 0, none⟩ (.slice sa ar.length sc)).heap.size by first | (simp; done) | (simp; omega))
  have hBF := (hB.setP (p := ⟨w.heap.size, 0, none⟩) (.inl (by simp; omega)) (.slice sa ar.length sc)).mono (show w.heap.size ≤ _ by omega) (show _ ≤ (y2_2.setCell ⟨w.heap.size, 0, none⟩ (.slice sa ar.length sc)).heap.size by first | (simp; done) | (simp; omega))
  have hgF := (hg2.bel hB2 (by omega)).setCell (p := ⟨w.heap.size, 0, none⟩) (Nat.le_refl _) (.slice sa ar.length sc)
  clear hbx2 hbx7 hg2 hB2 hcr2 hsv2 hA hB
  go_wp2_with fail
  exact bodyPost_ret (v := .tuple #[.agg #[.slice sa ar.length sc], .slice aA lA.length cA, .slice aB tB.length cB]) (by simp [results, Tryz.results25, go_sem, hbF]) rfl ⟨_, _, _, ar, lA, tB, rfl, hdr, hsv2F, hAF, hlA, hjA, hBF, hfine, hgF⟩
end Go.Proofs.YteegjnobmbcjiaaGreatDoor
end
section
/- The draw of two literals. -/
namespace Go.Proofs.YteegjnobmbcjiaaGreatDoor
open Go.RowKit

/-- The cells of the results, before they are stored. -/
structure RCel (N : Nat) (w : World) : Prop where
  s0 : w.cell? ⟨N, 0, none⟩ = some (.slice none 0 0)
  a0 : w.cell? ⟨N + 1, 0, none⟩ = some (.bool false)
  a1 : w.cell? ⟨N + 1, 1, none⟩ = some (.slice none 0 0)
  a2 : w.cell? ⟨N + 1, 2, none⟩ = some (.slice none 0 0)
  b0 : w.cell? ⟨N + 1 + 1, 0, none⟩ = some (.bool false)
  b1 : w.cell? ⟨N + 1 + 1, 1, none⟩ = some (.slice none 0 0)
  b2 : w.cell? ⟨N + 1 + 1, 2, none⟩ = some (.slice none 0 0)
  fs : ∀ j, w.frozen? ⟨N, j, none⟩ = false
  fa : ∀ j, w.frozen? ⟨N + 1, j, none⟩ = false
  fb : ∀ j, w.frozen? ⟨N + 1 + 1, j, none⟩ = false
theorem RCel.same {N : Nat} {w w' : World} (h : RCel N w) (hs : ∀ b, N ≤ b → b ≤ N + 2 → w'.heap[b]? = w.heap[b]?) : RCel N w' := by
  have c := fun (b j : Nat) (h1 : N ≤ b) (h2 : b ≤ N + 2) => World.cell?_of_block (w := w) (w' := w') (a := ⟨b, j, none⟩) (hs b h1 h2)
  have f := fun (b j : Nat) (h1 : N ≤ b) (h2 : b ≤ N + 2) => World.frozen?_of_block (w := w) (w' := w') (a := ⟨b, j, none⟩) (hs b h1 h2)
  exact ⟨(c N 0 (by omega) (by omega)).trans h.s0, (c _ 0 (by omega) (by omega)).trans h.a0, (c _ 1 (by omega) (by omega)).trans h.a1, (c _ 2 (by omega) (by omega)).trans h.a2, (c _ 0 (by omega) (by omega)).trans h.b0, (c _ 1 (by omega) (by omega)).trans h.b1, (c _ 2 (by omega) (by omega)).trans h.b2,
    fun j => (f _ j (by omega) (by omega)).trans (h.fs j), fun j => (f _ j (by omega) (by omega)).trans (h.fa j), fun j => (f _ j (by omega) (by omega)).trans (h.fb j)⟩
theorem RCel.chg {N : Nat} {w w' : World} (h : RCel N w) (k : Chg (N+1+1+1) (N+1+1+1+1) w w') (hl : N + 3 ≤ w.heap.size) : RCel N w' := h.same fun b h1 h2 => k.block b (by omega) (by omega)
theorem RCel.bel {N : Nat} {w w' : World} (h : RCel N w) (k : Bel w w') (hl : N + 3 ≤ w.heap.size) : RCel N w' := h.same fun b h1 h2 => k.block b (by omega)
def RetDLt (w : World) (e : Ending) (w' : World) : Prop :=
  ∃ (sv a1 a2 b1 b2 : Value) (ar : List Int) (x y : Lt), e = .returned (.tuple #[.agg #[sv], .agg #[.bool x.1, a1, a2], .agg #[.bool y.1, b1, b2]]) ∧ drawn ar ∧ SlI w.heap.size w'.heap.size w' sv ar ∧
    (SlI w.heap.size w'.heap.size w' a1 x.2.1 ∧ SlI w.heap.size w'.heap.size w' a2 x.2.2) ∧ (SlI w.heap.size w'.heap.size w' b1 y.2.1 ∧ SlI w.heap.size w'.heap.size w' b2 y.2.2) ∧
    (x.2.1.length ≤ 400 ∧ x.2.2.length ≤ 400 ∧ y.2.1.length ≤ 400 ∧ y.2.2.length ≤ 400) ∧ Bel w w'
theorem TF_sl {w0 w : World} {v : Value} {t : List Int} {lo : Nat} (h : Rl.TF w0 w v t) (hl : lo ≤ w0.heap.size) : SlI lo w.heap.size w v t := by
  obtain ⟨⟨c, h1, h2, h3⟩, _, _⟩ := h
  exact h3.mono (by omega) (by omega)
theorem TF_le {w0 w : World} {v : Value} {t : List Int} (h : Rl.TF w0 w v t) : t.length ≤ 400 := h.2.2

set_option maxRecDepth 100000 in
set_option maxHeartbeats 2000000 in
theorem drawCompareLits_c (n : Nat) (v : Value) (w : World) (hn : n ≤ 1048576) (hv : SlB w.heap.size w v n) :
    Calls Tryz.prog 23 #[v] w (RetDLt w) := by
  obtain ⟨ad, cap, rfl, hcap, hr⟩ := hv
  have hv : SlB w.heap.size w (.slice ad n cap) n := ⟨ad, cap, rfl, hcap, hr⟩
  obtain ⟨W, hW⟩ : ∃ W, W = ((w.alloc (.cells #[.slice none 0 0] 33)).alloc (.cells #[.bool false, .slice none 0 0, .slice none 0 0] 53)).alloc (.cells #[.bool false, .slice none 0 0, .slice none 0 0] 53) := ⟨_, rfl⟩
  have hB1 : Bel w W := by rw [hW]; exact Bel.alloc3 _ _ _ _
  have hs1 : W.heap.size = w.heap.size + 1 + 1 + 1 := by rw [hW]; simp
  have hC := Cur.new (T := 81) (w := W) (v := .slice ad n cap) (n := n) (by
    obtain ⟨ad', cap', e, hc, hr'⟩ := hv.chg (Chg.of_bel (lo := w.heap.size) (hi := w.heap.size) hB1) (Nat.le_refl _)
    exact ⟨ad', cap', e, hc, fun hp => by obtain ⟨b, off, e1, e2, e3⟩ := hr' hp; exact ⟨b, off, e1, by omega, e3⟩⟩)
  rw [hs1] at hC
  have hB2 := hB1.step (Bel.alloc0 W (.cells #[.slice ad n cap, .int .i64 0, .int .u64 0] 81))
  have hR0 : RCel w.heap.size (W.alloc (.cells #[.slice ad n cap, .int .i64 0, .int .u64 0] 81)) := by
    have : RCel w.heap.size W := by
      rw [hW]
      exact ⟨by simp [go_sem], by simp [go_sem], by simp [go_sem], by simp [go_sem], by simp [go_sem], by simp [go_sem], by simp [go_sem], fun j => by simp [go_sem], fun j => by simp [go_sem], fun j => by simp [go_sem]⟩
    exact this.bel (Bel.alloc0 _ _) (by omega)
  have HS := Lib.hid (sign_c (w.heap.size + 1 + 1 + 1) n 0 _ (by omega) (by omega) hC)
  rw [hW] at HS
  go_enter Tryz.func23, Tryz.ntmps23
  go_wp2_with fail
  refine HS.out.mono ?_; rintro e w1 ⟨sv, ar, k1, rfl, hdr, hsv, hk1, hk2, hc1, hg1⟩
  obtain ⟨sa, sc, rfl⟩ := hsv.form
  rw [← hW] at hsv hg1
  have hW0 : (W.alloc (.cells #[.slice ad n cap, .int .i64 0, .int .u64 0] 81)).heap.size = w.heap.size + 1 + 1 + 1 + 1 := by simp [hs1]
  generalize (W.alloc (.cells #[.slice ad n cap, .int .i64 0, .int .u64 0] 81)) = W0 at *
  clear hW hC HS hB1 hs1
  have hal := drawn_len hdr
  have hz1 : W0.heap.size ≤ w1.heap.size := hg1.size
  have hR1 := hR0.chg hg1 (by omega)
  rw [hW0] at hsv
  have hB3 := Bel.alloc0 w1 (.cells #[.slice sa ar.length sc] 33)
  have hs2 : (w1.alloc (.cells #[.slice sa ar.length sc] 33)).heap.size = w1.heap.size + 1 := by simp
  have hbs2 : (w1.alloc (.cells #[.slice sa ar.length sc] 33)).cell? ⟨w1.heap.size, 0, none⟩ = some (.slice sa ar.length sc) := by rw [World.cell?_alloc_new w1]; rfl
  have hc2 := hc1.below hB3
  have hsv2 := hsv.below hB3
  have hR2 := hR1.bel hB3 (by omega)
  have hg2 := hg1.trans (Chg.of_bel (lo := w.heap.size + 1 + 1 + 1) (hi := w.heap.size + 1 + 1 + 1 + 1) hB3)
  clear hc1 hg1 hR0 hR1 hB3 hsv
  generalize hw2 : w1.alloc (.cells #[.slice sa ar.length sc] 33) = w2 at *
  go_wp2_with fail
  refine (lit_c (w.heap.size + 1 + 1 + 1) n k1 _ _ _ ar w2 (by omega) (by omega) hdr (by omega) hc2 hsv2).mono ?_; rintro e w3 ⟨pa, va1, va2, x1, x2, rfl, tA1, tA2, k2, hk21, hk22, hc3, hg3⟩
  have hz3 : w2.heap.size ≤ w3.heap.size := hg3.size
  have hbs3 := hg3.cell (by omega) (by omega) hbs2
  have hR3 := hR2.chg hg3 (by omega)
  have hsv3 := hsv2.chg hg3 (by omega)
  have hg4 := hg2.trans hg3
  obtain ⟨aa1, ac1, rfl⟩ := tA1.form
  obtain ⟨aa2, ac2, rfl⟩ := tA2.form
  have hl1 := TF_le tA1
  have hl2 := TF_le tA2
  have sA1 := TF_sl (lo := w.heap.size) tA1 (by omega)
  have sA2 := TF_sl (lo := w.heap.size) tA2 (by omega)
  have sX1 := TF_sl (lo := w2.heap.size) tA1 (Nat.le_refl _)
  have sX2 := TF_sl (lo := w2.heap.size) tA2 (Nat.le_refl _)
  clear hbs2 hR2 hsv2 hg2 hg3 hc2 tA1 tA2 sA1 sA2
  have hB4 := Bel.alloc0 w3 (.cells #[.bool pa, .slice aa1 x1.length ac1, .slice aa2 x2.length ac2] 53)
  have hs4 : (w3.alloc (.cells #[.bool pa, .slice aa1 x1.length ac1, .slice aa2 x2.length ac2] 53)).heap.size = w3.heap.size + 1 := by simp
  have q0 : (w3.alloc (.cells #[.bool pa, .slice aa1 x1.length ac1, .slice aa2 x2.length ac2] 53)).cell? ⟨w3.heap.size, 0, none⟩ = some (.bool pa) := by rw [World.cell?_alloc_new w3]; rfl
  have q1 : (w3.alloc (.cells #[.bool pa, .slice aa1 x1.length ac1, .slice aa2 x2.length ac2] 53)).cell? ⟨w3.heap.size, 1, none⟩ = some (.slice aa1 x1.length ac1) := by rw [World.cell?_alloc_new w3]; rfl
  have q2 : (w3.alloc (.cells #[.bool pa, .slice aa1 x1.length ac1, .slice aa2 x2.length ac2] 53)).cell? ⟨w3.heap.size, 2, none⟩ = some (.slice aa2 x2.length ac2) := by rw [World.cell?_alloc_new w3]; rfl
  replace hc3 := hc3.below hB4
  replace hsv3 := hsv3.below hB4
  replace hR3 := hR3.bel hB4 (by omega)
  replace hbs3 := hB4.at (by omega) hbs3
  replace sX1 := sX1.below hB4
  replace sX2 := sX2.below hB4
  replace hg4 := hg4.trans (Chg.of_bel (lo := w.heap.size + 1 + 1 + 1) (hi := w.heap.size + 1 + 1 + 1 + 1) hB4)
  clear hB4
  generalize hw4 : w3.alloc (.cells #[.bool pa, .slice aa1 x1.length ac1, .slice aa2 x2.length ac2] 53) = w4 at *
  go_wp2_with fail
  refine (one_c (w.heap.size + 1 + 1 + 1) n k2 _ 3 w4 (by decide) (by omega) (by omega) (by omega) hc3).mono ?_; rintro e w5 ⟨q, k3, rfl, hk31, hk32, hc5, hg5⟩
  have hz5 : w4.heap.size ≤ w5.heap.size := hg5.size
  replace hsv3 := (hsv3.chg hg5 (by omega)).mono (Nat.le_refl _) (show _ ≤ w5.heap.size by omega)
  replace hR3 := hR3.chg hg5 (by omega)
  replace hbs3 := hg5.cell (by omega) (by omega) hbs3
  replace q0 := hg5.cell (by omega) (by omega) q0
  replace q1 := hg5.cell (by omega) (by omega) q1
  replace q2 := hg5.cell (by omega) (by omega) q2
  replace sX1 := (sX1.chg hg5 (by omega)).mono (show w.heap.size + 1 + 1 + 1 + 1 ≤ _ by omega) (show _ ≤ w5.heap.size by omega)
  replace sX2 := (sX2.chg hg5 (by omega)).mono (show w.heap.size + 1 + 1 + 1 + 1 ≤ _ by omega) (show _ ≤ w5.heap.size by omega)
  replace hg4 := hg4.trans hg5
  clear hg5 hc3
  have hG1b : w.heap.size + 1 + 1 + 1 + 1 ≤ w1.heap.size := by omega
  have hG3b : w.heap.size + 1 + 1 + 1 + 1 ≤ w3.heap.size := by omega
  clear hw2 hw4
  generalize w1.heap.size = G1 at *
  generalize w3.heap.size = G3 at *
  have hr0 := hR3.s0
  have hra0 := hR3.a0
  have hra1 := hR3.a1
  have hra2 := hR3.a2
  have hrb0 := hR3.b0
  have hrb1 := hR3.b1
  have hrb2 := hR3.b2
  have hf0 := hR3.fs
  have hfa := hR3.fa
  have hfb := hR3.fb
  have hS0 : (w5.cell? ⟨G1, 0, none⟩ = some (.slice sa ar.length sc) ∧ (w5.cell? ⟨G3, 0, none⟩ = some (.bool pa) ∧ w5.cell? ⟨G3, 1, none⟩ = some (.slice aa1 x1.length ac1) ∧ w5.cell? ⟨G3, 2, none⟩ = some (.slice aa2 x2.length ac2))) := ⟨hbs3, q0, q1, q2⟩
  have hdrew : ∀ (w' : World), (w'.cell? ⟨G1, 0, none⟩ = some (.slice sa ar.length sc) ∧ (w'.cell? ⟨G3, 0, none⟩ = some (.bool pa) ∧ w'.cell? ⟨G3, 1, none⟩ = some (.slice aa1 x1.length ac1) ∧ w'.cell? ⟨G3, 2, none⟩ = some (.slice aa2 x2.length ac2))) → (w'.drew.cell? ⟨G1, 0, none⟩ = some (.slice sa ar.length sc) ∧ (w'.drew.cell? ⟨G3, 0, none⟩ = some (.bool pa) ∧ w'.drew.cell? ⟨G3, 1, none⟩ = some (.slice aa1 x1.length ac1) ∧ w'.drew.cell? ⟨G3, 2, none⟩ = some (.slice aa2 x2.length ac2))) := fun _ h => h
  have hsetS : ∀ (w' : World) (b o : Nat) (u : Value), b < w.heap.size + 1 + 1 + 1 + 1 → (w'.cell? ⟨G1, 0, none⟩ = some (.slice sa ar.length sc) ∧ (w'.cell? ⟨G3, 0, none⟩ = some (.bool pa) ∧ w'.cell? ⟨G3, 1, none⟩ = some (.slice aa1 x1.length ac1) ∧ w'.cell? ⟨G3, 2, none⟩ = some (.slice aa2 x2.length ac2))) →
      ((w'.setCell ⟨b, o, none⟩ u).cell? ⟨G1, 0, none⟩ = some (.slice sa ar.length sc) ∧ ((w'.setCell ⟨b, o, none⟩ u).cell? ⟨G3, 0, none⟩ = some (.bool pa) ∧ (w'.setCell ⟨b, o, none⟩ u).cell? ⟨G3, 1, none⟩ = some (.slice aa1 x1.length ac1) ∧ (w'.setCell ⟨b, o, none⟩ u).cell? ⟨G3, 2, none⟩ = some (.slice aa2 x2.length ac2))) := fun w' b o u hlt h => by
    have e : ∀ (g j : Nat), w.heap.size + 1 + 1 + 1 + 1 ≤ g → (w'.setCell ⟨b, o, none⟩ u).cell? ⟨g, j, none⟩ = w'.cell? ⟨g, j, none⟩ := fun g j hg => by rw [World.cell?_setCell_other (h := by intro h; simp at h <;> omega)]
    rw [e _ _ hG1b, e _ _ hG3b, e _ _ hG3b, e _ _ hG3b]; exact h
  cases q with
  | true =>
    go_wp2_with fail
    go_region_held3 (fun w' => w'.cell? ⟨G1, 0, none⟩ = some (.slice sa ar.length sc) ∧ (w'.cell? ⟨G3, 0, none⟩ = some (.bool pa) ∧ w'.cell? ⟨G3, 1, none⟩ = some (.slice aa1 x1.length ac1) ∧ w'.cell? ⟨G3, 2, none⟩ = some (.slice aa2 x2.length ac2)))
      (first | (with_reducible refine hdrew _ ?_; (repeat (with_reducible refine hsetS _ _ _ _ (by omega) ?_)); with_reducible exact hS0))
      (fail)
    obtain ⟨NE, hNE⟩ : ∃ x, x = ((((((w5.setCell ⟨w.heap.size, 0, none⟩ (.slice sa ar.length sc)).setCell ⟨w.heap.size + 1, 0, none⟩ (.bool pa)).setCell ⟨w.heap.size + 1, 1, none⟩ (.slice aa1 x1.length ac1)).setCell ⟨w.heap.size + 1, 2, none⟩ (.slice aa2 x2.length ac2)).setCell ⟨w.heap.size + 1 + 1, 0, none⟩ (.bool !pa)).setCell ⟨w.heap.size + 1 + 1, 1, none⟩ (.slice aa2 x2.length ac2)).setCell ⟨w.heap.size + 1 + 1, 2, none⟩ (.slice aa1 x1.length ac1) := ⟨_, rfl⟩
    have hEQ : ∀ b, w.heap.size + 1 + 1 + 1 + 1 ≤ b → NE.heap[b]? = w5.heap[b]? := fun b hb => by
      rw [hNE]; rw [Below.heap_setCell _ _ _ b (by show _ ≠ _; simp only; omega)]; rw [Below.heap_setCell _ _ _ b (by show _ ≠ _; simp only; omega)]; rw [Below.heap_setCell _ _ _ b (by show _ ≠ _; simp only; omega)]; rw [Below.heap_setCell _ _ _ b (by show _ ≠ _; simp only; omega)]; rw [Below.heap_setCell _ _ _ b (by show _ ≠ _; simp only; omega)]; rw [Below.heap_setCell _ _ _ b (by show _ ≠ _; simp only; omega)]; rw [Below.heap_setCell _ _ _ b (by show _ ≠ _; simp only; omega)]
    have hBF : Bel w NE := by rw [hNE]; exact ((((((((hg4.bel hB2 (by omega)).set (p := ⟨w.heap.size, 0, none⟩) (by show w.heap.size ≤ _; simp only; omega) (.slice sa ar.length sc)).set (p := ⟨w.heap.size + 1, 0, none⟩) (by show w.heap.size ≤ _; simp only; omega) (.bool pa)).set (p := ⟨w.heap.size + 1, 1, none⟩) (by show w.heap.size ≤ _; simp only; omega) (.slice aa1 x1.length ac1)).set (p := ⟨w.heap.size + 1, 2, none⟩) (by show w.heap.size ≤ _; simp only; omega) (.slice aa2 x2.length ac2)).set (p := ⟨w.heap.size + 1 + 1, 0, none⟩) (by show w.heap.size ≤ _; simp only; omega) (.bool !pa)).set (p := ⟨w.heap.size + 1 + 1, 1, none⟩) (by show w.heap.size ≤ _; simp only; omega) (.slice aa2 x2.length ac2)).set (p := ⟨w.heap.size + 1 + 1, 2, none⟩) (by show w.heap.size ≤ _; simp only; omega) (.slice aa1 x1.length ac1))
    have hsz : NE.heap.size = w5.heap.size := by rw [hNE]; simp
    have c00 : NE.cell? ⟨w.heap.size, 0, none⟩ = some (.slice sa ar.length sc) := by rw [hNE]; simp [go_sem, hr0]
    have c11 : NE.cell? ⟨w.heap.size + 1, 0, none⟩ = some (.bool pa) := by rw [hNE]; simp [go_sem, hra0]
    have c22 : NE.cell? ⟨w.heap.size + 1, 1, none⟩ = some (.slice aa1 x1.length ac1) := by rw [hNE]; simp [go_sem, hra1]
    have c33 : NE.cell? ⟨w.heap.size + 1, 2, none⟩ = some (.slice aa2 x2.length ac2) := by rw [hNE]; simp [go_sem, hra2]
    have c44 : NE.cell? ⟨w.heap.size + 1 + 1, 0, none⟩ = some (.bool !pa) := by rw [hNE]; simp [go_sem, hrb0]
    have c55 : NE.cell? ⟨w.heap.size + 1 + 1, 1, none⟩ = some (.slice aa2 x2.length ac2) := by rw [hNE]; simp [go_sem, hrb1]
    have c66 : NE.cell? ⟨w.heap.size + 1 + 1, 2, none⟩ = some (.slice aa1 x1.length ac1) := by rw [hNE]; simp [go_sem, hrb2]
    rw [← hNE]
    have gS := fun {v : Value} {xs : List Int} (h : SlI (w.heap.size + 1 + 1 + 1 + 1) w5.heap.size w5 v xs) => ((h.same (w' := NE.drew) (fun b h1 _ _ => hEQ b h1)).mono (show w.heap.size ≤ w.heap.size + 1 + 1 + 1 + 1 by omega) (show w5.heap.size ≤ NE.drew.heap.size from Nat.le_of_eq hsz.symm))
    have g1 := gS hsv3
    have g2 := gS sX1
    have g3 := gS sX2
    clear gS hEQ hNE hr0 hra0 hra1 hra2 hrb0 hrb1 hrb2
    go_wp2_with fail
    exact bodyPost_ret (v := .tuple #[.agg #[.slice sa ar.length sc], .agg #[.bool pa, .slice aa1 x1.length ac1, .slice aa2 x2.length ac2], .agg #[.bool !pa, .slice aa2 x2.length ac2, .slice aa1 x1.length ac1]]) (by simp [results, Tryz.results23, go_sem, c00, c11, c22, c33, c44, c55, c66]) rfl ⟨_, _, _, _, _, ar, (pa, x1, x2), (!pa, x2, x1), rfl, hdr, g1, ⟨g2, g3⟩, ⟨g3, g2⟩, ⟨hl1, hl2, hl2, hl1⟩, hBF.drew⟩
  | false =>
    have hG1c := World.block_lt_of_cell? w5 ⟨G1, _, none⟩ hbs3
    have hG3c := World.block_lt_of_cell? w5 ⟨G3, _, none⟩ q0
    clear hr0 hra0 hra1 hra2 hrb0 hrb1 hrb2 hf0 hfa hfb
    go_wp2_with fail
    go_region_held3 (fun w' => w'.cell? ⟨G1, 0, none⟩ = some (.slice sa ar.length sc) ∧ (w'.cell? ⟨G3, 0, none⟩ = some (.bool pa) ∧ w'.cell? ⟨G3, 1, none⟩ = some (.slice aa1 x1.length ac1) ∧ w'.cell? ⟨G3, 2, none⟩ = some (.slice aa2 x2.length ac2)))
      (first | (with_reducible refine hdrew _ ?_; (repeat (with_reducible refine hsetS _ _ _ _ (by omega) ?_)); with_reducible exact hS0) | (with_reducible exact hS6) | ((repeat (with_reducible refine hsetS _ _ _ _ (by omega) ?_)); with_reducible exact hS6))
      (first | (go_at_call 49; refine (lit_c (w.heap.size + 1 + 1 + 1) n k3 _ _ _ ar _ (by omega) (by omega) hdr (by omega) (hc5.below (Bel.drew0 _)) (hsv3.below (Bel.drew0 _))).mono ?_; rintro e w6 ⟨pb, vb1, vb2, y1, y2, rfl, tB1, tB2, k4, hk41, hk42, hc6, hgx⟩; have hgy := (Chg.of_bel (lo := w.heap.size + 1 + 1 + 1) (hi := w.heap.size + 1 + 1 + 1 + 1) (Bel.drew0 w5)).trans hgx; obtain ⟨ab1, bc1, rfl⟩ := tB1.form; obtain ⟨ab2, bc2, rfl⟩ := tB2.form; have hS6 := And.intro (hgy.cell hG1c (by omega) hbs3) (And.intro (hgy.cell hG3c (by omega) q0) (And.intro (hgy.cell hG3c (by omega) q1) (hgy.cell hG3c (by omega) q2))); have hR6 := hR3.chg hgy (by omega); have hr0 := hR6.s0; have hra0 := hR6.a0; have hra1 := hR6.a1; have hra2 := hR6.a2; have hrb0 := hR6.b0; have hrb1 := hR6.b1; have hrb2 := hR6.b2; have hf0 := hR6.fs; have hfa := hR6.fa; have hfb := hR6.fb) | fail)
    have hz6 : w5.heap.size ≤ w6.heap.size := hgy.size
    have hm1 := TF_le tB1
    have hm2 := TF_le tB2
    have sY1 := TF_sl (lo := w.heap.size + 1 + 1 + 1 + 1) tB1 (by show _ ≤ w5.heap.size; omega)
    have sY2 := TF_sl (lo := w.heap.size + 1 + 1 + 1 + 1) tB2 (by show _ ≤ w5.heap.size; omega)
    replace hsv3 := (hsv3.chg hgy (by omega)).mono (Nat.le_refl _) hz6
    replace sX1 := (sX1.chg hgy (by omega)).mono (Nat.le_refl _) hz6
    replace sX2 := (sX2.chg hgy (by omega)).mono (Nat.le_refl _) hz6
    have hg6 := hg4.trans hgy
    obtain ⟨NE, hNE⟩ : ∃ x, x = ((((((w6.setCell ⟨w.heap.size, 0, none⟩ (.slice sa ar.length sc)).setCell ⟨w.heap.size + 1, 0, none⟩ (.bool pa)).setCell ⟨w.heap.size + 1, 1, none⟩ (.slice aa1 x1.length ac1)).setCell ⟨w.heap.size + 1, 2, none⟩ (.slice aa2 x2.length ac2)).setCell ⟨w.heap.size + 1 + 1, 0, none⟩ (.bool pb)).setCell ⟨w.heap.size + 1 + 1, 1, none⟩ (.slice ab1 y1.length bc1)).setCell ⟨w.heap.size + 1 + 1, 2, none⟩ (.slice ab2 y2.length bc2) := ⟨_, rfl⟩
    have hEQ : ∀ b, w.heap.size + 1 + 1 + 1 + 1 ≤ b → NE.heap[b]? = w6.heap[b]? := fun b hb => by
      rw [hNE]; rw [Below.heap_setCell _ _ _ b (by show _ ≠ _; simp only; omega)]; rw [Below.heap_setCell _ _ _ b (by show _ ≠ _; simp only; omega)]; rw [Below.heap_setCell _ _ _ b (by show _ ≠ _; simp only; omega)]; rw [Below.heap_setCell _ _ _ b (by show _ ≠ _; simp only; omega)]; rw [Below.heap_setCell _ _ _ b (by show _ ≠ _; simp only; omega)]; rw [Below.heap_setCell _ _ _ b (by show _ ≠ _; simp only; omega)]; rw [Below.heap_setCell _ _ _ b (by show _ ≠ _; simp only; omega)]
    have hBF : Bel w NE := by rw [hNE]; exact ((((((((hg6.bel hB2 (by omega)).set (p := ⟨w.heap.size, 0, none⟩) (by show w.heap.size ≤ _; simp only; omega) (.slice sa ar.length sc)).set (p := ⟨w.heap.size + 1, 0, none⟩) (by show w.heap.size ≤ _; simp only; omega) (.bool pa)).set (p := ⟨w.heap.size + 1, 1, none⟩) (by show w.heap.size ≤ _; simp only; omega) (.slice aa1 x1.length ac1)).set (p := ⟨w.heap.size + 1, 2, none⟩) (by show w.heap.size ≤ _; simp only; omega) (.slice aa2 x2.length ac2)).set (p := ⟨w.heap.size + 1 + 1, 0, none⟩) (by show w.heap.size ≤ _; simp only; omega) (.bool pb)).set (p := ⟨w.heap.size + 1 + 1, 1, none⟩) (by show w.heap.size ≤ _; simp only; omega) (.slice ab1 y1.length bc1)).set (p := ⟨w.heap.size + 1 + 1, 2, none⟩) (by show w.heap.size ≤ _; simp only; omega) (.slice ab2 y2.length bc2))
    have hsz : NE.heap.size = w6.heap.size := by rw [hNE]; simp
    have c00 : NE.cell? ⟨w.heap.size, 0, none⟩ = some (.slice sa ar.length sc) := by rw [hNE]; simp [go_sem, hr0]
    have c11 : NE.cell? ⟨w.heap.size + 1, 0, none⟩ = some (.bool pa) := by rw [hNE]; simp [go_sem, hra0]
    have c22 : NE.cell? ⟨w.heap.size + 1, 1, none⟩ = some (.slice aa1 x1.length ac1) := by rw [hNE]; simp [go_sem, hra1]
    have c33 : NE.cell? ⟨w.heap.size + 1, 2, none⟩ = some (.slice aa2 x2.length ac2) := by rw [hNE]; simp [go_sem, hra2]
    have c44 : NE.cell? ⟨w.heap.size + 1 + 1, 0, none⟩ = some (.bool pb) := by rw [hNE]; simp [go_sem, hrb0]
    have c55 : NE.cell? ⟨w.heap.size + 1 + 1, 1, none⟩ = some (.slice ab1 y1.length bc1) := by rw [hNE]; simp [go_sem, hrb1]
    have c66 : NE.cell? ⟨w.heap.size + 1 + 1, 2, none⟩ = some (.slice ab2 y2.length bc2) := by rw [hNE]; simp [go_sem, hrb2]
    rw [← hNE]
    have gS := fun {v : Value} {xs : List Int} (h : SlI (w.heap.size + 1 + 1 + 1 + 1) w6.heap.size w6 v xs) => ((h.same (w' := NE) (fun b h1 _ _ => hEQ b h1)).mono (show w.heap.size ≤ w.heap.size + 1 + 1 + 1 + 1 by omega) (show w6.heap.size ≤ NE.heap.size from Nat.le_of_eq hsz.symm))
    have g1 := gS hsv3
    have g2 := gS sX1
    have g3 := gS sX2
    have g4 := gS sY1
    have g5 := gS sY2
    clear gS hEQ hNE hr0 hra0 hra1 hra2 hrb0 hrb1 hrb2
    go_wp2_with fail
    exact bodyPost_ret (v := .tuple #[.agg #[.slice sa ar.length sc], .agg #[.bool pa, .slice aa1 x1.length ac1, .slice aa2 x2.length ac2], .agg #[.bool pb, .slice ab1 y1.length bc1, .slice ab2 y2.length bc2]]) (by simp [results, Tryz.results23, go_sem, c00, c11, c22, c33, c44, c55, c66]) rfl ⟨_, _, _, _, _, ar, (pa, x1, x2), (pb, y1, y2), rfl, hdr, g1, ⟨g2, g3⟩, ⟨g4, g5⟩, ⟨hl1, hl2, hm1, hm2⟩, hBF⟩
end Go.Proofs.YteegjnobmbcjiaaGreatDoor
end
section
/- Contracts of chapter 4 with the answers named, for FnMaximal. -/
namespace Go.Proofs.YteegjnobmbcjiaaGreatDoor
open Go.RowKit

theorem max_ok {ar : List Int} {c : List Lt} {l : List Int} (hM : maxAns ar c = l) : ∀ j, j < l.length → ∃ k : Nat, l.getD j 0 = (k : Int) ∧ k < c.length ∧ ∀ i, i < c.length → litsOk ar (c.getD i lt0) (c.getD k lt0) = true ∧ (litsAns ar (c.getD i lt0) (c.getD k lt0) = 1 → i = k) := by
  intro j hj
  unfold maxAns at hM
  cases hg : goodClause ar c with
  | false => rw [hg, if_neg (by simp)] at hM; subst hM; simp at hj
  | true =>
    rw [hg, if_pos rfl] at hM
    subst hM
    rw [natsI_len] at hj
    have hm : (maxC c)[j] ∈ maxC c := List.getElem_mem hj
    obtain ⟨h1, h2⟩ := maxC_mem.1 hm
    obtain ⟨g1, g2, g3⟩ := goodClause_iff.1 hg
    refine ⟨(maxC c)[j], by simp [natsI, List.getD, hj], h1, fun i hi => ?_⟩
    have hok : litsOk ar (c.getD i lt0) (c.getD (maxC c)[j] lt0) = true := by
      unfold litsOk
      rw [g1, g3 _ (mem_getD c lt0 i hi), g3 _ (mem_getD c lt0 _ h1)]; rfl
    refine ⟨hok, fun h => ?_⟩
    unfold litsAns at h
    rw [if_pos hok] at h
    rcases h2 i hi with e | e
    · exact e
    · exact absurd h e
theorem max_some {ar : List Int} {c : List Lt} {l : List Int} (hM : maxAns ar c = l) (hg : goodClause ar c = true) (hc : 0 < c.length) : 0 < l.length := by
  unfold maxAns at hM
  rw [hg, if_pos rfl] at hM
  subst hM
  rw [natsI_len]
  have := maxC_ne (c := c) (fun h => by rw [h] at hc; simp at hc)
  exact List.length_pos_iff.2 this
theorem held_sub_ok {ar : List Int} {b : List (List Int)} {c d : List Lt} {Z : Int} {tb : List (List Int)} {f1 f2 h1 h2 : Bool} (hok : applyCok ar b c = true) (hA : applyCAns ar b c = d) (hw : goodSign ar = true → isWorld ar Z tb = true)
    (e1 : falseOk ar Z tb c = f1) (e2 : falseOk ar Z tb d = f2) (e3 : heldAns ar Z tb c = h1) (e4 : heldAns ar Z tb d = h2) (k1 : f1 = true) (k2 : f2 = true) (k3 : h1 = true) : h2 = true := by
  unfold applyCAns at hA
  rw [if_pos hok] at hA
  subst hA
  unfold applyCok at hok
  obtain ⟨hbc, hi⟩ := Bool.and_eq_true_iff.1 hok
  obtain ⟨hb, hc⟩ := Bool.and_eq_true_iff.1 hbc
  obtain ⟨hg, hl, hbs⟩ := goodSubst_iff.1 hb
  subst e1 e2 e3 e4
  unfold heldAns at k3 ⊢
  rw [if_pos k1] at k3
  rw [if_pos k2]
  refine heldC_sub hg (hw hg) (okLits_iff.1 hc).2 (fun v hv hp => ?_) (okLits_iff.1 hi).2 k3
  have h := hbs _ (mem_getD b [] v (by omega))
  unfold okEmpty at h
  rcases Bool.or_eq_true_iff.1 h with h | h
  · have : (b.getD v []).length = 0 := by simpa using h
    omega
  · exact h
theorem iMaximalIn_vv {l h l' h' : Nat} {v u : Value} {ar : List Int} {c : List Lt} {w : World} (hT : Tab w) (ha : ar.length ≤ 1048576) (hv : SlI l h w v ar) (hc : sumC c ≤ 1048576) (hu : SlC l' h' w u c) {y : List Int} {k : Bool} (e1 : maxAns ar c = y) (e2 : goodClause ar c = k) :
    Calls Tryz.prog 19 #[.agg #[v], u] w (RetIB w y k) := by subst e1 e2; exact iMaximalIn_t hT ha hv hc hu
theorem iCompareLits_vv {l h l' h' l2 h2 : Nat} {v u1 u2 q1 q2 : Value} {ar : List Int} {x y : Lt} {w : World} (hT : Tab w) (ha : ar.length ≤ 1048576) (hv : SlI l h w v ar) (hx : x.2.1.length + x.2.2.length ≤ 1048576) (s1 : SlI l' h' w u1 x.2.1) (s2 : SlI l' h' w u2 x.2.2) (hy : y.2.1.length + y.2.2.length ≤ 1048576) (t1 : SlI l2 h2 w q1 y.2.1) (t2 : SlI l2 h2 w q2 y.2.2) {z : Int} {k : Bool} (e1 : litsAns ar x y = z) (e2 : litsOk ar x y = k) :
    Calls Tryz.prog 22 #[.agg #[v], .agg #[.bool x.1, u1, u2], .agg #[.bool y.1, q1, q2]] w (RetV w (.tuple #[.int .i64 z, .bool k])) := by subst e1 e2; exact iCompareLits_t hT ha hv hx s1 s2 hy t1 t2
theorem iApplyClause_vv {l h l' h' l2 h2 : Nat} {v u x : Value} {ar : List Int} {b : List (List Int)} {c : List Lt} {w : World} (ha : ar.length ≤ 1048576) (hv : SlI l h w v ar) (hb : short b) (hu : SlS l' h' w u b) (hc : sumC c ≤ 1048576) (hx : SlC l2 h2 w x c) {y : List Lt} {k : Bool} (e1 : applyCAns ar b c = y) (e2 : applyCok ar b c = k) :
    Calls Tryz.prog 26 #[.agg #[v], u, x] w (RetCB w y k) := by subst e1 e2; exact iApplyClause_t ha hv hb hu hc hx
theorem sMaximalIn_vv {l h l' h' : Nat} {v u : Value} {ar : List Int} {c : List Lt} {w : World} (ha : ar.length ≤ 1048576) (hv : SlI l h w v ar) (hc : sumC c ≤ 1048576) (hu : SlC l' h' w u c) {y : List Int} {k : Bool} (e1 : maxAns ar c = y) (e2 : goodClause ar c = k) :
    Calls Tryz.prog 20 #[.agg #[v], u] w (RetIB w y k) := by subst e1 e2; exact sMaximalIn_t ha hv hc hu
theorem sCompareLits_vv {l h l' h' l2 h2 : Nat} {v u1 u2 q1 q2 : Value} {ar : List Int} {x y : Lt} {w : World} (ha : ar.length ≤ 1048576) (hv : SlI l h w v ar) (hx : x.2.1.length + x.2.2.length ≤ 1048576) (s1 : SlI l' h' w u1 x.2.1) (s2 : SlI l' h' w u2 x.2.2) (hy : y.2.1.length + y.2.2.length ≤ 1048576) (t1 : SlI l2 h2 w q1 y.2.1) (t2 : SlI l2 h2 w q2 y.2.2) {z : Int} {k : Bool} (e1 : litsAns ar x y = z) (e2 : litsOk ar x y = k) :
    Calls Tryz.prog 24 #[.agg #[v], .agg #[.bool x.1, u1, u2], .agg #[.bool y.1, q1, q2]] w (RetV w (.tuple #[.int .i64 z, .bool k])) := by subst e1 e2; exact sCompareLits_t ha hv hx s1 s2 hy t1 t2
theorem sApplyClause_vv {l h l' h' l2 h2 : Nat} {v u x : Value} {ar : List Int} {b : List (List Int)} {c : List Lt} {w : World} (ha : ar.length ≤ 1048576) (hv : SlI l h w v ar) (hb : short b) (hu : SlS l' h' w u b) (hc : sumC c ≤ 1048576) (hx : SlC l2 h2 w x c) {y : List Lt} {k : Bool} (e1 : applyCAns ar b c = y) (e2 : applyCok ar b c = k) :
    Calls Tryz.prog 27 #[.agg #[v], u, x] w (RetCB w y k) := by subst e1 e2; exact sApplyClause_t ha hv hb hu hc hx
end Go.Proofs.YteegjnobmbcjiaaGreatDoor
end
section
/- The door: what the listed table gives, and a world for the witness. -/
namespace Go.Proofs.YteegjnobmbcjiaaGreatDoor
open Go.ChangeShapes Go.WideShapes Go.ChangeAt Go.RowKit

theorem tab_of_laid {W : World} (h : laidMetH Tryz.prog [("loop.example/g00682/impl.weights", Rows.laid_loop_example_g00682_impl_weights)] W) : Tab W := by
  have g1 : Tryz.prog.globalNamed "loop.example/g00682/impl.weights" = some 0 := by kernel_rfl
  have g2 : (Tryz.prog.globals[0]?).map (·.type) = some 181 := by kernel_rfl
  have g3 : Tryz.prog.cellsOf 181 = 2 := by kernel_rfl
  have g4 : Tryz.prog.cellsOf 3 = 1 := by kernel_rfl
  have ht : Lib.TabIs Tryz.prog W "loop.example/g00682/impl.weights" .i64 [1, 1] := Lib.tabIs_of_head (rest := []) g1 g2 Tryz.underlying181 Tryz.underlying3 g4 g3 h
  exact ⟨ht.cell g1 0 (by decide), ht.cell g1 1 (by decide)⟩

/-- A world for the witness: the settled one, the table as its text lays it. -/
noncomputable def laidWorld (os : Os) : World :=
  { World.holding Tryz.prog os ⟨#[], #[], []⟩ with heap := (World.holding Tryz.prog os ⟨#[], #[], []⟩).heap.modify 0 fun
      | .cells _ t frozen => .cells #[.int .i64 1, .int .i64 1] t frozen
      | o => o }
theorem laid_met (os : Os) (args : Array Value) : laidMet Tryz.prog [("loop.example/g00682/impl.weights", Rows.laid_loop_example_g00682_impl_weights)] ((laidWorld os).forCall (fun _ _ => 0) ⟨#[], args, []⟩).memory :=
  laidMet_of_run' 8 (by kernel_rfl) (by kernel_rfl)
end Go.Proofs.YteegjnobmbcjiaaGreatDoor
end
