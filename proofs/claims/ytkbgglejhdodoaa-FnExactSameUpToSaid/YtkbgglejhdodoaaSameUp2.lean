/- SameUpTo: the reference's. -/
import Derived.Test.YtkbgglejhdodoaaSameUp
namespace Go.Proofs.Ytkbgglejhdodoaa
open Go.RowKit

/-- A slice of slices somewhere. -/
def ExS (w : World) (v : Value) (xss : List (List Int)) : Prop := ∃ lo hi, SlS lo hi w v xss
theorem ExS.below {w w' : World} {v : Value} {xss : List (List Int)} (h : ExS w v xss) (hb : Bel w w') : ExS w' v xss := h.elim fun lo h => h.elim fun hi h => ⟨lo, hi, h.below hb⟩
theorem ExS.alloc {w : World} {v : Value} {xss : List (List Int)} (h : ExS w v xss) (o : Obj) : ExS (w.alloc o) v xss := h.below (Bel.alloc0 w o)
theorem ExS.one {w : World} {va : Value} {a : List Int} {lo hi B : Nat} (h : SlI lo hi w va a) (T : TypeId) (hB : B = w.heap.size) : ExS (w.alloc (.cells #[va] T)) (.slice (some ⟨B, 0, none⟩) 1 1) [a] := ⟨_, _, SlS.one' h T hB⟩
theorem rows_one {ar a : List Int} (h : okTerm ar a = true) : rows40 [a] := by
  refine ⟨by simp, fun j hj => ?_⟩
  obtain rfl : j = 0 := by simp at hj; omega
  exact ⟨((okTerm_iff _ _).1 h).2.1, okTerm_low h⟩
set_option maxRecDepth 100000 in
set_option maxHeartbeats 4000000 in
theorem sSameUpTo_t {l h l' h' l2 h2 : Nat} {v x y : Value} {ar a b : List Int} {w : World} (ha : ar.length ≤ 1048576) (hv : SlI l h w v ar) (hal : a.length ≤ 1048576) (hx : SlI l' h' w x a) (hbl : b.length ≤ 1048576) (hy : SlI l2 h2 w y b) :
    Calls Try.prog 24 #[.agg #[v], x, y] w (RetV w (.tuple #[.bool (sameAns ar a b), .bool (sameOk ar a b)])) := by
  obtain ⟨xa, xc, rfl⟩ := hx.form
  obtain ⟨ya, yc, rfl⟩ := hy.form
  cases h1 : goodTerm ar a with
  | false =>
    have e0 : sameOk ar a b = false := by simp [sameOk, renameOk_one, h1]
    have E2 := Lib.hid e0
    have E : Hid (sameAns ar a b = false) := by show _ = _; simp [sameAns, e0]
    have H1 := Lib.hid h1
    clear h1 e0
    simp only [E.out, E2.out]
    go_enter Try.func24, Try.ntmps24
    go_wp2_with fail
    refine (sGoodTerm_v _ _ _ _ _ _ _ _ _ _ H1.out ha hal (hv.alloc _) (hx.alloc _)).mono ?_; rintro e w1 ⟨rfl, hb1⟩
    go_wp2_with fail
    go_ret2
    exact ⟨rfl, hb1.of_alloc⟩
  | true =>
    obtain ⟨hg, hoa⟩ := goodTerm_iff.1 h1
    cases h2 : okTerm ar b with
    | false =>
      have e0 : sameOk ar a b = false := by simp [sameOk, renameOk_one, goodTerm, h2]
      have E2 := Lib.hid e0
      have E : Hid (sameAns ar a b = false) := by show _ = _; simp [sameAns, e0]
      have H1 := Lib.hid (And.intro h1 h2)
      clear h1 h2 e0 hoa
      simp only [E.out, E2.out]
      go_enter Try.func24, Try.ntmps24
      go_wp2_with fail
      refine (sGoodTerm_v _ _ _ _ _ _ _ _ _ _ H1.out.1 ha hal (hv.alloc _) (hx.alloc _)).mono ?_; rintro e w1 ⟨rfl, hb1⟩
      have hx1 := boxc hb1 0 _ rfl
      go_wp2_with fail
      refine (l1Term_v _ _ _ _ _ _ _ _ _ _ H1.out.2 hg hbl (hv.below hb1.of_alloc) (hy.below hb1.of_alloc)).mono ?_; rintro e w2 ⟨rfl, hb2⟩
      go_wp2_with fail
      go_ret2
      exact ⟨rfl, (hb1.step hb2).of_alloc⟩
    | true =>
      have e0 : sameOk ar a b = true := by simp [sameOk, renameOk_one, goodTerm, h2, hg, hoa]
      have E2 := Lib.hid e0
      have E : Hid (sameAns ar a b = decide (renT [] a = renT [] b)) := by show _ = _; simp [sameAns, e0]
      have hl1 : (renT [] a).length ≤ 1048576 := by rw [renT_len]; exact hal
      have hl2 : (renT [] b).length ≤ 1048576 := by rw [renT_len]; exact hbl
      have hrA := rows_one hoa
      have hrB := rows_one h2
      have H1 := Lib.hid (And.intro h1 h2)
      clear h1 h2 e0 hoa
      simp only [E.out, E2.out]
      go_enter Try.func24, Try.ntmps24
      go_wp2_with fail
      refine (sGoodTerm_v _ _ _ _ _ _ _ _ _ _ H1.out.1 ha hal (hv.alloc _) (hx.alloc _)).mono ?_; rintro e w1 ⟨rfl, hb1⟩
      have hx1 := boxc hb1 0 _ rfl
      go_wp2_with fail
      refine (l1Term_v _ _ _ _ _ _ _ _ _ _ H1.out.2 hg hbl (hv.below hb1.of_alloc) (hy.below hb1.of_alloc)).mono ?_; rintro e w2 ⟨rfl, hb2⟩
      have hbb := (hb1.step hb2).of_alloc
      have HX := Lib.hid (fun w' (h : Bel w2 w') => hx.below (hbb.step h))
      have HY := Lib.hid (fun w' (h : Bel w2 w') => hy.below (hbb.step h))
      have HL := Lib.hid (fun (w' : World) (v : Value) (t : List Int) (h1 : rows40 [t]) (h2 : ExS w' v [t]) => show Calls Try.prog 54 #[v] w' (RetSS w' [renT [] t]) from h2.elim fun lo h3 => h3.elim fun hi h4 => l2Rename_c lo hi v [t] w' h1 h4)
      clear hx hy hv hb1 hb2 hx1
      go_wp2_with fail
      go_region_with (first | (go_at_call 54; have hchk := hA2; clear hchk; refine Calls.mono (HL.out _ _ b hrB (by (repeat (first | exact ExS.one (HY.out _ (by (repeat (first | exact Bel.rfl' _ | exact hA2 | exact hB2 | refine Bel.drew ?_ | refine Bel.alloc ?_ _)))) _ (by first | rfl | simp) | refine ExS.below ?_ (Bel.drew0 _) | refine ExS.alloc ?_ _ | refine ExS.below ?_ hbA | refine ExS.below ?_ hbB)))) ?_; rintro e wB ⟨aB, nB, cB, rfl, hoB, hbB⟩; obtain ⟨bB, oB, pB, rfl, hzB, hcB, hpB⟩ := hoB.sl.at (Bel.rfl' _) 0 (by simp); have hnB := hoB.sl.len; simp at hnB; subst hnB; simp only [List.getD, List.getElem?_cons_zero, Option.getD_some] at hpB; rw [Nat.add_zero] at hcB; have hB2 : Bel w2 wB := Bel.step (by (repeat (first | exact Bel.rfl' _ | exact hA2 | exact hB2 | refine Bel.drew ?_ | refine Bel.alloc ?_ _))) hbB; have hcB1 := fun o => (Bel.alloc0 wB o).at hzB hcB; try (have hxA : Bel wA wB := (by repeat (first | exact hbB | exact Bel.of_drew (by first | exact hbB | exact hbB.of_alloc | exact hbB.of_drew) | exact Bel.of_alloc (by first | exact hbB | exact hbB.of_drew | exact hbB.of_alloc))); have hcA3 := hxA.at hzA hcA)) | (go_at_call 54; refine Calls.mono (HL.out _ _ a hrA (by (repeat (first | exact ExS.one (HX.out _ (by (repeat (first | exact Bel.rfl' _ | exact hA2 | exact hB2 | refine Bel.drew ?_ | refine Bel.alloc ?_ _)))) _ (by first | rfl | simp) | refine ExS.below ?_ (Bel.drew0 _) | refine ExS.alloc ?_ _ | refine ExS.below ?_ hbA | refine ExS.below ?_ hbB)))) ?_; rintro e wA ⟨aA, nA, cA, rfl, hoA, hbA⟩; obtain ⟨bA, oA, pA, rfl, hzA, hcA, hpA⟩ := hoA.sl.at (Bel.rfl' _) 0 (by simp); have hnA := hoA.sl.len; simp at hnA; subst hnA; simp only [List.getD, List.getElem?_cons_zero, Option.getD_some] at hpA; rw [Nat.add_zero] at hcA; have hA2 : Bel w2 wA := Bel.step (by (repeat (first | exact Bel.rfl' _ | exact hA2 | exact hB2 | refine Bel.drew ?_ | refine Bel.alloc ?_ _))) hbA; have hcA1 := fun o => (Bel.alloc0 wA o).at hzA hcA; try (have hxB : Bel wB wA := (by repeat (first | exact hbA | exact Bel.of_drew (by first | exact hbA | exact hbA.of_alloc | exact hbA.of_drew) | exact Bel.of_alloc (by first | exact hbA | exact hbA.of_drew | exact hbA.of_alloc))); have hcB3 := hxB.at hzB hcB)) | (go_at_call 59; refine Calls.mono (l1Same_c _ _ _ _ _ _ (renT [] a) (renT [] b) _ hl1 hl2 (by first | exact hpA | exact hpA.below hxA) (by first | exact hpB | exact hpB.below hxB)) ?_; rintro e wS ⟨rfl, hbS⟩))
      all_goals
        go_wp2_with fail
        go_ret2
        exact ⟨rfl, hbb.step (by first | exact hA2.step hbS | exact hB2.step hbS)⟩
end Go.Proofs.Ytkbgglejhdodoaa
