/- Texts merged, part 9. -/
import Derived.Laws.BytesString
import Derived.Test.YtkbgglejhdodoaaMgTexts8
section
/- SameUpTo: the program's. -/
namespace Go.Proofs.Ytkbgglejhdodoaa
open Go.RowKit

theorem SlS.one {w : World} {va : Value} {a : List Int} {lo hi : Nat} (h : SlI lo hi w va a) (T : TypeId) : SlS 0 (w.alloc (.cells #[va] T)).heap.size (w.alloc (.cells #[va] T)) (.slice (some ⟨w.heap.size, 0, none⟩) 1 1) [a] := by
  refine ⟨_, 1, rfl, Nat.le_refl _, ⟨by unfold maxLen; omega, fun h => by simp at h⟩, fun _ => ⟨w.heap.size, 0, rfl, Nat.zero_le _, by simp, fun j hj => ?_⟩⟩
  obtain rfl : j = 0 := by simp at hj; omega
  refine ⟨va, ?_, ?_⟩
  · rw [World.cell?_alloc_new w]; rfl
  · have := (h.in').alloc (.cells #[va] T)
    exact this.mono (Nat.le_refl _) (by simp)
theorem SlS.one' {w : World} {va : Value} {a : List Int} {lo hi B : Nat} (h : SlI lo hi w va a) (T : TypeId) (hB : B = w.heap.size) : SlS 0 (w.alloc (.cells #[va] T)).heap.size (w.alloc (.cells #[va] T)) (.slice (some ⟨B, 0, none⟩) 1 1) [a] := hB ▸ SlS.one h T
theorem short_one {a : List Int} (h : a.length ≤ 1048576) : short [a] := by
  refine ⟨by simp, fun j hj => ?_⟩
  obtain rfl : j = 0 := by simp at hj; omega
  simpa [List.getD] using h
def sameOk (ar a b : List Int) : Bool := renameOk ar [a] && renameOk ar [b]
def sameAns (ar a b : List Int) : Bool := sameOk ar a b && decide (renT [] a = renT [] b)
theorem rename_one {ar a : List Int} (h : renameOk ar [a] = true) : renameAns ar [a] = [renT [] a] := by rw [renameAns_yes h]; simp [renS]
theorem renameOk_one {ar a : List Int} : renameOk ar [a] = goodTerm ar a := by simp [renameOk, goodTerm]

set_option maxRecDepth 100000 in
set_option maxHeartbeats 400000 in
theorem iSameUpTo_t {l h l' h' l2 h2 : Nat} {v x y : Value} {ar a b : List Int} {w : World} (ha : ar.length ≤ 1048576) (hv : SlI l h w v ar) (hal : a.length ≤ 1048576) (hx : SlI l' h' w x a) (hbl : b.length ≤ 1048576) (hy : SlI l2 h2 w y b) :
    Calls Try.prog 22 #[.agg #[v], x, y] w (RetV w (.tuple #[.bool (sameAns ar a b), .bool (sameOk ar a b)])) := by
  obtain ⟨xa, xc, rfl⟩ := hx.form
  obtain ⟨ya, yc, rfl⟩ := hy.form
  have HA := Lib.hid (fun (w' : World) (la ha2 lb hb2 : Nat) (u : Value) (t : List Int) (h1 : SlI la ha2 w' v ar) (h2 : t.length ≤ 1048576) (h3 : SlS lb hb2 w' u [t]) => iRenameOf_t ha h1 (short_one h2) h3)
  cases h1 : renameOk ar [a] with
  | false =>
    have E : Hid (sameAns ar a b = false) := by show _ = _; simp [sameAns, sameOk, h1]
    have E2 : Hid (sameOk ar a b = false) := by show _ = _; simp [sameOk, h1]
    simp only [E.out, E2.out]
    generalize hq2 : renameOk ar [b] = q2
    have H1 := Lib.hid (And.intro h1 hq2)
    clear h1 hq2
    go_enter Try.func22, Try.ntmps22
    go_wp2_with fail
    refine (HA.out _ _ _ _ _ _ a ((hv.alloc _).alloc _) hal (SlS.one' (hx.alloc _) _ (by simp))).mono ?_; rintro e w1 ⟨a1, n1, c1, rfl, ho1, hb1⟩
    have hx1 := boxc hb1.of_alloc 0 _ rfl
    go_wp2_with fail
    refine (HA.out _ _ _ _ _ _ b (((hv.alloc _).below hb1.of_alloc).alloc _) hbl (SlS.one' ((hy.alloc _).below hb1.of_alloc) _ (by simp))).mono ?_; rintro e w2 ⟨a2, n2, c2, rfl, ho2, hb2⟩
    rw [H1.out.1]
    rw [H1.out.2]
    go_wp2_with fail
    go_ret2
    exact ⟨rfl, (hb1.of_alloc.of_alloc).step hb2.of_alloc⟩
  | true =>
    have e1 := rename_one h1
    cases h2 : renameOk ar [b] with
    | false =>
      have E : Hid (sameAns ar a b = false) := by show _ = _; simp [sameAns, sameOk, h2]
      have E2 : Hid (sameOk ar a b = false) := by show _ = _; simp [sameOk, h2]
      simp only [E.out, E2.out]
      have H1 := Lib.hid (And.intro h1 h2)
      clear h1 h2 e1
      go_enter Try.func22, Try.ntmps22
      go_wp2_with fail
      refine (HA.out _ _ _ _ _ _ a ((hv.alloc _).alloc _) hal (SlS.one' (hx.alloc _) _ (by simp))).mono ?_; rintro e w1 ⟨a1, n1, c1, rfl, ho1, hb1⟩
      have hx1 := boxc hb1.of_alloc 0 _ rfl
      go_wp2_with fail
      refine (HA.out _ _ _ _ _ _ b (((hv.alloc _).below hb1.of_alloc).alloc _) hbl (SlS.one' ((hy.alloc _).below hb1.of_alloc) _ (by simp))).mono ?_; rintro e w2 ⟨a2, n2, c2, rfl, ho2, hb2⟩
      rw [H1.out.1]
      rw [H1.out.2]
      go_wp2_with fail
      go_ret2
      exact ⟨rfl, (hb1.of_alloc.of_alloc).step hb2.of_alloc⟩
    | true =>
      have e2 := rename_one h2
      have E : Hid (sameAns ar a b = decide (renT [] a = renT [] b)) := by show _ = _; simp [sameAns, sameOk, h1, h2]
      have E2 : Hid (sameOk ar a b = true) := by show _ = _; simp [sameOk, h1, h2]
      simp only [E.out, E2.out]
      have hl1 : (renT [] a).length ≤ 1048576 := by rw [renT_len]; exact hal
      have hl2 : (renT [] b).length ≤ 1048576 := by rw [renT_len]; exact hbl
      have H1 := Lib.hid (And.intro (And.intro h1 e1) (And.intro h2 e2))
      clear h1 h2 e1 e2
      go_enter Try.func22, Try.ntmps22
      go_wp2_with fail
      refine (HA.out _ _ _ _ _ _ a ((hv.alloc _).alloc _) hal (SlS.one' (hx.alloc _) _ (by simp))).mono ?_; rintro e w1 ⟨a1, n1, c1, rfl, ho1, hb1⟩
      have hx1 := boxc hb1.of_alloc 0 _ rfl
      go_wp2_with fail
      refine (HA.out _ _ _ _ _ _ b (((hv.alloc _).below hb1.of_alloc).alloc _) hbl (SlS.one' ((hy.alloc _).below hb1.of_alloc) _ (by simp))).mono ?_; rintro e w2 ⟨a2, n2, c2, rfl, ho2, hb2⟩
      rw [H1.out.1.1]
      rw [H1.out.2.1]
      rw [H1.out.1.2] at ho1
      rw [H1.out.2.2] at ho2
      obtain ⟨b1, o1, p1, rfl, hz1, hc1, hp1⟩ := (ho1.sl.below hb2.of_alloc).at (Bel.rfl' _) 0 (by simp)
      obtain ⟨b2, o2, p2, rfl, hz2, hc2, hp2⟩ := ho2.sl.at (Bel.rfl' _) 0 (by simp)
      have hn1 := ho1.sl.len
      have hn2 := ho2.sl.len
      simp at hn1 hn2
      subst hn1 hn2
      simp only [List.getD, List.getElem?_cons_zero, Option.getD_some] at hp1 hp2
      rw [Nat.add_zero] at hc1 hc2
      have HC := Lib.hid (fun w' (h : Bel w2 w') => slEqual_c _ _ _ _ _ _ _ _ _ hl1 hl2 (hp1.below h) (hp2.below h))
      have hbb := (hb1.of_alloc.of_alloc).step hb2.of_alloc
      clear hp1 hp2 ho1 ho2 hb1 hb2 hl1 hl2
      go_wp2_with fail
      go_region_held3 (fun w' => Bel w2 w' ∧ w'.cell? ⟨b1, o1, none⟩ = some p1 ∧ w'.cell? ⟨b2, o2, none⟩ = some p2)
        (first | exact ⟨Bel.drew0 _, hc1, hc2⟩ | exact ⟨hb3.of_drew, hb3.of_drew.at hz1 hc1, hb3.of_drew.at hz2 hc2⟩)
        (first | (go_at_call 56; refine (HC.out _ (Bel.drew0 _)).mono ?_; rintro e w3 ⟨rfl, hb3⟩))
      go_wp2_with fail
      go_ret2
      exact ⟨rfl, hbb.step hb3.of_drew⟩
end Go.Proofs.Ytkbgglejhdodoaa
end
section
/- SameUpTo: the reference's. -/
namespace Go.Proofs.Ytkbgglejhdodoaa
open Go.RowKit

/-- A slice of slices somewhere. -/
def ExS (w : World) (v : Value) (xss : List (List Int)) : Prop := ∃ lo hi, SlS lo hi w v xss
theorem ExS.below {w w' : World} {v : Value} {xss : List (List Int)} (h : ExS w v xss) (hb : Bel w w') : ExS w' v xss := h.elim fun lo h => h.elim fun hi h => ⟨lo, hi, h.below hb⟩
theorem ExS.alloc {w : World} {v : Value} {xss : List (List Int)} (h : ExS w v xss) (o : Obj) : ExS (w.alloc o) v xss := h.below (Bel.alloc0 w o)
theorem ExS.one {w : World} {va : Value} {a : List Int} {lo hi B : Nat} (h : SlI lo hi w va a) (T : TypeId) (hB : B = w.heap.size) : ExS (w.alloc (.cells #[va] T)) (.slice (some ⟨B, 0, none⟩) 1 1) [a] := ⟨_, _, SlS.one' h T hB⟩
theorem rows_one {ar a : List Int} (h : okTerm ar a = true) : rows40 [a] := by
  refine ⟨by simp, fun j hj => ?_⟩
  obtain rfl : j = 0 := by simp at hj; omega
  exact ⟨((okTerm_iff _ _).1 h).2.1, okTerm_low h⟩
set_option maxRecDepth 100000 in
set_option maxHeartbeats 4000000 in
theorem sSameUpTo_t {l h l' h' l2 h2 : Nat} {v x y : Value} {ar a b : List Int} {w : World} (ha : ar.length ≤ 1048576) (hv : SlI l h w v ar) (hal : a.length ≤ 1048576) (hx : SlI l' h' w x a) (hbl : b.length ≤ 1048576) (hy : SlI l2 h2 w y b) :
    Calls Try.prog 24 #[.agg #[v], x, y] w (RetV w (.tuple #[.bool (sameAns ar a b), .bool (sameOk ar a b)])) := by
  obtain ⟨xa, xc, rfl⟩ := hx.form
  obtain ⟨ya, yc, rfl⟩ := hy.form
  cases h1 : goodTerm ar a with
  | false =>
    have e0 : sameOk ar a b = false := by simp [sameOk, renameOk_one, h1]
    have E2 := Lib.hid e0
    have E : Hid (sameAns ar a b = false) := by show _ = _; simp [sameAns, e0]
    have H1 := Lib.hid h1
    clear h1 e0
    simp only [E.out, E2.out]
    go_enter Try.func24, Try.ntmps24
    go_wp2_with fail
    refine (sGoodTerm_v _ _ _ _ _ _ _ _ _ _ H1.out ha hal (hv.alloc _) (hx.alloc _)).mono ?_; rintro e w1 ⟨rfl, hb1⟩
    go_wp2_with fail
    go_ret2
    exact ⟨rfl, hb1.of_alloc⟩
  | true =>
    obtain ⟨hg, hoa⟩ := goodTerm_iff.1 h1
    cases h2 : okTerm ar b with
    | false =>
      have e0 : sameOk ar a b = false := by simp [sameOk, renameOk_one, goodTerm, h2]
      have E2 := Lib.hid e0
      have E : Hid (sameAns ar a b = false) := by show _ = _; simp [sameAns, e0]
      have H1 := Lib.hid (And.intro h1 h2)
      clear h1 h2 e0 hoa
      simp only [E.out, E2.out]
      go_enter Try.func24, Try.ntmps24
      go_wp2_with fail
      refine (sGoodTerm_v _ _ _ _ _ _ _ _ _ _ H1.out.1 ha hal (hv.alloc _) (hx.alloc _)).mono ?_; rintro e w1 ⟨rfl, hb1⟩
      have hx1 := boxc hb1 0 _ rfl
      go_wp2_with fail
      refine (l1Term_v _ _ _ _ _ _ _ _ _ _ H1.out.2 hg hbl (hv.below hb1.of_alloc) (hy.below hb1.of_alloc)).mono ?_; rintro e w2 ⟨rfl, hb2⟩
      go_wp2_with fail
      go_ret2
      exact ⟨rfl, (hb1.step hb2).of_alloc⟩
    | true =>
      have e0 : sameOk ar a b = true := by simp [sameOk, renameOk_one, goodTerm, h2, hg, hoa]
      have E2 := Lib.hid e0
      have E : Hid (sameAns ar a b = decide (renT [] a = renT [] b)) := by show _ = _; simp [sameAns, e0]
      have hl1 : (renT [] a).length ≤ 1048576 := by rw [renT_len]; exact hal
      have hl2 : (renT [] b).length ≤ 1048576 := by rw [renT_len]; exact hbl
      have hrA := rows_one hoa
      have hrB := rows_one h2
      have H1 := Lib.hid (And.intro h1 h2)
      clear h1 h2 e0 hoa
      simp only [E.out, E2.out]
      go_enter Try.func24, Try.ntmps24
      go_wp2_with fail
      refine (sGoodTerm_v _ _ _ _ _ _ _ _ _ _ H1.out.1 ha hal (hv.alloc _) (hx.alloc _)).mono ?_; rintro e w1 ⟨rfl, hb1⟩
      have hx1 := boxc hb1 0 _ rfl
      go_wp2_with fail
      refine (l1Term_v _ _ _ _ _ _ _ _ _ _ H1.out.2 hg hbl (hv.below hb1.of_alloc) (hy.below hb1.of_alloc)).mono ?_; rintro e w2 ⟨rfl, hb2⟩
      have hbb := (hb1.step hb2).of_alloc
      have HX := Lib.hid (fun w' (h : Bel w2 w') => hx.below (hbb.step h))
      have HY := Lib.hid (fun w' (h : Bel w2 w') => hy.below (hbb.step h))
      have HL := Lib.hid (fun (w' : World) (v : Value) (t : List Int) (h1 : rows40 [t]) (h2 : ExS w' v [t]) => show Calls Try.prog 54 #[v] w' (RetSS w' [renT [] t]) from h2.elim fun lo h3 => h3.elim fun hi h4 => l2Rename_c lo hi v [t] w' h1 h4)
      clear hx hy hv hb1 hb2 hx1
      go_wp2_with fail
      go_region_with (first | (go_at_call 54; have hchk := hA2; clear hchk; refine Calls.mono (HL.out _ _ b hrB (by (repeat (first | exact ExS.one (HY.out _ (by (repeat (first | exact Bel.rfl' _ | exact hA2 | exact hB2 | refine Bel.drew ?_ | refine Bel.alloc ?_ _)))) _ (by first | rfl | simp) | refine ExS.below ?_ (Bel.drew0 _) | refine ExS.alloc ?_ _ | refine ExS.below ?_ hbA | refine ExS.below ?_ hbB)))) ?_; rintro e wB ⟨aB, nB, cB, rfl, hoB, hbB⟩; obtain ⟨bB, oB, pB, rfl, hzB, hcB, hpB⟩ := hoB.sl.at (Bel.rfl' _) 0 (by simp); have hnB := hoB.sl.len; simp at hnB; subst hnB; simp only [List.getD, List.getElem?_cons_zero, Option.getD_some] at hpB; rw [Nat.add_zero] at hcB; have hB2 : Bel w2 wB := Bel.step (by (repeat (first | exact Bel.rfl' _ | exact hA2 | exact hB2 | refine Bel.drew ?_ | refine Bel.alloc ?_ _))) hbB; have hcB1 := fun o => (Bel.alloc0 wB o).at hzB hcB; try (have hxA : Bel wA wB := (by repeat (first | exact hbB | exact Bel.of_drew (by first | exact hbB | exact hbB.of_alloc | exact hbB.of_drew) | exact Bel.of_alloc (by first | exact hbB | exact hbB.of_drew | exact hbB.of_alloc))); have hcA3 := hxA.at hzA hcA)) | (go_at_call 54; refine Calls.mono (HL.out _ _ a hrA (by (repeat (first | exact ExS.one (HX.out _ (by (repeat (first | exact Bel.rfl' _ | exact hA2 | exact hB2 | refine Bel.drew ?_ | refine Bel.alloc ?_ _)))) _ (by first | rfl | simp) | refine ExS.below ?_ (Bel.drew0 _) | refine ExS.alloc ?_ _ | refine ExS.below ?_ hbA | refine ExS.below ?_ hbB)))) ?_; rintro e wA ⟨aA, nA, cA, rfl, hoA, hbA⟩; obtain ⟨bA, oA, pA, rfl, hzA, hcA, hpA⟩ := hoA.sl.at (Bel.rfl' _) 0 (by simp); have hnA := hoA.sl.len; simp at hnA; subst hnA; simp only [List.getD, List.getElem?_cons_zero, Option.getD_some] at hpA; rw [Nat.add_zero] at hcA; have hA2 : Bel w2 wA := Bel.step (by (repeat (first | exact Bel.rfl' _ | exact hA2 | exact hB2 | refine Bel.drew ?_ | refine Bel.alloc ?_ _))) hbA; have hcA1 := fun o => (Bel.alloc0 wA o).at hzA hcA; try (have hxB : Bel wB wA := (by repeat (first | exact hbA | exact Bel.of_drew (by first | exact hbA | exact hbA.of_alloc | exact hbA.of_drew) | exact Bel.of_alloc (by first | exact hbA | exact hbA.of_drew | exact hbA.of_alloc))); have hcB3 := hxB.at hzB hcB)) | (go_at_call 59; refine Calls.mono (l1Same_c _ _ _ _ _ _ (renT [] a) (renT [] b) _ hl1 hl2 (by first | exact hpA | exact hpA.below hxA) (by first | exact hpB | exact hpB.below hxB)) ?_; rintro e wS ⟨rfl, hbS⟩))
      all_goals
        go_wp2_with fail
        go_ret2
        exact ⟨rfl, hbb.step (by first | exact hA2.step hbS | exact hB2.step hbS)⟩
end Go.Proofs.Ytkbgglejhdodoaa
end
section
/- Renaming: again is the same, and each list alone. -/
namespace Go.Proofs.Ytkbgglejhdodoaa
open Go.RowKit

theorem stepM_sub {met : List Int} {n x : Int} (h : x ∈ met) : x ∈ stepM met n := by unfold stepM; split; exact List.mem_append_left _ h; exact h
theorem metT_sub {x : Int} : ∀ (t met : List Int), x ∈ met → x ∈ metT met t
  | [], _, h => h
  | n :: t, met, h => metT_sub t (stepM met n) (stepM_sub h)
theorem metS_sub {x : Int} : ∀ (l : List (List Int)) (met : List Int), x ∈ met → x ∈ metS met l
  | [], _, h => h
  | t :: l, met, h => metS_sub l (metT met t) (metT_sub t met h)
theorem metT_has {x : Int} (hx : x < 0) : ∀ (t met : List Int), x ∈ t → x ∈ metT met t
  | n :: t, met, h => by
    rcases List.mem_cons.1 h with rfl | h
    · exact metT_sub t _ (stepM_mem met x hx)
    · exact metT_has hx t _ h
theorem metS_has {x : Int} (hx : x < 0) : ∀ (l : List (List Int)) (met : List Int) (t : List Int), t ∈ l → x ∈ t → x ∈ metS met l
  | s :: l, met, t, h, ht => by
    rcases List.mem_cons.1 h with rfl | h
    · exact metS_sub l _ (metT_has hx t met ht)
    · exact metS_has hx l _ t h ht
/-- More that is met turns no earlier place. -/
def Ext (a b : List Int) : Prop := ∃ c, b = a ++ c
theorem Ext.rfl' (a : List Int) : Ext a a := ⟨[], by simp⟩
theorem Ext.trans {a b c : List Int} (h : Ext a b) (k : Ext b c) : Ext a c := by obtain ⟨x, rfl⟩ := h; obtain ⟨y, rfl⟩ := k; exact ⟨x ++ y, by simp⟩
theorem stepM_ext (met : List Int) (n : Int) : Ext met (stepM met n) := by unfold stepM; split; exact ⟨[n], rfl⟩; exact Ext.rfl' _
theorem metT_ext : ∀ (t met : List Int), Ext met (metT met t)
  | [], met => Ext.rfl' met
  | n :: t, met => (stepM_ext met n).trans (metT_ext t _)
theorem metS_ext : ∀ (l : List (List Int)) (met : List Int), Ext met (metS met l)
  | [], met => Ext.rfl' met
  | t :: l, met => (metT_ext t met).trans (metS_ext l _)
theorem valM_ext {a b : List Int} {n : Int} (h : Ext a b) (hn : n < 0 → n ∈ a) : valM b n = valM a n := by
  obtain ⟨c, rfl⟩ := h
  unfold valM
  split
  · rename_i h0
    rw [List.idxOf_append, if_pos (hn h0)]
  · rfl
theorem renT_map {M : List Int} : ∀ (t met : List Int), Ext (metT met t) M → renT met t = t.map (valM M)
  | [], _, _ => rfl
  | n :: t, met, h => by
    have h1 : Ext (stepM met n) M := (metT_ext t _).trans h
    rw [renT, List.map_cons, renT_map t _ h, ← valM_ext h1 (fun hn => stepM_mem met n hn)]
theorem renS_map {M : List Int} : ∀ (l : List (List Int)) (met : List Int), Ext (metS met l) M → renS met l = l.map (fun t => t.map (valM M))
  | [], _, _ => rfl
  | t :: l, met, h => by
    rw [renS, List.map_cons, renS_map l _ h, renT_map t met ((metS_ext l _).trans h)]
/-- A renaming that is one to one on what is met. -/
structure Inj1 (σ : Int → Int) (S : List Int) : Prop where
  pos : ∀ n, ¬ n < 0 → σ n = n
  neg : ∀ n ∈ S, n < 0 → σ n < 0
  inj : ∀ m ∈ S, ∀ n ∈ S, σ m = σ n → m = n
theorem mem_map_inj {σ : Int → Int} {S : List Int} (h : Inj1 σ S) {met : List Int} (hm : ∀ x ∈ met, x ∈ S) {n : Int} (hn : n ∈ S) : σ n ∈ met.map σ ↔ n ∈ met := by
  rw [List.mem_map]
  constructor
  · rintro ⟨m, h1, h2⟩
    rw [h.inj n hn m (hm m h1) h2.symm]; exact h1
  · exact fun h1 => ⟨n, h1, rfl⟩
theorem idx_map_inj {σ : Int → Int} {S : List Int} (h : Inj1 σ S) : ∀ {met : List Int}, (∀ x ∈ met, x ∈ S) → ∀ {n : Int}, n ∈ S → (met.map σ).idxOf (σ n) = met.idxOf n
  | [], _, _, _ => rfl
  | m :: met, hm, n, hn => by
    rw [List.map_cons, List.idxOf_cons, List.idxOf_cons]
    by_cases e : m = n
    · subst e; simp
    · have e2 : σ m ≠ σ n := fun h2 => e (h.inj m (hm m List.mem_cons_self) n hn h2)
      have e3 : (σ m == σ n) = false := by simpa using e2
      have e4 : (m == n) = false := by simpa using e
      rw [e3, e4, idx_map_inj h (fun x hx => hm x (List.mem_cons_of_mem _ hx)) hn]
theorem stepM_map {σ : Int → Int} {S : List Int} (h : Inj1 σ S) {met : List Int} (hm : ∀ x ∈ met, x ∈ S) {n : Int} (hn : n < 0 → n ∈ S) : stepM (met.map σ) (σ n) = (stepM met n).map σ ∧ ∀ x ∈ stepM met n, x ∈ S := by
  by_cases h0 : n < 0
  · have hs := hn h0
    have h1 := h.neg n hs h0
    by_cases h2 : n ∈ met
    · rw [stepM_old h2, stepM_old ((mem_map_inj h hm hs).2 h2)]; exact ⟨rfl, hm⟩
    · rw [stepM_new h0 h2, stepM_new h1 (fun h3 => h2 ((mem_map_inj h hm hs).1 h3)), List.map_append]
      refine ⟨rfl, fun x hx => ?_⟩
      rcases List.mem_append.1 hx with h3 | h3
      · exact hm x h3
      · simp at h3; rw [h3]; exact hs
  · rw [h.pos n h0, stepM_sym h0, stepM_sym h0]; exact ⟨rfl, hm⟩
theorem renT_inj {σ : Int → Int} {S : List Int} (h : Inj1 σ S) : ∀ {t met : List Int}, (∀ x ∈ met, x ∈ S) → (∀ x ∈ t, x < 0 → x ∈ S) → renT (met.map σ) (t.map σ) = renT met t ∧ metT (met.map σ) (t.map σ) = (metT met t).map σ ∧ ∀ x ∈ metT met t, x ∈ S
  | [], met, hm, _ => ⟨rfl, rfl, hm⟩
  | n :: t, met, hm, ht => by
    obtain ⟨h1, h2⟩ := stepM_map h hm (ht n List.mem_cons_self)
    obtain ⟨a1, a2, a3⟩ := renT_inj h (t := t) h2 (fun x hx => ht x (List.mem_cons_of_mem _ hx))
    have hv : valM ((stepM met n).map σ) (σ n) = valM (stepM met n) n := by
      unfold valM
      by_cases h0 : n < 0
      · have hs := ht n List.mem_cons_self h0
        rw [if_pos h0, if_pos (h.neg n hs h0), idx_map_inj h h2 hs]
      · rw [h.pos n h0]
        rw [if_neg h0, if_neg h0]
    refine ⟨?_, ?_, a3⟩
    · rw [List.map_cons, renT, renT, h1, hv, a1]
    · show metT (stepM (met.map σ) (σ n)) (t.map σ) = _
      rw [h1, a2]; rfl
theorem renS_inj {σ : Int → Int} {S : List Int} (h : Inj1 σ S) : ∀ {l : List (List Int)} {met : List Int}, (∀ x ∈ met, x ∈ S) → (∀ t ∈ l, ∀ x ∈ t, x < 0 → x ∈ S) → renS (met.map σ) (l.map fun t => t.map σ) = renS met l
  | [], _, _, _ => rfl
  | t :: l, met, hm, hl => by
    obtain ⟨a1, a2, a3⟩ := renT_inj h (t := t) hm (hl t List.mem_cons_self)
    rw [List.map_cons, renS, renS, a1, a2, renS_inj h a3 (fun s hs => hl s (List.mem_cons_of_mem _ hs))]
theorem metT_nodup : ∀ (t met : List Int), met.Nodup → (metT met t).Nodup
  | [], _, h => h
  | n :: t, met, h => metT_nodup t _ (by
      unfold stepM
      split
      · rename_i h0
        rw [List.nodup_append]
        exact ⟨h, by simp, fun a ha b hb => by simp at hb; subst hb; intro e; subst e; exact h0.2 ha⟩
      · exact h)
theorem metS_nodup : ∀ (l : List (List Int)) (met : List Int), met.Nodup → (metS met l).Nodup
  | [], _, h => h
  | t :: l, met, h => metS_nodup l _ (metT_nodup t met h)
theorem metT_of {x : Int} : ∀ (t met : List Int), x ∈ metT met t → x ∈ met ∨ (x ∈ t ∧ x < 0)
  | [], _, h => .inl h
  | n :: t, met, h => by
    rcases metT_of t _ h with h1 | ⟨h1, h2⟩
    · unfold stepM at h1
      split at h1
      · rename_i h0
        rcases List.mem_append.1 h1 with h3 | h3
        · exact .inl h3
        · simp at h3; rw [h3]; exact .inr ⟨List.mem_cons_self, h0.1⟩
      · exact .inl h1
    · exact .inr ⟨List.mem_cons_of_mem _ h1, h2⟩
theorem metS_of {x : Int} : ∀ (l : List (List Int)) (met : List Int), x ∈ metS met l → x ∈ met ∨ ∃ t ∈ l, x ∈ t ∧ x < 0
  | [], _, h => .inl h
  | t :: l, met, h => by
    rcases metS_of l _ h with h1 | ⟨s, h1, h2⟩
    · rcases metT_of t met h1 with h3 | h3
      · exact .inl h3
      · exact .inr ⟨t, List.mem_cons_self, h3⟩
    · exact .inr ⟨s, List.mem_cons_of_mem _ h1, h2⟩
theorem low_mem {ar t : List Int} (h : okTerm ar t = true) {x : Int} (hx : x ∈ t) : -12 ≤ x := by
  obtain ⟨i, hi, e⟩ := List.getElem_of_mem hx
  have := okTerm_low h i hi
  rwa [show t.getD i 0 = x from by simp [List.getD, hi, e]] at this
theorem met12 {ar : List Int} {l : List (List Int)} (h : ∀ t ∈ l, okTerm ar t = true) : (metS [] l).length ≤ 12 := by
  have hm : ∀ x ∈ metS [] l, -12 ≤ x ∧ x < 0 := fun x hx => by
    rcases metS_of l [] hx with h1 | ⟨t, h1, h2, h3⟩
    · simp at h1
    · exact ⟨low_mem (h t h1) h2, h3⟩
  have hn := metS_nodup l [] List.nodup_nil
  have h2 : ((metS [] l).map fun x => (-1 - x).toNat).Nodup := by
    show List.Pairwise (· ≠ ·) _
    rw [List.pairwise_map]
    refine List.Pairwise.imp_of_mem (fun {a b} ha hb hab e => hab ?_) hn
    have h1 := hm a ha
    have h2 := hm b hb
    omega
  have := lenN 12 _ h2 (fun v hv => by obtain ⟨x, hx, rfl⟩ := List.mem_map.1 hv; have := hm x hx; omega)
  simpa using this
theorem valM_inj {M S : List Int} (h : ∀ x ∈ S, x ∈ M) (hs : ∀ x ∈ S, x < 0) : Inj1 (valM M) S := by
  refine ⟨fun n hn => val_sym hn, fun n _ hn => ?_, fun m hm n hn e => ?_⟩
  · unfold valM; rw [if_pos hn]; omega
  · unfold valM at e
    rw [if_pos (hs m hm), if_pos (hs n hn)] at e
    have e2 : M.idxOf m = M.idxOf n := by omega
    have h1 := List.idxOf_lt_length_iff.2 (h m hm)
    have h3 := List.getElem_idxOf h1
    have h4 := List.getElem_idxOf (List.idxOf_lt_length_iff.2 (h n hn))
    rw [← h3, ← h4]
    simp only [e2]
theorem map_seq {ar : List Int} {σ : Int → Int} (hp : ∀ n, ¬ n < 0 → σ n = n) : ∀ {t : List Int} {k : Nat}, (∀ x ∈ t, x < 0 → -12 ≤ σ x ∧ σ x < 0) → seqT ar k t → seqT ar k (t.map σ)
  | [], _, _, h => h
  | n :: t, k, hb, h => by
    cases k with
    | zero => have := seqT_zero h; simp at this
    | succ k =>
      obtain ⟨h1, h2⟩ := seqT_cons.1 h
      rw [List.map_cons]
      by_cases h0 : n < 0
      · obtain ⟨b1, b2⟩ := hb n List.mem_cons_self h0
        have ih := map_seq hp (t := t) (fun x hx => hb x (List.mem_cons_of_mem _ hx)) h2
        refine seqT_cons.2 ⟨?_, by rw [arOf_neg b2]; rw [arOf_neg h0] at ih; exact ih⟩
        unfold okSym inB at h1 ⊢
        simp at h1 ⊢
        omega
      · rw [hp n h0]
        exact seqT_cons.2 ⟨h1, map_seq hp (t := t) (fun x hx => hb x (List.mem_cons_of_mem _ hx)) h2⟩
theorem rename_again {ar : List Int} {l : List (List Int)} (h : renameOk ar l = true) :
    renameOk ar (renameAns ar l) = true ∧ renameAns ar (renameAns ar l) = renameAns ar l ∧ (renameAns ar l).length = l.length ∧ ∀ k, k < l.length → sameOk ar (l.getD k []) ((renameAns ar l).getD k []) = true ∧ sameAns ar (l.getD k []) ((renameAns ar l).getD k []) = true := by
  obtain ⟨hg, hl, hok⟩ := renameOk_iff.1 h
  have h12 := met12 hok
  have hmap := renS_map l [] (Ext.rfl' (metS [] l))
  have hneg : ∀ x ∈ metS [] l, x < 0 := fun x hx => by
    rcases metS_of l [] hx with h1 | ⟨t, _, _, h3⟩
    · simp at h1
    · exact h3
  have hI := valM_inj (M := metS [] l) (S := metS [] l) (fun _ h => h) hneg
  have hin : ∀ t ∈ l, ∀ x ∈ t, x < 0 → x ∈ metS [] l := fun t ht x hx h0 => metS_has h0 l [] t ht hx
  have hans := renameAns_yes h
  have hr : ∀ t ∈ l, okTerm ar (t.map (valM (metS [] l))) = true := fun t ht => by
    obtain ⟨a1, a2⟩ := okTerm_seq.1 (hok t ht)
    refine okTerm_seq.2 ⟨by simpa using a1, map_seq hI.pos (fun x hx h0 => ?_) a2⟩
    have h1 := List.idxOf_lt_length_iff.2 (hin t ht x hx h0)
    unfold valM
    rw [if_pos h0]
    omega
  have hok2 : renameOk ar (renameAns ar l) = true := by
    rw [hans, hmap]
    refine renameOk_iff.2 ⟨hg, by simpa using hl, fun t ht => ?_⟩
    obtain ⟨s, hs, rfl⟩ := List.mem_map.1 ht
    exact hr s hs
  have hsame : renS [] (renS [] l) = renS [] l := by
    conv => lhs; rw [hmap]
    exact renS_inj hI (met := []) (fun x hx => by simp at hx) hin
  refine ⟨hok2, by rw [renameAns_yes hok2, hans, hsame], by rw [hans, renS_len], fun k hk => ?_⟩
  have hmem : l.getD k [] ∈ l := by rw [show l.getD k [] = l[k] from by simp [List.getD, hk]]; exact List.getElem_mem hk
  have hget : (renameAns ar l).getD k [] = (l.getD k []).map (valM (metS [] l)) := by
    rw [hans, hmap]
    simp [List.getD, hk]
  have hso : sameOk ar (l.getD k []) ((renameAns ar l).getD k []) = true := by
    unfold sameOk
    rw [renameOk_one, renameOk_one, hget]
    unfold goodTerm
    rw [hg, hok _ hmem, hr _ hmem]
    rfl
  refine ⟨hso, ?_⟩
  unfold sameAns
  rw [hso, hget]
  have := (renT_inj hI (t := l.getD k []) (met := []) (fun x hx => by simp at hx) (hin _ hmem)).1
  rw [List.map_nil] at this
  rw [this]
  simp
end Go.Proofs.Ytkbgglejhdodoaa
end
section
/- Contracts of renaming with the answers named. -/
namespace Go.Proofs.Ytkbgglejhdodoaa
open Go.RowKit

theorem iRenameOf_v {l h l' h' : Nat} {v u : Value} {ar : List Int} {b : List (List Int)} {w : World} (ha : ar.length ≤ 1048576) (hv : SlI l h w v ar) (hb : short b) (hu : SlS l' h' w u b) {xs : List (List Int)} {k : Bool} (e1 : renameAns ar b = xs) (e2 : renameOk ar b = k) :
    Calls Try.prog 19 #[.agg #[v], u] w (RetSSB w xs k) := by subst e1 e2; exact iRenameOf_t ha hv hb hu
theorem iSameUpTo_vv {l h l' h' l2 h2 : Nat} {v x y : Value} {ar a b : List Int} {w : World} (ha : ar.length ≤ 1048576) (hv : SlI l h w v ar) (hal : a.length ≤ 1048576) (hx : SlI l' h' w x a) (hbl : b.length ≤ 1048576) (hy : SlI l2 h2 w y b) {q k : Bool} (e1 : sameAns ar a b = q) (e2 : sameOk ar a b = k) :
    Calls Try.prog 22 #[.agg #[v], x, y] w (RetV w (.tuple #[.bool q, .bool k])) := by subst e1 e2; exact iSameUpTo_t ha hv hal hx hbl hy
theorem sRenameOf_v {l h l' h' : Nat} {v u : Value} {ar : List Int} {b : List (List Int)} {w : World} (ha : ar.length ≤ 1048576) (hv : SlI l h w v ar) (hb : short b) (hu : SlS l' h' w u b) {xs : List (List Int)} {k : Bool} (e1 : renameAns ar b = xs) (e2 : renameOk ar b = k) :
    Calls Try.prog 20 #[.agg #[v], u] w (RetSSB w xs k) := by subst e1 e2; exact sRenameOf_t ha hv hb hu
theorem sSameUpTo_vv {l h l' h' l2 h2 : Nat} {v x y : Value} {ar a b : List Int} {w : World} (ha : ar.length ≤ 1048576) (hv : SlI l h w v ar) (hal : a.length ≤ 1048576) (hx : SlI l' h' w x a) (hbl : b.length ≤ 1048576) (hy : SlI l2 h2 w y b) {q k : Bool} (e1 : sameAns ar a b = q) (e2 : sameOk ar a b = k) :
    Calls Try.prog 24 #[.agg #[v], x, y] w (RetV w (.tuple #[.bool q, .bool k])) := by subst e1 e2; exact sSameUpTo_t ha hv hal hx hbl hy
end Go.Proofs.Ytkbgglejhdodoaa
end
section
namespace Go.Proofs.Ytkbgglejhdodoaa
open Go.RowKit
theorem conv1 (W : World) (m : Nat) (n : Int) (hm : m = W.heap.size) :
    (convert 35 9 (.slice (some ⟨m, 0, none⟩) 1 1)).run Try.prog (W.alloc (.cells #[.int .u8 n] 5)) = .ok (.string ⟨#[UInt8.ofNat n.toNat]⟩) (W.alloc (.cells #[.int .u8 n] 5)) := by
  subst hm
  rw [run_convert_bytes_string _ 35 9 5 _ _ _ Try.underlying35 Try.underlying5 Try.underlying9]
  rw [run_bytesToString _ _ 1 1 [n] ?_]
  · rfl
  · simp [loadCells, go_sem]
end Go.Proofs.Ytkbgglejhdodoaa
end
section
/- TermText: both functions. -/
namespace Go.Proofs.Ytkbgglejhdodoaa
open Go.RowKit

def letter (x : Int) : UInt8 := if x < 0 then (65 + (-1 - x)).toNat.toUInt8 else (97 + x).toNat.toUInt8
def bytesS (l : List UInt8) : Value := .string ⟨l.toArray⟩

theorem cut12 : ∀ k : Nat, k < 12 → (ByteArray.mk #[65, 66, 67, 68, 69, 70, 71, 72, 73, 74, 75, 76]).extract (-1 - (-1 - (k : Int))).toNat (-(-1 - (k : Int))).toNat = ⟨#[letter (-1 - (k : Int))]⟩ := by decide +kernel
theorem cut10 : ∀ k : Nat, k < 10 → (ByteArray.mk #[97, 98, 99, 100, 101, 102, 103, 104, 105, 106]).extract k (k + 1) = ⟨#[letter (k : Int)]⟩ := by decide +kernel

theorem letterOf_neg (k : Nat) (w : World) (h : k < 12) : Calls Try.prog 82 #[.int .i64 (-1 - (k : Int))] w (RetV w (bytesS [letter (-1 - (k : Int))])) := by
  have hneg : (-1 - (k : Int)) < 0 := by omega
  go_enter Try.func82, Try.ntmps82
  go_wp2_with fail
  go_ret
  refine ⟨?_, Bel.rfl' _⟩
  show Ending.returned (Value.string _) = _
  rw [cut12 k h]; rfl
theorem letterOf_pos (k : Nat) (w : World) (h : k < 10) : Calls Try.prog 82 #[.int .i64 k] w (RetV w (bytesS [letter k])) := by
  go_enter Try.func82, Try.ntmps82
  go_wp2_with fail
  go_ret
  refine ⟨?_, Bel.rfl' _⟩
  show Ending.returned (Value.string _) = _
  rw [cut10 k h]; rfl
theorem markBefore_0 (w : World) : Calls Try.prog 84 #[.int .i64 0] w (RetV w (bytesS [40])) := by
  go_enter Try.func84, Try.ntmps84
  go_wp2_with fail
  go_ret
  exact ⟨rfl, Bel.rfl' _⟩
theorem markBefore_n (k : Nat) (w : World) (h : k ≠ 0) : Calls Try.prog 84 #[.int .i64 k] w (RetV w (bytesS [44])) := by
  have h' : ((k : Int) == 0) = false := by simpa using h
  clear h
  go_enter Try.func84, Try.ntmps84
  go_wp2_with fail
  go_ret
  exact ⟨rfl, Bel.rfl' _⟩

def sepB (k : Nat) : UInt8 := if k = 0 then 40 else 44
def accT (g : Nat → List UInt8) (l : List Nat) : Nat → List UInt8
  | 0 => []
  | k + 1 => accT g l k ++ (sepB k :: g (l.getD k 0))
def textF (ar t : List Int) : Nat → Nat → List UInt8
  | 0, _ => []
  | f + 1, i => letter (t.getD i 0) :: (accT (textF ar t f) (argsOf ar t i) (argsOf ar t i).length ++ (if (argsOf ar t i).length = 0 then [] else [41]))
def textAt (ar t : List Int) (i : Nat) : List UInt8 := textF ar t (t.length - i) i

theorem accT_congr (g g' : Nat → List UInt8) (l : List Nat) (h : ∀ a ∈ l, g a = g' a) : ∀ k, k ≤ l.length → accT g l k = accT g' l k := by
  intro k
  induction k with
  | zero => intro _; rfl
  | succ k ih =>
    intro hk
    rw [accT, accT, ih (by omega), h (l.getD k 0) (by simp [List.getD, show k < l.length from by omega])]
theorem textF_fuel (ar t : List Int) (h : okTerm ar t = true) : ∀ (n i : Nat), i < t.length → t.length - i ≤ n → ∀ f, t.length - i ≤ f → textF ar t f i = textAt ar t i := by
  intro n
  induction n with
  | zero => intro i hi hn; omega
  | succ n ih =>
    intro i hi hn f hf
    obtain ⟨f, rfl⟩ : ∃ f', f = f' + 1 := ⟨f - 1, by omega⟩
    unfold textAt
    obtain ⟨g, hg⟩ : ∃ g, t.length - i = g + 1 := ⟨t.length - i - 1, by omega⟩
    rw [hg, textF, textF]
    congr 2
    refine accT_congr _ _ _ (fun a ha => ?_) _ (Nat.le_refl _)
    have hb := argsOf_bd ar t h i hi a ha
    rw [ih a hb.2 (by omega) f (by omega), ih a hb.2 (by omega) g (by omega)]
theorem textAt_eq (ar t : List Int) (h : okTerm ar t = true) (i : Nat) (hi : i < t.length) :
    textAt ar t i = letter (t.getD i 0) :: (accT (textAt ar t) (argsOf ar t i) (argsOf ar t i).length ++ (if (argsOf ar t i).length = 0 then [] else [41])) := by
  conv => lhs; unfold textAt
  obtain ⟨g, hg⟩ : ∃ g, t.length - i = g + 1 := ⟨t.length - i - 1, by omega⟩
  rw [hg, textF]
  congr 2
  refine accT_congr _ _ _ (fun a ha => ?_) _ (Nat.le_refl _)
  have hb := argsOf_bd ar t h i hi a ha
  exact textF_fuel ar t h t.length a hb.2 (by omega) g (by omega)

theorem accT_len (g : Nat → List UInt8) (l : List Nat) : ∀ k, k ≤ l.length → (accT g l k).length = ((l.take k).map fun a => (g a).length + 1).sum := by
  intro k
  induction k with
  | zero => intro _; rfl
  | succ k ih =>
    intro hk
    rw [accT, List.length_append, ih (by omega), List.take_succ_eq_append_getElem (by omega), List.map_append, List.sum_append]
    simp [List.getD, show k < l.length from by omega]
theorem sum_take_le (l : List Nat) (k : Nat) : (l.take k).sum ≤ l.sum := by
  conv => rhs; rw [← List.take_append_drop k l]
  rw [List.sum_append]; omega
theorem args_sum (ar t : List Int) (g : Nat → List UInt8) : ∀ (k p e : Nat), endGo ar (t.drop p) k p = some e → (∀ a ∈ argsGo ar t k p, ∀ q, endOf ar t a = some q → (g a).length + 1 ≤ 3 * (q - a)) → ((argsGo ar t k p).map fun a => (g a).length + 1).sum ≤ 3 * (e - p) := by
  intro k
  induction k with
  | zero => intro p e _ _; simp [argsGo]
  | succ k ih =>
    intro p e h hg
    obtain ⟨q, hq, hr, hpq, hqe⟩ := ends_step ar t p k e h
    rw [argsGo_succ hq] at hg ⊢
    have h1 := hg p (by simp) q hq
    have h2 := ih q e hr (fun a ha => hg a (by simp [ha]))
    simp only [List.map_cons, List.sum_cons]
    omega
theorem textAt_len (ar t : List Int) (h : okTerm ar t = true) : ∀ (n i : Nat), t.length - i ≤ n → i < t.length → ∀ q, endOf ar t i = some q → (textAt ar t i).length + 1 ≤ 3 * (q - i) := by
  intro n
  induction n with
  | zero => intro i hn hi; omega
  | succ n ih =>
    intro i hn hi q hq
    obtain ⟨e, h1, h2⟩ := good_args ar t h i hi
    have hs := good_sym ar t h i hi
    have he : e = q := by
      unfold endOf at hq
      rw [drop_cons t i hi, endGo_cons, if_pos hs, Nat.zero_add, h1] at hq
      simpa using hq
    subst he
    have hsum := args_sum ar t (textAt ar t) _ _ _ h1 (fun a ha q hq => ih a (by have := argsOf_bd ar t h i hi a ha; omega) (argsOf_bd ar t h i hi a ha).2 q hq)
    have hge := endGo_ge _ _ _ _ _ h1
    rw [textAt_eq ar t h i hi]
    simp only [List.length_cons, List.length_append]
    rw [accT_len _ _ _ (Nat.le_refl _), List.take_length]
    have e2 : argsOf ar t i = argsGo ar t (arOf ar (t.getD i 0)) (i + 1) := rfl
    rw [← e2] at hsum
    split <;> simp <;> omega
theorem textAt_le (ar t : List Int) (h : okTerm ar t = true) (i : Nat) (hi : i < t.length) : (textAt ar t i).length ≤ 120 := by
  obtain ⟨e, he, h1, h2⟩ := good_end ar t h i hi
  have := textAt_len ar t h t.length i (by omega) hi e he
  have := ((okTerm_iff ar t).1 h).2.1
  omega
theorem accT_le (g : Nat → List UInt8) (l : List Nat) (k n : Nat) (hk : k ≤ l.length) (h : (accT g l l.length).length ≤ n) : (accT g l k).length ≤ n := by
  rw [accT_len g l k hk]
  rw [accT_len g l _ (Nat.le_refl _), List.take_length] at h
  refine Nat.le_trans ?_ h
  rw [List.map_take]
  exact sum_take_le _ _
theorem acc_le (ar t : List Int) (h : okTerm ar t = true) (i : Nat) (hi : i < t.length) (k : Nat) (hk : k ≤ (argsOf ar t i).length) : (accT (textAt ar t) (argsOf ar t i) k).length ≤ 119 := by
  refine accT_le _ _ _ _ hk ?_
  have := textAt_le ar t h i hi
  rw [textAt_eq ar t h i hi] at this
  simp only [List.length_cons, List.length_append] at this
  omega

/-- A text. -/
def RetT (w : World) (l : List UInt8) (e : Ending) (w' : World) : Prop := ∃ A : ByteArray, e = .returned (.string A) ∧ A.data.toList = l ∧ Bel w w'
theorem ba_app (A B : ByteArray) : (A ++ B).data.toList = A.data.toList ++ B.data.toList := by rw [ByteArray.data_append, Array.toList_append]
theorem ba_size (A : ByteArray) : A.size = A.data.toList.length := by rw [Array.length_toList]; rfl
end Go.Proofs.Ytkbgglejhdodoaa
end
section
/- The draws: a spoilt text. -/
namespace Go.Proofs.Ytkbgglejhdodoaa
open Go.RowKit

def RetSP (b n k d m : Nat) (w : World) (e : Ending) (w' : World) : Prop :=
  ∃ (s : ByteArray) (k' : Nat), e = .returned (.string s) ∧ s.size ≤ m ∧ k ≤ k' ∧ k' ≤ k + d ∧ Cur b n k' w' ∧ Chg b (b+1) w w'

set_option maxRecDepth 100000 in
set_option maxHeartbeats 1000000 in
theorem spoilt_c (b n k : Nat) (s wth : ByteArray) (w : World) (hn : n ≤ 1099511627776) (hk : k ≤ 1000000000) (hs : s.size ≤ 100000) (hw0 : 0 < wth.size) (hw : wth.size ≤ 200) (hc : Cur b n k w) :
    Calls Try.prog 70 #[.pointer (some ⟨b, 0, none⟩), .string s, .string wth] w (RetSP b n k 20 (s.size + 2) w) := by
  go_enter Try.func70, Try.ntmps70
  go_wp2_with fail
  refine (pick_c b n k _ 2 _ (by decide) hn (by omega) (by omega) hc).mono ?_; rintro e w1 ⟨x, k1, rfl, hx, hk1, hk2, hc1, hg1⟩
  have hw12 := IntWalk.i64_in (1 + (x : Int)) (by omega)
  go_wp2_with fail
  go_loopw [1, 7] (fun sv i wr => ∃ (j kk : Nat) (t : ByteArray), j ≤ 2 ∧ i = .int .i64 j ∧ sv = .string t ∧ t.size + j ≤ s.size + 2 ∧ k ≤ kk ∧ kk + 6 * j ≤ k + 18 ∧ Cur b n kk wr ∧ Chg b (b+1) w wr) (fun _ i _ => (intOf i).toNat)
  case atStart => exact ⟨1 + x, k1, s, by omega, by go_num, rfl, by omega, by omega, by omega, hc1, hg1⟩
  case round =>
    clear hw12
    obtain ⟨j, kk, t, hj, rfl, rfl, htz, hkk1, hkk2, hcr, hgr⟩ := hrel
    by_cases hj0 : 0 < j
    · have hd1 : decide (0 < (j : Int)) = true := by simpa using hj0
      by_cases ht0 : 0 < t.size
      · have hd2 : decide (0 < (t.size : Int)) = true := by simpa using ht0
        go_wp2_with fail
        refine (pick_c b n kk _ t.size _ (by exact rfl) hn (by omega) (by omega) hcr).mono ?_; rintro e w2 ⟨i, k2, rfl, hi, hk21, hk22, hc2, hg2⟩
        go_wp2_with fail
        refine (pick_c b n k2 _ wth.size _ (by exact rfl) hn (by omega) (by omega) hc2).mono ?_; rintro e w3 ⟨q, k3, rfl, hq, hk31, hk32, hc3, hg3⟩
        have hq7 : q < wth.size := by omega
        have hi7 : i < t.size := by omega
        have hcv := conv1 w3 w3.heap.size ((wth[q].toNat : Nat) : Int) rfl
        have hW1 : (ByteArray.mk #[UInt8.ofNat ((wth[q].toNat : Nat) : Int).toNat]).size = 1 := rfl
        generalize hW : (ByteArray.mk #[UInt8.ofNat ((wth[q].toNat : Nat) : Int).toNat]) = W1 at *
        have hB4 := Bel.alloc0 w3 (.cells #[.int .u8 ((wth[q].toNat : Nat) : Int)] 5)
        have HP := Lib.hid (pick_c b n k3 3 3 _ rfl hn (by omega) (by omega) (hc3.below hB4))
        clear hW
        go_wp2_with fail
        refine HP.out.mono ?_; rintro e w5 ⟨z, k5, rfl, hz, hk51, hk52, hc5, hg5⟩
        have hgA := (((hgr.trans hg2).trans hg3).trans (Chg.of_bel hB4)).trans hg5
        clear hcv hB4 HP hc2 hc3 hg2 hg3 hg5 hcr hgr
        have hir : (i : Int) ≤ t.size := by omega
        have hir2 : (i : Int) + 1 ≤ t.size := by omega
        have he1 : (t.extract 0 i).size = i := by rw [ByteArray.size_extract]; omega
        have he2 : (t.extract i t.size).size = t.size - i := by rw [ByteArray.size_extract]; omega
        have he3 : (t.extract (i+1) t.size).size = t.size - (i+1) := by rw [ByteArray.size_extract]; omega
        have hr1 := fun (w : World) => run_string_add_sum (P := Try.prog) (w := w) (t.extract 0 i) W1 (by omega)
        have hr2 := fun (w : World) => run_string_add_sum (P := Try.prog) (w := w) (t.extract 0 i ++ W1) (t.extract i t.size) (by rw [ByteArray.size_append]; omega)
        have hr3 := fun (w : World) => run_string_add_sum (P := Try.prog) (w := w) (t.extract 0 i ++ W1) (t.extract (i+1) t.size) (by rw [ByteArray.size_append]; omega)
        have hr4 := fun (w : World) => run_string_add_sum (P := Try.prog) (w := w) (t.extract 0 i) (t.extract (i+1) t.size) (by omega)
        have HWi := Lib.hid (IntWalk.i64_in ((i : Int) + 1) (by omega))
        have HWj := Lib.hid (IntWalk.i64_in ((j : Int) - 1) (by omega))
        generalize hzz : (z : Int) = zz
        have hz0 : 0 ≤ zz := by omega
        clear hzz hz
        have hcase : zz = 0 ∨ zz = 1 ∨ 1 < zz := by omega
        rcases hcase with rfl | rfl | hz2
        · go_wp2_with fail
          go_quiet (fail)
          have hwj := HWj.out
          go_wp2_with fail
          clear hwj
          have hcd := hc5.below ((Bel.rfl' w5).drewN nq)
          have hgd := hgA.trans (Chg.of_bel (lo := b) (hi := b+1) ((Bel.rfl' w5).drewN nq))
          exact ⟨⟨j - 1, k5, t.extract 0 i ++ W1 ++ t.extract i t.size, by omega, by go_num, rfl, by rw [ByteArray.size_append, ByteArray.size_append]; omega, by omega, by omega, hcd, hgd⟩, by simp [intOf]; omega⟩
        · have hit : ((i : Int) + 1).toNat = i + 1 := by omega
          have hi0 : 0 ≤ (i : Int) + 1 := by omega
          have hwi := HWi.out
          go_wp2_with fail
          go_quiet (fail)
          clear hwi
          have hwj := HWj.out
          go_wp2_with fail
          clear hwj
          have hcd := hc5.below ((Bel.rfl' w5).drewN nq)
          have hgd := hgA.trans (Chg.of_bel (lo := b) (hi := b+1) ((Bel.rfl' w5).drewN nq))
          exact ⟨⟨j - 1, k5, t.extract 0 i ++ W1 ++ t.extract (i+1) t.size, by omega, by go_num, rfl, by rw [ByteArray.size_append, ByteArray.size_append]; omega, by omega, by omega, hcd, hgd⟩, by simp [intOf]; omega⟩
        · have hit : ((i : Int) + 1).toNat = i + 1 := by omega
          have hi0 : 0 ≤ (i : Int) + 1 := by omega
          have e0 : (zz == 0) = false := by rw [beq_eq_false_iff_ne]; omega
          have e1 : (zz == 1) = false := by rw [beq_eq_false_iff_ne]; omega
          have hwi := HWi.out
          go_wp2_with fail
          go_quiet (fail)
          clear hwi
          have hwj := HWj.out
          go_wp2_with fail
          clear hwj
          have hcd := hc5.below ((Bel.rfl' w5).drewN nq)
          have hgd := hgA.trans (Chg.of_bel (lo := b) (hi := b+1) ((Bel.rfl' w5).drewN nq))
          exact ⟨⟨j - 1, k5, t.extract 0 i ++ t.extract (i+1) t.size, by omega, by go_num, rfl, by rw [ByteArray.size_append]; omega, by omega, by omega, hcd, hgd⟩, by simp [intOf]; omega⟩
      · have hd2 : decide (0 < (t.size : Int)) = false := by simpa using ht0
        go_wp2_with fail
        go_ret
        exact ⟨t, kk, rfl, by omega, by omega, by omega, hcr, hgr⟩
    · have hd1 : decide (0 < (j : Int)) = false := by simpa using hj0
      go_wp2_with fail
      go_ret
      exact ⟨t, kk, rfl, by omega, by omega, by omega, hcr, hgr⟩
end Go.Proofs.Ytkbgglejhdodoaa
end
section
namespace Go.Proofs.Ytkbgglejhdodoaa
open Go.RowKit

theorem letter_u8_neg (x : Int) (h : x < 0) : (⟨#[UInt8.ofNat ((65 + (-1 - x)) : Int).toNat]⟩ : ByteArray).data.toList = [letter x] := by simp [letter, h]
theorem letter_u8_pos : ∀ k : Nat, k < 10 → (97 + UInt8.ofNat k) = letter (k : Int) := by decide +kernel

set_option maxRecDepth 100000 in
set_option maxHeartbeats 2000000 in
theorem l1TermText_c (l h l' h' : Nat) (v u : Value) (ar t : List Int) (hg : goodSign ar = true) (hok : okTerm ar t = true) :
    ∀ (n i : Nat) (w : World), t.length - i ≤ n → i < t.length → SlI l h w v ar → SlI l' h' w u t → Calls Try.prog 68 #[.agg #[v], u, .int .i64 i] w (RetT w (textAt ar t i)) := by
  intro n
  induction n with
  | zero => intro i w hn hi; omega
  | succ n ih =>
    intro i w hn hi hv hu
    have IH := Lib.hid ih; clear ih
    have hv0 := hv; have hu0 := hu
    obtain ⟨ad, cap, rfl, -, -, hr⟩ := hv
    obtain ⟨ad', cap', rfl, -, -, hr'⟩ := hu
    have E := Lib.hid (textAt_eq ar t hok i hi)
    have HA := Lib.hid (argsOf_bd ar t hok i hi)
    have hal : (argsOf ar t i).length ≤ 3 := by rw [argsOf_len]; exact arOf_le ar hg _
    have HL := Lib.hid (acc_le ar t hok i hi)
    have HT := Lib.hid (textAt_le ar t hok)
    have htl := ((okTerm_iff ar t).1 hok).2.1
    have hsym := good_sym ar t hok i hi
    have hlen2 := argsOf_len (ar := ar) (t := t) (i := i)
    have hE := argsOf_neg (ar := ar) (t := t) (i := i)
    have hargs := fun w a b => l1Args_c l h l' h' (.slice ad ar.length cap) (.slice ad' t.length cap') ar t i w hg hok hi a b
    obtain ⟨b', off', rfl, hbl, hcell'⟩ := rd hr' (Bel.rfl' w) i hi
    have hk := fun n : Int => conv1 (w.alloc (.cells #[.slice ad ar.length cap] 28)) (w.heap.size + 1) n (by simp)
    generalize t.getD i 0 = x at *
    by_cases hx : x < 0
    · have hx2 : -12 ≤ x := by simp [okSym, inB] at hsym; omega
      have E2 : Hid (textAt ar t i = [letter x]) := by show _ = _; rw [E.out, hE hx]; simp [accT]
      clear E hE hlen2 hargs hal HL HA hsym
      go_enter Try.func68, Try.ntmps68
      go_wp2_with fail
      go_ret
      exact ⟨_, rfl, by rw [E2.out]; exact letter_u8_neg x hx, Bel.alloc2 _ _ _⟩
    · obtain ⟨kk, rfl⟩ : ∃ k : Nat, x = k := ⟨x.toNat, by omega⟩
      have hkk := okSym_lt hsym
      obtain ⟨b, off, rfl, hbl2, hcell⟩ := rd hr (Bel.rfl' w) kk hkk
      have hn := ar_nonneg ar hg kk
      rw [arOf_nat] at hlen2
      have hlen := sign_len ar hg
      have hkk2 : (kk : Int) < ar.length := by omega
      have hkk10 : kk < 10 := by omega
      have HARGS := Lib.hid hargs
      clear hr hr' hsym hE hargs
      generalize argsOf ar t i = args at *
      generalize ar.getD kk 0 = q at *
      go_enter Try.func68, Try.ntmps68
      go_wp2_with fail
      refine (HARGS.out _ ((hv0.alloc _).alloc _) ((hu0.alloc _).alloc _)).mono ?_; rintro e w1 ⟨ad1, m, c, rfl, ho, hb⟩
      obtain ⟨ad2, cap2, e, -, -, hr1⟩ := ho.1
      simp only [Value.slice.injEq] at e
      obtain ⟨rfl, rfl, rfl⟩ := e
      rw [natsI_len] at hr1 ⊢
      have hb0 : Bel (w.alloc (.cells #[.slice (some ⟨b, off, none⟩) ar.length cap] 28)) w1 := hb.of_alloc
      have HL1 := Lib.hid (letter_u8_pos kk hkk10)
      clear hk
      go_wp2_with fail
      go_loopw [7, 37] (fun o j wr => ∃ (k : Nat) (A : ByteArray), k ≤ args.length ∧ j = .int .i64 k ∧ o = .string A ∧ A.data.toList = letter (kk : Int) :: accT (textAt ar t) args k ∧ Bel (w.alloc (.cells #[.slice (some ⟨b, off, none⟩) ar.length cap] 28)) wr ∧ Bel w1 wr) (fun _ j _ => args.length - (intOf j).toNat)
      case atStart => exact ⟨0, _, Nat.zero_le _, rfl, rfl, congrArg (fun z => [z]) HL1.out, hb0, Bel.rfl' _⟩
      case round =>
        obtain ⟨k, A, hk, rfl, rfl, hA, hbr, hbw⟩ := hrel
        have hbox := boxc hbr 0 _ rfl
        have hAs : A.size ≤ 120 := by
          have := HL.out k hk
          rw [ba_size, hA, List.length_cons]; omega
        have HAA := Lib.hid hA; clear hA
        by_cases hlt : k < args.length
        · obtain ⟨b3, off3, e2, -, -, hc⟩ := hr1 (by omega)
          subst e2
          have hcell3 := (hbw.cell (p := ⟨b3, off3 + k, none⟩) (World.block_lt_of_cell? w1 ⟨b3, off3 + k, none⟩ (hc k hlt))).trans (hc k hlt)
          rw [natsI_get _ _ hlt] at hcell3
          have hmem : args.getD k 0 ∈ args := by simp [List.getD, hlt]
          have hab := HA.out _ hmem
          have ES : Hid (accT (textAt ar t) args (k + 1) = accT (textAt ar t) args k ++ (sepB k :: textAt ar t (args.getD k 0))) := rfl
          have hBs := HT.out (args.getD k 0) hab.2
          clear hr1 hc hmem
          generalize args.getD k 0 = a at *
          by_cases hk0 : k = 0
          · have hk0' : ((k : Int) == 0) = true := by simpa using hk0
            have HK0 := Lib.hid hk0; clear hk0
            go_wp2_with fail
            refine (IH.out a _ (by omega) hab.2 (hv0.below hbr.of_alloc) (hu0.below hbr.of_alloc)).mono ?_; rintro e w2 ⟨B, rfl, hB, hb2⟩
            have hBs2 : B.size ≤ 120 := by rw [ba_size, hB]; exact hBs
            have HB := Lib.hid hB; clear hB
            go_wp2_with fail
            go_roundw
            case rel => exact ⟨k + 1, _, by omega, by go_num, rfl, by rw [ba_app, ba_app, HAA.out, HB.out, ES.out, HK0.out]; simp [sepB, accT], hbr.step hb2, hbw.step hb2⟩
            case measure => simp [intOf]; omega
          · have hk0' : ((k : Int) == 0) = false := by simpa using hk0
            have HK0 := Lib.hid hk0; clear hk0
            go_wp2_with fail
            refine (IH.out a _ (by omega) hab.2 (hv0.below hbr.of_alloc) (hu0.below hbr.of_alloc)).mono ?_; rintro e w2 ⟨B, rfl, hB, hb2⟩
            have hBs2 : B.size ≤ 120 := by rw [ba_size, hB]; exact hBs
            have HB := Lib.hid hB; clear hB
            go_wp2_with fail
            go_roundw
            case rel => exact ⟨k + 1, _, by omega, by go_num, rfl, by rw [ba_app, ba_app, HAA.out, HB.out, ES.out]; simp [sepB, HK0.out], hbr.step hb2, hbw.step hb2⟩
            case measure => simp [intOf]; omega
        · have hkl : Hid (k = args.length) := by show _ = _; omega
          have hcx := hbr.of_alloc.at hbl2 hcell
          have hcx' := hbr.of_alloc.at hbl hcell'
          have hi2 : (i : Int) < t.length := by omega
          by_cases hq : 0 < q
          · have E3 : Hid ((if args.length = 0 then ([] : List UInt8) else [41]) = [41]) := if_neg (by omega)
            go_wp2_with fail
            go_quiet (fail)
            go_wp2_with fail
            go_ret
            exact ⟨_, rfl, by rw [ba_app, HAA.out, E.out, E3.out, hkl.out]; simp, hbr.of_alloc.drewN _⟩
          · have E3 : Hid ((if args.length = 0 then ([] : List UInt8) else [41]) = []) := if_pos (by omega)
            go_wp2_with fail
            go_quiet (fail)
            go_wp2_with fail
            go_ret
            exact ⟨_, rfl, by rw [E.out, E3.out, ← hkl.out]; simpa using HAA.out, hbr.of_alloc.drewN _⟩
end Go.Proofs.Ytkbgglejhdodoaa
end
section
namespace Go.Proofs.Ytkbgglejhdodoaa
open Go.RowKit

theorem markBefore_q (k : Nat) (b : UInt8) (h : sepB k = b) (w : World) : Calls Try.prog 84 #[.int .i64 k] w fun e w' => e = .returned (.string ⟨#[b]⟩) ∧ w' = w := by
  subst h
  by_cases h : k = 0
  · subst h
    go_enter Try.func84, Try.ntmps84
    go_wp2_with fail
    go_ret
    exact ⟨rfl, rfl⟩
  · have h' : ((k : Int) == 0) = false := by simpa using h
    have E : Hid (sepB k = 44) := if_neg h
    clear h
    go_enter Try.func84, Try.ntmps84
    go_wp2_with fail
    go_ret
    exact ⟨by rw [E.out]; rfl, rfl⟩
theorem letterOf_c (x : Int) (ar : List Int) (w : World) (h : okSym ar x = true) (hl : ar.length ≤ 10) : Calls Try.prog 82 #[.int .i64 x] w (RetV w (.string ⟨#[letter x]⟩)) := by
  have h2 : -12 ≤ x ∧ x < 10 := by simp [okSym, inB] at h; omega
  by_cases hx : x < 0
  · obtain ⟨k, rfl⟩ : ∃ k : Nat, x = -1 - (k : Int) := ⟨(-1 - x).toNat, by omega⟩
    exact letterOf_neg k w (by omega)
  · obtain ⟨k, rfl⟩ : ∃ k : Nat, x = k := ⟨x.toNat, by omega⟩
    exact letterOf_pos k w (by omega)

set_option maxRecDepth 100000 in
set_option maxHeartbeats 4000000 in
theorem textAt_c (l h l' h' : Nat) (v u : Value) (ar t : List Int) (hg : goodSign ar = true) (hok : okTerm ar t = true) :
    ∀ (n i : Nat) (w : World), t.length - i ≤ n → i < t.length → SlI l h w v ar → SlI l' h' w u t → Calls Try.prog 67 #[.agg #[v], u, .int .i64 i] w (RetT w (textAt ar t i)) := by
  intro n
  induction n with
  | zero => intro i w hn hi; omega
  | succ n ih =>
    intro i w hn hi hv hu
    have IH := Lib.hid ih; clear ih
    have hv0 := hv; have hu0 := hu
    obtain ⟨ad', cap', rfl, -, -, hr'⟩ := hu
    have E := Lib.hid (textAt_eq ar t hok i hi)
    have HA := Lib.hid (argsOf_bd ar t hok i hi)
    have hal : (argsOf ar t i).length ≤ 3 := by rw [argsOf_len]; exact arOf_le ar hg _
    have HL := Lib.hid (acc_le ar t hok i hi)
    have HT := Lib.hid (textAt_le ar t hok)
    have htl := ((okTerm_iff ar t).1 hok).2.1
    have HSYM := Lib.hid (good_sym ar t hok i hi)
    have HARGS := Lib.hid (fun w a b => argStarts_c l h l' h' v (.slice ad' t.length cap') ar t i w hg hok hi a b)
    obtain ⟨b', off', rfl, hbl, hcell'⟩ := rd hr' (Bel.rfl' w) i hi
    have hlen := sign_len ar hg
    clear hr'
    generalize t.getD i 0 = x at *
    generalize argsOf ar t i = args at *
    go_enter Try.func67, Try.ntmps67
    go_wp2_with fail
    refine (letterOf_c x ar _ HSYM.out hlen.2).mono ?_; rintro e w1 ⟨rfl, hb1⟩
    have hx1 := boxc hb1 0 _ rfl
    go_wp2_with fail
    refine (HARGS.out _ (hv0.below hb1.of_alloc) (hu0.below hb1.of_alloc)).mono ?_; rintro e w2 ⟨ad1, m, c, rfl, ho, hb2⟩
    obtain ⟨ad2, cap2, e, -, -, hr1⟩ := ho.1
    simp only [Value.slice.injEq] at e
    obtain ⟨rfl, rfl, rfl⟩ := e
    rw [natsI_len] at hr1 ⊢
    have hb0 := hb1.step hb2
    by_cases h0 : args.length = 0
    · have E3 : Hid ((if args.length = 0 then ([] : List UInt8) else [41]) = []) := if_pos h0
      have h0' : ((args.length : Int) == 0) = true := by simpa using h0
      have H0 := Lib.hid h0; clear h0
      go_wp2_with fail
      go_ret
      exact ⟨_, rfl, by rw [E.out, E3.out, H0.out]; simp [accT], hb0.of_alloc⟩
    · have E3 : Hid ((if args.length = 0 then ([] : List UInt8) else [41]) = [41]) := if_neg h0
      have h0' : ((args.length : Int) == 0) = false := by simpa using h0
      clear h0
      go_wp2_with fail
      go_loopw [7, 26] (fun o j wr => ∃ (k : Nat) (A : ByteArray), k ≤ args.length ∧ j = .int .i64 k ∧ o = .string A ∧ A.data.toList = letter x :: accT (textAt ar t) args k ∧ Bel (w.alloc (.cells #[v] 28)) wr ∧ Bel w2 wr) (fun _ j _ => args.length - (intOf j).toNat)
      case atStart => exact ⟨0, _, Nat.zero_le _, rfl, rfl, rfl, hb0, Bel.rfl' _⟩
      case round =>
        obtain ⟨k, A, hk, rfl, rfl, hA, hbr, hbw⟩ := hrel
        have hbox := boxc hbr 0 _ rfl
        have hAs : A.size ≤ 120 := by
          have := HL.out k hk
          rw [ba_size, hA, List.length_cons]; omega
        have HAA := Lib.hid hA; clear hA
        by_cases hlt : k < args.length
        · obtain ⟨b3, off3, e2, -, -, hc⟩ := hr1 (by omega)
          subst e2
          have hcell3 := (hbw.cell (p := ⟨b3, off3 + k, none⟩) (World.block_lt_of_cell? w2 ⟨b3, off3 + k, none⟩ (hc k hlt))).trans (hc k hlt)
          rw [natsI_get _ _ hlt] at hcell3
          have hmem : args.getD k 0 ∈ args := by simp [List.getD, hlt]
          have hab := HA.out _ hmem
          have ES : Hid (accT (textAt ar t) args (k + 1) = accT (textAt ar t) args k ++ (sepB k :: textAt ar t (args.getD k 0))) := rfl
          have hBs := HT.out (args.getD k 0) hab.2
          clear hr1 hc hmem
          generalize args.getD k 0 = a at *
          have hone : (⟨#[sepB k]⟩ : ByteArray).size = 1 := rfl
          obtain ⟨M, hM⟩ : ∃ M : ByteArray, M = ⟨#[sepB k]⟩ := ⟨_, rfl⟩
          rw [← hM] at hone
          have hMl : Hid (M.data.toList = [sepB k]) := by show _ = _; rw [hM]
          have hmk := Lib.hid (fun W => hM ▸ markBefore_q k (sepB k) rfl W)
          have hMs : M.size ≤ 1 := by omega
          clear hM hone
          go_wp2_with fail
          go_region_held3 (fun w' => Bel wr w' ∧ w'.cell? ⟨w.heap.size, 0, none⟩ = some v)
            (first | exact ⟨Bel.drew0 _, hbox⟩ | exact ⟨hb5.of_drew, boxc (hbr.drew.step hb5) 0 _ rfl⟩)
            (first | (go_at_call 84; refine (hmk.out _).mono ?_; rintro e wa ⟨rfl, rfl⟩) | (go_at_call 67; refine (IH.out a _ (by omega) hab.2 (hv0.below hbr.of_alloc.drew) (hu0.below hbr.of_alloc.drew)).mono ?_; rintro e w5 ⟨B, rfl, hB, hb5⟩; have hBs2 : B.size ≤ 120 := (by rw [ba_size, hB]; exact hBs); have HB := Lib.hid hB; clear hB; have hr1 := fun (W : World) => run_string_add_sum (P := Try.prog) (w := W) M B (by omega); have hr2 := fun (W : World) => run_string_add_sum (P := Try.prog) (w := W) A (M ++ B) (by rw [ByteArray.size_append]; omega)))
          go_wp2_with fail
          go_roundw
          case rel => exact ⟨k + 1, _, by omega, by go_num, rfl, by rw [ba_app, ba_app, HAA.out, HB.out, ES.out, hMl.out]; simp, hbr.drew.step hb5, hbw.drew.step hb5⟩
          case measure => simp [intOf]; omega
        · have hkl : Hid (k = args.length) := by show _ = _; omega
          go_wp2_with fail
          go_ret
          exact ⟨_, rfl, by rw [ba_app, HAA.out, E.out, E3.out, hkl.out]; simp, hbr.of_alloc⟩

/-- The text of a term, as bytes. -/
def textBA (ar t : List Int) : ByteArray := if goodTerm ar t then ⟨(textAt ar t 0).toArray⟩ else ⟨#[]⟩
theorem ba_eq {A : ByteArray} {l : List UInt8} (h : A.data.toList = l) : A = ⟨l.toArray⟩ := by subst h; cases A; simp
theorem text_no {ar t : List Int} (h : goodTerm ar t = false) : textBA ar t = ⟨#[]⟩ := by simp [textBA, h]
theorem text_yes {ar t : List Int} (h : goodTerm ar t = true) : textBA ar t = ⟨(textAt ar t 0).toArray⟩ := by simp [textBA, h]

theorem sTermText_t {l h l' h' : Nat} {v u : Value} {ar t : List Int} {w : World} (ha : ar.length ≤ 1048576) (hv : SlI l h w v ar) (ht : t.length ≤ 1048576) (hu : SlI l' h' w u t) :
    Calls Try.prog 31 #[.agg #[v], u] w (RetV w (.tuple #[.string (textBA ar t), .bool (goodTerm ar t)])) := by
  cases hs : goodTerm ar t with
  | false =>
    have E := Lib.hid (text_no hs)
    have HS := Lib.hid hs; clear hs
    go_enter Try.func31, Try.ntmps31
    go_wp2_with fail
    refine (sGoodTerm_v _ _ _ _ _ _ _ _ _ _ HS.out ha ht (hv.alloc _) (hu.alloc _)).mono ?_; rintro e w' ⟨rfl, hb1⟩
    go_wp2_with fail
    go_ret2
    exact ⟨by rw [E.out]; rfl, hb1.of_alloc⟩
  | true =>
    have E := Lib.hid (text_yes hs)
    obtain ⟨hg, hok⟩ := goodTerm_iff.1 hs
    have h1 := ((okTerm_iff ar t).1 hok).1
    have HS := Lib.hid hs; clear hs
    go_enter Try.func31, Try.ntmps31
    go_wp2_with fail
    refine (sGoodTerm_v _ _ _ _ _ _ _ _ _ _ HS.out ha ht (hv.alloc _) (hu.alloc _)).mono ?_; rintro e w' ⟨rfl, hb1⟩
    have hx1 := boxc hb1 0 _ rfl
    go_wp2_with fail
    refine (l1TermText_c _ _ _ _ _ _ ar t hg hok t.length 0 _ (by omega) (by omega) (hv.below hb1.of_alloc) (hu.below hb1.of_alloc)).mono ?_; rintro e w2 ⟨A, rfl, hA, hb2⟩
    have HAA := Lib.hid (ba_eq hA); clear hA
    go_wp2_with fail
    go_ret2
    exact ⟨by rw [E.out, HAA.out]; rfl, hb1.of_alloc.step hb2⟩
theorem iTermText_t {l h l' h' : Nat} {v u : Value} {ar t : List Int} {w : World} (ha : ar.length ≤ 1048576) (hv : SlI l h w v ar) (ht : t.length ≤ 1048576) (hu : SlI l' h' w u t) :
    Calls Try.prog 30 #[.agg #[v], u] w (RetV w (.tuple #[.string (textBA ar t), .bool (goodTerm ar t)])) := by
  cases hs : goodTerm ar t with
  | false =>
    have E := Lib.hid (text_no hs)
    have HS := Lib.hid hs; clear hs
    go_enter Try.func30, Try.ntmps30
    go_wp2_with fail
    refine (iGoodTerm_v _ _ _ _ _ _ _ _ _ _ HS.out ha ht (hv.alloc _) (hu.alloc _)).mono ?_; rintro e w' ⟨rfl, hb1⟩
    go_wp2_with fail
    go_ret2
    exact ⟨by rw [E.out]; rfl, hb1.of_alloc⟩
  | true =>
    have E := Lib.hid (text_yes hs)
    obtain ⟨hg, hok⟩ := goodTerm_iff.1 hs
    have h1 := ((okTerm_iff ar t).1 hok).1
    have HS := Lib.hid hs; clear hs
    go_enter Try.func30, Try.ntmps30
    go_wp2_with fail
    refine (iGoodTerm_v _ _ _ _ _ _ _ _ _ _ HS.out ha ht (hv.alloc _) (hu.alloc _)).mono ?_; rintro e w' ⟨rfl, hb1⟩
    have hx1 := boxc hb1 0 _ rfl
    go_wp2_with fail
    refine (textAt_c _ _ _ _ _ _ ar t hg hok t.length 0 _ (by omega) (by omega) (hv.below hb1.of_alloc) (hu.below hb1.of_alloc)).mono ?_; rintro e w2 ⟨A, rfl, hA, hb2⟩
    have HAA := Lib.hid (ba_eq hA); clear hA
    go_wp2_with fail
    go_ret2
    exact ⟨by rw [E.out, HAA.out]; rfl, hb1.of_alloc.step hb2⟩
end Go.Proofs.Ytkbgglejhdodoaa
end
section
/- The draws of chapter 1: texts. -/
namespace Go.Proofs.Ytkbgglejhdodoaa
open Go.RowKit

theorem text_size (ar t : List Int) : (textBA ar t).size ≤ 120 := by
  cases h : goodTerm ar t with
  | false => rw [text_no h]; decide
  | true =>
    obtain ⟨hg, hok⟩ := goodTerm_iff.1 h
    have := textAt_le ar t hok 0 (by have := ((okTerm_iff _ _).1 hok).1; omega)
    rw [text_yes h, ba_size]
    simpa using this
def RetDI (w : World) (e : Ending) (w' : World) : Prop :=
  ∃ (sv tv : Value) (ar t : List Int), e = .returned (.tuple #[.agg #[sv], tv]) ∧ drawn ar ∧ SlI w.heap.size w'.heap.size w' sv ar ∧ SlI w.heap.size w'.heap.size w' tv t ∧ t.length ≤ 1000 ∧ Bel w w'
def RetDS (w : World) (e : Ending) (w' : World) : Prop :=
  ∃ (sv : Value) (ar : List Int) (s : ByteArray), e = .returned (.tuple #[.agg #[sv], .string s]) ∧ drawn ar ∧ SlI w.heap.size w'.heap.size w' sv ar ∧ s.size ≤ 1000 ∧ Bel w w'

set_option maxRecDepth 100000 in
set_option maxHeartbeats 1000000 in
theorem drawGoodTerm_c (n : Nat) (v : Value) (w : World) (hn : n ≤ 1048576) (hv : SlB w.heap.size w v n) :
    Calls Try.prog 66 #[v] w (RetDI w) := by
  obtain ⟨ad, cap, rfl, hcap, hr⟩ := hv
  have hv : SlB w.heap.size w (.slice ad n cap) n := ⟨ad, cap, rfl, hcap, hr⟩
  have hB1 := Bel.alloc0 w (.cells #[.slice none 0 0] 28)
  have hs1 : (w.alloc (.cells #[.slice none 0 0] 28)).heap.size = w.heap.size + 1 := by simp
  have hC := Cur.new (T := 70) (w := w.alloc (.cells #[.slice none 0 0] 28)) (v := .slice ad n cap) (n := n) (by
    obtain ⟨ad', cap', e, hc, hr'⟩ := hv.chg (Chg.of_bel (lo := w.heap.size) (hi := w.heap.size) hB1) (Nat.le_refl _)
    exact ⟨ad', cap', e, hc, fun hp => by obtain ⟨b, off, e1, e2, e3⟩ := hr' hp; exact ⟨b, off, e1, by omega, e3⟩⟩)
  rw [hs1] at hC
  have hB2 := hB1.step (Bel.alloc0 (w.alloc (.cells #[.slice none 0 0] 28)) (.cells #[.slice ad n cap, .int .i64 0, .int .u64 0] 70))
  have hbx : ((w.alloc (.cells #[.slice none 0 0] 28)).alloc (.cells #[.slice ad n cap, .int .i64 0, .int .u64 0] 70)).cell? ⟨w.heap.size, 0, none⟩ = some (.slice none 0 0) := (Bel.alloc0 _ _).at (by simp) (by rw [World.cell?_alloc_new w]; rfl)
  have hfx : ((w.alloc (.cells #[.slice none 0 0] 28)).alloc (.cells #[.slice ad n cap, .int .i64 0, .int .u64 0] 70)).frozen? ⟨w.heap.size, 0, none⟩ = false := by simp [go_sem]; try rfl
  have HS := Lib.hid (sign_c (w.heap.size + 1) n 0 _ (by omega) (by omega) hC)
  go_enter Try.func66, Try.ntmps66
  go_wp2_with fail
  refine HS.out.mono ?_; rintro e w1 ⟨sv, ar, k1, rfl, hdr, hsv, hk1, hk2, hc1, hg1⟩
  obtain ⟨sa, sc, rfl⟩ := hsv.form
  have hW0 : ((w.alloc (.cells #[.slice none 0 0] 28)).alloc (.cells #[.slice ad n cap, .int .i64 0, .int .u64 0] 70)).heap.size = w.heap.size + 1 + 1 := by simp
  generalize ((w.alloc (.cells #[.slice none 0 0] 28)).alloc (.cells #[.slice ad n cap, .int .i64 0, .int .u64 0] 70)) = W0 at *
  have hsz1 : W0.heap.size ≤ w1.heap.size := hg1.size
  rw [hW0] at hsv
  have hbx1 := hg1.cell (by omega) (by omega) hbx
  have hfx1 : w1.frozen? ⟨w.heap.size, 0, none⟩ = false := (World.frozen?_of_block (w := W0) (w' := w1) (a := ⟨w.heap.size, 0, none⟩) (hg1.block w.heap.size (by omega) (by omega))).trans hfx
  have hB3 := Bel.alloc0 w1 (.cells #[.slice sa ar.length sc] 28)
  have hs2 : (w1.alloc (.cells #[.slice sa ar.length sc] 28)).heap.size = w1.heap.size + 1 := by simp
  have hbx7 : (w1.alloc (.cells #[.slice sa ar.length sc] 28)).cell? ⟨w1.heap.size, 0, none⟩ = some (.slice sa ar.length sc) := by rw [World.cell?_alloc_new w1]; rfl
  have hbx2 := hB3.at (by omega) hbx1
  have hfx2 := (World.frozen?_of_block (w := w1) (a := ⟨w.heap.size, 0, none⟩) (hB3.block w.heap.size (by omega))).trans hfx1
  have hc2 := hc1.below hB3
  have hsv2 := hsv.below hB3
  have hg2 := hg1.trans (Chg.of_bel (lo := w.heap.size + 1) (hi := w.heap.size + 1 + 1) hB3)
  generalize hw2 : w1.alloc (.cells #[.slice sa ar.length sc] 28) = w2 at *
  clear hc1 hg1 hbx1 hfx1 hB3 hsv hbx hfx HS hC hB1
  have hal := drawn_len hdr
  have hhi0 : w1.heap.size ≤ w2.heap.size := by omega
  go_wp2_with fail
  go_region_held3 (fun w' => w'.cell? ⟨w1.heap.size, 0, none⟩ = some (.slice sa ar.length sc))
    (first | exact hbx7 | exact hx1 | exact hb7F | fail)
    (first
      | (go_at_call 50; refine (anyTerm_c (w.heap.size + 1) n k1 _ _ _ ar _ (by omega) (by omega) hdr (by omega) (hc2.below (Bel.drew0 w2)) (hsv2.below (Bel.drew0 w2))).mono ?_; rintro e y1_2 ⟨aT, cT, tT, k2x, rfl, hT, hlT, hk1k2x, hk2k2x, hcr1, hr1⟩; have G1 := (Chg.of_bel (lo := w.heap.size + 1) (hi := w.heap.size + 1 + 1) (Bel.drew0 w2)).trans hr1; have hzr1 : w2.heap.size ≤ y1_2.heap.size := G1.size; have hx1 := G1.cell (by omega) (by omega) hbx7; have hbxL := G1.cell (by omega) (by omega) hbx2; have hb7F := (World.cell?_setCell_other y1_2 ⟨w.heap.size, 0, none⟩ ⟨w1.heap.size, 0, none⟩ (.slice sa ar.length sc) (fun h => (show w.heap.size ≠ w1.heap.size by omega) (congrArg Addr.block h))).trans hx1; have hfxL := (World.frozen?_of_block (w := w2) (w' := y1_2) (a := ⟨w.heap.size, 0, none⟩) (G1.block w.heap.size (by omega) (by omega))).trans hfx2)
      | fail)
  replace hT := hT.mono (show w2.heap.size ≤ w2.drew.heap.size from Nat.le_refl _) (Nat.le_refl _)
  clear hfx2
  have hzL : w2.heap.size ≤ y1_2.heap.size := G1.size
  replace hsv2 := hsv2.chg G1 (by omega)
  replace hg2 := hg2.trans G1
  have hbF : (y1_2.setCell ⟨w.heap.size, 0, none⟩ (.slice sa ar.length sc)).cell? ⟨w.heap.size, 0, none⟩ = some (.slice sa ar.length sc) := World.cell?_setCell_same _ _ _ hbxL
  have hsv2F := (hsv2.set (p := ⟨w.heap.size, 0, none⟩) (.inl (by simp; omega)) (.slice sa ar.length sc)).mono (show w.heap.size ≤ _ by omega) (show _ ≤ (y1_2.setCell ⟨w.heap.size, 0, none⟩ (.slice sa ar.length sc)).heap.size by first | (simp; done) | (simp; omega))
  have hTF := (hT.set (p := ⟨w.heap.size, 0, none⟩) (.inl (by simp; omega)) (.slice sa ar.length sc)).mono (show w.heap.size ≤ _ by omega) (show _ ≤ (y1_2.setCell ⟨w.heap.size, 0, none⟩ (.slice sa ar.length sc)).heap.size by first | (simp; done) | (simp; omega))
  have hgF := (hg2.bel hB2 (by omega)).setCell (p := ⟨w.heap.size, 0, none⟩) (Nat.le_refl _) (.slice sa ar.length sc)
  clear hbx2 hbx7 hg2 hB2 hcr1 hsv2 hT
  go_wp2_with fail
  exact bodyPost_ret (v := .tuple #[.agg #[.slice sa ar.length sc], .slice aT tT.length cT]) (by simp [results, Try.results66, go_sem, hbF]) rfl ⟨_, _, ar, _, rfl, hdr, hsv2F, hTF, by omega, hgF⟩
set_option maxRecDepth 100000 in
set_option maxHeartbeats 400000 in
theorem drawTermText_c (n : Nat) (v : Value) (w : World) (hn : n ≤ 1048576) (hv : SlB w.heap.size w v n) :
    Calls Try.prog 29 #[v] w (RetDI w) := by
  have hB1 := Bel.alloc0 w (.cells #[.slice none 0 0] 28)
  have hs1 : (w.alloc (.cells #[.slice none 0 0] 28)).heap.size = w.heap.size + 1 := by simp
  have hbx : (w.alloc (.cells #[.slice none 0 0] 28)).cell? ⟨w.heap.size, 0, none⟩ = some (.slice none 0 0) := by rw [World.cell?_alloc_new w]; rfl
  have hfx : (w.alloc (.cells #[.slice none 0 0] 28)).frozen? ⟨w.heap.size, 0, none⟩ = false := by simp [go_sem]; try rfl
  have hv1 : SlB (w.alloc (.cells #[.slice none 0 0] 28)).heap.size (w.alloc (.cells #[.slice none 0 0] 28)) v n := by
    obtain ⟨ad', cap', e, hc, hr'⟩ := hv.chg (Chg.of_bel (lo := w.heap.size) (hi := w.heap.size) hB1) (Nat.le_refl _)
    exact ⟨ad', cap', e, hc, fun hp => by obtain ⟨b, off, e1, e2, e3⟩ := hr' hp; exact ⟨b, off, e1, by omega, e3⟩⟩
  obtain ⟨ad, cap, rfl, -, -⟩ := hv
  go_enter Try.func29, Try.ntmps29
  go_wp2_with fail
  refine (drawGoodTerm_c n _ _ hn hv1).mono ?_; rintro e w1 ⟨sv, tv, ar, t, rfl, hdr, hs, ht, htl, hb1⟩
  obtain ⟨sa, sc, rfl⟩ := hs.form
  obtain ⟨ta, tc, rfl⟩ := ht.form
  have hbx1 := hb1.at (by omega) hbx
  have hfx1 := (World.frozen?_of_block (w' := w1) (a := ⟨w.heap.size, 0, none⟩) (hb1.block w.heap.size (by omega))).trans hfx
  have hz1 := hb1.size
  have hbF : (w1.setCell ⟨w.heap.size, 0, none⟩ (.slice sa ar.length sc)).cell? ⟨w.heap.size, 0, none⟩ = some (.slice sa ar.length sc) := World.cell?_setCell_same _ _ _ hbx1
  have hsF := (hs.set (p := ⟨w.heap.size, 0, none⟩) (.inl (by simp)) (.slice sa ar.length sc)).mono (show w.heap.size ≤ _ by omega) (show _ ≤ (w1.setCell ⟨w.heap.size, 0, none⟩ (.slice sa ar.length sc)).heap.size by simp)
  have htF := (ht.set (p := ⟨w.heap.size, 0, none⟩) (.inl (by simp)) (.slice sa ar.length sc)).mono (show w.heap.size ≤ _ by omega) (show _ ≤ (w1.setCell ⟨w.heap.size, 0, none⟩ (.slice sa ar.length sc)).heap.size by simp)
  have hgF := (hB1.step hb1).setCell (p := ⟨w.heap.size, 0, none⟩) (Nat.le_refl _) (.slice sa ar.length sc)
  clear hs ht hB1 hb1
  go_wp2_with fail
  exact bodyPost_ret (v := .tuple #[.agg #[.slice sa ar.length sc], .slice ta t.length tc]) (by simp [results, Try.results29, go_sem, hbF]) rfl ⟨_, _, ar, _, rfl, hdr, hsF, htF, by omega, hgF⟩
set_option maxRecDepth 100000 in
set_option maxHeartbeats 1000000 in
theorem drawReadTerm_c (n : Nat) (v : Value) (w : World) (hn : n ≤ 1048576) (hv : SlB w.heap.size w v n) :
    Calls Try.prog 33 #[v] w (RetDS w) := by
  obtain ⟨ad, cap, rfl, hcap, hr⟩ := hv
  have hv : SlB w.heap.size w (.slice ad n cap) n := ⟨ad, cap, rfl, hcap, hr⟩
  have hB1 := Bel.alloc0 w (.cells #[.slice none 0 0] 28)
  have hs1 : (w.alloc (.cells #[.slice none 0 0] 28)).heap.size = w.heap.size + 1 := by simp
  have hC := Cur.new (T := 70) (w := w.alloc (.cells #[.slice none 0 0] 28)) (v := .slice ad n cap) (n := n) (by
    obtain ⟨ad', cap', e, hc, hr'⟩ := hv.chg (Chg.of_bel (lo := w.heap.size) (hi := w.heap.size) hB1) (Nat.le_refl _)
    exact ⟨ad', cap', e, hc, fun hp => by obtain ⟨b, off, e1, e2, e3⟩ := hr' hp; exact ⟨b, off, e1, by omega, e3⟩⟩)
  rw [hs1] at hC
  have hB2 := hB1.step (Bel.alloc0 (w.alloc (.cells #[.slice none 0 0] 28)) (.cells #[.slice ad n cap, .int .i64 0, .int .u64 0] 70))
  have hbx : ((w.alloc (.cells #[.slice none 0 0] 28)).alloc (.cells #[.slice ad n cap, .int .i64 0, .int .u64 0] 70)).cell? ⟨w.heap.size, 0, none⟩ = some (.slice none 0 0) := (Bel.alloc0 _ _).at (by simp) (by rw [World.cell?_alloc_new w]; rfl)
  have hfx : ((w.alloc (.cells #[.slice none 0 0] 28)).alloc (.cells #[.slice ad n cap, .int .i64 0, .int .u64 0] 70)).frozen? ⟨w.heap.size, 0, none⟩ = false := by simp [go_sem]; try rfl
  have HS := Lib.hid (sign_c (w.heap.size + 1) n 0 _ (by omega) (by omega) hC)
  go_enter Try.func33, Try.ntmps33
  go_wp2_with fail
  refine HS.out.mono ?_; rintro e w1 ⟨sv, ar, k1, rfl, hdr, hsv, hk1, hk2, hc1, hg1⟩
  obtain ⟨sa, sc, rfl⟩ := hsv.form
  have hW0 : ((w.alloc (.cells #[.slice none 0 0] 28)).alloc (.cells #[.slice ad n cap, .int .i64 0, .int .u64 0] 70)).heap.size = w.heap.size + 1 + 1 := by simp
  generalize ((w.alloc (.cells #[.slice none 0 0] 28)).alloc (.cells #[.slice ad n cap, .int .i64 0, .int .u64 0] 70)) = W0 at *
  have hsz1 : W0.heap.size ≤ w1.heap.size := hg1.size
  rw [hW0] at hsv
  have hbx1 := hg1.cell (by omega) (by omega) hbx
  have hfx1 : w1.frozen? ⟨w.heap.size, 0, none⟩ = false := (World.frozen?_of_block (w := W0) (w' := w1) (a := ⟨w.heap.size, 0, none⟩) (hg1.block w.heap.size (by omega) (by omega))).trans hfx
  have hB3 := Bel.alloc0 w1 (.cells #[.slice sa ar.length sc] 28)
  have hs2 : (w1.alloc (.cells #[.slice sa ar.length sc] 28)).heap.size = w1.heap.size + 1 := by simp
  have hbx7 : (w1.alloc (.cells #[.slice sa ar.length sc] 28)).cell? ⟨w1.heap.size, 0, none⟩ = some (.slice sa ar.length sc) := by rw [World.cell?_alloc_new w1]; rfl
  have hbx2 := hB3.at (by omega) hbx1
  have hfx2 := (World.frozen?_of_block (w := w1) (a := ⟨w.heap.size, 0, none⟩) (hB3.block w.heap.size (by omega))).trans hfx1
  have hc2 := hc1.below hB3
  have hsv2 := hsv.below hB3
  have hg2 := hg1.trans (Chg.of_bel (lo := w.heap.size + 1) (hi := w.heap.size + 1 + 1) hB3)
  generalize hw2 : w1.alloc (.cells #[.slice sa ar.length sc] 28) = w2 at *
  clear hc1 hg1 hbx1 hfx1 hB3 hsv hbx hfx HS hC hB1
  have hal := drawn_len hdr
  have hhi0 : w1.heap.size ≤ w2.heap.size := by omega
  go_wp2_with fail
  go_region_held3 (fun w' => w'.cell? ⟨w1.heap.size, 0, none⟩ = some (.slice sa ar.length sc))
    (first | exact hbx7 | exact hx1 | exact hx2 | fail)
    (first
      | (go_at_call 50; refine (anyTerm_c (w.heap.size + 1) n k1 _ _ _ ar _ (by omega) (by omega) hdr (by omega) (hc2.below (Bel.drew0 w2)) (hsv2.below (Bel.drew0 w2))).mono ?_; rintro e y1_2 ⟨aT, cT, tT, k2x, rfl, hT, hlT, hk1k2x, hk2k2x, hcr1, hr1⟩; have G1 := (Chg.of_bel (lo := w.heap.size + 1) (hi := w.heap.size + 1 + 1) (Bel.drew0 w2)).trans hr1; have hzr1 : w2.heap.size ≤ y1_2.heap.size := G1.size; have hx1 := G1.cell (by omega) (by omega) hbx7)
      | (go_at_call 31; refine (sTermText_t (by omega) (hsv2.chg G1 (by omega)) (by omega) hT).mono ?_; rintro e y2_2 ⟨rfl, hbq⟩; have hr2 := Chg.of_bel (lo := w.heap.size + 1) (hi := w.heap.size + 1 + 1) hbq; have G2 := G1.trans hr2; have hzr2 : w2.heap.size ≤ y2_2.heap.size := G2.size; have hx2 := G2.cell (by omega) (by omega) hbx7; have hzs2 := hr2.size; have hcr2 := Cur.below hcr1 hbq)
      | fail)
  replace hT := hT.mono (show w2.heap.size ≤ w2.drew.heap.size from Nat.le_refl _) (Nat.le_refl _)
  replace hT := hT.chg hr2 (by omega)
  skip
  have hzy2_2 : w2.heap.size ≤ y2_2.heap.size := G2.size
  replace hsv2 := hsv2.chg G2 (by omega)
  replace hbx7 := G2.cell (by omega) (by omega) hbx7
  have hfq := hfx2
  replace hfx2 := (World.frozen?_of_block (w := w2) (w' := y2_2) (a := ⟨w.heap.size, 0, none⟩) (G2.block w.heap.size (by omega) (by omega))).trans hfq
  clear hfq
  replace hbx2 := G2.cell (by omega) (by omega) hbx2
  replace hg2 := hg2.trans G2
  clear hx1 hx2 G1 G2 hr1 hr2
  have hts := text_size ar tT
  generalize textBA ar tT = s at *
  generalize goodTerm ar tT = gt at *
  go_wp2_with fail
  refine (one_c (w.heap.size + 1) n k2x _ 3 y2_2 (by decide) (by omega) (by omega) (by omega) hcr2).mono ?_; rintro e w4 ⟨q, k3x, rfl, hk1k3x, hk2k3x, hc4, hgs4⟩
  have hzw4 : y2_2.heap.size ≤ w4.heap.size := hgs4.size
  replace hsv2 := hsv2.chg hgs4 (by omega)
  replace hT := hT.chg hgs4 (by omega)
  replace hbx7 := hgs4.cell (by omega) (by omega) hbx7
  have hfq := hfx2
  replace hfx2 := (World.frozen?_of_block (w := y2_2) (w' := w4) (a := ⟨w.heap.size, 0, none⟩) (hgs4.block w.heap.size (by omega) (by omega))).trans hfq
  clear hfq
  replace hbx2 := hgs4.cell (by omega) (by omega) hbx2
  replace hg2 := hg2.trans hgs4
  clear hcr2
  cases q with
  | true =>
    go_wp2_with fail
    refine (spoilt_c (w.heap.size + 1) n k3x s _ w4 (by omega) (by omega) (by omega) (by decide) (by decide) hc4).mono ?_; rintro e w5 ⟨s2, k4x, rfl, hs2z, hk1k4x, hk2k4x, hc5, hgs5⟩
    have hzw5 : w4.heap.size ≤ w5.heap.size := hgs5.size
    replace hsv2 := hsv2.chg hgs5 (by omega)
    replace hT := hT.chg hgs5 (by omega)
    replace hbx7 := hgs5.cell (by omega) (by omega) hbx7
    have hfq := hfx2
    replace hfx2 := (World.frozen?_of_block (w := w4) (w' := w5) (a := ⟨w.heap.size, 0, none⟩) (hgs5.block w.heap.size (by omega) (by omega))).trans hfq
    clear hfq
    replace hbx2 := hgs5.cell (by omega) (by omega) hbx2
    replace hg2 := hg2.trans hgs5
    clear hc4
    have hbF : (w5.setCell ⟨w.heap.size, 0, none⟩ (.slice sa ar.length sc)).cell? ⟨w.heap.size, 0, none⟩ = some (.slice sa ar.length sc) := World.cell?_setCell_same _ _ _ hbx2
    have hsv2F := (hsv2.set (p := ⟨w.heap.size, 0, none⟩) (.inl (by simp; omega)) (.slice sa ar.length sc)).mono (show w.heap.size ≤ _ by omega) (show _ ≤ (w5.setCell ⟨w.heap.size, 0, none⟩ (.slice sa ar.length sc)).heap.size by first | (simp; done) | (simp; omega))
    have hTF := (hT.set (p := ⟨w.heap.size, 0, none⟩) (.inl (by simp; omega)) (.slice sa ar.length sc)).mono (show w.heap.size ≤ _ by omega) (show _ ≤ (w5.setCell ⟨w.heap.size, 0, none⟩ (.slice sa ar.length sc)).heap.size by first | (simp; done) | (simp; omega))
    have hgF := (hg2.bel hB2 (by omega)).setCell (p := ⟨w.heap.size, 0, none⟩) (Nat.le_refl _) (.slice sa ar.length sc)
    clear hg2 hB2 hc5
    go_wp2_with fail
    exact bodyPost_ret (v := .tuple #[.agg #[.slice sa ar.length sc], .string s2]) (by simp [results, Try.results33, go_sem, hbF]) rfl ⟨_, ar, s2, rfl, hdr, hsv2F, by omega, hgF⟩
  | false =>
    have hbF : (w4.setCell ⟨w.heap.size, 0, none⟩ (.slice sa ar.length sc)).cell? ⟨w.heap.size, 0, none⟩ = some (.slice sa ar.length sc) := World.cell?_setCell_same _ _ _ hbx2
    have hsv2F := (hsv2.set (p := ⟨w.heap.size, 0, none⟩) (.inl (by simp; omega)) (.slice sa ar.length sc)).mono (show w.heap.size ≤ _ by omega) (show _ ≤ (w4.setCell ⟨w.heap.size, 0, none⟩ (.slice sa ar.length sc)).heap.size by first | (simp; done) | (simp; omega))
    have hTF := (hT.set (p := ⟨w.heap.size, 0, none⟩) (.inl (by simp; omega)) (.slice sa ar.length sc)).mono (show w.heap.size ≤ _ by omega) (show _ ≤ (w4.setCell ⟨w.heap.size, 0, none⟩ (.slice sa ar.length sc)).heap.size by first | (simp; done) | (simp; omega))
    have hgF := (hg2.bel hB2 (by omega)).setCell (p := ⟨w.heap.size, 0, none⟩) (Nat.le_refl _) (.slice sa ar.length sc)
    clear hg2 hB2 hc4
    go_wp2_with fail
    exact bodyPost_ret (v := .tuple #[.agg #[.slice sa ar.length sc], .string s]) (by simp [results, Try.results33, go_sem, hbF]) rfl ⟨_, ar, s, rfl, hdr, hsv2F, by omega, hgF⟩
end Go.Proofs.Ytkbgglejhdodoaa
end
section
/- The draws of chapter 1: shifted variables. -/
namespace Go.Proofs.Ytkbgglejhdodoaa
open Go.RowKit

set_option maxRecDepth 100000 in
set_option maxHeartbeats 1000000 in
theorem drawShiftVars_c (n : Nat) (v : Value) (w : World) (hn : n ≤ 1048576) (hv : SlB w.heap.size w v n) :
    Calls Try.prog 35 #[v] w (RetDC w) := by
  obtain ⟨ad, cap, rfl, hcap, hr⟩ := hv
  have hv : SlB w.heap.size w (.slice ad n cap) n := ⟨ad, cap, rfl, hcap, hr⟩
  have hB1 := Bel.alloc0 w (.cells #[.slice none 0 0] 28)
  have hs1 : (w.alloc (.cells #[.slice none 0 0] 28)).heap.size = w.heap.size + 1 := by simp
  have hC := Cur.new (T := 70) (w := w.alloc (.cells #[.slice none 0 0] 28)) (v := .slice ad n cap) (n := n) (by
    obtain ⟨ad', cap', e, hc, hr'⟩ := hv.chg (Chg.of_bel (lo := w.heap.size) (hi := w.heap.size) hB1) (Nat.le_refl _)
    exact ⟨ad', cap', e, hc, fun hp => by obtain ⟨b, off, e1, e2, e3⟩ := hr' hp; exact ⟨b, off, e1, by omega, e3⟩⟩)
  rw [hs1] at hC
  have hB2 := hB1.step (Bel.alloc0 (w.alloc (.cells #[.slice none 0 0] 28)) (.cells #[.slice ad n cap, .int .i64 0, .int .u64 0] 70))
  have hbx : ((w.alloc (.cells #[.slice none 0 0] 28)).alloc (.cells #[.slice ad n cap, .int .i64 0, .int .u64 0] 70)).cell? ⟨w.heap.size, 0, none⟩ = some (.slice none 0 0) := (Bel.alloc0 _ _).at (by simp) (by rw [World.cell?_alloc_new w]; rfl)
  have hfx : ((w.alloc (.cells #[.slice none 0 0] 28)).alloc (.cells #[.slice ad n cap, .int .i64 0, .int .u64 0] 70)).frozen? ⟨w.heap.size, 0, none⟩ = false := by simp [go_sem]; try rfl
  have HS := Lib.hid (sign_c (w.heap.size + 1) n 0 _ (by omega) (by omega) hC)
  go_enter Try.func35, Try.ntmps35
  go_wp2_with fail
  refine HS.out.mono ?_; rintro e w1 ⟨sv, ar, k1, rfl, hdr, hsv, hk1, hk2, hc1, hg1⟩
  obtain ⟨sa, sc, rfl⟩ := hsv.form
  have hW0 : ((w.alloc (.cells #[.slice none 0 0] 28)).alloc (.cells #[.slice ad n cap, .int .i64 0, .int .u64 0] 70)).heap.size = w.heap.size + 1 + 1 := by simp
  generalize ((w.alloc (.cells #[.slice none 0 0] 28)).alloc (.cells #[.slice ad n cap, .int .i64 0, .int .u64 0] 70)) = W0 at *
  have hsz1 : W0.heap.size ≤ w1.heap.size := hg1.size
  rw [hW0] at hsv
  have hbx1 := hg1.cell (by omega) (by omega) hbx
  have hfx1 : w1.frozen? ⟨w.heap.size, 0, none⟩ = false := (World.frozen?_of_block (w := W0) (w' := w1) (a := ⟨w.heap.size, 0, none⟩) (hg1.block w.heap.size (by omega) (by omega))).trans hfx
  have hB3 := Bel.alloc0 w1 (.cells #[.slice sa ar.length sc] 28)
  have hs2 : (w1.alloc (.cells #[.slice sa ar.length sc] 28)).heap.size = w1.heap.size + 1 := by simp
  have hbx7 : (w1.alloc (.cells #[.slice sa ar.length sc] 28)).cell? ⟨w1.heap.size, 0, none⟩ = some (.slice sa ar.length sc) := by rw [World.cell?_alloc_new w1]; rfl
  have hbx2 := hB3.at (by omega) hbx1
  have hfx2 := (World.frozen?_of_block (w := w1) (a := ⟨w.heap.size, 0, none⟩) (hB3.block w.heap.size (by omega))).trans hfx1
  have hc2 := hc1.below hB3
  have hsv2 := hsv.below hB3
  have hg2 := hg1.trans (Chg.of_bel (lo := w.heap.size + 1) (hi := w.heap.size + 1 + 1) hB3)
  generalize hw2 : w1.alloc (.cells #[.slice sa ar.length sc] 28) = w2 at *
  clear hc1 hg1 hbx1 hfx1 hB3 hsv hbx hfx HS hC hB1
  have hal := drawn_len hdr
  have hBd : Bel w2 (w2.alloc (.cells #[.int .i64 0, .int .i64 1, .int .i64 3, .int .i64 9, .int .i64 10, .int .i64 12, .int .i64 13, .int .i64 (-1)] 3)).drew := Bel.drew (Bel.alloc0 w2 _)
  have hbB := hBd.at (World.block_lt_of_cell? _ ⟨_, 0, none⟩ hbx7) hbx7
  have hLit0 : SlI w2.heap.size (w2.heap.size + 1) (w2.alloc (.cells #[.int .i64 0, .int .i64 1, .int .i64 3, .int .i64 9, .int .i64 10, .int .i64 12, .int .i64 13, .int .i64 (-1)] 3)).drew (.slice (some ⟨w2.heap.size, 0, none⟩) 8 8) [0, 1, 3, 9, 10, 12, 13, -1] := (SlI.arr (w := w2) (xs := [0, 1, 3, 9, 10, 12, 13, -1]) rfl rfl (by decide) (Nat.le_refl _) (Nat.lt_succ_self _)).below (Bel.drew0 _)
  have hLit1 := hLit0
  rw [hs2] at hLit1
  have HAny := Lib.hid (fun (w' : World) (hb : Bel w2 w') => anyTerm_c (w.heap.size + 1) n k1 _ _ _ ar w' (by omega) (by omega) hdr (by omega) (hc2.below hb) (hsv2.below hb))
  have HAm2 := Lib.hid (fun (y1 : World) (k2 : Nat) (hk : k2 ≤ 1000000) (hc1 : Cur (w.heap.size + 1) n k2 y1) (hr1 : Chg (w.heap.size + 1) (w.heap.size + 1 + 1) (w2.alloc (.cells #[.int .i64 0, .int .i64 1, .int .i64 3, .int .i64 9, .int .i64 10, .int .i64 12, .int .i64 13, .int .i64 (-1)] 3)).drew y1) => among_c (w.heap.size + 1) n k2 _ _ _ [0, 1, 3, 9, 10, 12, 13, -1] y1 (by omega) (by omega) (by decide) (by decide) (by omega) hc1 (hLit1.chg hr1 (by omega)))
  go_wp2_with fail
  go_region_held3 (fun w' => w'.cell? ⟨w1.heap.size, 0, none⟩ = some (.slice sa ar.length sc))
    (first | exact hbx7 | exact hb1 | exact hbA | exact hb2 | exact hb7F | exact hbB | fail)
    (first
      | (go_at_call 72; refine (HAm2.out y1 k2 (by omega) hc1 hr1).mono ?_; rintro e y2 ⟨z, k3, rfl, hz, hk31, hk32, hc2', hr2⟩; have G2 := G1.trans hr2; have hTF := hT.chg hr2 (by omega); have hb2 := G2.cell (by omega) (by omega) hbx7; have hbxL := G2.cell (by omega) (by omega) hbx2; have hfxL := (World.frozen?_of_block (w := w2) (w' := y2) (a := ⟨w.heap.size, 0, none⟩) (G2.block w.heap.size (by omega) (by omega))).trans hfx2; have hzy2 : w2.heap.size ≤ y2.heap.size := G2.size; have hb7F := (World.cell?_setCell_other y2 ⟨w.heap.size, 0, none⟩ ⟨w1.heap.size, 0, none⟩ (.slice sa ar.length sc) (fun h => (show w.heap.size ≠ w1.heap.size by omega) (congrArg Addr.block h))).trans hb2)
      | (go_at_call 72; refine (among_c (w.heap.size + 1) n k2 _ _ _ [0, 1, 3, 9, 10, 12, 13, -1] _ (by omega) (by omega) (by decide) (by decide) (by omega) (hc1.below hBA) (SlI.arr (xs := [0, 1, 3, 9, 10, 12, 13, -1]) rfl rfl (by decide) (Nat.le_refl _) (Nat.lt_succ_self _))).mono ?_; rintro e y2 ⟨z, k3, rfl, hz, hk31, hk32, hc2', hr2⟩; have G2 := G1A.trans hr2; have hTF := (hT.below hBA).chg hr2 (by omega); have hb2 := G2.cell (by omega) (by omega) hbx7; have hbxL := G2.cell (by omega) (by omega) hbx2; have hfxL := (World.frozen?_of_block (w := w2) (w' := y2) (a := ⟨w.heap.size, 0, none⟩) (G2.block w.heap.size (by omega) (by omega))).trans hfx2; have hzy2 : w2.heap.size ≤ y2.heap.size := G2.size; have hb7F := (World.cell?_setCell_other y2 ⟨w.heap.size, 0, none⟩ ⟨w1.heap.size, 0, none⟩ (.slice sa ar.length sc) (fun h => (show w.heap.size ≠ w1.heap.size by omega) (congrArg Addr.block h))).trans hb2)
      | (go_at_call 50; refine (HAny.out _ (by first | exact Bel.drew0 w2 | exact hBd)).mono ?_; rintro e y1 ⟨aT, cT, tT, k2, rfl, hT, hlT, hk11, hk12, hc1, hr1⟩; have G1 : Chg (w.heap.size + 1) (w.heap.size + 1 + 1) w2 y1 := (by first | exact (Chg.of_bel (Bel.drew0 w2)).trans hr1 | exact (Chg.of_bel hBd).trans hr1); replace hT := hT.mono (show w2.heap.size ≤ _ by first | exact Nat.le_refl _ | exact hBd.size) (Nat.le_refl _); have hzy1 : w2.heap.size ≤ y1.heap.size := G1.size; have hb1 := G1.cell (by omega) (by omega) hbx7; have hBA := Bel.alloc0 y1 (.cells #[.int .i64 0, .int .i64 1, .int .i64 3, .int .i64 9, .int .i64 10, .int .i64 12, .int .i64 13, .int .i64 (-1)] 3); have G1A := G1.trans (Chg.of_bel hBA); have hbA := hBA.at (by omega) hb1)
      | fail)
  all_goals
    have hzb : -1000 ≤ z ∧ z ≤ 1000 := by simp at hz; omega
    have hzT : w2.heap.size ≤ y2.heap.size := hzy2
    have hsvF := ((hsv2.chg G2 (by omega)).set (p := ⟨w.heap.size, 0, none⟩) (.inl (by simp; omega)) (.slice sa ar.length sc)).mono (show w.heap.size ≤ _ by omega) (show _ ≤ (y2.setCell ⟨w.heap.size, 0, none⟩ (.slice sa ar.length sc)).heap.size by first | (simp; done) | (simp; omega))
    have hyy : y1.heap.size ≤ y2.heap.size := by first | exact hr2.size | exact Nat.le_trans hBA.size hr2.size
    have hTFF := (hTF.set (p := ⟨w.heap.size, 0, none⟩) (.inl (by simp; omega)) (.slice sa ar.length sc)).mono (show w.heap.size ≤ _ by omega) (show _ ≤ (y2.setCell ⟨w.heap.size, 0, none⟩ (.slice sa ar.length sc)).heap.size by first | (simp; done) | (simp; omega))
    have hgF := ((hg2.trans G2).bel hB2 (by omega)).setCell (p := ⟨w.heap.size, 0, none⟩) (Nat.le_refl _) (.slice sa ar.length sc)
    have hbF : (y2.setCell ⟨w.heap.size, 0, none⟩ (.slice sa ar.length sc)).cell? ⟨w.heap.size, 0, none⟩ = some (.slice sa ar.length sc) := World.cell?_setCell_same _ _ _ hbxL
    clear hsv2 hTF hT hbx7 hbx2 hg2 hB2 G2 hbxL hfxL hb2 hb1 hbA
    go_wp2_with fail
    exact bodyPost_ret (v := .tuple #[.agg #[.slice sa ar.length sc], .slice aT tT.length cT, .int .i64 z]) (by simp [results, Try.results35, go_sem, hbF]) rfl ⟨_, _, ar, tT, z, rfl, hdr, hsvF, hTFF, hlT, hzb.1, hzb.2, hgF⟩
end Go.Proofs.Ytkbgglejhdodoaa
end
section
/- Reading a term, plainly. No program. -/
namespace Go.Proofs.Ytkbgglejhdodoaa

def sepC (k : Nat) : UInt8 := if k = 0 then 40 else 44
/-- What a letter stands for. -/
def symAt (ar : List Int) (b : UInt8) : Option Int :=
  if inB b.toNat 65 76 then some (-1 - ((b.toNat : Int) - 65)) else if inB b.toNat 97 (97 + (ar.length : Int) - 1) then some ((b.toNat : Int) - 97) else none

abbrev Scanned := List Int × Nat × Bool
def scanArgs (g : Nat → Scanned) (T : List UInt8) : Nat → Nat → List Int → Nat → Scanned
  | 0, _, acc, p => if T[p]? = some 41 then (acc, p + 1, true) else ([], p, false)
  | m + 1, k, acc, p => if T[p]? = some (sepC k) then (if (g (p + 1)).2.2 then scanArgs g T m (k + 1) (acc ++ (g (p + 1)).1) (g (p + 1)).2.1 else ([], (g (p + 1)).2.1, false)) else ([], p, false)
def scanF (ar : List Int) (T : List UInt8) : Nat → Nat → Scanned
  | 0, p => ([], p, false)
  | f + 1, p => match T[p]? with
    | none => ([], T.length, false)
    | some b => match symAt ar b with
      | none => ([], p, false)
      | some n => if arOf ar n = 0 then ([n], p + 1, true) else scanArgs (scanF ar T f) T (arOf ar n) 0 [n] (p + 1)

/-- What holds of a result that began at p. -/
def ScanOk (T : List UInt8) (p : Nat) (r : Scanned) : Prop := r.2.1 ≤ T.length ∧ (r.2.2 = true → p < r.2.1 ∧ r.1.length ≤ r.2.1 - p) ∧ (r.2.2 = false → r.1 = [])

theorem scanArgs_ok (g : Nat → Scanned) (T : List UInt8) (p0 : Nat) (hg : ∀ q, q ≤ T.length → ScanOk T q (g q)) : ∀ (m k : Nat) (acc : List Int) (p : Nat), p0 < p → p ≤ T.length → acc.length ≤ p - p0 → ScanOk T p0 (scanArgs g T m k acc p) := by
  intro m
  induction m with
  | zero =>
    intro k acc p h1 h2 h3
    unfold scanArgs
    by_cases h : T[p]? = some 41
    · have := (List.getElem?_eq_some_iff.1 h).1
      rw [if_pos h]; exact ⟨by simp; omega, fun _ => ⟨by simp; omega, by simp; omega⟩, fun h => by simp at h⟩
    · rw [if_neg h]; exact ⟨h2, fun h => by simp at h, fun _ => rfl⟩
  | succ m ih =>
    intro k acc p h1 h2 h3
    unfold scanArgs
    by_cases h : T[p]? = some (sepC k)
    · have hl := (List.getElem?_eq_some_iff.1 h).1
      rw [if_pos h]
      obtain ⟨a1, a2, a3⟩ := hg (p + 1) (by omega)
      cases hb : (g (p + 1)).2.2 with
      | true =>
        rw [if_pos rfl]
        obtain ⟨b1, b2⟩ := a2 hb
        exact ih _ _ _ (by omega) a1 (by simp; omega)
      | false =>
        rw [if_neg (by simp)]
        exact ⟨a1, fun h => by simp at h, fun _ => rfl⟩
    · rw [if_neg h]; exact ⟨h2, fun h => by simp at h, fun _ => rfl⟩

theorem scan_end {ar : List Int} {T : List UInt8} {f p : Nat} (h : ¬ p < T.length) : scanF ar T (f + 1) p = ([], T.length, false) := by
  unfold scanF; rw [List.getElem?_eq_none (by omega)]
theorem scan_bad {ar : List Int} {T : List UInt8} {f p : Nat} {b : UInt8} (h : T[p]? = some b) (hs : symAt ar b = none) : scanF ar T (f + 1) p = ([], p, false) := by
  unfold scanF; rw [h]; simp only [hs]
theorem scan_leaf {ar : List Int} {T : List UInt8} {f p : Nat} {b : UInt8} {n : Int} (h : T[p]? = some b) (hs : symAt ar b = some n) (h0 : arOf ar n = 0) : scanF ar T (f + 1) p = ([n], p + 1, true) := by
  unfold scanF; rw [h]; simp only [hs]; rw [if_pos h0]
theorem scan_args {ar : List Int} {T : List UInt8} {f p : Nat} {b : UInt8} {n : Int} (h : T[p]? = some b) (hs : symAt ar b = some n) (h0 : arOf ar n ≠ 0) : scanF ar T (f + 1) p = scanArgs (scanF ar T f) T (arOf ar n) 0 [n] (p + 1) := by
  unfold scanF; rw [h]; simp only [hs]; rw [if_neg h0]
theorem args_done {g : Nat → Scanned} {T : List UInt8} {k p : Nat} {acc : List Int} (h : T[p]? = some 41) : scanArgs g T 0 k acc p = (acc, p + 1, true) := by unfold scanArgs; rw [if_pos h]
theorem args_noclose {g : Nat → Scanned} {T : List UInt8} {k p : Nat} {acc : List Int} (h : T[p]? ≠ some 41) : scanArgs g T 0 k acc p = ([], p, false) := by unfold scanArgs; rw [if_neg h]
theorem args_nosep {g : Nat → Scanned} {T : List UInt8} {m k p : Nat} {acc : List Int} (h : T[p]? ≠ some (sepC k)) : scanArgs g T (m + 1) k acc p = ([], p, false) := by
  conv => lhs; unfold scanArgs
  rw [if_neg h]
theorem args_bad {g : Nat → Scanned} {T : List UInt8} {m k p : Nat} {acc : List Int} (h : T[p]? = some (sepC k)) (hb : (g (p + 1)).2.2 = false) : scanArgs g T (m + 1) k acc p = ([], (g (p + 1)).2.1, false) := by
  conv => lhs; unfold scanArgs
  rw [if_pos h, if_neg (by simp [hb])]
theorem args_next {g : Nat → Scanned} {T : List UInt8} {m k p : Nat} {acc : List Int} (h : T[p]? = some (sepC k)) (hb : (g (p + 1)).2.2 = true) : scanArgs g T (m + 1) k acc p = scanArgs g T m (k + 1) (acc ++ (g (p + 1)).1) (g (p + 1)).2.1 := by
  conv => lhs; unfold scanArgs
  rw [if_pos h, if_pos hb]
theorem scanF_ok (ar : List Int) (T : List UInt8) : ∀ (f p : Nat), p ≤ T.length → ScanOk T p (scanF ar T f p) := by
  intro f
  induction f with
  | zero => intro p hp; exact ⟨hp, fun h => by simp [scanF] at h, fun _ => rfl⟩
  | succ f ih =>
    intro p hp
    by_cases hl : p < T.length
    · obtain ⟨b, h⟩ : ∃ b, T[p]? = some b := ⟨T[p], List.getElem?_eq_getElem hl⟩
      cases hs : symAt ar b with
      | none => rw [scan_bad h hs]; exact ⟨hp, fun h => by simp at h, fun _ => rfl⟩
      | some n =>
        by_cases h0 : arOf ar n = 0
        · rw [scan_leaf h hs h0]; exact ⟨by simp; omega, fun _ => ⟨by simp, by simp⟩, fun h => by simp at h⟩
        · rw [scan_args h hs h0]; exact scanArgs_ok _ T p ih _ _ _ _ (by omega) (by omega) (by simp)
    · rw [scan_end hl]; exact ⟨Nat.le_refl _, fun h => by simp at h, fun _ => rfl⟩
end Go.Proofs.Ytkbgglejhdodoaa
end
