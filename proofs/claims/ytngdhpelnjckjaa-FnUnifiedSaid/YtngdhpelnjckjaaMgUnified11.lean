/- Texts merged, part 11. -/
import Derived.Test.YtngdhpelnjckjaaMgUnified10
section
/- The draws of chapter 2: unification. -/
namespace Go.Proofs.Ytngdhpelnjckjaa
open Go.RowKit

def RetDUI (w : World) (e : Ending) (w' : World) : Prop :=
  ∃ (sv lv xv yv : Value) (ar : List Int) (l : List (List Int)) (x y : List Int), e = .returned (.tuple #[.agg #[sv], lv, xv, yv]) ∧ drawn ar ∧ SlI w.heap.size w'.heap.size w' sv ar ∧ SlS w.heap.size w'.heap.size w' lv l ∧ short l ∧ SlI w.heap.size w'.heap.size w' xv x ∧ x.length ≤ 1000 ∧ SlI w.heap.size w'.heap.size w' yv y ∧ y.length ≤ 1000 ∧ Bel w w'

set_option maxRecDepth 100000 in
set_option maxHeartbeats 1000000 in
theorem drawUnify_c (n : Nat) (v : Value) (w : World) (hn : n ≤ 1048576) (hv : SlB w.heap.size w v n) :
    Calls Try.prog 49 #[v] w (RetDII w) := by
  obtain ⟨ad, cap, rfl, hcap, hr⟩ := hv
  have hv : SlB w.heap.size w (.slice ad n cap) n := ⟨ad, cap, rfl, hcap, hr⟩
  have hB1 := Bel.alloc0 w (.cells #[.slice none 0 0] 26)
  have hs1 : (w.alloc (.cells #[.slice none 0 0] 26)).heap.size = w.heap.size + 1 := by simp
  have hC := Cur.new (T := 87) (w := w.alloc (.cells #[.slice none 0 0] 26)) (v := .slice ad n cap) (n := n) (by
    obtain ⟨ad', cap', e, hc, hr'⟩ := hv.chg (Chg.of_bel (lo := w.heap.size) (hi := w.heap.size) hB1) (Nat.le_refl _)
    exact ⟨ad', cap', e, hc, fun hp => by obtain ⟨b, off, e1, e2, e3⟩ := hr' hp; exact ⟨b, off, e1, by omega, e3⟩⟩)
  rw [hs1] at hC
  have hB2 := hB1.step (Bel.alloc0 (w.alloc (.cells #[.slice none 0 0] 26)) (.cells #[.slice ad n cap, .int .i64 0, .int .u64 0] 87))
  have hbx : ((w.alloc (.cells #[.slice none 0 0] 26)).alloc (.cells #[.slice ad n cap, .int .i64 0, .int .u64 0] 87)).cell? ⟨w.heap.size, 0, none⟩ = some (.slice none 0 0) := (Bel.alloc0 _ _).at (by simp) (by rw [World.cell?_alloc_new w]; rfl)
  have hfx : ((w.alloc (.cells #[.slice none 0 0] 26)).alloc (.cells #[.slice ad n cap, .int .i64 0, .int .u64 0] 87)).frozen? ⟨w.heap.size, 0, none⟩ = false := by simp [go_sem]; try rfl
  have HS := Lib.hid (sign_c (w.heap.size + 1) n 0 _ (by omega) (by omega) hC)
  go_enter Try.func49, Try.ntmps49
  go_wp2_with fail
  refine HS.out.mono ?_; rintro e w1 ⟨sv, ar, k1, rfl, hdr, hsv, hk1, hk2, hc1, hg1⟩
  obtain ⟨sa, sc, rfl⟩ := hsv.form
  have hW0 : ((w.alloc (.cells #[.slice none 0 0] 26)).alloc (.cells #[.slice ad n cap, .int .i64 0, .int .u64 0] 87)).heap.size = w.heap.size + 1 + 1 := by simp
  generalize ((w.alloc (.cells #[.slice none 0 0] 26)).alloc (.cells #[.slice ad n cap, .int .i64 0, .int .u64 0] 87)) = W0 at *
  have hsz1 : W0.heap.size ≤ w1.heap.size := hg1.size
  rw [hW0] at hsv
  have hbx1 := hg1.cell (by omega) (by omega) hbx
  have hfx1 : w1.frozen? ⟨w.heap.size, 0, none⟩ = false := (World.frozen?_of_block (w := W0) (w' := w1) (a := ⟨w.heap.size, 0, none⟩) (hg1.block w.heap.size (by omega) (by omega))).trans hfx
  have hB3 := Bel.alloc0 w1 (.cells #[.slice sa ar.length sc] 26)
  have hs2 : (w1.alloc (.cells #[.slice sa ar.length sc] 26)).heap.size = w1.heap.size + 1 := by simp
  have hbx7 : (w1.alloc (.cells #[.slice sa ar.length sc] 26)).cell? ⟨w1.heap.size, 0, none⟩ = some (.slice sa ar.length sc) := by rw [World.cell?_alloc_new w1]; rfl
  have hbx2 := hB3.at (by omega) hbx1
  have hfx2 := (World.frozen?_of_block (w := w1) (a := ⟨w.heap.size, 0, none⟩) (hB3.block w.heap.size (by omega))).trans hfx1
  have hc2 := hc1.below hB3
  have hsv2 := hsv.below hB3
  have hg2 := hg1.trans (Chg.of_bel (lo := w.heap.size + 1) (hi := w.heap.size + 1 + 1) hB3)
  generalize hw2 : w1.alloc (.cells #[.slice sa ar.length sc] 26) = w2 at *
  clear hc1 hg1 hbx1 hfx1 hB3 hsv hbx hfx HS hC hB1
  have hal := drawn_len hdr
  go_wp2_with fail
  refine (twins_c (w.heap.size + 1) n k1 _ _ _ ar w2 (by omega) (by omega) hdr (by omega) (by omega) hc2 hsv2).mono ?_; rintro e w3 ⟨aT, aT2, cT, cT2, tT, uT, k2x, rfl, hT, hT2, hlT, hlT2, hk1k2x, hk2k2x, hc3, hgs3⟩
  have hzw3 : w2.heap.size ≤ w3.heap.size := hgs3.size
  replace hsv2 := hsv2.chg hgs3 (by omega)
  replace hbx7 := hgs3.cell (by omega) (by omega) hbx7
  have hfq := hfx2
  replace hfx2 := (World.frozen?_of_block (w := w2) (w' := w3) (a := ⟨w.heap.size, 0, none⟩) (hgs3.block w.heap.size (by omega) (by omega))).trans hfq
  clear hfq
  replace hbx2 := hgs3.cell (by omega) (by omega) hbx2
  replace hg2 := hg2.trans hgs3
  clear hc2
  go_wp2_with fail
  refine (one_c (w.heap.size + 1) n k2x _ 5 w3 (by decide) (by omega) (by omega) (by omega) hc3).mono ?_; rintro e w4 ⟨q, k3x, rfl, hk1k3x, hk2k3x, hc4, hgs4⟩
  have hzw4 : w3.heap.size ≤ w4.heap.size := hgs4.size
  replace hsv2 := hsv2.chg hgs4 (by omega)
  replace hT := hT.chg hgs4 (by omega)
  replace hT2 := hT2.chg hgs4 (by omega)
  replace hbx7 := hgs4.cell (by omega) (by omega) hbx7
  have hfq := hfx2
  replace hfx2 := (World.frozen?_of_block (w := w3) (w' := w4) (a := ⟨w.heap.size, 0, none⟩) (hgs4.block w.heap.size (by omega) (by omega))).trans hfq
  clear hfq
  replace hbx2 := hgs4.cell (by omega) (by omega) hbx2
  replace hg2 := hg2.trans hgs4
  clear hc3
  cases q with
  | true =>
    go_wp2_with fail
    refine (anyTerm_c (w.heap.size + 1) n k3x _ _ _ ar w4 (by omega) (by omega) hdr (by omega) hc4 hsv2).mono ?_; rintro e w5 ⟨aQ, cQ, tQ, k4x, rfl, hQ, hlQ, hk1k4x, hk2k4x, hc5, hgs5⟩
    have hzw5 : w4.heap.size ≤ w5.heap.size := hgs5.size
    replace hsv2 := hsv2.chg hgs5 (by omega)
    replace hT := hT.chg hgs5 (by omega)
    replace hT2 := hT2.chg hgs5 (by omega)
    replace hbx7 := hgs5.cell (by omega) (by omega) hbx7
    have hfq := hfx2
    replace hfx2 := (World.frozen?_of_block (w := w4) (w' := w5) (a := ⟨w.heap.size, 0, none⟩) (hgs5.block w.heap.size (by omega) (by omega))).trans hfq
    clear hfq
    replace hbx2 := hgs5.cell (by omega) (by omega) hbx2
    replace hg2 := hg2.trans hgs5
    clear hc4
    have hbF : (w5.setCell ⟨w.heap.size, 0, none⟩ (.slice sa ar.length sc)).cell? ⟨w.heap.size, 0, none⟩ = some (.slice sa ar.length sc) := World.cell?_setCell_same _ _ _ hbx2
    have hsv2F := (hsv2.set (p := ⟨w.heap.size, 0, none⟩) (.inl (by simp; omega)) (.slice sa ar.length sc)).mono (show w.heap.size ≤ _ by omega) (show _ ≤ (w5.setCell ⟨w.heap.size, 0, none⟩ (.slice sa ar.length sc)).heap.size by first | (simp; done) | (simp; omega))
    have hTF := (hT.set (p := ⟨w.heap.size, 0, none⟩) (.inl (by simp; omega)) (.slice sa ar.length sc)).mono (show w.heap.size ≤ _ by omega) (show _ ≤ (w5.setCell ⟨w.heap.size, 0, none⟩ (.slice sa ar.length sc)).heap.size by first | (simp; done) | (simp; omega))
    have hT2F := (hT2.set (p := ⟨w.heap.size, 0, none⟩) (.inl (by simp; omega)) (.slice sa ar.length sc)).mono (show w.heap.size ≤ _ by omega) (show _ ≤ (w5.setCell ⟨w.heap.size, 0, none⟩ (.slice sa ar.length sc)).heap.size by first | (simp; done) | (simp; omega))
    have hQF := (hQ.set (p := ⟨w.heap.size, 0, none⟩) (.inl (by simp; omega)) (.slice sa ar.length sc)).mono (show w.heap.size ≤ _ by omega) (show _ ≤ (w5.setCell ⟨w.heap.size, 0, none⟩ (.slice sa ar.length sc)).heap.size by first | (simp; done) | (simp; omega))
    have hgF := (hg2.bel hB2 (by omega)).setCell (p := ⟨w.heap.size, 0, none⟩) (Nat.le_refl _) (.slice sa ar.length sc)
    clear hg2 hB2 hc5
    go_wp2_with fail
    exact bodyPost_ret (v := .tuple #[.agg #[.slice sa ar.length sc], .slice aT tT.length cT, .slice aQ tQ.length cQ]) (by simp [results, Try.results49, go_sem, hbF]) rfl ⟨_, _, _, ar, _, _, rfl, hdr, hsv2F, hTF, by omega, hQF, by omega, hgF⟩
  | false =>
    have hbF : (w4.setCell ⟨w.heap.size, 0, none⟩ (.slice sa ar.length sc)).cell? ⟨w.heap.size, 0, none⟩ = some (.slice sa ar.length sc) := World.cell?_setCell_same _ _ _ hbx2
    have hsv2F := (hsv2.set (p := ⟨w.heap.size, 0, none⟩) (.inl (by simp; omega)) (.slice sa ar.length sc)).mono (show w.heap.size ≤ _ by omega) (show _ ≤ (w4.setCell ⟨w.heap.size, 0, none⟩ (.slice sa ar.length sc)).heap.size by first | (simp; done) | (simp; omega))
    have hTF := (hT.set (p := ⟨w.heap.size, 0, none⟩) (.inl (by simp; omega)) (.slice sa ar.length sc)).mono (show w.heap.size ≤ _ by omega) (show _ ≤ (w4.setCell ⟨w.heap.size, 0, none⟩ (.slice sa ar.length sc)).heap.size by first | (simp; done) | (simp; omega))
    have hT2F := (hT2.set (p := ⟨w.heap.size, 0, none⟩) (.inl (by simp; omega)) (.slice sa ar.length sc)).mono (show w.heap.size ≤ _ by omega) (show _ ≤ (w4.setCell ⟨w.heap.size, 0, none⟩ (.slice sa ar.length sc)).heap.size by first | (simp; done) | (simp; omega))
    have hgF := (hg2.bel hB2 (by omega)).setCell (p := ⟨w.heap.size, 0, none⟩) (Nat.le_refl _) (.slice sa ar.length sc)
    clear hg2 hB2 hc4
    go_wp2_with fail
    exact bodyPost_ret (v := .tuple #[.agg #[.slice sa ar.length sc], .slice aT tT.length cT, .slice aT2 uT.length cT2]) (by simp [results, Try.results49, go_sem, hbF]) rfl ⟨_, _, _, ar, _, _, rfl, hdr, hsv2F, hTF, by omega, hT2F, by omega, hgF⟩
set_option maxRecDepth 100000 in
set_option maxHeartbeats 1000000 in
theorem drawIsUnifier_c (n : Nat) (v : Value) (w : World) (hn : n ≤ 1048576) (hv : SlB w.heap.size w v n) :
    Calls Try.prog 55 #[v] w (RetDUI w) := by
  obtain ⟨ad, cap, rfl, hcap, hr⟩ := hv
  have hv : SlB w.heap.size w (.slice ad n cap) n := ⟨ad, cap, rfl, hcap, hr⟩
  have hB1 := Bel.alloc0 w (.cells #[.slice none 0 0] 26)
  have hs1 : (w.alloc (.cells #[.slice none 0 0] 26)).heap.size = w.heap.size + 1 := by simp
  have hC := Cur.new (T := 87) (w := w.alloc (.cells #[.slice none 0 0] 26)) (v := .slice ad n cap) (n := n) (by
    obtain ⟨ad', cap', e, hc, hr'⟩ := hv.chg (Chg.of_bel (lo := w.heap.size) (hi := w.heap.size) hB1) (Nat.le_refl _)
    exact ⟨ad', cap', e, hc, fun hp => by obtain ⟨b, off, e1, e2, e3⟩ := hr' hp; exact ⟨b, off, e1, by omega, e3⟩⟩)
  rw [hs1] at hC
  have hB2 := hB1.step (Bel.alloc0 (w.alloc (.cells #[.slice none 0 0] 26)) (.cells #[.slice ad n cap, .int .i64 0, .int .u64 0] 87))
  have hbx : ((w.alloc (.cells #[.slice none 0 0] 26)).alloc (.cells #[.slice ad n cap, .int .i64 0, .int .u64 0] 87)).cell? ⟨w.heap.size, 0, none⟩ = some (.slice none 0 0) := (Bel.alloc0 _ _).at (by simp) (by rw [World.cell?_alloc_new w]; rfl)
  have hfx : ((w.alloc (.cells #[.slice none 0 0] 26)).alloc (.cells #[.slice ad n cap, .int .i64 0, .int .u64 0] 87)).frozen? ⟨w.heap.size, 0, none⟩ = false := by simp [go_sem]; try rfl
  have HS := Lib.hid (sign_c (w.heap.size + 1) n 0 _ (by omega) (by omega) hC)
  go_enter Try.func55, Try.ntmps55
  go_wp2_with fail
  refine HS.out.mono ?_; rintro e w1 ⟨sv, ar, k1, rfl, hdr, hsv, hk1, hk2, hc1, hg1⟩
  obtain ⟨sa, sc, rfl⟩ := hsv.form
  have hW0 : ((w.alloc (.cells #[.slice none 0 0] 26)).alloc (.cells #[.slice ad n cap, .int .i64 0, .int .u64 0] 87)).heap.size = w.heap.size + 1 + 1 := by simp
  generalize ((w.alloc (.cells #[.slice none 0 0] 26)).alloc (.cells #[.slice ad n cap, .int .i64 0, .int .u64 0] 87)) = W0 at *
  have hsz1 : W0.heap.size ≤ w1.heap.size := hg1.size
  rw [hW0] at hsv
  have hbx1 := hg1.cell (by omega) (by omega) hbx
  have hfx1 : w1.frozen? ⟨w.heap.size, 0, none⟩ = false := (World.frozen?_of_block (w := W0) (w' := w1) (a := ⟨w.heap.size, 0, none⟩) (hg1.block w.heap.size (by omega) (by omega))).trans hfx
  have hB3 := Bel.alloc0 w1 (.cells #[.slice sa ar.length sc] 26)
  have hs2 : (w1.alloc (.cells #[.slice sa ar.length sc] 26)).heap.size = w1.heap.size + 1 := by simp
  have hbx7 : (w1.alloc (.cells #[.slice sa ar.length sc] 26)).cell? ⟨w1.heap.size, 0, none⟩ = some (.slice sa ar.length sc) := by rw [World.cell?_alloc_new w1]; rfl
  have hbx2 := hB3.at (by omega) hbx1
  have hfx2 := (World.frozen?_of_block (w := w1) (a := ⟨w.heap.size, 0, none⟩) (hB3.block w.heap.size (by omega))).trans hfx1
  have hc2 := hc1.below hB3
  have hsv2 := hsv.below hB3
  have hg2 := hg1.trans (Chg.of_bel (lo := w.heap.size + 1) (hi := w.heap.size + 1 + 1) hB3)
  generalize hw2 : w1.alloc (.cells #[.slice sa ar.length sc] 26) = w2 at *
  clear hc1 hg1 hbx1 hfx1 hB3 hsv hbx hfx HS hC hB1
  have hal := drawn_len hdr
  go_wp2_with fail
  refine (twins_c (w.heap.size + 1) n k1 _ _ _ ar w2 (by omega) (by omega) hdr (by omega) (by omega) hc2 hsv2).mono ?_; rintro e w3 ⟨aT, aT2, cT, cT2, tT, uT, k2x, rfl, hT, hT2, hlT, hlT2, hk1k2x, hk2k2x, hc3, hgs3⟩
  have hzw3 : w2.heap.size ≤ w3.heap.size := hgs3.size
  replace hsv2 := hsv2.chg hgs3 (by omega)
  replace hbx7 := hgs3.cell (by omega) (by omega) hbx7
  have hfq := hfx2
  replace hfx2 := (World.frozen?_of_block (w := w2) (w' := w3) (a := ⟨w.heap.size, 0, none⟩) (hgs3.block w.heap.size (by omega) (by omega))).trans hfq
  clear hfq
  replace hbx2 := hgs3.cell (by omega) (by omega) hbx2
  replace hg2 := hg2.trans hgs3
  clear hc2
  go_wp2_with fail
  refine (sUnify_t (by omega) hsv2 (by omega) hT (by omega) hT2).mono ?_; rintro e w4 ⟨aU, mU, cU, rfl, hU, hb4⟩
  have hgs4 := Chg.of_bel (lo := w.heap.size + 1) (hi := w.heap.size + 1 + 1) hb4
  have hzw4 : w3.heap.size ≤ w4.heap.size := hgs4.size
  replace hsv2 := hsv2.chg hgs4 (by omega)
  replace hT := hT.chg hgs4 (by omega)
  replace hT2 := hT2.chg hgs4 (by omega)
  replace hbx7 := hgs4.cell (by omega) (by omega) hbx7
  have hfq := hfx2
  replace hfx2 := (World.frozen?_of_block (w := w3) (w' := w4) (a := ⟨w.heap.size, 0, none⟩) (hgs4.block w.heap.size (by omega) (by omega))).trans hfq
  clear hfq
  replace hbx2 := hgs4.cell (by omega) (by omega) hbx2
  replace hg2 := hg2.trans hgs4
  have hc4 := hc3.below hb4
  clear hc3
  replace hU := hU.sl
  have hmU := SlS.len hU
  subst hmU
  have hus : short (unifyAns ar tT uT) := short_of_tot (unifyAns_len ar tT uT)
  generalize unifyAns ar tT uT = r at *
  generalize unifyOk ar tT uT = ok at *
  cases ok with
  | false =>
    have hhi0 : w1.heap.size ≤ w4.heap.size := by omega
    go_wp2_with fail
    go_region_held3 (fun w' => w'.cell? ⟨w1.heap.size, 0, none⟩ = some (.slice sa ar.length sc))
      (first | exact hbx7 | exact hx1 | exact hb7F | fail)
      (first
        | (go_at_call 124; refine (subst_d (w.heap.size + 1) n k2x _ _ _ ar _ (by omega) (by omega) hdr (by omega) (by exact hhi0) (hc4.below (Bel.drew0 w4)) (hsv2.below (Bel.drew0 w4))).mono ?_; rintro e y1_4 ⟨aA, cA, lA, k3x, rfl, hA, hlA, hjA, hk1k3x, hk2k3x, hcr1, hr1⟩; have G1 := (Chg.of_bel (lo := w.heap.size + 1) (hi := w.heap.size + 1 + 1) (Bel.drew0 w4)).trans hr1; have hzr1 : w4.heap.size ≤ y1_4.heap.size := G1.size; have hx1 := G1.cell (by omega) (by omega) hbx7; have hbxL := G1.cell (by omega) (by omega) hbx2; have hb7F := (World.cell?_setCell_other y1_4 ⟨w.heap.size, 0, none⟩ ⟨w1.heap.size, 0, none⟩ (.slice sa ar.length sc) (fun h => (show w.heap.size ≠ w1.heap.size by omega) (congrArg Addr.block h))).trans hx1; have hfxL := (World.frozen?_of_block (w := w4) (w' := y1_4) (a := ⟨w.heap.size, 0, none⟩) (G1.block w.heap.size (by omega) (by omega))).trans hfx2)
        | fail)
    replace hA := hA.mono (show w4.heap.size ≤ w4.drew.heap.size from Nat.le_refl _) (Nat.le_refl _)
    clear hfx2
    have hzL : w4.heap.size ≤ y1_4.heap.size := G1.size
    replace hsv2 := hsv2.chg G1 (by omega)
    replace hT := hT.chg G1 (by omega)
    replace hT2 := hT2.chg G1 (by omega)
    replace hU := hU.chg G1 (by omega)
    replace hg2 := hg2.trans G1
    have hbF : (y1_4.setCell ⟨w.heap.size, 0, none⟩ (.slice sa ar.length sc)).cell? ⟨w.heap.size, 0, none⟩ = some (.slice sa ar.length sc) := World.cell?_setCell_same _ _ _ hbxL
    have hsv2F := (hsv2.set (p := ⟨w.heap.size, 0, none⟩) (.inl (by simp; omega)) (.slice sa ar.length sc)).mono (show w.heap.size ≤ _ by omega) (show _ ≤ (y1_4.setCell ⟨w.heap.size, 0, none⟩ (.slice sa ar.length sc)).heap.size by first | (simp; done) | (simp; omega))
    have hTF := (hT.set (p := ⟨w.heap.size, 0, none⟩) (.inl (by simp; omega)) (.slice sa ar.length sc)).mono (show w.heap.size ≤ _ by omega) (show _ ≤ (y1_4.setCell ⟨w.heap.size, 0, none⟩ (.slice sa ar.length sc)).heap.size by first | (simp; done) | (simp; omega))
    have hT2F := (hT2.set (p := ⟨w.heap.size, 0, none⟩) (.inl (by simp; omega)) (.slice sa ar.length sc)).mono (show w.heap.size ≤ _ by omega) (show _ ≤ (y1_4.setCell ⟨w.heap.size, 0, none⟩ (.slice sa ar.length sc)).heap.size by first | (simp; done) | (simp; omega))
    have hUF := (hU.set (p := ⟨w.heap.size, 0, none⟩) (.inl (by simp; omega)) (.slice sa ar.length sc)).mono (show w.heap.size ≤ _ by omega) (show _ ≤ (y1_4.setCell ⟨w.heap.size, 0, none⟩ (.slice sa ar.length sc)).heap.size by first | (simp; done) | (simp; omega))
    have hAF := (hA.set (p := ⟨w.heap.size, 0, none⟩) (.inl (by simp; omega)) (.slice sa ar.length sc)).mono (show w.heap.size ≤ _ by omega) (show _ ≤ (y1_4.setCell ⟨w.heap.size, 0, none⟩ (.slice sa ar.length sc)).heap.size by first | (simp; done) | (simp; omega))
    have hgF := (hg2.bel hB2 (by omega)).setCell (p := ⟨w.heap.size, 0, none⟩) (Nat.le_refl _) (.slice sa ar.length sc)
    clear hbx2 hbx7 hg2 hB2 hcr1 hsv2 hT hT2 hU hA
    go_wp2_with fail
    exact bodyPost_ret (v := .tuple #[.agg #[.slice sa ar.length sc], .slice aA lA.length cA, .slice aT tT.length cT, .slice aT2 uT.length cT2]) (by simp [results, Try.results55, go_sem, hbF]) rfl ⟨_, _, _, _, ar, _, _, _, rfl, hdr, hsv2F, hAF, short_12 hlA hjA, hTF, hlT, hT2F, hlT2, hgF⟩
  | true =>
    go_wp2_with fail
    refine (one_c (w.heap.size + 1) n k2x _ 3 w4 (by decide) (by omega) (by omega) (by omega) hc4).mono ?_; rintro e w5 ⟨qq, k3x, rfl, hk1k3x, hk2k3x, hc5, hgs5⟩
    have hzw5 : w4.heap.size ≤ w5.heap.size := hgs5.size
    replace hsv2 := hsv2.chg hgs5 (by omega)
    replace hT := hT.chg hgs5 (by omega)
    replace hT2 := hT2.chg hgs5 (by omega)
    replace hU := hU.chg hgs5 (by omega)
    replace hbx7 := hgs5.cell (by omega) (by omega) hbx7
    have hfq := hfx2
    replace hfx2 := (World.frozen?_of_block (w := w4) (w' := w5) (a := ⟨w.heap.size, 0, none⟩) (hgs5.block w.heap.size (by omega) (by omega))).trans hfq
    clear hfq
    replace hbx2 := hgs5.cell (by omega) (by omega) hbx2
    replace hg2 := hg2.trans hgs5
    clear hc4
    cases qq with
    | true =>
      have hhi0 : w1.heap.size ≤ w5.heap.size := by omega
      go_wp2_with fail
      go_region_held3 (fun w' => w'.cell? ⟨w1.heap.size, 0, none⟩ = some (.slice sa ar.length sc))
        (first | exact hbx7 | exact hx1 | exact hb7F | fail)
        (first
          | (go_at_call 124; refine (subst_d (w.heap.size + 1) n k3x _ _ _ ar _ (by omega) (by omega) hdr (by omega) (by exact hhi0) (hc5.below (Bel.drew0 w5)) (hsv2.below (Bel.drew0 w5))).mono ?_; rintro e y1_5 ⟨aA, cA, lA, k4x, rfl, hA, hlA, hjA, hk1k4x, hk2k4x, hcr1, hr1⟩; have G1 := (Chg.of_bel (lo := w.heap.size + 1) (hi := w.heap.size + 1 + 1) (Bel.drew0 w5)).trans hr1; have hzr1 : w5.heap.size ≤ y1_5.heap.size := G1.size; have hx1 := G1.cell (by omega) (by omega) hbx7; have hbxL := G1.cell (by omega) (by omega) hbx2; have hb7F := (World.cell?_setCell_other y1_5 ⟨w.heap.size, 0, none⟩ ⟨w1.heap.size, 0, none⟩ (.slice sa ar.length sc) (fun h => (show w.heap.size ≠ w1.heap.size by omega) (congrArg Addr.block h))).trans hx1; have hfxL := (World.frozen?_of_block (w := w5) (w' := y1_5) (a := ⟨w.heap.size, 0, none⟩) (G1.block w.heap.size (by omega) (by omega))).trans hfx2)
          | fail)
      replace hA := hA.mono (show w5.heap.size ≤ w5.drew.heap.size from Nat.le_refl _) (Nat.le_refl _)
      clear hfx2
      have hzL : w5.heap.size ≤ y1_5.heap.size := G1.size
      replace hsv2 := hsv2.chg G1 (by omega)
      replace hT := hT.chg G1 (by omega)
      replace hT2 := hT2.chg G1 (by omega)
      replace hU := hU.chg G1 (by omega)
      replace hg2 := hg2.trans G1
      have hbF : (y1_5.setCell ⟨w.heap.size, 0, none⟩ (.slice sa ar.length sc)).cell? ⟨w.heap.size, 0, none⟩ = some (.slice sa ar.length sc) := World.cell?_setCell_same _ _ _ hbxL
      have hsv2F := (hsv2.set (p := ⟨w.heap.size, 0, none⟩) (.inl (by simp; omega)) (.slice sa ar.length sc)).mono (show w.heap.size ≤ _ by omega) (show _ ≤ (y1_5.setCell ⟨w.heap.size, 0, none⟩ (.slice sa ar.length sc)).heap.size by first | (simp; done) | (simp; omega))
      have hTF := (hT.set (p := ⟨w.heap.size, 0, none⟩) (.inl (by simp; omega)) (.slice sa ar.length sc)).mono (show w.heap.size ≤ _ by omega) (show _ ≤ (y1_5.setCell ⟨w.heap.size, 0, none⟩ (.slice sa ar.length sc)).heap.size by first | (simp; done) | (simp; omega))
      have hT2F := (hT2.set (p := ⟨w.heap.size, 0, none⟩) (.inl (by simp; omega)) (.slice sa ar.length sc)).mono (show w.heap.size ≤ _ by omega) (show _ ≤ (y1_5.setCell ⟨w.heap.size, 0, none⟩ (.slice sa ar.length sc)).heap.size by first | (simp; done) | (simp; omega))
      have hUF := (hU.set (p := ⟨w.heap.size, 0, none⟩) (.inl (by simp; omega)) (.slice sa ar.length sc)).mono (show w.heap.size ≤ _ by omega) (show _ ≤ (y1_5.setCell ⟨w.heap.size, 0, none⟩ (.slice sa ar.length sc)).heap.size by first | (simp; done) | (simp; omega))
      have hAF := (hA.set (p := ⟨w.heap.size, 0, none⟩) (.inl (by simp; omega)) (.slice sa ar.length sc)).mono (show w.heap.size ≤ _ by omega) (show _ ≤ (y1_5.setCell ⟨w.heap.size, 0, none⟩ (.slice sa ar.length sc)).heap.size by first | (simp; done) | (simp; omega))
      have hgF := (hg2.bel hB2 (by omega)).setCell (p := ⟨w.heap.size, 0, none⟩) (Nat.le_refl _) (.slice sa ar.length sc)
      clear hbx2 hbx7 hg2 hB2 hcr1 hsv2 hT hT2 hU hA
      go_wp2_with fail
      exact bodyPost_ret (v := .tuple #[.agg #[.slice sa ar.length sc], .slice aA lA.length cA, .slice aT tT.length cT, .slice aT2 uT.length cT2]) (by simp [results, Try.results55, go_sem, hbF]) rfl ⟨_, _, _, _, ar, _, _, _, rfl, hdr, hsv2F, hAF, short_12 hlA hjA, hTF, hlT, hT2F, hlT2, hgF⟩
    | false =>
      have hbF : (w5.setCell ⟨w.heap.size, 0, none⟩ (.slice sa ar.length sc)).cell? ⟨w.heap.size, 0, none⟩ = some (.slice sa ar.length sc) := World.cell?_setCell_same _ _ _ hbx2
      have hsv2F := (hsv2.set (p := ⟨w.heap.size, 0, none⟩) (.inl (by simp; omega)) (.slice sa ar.length sc)).mono (show w.heap.size ≤ _ by omega) (show _ ≤ (w5.setCell ⟨w.heap.size, 0, none⟩ (.slice sa ar.length sc)).heap.size by first | (simp; done) | (simp; omega))
      have hTF := (hT.set (p := ⟨w.heap.size, 0, none⟩) (.inl (by simp; omega)) (.slice sa ar.length sc)).mono (show w.heap.size ≤ _ by omega) (show _ ≤ (w5.setCell ⟨w.heap.size, 0, none⟩ (.slice sa ar.length sc)).heap.size by first | (simp; done) | (simp; omega))
      have hT2F := (hT2.set (p := ⟨w.heap.size, 0, none⟩) (.inl (by simp; omega)) (.slice sa ar.length sc)).mono (show w.heap.size ≤ _ by omega) (show _ ≤ (w5.setCell ⟨w.heap.size, 0, none⟩ (.slice sa ar.length sc)).heap.size by first | (simp; done) | (simp; omega))
      have hUF := (hU.set (p := ⟨w.heap.size, 0, none⟩) (.inl (by simp; omega)) (.slice sa ar.length sc)).mono (show w.heap.size ≤ _ by omega) (show _ ≤ (w5.setCell ⟨w.heap.size, 0, none⟩ (.slice sa ar.length sc)).heap.size by first | (simp; done) | (simp; omega))
      have hgF := (hg2.bel hB2 (by omega)).setCell (p := ⟨w.heap.size, 0, none⟩) (Nat.le_refl _) (.slice sa ar.length sc)
      clear hg2 hB2 hc5
      go_wp2_with fail
      exact bodyPost_ret (v := .tuple #[.agg #[.slice sa ar.length sc], .slice aU r.length cU, .slice aT tT.length cT, .slice aT2 uT.length cT2]) (by simp [results, Try.results55, go_sem, hbF]) rfl ⟨_, _, _, _, ar, _, _, _, rfl, hdr, hsv2F, hUF, hus, hTF, hlT, hT2F, hlT2, hgF⟩
end Go.Proofs.Ytngdhpelnjckjaa
end
section
/- Match: a match makes the pattern the term; composition is one substitution behind the other. -/
namespace Go.Proofs.Ytngdhpelnjckjaa
open Go.RowKit Go.Maps

def oneG (G : Nat → List Int) (n : Int) : List Int := if n < 0 then G (-1 - n).toNat else [n]
theorem mg_app {ar t : List Int} (ht : okTerm ar t = true) (p0 : List Int) : ∀ (k i j : Nat) (F G : Nat → List Int), k = p0.length - i → i ≤ p0.length → Pair2 ar p0 t i j → (∀ v, F v ≠ [] → okTerm ar (F v) = true) → matchGo ar t (p0.drop i) j F = some G →
    (∀ v, F v ≠ [] → G v = F v) ∧ (∀ v, G v ≠ [] → okTerm ar (G v) = true) ∧ (∀ n ∈ p0.drop i, n < 0 → G (-1 - n).toNat ≠ []) ∧ (p0.drop i).flatMap (oneG G) = t.drop j := by
  intro k
  induction k with
  | zero =>
    intro i j F G hk hi hP hF h
    have hd : p0.drop i = [] := List.drop_eq_nil_of_le (by omega)
    obtain ⟨m, h1, h2⟩ := hP
    rw [hd] at h h1 ⊢
    rw [matchGo] at h
    simp at h
    subst h
    refine ⟨fun _ _ => rfl, hF, by simp, ?_⟩
    cases m with
    | zero => rw [endGo_zero] at h2; simp at h2; rw [h2, List.drop_length]; rfl
    | succ m => rw [endGo_nil] at h1; simp at h1
  | succ k ih =>
    intro i j F G hk hi hP hF h
    have hlt : i < p0.length := by omega
    have hj := hP.lt hlt
    rw [drop_cons p0 i hlt] at h ⊢
    by_cases hn : 0 ≤ p0.getD i 0
    · by_cases he : t.getD j 0 = p0.getD i 0
      · rw [mg_sym hn he] at h
        obtain ⟨a1, a2, a3, a4⟩ := ih (i+1) (j+1) F G (by omega) (by omega) (hP.sym hlt he) hF h
        refine ⟨a1, a2, fun n hm hl => ?_, ?_⟩
        · rcases List.mem_cons.1 hm with rfl | hm
          · omega
          · exact a3 n hm hl
        · rw [List.flatMap_cons, a4, drop_cons t j hj, he]
          unfold oneG
          rw [if_neg (by omega)]
          rfl
      · rw [mg_symno hn he] at h; simp at h
    · obtain ⟨e, h1, h2, h3, h4⟩ := hP.var hlt (by omega)
      by_cases hc : F (-1 - p0.getD i 0).toNat = [] ∨ F (-1 - p0.getD i 0).toNat = partOf t j e
      · rw [mg_var hn h1 hc] at h
        have hpl := partOf_len t j e h3
        have hpne : partOf t j e ≠ [] := by intro h; rw [h] at hpl; simp at hpl; omega
        have hpo := partOf_ok ar t j e ht hj h1
        obtain ⟨a1, a2, a3, a4⟩ := ih (i+1) e _ G (by omega) (by omega) h4 (fun v hv => by
          by_cases e' : v = (-1 - p0.getD i 0).toNat
          · rw [e', upd_same]; exact hpo
          · rw [upd_other _ _ e'] at hv ⊢; exact hF v hv) h
        have hG : G (-1 - p0.getD i 0).toNat = partOf t j e := by
          have := a1 (-1 - p0.getD i 0).toNat (by rw [upd_same]; exact hpne)
          rw [upd_same] at this
          exact this
        refine ⟨fun v hv => ?_, a2, fun n hm hl => ?_, ?_⟩
        · by_cases e' : v = (-1 - p0.getD i 0).toNat
          · rw [e', hG]
            rcases hc with hc | hc
            · rw [e'] at hv; exact absurd hc hv
            · exact hc.symm
          · have := a1 v (by rw [upd_other _ _ e']; exact hv)
            rw [upd_other _ _ e'] at this
            exact this
        · rcases List.mem_cons.1 hm with rfl | hm
          · rw [hG]; exact hpne
          · exact a3 n hm hl
        · rw [List.flatMap_cons, a4]
          unfold oneG
          rw [if_pos (by omega), hG]
          unfold partOf
          have := List.take_append_drop (e - j) (t.drop j)
          rw [List.drop_drop, show j + (e - j) = e by omega] at this
          exact this
      · rw [mg_varno hn h1 hc] at h; simp at h
theorem substL_get (F : Nat → List Int) (v : Nat) (hv : v < 12) : (substL F).getD v [] = stayF F v := by simp [substL, List.getD, hv]
theorem substL_len (F : Nat → List Int) : (substL F).length = 12 := by simp [substL]
theorem one1_sub {F : Nat → List Int} {n : Int} (h12 : -12 ≤ n) (hF : n < 0 → F (-1 - n).toNat ≠ []) : one1 (substL F) n = oneG F n := by
  unfold oneG
  by_cases hn : n < 0
  · rw [if_pos hn]
    have hv : (-1 - n).toNat < 12 := by omega
    have hvn : (-1 - (((-1 - n).toNat : Nat) : Int)) = n := by omega
    by_cases hs : F (-1 - n).toNat = [-1 - (((-1 - n).toNat : Nat) : Int)]
    · have h0 : stayF F (-1 - n).toNat = [] := by unfold stayF; rw [if_pos hs]
      rw [one1_free (by rw [substL_get F _ hv, h0]; simp), hs, hvn]
    · have h0 : stayF F (-1 - n).toNat = F (-1 - n).toNat := by unfold stayF; rw [if_neg hs]
      rw [one1_var hn (by rw [substL_get F _ hv, h0]; exact List.length_pos_iff.2 (hF hn)), substL_get F _ hv, h0]
  · rw [if_neg hn, one1_sym hn]
theorem good_substL {ar : List Int} {F : Nat → List Int} (hg : goodSign ar = true) (hF : ∀ v, v < 12 → F v ≠ [] → okTerm ar (F v) = true) : goodSubst ar (substL F) = true := by
  refine goodSubst_iff.2 ⟨hg, substL_len F, fun t ht => ?_⟩
  unfold substL at ht
  obtain ⟨v, hv, rfl⟩ := List.mem_map.1 ht
  rw [List.mem_range] at hv
  unfold okEmpty stayF
  split
  · rfl
  · by_cases e : F v = []
    · rw [e]; rfl
    · rw [hF v hv e, Bool.or_true]
theorem match_app {ar p t : List Int} (h : matchOk ar p t = true) : applyOk ar (matchAns ar p t) p = true ∧ applyAns ar (matchAns ar p t) p = t := by
  have h0 := h
  unfold matchOk at h0
  simp only [Bool.and_eq_true] at h0
  obtain ⟨hk, hr⟩ := h0
  obtain ⟨G, hG⟩ := Option.isSome_iff_exists.1 hr
  simp only [matchOk0, Bool.and_eq_true] at hk
  obtain ⟨hg, hp⟩ := goodTerm_iff.1 hk.1
  have hans := (match_yes (by simp [matchOk0, hk.1, hk.2]) hG).1
  obtain ⟨a1, a2, a3, a4⟩ := mg_app hk.2 p p.length 0 0 (fun _ => []) G (by omega) (by omega) (Pair2.start hp hk.2) (fun _ h => absurd rfl h) (by simpa [matchR] using hG)
  rw [List.drop_zero, List.drop_zero] at *
  have happ : appT (substL G) p = t := by
    rw [← a4]
    unfold appT
    have : ∀ (q : List Int), (∀ n ∈ q, n ∈ p) → q.flatMap (one1 (substL G)) = q.flatMap (oneG G) := by
      intro q
      induction q with
      | nil => intro _; rfl
      | cons n q ih =>
        intro hq
        rw [List.flatMap_cons, List.flatMap_cons, ih (fun m hm => hq m (List.mem_cons_of_mem _ hm))]
        have hm := hq n List.mem_cons_self
        obtain ⟨i, hi, hin⟩ := List.getElem_of_mem hm
        have hl := okTerm_low hp i hi
        rw [show p.getD i 0 = n from by simp [List.getD, hi, hin]] at hl
        rw [one1_sub hl (fun hn => a3 n hm hn)]
    exact this p (fun _ h => h)
  have hok : applyOk ar (matchAns ar p t) p = true := by
    unfold applyOk
    rw [hans, good_substL hg (fun v _ hv => a2 v hv), hp, (app40_yes (by rw [happ]; have := ((okTerm_iff _ _).1 hk.2).2.1; omega)).2]
    rfl
  refine ⟨hok, ?_⟩
  unfold applyAns
  rw [if_pos hok, hans, happ]
theorem applyOk_iff {ar : List Int} {b : List (List Int)} {t : List Int} : applyOk ar b t = true ↔ goodSubst ar b = true ∧ okTerm ar t = true ∧ app40ok b t = true := by
  unfold applyOk
  simp only [Bool.and_eq_true]
  exact ⟨fun h => ⟨h.1.1, h.1.2, h.2⟩, fun h => ⟨⟨h.1, h.2.1⟩, h.2.2⟩⟩
theorem compose_app {ar : List Int} {a b : List (List Int)} {z : List Int} (hc : composeOk ar a b = true) (h1 : applyOk ar a z = true) (h2 : applyOk ar b (applyAns ar a z) = true) :
    applyOk ar (composeAns ar a b) z = true ∧ applyAns ar (composeAns ar a b) z = applyAns ar b (applyAns ar a z) := by
  have hc0 := hc
  unfold composeOk at hc0
  simp only [Bool.and_eq_true] at hc0
  obtain ⟨⟨hga, hgb⟩, hall⟩ := hc0
  obtain ⟨-, hz, hz40⟩ := applyOk_iff.1 h1
  obtain ⟨-, hx, hx40⟩ := applyOk_iff.1 h2
  have hg := (goodSubst_iff.1 hga).1
  rw [applyAns_yes h1] at *
  have hF : ∀ v, v < 12 → compF a b v ≠ [] → okTerm ar (compF a b v) = true := fun v hv _ => by
    have := app_ok hgb (compT_ok hga v hv)
    unfold compF
    rw [this]
    rw [List.all_eq_true] at hall
    exact hall v (by simpa using hv)
  have happ : appT (substL (compF a b)) z = appT b (appT a z) := by
    have : ∀ (q : List Int), (∀ n ∈ q, n ∈ z) → appT (substL (compF a b)) q = appT b (appT a q) := by
      intro q
      induction q with
      | nil => intro _; rfl
      | cons n q ih =>
        intro hq
        have ih2 := ih (fun m hm => hq m (List.mem_cons_of_mem _ hm))
        unfold appT at ih2 ⊢
        rw [List.flatMap_cons, List.flatMap_cons, List.flatMap_append, ih2]
        congr 1
        have hm := hq n List.mem_cons_self
        obtain ⟨i, hi, hin⟩ := List.getElem_of_mem hm
        have hl := okTerm_low hz i hi
        rw [show z.getD i 0 = n from by simp [List.getD, hi, hin]] at hl
        rw [one1_sub hl (fun hn => by
          have hv : (-1 - n).toNat < 12 := by omega
          have := ((okTerm_iff _ _).1 (show okTerm ar (appT b (compT a (-1 - n).toNat)) = true from by
            have h := app_ok hgb (compT_ok hga _ hv)
            rw [h]
            rw [List.all_eq_true] at hall
            exact hall _ (by simpa using hv))).1
          unfold compF
          intro h
          rw [h] at this; simp at this)]
        unfold oneG
        by_cases hn : n < 0
        · rw [if_pos hn]
          unfold compF compT
          by_cases hp : 0 < (a.getD (-1 - n).toNat []).length
          · rw [if_pos hp, one1_var hn hp]; rfl
          · rw [if_neg hp, one1_free hp, show (-1 - (((-1 - n).toNat : Nat) : Int)) = n by omega]; rfl
        · rw [if_neg hn, one1_sym hn]
          simp [one1_sym hn]
    exact this z (fun _ h => h)
  have hok : applyOk ar (composeAns ar a b) z = true := by
    rw [composeAns_yes hc]
    refine applyOk_iff.2 ⟨good_substL hg hF, hz, ?_⟩
    unfold app40ok at hx40 ⊢
    rw [happ]; exact hx40
  refine ⟨hok, ?_⟩
  rw [applyAns_yes hok, applyAns_yes h2, composeAns_yes hc, happ]
end Go.Proofs.Ytngdhpelnjckjaa
end
section
/- Unify: what is found makes both terms one, once and for all, and whatever else does so goes on from it (Robinson). -/
namespace Go.Proofs.Ytngdhpelnjckjaa
open Go.RowKit Go.Maps

theorem ug_inv {ar a0 b0 : List Int} : ∀ (k : Nat) (x y : List Int) (F G : Nat → List Int), UInv ar a0 b0 x y F → uniGo ar k x y F = some G → ∃ z, UInv ar a0 b0 z z G := by
  intro k
  induction k with
  | zero => intro x y F G h e; simp [uniGo] at e
  | succ k ih =>
    intro x y F G h e
    by_cases h1 : x = y
    · rw [ug_same h1] at e
      simp at e
      subst h1
      rw [← e]; exact ⟨x, h⟩
    · by_cases h2 : badU ar x y
      · rw [ug_bad h1 h2] at e; simp at e
      · by_cases h3 : longU ar x y
        · rw [ug_long h1 h2 h3] at e; simp at e
        · rw [ug_next h1 h2 h3] at e
          exact ih _ _ _ _ ((uok h h1 h2).next h3) e
theorem unify_inv {ar a b : List Int} (h : unifyOk ar a b = true) : ∃ G z, uniR ar a b = some G ∧ UInv ar a b z z G ∧ unifyAns ar a b = rawL G ∧ goodSign ar = true ∧ okTerm ar a = true ∧ okTerm ar b = true := by
  have h0 := h
  unfold unifyOk at h0
  simp only [Bool.and_eq_true] at h0
  obtain ⟨hk, hr⟩ := h0
  obtain ⟨G, hG⟩ := Option.isSome_iff_exists.1 hr
  have hk2 := hk
  simp only [uniOk0, Bool.and_eq_true] at hk2
  obtain ⟨hg, hp⟩ := goodTerm_iff.1 hk2.1
  obtain ⟨z, hz⟩ := ug_inv 13 a b _ G (UInv.start hp hk2.2) (by simpa [uniR] using hG)
  exact ⟨G, z, hG, hz, by rw [(unify_yes hk hG).1, hz.raw], hg, hp, hk2.2⟩
theorem good_raw {ar a0 b0 x y : List Int} {F : Nat → List Int} (hg : goodSign ar = true) (h : UInv ar a0 b0 x y F) : goodSubst ar (rawL F) = true := by
  rw [h.raw]; exact good_substL hg fun v _ => h.okF v
theorem unify_unifies {ar a b : List Int} (h : unifyOk ar a b = true) : applyOk ar (unifyAns ar a b) a = true ∧ applyOk ar (unifyAns ar a b) b = true ∧ unifAns ar (unifyAns ar a b) a b = true := by
  obtain ⟨G, z, hG, hz, hans, hg, ha, hb⟩ := unify_inv h
  have h40 := (okTerm_seq.1 hz.okx).1
  have h1 : applyOk ar (rawL G) a = true := applyOk_iff.2 ⟨good_raw hg hz, ha, (app40_yes (by rw [← hz.appx]; omega)).2⟩
  have h2 : applyOk ar (rawL G) b = true := applyOk_iff.2 ⟨good_raw hg hz, hb, (app40_yes (by rw [← hz.appy]; omega)).2⟩
  rw [hans]
  refine ⟨h1, h2, ?_⟩
  unfold unifAns
  rw [h1, h2, applyAns_yes h1, applyAns_yes h2, ← hz.appx, ← hz.appy]
  simp
theorem app_fixed {G : Nat → List Int} (hlow : ∀ v, 12 ≤ v → G v = []) : ∀ {t : List Int}, (∀ m ∈ t, m < 0 → G (-1 - m).toNat = []) → appT (rawL G) t = t
  | [], _ => rfl
  | m :: t, h => by
    have ih := app_fixed hlow (t := t) (fun x hx => h x (List.mem_cons_of_mem _ hx))
    unfold appT at ih ⊢
    rw [List.flatMap_cons, ih]
    by_cases hm : m < 0
    · rw [one1_free (by rw [rawL_getA hlow, h m List.mem_cons_self hm]; simp)]; rfl
    · rw [one1_sym hm]; rfl
theorem unify_twice {ar a b : List Int} (h : unifyOk ar a b = true) : composeOk ar (unifyAns ar a b) (unifyAns ar a b) = true ∧ composeAns ar (unifyAns ar a b) (unifyAns ar a b) = unifyAns ar a b := by
  obtain ⟨G, z, hG, hz, hans, hg, ha, hb⟩ := unify_inv h
  rw [hans]
  have hgs := good_raw hg hz
  have hcf : ∀ v, v < 12 → compF (rawL G) (rawL G) v = if G v = [] then [-1 - (v : Int)] else G v := by
    intro v hv
    unfold compF
    by_cases e : G v = []
    · rw [if_pos e, compT_zero (by rw [rawL_get G v hv, e]; simp)]
      exact app_fixed hz.low (fun m hm h0 => by simp at hm; rw [show (-1 - m).toNat = v by omega]; exact e)
    · rw [if_neg e, compT_pos (by rw [rawL_get G v hv]; exact List.length_pos_iff.2 e), rawL_get G v hv]
      refine app_fixed hz.low (fun m hm h0 => ?_)
      rcases Classical.em (G (-1 - m).toNat = []) with h1 | h1
      · exact h1
      · have hin : m ∈ z := by rcases hz.inf v e with h2 | h2 <;> exact h2.subset hm
        exact absurd (by rw [show (-1 - (((-1 - m).toNat : Nat) : Int)) = m by omega]; exact hin) (hz.notx _ h1)
  have hok : composeOk ar (rawL G) (rawL G) = true := by
    unfold composeOk
    rw [hgs, Bool.true_and, Bool.true_and, List.all_eq_true]
    intro v hv
    rw [List.mem_range] at hv
    refine (app40_yes ?_).2
    show ¬ 40 < (compF (rawL G) (rawL G) v).length
    rw [hcf v hv]
    have := hz.len40 v
    split
    · simp
    · omega
  refine ⟨hok, ?_⟩
  rw [composeAns_yes hok]
  conv => rhs; rw [hz.raw]
  unfold substL
  apply List.map_congr_left
  intro v hv
  rw [List.mem_range] at hv
  unfold stayF
  rw [hcf v hv]
  by_cases e : G v = []
  · rw [if_pos e, if_pos rfl, e]; simp
  · rw [if_neg e]
/-- Robinson. -/
theorem seq_prefix {ar : List Int} : ∀ {a b r s : List Int} {k : Nat}, seqT ar k a → seqT ar k b → a ++ r = b ++ s → a = b
  | [], b, _, _, k, ha, hb, _ => by rw [seqT_nil ha] at hb; exact (seqT_zero hb).symm
  | x :: a, b, r, s, k, ha, hb, e => by
    cases k with
    | zero => have := seqT_zero ha; simp at this
    | succ k =>
      cases b with
      | nil => have := seqT_nil hb; omega
      | cons y b =>
        rw [List.cons_append, List.cons_append, List.cons.injEq] at e
        obtain ⟨rfl, e⟩ := e
        rw [seq_prefix (seqT_cons.1 ha).2 (seqT_cons.1 hb).2 e]
theorem appT_append (V : List (List Int)) (s t : List Int) : appT V (s ++ t) = appT V s ++ appT V t := by simp [appT]
theorem appT_one (V : List (List Int)) (n : Int) : appT V [n] = one1 V n := by simp [appT]
theorem appT_put {V : List (List Int)} {n : Int} {u : List Int} (h : one1 V n = appT V u) : ∀ (t : List Int), appT V (putFor n u t) = appT V t
  | [] => rfl
  | m :: t => by
    rw [putFor_cons, appT_append, appT_put h t, show m :: t = [m] ++ t from rfl, appT_append]
    split
    · rename_i e; subst e; rw [appT_one, h]
    · rfl
theorem one_seq {ar : List Int} {V : List (List Int)} (hV : goodSubst ar V = true) {n : Int} (h12 : -12 ≤ n) (hn : n < 0) : seqT ar 1 (one1 V n) := by
  obtain ⟨hg, hl, hok⟩ := goodSubst_iff.1 hV
  by_cases hp : 0 < (V.getD (-1 - n).toNat []).length
  · rw [one1_var hn hp]
    exact (okTerm_seq.1 (okEmpty_get hok _ hp)).2
  · rw [one1_free hp]
    refine seqT_cons.2 ⟨?_, by rw [arOf_neg hn]; rfl⟩
    have := sign_len ar hg
    unfold okSym inB
    simp
    omega
theorem app_seq1 {ar : List Int} {V : List (List Int)} (hV : goodSubst ar V = true) {u : List Int} (hu : okTerm ar u = true) : seqT ar 1 (appT V u) := by
  obtain ⟨hg, hl, hok⟩ := goodSubst_iff.1 hV
  have := app_end hok hu
  unfold endOf at this
  rw [List.drop_zero] at this
  exact this
theorem dif_split {x y : List Int} (hx : dif x y ≤ x.length) (hy : dif x y ≤ y.length) : x.take (dif x y) = y.take (dif x y) := by
  apply List.ext_getElem?
  intro i
  rw [List.getElem?_take, List.getElem?_take]
  split
  · rename_i hi
    obtain ⟨h1, h2, h3⟩ := dif_before x y i hi
    rw [List.getElem?_eq_getElem h1, List.getElem?_eq_getElem h2]
    simpa [List.getD, h1, h2] using h3
  · rfl
theorem sigma_eq {ar a0 b0 x y : List Int} {F : Nat → List Int} {V : List (List Int)} (hV : goodSubst ar V = true) (h : UInv ar a0 b0 x y F) (hne : x ≠ y) (hb : ¬ badU ar x y) (he : appT V x = appT V y) : one1 V (lowN x y) = appT V (putU ar x y) := by
  obtain ⟨e, hR⟩ := uround h hne
  have hok := uok h hne hb
  have hsp := dif_split (x := x) (y := y) (Nat.le_of_lt hR.dx) (Nat.le_of_lt hR.dy)
  have hdrop : appT V (x.drop (dif x y)) = appT V (y.drop (dif x y)) := by
    have hx' : appT V x = appT V (x.take (dif x y)) ++ appT V (x.drop (dif x y)) := by rw [← appT_append, List.take_append_drop]
    have hy' : appT V y = appT V (y.take (dif x y)) ++ appT V (y.drop (dif x y)) := by rw [← appT_append, List.take_append_drop]
    have h1 := he
    rw [hx', hy', hsp] at h1
    exact List.append_cancel_left h1
  have hpart : ∀ (o : List Int), o = other x y → o.drop (dif x y) = putU ar x y ++ o.drop e := fun o ho => by
    rw [hR.pu, ho]
    unfold partOf
    have := List.take_append_drop (e - dif x y) ((other x y).drop (dif x y))
    rw [List.drop_drop, show dif x y + (e - dif x y) = e by have := hR.de; omega] at this
    exact this.symm
  have hs1 := one_seq hV hok.lo hok.neg
  have hs2 := app_seq1 hV hR.ok
  rw [drop_cons x _ hR.dx, drop_cons y _ hR.dy] at hdrop
  by_cases hlt : y.getD (dif x y) 0 < x.getD (dif x y) 0
  · have hlo : lowN x y = y.getD (dif x y) 0 := by unfold lowN; rw [if_pos hlt]
    have hot : x = other x y := by unfold other; rw [if_pos hlt]
    rw [← drop_cons x _ hR.dx, hpart x hot, ← hlo, appT_append, show ∀ (n : Int) (t : List Int), n :: t = [n] ++ t from fun _ _ => rfl, appT_append, appT_one] at hdrop
    exact (seq_prefix hs2 hs1 hdrop).symm
  · have hlo : lowN x y = x.getD (dif x y) 0 := by unfold lowN; rw [if_neg hlt]
    have hot : y = other x y := by unfold other; rw [if_neg hlt]
    rw [← drop_cons y _ hR.dy, hpart y hot, ← hlo, appT_append, show ∀ (n : Int) (t : List Int), n :: t = [n] ++ t from fun _ _ => rfl, appT_append, appT_one] at hdrop
    exact seq_prefix hs1 hs2 hdrop
theorem ug_mgu {ar a0 b0 : List Int} {V : List (List Int)} (hV : goodSubst ar V = true) : ∀ (k : Nat) (x y : List Int) (F G : Nat → List Int), UInv ar a0 b0 x y F → (∀ n, appT V (one1 (rawL F) n) = one1 V n) → appT V x = appT V y → uniGo ar k x y F = some G → ∀ n, appT V (one1 (rawL G) n) = one1 V n := by
  intro k
  induction k with
  | zero => intro x y F G h _ _ e; simp [uniGo] at e
  | succ k ih =>
    intro x y F G h hP he e
    by_cases h1 : x = y
    · rw [ug_same h1] at e
      simp at e
      rw [← e]; exact hP
    · by_cases h2 : badU ar x y
      · rw [ug_bad h1 h2] at e; simp at e
      · by_cases h3 : longU ar x y
        · rw [ug_long h1 h2 h3] at e; simp at e
        · rw [ug_next h1 h2 h3] at e
          have hok := uok h h1 h2
          have hE := sigma_eq hV h h1 h2 he
          refine ih _ _ _ _ (hok.next h3) (fun n => ?_) (by rw [appT_put hE, appT_put hE, he]) e
          have := app_next hok.neg (List.length_pos_iff.1 hok.up) hok.free h.low hok.lo [n]
          rw [appT_one, appT_one] at this
          rw [← this, appT_put hE, hP n]
theorem app_app {V : List (List Int)} {G : Nat → List Int} (h : ∀ n, appT V (one1 (rawL G) n) = one1 V n) : ∀ (t : List Int), appT V (appT (rawL G) t) = appT V t
  | [] => rfl
  | n :: t => by
    rw [show n :: t = [n] ++ t from rfl, appT_append, appT_append, appT_append, app_app h t, appT_one, h, appT_one]
theorem unify_most {ar x y : List Int} {V : List (List Int)} (h1 : applyOk ar V x = true) (h2 : applyOk ar V y = true) (he : applyAns ar V x = applyAns ar V y) (hu : unifyOk ar x y = true) (hc : composeOk ar (unifyAns ar x y) V = true) :
    applyOk ar (composeAns ar (unifyAns ar x y) V) x = true ∧ applyAns ar (composeAns ar (unifyAns ar x y) V) x = applyAns ar V x := by
  obtain ⟨G, z, hG, hz, hans, hg, ha, hb⟩ := unify_inv hu
  obtain ⟨hV, -, h40⟩ := applyOk_iff.1 h1
  have hm := (unify_unifies hu).1
  rw [applyAns_yes h1, applyAns_yes h2] at he
  have hP := ug_mgu hV 13 x y (fun _ => []) G (UInv.start ha hb) (fun n => by rw [← appT_one, appT_none, appT_one]) he (by simpa [uniR] using hG)
  have hmz : applyAns ar (unifyAns ar x y) x = z := by rw [applyAns_yes hm, hans, ← hz.appx]
  have hVz : appT V z = appT V x := by rw [hz.appx, app_app hP]
  have hz2 : applyOk ar V z = true := applyOk_iff.2 ⟨hV, hz.okx, by unfold app40ok at h40 ⊢; rw [hVz]; exact h40⟩
  obtain ⟨a1, a2⟩ := compose_app hc hm (by rw [hmz]; exact hz2)
  refine ⟨a1, ?_⟩
  rw [a2, hmz, applyAns_yes hz2, applyAns_yes h1, hVz]
end Go.Proofs.Ytngdhpelnjckjaa
end
section
/- Unify: the program's inner functions. -/
namespace Go.Proofs.Ytngdhpelnjckjaa
open Go.RowKit Go.Maps

theorem putFor_take (n : Int) (u t : List Int) (k : Nat) (hk : k < t.length) : putFor n u (t.take (k+1)) = putFor n u (t.take k) ++ (if t.getD k 0 = n then u else [t.getD k 0]) := by
  rw [List.take_succ_eq_append_getElem hk, putFor_append, putFor_cons, putFor_nil, List.append_nil]
  simp [List.getD, hk]

set_option maxRecDepth 100000 in
set_option maxHeartbeats 400000 in
theorem iPutFor_c (l h l' h' : Nat) (v x : Value) (t u : List Int) (n : Int) (w : World) (ht : t.length ≤ 1024) (hu40 : u.length ≤ 40) (hup : 0 < u.length) (hv : SlI l h w v t) (hx : SlI l' h' w x u) :
    Calls Try.prog 119 #[v, .int .i64 n, x] w (RetI w (putFor n u t)) := by
  obtain ⟨i0, hi0, hz0, hz1, hz2⟩ := info_parts Try.info3
  obtain ⟨ad, cap, rfl, -, -, hr⟩ := hv
  obtain ⟨pb, po, pc, rfl, hpc⟩ := hx.plain hup
  go_enter Try.func119, Try.ntmps119
  go_wp2_with fail
  go_loopw [7, 12] (fun vs i wr => ∃ k : Nat, k ≤ t.length ∧ i = .int .i64 k ∧ wr.ownsRow w.heap.size 3 1 vs (putFor n u (t.take k)).length ((putFor n u (t.take k)).map (Value.int .i64)) ∧ Bel w wr) (fun _ i _ => t.length - (intOf i).toNat)
  case atStart => exact ⟨0, Nat.zero_le _, rfl, World.ownsRow_nil _ _ _ _, Bel.rfl' _⟩
  case round =>
    obtain ⟨k, hk, rfl, hown, hb2⟩ := hrel
    by_cases hlt : k < t.length
    · obtain ⟨bt, offt, rfl, hbl, hcell⟩ := rd hr hb2 k hlt
      have hsucc := putFor_take n u t k hlt
      have hal := putFor_len (n := n) (t := t.take k) hu40 (by omega)
      have hal2 : (putFor n u (t.take k)).length ≤ 40960 := by simp at hal; omega
      clear hr hal
      generalize t.getD k 0 = m at *
      generalize putFor n u (t.take k) = acc at *
      generalize hq : putFor n u (t.take (k+1)) = nxt at *
      by_cases hm : m = n
      · subst hm
        rw [if_pos rfl] at hsucc
        have hn := news_of_sl (hx.below hb2)
        have HS := Lib.hid (And.intro hq hsucc)
        clear hq hsucc
        go_wp2_with (at_builtin; refine wpList_append_own _ rfl _ _ 24 rfl w.heap.size 3 i0 (.int .i64 0) 1 8 Try.underlying24 hi0 hz0 hz1 hz2 rfl (by decide) _ _ _ rfl hown ⟨pb, po, none⟩ u.length pc (u.map (Value.int .i64)) rfl (by simp) hn (ones_int _) (by unfold maxLen; first | omega | (simp; omega)) (by first | omega | (simp; omega)) (by have := hb2.size; first | omega | (simp; omega)) ?_; intro v' w1 hown' hgrow _)
        have hb3 := hb2.grown hgrow (fun k hk => own_base hown k hk)
        have hown2 := row_app (by simpa using hown')
        go_roundw
        case rel => exact ⟨k+1, by omega, by go_num, by rw [HS.out.1, HS.out.2]; exact hown2, hb3⟩
        case measure => simp [intOf]; omega
      · rw [if_neg hm] at hsucc
        have HS := Lib.hid (And.intro hq hsucc)
        have hm2 : (m == n) = false := by simpa using hm
        clear hq hsucc hm
        go_wp2_with (at_builtin; refine wpList_append_own _ rfl _ _ 24 rfl w.heap.size 3 i0 (.int .i64 0) 1 8 Try.underlying24 hi0 hz0 hz1 hz2 rfl (by decide) _ _ _ rfl (hown.alloc _) ⟨wr.heap.size, 0, none⟩ 1 1 [.int .i64 m] rfl rfl (news_one _ _ _) (one_int _) (by unfold maxLen; first | omega | (simp; omega)) (by first | omega | (simp; omega)) (by have := hb2.size; first | omega | (simp; omega)) ?_; intro v' w1 hown' hgrow _; have hb3 := (hb2.alloc (.cells #[.int .i64 m] 3)).grown hgrow (fun k hk => own_base hown k hk); have hown2 := row_snoc hown')
        go_roundw
        case rel => exact ⟨k+1, by omega, by go_num, by rw [HS.out.1, HS.out.2]; exact hown2, hb3⟩
        case measure => simp [intOf]; omega
    · have e : t.take k = t := List.take_of_length_le (by omega)
      rw [e] at hown
      go_wp2_with fail
      obtain ⟨g, n, c, hv'⟩ := own_form hown
      subst hv'
      go_ret
      exact ⟨_, _, _, rfl, OwnI.of_row hown, hb2⟩

def idxOf (t : List Int) (n : Int) (e : Ending) : Prop := (n ∈ t ∧ ∃ k : Nat, k < t.length ∧ e = .returned (.int .i64 k)) ∨ (n ∉ t ∧ e = .returned (.int .i64 (-1)))
set_option maxRecDepth 100000 in
set_option maxHeartbeats 400000 in
theorem slIndex_c (l h : Nat) (v : Value) (t : List Int) (n : Int) (w : World) (ht : t.length ≤ 1048576) (hv : SlI l h w v t) :
    Calls Try.prog 149 #[v, .int .i64 n] w (fun e w' => idxOf t n e ∧ Bel w w') := by
  obtain ⟨ad, cap, rfl⟩ := hv.form
  go_enter Try.func149, Try.ntmps149
  go_wp2_with fail
  go_loop [8] (fun i => ∃ k : Nat, k ≤ t.length ∧ i = .int .i64 k ∧ n ∉ t.take k) (fun i => t.length - (intOf i).toNat)
  case atStart => exact ⟨0, Nat.zero_le _, rfl, by simp⟩
  case round =>
    obtain ⟨k, hk, rfl, hn⟩ := hrel
    by_cases hlt : k < t.length
    · obtain ⟨b, off, rfl, -, hcell⟩ := hv.at k hlt
      have E1 := Lib.hid (fun h => not_take_succ hlt (n := n) h hn)
      have E2 := Lib.hid (show t.getD k 0 = n → n ∈ t from fun h => by rw [← h]; simp [List.getD, hlt])
      clear hn hv
      generalize t.getD k 0 = x at *
      by_cases hx : x = n
      · have E := Lib.hid (E2.out hx)
        subst hx
        clear E1 E2
        go_wp2_with fail
        go_ret
        exact ⟨.inl ⟨E.out, k, hlt, rfl⟩, Bel.rfl' _⟩
      · have E := Lib.hid (E1.out hx)
        have hx' : (n == x) = false := by simpa using fun h => hx h.symm
        clear hx E1 E2
        go_wp2_with fail
        go_round
        case rel => exact ⟨k+1, by omega, by go_num, E.out⟩
        case measure => simp [intOf]; omega
    · rw [List.take_of_length_le (by omega)] at hn
      have E := Lib.hid hn
      clear hn
      go_wp2_with fail
      go_ret
      exact ⟨.inr ⟨E.out, rfl⟩, Bel.rfl' _⟩
set_option maxRecDepth 100000 in
set_option maxHeartbeats 400000 in
theorem slContains_v (l h : Nat) (v : Value) (t : List Int) (n : Int) (q : Bool) (w : World) (he : decide (n ∈ t) = q) (ht : t.length ≤ 1048576) (hv : SlI l h w v t) :
    Calls Try.prog 142 #[v, .int .i64 n] w (RetV w (.bool q)) := by
  have HE := Lib.hid he
  clear he
  go_enter Try.func142, Try.ntmps142
  go_wp2_with fail
  refine (slIndex_c _ _ _ t n _ ht hv).mono ?_; rintro e w1 ⟨hi, hb⟩
  rcases hi with ⟨hm, k, hk, rfl⟩ | ⟨hm, rfl⟩
  · have hd : decide (0 ≤ (k : Int)) = true := by simp
    go_wp2_with fail
    go_ret
    exact ⟨by rw [← HE.out, decide_eq_true hm]; rfl, hb⟩
  · go_wp2_with fail
    go_ret
    exact ⟨by rw [← HE.out, decide_eq_false hm]; rfl, hb⟩
end Go.Proofs.Ytngdhpelnjckjaa
end
section
/- Unify: what the program replaces in a round. -/
namespace Go.Proofs.Ytngdhpelnjckjaa
open Go.RowKit Go.Maps

def RetRep (n : Int) (u : List Int) (bad : Bool) (w : World) (e : Ending) (w' : World) : Prop :=
  Bel w w' ∧ match bad with
    | true => e = .returned (.tuple #[.int .i64 0, .slice none 0 0, .bool false])
    | false => ∃ a c lo hi, e = .returned (.tuple #[.int .i64 n, .slice a u.length c, .bool true]) ∧ SlI lo hi w' (.slice a u.length c) u

set_option maxRecDepth 100000 in
set_option maxHeartbeats 1000000 in
theorem replacement_c (l h l' h' l2 h2 : Nat) (v p q : Value) (ar x y : List Int) (e : Nat) (bad : Bool) (w : World) (hg : goodSign ar = true) (hR : URound ar x y (lowN x y) (other x y) (putU ar x y) (dif x y) e) (hbd : badU ar x y ↔ bad = true) (hx40 : x.length ≤ 40) (hy40 : y.length ≤ 40) (hv : SlI l h w v ar) (hp : SlI l' h' w p x) (hq : SlI l2 h2 w q y) :
    Calls Try.prog 118 #[.agg #[v], p, q] w (RetRep (lowN x y) (putU ar x y) bad w) := by
  have hbf := dif_before x y
  have hlt1 := hR.dx
  have hlt2 := hR.dy
  have hne := hR.ne
  have hlow : lowN x y = if y.getD (dif x y) 0 < x.getD (dif x y) 0 then y.getD (dif x y) 0 else x.getD (dif x y) 0 := rfl
  have hoth : other x y = if y.getD (dif x y) 0 < x.getD (dif x y) 0 then x else y := rfl
  obtain ⟨-, -, -, -, -, hdd, hen, hde, heo, hpu, -⟩ := hR
  unfold badU at hbd
  generalize putU ar x y = u at *
  subst hpu
  generalize lowN x y = n at *
  generalize other x y = o at *
  generalize hdv : dif x y = d at *
  clear hdv
  obtain ⟨pb, po, pc, rfl, hpc⟩ := hp.plain (by omega)
  obtain ⟨qb, qo, qc, rfl, hqc⟩ := hq.plain (by omega)
  have HX := Lib.hid (And.intro hlow (And.intro hoth (And.intro hen hbd)))
  clear hlow hoth hen hbd
  go_enter Try.func118, Try.ntmps118
  go_wp2_with fail
  go_loopw [9] (fun i wr => ∃ k : Nat, k ≤ d ∧ i = .int .i64 k ∧ Bel (w.alloc (.cells #[v] 26)) wr) (fun i _ => d - (intOf i).toNat)
  case atStart => exact ⟨0, Nat.zero_le _, rfl, Bel.rfl' _⟩
  case round =>
    obtain ⟨k, hk, rfl, hb⟩ := hrel
    have hbox := boxc hb 0 _ rfl
    have hpw := hp.below hb.of_alloc
    have hqw := hq.below hb.of_alloc
    obtain ⟨b1, o1, e1, -, hc1⟩ := hpw.at k (by omega)
    obtain ⟨b2, o2, e2, -, hc2⟩ := hqw.at k (by omega)
    simp only [Option.some.injEq, Addr.mk.injEq] at e1 e2
    obtain ⟨rfl, rfl, -⟩ := e1
    obtain ⟨rfl, rfl, -⟩ := e2
    have hkx : (k : Int) < x.length := by omega
    have hky : (k : Int) < y.length := by omega
    by_cases hlt : k < d
    · obtain ⟨-, -, h3⟩ := hbf k hlt
      rw [← h3] at hc2
      have HB := Lib.hid hbf
      clear hbf h3 hne
      generalize x.getD k 0 = m at *
      have hw24 := IntWalk.i64_in ((k : Int) + 1) (by omega)
      go_wp2_with fail
      go_quiet (fail)
      go_wp2_with fail
      go_roundw
      case rel => exact ⟨k+1, by omega, by go_num, hb.drewN _⟩
      case measure => simp [intOf]; omega
    · obtain rfl : k = d := by omega
      clear hbf
      generalize x.getD k 0 = m1 at *
      generalize y.getD k 0 = m2 at *
      have hne2 : (m1 == m2) = false := by simpa using hne
      by_cases hsw : m2 < m1
      · have hgt : decide (m2 < m1) = true := by simpa using hsw
        obtain ⟨hlow, hoth, hen, hbd⟩ := HX.out
        rw [if_pos hsw] at hlow hoth
        subst hlow hoth
        have hcut := hpw.cut k e (by omega) heo
        have hpl' := partOf_len o k e heo
        have hke : (k : Int) < e := by omega
        have hke2 : (k : Int) ≤ e := by omega
        have heo2 : (e : Int) ≤ o.length := by omega
        have hec : (e : Int) ≤ pc := by omega
        have hcut2 : SlI _ _ wr (.slice (some ⟨pb, po + k, none⟩) (e - k) (pc - k)) (partOf o k e) := hcut
        clear hcut
        go_wp2_with fail
        go_quiet (fail)
        go_wp2_with fail
        go_quiet (fail)
        go_wp2_with fail
        refine (termEnd_v _ _ _ _ _ _ ar o k e _ hen hg (by omega) (by omega) (hv.below (hb.drewN _).of_alloc) (hp.below (hb.drewN _).of_alloc)).mono ?_; rintro e' w3 ⟨rfl, hb3⟩
        have hbw := (hb.drewN _).step hb3
        by_cases hn : 0 ≤ n
        · have hd0 : decide (0 ≤ n) = true := by simpa using hn
          have hb0 := hbd.1 (.inl hn)
          subst hb0
          go_wp2_with fail
          go_ret3
          exact ⟨hbw.of_alloc, rfl⟩
        · have hd0 : decide (0 ≤ n) = false := by simpa using hn
          have HC := Lib.hid ((hcut2.below ((Bel.rfl' wr).drewN _)).below hb3)
          by_cases hm : n ∈ partOf o k e
          · have hb0 := hbd.1 (.inr hm)
            have hdm : decide (n ∈ partOf o k e) = true := by simpa using hm
            subst hb0
            go_wp2_with fail
            refine (slContains_v _ _ _ (partOf o k e) n true _ hdm (by omega) HC.out).mono ?_; rintro e2 w4 ⟨rfl, hb4⟩
            go_wp2_with fail
            go_ret3
            exact ⟨(hbw.step hb4).of_alloc, rfl⟩
          · have hb0 : bad = false := by
              cases bad with
              | false => rfl
              | true => exact absurd (hbd.2 rfl) (by rintro (h | h); exact hn h; exact hm h)
            have hdm : decide (n ∈ partOf o k e) = false := by simpa using hm
            subst hb0
            go_wp2_with fail
            refine (slContains_v _ _ _ (partOf o k e) n false _ hdm (by omega) HC.out).mono ?_; rintro e2 w4 ⟨rfl, hb4⟩
            go_wp2_with fail
            go_ret3
            exact ⟨(hbw.step hb4).of_alloc, _, _, _, _, by rw [hpl']; rfl, by rw [hpl']; exact HC.out.below hb4⟩
      · have hgt : decide (m2 < m1) = false := by simpa using hsw
        obtain ⟨hlow, hoth, hen, hbd⟩ := HX.out
        rw [if_neg hsw] at hlow hoth
        subst hlow hoth
        have hcut := hqw.cut k e (by omega) heo
        have hpl' := partOf_len o k e heo
        have hke : (k : Int) < e := by omega
        have hke2 : (k : Int) ≤ e := by omega
        have heo2 : (e : Int) ≤ o.length := by omega
        have hec : (e : Int) ≤ qc := by omega
        have hcut2 : SlI _ _ wr (.slice (some ⟨qb, qo + k, none⟩) (e - k) (qc - k)) (partOf o k e) := hcut
        clear hcut
        go_wp2_with fail
        go_quiet (fail)
        go_wp2_with fail
        go_quiet (fail)
        go_wp2_with fail
        refine (termEnd_v _ _ _ _ _ _ ar o k e _ hen hg (by omega) (by omega) (hv.below (hb.drewN _).of_alloc) (hq.below (hb.drewN _).of_alloc)).mono ?_; rintro e' w3 ⟨rfl, hb3⟩
        have hbw := (hb.drewN _).step hb3
        by_cases hn : 0 ≤ n
        · have hd0 : decide (0 ≤ n) = true := by simpa using hn
          have hb0 := hbd.1 (.inl hn)
          subst hb0
          go_wp2_with fail
          go_ret3
          exact ⟨hbw.of_alloc, rfl⟩
        · have hd0 : decide (0 ≤ n) = false := by simpa using hn
          have HC := Lib.hid ((hcut2.below ((Bel.rfl' wr).drewN _)).below hb3)
          by_cases hm : n ∈ partOf o k e
          · have hb0 := hbd.1 (.inr hm)
            have hdm : decide (n ∈ partOf o k e) = true := by simpa using hm
            subst hb0
            go_wp2_with fail
            refine (slContains_v _ _ _ (partOf o k e) n true _ hdm (by omega) HC.out).mono ?_; rintro e2 w4 ⟨rfl, hb4⟩
            go_wp2_with fail
            go_ret3
            exact ⟨(hbw.step hb4).of_alloc, rfl⟩
          · have hb0 : bad = false := by
              cases bad with
              | false => rfl
              | true => exact absurd (hbd.2 rfl) (by rintro (h | h); exact hn h; exact hm h)
            have hdm : decide (n ∈ partOf o k e) = false := by simpa using hm
            subst hb0
            go_wp2_with fail
            refine (slContains_v _ _ _ (partOf o k e) n false _ hdm (by omega) HC.out).mono ?_; rintro e2 w4 ⟨rfl, hb4⟩
            go_wp2_with fail
            go_ret3
            exact ⟨(hbw.step hb4).of_alloc, _, _, _, _, by rw [hpl']; rfl, by rw [hpl']; exact HC.out.below hb4⟩
end Go.Proofs.Ytngdhpelnjckjaa
end
section
/- Unify: the program's. -/
namespace Go.Proofs.Ytngdhpelnjckjaa
open Go.RowKit Go.Maps

theorem slI_len {lo hi : Nat} {w : World} {ad : Option Addr} {n c : Nat} {xs : List Int} (h : SlI lo hi w (.slice ad n c) xs) : n = xs.length := by
  obtain ⟨ad', c', e⟩ := h.form
  simp only [Value.slice.injEq] at e
  exact e.2.1
def IRel (ar a b : List Int) (R : Option (Nat → List Int)) (B : Nat) (w0 : World) (k : Nat) (p q : Value) (wr : World) : Prop :=
  ∃ (xs ys : List Int) (F : Nat → List Int) (f : Nat → Option Value) (m : Nat), m + 14 * k ≤ 182 ∧ k + cnt F 12 = 13 ∧ UInv ar a b xs ys F ∧ R = uniGo ar k xs ys F ∧ (∃ lo hi, SlI lo hi wr p xs) ∧ (∃ lo hi, SlI lo hi wr q ys) ∧ MapV wr B m f ∧ Holds wr f F ∧ Bel w0 wr

/-- The terms found, with the new one put into those of the first i variables. -/
def gotF (n : Int) (u : List Int) (F : Nat → List Int) (vs : List Int) : Nat → List Int := fun v => if (v : Int) ∈ vs then putFor n u (F v) else F v
theorem gotF_nil (n : Int) (u : List Int) (F : Nat → List Int) : gotF n u F [] = F := by funext v; simp [gotF]
theorem gotF_snoc (n : Int) (u : List Int) (F : Nat → List Int) (vs : List Int) (v : Nat) : gotF n u F (vs ++ [(v : Int)]) = upd (gotF n u F vs) v (putFor n u (F v)) := by
  funext i
  unfold gotF upd
  by_cases e : i = v
  · subst e; simp
  · have e2 : ¬ (i : Int) = (v : Int) := by omega
    rw [if_neg e]
    simp only [List.mem_append, List.mem_singleton, e2, or_false]
theorem gotF_end {n : Int} {u : List Int} {F : Nat → List Int} {vs : List Int} (h : ∀ v : Nat, v < 12 → (v : Int) ∉ vs → F v = []) (hlow : ∀ v, 12 ≤ v → F v = []) : gotF n u F vs = fun v => putFor n u (F v) := by
  funext v
  unfold gotF
  split
  · rfl
  · rename_i hv
    rcases Nat.lt_or_ge v 12 with h1 | h1
    · rw [h v h1 hv]; rfl
    · rw [hlow v h1]; rfl
theorem holds_some {w : World} {f : Nat → Option Value} {F : Nat → List Int} (h : Holds w f F) {v : Nat} (hv : v < 12) (hs : (f v).isSome = true) : F v ≠ [] ∧ ∃ u lo hi, f v = some u ∧ SlI lo hi w u (F v) := by
  rcases (h v hv).2 with ⟨_, e⟩ | h2
  · rw [e] at hs; simp at hs
  · exact h2
theorem holds_none {w : World} {f : Nat → Option Value} {F : Nat → List Int} (h : Holds w f F) {v : Nat} (hv : v < 12) (hs : ¬ (f v).isSome = true) : F v = [] := by
  rcases (h v hv).2 with ⟨e, _⟩ | ⟨_, u, _, _, e, _⟩
  · exact e
  · rw [e] at hs; simp at hs

set_option maxRecDepth 100000 in
set_option maxHeartbeats 1000000 in
theorem iUnify_t {l h l' h' l2 h2 : Nat} {v x y : Value} {ar a b : List Int} {w : World} (ha : ar.length ≤ 1048576) (hv : SlI l h w v ar) (hal : a.length ≤ 1048576) (hx : SlI l' h' w x a) (hbl : b.length ≤ 1048576) (hy : SlI l2 h2 w y b) :
    Calls Try.prog 50 #[.agg #[v], x, y] w (RetSSB w (unifyAns ar a b) (unifyOk ar a b)) := by
  cases hs : goodTerm ar a with
  | false =>
    have h0 : uniOk0 ar a b = false := by simp [uniOk0, hs]
    have E := Lib.hid (unify_no0 h0).1
    have E2 := Lib.hid (unify_no0 h0).2
    have HS := Lib.hid hs; clear hs h0
    go_enter Try.func50, Try.ntmps50
    go_wp2_with fail
    refine (iGoodTerm_v _ _ _ _ _ _ _ _ _ _ HS.out ha hal (hv.alloc _) (hx.alloc _)).mono ?_; rintro e w1 ⟨rfl, hb1⟩
    go_wp2_with fail
    go_ret2
    exact ⟨_, _, _, by rw [E2.out]; rfl, by rw [E.out]; exact OwnS.nil _ _ _, hb1.of_alloc⟩
  | true =>
    obtain ⟨hg, hop⟩ := goodTerm_iff.1 hs
    cases hs2 : okTerm ar b with
    | false =>
      have h0 : uniOk0 ar a b = false := by simp [uniOk0, hs2]
      have E := Lib.hid (unify_no0 h0).1
      have E2 := Lib.hid (unify_no0 h0).2
      have HS := Lib.hid (And.intro hs (show goodTerm ar b = false by simp [goodTerm, hs2])); clear hs hs2 h0
      go_enter Try.func50, Try.ntmps50
      go_wp2_with fail
      refine (iGoodTerm_v _ _ _ _ _ _ _ _ _ _ HS.out.1 ha hal (hv.alloc _) (hx.alloc _)).mono ?_; rintro e w1 ⟨rfl, hb1⟩
      have hx1 := boxc hb1 0 _ rfl
      go_wp2_with fail
      refine (iGoodTerm_v _ _ _ _ _ _ _ _ _ _ HS.out.2 ha hbl (hv.below hb1.of_alloc) (hy.below hb1.of_alloc)).mono ?_; rintro e w2 ⟨rfl, hb2⟩
      go_wp2_with fail
      go_ret2
      exact ⟨_, _, _, by rw [E2.out]; rfl, by rw [E.out]; exact OwnS.nil _ _ _, (hb1.step hb2).of_alloc⟩
    | true =>
      have h00 : uniOk0 ar a b = true := by simp [uniOk0, hs, hs2]
      have hU0 := UInv.start hop hs2
      have HS := Lib.hid (And.intro (And.intro hs (show goodTerm ar b = true by simp [goodTerm, hs2, hg])) h00); clear hs hs2 h00 hop
      have hmm := @run_makeMap Try.prog
      have hR0 : uniR ar a b = uniGo ar 13 a b (fun _ => []) := rfl
      generalize hR : uniR ar a b = R at *
      go_enter Try.func50, Try.ntmps50
      go_wp2_with fail
      refine (iGoodTerm_v _ _ _ _ _ _ _ _ _ _ HS.out.1.1 ha hal (hv.alloc _) (hx.alloc _)).mono ?_; rintro e w1 ⟨rfl, hb1⟩
      have hx1 := boxc hb1 0 _ rfl
      go_wp2_with fail
      refine (iGoodTerm_v _ _ _ _ _ _ _ _ _ _ HS.out.1.2 ha hbl (hv.below hb1.of_alloc) (hy.below hb1.of_alloc)).mono ?_; rintro e w2 ⟨rfl, hb2⟩
      have hb12 := hb1.step hb2
      have hsz12 := hb12.size
      simp only [World.size_alloc] at hsz12
      clear hb1 hb2 hx1
      go_wp2_with fail
      have hM0 := MapV.made w2
      have hB0 : Bel (w.alloc (.cells #[v] 26)) (w2.alloc (.map #[] 0)) := hb12.alloc (.map #[] 0)
      go_loopw [1, 2] (fun p q wr => ∃ k, IRel ar a b R w2.heap.size (w.alloc (.cells #[v] 26)) k p q wr) (fun p q wr => leastOf fun k => IRel ar a b R w2.heap.size (w.alloc (.cells #[v] 26)) k p q wr)
      case atStart => exact ⟨13, a, b, _, _, 0, by omega, by simp [cnt], hU0, hR0, ⟨_, _, hx.below hB0.of_alloc⟩, ⟨_, _, hy.below hB0.of_alloc⟩, hM0, Holds.start _, hB0⟩
      case round =>
        clear hM0 hB0 hU0 hR0
        obtain ⟨k, hIR, hleast⟩ := least_at hrel
        have HL := Lib.hid hleast
        clear hleast hrel
        obtain ⟨xs, ys, F, f, m, hm, hcnt, hU, hRk, ⟨lx, hx3, hxs⟩, ⟨ly, hy3, hys⟩, hM, hH, hb⟩ := hIR
        have hbox := boxc hb 0 _ rfl
        have hx40 := (okTerm_seq.1 hU.okx).1
        have hy40 := (okTerm_seq.1 hU.oky).1
        obtain ⟨xa, xc, rfl⟩ := hxs.form
        obtain ⟨ya, yc, rfl⟩ := hys.form
        have hc12 := cnt_le F 12
        obtain ⟨k, rfl⟩ : ∃ k', k = k' + 1 := ⟨k - 1, by omega⟩
        by_cases hEq : xs = ys
        · rw [ug_same hEq] at hRk
          have E := Lib.hid (unify_yes HS.out.2 (hR.trans hRk)).1
          have E2 := Lib.hid (unify_yes HS.out.2 (hR.trans hRk)).2
          have HSB := Lib.hid (fun w' (hbw : Bel wr w') => subst_c _ _ f F w' (hM.bel hbw) (hH.bel hbw).sub)
          have hdec : decide (xs = ys) = true := by simpa using hEq
          clear hRk hH hM hU hEq
          go_wp2_with fail
          refine (slEqual_v _ _ _ _ _ _ xs ys true _ hdec (by omega) (by omega) hxs hys).mono ?_; rintro e w3 ⟨rfl, hb3⟩
          go_wp2_with fail
          refine (HSB.out w3 hb3).mono ?_; rintro e w4 ⟨ao, no, co, rfl, ho, hch⟩
          go_wp2_with fail
          go_ret2
          have hz := (hb.step hb3).size
          simp only [World.size_alloc] at hz
          exact ⟨_, _, _, by rw [E2.out]; rfl, by rw [E.out]; exact ho.mono (by omega) (Nat.le_refl _), hch.bel (hb.step hb3).of_alloc (by omega)⟩
        · have hdec : decide (xs = ys) = false := by simpa using hEq
          obtain ⟨e0, hRo⟩ := uround hU hEq
          by_cases hbad : badU ar xs ys
          · rw [ug_bad hEq hbad] at hRk
            have E := Lib.hid (unify_no (hR.trans hRk)).1
            have E2 := Lib.hid (unify_no (hR.trans hRk)).2
            have HRp := Lib.hid (fun w' (hbw : Bel wr w') => replacement_c _ _ _ _ _ _ v _ _ ar xs ys e0 true w' hg hRo (by simp [hbad]) hx40 hy40 ((hv.below hb.of_alloc).below hbw) (hxs.below hbw) (hys.below hbw))
            clear hRk hH hM hU hEq hRo
            go_wp2_with fail
            refine (slEqual_v _ _ _ _ _ _ xs ys false _ hdec (by omega) (by omega) hxs hys).mono ?_; rintro e w3 ⟨rfl, hb3⟩
            have hbox3 := boxc (hb.step hb3) 0 _ rfl
            go_wp2_with fail
            refine (HRp.out w3 hb3).mono ?_; rintro e w4 ⟨hb4, rfl⟩
            go_wp2_with fail
            go_ret2
            exact ⟨_, _, _, by rw [E2.out]; rfl, by rw [E.out]; exact OwnS.nil _ _ _, ((hb.step hb3).step hb4).of_alloc⟩
          · have hok := uok hU hEq hbad
            have HRp := Lib.hid (fun w' (hbw : Bel wr w') => replacement_c _ _ _ _ _ _ v _ _ ar xs ys e0 false w' hg hRo (by simp [hbad]) hx40 hy40 ((hv.below hb.of_alloc).below hbw) (hxs.below hbw) (hys.below hbw))
            by_cases hlong : longU ar xs ys
            · rw [ug_long hEq hbad hlong] at hRk
              have E := Lib.hid (unify_no (hR.trans hRk)).1
              have E2 := Lib.hid (unify_no (hR.trans hRk)).2
              clear hRk hH hM hU hEq hRo hbad
              unfold longU at hlong
              generalize lowN xs ys = n at *
              generalize putU ar xs ys = u at *
              have hu40 := hok.u40
              have hup := hok.up
              clear hok
              go_wp2_with fail
              refine (slEqual_v _ _ _ _ _ _ xs ys false _ hdec (by omega) (by omega) hxs hys).mono ?_; rintro e w3 ⟨rfl, hb3⟩
              have hbox3 := boxc (hb.step hb3) 0 _ rfl
              go_wp2_with fail
              refine (HRp.out w3 hb3).mono ?_; rintro e w4 ⟨hb4, au, cu, lu, hu2, rfl, hus⟩
              go_wp2_with fail
              refine (iPutFor_c _ _ _ _ _ _ xs u n _ (by omega) hu40 hup (hxs.below (hb3.step hb4)) hus).mono ?_; rintro e w5 ⟨ax, nx, cx, rfl, hX, hb5⟩
              go_wp2_with fail
              refine (iPutFor_c _ _ _ _ _ _ ys u n _ (by omega) hu40 hup (hys.below ((hb3.step hb4).step hb5)) (hus.below hb5)).mono ?_; rintro e w6 ⟨ay, ny, cy, rfl, hY, hb6⟩
              have hnx := slI_len hX.sl
              have hny := slI_len hY.sl
              subst hnx hny
              have hbb := (((hb.step hb3).step hb4).step hb5).step hb6
              by_cases h1 : 40 < (putFor n u xs).length
              · have hd1 : decide (40 < ((putFor n u xs).length : Int)) = true := by simp; omega
                go_wp2_with fail
                go_ret2
                exact ⟨_, _, _, by rw [E2.out]; rfl, by rw [E.out]; exact OwnS.nil _ _ _, hbb.of_alloc⟩
              · have hd1 : decide (40 < ((putFor n u xs).length : Int)) = false := by simp; omega
                have hd2 : decide (40 < ((putFor n u ys).length : Int)) = true := by simp; omega
                go_wp2_with fail
                go_ret2
                exact ⟨_, _, _, by rw [E2.out]; rfl, by rw [E.out]; exact OwnS.nil _ _ _, hbb.of_alloc⟩
            · rw [ug_next hEq hbad hlong] at hRk
              have hUn := hok.next hlong
              have hl1 : ¬ 40 < (putFor (lowN xs ys) (putU ar xs ys) xs).length ∧ ¬ 40 < (putFor (lowN xs ys) (putU ar xs ys) ys).length := by unfold longU at hlong; omega
              clear hEq hRo hbad hlong
              generalize lowN xs ys = n at *
              generalize putU ar xs ys = u at *
              have hu40 := hok.u40
              have hup := hok.up
              have hnlo := hok.lo
              have hnneg := hok.neg
              have hmore := hok.more
              have hv12 : (-1 - n).toNat < 12 := by omega
              have hvn : ((-1 - n).toNat : Int) = -1 - n := by omega
              have hkk : keyOf Try.prog 3 (.int .i64 (-1 - n)) = some (kv (-1 - n).toNat) := by rw [← hvn]; exact kv_key hv12
              have hn40 := hUn.len40
              have hFlow := hU.low
              have hF40 := hU.len40
              have hU1 := Lib.hid (And.intro hU (And.intro hUn (And.intro hRk (And.intro hmore hok))))
              have hw73 := IntWalk.i64_in (-1 - n) (by omega)
              obtain ⟨hl1, hl2⟩ := hl1
              have hd1 : decide (40 < ((putFor n u xs).length : Int)) = false := by simp; omega
              have hd2 : decide (40 < ((putFor n u ys).length : Int)) = false := by simp; omega
              clear hU hUn hRk hok hmore
              go_wp2_with fail
              refine (slEqual_v _ _ _ _ _ _ xs ys false _ hdec (by omega) (by omega) hxs hys).mono ?_; rintro e w3 ⟨rfl, hb3⟩
              have hbox3 := boxc (hb.step hb3) 0 _ rfl
              go_wp2_with fail
              refine (HRp.out w3 hb3).mono ?_; rintro e w4 ⟨hb4, au, cu, lu, hu2, rfl, hus⟩
              go_wp2_with fail
              refine (iPutFor_c _ _ _ _ _ _ xs u n _ (by omega) hu40 hup (hxs.below (hb3.step hb4)) hus).mono ?_; rintro e w5 ⟨ax, nx, cx, rfl, hX, hb5⟩
              go_wp2_with fail
              refine (iPutFor_c _ _ _ _ _ _ ys u n _ (by omega) hu40 hup (hys.below ((hb3.step hb4).step hb5)) (hus.below hb5)).mono ?_; rintro e w6 ⟨ay, ny, cy, rfl, hY, hb6⟩
              have hnx := slI_len hX.sl
              have hny := slI_len hY.sl
              subst hnx hny
              have hbr := ((hb3.step hb4).step hb5).step hb6
              have hbb := hb.step hbr
              have hM6 := hM.bel hbr
              have hH6 := hH.bel hbr
              have hX6 := hX.sl.below hb6
              have hY6 := hY.sl
              have hu6 := (hus.below hb5).below hb6
              have hxe : xs.length ≤ 40 := hx40
              clear hM hH hX hY hus hxs hys hbr hb3 hb4 hb5 hb6 hbox3 hbox HRp hdec
              go_wp2_with fail
              refine (vars_c _ m f _ hM6).mono ?_; rintro e w7 ⟨av, nv, cv, vs, rfl, hV, hv12', hnd, hvv, hvs, hb7⟩
              have hnv := slI_len hV.sl
              subst hnv
              have hM7 := hM6.bel hb7
              have hH7 := hH6.bel hb7
              have hbb7 := hbb.step hb7
              have hsz7 := hbb7.size
              simp only [World.size_alloc] at hsz7
              have hbl7 := hM7.lt
              go_wp2_with fail
              go_loopw [58] (fun i wi => ∃ (j : Nat) (f' : Nat → Option Value), j ≤ vs.length ∧ i = .int .i64 j ∧ MapV wi w2.heap.size (m + j) f' ∧ Holds wi f' (gotF n u F (vs.take j)) ∧ (∀ g : Nat, g < 12 → (g : Int) ∉ vs.take j → f' g = f g) ∧ Chg w2.heap.size (w2.heap.size + 1) w7 wi) (fun i _ => vs.length - (intOf i).toNat)
              case atStart => exact ⟨0, f, Nat.zero_le _, rfl, hM7, by rw [List.take_zero, gotF_nil]; exact hH7, fun _ _ _ => rfl, Chg.refl _ _ _⟩
              case round =>
                obtain ⟨j, f', hj, rfl, hMi, hHi, hfi, hch⟩ := hrel
                by_cases hlt : j < vs.length
                · obtain ⟨bv, ov, rfl, -, hcv⟩ := (hV.sl.chgMap hM7 hch).at j hlt
                  obtain ⟨g, hg12, hgj⟩ := hvv (vs.getD j 0) (getD_mem hlt)
                  have hnot : (g : Int) ∉ vs.take j := by
                    rw [← hgj]
                    intro hm2
                    have hmd : vs.getD j 0 ∈ vs.drop j := by rw [List.drop_eq_getElem_cons hlt, show vs.getD j 0 = vs[j] from by simp [List.getD, hlt]]; exact List.mem_cons_self
                    have h1 := hnd
                    rw [← List.take_append_drop j vs, List.nodup_append] at h1
                    exact h1.2.2 _ hm2 _ hmd rfl
                  have htk : vs.take (j+1) = vs.take j ++ [(g : Int)] := by
                    rw [List.take_succ_eq_append_getElem hlt]
                    have : vs[j] = g := by simpa [List.getD, hlt] using hgj
                    rw [this]
                  rw [hgj] at hcv
                  have hfg := hfi g hg12 hnot
                  have hgs : (f g).isSome = true := (hvs g hg12).1 (by rw [← hgj]; exact getD_mem hlt)
                  obtain ⟨hne, ug, lg, hg2, hfu, hgu⟩ := holds_some hH7 hg12 hgs
                  have hguw := hgu.chgMap hM7 hch
                  have hlook := hMi.look hg12
                  rw [hfg, hfu] at hlook
                  simp only [Option.getD_some] at hlook
                  have hput40 : (putFor n u (F g)).length ≤ 40 := by
                    have := hn40 g
                    unfold nextF upd at this
                    split at this
                    · rename_i e
                      exfalso
                      have := hU1.out.2.2.2.2.free
                      rw [← e] at this
                      exact hne this
                    · exact this
                  have hFg40 := hF40 g
                  have hgot := gotF_snoc n u F (vs.take j) g
                  rw [← htk] at hgot
                  have huw := (hu6.below hb7).chgMap hM7 hch
                  obtain ⟨ag, cg, rfl⟩ := hguw.form
                  have hjl : (j : Int) < vs.length := by omega
                  have HG := Lib.hid (And.intro hgot (And.intro hput40 (And.intro hne (And.intro hHi hfi))))
                  clear hgot hput40 hne hHi hfi
                  go_wp2_with fail
                  refine (iPutFor_c _ _ _ _ _ _ (F g) u n _ (by omega) hu40 hup hguw huw).mono ?_; rintro e w8 ⟨ap, np, cp, rfl, hP, hb8⟩
                  have hMi8 := hMi.bel hb8
                  obtain ⟨n9, D9, hn9, hown9, hK9⟩ := hMi8
                  go_wp2_with (at_mapUpdate; refine wpList_mapUpdate_own _ rfl _ _ _ 112 rfl 3 24 keyInt Try.underlying112 _ w2.heap.size n9 D9 rfl hown9 (by unfold maxLen; omega) _ _ _ rfl rfl (kv_key hg12) _ [] rfl ?_; intro w10 hown10 hgrow)
                  have hch10 := chg_of_grown hgrow
                  have hM10 : MapV w10 w2.heap.size (m + (j + 1)) (upd f' g (some (.slice ap np cp))) := ⟨n9+1, _, by omega, hown10, hK9.put hown9.isMap hg12 _⟩
                  obtain ⟨hgot, hput40, hne, hHi, hfi⟩ := HG.out
                  have hP10 := hP.sl.chgMap (hMi.bel hb8) hch10
                  have hH10 := ((hHi.bel hb8).chg (hMi.bel hb8) hch10).put g _ (putFor n u (F g)) _ _ hput40 (List.length_pos_iff.2 (putFor_ne (List.length_pos_iff.1 hup) hne)) hP10
                  go_roundw
                  case rel => exact ⟨j+1, _, by omega, by go_num, hM10, by rw [hgot]; exact hH10, fun g' hg' hn' => (by
                    rw [htk] at hn'
                    have h1 : (g' : Int) ∉ vs.take j := fun h => hn' (List.mem_append_left _ h)
                    have h2 : g' ≠ g := fun h => hn' (by rw [h]; simp)
                    rw [upd_other _ _ h2]; exact hfi g' hg' h1), (hch.trans (Chg.of_bel hb8)).trans hch10⟩
                  case measure => simp [intOf]; omega
                · obtain rfl : j = vs.length := by omega
                  rw [List.take_length, gotF_end (fun g hg hn' => holds_none hH7 hg (fun h => hn' ((hvs g hg).2 h))) hFlow] at hHi
                  have hMi0 := hMi
                  obtain ⟨n9, D9, hn9, hown9, hK9⟩ := hMi
                  go_wp2_with (at_mapUpdate; refine wpList_mapUpdate_own _ rfl _ _ _ 112 rfl 3 24 keyInt Try.underlying112 _ w2.heap.size n9 D9 rfl hown9 (by unfold maxLen; omega) _ _ _ rfl rfl hkk _ [] rfl ?_; intro w10 hown10 hgrow)
                  have hch10 := chg_of_grown hgrow
                  have hM10 : MapV w10 w2.heap.size (m + vs.length + 1) (upd f' (-1 - n).toNat (some (.slice au u.length cu))) := ⟨n9+1, _, by omega, hown10, hK9.put hown9.isMap hv12 _⟩
                  have huw := ((hu6.below hb7).chgMap hM7 hch).chgMap hMi0 hch10
                  have hH10 := (hHi.chg hMi0 hch10).put (-1 - n).toNat _ u _ _ hu40 hup huw
                  have hX10 := ((hX6.below hb7).chgMap hM7 hch).chgMap hMi0 hch10
                  have hY10 := ((hY6.below hb7).chgMap hM7 hch).chgMap hMi0 hch10
                  obtain ⟨hU, hUn, hRk, hmore, hok⟩ := hU1.out
                  have hbN : Bel (w.alloc (.cells #[v] 26)) w10 := (hch.trans hch10).bel hbb7 (by simp; omega)
                  have HN := Lib.hid (show IRel ar a b R w2.heap.size (w.alloc (.cells #[v] 26)) k (.slice ax (putFor n u xs).length cx) (.slice ay (putFor n u ys).length cy) w10 from
                    ⟨_, _, nextF n u F, _, m + vs.length + 1, by omega, by omega, hUn, hRk, ⟨_, _, hX10⟩, ⟨_, _, hY10⟩, hM10, hH10, hbN⟩)
                  refine ⟨?_, ?measure⟩
                  iterate 90 (try apply Exists.intro)
                  refine ⟨?rel, rfl⟩
                  case rel => exact ⟨k, HN.out⟩
                  case measure => exact least_lt HN.out (Nat.lt_succ_self _) HL.out
end Go.Proofs.Ytngdhpelnjckjaa
end
