/- Texts merged, part 10. -/
import Derived.Test.YtikllmdmifecpaaMgMatched9
section
/- The draws of chapter 2. -/
namespace Go.Proofs.Ytikllmdmifecpaa
open Go.RowKit

theorem SlS.set {lo hi w v xss} (h : SlS lo hi w v xss) {p : Addr} (hp : p.block < lo ∨ hi ≤ p.block) (u : Value) : SlS lo hi (w.setCell p u) v xss :=
  h.same fun b h1 h2 _ => Below.heap_setCell w p u b (by omega)
def RetDSS (w : World) (e : Ending) (w' : World) : Prop :=
  ∃ (sv lv mv : Value) (ar : List Int) (l m : List (List Int)), e = .returned (.tuple #[.agg #[sv], lv, mv]) ∧ drawn ar ∧ SlI w.heap.size w'.heap.size w' sv ar ∧ SlS w.heap.size w'.heap.size w' lv l ∧ l.length ≤ 12 ∧ (∀ j, (l.getD j []).length ≤ 1000) ∧ SlS w.heap.size w'.heap.size w' mv m ∧ m.length ≤ 12 ∧ (∀ j, (m.getD j []).length ≤ 1000) ∧ Bel w w'
def RetDSI (w : World) (e : Ending) (w' : World) : Prop :=
  ∃ (sv lv tv : Value) (ar : List Int) (l : List (List Int)) (t : List Int), e = .returned (.tuple #[.agg #[sv], lv, tv]) ∧ drawn ar ∧ SlI w.heap.size w'.heap.size w' sv ar ∧ SlS w.heap.size w'.heap.size w' lv l ∧ l.length ≤ 12 ∧ (∀ j, (l.getD j []).length ≤ 1000) ∧ SlI w.heap.size w'.heap.size w' tv t ∧ t.length ≤ 1000 ∧ Bel w w'

set_option maxRecDepth 100000 in
set_option maxHeartbeats 1000000 in
theorem drawCompose_c (n : Nat) (v : Value) (w : World) (hn : n ≤ 1048576) (hv : SlB w.heap.size w v n) :
    Calls Try.prog 26 #[v] w (RetDSS w) := by
  obtain ⟨ad, cap, rfl, hcap, hr⟩ := hv
  have hv : SlB w.heap.size w (.slice ad n cap) n := ⟨ad, cap, rfl, hcap, hr⟩
  have hB1 := Bel.alloc0 w (.cells #[.slice none 0 0] 29)
  have hs1 : (w.alloc (.cells #[.slice none 0 0] 29)).heap.size = w.heap.size + 1 := by simp
  have hC := Cur.new (T := 94) (w := w.alloc (.cells #[.slice none 0 0] 29)) (v := .slice ad n cap) (n := n) (by
    obtain ⟨ad', cap', e, hc, hr'⟩ := hv.chg (Chg.of_bel (lo := w.heap.size) (hi := w.heap.size) hB1) (Nat.le_refl _)
    exact ⟨ad', cap', e, hc, fun hp => by obtain ⟨b, off, e1, e2, e3⟩ := hr' hp; exact ⟨b, off, e1, by omega, e3⟩⟩)
  rw [hs1] at hC
  have hB2 := hB1.step (Bel.alloc0 (w.alloc (.cells #[.slice none 0 0] 29)) (.cells #[.slice ad n cap, .int .i64 0, .int .u64 0] 94))
  have hbx : ((w.alloc (.cells #[.slice none 0 0] 29)).alloc (.cells #[.slice ad n cap, .int .i64 0, .int .u64 0] 94)).cell? ⟨w.heap.size, 0, none⟩ = some (.slice none 0 0) := (Bel.alloc0 _ _).at (by simp) (by rw [World.cell?_alloc_new w]; rfl)
  have hfx : ((w.alloc (.cells #[.slice none 0 0] 29)).alloc (.cells #[.slice ad n cap, .int .i64 0, .int .u64 0] 94)).frozen? ⟨w.heap.size, 0, none⟩ = false := by simp [go_sem]; try rfl
  have HS := Lib.hid (sign_c (w.heap.size + 1) n 0 _ (by omega) (by omega) hC)
  go_enter Try.func26, Try.ntmps26
  go_wp2_with fail
  refine HS.out.mono ?_; rintro e w1 ⟨sv, ar, k1, rfl, hdr, hsv, hk1, hk2, hc1, hg1⟩
  obtain ⟨sa, sc, rfl⟩ := hsv.form
  have hW0 : ((w.alloc (.cells #[.slice none 0 0] 29)).alloc (.cells #[.slice ad n cap, .int .i64 0, .int .u64 0] 94)).heap.size = w.heap.size + 1 + 1 := by simp
  generalize ((w.alloc (.cells #[.slice none 0 0] 29)).alloc (.cells #[.slice ad n cap, .int .i64 0, .int .u64 0] 94)) = W0 at *
  have hsz1 : W0.heap.size ≤ w1.heap.size := hg1.size
  rw [hW0] at hsv
  have hbx1 := hg1.cell (by omega) (by omega) hbx
  have hfx1 : w1.frozen? ⟨w.heap.size, 0, none⟩ = false := (World.frozen?_of_block (w := W0) (w' := w1) (a := ⟨w.heap.size, 0, none⟩) (hg1.block w.heap.size (by omega) (by omega))).trans hfx
  have hB3 := Bel.alloc0 w1 (.cells #[.slice sa ar.length sc] 29)
  have hs2 : (w1.alloc (.cells #[.slice sa ar.length sc] 29)).heap.size = w1.heap.size + 1 := by simp
  have hbx7 : (w1.alloc (.cells #[.slice sa ar.length sc] 29)).cell? ⟨w1.heap.size, 0, none⟩ = some (.slice sa ar.length sc) := by rw [World.cell?_alloc_new w1]; rfl
  have hbx2 := hB3.at (by omega) hbx1
  have hfx2 := (World.frozen?_of_block (w := w1) (a := ⟨w.heap.size, 0, none⟩) (hB3.block w.heap.size (by omega))).trans hfx1
  have hc2 := hc1.below hB3
  have hsv2 := hsv.below hB3
  have hg2 := hg1.trans (Chg.of_bel (lo := w.heap.size + 1) (hi := w.heap.size + 1 + 1) hB3)
  generalize hw2 : w1.alloc (.cells #[.slice sa ar.length sc] 29) = w2 at *
  clear hc1 hg1 hbx1 hfx1 hB3 hsv hbx hfx HS hC hB1
  have hhi0 : w1.heap.size ≤ w2.heap.size := by omega
  go_wp2_with fail
  go_region_held3 (fun w' => w'.cell? ⟨w1.heap.size, 0, none⟩ = some (.slice sa ar.length sc))
    (first | exact hbx7 | exact hx1 | exact hx2 | exact hb7F | fail)
    (first
      | (go_at_call 81; refine (subst_d (w.heap.size + 1) n k1 _ _ _ ar _ (by omega) (by omega) hdr (by omega) (by exact hhi0) (hc2.below (Bel.drew0 w2)) (hsv2.below (Bel.drew0 w2))).mono ?_; rintro e y1_2 ⟨aA, cA, lA, k2x, rfl, hA, hlA, hjA, hk1k2x, hk2k2x, hcr1, hr1⟩; have G1 := (Chg.of_bel (lo := w.heap.size + 1) (hi := w.heap.size + 1 + 1) (Bel.drew0 w2)).trans hr1; have hzr1 : w2.heap.size ≤ y1_2.heap.size := G1.size; have hx1 := G1.cell (by omega) (by omega) hbx7)
      | (go_at_call 81; refine (subst_d (w.heap.size + 1) n k2x _ _ _ ar _ (by omega) (by omega) hdr (by omega) (by omega) hcr1 (hsv2.chg G1 (by omega))).mono ?_; rintro e y2_2 ⟨aB, cB, lB, k3x, rfl, hB, hlB, hjB, hk1k3x, hk2k3x, hcr2, hr2⟩; have G2 := G1.trans hr2; have hzr2 : w2.heap.size ≤ y2_2.heap.size := G2.size; have hx2 := G2.cell (by omega) (by omega) hbx7; have hzs2 := hr2.size; have hbxL := G2.cell (by omega) (by omega) hbx2; have hb7F := (World.cell?_setCell_other y2_2 ⟨w.heap.size, 0, none⟩ ⟨w1.heap.size, 0, none⟩ (.slice sa ar.length sc) (fun h => (show w.heap.size ≠ w1.heap.size by omega) (congrArg Addr.block h))).trans hx2; have hfxL := (World.frozen?_of_block (w := w2) (w' := y2_2) (a := ⟨w.heap.size, 0, none⟩) (G2.block w.heap.size (by omega) (by omega))).trans hfx2)
      | fail)
  replace hA := hA.mono (show w2.heap.size ≤ w2.drew.heap.size from Nat.le_refl _) (Nat.le_refl _)
  replace hA := hA.chg hr2 (by omega)
  clear hfx2
  have hzL : w2.heap.size ≤ y2_2.heap.size := G2.size
  replace hsv2 := hsv2.chg G2 (by omega)
  replace hg2 := hg2.trans G2
  have hbF : (y2_2.setCell ⟨w.heap.size, 0, none⟩ (.slice sa ar.length sc)).cell? ⟨w.heap.size, 0, none⟩ = some (.slice sa ar.length sc) := World.cell?_setCell_same _ _ _ hbxL
  have hsv2F := (hsv2.set (p := ⟨w.heap.size, 0, none⟩) (.inl (by simp; omega)) (.slice sa ar.length sc)).mono (show w.heap.size ≤ _ by omega) (show _ ≤ (y2_2.setCell ⟨w.heap.size, 0, none⟩ (.slice sa ar.length sc)).heap.size by first | (simp; done) | (simp; omega))
  have hAF := (hA.set (p := ⟨w.heap.size, 0, none⟩) (.inl (by simp; omega)) (.slice sa ar.length sc)).mono (show w.heap.size ≤ _ by omega) (show _ ≤ (y2_2.setCell ⟨w.heap.size, 0, none⟩ (.slice sa ar.length sc)).heap.size by first | (simp; done) | (simp; omega))
  have hBF := (hB.set (p := ⟨w.heap.size, 0, none⟩) (.inl (by simp; omega)) (.slice sa ar.length sc)).mono (show w.heap.size ≤ _ by omega) (show _ ≤ (y2_2.setCell ⟨w.heap.size, 0, none⟩ (.slice sa ar.length sc)).heap.size by first | (simp; done) | (simp; omega))
  have hgF := (hg2.bel hB2 (by omega)).setCell (p := ⟨w.heap.size, 0, none⟩) (Nat.le_refl _) (.slice sa ar.length sc)
  clear hbx2 hbx7 hg2 hB2 hcr2 hsv2 hA hB
  go_wp2_with fail
  exact bodyPost_ret (v := .tuple #[.agg #[.slice sa ar.length sc], .slice aA lA.length cA, .slice aB lB.length cB]) (by simp [results, Try.results26, go_sem, hbF]) rfl ⟨_, _, _, ar, lA, lB, rfl, hdr, hsv2F, hAF, hlA, hjA, hBF, hlB, hjB, hgF⟩
set_option maxRecDepth 100000 in
set_option maxHeartbeats 1000000 in
theorem drawApply_c (n : Nat) (v : Value) (w : World) (hn : n ≤ 1048576) (hv : SlB w.heap.size w v n) :
    Calls Try.prog 31 #[v] w (RetDSI w) := by
  obtain ⟨ad, cap, rfl, hcap, hr⟩ := hv
  have hv : SlB w.heap.size w (.slice ad n cap) n := ⟨ad, cap, rfl, hcap, hr⟩
  have hB1 := Bel.alloc0 w (.cells #[.slice none 0 0] 29)
  have hs1 : (w.alloc (.cells #[.slice none 0 0] 29)).heap.size = w.heap.size + 1 := by simp
  have hC := Cur.new (T := 94) (w := w.alloc (.cells #[.slice none 0 0] 29)) (v := .slice ad n cap) (n := n) (by
    obtain ⟨ad', cap', e, hc, hr'⟩ := hv.chg (Chg.of_bel (lo := w.heap.size) (hi := w.heap.size) hB1) (Nat.le_refl _)
    exact ⟨ad', cap', e, hc, fun hp => by obtain ⟨b, off, e1, e2, e3⟩ := hr' hp; exact ⟨b, off, e1, by omega, e3⟩⟩)
  rw [hs1] at hC
  have hB2 := hB1.step (Bel.alloc0 (w.alloc (.cells #[.slice none 0 0] 29)) (.cells #[.slice ad n cap, .int .i64 0, .int .u64 0] 94))
  have hbx : ((w.alloc (.cells #[.slice none 0 0] 29)).alloc (.cells #[.slice ad n cap, .int .i64 0, .int .u64 0] 94)).cell? ⟨w.heap.size, 0, none⟩ = some (.slice none 0 0) := (Bel.alloc0 _ _).at (by simp) (by rw [World.cell?_alloc_new w]; rfl)
  have hfx : ((w.alloc (.cells #[.slice none 0 0] 29)).alloc (.cells #[.slice ad n cap, .int .i64 0, .int .u64 0] 94)).frozen? ⟨w.heap.size, 0, none⟩ = false := by simp [go_sem]; try rfl
  have HS := Lib.hid (sign_c (w.heap.size + 1) n 0 _ (by omega) (by omega) hC)
  go_enter Try.func31, Try.ntmps31
  go_wp2_with fail
  refine HS.out.mono ?_; rintro e w1 ⟨sv, ar, k1, rfl, hdr, hsv, hk1, hk2, hc1, hg1⟩
  obtain ⟨sa, sc, rfl⟩ := hsv.form
  have hW0 : ((w.alloc (.cells #[.slice none 0 0] 29)).alloc (.cells #[.slice ad n cap, .int .i64 0, .int .u64 0] 94)).heap.size = w.heap.size + 1 + 1 := by simp
  generalize ((w.alloc (.cells #[.slice none 0 0] 29)).alloc (.cells #[.slice ad n cap, .int .i64 0, .int .u64 0] 94)) = W0 at *
  have hsz1 : W0.heap.size ≤ w1.heap.size := hg1.size
  rw [hW0] at hsv
  have hbx1 := hg1.cell (by omega) (by omega) hbx
  have hfx1 : w1.frozen? ⟨w.heap.size, 0, none⟩ = false := (World.frozen?_of_block (w := W0) (w' := w1) (a := ⟨w.heap.size, 0, none⟩) (hg1.block w.heap.size (by omega) (by omega))).trans hfx
  have hB3 := Bel.alloc0 w1 (.cells #[.slice sa ar.length sc] 29)
  have hs2 : (w1.alloc (.cells #[.slice sa ar.length sc] 29)).heap.size = w1.heap.size + 1 := by simp
  have hbx7 : (w1.alloc (.cells #[.slice sa ar.length sc] 29)).cell? ⟨w1.heap.size, 0, none⟩ = some (.slice sa ar.length sc) := by rw [World.cell?_alloc_new w1]; rfl
  have hbx2 := hB3.at (by omega) hbx1
  have hfx2 := (World.frozen?_of_block (w := w1) (a := ⟨w.heap.size, 0, none⟩) (hB3.block w.heap.size (by omega))).trans hfx1
  have hc2 := hc1.below hB3
  have hsv2 := hsv.below hB3
  have hg2 := hg1.trans (Chg.of_bel (lo := w.heap.size + 1) (hi := w.heap.size + 1 + 1) hB3)
  generalize hw2 : w1.alloc (.cells #[.slice sa ar.length sc] 29) = w2 at *
  clear hc1 hg1 hbx1 hfx1 hB3 hsv hbx hfx HS hC hB1
  have hhi0 : w1.heap.size ≤ w2.heap.size := by omega
  go_wp2_with fail
  go_region_held3 (fun w' => w'.cell? ⟨w1.heap.size, 0, none⟩ = some (.slice sa ar.length sc))
    (first | exact hbx7 | exact hx1 | exact hx2 | exact hb7F | fail)
    (first
      | (go_at_call 81; refine (subst_d (w.heap.size + 1) n k1 _ _ _ ar _ (by omega) (by omega) hdr (by omega) (by exact hhi0) (hc2.below (Bel.drew0 w2)) (hsv2.below (Bel.drew0 w2))).mono ?_; rintro e y1_2 ⟨aA, cA, lA, k2x, rfl, hA, hlA, hjA, hk1k2x, hk2k2x, hcr1, hr1⟩; have G1 := (Chg.of_bel (lo := w.heap.size + 1) (hi := w.heap.size + 1 + 1) (Bel.drew0 w2)).trans hr1; have hzr1 : w2.heap.size ≤ y1_2.heap.size := G1.size; have hx1 := G1.cell (by omega) (by omega) hbx7)
      | (go_at_call 79; refine (anyTerm_c (w.heap.size + 1) n k2x _ _ _ ar _ (by omega) (by omega) hdr (by omega) hcr1 (hsv2.chg G1 (by omega))).mono ?_; rintro e y2_2 ⟨aB, cB, tB, k3x, rfl, hB, hlB, hk1k3x, hk2k3x, hcr2, hr2⟩; have G2 := G1.trans hr2; have hzr2 : w2.heap.size ≤ y2_2.heap.size := G2.size; have hx2 := G2.cell (by omega) (by omega) hbx7; have hzs2 := hr2.size; have hbxL := G2.cell (by omega) (by omega) hbx2; have hb7F := (World.cell?_setCell_other y2_2 ⟨w.heap.size, 0, none⟩ ⟨w1.heap.size, 0, none⟩ (.slice sa ar.length sc) (fun h => (show w.heap.size ≠ w1.heap.size by omega) (congrArg Addr.block h))).trans hx2; have hfxL := (World.frozen?_of_block (w := w2) (w' := y2_2) (a := ⟨w.heap.size, 0, none⟩) (G2.block w.heap.size (by omega) (by omega))).trans hfx2)
      | fail)
  replace hA := hA.mono (show w2.heap.size ≤ w2.drew.heap.size from Nat.le_refl _) (Nat.le_refl _)
  replace hA := hA.chg hr2 (by omega)
  clear hfx2
  have hzL : w2.heap.size ≤ y2_2.heap.size := G2.size
  replace hsv2 := hsv2.chg G2 (by omega)
  replace hg2 := hg2.trans G2
  have hbF : (y2_2.setCell ⟨w.heap.size, 0, none⟩ (.slice sa ar.length sc)).cell? ⟨w.heap.size, 0, none⟩ = some (.slice sa ar.length sc) := World.cell?_setCell_same _ _ _ hbxL
  have hsv2F := (hsv2.set (p := ⟨w.heap.size, 0, none⟩) (.inl (by simp; omega)) (.slice sa ar.length sc)).mono (show w.heap.size ≤ _ by omega) (show _ ≤ (y2_2.setCell ⟨w.heap.size, 0, none⟩ (.slice sa ar.length sc)).heap.size by first | (simp; done) | (simp; omega))
  have hAF := (hA.set (p := ⟨w.heap.size, 0, none⟩) (.inl (by simp; omega)) (.slice sa ar.length sc)).mono (show w.heap.size ≤ _ by omega) (show _ ≤ (y2_2.setCell ⟨w.heap.size, 0, none⟩ (.slice sa ar.length sc)).heap.size by first | (simp; done) | (simp; omega))
  have hBF := (hB.set (p := ⟨w.heap.size, 0, none⟩) (.inl (by simp; omega)) (.slice sa ar.length sc)).mono (show w.heap.size ≤ _ by omega) (show _ ≤ (y2_2.setCell ⟨w.heap.size, 0, none⟩ (.slice sa ar.length sc)).heap.size by first | (simp; done) | (simp; omega))
  have hgF := (hg2.bel hB2 (by omega)).setCell (p := ⟨w.heap.size, 0, none⟩) (Nat.le_refl _) (.slice sa ar.length sc)
  clear hbx2 hbx7 hg2 hB2 hcr2 hsv2 hA hB
  go_wp2_with fail
  exact bodyPost_ret (v := .tuple #[.agg #[.slice sa ar.length sc], .slice aA lA.length cA, .slice aB tB.length cB]) (by simp [results, Try.results31, go_sem, hbF]) rfl ⟨_, _, _, ar, lA, tB, rfl, hdr, hsv2F, hAF, hlA, hjA, hBF, hlB, hgF⟩
end Go.Proofs.Ytikllmdmifecpaa
end
section
/- The draws of chapter 2: two terms. -/
namespace Go.Proofs.Ytikllmdmifecpaa
open Go.RowKit

theorem short_12 {l : List (List Int)} (h : l.length ≤ 12) (hj : ∀ j, (l.getD j []).length ≤ 1000) : short l := ⟨by omega, fun j _ => by have := hj j; omega⟩
theorem slI_k {lo hi : Nat} {w : World} {ad : Option Addr} {n c : Nat} {xs : List Int} (h : SlI lo hi w (.slice ad n c) xs) : n = xs.length := by
  obtain ⟨ad', c', e⟩ := h.form
  simp only [Value.slice.injEq] at e
  exact e.2.1
def RetDII (w : World) (e : Ending) (w' : World) : Prop :=
  ∃ (sv tv uv : Value) (ar t u : List Int), e = .returned (.tuple #[.agg #[sv], tv, uv]) ∧ drawn ar ∧ SlI w.heap.size w'.heap.size w' sv ar ∧ SlI w.heap.size w'.heap.size w' tv t ∧ t.length ≤ 1048576 ∧ SlI w.heap.size w'.heap.size w' uv u ∧ u.length ≤ 1048576 ∧ Bel w w'

set_option maxRecDepth 100000 in
set_option maxHeartbeats 1000000 in
theorem drawMatch_c (n : Nat) (v : Value) (w : World) (hn : n ≤ 1048576) (hv : SlB w.heap.size w v n) :
    Calls Try.prog 22 #[v] w (RetDII w) := by
  obtain ⟨ad, cap, rfl, hcap, hr⟩ := hv
  have hv : SlB w.heap.size w (.slice ad n cap) n := ⟨ad, cap, rfl, hcap, hr⟩
  have hB1 := Bel.alloc0 w (.cells #[.slice none 0 0] 29)
  have hs1 : (w.alloc (.cells #[.slice none 0 0] 29)).heap.size = w.heap.size + 1 := by simp
  have hC := Cur.new (T := 94) (w := w.alloc (.cells #[.slice none 0 0] 29)) (v := .slice ad n cap) (n := n) (by
    obtain ⟨ad', cap', e, hc, hr'⟩ := hv.chg (Chg.of_bel (lo := w.heap.size) (hi := w.heap.size) hB1) (Nat.le_refl _)
    exact ⟨ad', cap', e, hc, fun hp => by obtain ⟨b, off, e1, e2, e3⟩ := hr' hp; exact ⟨b, off, e1, by omega, e3⟩⟩)
  rw [hs1] at hC
  have hB2 := hB1.step (Bel.alloc0 (w.alloc (.cells #[.slice none 0 0] 29)) (.cells #[.slice ad n cap, .int .i64 0, .int .u64 0] 94))
  have hbx : ((w.alloc (.cells #[.slice none 0 0] 29)).alloc (.cells #[.slice ad n cap, .int .i64 0, .int .u64 0] 94)).cell? ⟨w.heap.size, 0, none⟩ = some (.slice none 0 0) := (Bel.alloc0 _ _).at (by simp) (by rw [World.cell?_alloc_new w]; rfl)
  have hfx : ((w.alloc (.cells #[.slice none 0 0] 29)).alloc (.cells #[.slice ad n cap, .int .i64 0, .int .u64 0] 94)).frozen? ⟨w.heap.size, 0, none⟩ = false := by simp [go_sem]; try rfl
  have HS := Lib.hid (sign_c (w.heap.size + 1) n 0 _ (by omega) (by omega) hC)
  go_enter Try.func22, Try.ntmps22
  go_wp2_with fail
  refine HS.out.mono ?_; rintro e w1 ⟨sv, ar, k1, rfl, hdr, hsv, hk1, hk2, hc1, hg1⟩
  obtain ⟨sa, sc, rfl⟩ := hsv.form
  have hW0 : ((w.alloc (.cells #[.slice none 0 0] 29)).alloc (.cells #[.slice ad n cap, .int .i64 0, .int .u64 0] 94)).heap.size = w.heap.size + 1 + 1 := by simp
  generalize ((w.alloc (.cells #[.slice none 0 0] 29)).alloc (.cells #[.slice ad n cap, .int .i64 0, .int .u64 0] 94)) = W0 at *
  have hsz1 : W0.heap.size ≤ w1.heap.size := hg1.size
  rw [hW0] at hsv
  have hbx1 := hg1.cell (by omega) (by omega) hbx
  have hfx1 : w1.frozen? ⟨w.heap.size, 0, none⟩ = false := (World.frozen?_of_block (w := W0) (w' := w1) (a := ⟨w.heap.size, 0, none⟩) (hg1.block w.heap.size (by omega) (by omega))).trans hfx
  have hB3 := Bel.alloc0 w1 (.cells #[.slice sa ar.length sc] 29)
  have hs2 : (w1.alloc (.cells #[.slice sa ar.length sc] 29)).heap.size = w1.heap.size + 1 := by simp
  have hbx7 : (w1.alloc (.cells #[.slice sa ar.length sc] 29)).cell? ⟨w1.heap.size, 0, none⟩ = some (.slice sa ar.length sc) := by rw [World.cell?_alloc_new w1]; rfl
  have hbx2 := hB3.at (by omega) hbx1
  have hfx2 := (World.frozen?_of_block (w := w1) (a := ⟨w.heap.size, 0, none⟩) (hB3.block w.heap.size (by omega))).trans hfx1
  have hc2 := hc1.below hB3
  have hsv2 := hsv.below hB3
  have hg2 := hg1.trans (Chg.of_bel (lo := w.heap.size + 1) (hi := w.heap.size + 1 + 1) hB3)
  generalize hw2 : w1.alloc (.cells #[.slice sa ar.length sc] 29) = w2 at *
  clear hc1 hg1 hbx1 hfx1 hB3 hsv hbx hfx HS hC hB1
  have hal := drawn_len hdr
  go_wp2_with fail
  refine (anyTerm_c (w.heap.size + 1) n k1 _ _ _ ar w2 (by omega) (by omega) hdr (by omega) hc2 hsv2).mono ?_; rintro e w3 ⟨aP, cP, tP, k2x, rfl, hP, hlP, hk1k2x, hk2k2x, hc3, hgs3⟩
  have hzw3 : w2.heap.size ≤ w3.heap.size := hgs3.size
  replace hsv2 := hsv2.chg hgs3 (by omega)
  replace hbx7 := hgs3.cell (by omega) (by omega) hbx7
  have hfq := hfx2
  replace hfx2 := (World.frozen?_of_block (w := w2) (w' := w3) (a := ⟨w.heap.size, 0, none⟩) (hgs3.block w.heap.size (by omega) (by omega))).trans hfq
  clear hfq
  replace hbx2 := hgs3.cell (by omega) (by omega) hbx2
  replace hg2 := hg2.trans hgs3
  clear hc2
  have hhi0 : w1.heap.size ≤ w3.heap.size := by omega
  go_wp2_with fail
  go_region_held3 (fun w' => w'.cell? ⟨w1.heap.size, 0, none⟩ = some (.slice sa ar.length sc))
    (first | exact hbx7 | exact hx1 | exact hx2 | fail)
    (first
      | (go_at_call 81; refine (subst_d (w.heap.size + 1) n k2x _ _ _ ar _ (by omega) (by omega) hdr (by omega) (by exact hhi0) (hc3.below (Bel.drew0 w3)) (hsv2.below (Bel.drew0 w3))).mono ?_; rintro e y1_3 ⟨aA, cA, lA, k3x, rfl, hA, hlA, hjA, hk1k3x, hk2k3x, hcr1, hr1⟩; have G1 := (Chg.of_bel (lo := w.heap.size + 1) (hi := w.heap.size + 1 + 1) (Bel.drew0 w3)).trans hr1; have hzr1 : w3.heap.size ≤ y1_3.heap.size := G1.size; have hx1 := G1.cell (by omega) (by omega) hbx7)
      | (go_at_call 80; refine (sApply_t (by omega) (hsv2.chg G1 (by omega)) (short_12 hlA hjA) hA (by omega) (hP.chg G1 (by omega))).mono ?_; rintro e y2_3 ⟨aU, mU, cU, rfl, hU, hbq⟩; have hr2 := Chg.of_bel (lo := w.heap.size + 1) (hi := w.heap.size + 1 + 1) hbq; have G2 := G1.trans hr2; have hzr2 : w3.heap.size ≤ y2_3.heap.size := G2.size; have hx2 := G2.cell (by omega) (by omega) hbx7; have hzs2 := hr2.size; have hcr2 := Cur.below hcr1 hbq)
      | fail)
  replace hA := hA.mono (show w3.heap.size ≤ w3.drew.heap.size from Nat.le_refl _) (Nat.le_refl _)
  replace hA := hA.chg hr2 (by omega)
  skip
  have hzy2_3 : w3.heap.size ≤ y2_3.heap.size := G2.size
  replace hsv2 := hsv2.chg G2 (by omega)
  replace hP := hP.chg G2 (by omega)
  replace hbx7 := G2.cell (by omega) (by omega) hbx7
  have hfq := hfx2
  replace hfx2 := (World.frozen?_of_block (w := w3) (w' := y2_3) (a := ⟨w.heap.size, 0, none⟩) (G2.block w.heap.size (by omega) (by omega))).trans hfq
  clear hfq
  replace hbx2 := G2.cell (by omega) (by omega) hbx2
  replace hg2 := hg2.trans G2
  clear hx1 hx2 G1 G2 hr1 hr2
  replace hU := hU.sl
  have hmU := slI_k hU
  subst hmU
  have hrl := applyAns_len40 ar lA tP
  generalize applyAns ar lA tP = r at *
  generalize applyOk ar lA tP = ok at *
  cases ok with
  | false =>
    have hhi0 : w1.heap.size ≤ y2_3.heap.size := by omega
    go_wp2_with fail
    go_region_held3 (fun w' => w'.cell? ⟨w1.heap.size, 0, none⟩ = some (.slice sa ar.length sc))
      (first | exact hbx7 | exact hx1 | exact hb7F | fail)
      (first
        | (go_at_call 79; refine (anyTerm_c (w.heap.size + 1) n k3x _ _ _ ar _ (by omega) (by omega) hdr (by omega) (hcr2.below (Bel.drew0 y2_3)) (hsv2.below (Bel.drew0 y2_3))).mono ?_; rintro e y1_4 ⟨aQ, cQ, tQ, k4x, rfl, hQ, hlQ, hk1k4x, hk2k4x, hcr1, hr1⟩; have G1 := (Chg.of_bel (lo := w.heap.size + 1) (hi := w.heap.size + 1 + 1) (Bel.drew0 y2_3)).trans hr1; have hzr1 : y2_3.heap.size ≤ y1_4.heap.size := G1.size; have hx1 := G1.cell (by omega) (by omega) hbx7; have hbxL := G1.cell (by omega) (by omega) hbx2; have hb7F := (World.cell?_setCell_other y1_4 ⟨w.heap.size, 0, none⟩ ⟨w1.heap.size, 0, none⟩ (.slice sa ar.length sc) (fun h => (show w.heap.size ≠ w1.heap.size by omega) (congrArg Addr.block h))).trans hx1; have hfxL := (World.frozen?_of_block (w := y2_3) (w' := y1_4) (a := ⟨w.heap.size, 0, none⟩) (G1.block w.heap.size (by omega) (by omega))).trans hfx2)
        | fail)
    replace hQ := hQ.mono (show y2_3.heap.size ≤ y2_3.drew.heap.size from Nat.le_refl _) (Nat.le_refl _)
    clear hfx2
    have hzL : y2_3.heap.size ≤ y1_4.heap.size := G1.size
    replace hsv2 := hsv2.chg G1 (by omega)
    replace hP := hP.chg G1 (by omega)
    replace hA := hA.chg G1 (by omega)
    replace hU := hU.chg G1 (by omega)
    replace hg2 := hg2.trans G1
    have hbF : (y1_4.setCell ⟨w.heap.size, 0, none⟩ (.slice sa ar.length sc)).cell? ⟨w.heap.size, 0, none⟩ = some (.slice sa ar.length sc) := World.cell?_setCell_same _ _ _ hbxL
    have hsv2F := (hsv2.set (p := ⟨w.heap.size, 0, none⟩) (.inl (by simp; omega)) (.slice sa ar.length sc)).mono (show w.heap.size ≤ _ by omega) (show _ ≤ (y1_4.setCell ⟨w.heap.size, 0, none⟩ (.slice sa ar.length sc)).heap.size by first | (simp; done) | (simp; omega))
    have hPF := (hP.set (p := ⟨w.heap.size, 0, none⟩) (.inl (by simp; omega)) (.slice sa ar.length sc)).mono (show w.heap.size ≤ _ by omega) (show _ ≤ (y1_4.setCell ⟨w.heap.size, 0, none⟩ (.slice sa ar.length sc)).heap.size by first | (simp; done) | (simp; omega))
    have hAF := (hA.set (p := ⟨w.heap.size, 0, none⟩) (.inl (by simp; omega)) (.slice sa ar.length sc)).mono (show w.heap.size ≤ _ by omega) (show _ ≤ (y1_4.setCell ⟨w.heap.size, 0, none⟩ (.slice sa ar.length sc)).heap.size by first | (simp; done) | (simp; omega))
    have hUF := (hU.set (p := ⟨w.heap.size, 0, none⟩) (.inl (by simp; omega)) (.slice sa ar.length sc)).mono (show w.heap.size ≤ _ by omega) (show _ ≤ (y1_4.setCell ⟨w.heap.size, 0, none⟩ (.slice sa ar.length sc)).heap.size by first | (simp; done) | (simp; omega))
    have hQF := (hQ.set (p := ⟨w.heap.size, 0, none⟩) (.inl (by simp; omega)) (.slice sa ar.length sc)).mono (show w.heap.size ≤ _ by omega) (show _ ≤ (y1_4.setCell ⟨w.heap.size, 0, none⟩ (.slice sa ar.length sc)).heap.size by first | (simp; done) | (simp; omega))
    have hgF := (hg2.bel hB2 (by omega)).setCell (p := ⟨w.heap.size, 0, none⟩) (Nat.le_refl _) (.slice sa ar.length sc)
    clear hbx2 hbx7 hg2 hB2 hcr1 hsv2 hP hA hU hQ
    go_wp2_with fail
    exact bodyPost_ret (v := .tuple #[.agg #[.slice sa ar.length sc], .slice aP tP.length cP, .slice aQ tQ.length cQ]) (by simp [results, Try.results22, go_sem, hbF]) rfl ⟨_, _, _, ar, _, _, rfl, hdr, hsv2F, hPF, by omega, hQF, by omega, hgF⟩
  | true =>
    go_wp2_with fail
    refine (one_c (w.heap.size + 1) n k3x _ 4 y2_3 (by decide) (by omega) (by omega) (by omega) hcr2).mono ?_; rintro e w5 ⟨qq, k4x, rfl, hk1k4x, hk2k4x, hc5, hgs5⟩
    have hzw5 : y2_3.heap.size ≤ w5.heap.size := hgs5.size
    replace hsv2 := hsv2.chg hgs5 (by omega)
    replace hP := hP.chg hgs5 (by omega)
    replace hA := hA.chg hgs5 (by omega)
    replace hU := hU.chg hgs5 (by omega)
    replace hbx7 := hgs5.cell (by omega) (by omega) hbx7
    have hfq := hfx2
    replace hfx2 := (World.frozen?_of_block (w := y2_3) (w' := w5) (a := ⟨w.heap.size, 0, none⟩) (hgs5.block w.heap.size (by omega) (by omega))).trans hfq
    clear hfq
    replace hbx2 := hgs5.cell (by omega) (by omega) hbx2
    replace hg2 := hg2.trans hgs5
    clear hcr2
    cases qq with
    | true =>
      have hhi0 : w1.heap.size ≤ w5.heap.size := by omega
      go_wp2_with fail
      go_region_held3 (fun w' => w'.cell? ⟨w1.heap.size, 0, none⟩ = some (.slice sa ar.length sc))
        (first | exact hbx7 | exact hx1 | exact hb7F | fail)
        (first
          | (go_at_call 79; refine (anyTerm_c (w.heap.size + 1) n k4x _ _ _ ar _ (by omega) (by omega) hdr (by omega) (hc5.below (Bel.drew0 w5)) (hsv2.below (Bel.drew0 w5))).mono ?_; rintro e y1_5 ⟨aQ, cQ, tQ, k5x, rfl, hQ, hlQ, hk1k5x, hk2k5x, hcr1, hr1⟩; have G1 := (Chg.of_bel (lo := w.heap.size + 1) (hi := w.heap.size + 1 + 1) (Bel.drew0 w5)).trans hr1; have hzr1 : w5.heap.size ≤ y1_5.heap.size := G1.size; have hx1 := G1.cell (by omega) (by omega) hbx7; have hbxL := G1.cell (by omega) (by omega) hbx2; have hb7F := (World.cell?_setCell_other y1_5 ⟨w.heap.size, 0, none⟩ ⟨w1.heap.size, 0, none⟩ (.slice sa ar.length sc) (fun h => (show w.heap.size ≠ w1.heap.size by omega) (congrArg Addr.block h))).trans hx1; have hfxL := (World.frozen?_of_block (w := w5) (w' := y1_5) (a := ⟨w.heap.size, 0, none⟩) (G1.block w.heap.size (by omega) (by omega))).trans hfx2)
          | fail)
      replace hQ := hQ.mono (show w5.heap.size ≤ w5.drew.heap.size from Nat.le_refl _) (Nat.le_refl _)
      clear hfx2
      have hzL : w5.heap.size ≤ y1_5.heap.size := G1.size
      replace hsv2 := hsv2.chg G1 (by omega)
      replace hP := hP.chg G1 (by omega)
      replace hA := hA.chg G1 (by omega)
      replace hU := hU.chg G1 (by omega)
      replace hg2 := hg2.trans G1
      have hbF : (y1_5.setCell ⟨w.heap.size, 0, none⟩ (.slice sa ar.length sc)).cell? ⟨w.heap.size, 0, none⟩ = some (.slice sa ar.length sc) := World.cell?_setCell_same _ _ _ hbxL
      have hsv2F := (hsv2.set (p := ⟨w.heap.size, 0, none⟩) (.inl (by simp; omega)) (.slice sa ar.length sc)).mono (show w.heap.size ≤ _ by omega) (show _ ≤ (y1_5.setCell ⟨w.heap.size, 0, none⟩ (.slice sa ar.length sc)).heap.size by first | (simp; done) | (simp; omega))
      have hPF := (hP.set (p := ⟨w.heap.size, 0, none⟩) (.inl (by simp; omega)) (.slice sa ar.length sc)).mono (show w.heap.size ≤ _ by omega) (show _ ≤ (y1_5.setCell ⟨w.heap.size, 0, none⟩ (.slice sa ar.length sc)).heap.size by first | (simp; done) | (simp; omega))
      have hAF := (hA.set (p := ⟨w.heap.size, 0, none⟩) (.inl (by simp; omega)) (.slice sa ar.length sc)).mono (show w.heap.size ≤ _ by omega) (show _ ≤ (y1_5.setCell ⟨w.heap.size, 0, none⟩ (.slice sa ar.length sc)).heap.size by first | (simp; done) | (simp; omega))
      have hUF := (hU.set (p := ⟨w.heap.size, 0, none⟩) (.inl (by simp; omega)) (.slice sa ar.length sc)).mono (show w.heap.size ≤ _ by omega) (show _ ≤ (y1_5.setCell ⟨w.heap.size, 0, none⟩ (.slice sa ar.length sc)).heap.size by first | (simp; done) | (simp; omega))
      have hQF := (hQ.set (p := ⟨w.heap.size, 0, none⟩) (.inl (by simp; omega)) (.slice sa ar.length sc)).mono (show w.heap.size ≤ _ by omega) (show _ ≤ (y1_5.setCell ⟨w.heap.size, 0, none⟩ (.slice sa ar.length sc)).heap.size by first | (simp; done) | (simp; omega))
      have hgF := (hg2.bel hB2 (by omega)).setCell (p := ⟨w.heap.size, 0, none⟩) (Nat.le_refl _) (.slice sa ar.length sc)
      clear hbx2 hbx7 hg2 hB2 hcr1 hsv2 hP hA hU hQ
      go_wp2_with fail
      exact bodyPost_ret (v := .tuple #[.agg #[.slice sa ar.length sc], .slice aP tP.length cP, .slice aQ tQ.length cQ]) (by simp [results, Try.results22, go_sem, hbF]) rfl ⟨_, _, _, ar, _, _, rfl, hdr, hsv2F, hPF, by omega, hQF, by omega, hgF⟩
    | false =>
      have hbx2' := hbx2
      have hbF : (w5.setCell ⟨w.heap.size, 0, none⟩ (.slice sa ar.length sc)).cell? ⟨w.heap.size, 0, none⟩ = some (.slice sa ar.length sc) := World.cell?_setCell_same _ _ _ hbx2
      have hsv2F := (hsv2.set (p := ⟨w.heap.size, 0, none⟩) (.inl (by simp; omega)) (.slice sa ar.length sc)).mono (show w.heap.size ≤ _ by omega) (show _ ≤ (w5.setCell ⟨w.heap.size, 0, none⟩ (.slice sa ar.length sc)).heap.size by first | (simp; done) | (simp; omega))
      have hPF := (hP.set (p := ⟨w.heap.size, 0, none⟩) (.inl (by simp; omega)) (.slice sa ar.length sc)).mono (show w.heap.size ≤ _ by omega) (show _ ≤ (w5.setCell ⟨w.heap.size, 0, none⟩ (.slice sa ar.length sc)).heap.size by first | (simp; done) | (simp; omega))
      have hAF := (hA.set (p := ⟨w.heap.size, 0, none⟩) (.inl (by simp; omega)) (.slice sa ar.length sc)).mono (show w.heap.size ≤ _ by omega) (show _ ≤ (w5.setCell ⟨w.heap.size, 0, none⟩ (.slice sa ar.length sc)).heap.size by first | (simp; done) | (simp; omega))
      have hUF := (hU.set (p := ⟨w.heap.size, 0, none⟩) (.inl (by simp; omega)) (.slice sa ar.length sc)).mono (show w.heap.size ≤ _ by omega) (show _ ≤ (w5.setCell ⟨w.heap.size, 0, none⟩ (.slice sa ar.length sc)).heap.size by first | (simp; done) | (simp; omega))
      have hgF := (hg2.bel hB2 (by omega)).setCell (p := ⟨w.heap.size, 0, none⟩) (Nat.le_refl _) (.slice sa ar.length sc)
      clear hg2 hB2 hc5
      go_wp2_with fail
      exact bodyPost_ret (v := .tuple #[.agg #[.slice sa ar.length sc], .slice aP tP.length cP, .slice aU r.length cU]) (by simp [results, Try.results22, go_sem, hbF]) rfl ⟨_, _, _, ar, _, _, rfl, hdr, hsv2F, hPF, by omega, hUF, by omega, hgF⟩
end Go.Proofs.Ytikllmdmifecpaa
end
section
/- The laws' comparison of lists of lists. -/
namespace Go.Proofs.Ytikllmdmifecpaa
open Go.RowKit

set_option maxRecDepth 100000 in
set_option maxHeartbeats 400000 in
theorem sameLists_same (l h l' h' : Nat) (v u : Value) (xss : List (List Int)) (w : World) (hs : short xss) (hv : SlS l h w v xss) (hu : SlS l' h' w u xss) :
    Calls Try.prog 23 #[v, u] w (RetV w (.bool true)) := by
  obtain ⟨va, vc, rfl⟩ := hv.form
  obtain ⟨ua, uc, rfl⟩ := hu.form
  obtain ⟨hl, hj⟩ := hs
  go_enter Try.func23, Try.ntmps23
  go_wp2_with fail
  go_loopw [13] (fun i wr => ∃ k : Nat, k ≤ xss.length ∧ i = .int .i64 k ∧ Bel w wr) (fun i _ => xss.length - (intOf i).toNat)
  case atStart => exact ⟨0, Nat.zero_le _, rfl, Bel.rfl' _⟩
  case round =>
    obtain ⟨k, hk, rfl, hb⟩ := hrel
    by_cases hlt : k < xss.length
    · obtain ⟨b1, o1, p1, rfl, -, hc1, hp1⟩ := hv.at hb k hlt
      obtain ⟨b2, o2, p2, rfl, -, hc2, hp2⟩ := hu.at hb k hlt
      have hjk := hj k hlt
      have hk64 : (k : Int) < xss.length := by omega
      have HS := Lib.hid (sameInts_same _ _ _ _ _ _ (xss.getD k []) _ hjk (hp1.below (Bel.drew0 wr)) (hp2.below (Bel.drew0 wr)))
      generalize xss.getD k [] = t at *
      obtain ⟨pa, pc, rfl⟩ := hp1.form
      obtain ⟨qa, qc, rfl⟩ := hp2.form
      go_wp2_with fail
      go_region_held3 (fun w' => w'.cell? ⟨b1, o1 + k, none⟩ = some (.slice pa t.length pc) ∧ w'.cell? ⟨b2, o2 + k, none⟩ = some (.slice qa t.length qc))
        (first | exact ⟨hc1, hc2⟩ | exact hcc | fail)
        (first | (go_at_call 33; refine HS.out.mono ?_; rintro e w1 ⟨rfl, hb1⟩; have hcc : w1.cell? ⟨b1, o1 + k, none⟩ = some (.slice pa t.length pc) ∧ w1.cell? ⟨b2, o2 + k, none⟩ = some (.slice qa t.length qc) := ⟨hb1.of_drew.at (World.block_lt_of_cell? _ ⟨_, _, none⟩ hc1) hc1, hb1.of_drew.at (World.block_lt_of_cell? _ ⟨_, _, none⟩ hc2) hc2⟩) | fail)
      go_wp2_with fail
      go_roundw
      case rel => exact ⟨k+1, by omega, by go_num, hb.step hb1.of_drew⟩
      case measure => simp [intOf]; omega
    · go_wp2_with fail
      go_ret
      exact ⟨rfl, hb⟩
end Go.Proofs.Ytikllmdmifecpaa
end
section
/- Compose: the program's. -/
namespace Go.Proofs.Ytikllmdmifecpaa
open Go.RowKit Go.Maps

set_option maxRecDepth 100000 in
set_option maxHeartbeats 1000000 in
theorem iCompose_t {l h l' h' l2 h2 : Nat} {v x y : Value} {ar : List Int} {a b : List (List Int)} {w : World} (ha : ar.length ≤ 1048576) (hv : SlI l h w v ar) (hba : short a) (hx : SlS l' h' w x a) (hbb : short b) (hy : SlS l2 h2 w y b) :
    Calls Try.prog 27 #[.agg #[v], x, y] w (RetSSB w (composeAns ar a b) (composeOk ar a b)) := by
  cases hs : goodSubst ar a with
  | false =>
    have e0 : composeOk ar a b = false := by simp [composeOk, hs]
    have E := Lib.hid (composeAns_no e0)
    have E2 := Lib.hid e0
    clear e0
    have HS := Lib.hid hs; clear hs
    go_enter Try.func27, Try.ntmps27
    go_wp2_with fail
    refine (iGoodSubst_v _ _ _ _ _ _ _ _ _ _ HS.out ha (hv.alloc _) hba (hx.alloc _)).mono ?_; rintro e w1 ⟨rfl, hb1⟩
    go_wp2_with fail
    go_ret2
    exact ⟨_, _, _, by rw [E2.out]; rfl, by rw [E.out]; exact OwnS.nil _ _ _, hb1.of_alloc⟩
  | true =>
    cases hs2 : goodSubst ar b with
    | false =>
      have e0 : composeOk ar a b = false := by simp [composeOk, hs2]
      have E := Lib.hid (composeAns_no e0)
      have E2 := Lib.hid e0
      clear e0
      have HS := Lib.hid (And.intro hs hs2); clear hs hs2
      go_enter Try.func27, Try.ntmps27
      go_wp2_with fail
      refine (iGoodSubst_v _ _ _ _ _ _ _ _ _ _ HS.out.1 ha (hv.alloc _) hba (hx.alloc _)).mono ?_; rintro e w1 ⟨rfl, hb1⟩
      have hx1 := boxc hb1 0 _ rfl
      go_wp2_with fail
      refine (iGoodSubst_v _ _ _ _ _ _ _ _ _ _ HS.out.2 ha (hv.below hb1.of_alloc) hbb (hy.below hb1.of_alloc)).mono ?_; rintro e w2 ⟨rfl, hb2⟩
      go_wp2_with fail
      go_ret2
      exact ⟨_, _, _, by rw [E2.out]; rfl, by rw [E.out]; exact OwnS.nil _ _ _, (hb1.step hb2).of_alloc⟩
    | true =>
      have hg := (goodSubst_iff.1 hs).1
      have hal := (goodSubst_iff.1 hs).2.1
      have hbl := (goodSubst_iff.1 hs2).2.1
      have hb40 := goodSubst_len40 hs2
      have hcok := fun v hv => compT_ok hs v hv
      have hapo := fun v hv => app_ok hs2 (compT_ok hs v hv)
      have HS := Lib.hid (And.intro hs hs2); clear hs hs2
      obtain ⟨xa, xc, rfl⟩ := hx.form
      rw [hal]
      go_enter Try.func27, Try.ntmps27
      have hmm := @run_makeMap Try.prog
      go_wp2_with fail
      refine (iGoodSubst_v _ _ _ _ _ _ _ _ _ _ HS.out.1 ha (hv.alloc _) hba ((hal ▸ hx).alloc _)).mono ?_; rintro e w1 ⟨rfl, hb1⟩
      have hx1 := boxc hb1 0 _ rfl
      go_wp2_with fail
      refine (iGoodSubst_v _ _ _ _ _ _ _ _ _ _ HS.out.2 ha (hv.below hb1.of_alloc) hbb (hy.below hb1.of_alloc)).mono ?_; rintro e w2 ⟨rfl, hb2⟩
      have hb12 := hb1.step hb2
      have hsz12 := hb12.size
      simp only [World.size_alloc] at hsz12
      clear hb1 hb2 hx1
      go_wp2_with fail
      have hM0 := MapV.made w2
      have hB0 : Bel (w.alloc (.cells #[v] 29)) (w2.alloc (.map #[] 0)) := hb12.alloc (.map #[] 0)
      go_loopw [26] (fun i wr => ∃ (k : Nat) (f : Nat → Option Value), k ≤ 12 ∧ i = .int .i64 k ∧ MapV wr w2.heap.size k f ∧ (∀ v, v < k → ∃ u lo hi, f v = some u ∧ SlI lo hi wr u (compF a b v) ∧ app40ok b (compT a v) = true) ∧ Bel (w.alloc (.cells #[v] 29)) wr) (fun i _ => 12 - (intOf i).toNat)
      case atStart => exact ⟨0, _, Nat.zero_le _, rfl, hM0, fun v hv => absurd hv (Nat.not_lt_zero _), hB0⟩
      case round =>
        clear hM0 hB0
        obtain ⟨k, f, hk, rfl, hM, hf, hb⟩ := hrel
        by_cases hlt : k < 12
        · obtain ⟨b1, off1, p, rfl, -, hc, hp⟩ := hx.at hb.of_alloc k (by omega)
          have hck := hcok k hlt
          have hlow := okTerm_low hck
          have h40t := ((okTerm_iff _ _).1 hck).2.1
          have hcf : compF a b k = appT b (compT a k) := rfl
          have hbad := fun h => compose_bad (ar := ar) (a := a) (b := b) hlt h
          have hctp := compT_pos (a := a) (v := k)
          have hctz := compT_zero (a := a) (v := k)
          generalize a.getD k [] = T at *
          obtain ⟨ap, cp, rfl⟩ := hp.form
          clear hck
          by_cases hpos : 0 < T.length
          · have hct := hctp hpos
            clear hctp hctz
            rw [hct] at hcf hlow h40t hbad
            have hnz2 : ((T.length : Int) == 0) = false := by rw [beq_eq_false_iff_ne]; omega
            cases h4 : app40ok b T with
            | false =>
              have e0 := hbad h4
              have E := Lib.hid (composeAns_no e0)
              have E2 := Lib.hid e0
              have H4 := Lib.hid h4
              clear e0 h4 hbad hf
              go_wp2_with fail
              refine (applied_c _ _ _ _ _ _ b T _ hbl hb40 (by omega) hlow (hy.below hb.of_alloc) hp).mono ?_; rintro e w3 ⟨ao, no, co, rfl, ho, hb3⟩
              rw [H4.out]
              go_wp2_with fail
              go_ret2
              exact ⟨_, _, _, by rw [E2.out]; rfl, by rw [E.out]; exact OwnS.nil _ _ _, (hb.of_alloc).step hb3⟩
            | true =>
              have h4n : ¬ 40 < (appT b T).length := fun h => by rw [(app40_no h).2] at h4; simp at h4
              have e40 := (app40_yes h4n).1
              have h4c : app40ok b (compT a k) = true := by rw [hct]; exact h4
              have H4 := Lib.hid (And.intro h4 (And.intro e40 (And.intro h4c hcf)))
              clear h4 hbad e40 h4c hcf
              go_wp2_with fail
              refine (applied_c _ _ _ _ _ _ b T _ hbl hb40 (by omega) hlow (hy.below hb.of_alloc) hp).mono ?_; rintro e w3 ⟨ao, no, co, rfl, ho, hb3⟩
              rw [H4.out.1]
              rw [H4.out.2.1] at ho
              have hb13 := (hb.of_alloc).step hb3
              obtain ⟨n, D, hn, hown, hK⟩ := hM.bel hb3
              go_wp2_with (at_mapUpdate; refine wpList_mapUpdate_own _ rfl _ _ _ 88 rfl 3 22 keyInt Try.underlying88 _ w2.heap.size n D rfl hown (by unfold maxLen; omega) _ _ _ rfl rfl (kv_key hlt) _ [] rfl ?_; intro w4 hown4 hgrow)
              have hM4 : MapV w4 w2.heap.size (k+1) (fun i => if i = k then some (.slice ao no co) else f i) := ⟨n+1, _, by omega, hown4, hK.put hown.isMap hlt _⟩
              have hch := chg_of_grown hgrow
              have hM3 : MapV w3 w2.heap.size k f := ⟨n, D, hn, hown, hK⟩
              go_roundw
              case rel =>
                refine ⟨k+1, _, by omega, by go_num, hM4, fun v hv => ?_, hch.bel (w0 := w.alloc (.cells #[v] 29)) (hb.step hb3) (by simp; omega)⟩
                by_cases e : v = k
                · subst e
                  exact ⟨_, _, _, if_pos rfl, by rw [H4.out.2.2.2]; exact ho.sl.chgMap hM3 hch, H4.out.2.2.1⟩
                · obtain ⟨u, lo, hi, h1, h2, h3⟩ := hf v (by omega)
                  exact ⟨u, lo, hi, by rw [if_neg e]; exact h1, (h2.below hb3).chgMap hM3 hch, h3⟩
              case measure => simp [intOf]; omega
          · have hp0 : T.length = 0 := by omega
            have hct := hctz hpos
            clear hctp hctz
            rw [hct] at hcf hlow h40t hbad
            rw [hp0] at hc
            clear hp
            have hw35 := IntWalk.i64_in (-1 - (k : Int)) (by omega)
            cases h4 : app40ok b [-1 - (k : Int)] with
            | false =>
              have e0 := hbad h4
              have E := Lib.hid (composeAns_no e0)
              have E2 := Lib.hid e0
              have H4 := Lib.hid h4
              clear e0 h4 hbad hf
              go_wp2_with fail
              refine (applied_c _ _ _ _ _ _ b [-1 - (k : Int)] _ hbl hb40 (by omega) hlow (hy.below ((hb.of_alloc).alloc (.cells #[.int .i64 (-1 - (k : Int))] 3))) (SlI.lit _ _)).mono ?_; rintro e w3 ⟨ao, no, co, rfl, ho, hb3⟩
              rw [H4.out]
              go_wp2_with fail
              go_ret2
              exact ⟨_, _, _, by rw [E2.out]; rfl, by rw [E.out]; exact OwnS.nil _ _ _, (((hb.of_alloc).alloc (.cells #[.int .i64 (-1 - (k : Int))] 3))).step hb3⟩
            | true =>
              have h4n : ¬ 40 < (appT b [-1 - (k : Int)]).length := fun h => by rw [(app40_no h).2] at h4; simp at h4
              have e40 := (app40_yes h4n).1
              have h4c : app40ok b (compT a k) = true := by rw [hct]; exact h4
              have H4 := Lib.hid (And.intro h4 (And.intro e40 (And.intro h4c hcf)))
              clear h4 hbad e40 h4c hcf
              go_wp2_with fail
              refine (applied_c _ _ _ _ _ _ b [-1 - (k : Int)] _ hbl hb40 (by omega) hlow (hy.below ((hb.of_alloc).alloc (.cells #[.int .i64 (-1 - (k : Int))] 3))) (SlI.lit _ _)).mono ?_; rintro e w3 ⟨ao, no, co, rfl, ho, hb3⟩
              rw [H4.out.1]
              rw [H4.out.2.1] at ho
              have hb13 := (((hb.of_alloc).alloc (.cells #[.int .i64 (-1 - (k : Int))] 3))).step hb3
              obtain ⟨n, D, hn, hown, hK⟩ := hM.bel hb3.of_alloc
              go_wp2_with (at_mapUpdate; refine wpList_mapUpdate_own _ rfl _ _ _ 88 rfl 3 22 keyInt Try.underlying88 _ w2.heap.size n D rfl hown (by unfold maxLen; omega) _ _ _ rfl rfl (kv_key hlt) _ [] rfl ?_; intro w4 hown4 hgrow)
              have hM4 : MapV w4 w2.heap.size (k+1) (fun i => if i = k then some (.slice ao no co) else f i) := ⟨n+1, _, by omega, hown4, hK.put hown.isMap hlt _⟩
              have hch := chg_of_grown hgrow
              have hM3 : MapV w3 w2.heap.size k f := ⟨n, D, hn, hown, hK⟩
              go_roundw
              case rel =>
                refine ⟨k+1, _, by omega, by go_num, hM4, fun v hv => ?_, hch.bel (w0 := w.alloc (.cells #[v] 29)) (hb.step hb3.of_alloc) (by simp; omega)⟩
                by_cases e : v = k
                · subst e
                  exact ⟨_, _, _, if_pos rfl, by rw [H4.out.2.2.2]; exact ho.sl.chgMap hM3 hch, H4.out.2.2.1⟩
                · obtain ⟨u, lo, hi, h1, h2, h3⟩ := hf v (by omega)
                  exact ⟨u, lo, hi, by rw [if_neg e]; exact h1, (h2.below hb3.of_alloc).chgMap hM3 hch, h3⟩
              case measure => simp [intOf]; omega
        · obtain rfl : k = 12 := by omega
          have hgood := fun v hv => (hf v hv).elim fun u h => h.elim fun lo h => h.elim fun hi h => h.2.2
          have e0 := compose_good HS.out.1 HS.out.2 hgood
          have E := Lib.hid (composeAns_yes e0)
          have E2 := Lib.hid e0
          have hF : ∀ v, v < 12 → (compF a b v).length ≤ 1048576 ∧ ∃ lo hi, SlI lo hi wr ((f v).getD (.slice none 0 0)) (compF a b v) := by
            intro v hv
            obtain ⟨u, lo, hi, h1, h2, h3⟩ := hf v hv
            refine ⟨?_, lo, hi, by rw [h1]; exact h2⟩
            simp [app40ok] at h3
            unfold compF; omega
          clear e0 hgood hf
          go_wp2_with fail
          refine (subst_c _ _ f (compF a b) _ hM hF).mono ?_; rintro e w3 ⟨ao, no, co, rfl, ho, hch⟩
          go_wp2_with fail
          go_ret2
          have hz := hb.size
          simp only [World.size_alloc] at hz
          exact ⟨_, _, _, by rw [E2.out]; rfl, by rw [E.out]; exact ho.mono (by omega) (Nat.le_refl _), hch.bel hb.of_alloc (by omega)⟩
end Go.Proofs.Ytikllmdmifecpaa
end
section
/- Compose: the reference's. -/
namespace Go.Proofs.Ytikllmdmifecpaa
open Go.RowKit Go.Maps

set_option maxRecDepth 100000 in
set_option maxHeartbeats 1000000 in
theorem sCompose_t {l h l' h' l2 h2 : Nat} {v x y : Value} {ar : List Int} {a b : List (List Int)} {w : World} (ha : ar.length ≤ 1048576) (hv : SlI l h w v ar) (hba : short a) (hx : SlS l' h' w x a) (hbb : short b) (hy : SlS l2 h2 w y b) :
    Calls Try.prog 28 #[.agg #[v], x, y] w (RetSSB w (composeAns ar a b) (composeOk ar a b)) := by
  cases hs : goodSubst ar a with
  | false =>
    have e0 : composeOk ar a b = false := by simp [composeOk, hs]
    have E := Lib.hid (composeAns_no e0)
    have E2 := Lib.hid e0
    clear e0
    have HS := Lib.hid hs; clear hs
    go_enter Try.func28, Try.ntmps28
    go_wp2_with fail
    refine (sGoodSubst_v _ _ _ _ _ _ _ _ _ _ HS.out ha (hv.alloc _) hba (hx.alloc _)).mono ?_; rintro e w1 ⟨rfl, hb1⟩
    go_wp2_with fail
    go_ret2
    exact ⟨_, _, _, by rw [E2.out]; rfl, by rw [E.out]; exact OwnS.nil _ _ _, hb1.of_alloc⟩
  | true =>
    cases hs2 : goodSubst ar b with
    | false =>
      have e0 : composeOk ar a b = false := by simp [composeOk, hs2]
      have E := Lib.hid (composeAns_no e0)
      have E2 := Lib.hid e0
      clear e0
      have HS := Lib.hid (And.intro hs hs2); clear hs hs2
      go_enter Try.func28, Try.ntmps28
      go_wp2_with fail
      refine (sGoodSubst_v _ _ _ _ _ _ _ _ _ _ HS.out.1 ha (hv.alloc _) hba (hx.alloc _)).mono ?_; rintro e w1 ⟨rfl, hb1⟩
      have hx1 := boxc hb1 0 _ rfl
      go_wp2_with fail
      refine (sGoodSubst_v _ _ _ _ _ _ _ _ _ _ HS.out.2 ha (hv.below hb1.of_alloc) hbb (hy.below hb1.of_alloc)).mono ?_; rintro e w2 ⟨rfl, hb2⟩
      go_wp2_with fail
      go_ret2
      exact ⟨_, _, _, by rw [E2.out]; rfl, by rw [E.out]; exact OwnS.nil _ _ _, (hb1.step hb2).of_alloc⟩
    | true =>
      have hg := (goodSubst_iff.1 hs).1
      have hal := (goodSubst_iff.1 hs).2.1
      have hbl := (goodSubst_iff.1 hs2).2.1
      have hb40 := goodSubst_len40 hs2
      have hcok := fun v hv => compT_ok hs v hv
      have hapo := fun v hv => app_ok hs2 (compT_ok hs v hv)
      have HS := Lib.hid (And.intro hs hs2); clear hs hs2
      obtain ⟨xa, xc, rfl⟩ := hx.form
      rw [hal]
      go_enter Try.func28, Try.ntmps28
      go_wp2_with fail
      refine (sGoodSubst_v _ _ _ _ _ _ _ _ _ _ HS.out.1 ha (hv.alloc _) hba ((hal ▸ hx).alloc _)).mono ?_; rintro e w1 ⟨rfl, hb1⟩
      have hx1 := boxc hb1 0 _ rfl
      go_wp2_with fail
      refine (sGoodSubst_v _ _ _ _ _ _ _ _ _ _ HS.out.2 ha (hv.below hb1.of_alloc) hbb (hy.below hb1.of_alloc)).mono ?_; rintro e w2 ⟨rfl, hb2⟩
      have hb12 := hb1.step hb2
      have hsz12 := hb12.size
      simp only [World.size_alloc] at hsz12
      clear hb1 hb2 hx1
      obtain ⟨i0, hi, hz0, hz1, hz2⟩ := info_parts Try.info22
      go_wp2_with (at_make; refine wpList_make_full _ rfl _ _ 26 rfl w2.heap.size 22 i0 (.slice none 0 0) 1 Try.underlying26 hi hz0 hz1 _ _ _ _ 12 rfl rfl rfl rfl (by rw [hz2]; omega) (by unfold maxLen; omega) (Nat.le_refl _) ?_; intro w3 hown hg)
      have hB0 : Bel (w.alloc (.cells #[v] 29)) w3 := hb12.grown hg (by simp)
      have hO1 : OwnT w2.heap.size (fun _ => 2) 2 22 w3 (.slice (some ⟨w2.heap.size, 0, none⟩) 12 12) (List.replicate 12 (Value.slice none 0 0)) := by
        refine ⟨?_, fun _ _ => rfl⟩
        have hz3 : (madeCells (Value.slice none 0 0).cells (12 * 1)).toList = List.replicate 12 (Value.slice none 0 0) := by
          rw [Nat.mul_one]; show (madeCells #[_] _).toList = _; rw [toList_madeCells_one]
        rw [hz3] at hown
        simpa using hown
      have hI0 : InT w2.heap.size (fun _ => 2) 3 w3 (List.replicate 12 (Value.slice none 0 0)) (partL (compF a b) (castL (List.range 0))) := by
        show InT _ _ _ _ _ (partL (compF a b) [])
        rw [partL_nil]
        refine ⟨by simp, fun j u hj => ?_⟩
        have hlt := (List.getElem?_eq_some_iff.1 hj).1
        rw [List.getElem?_replicate, if_pos (by simpa using hlt)] at hj
        simp at hj
        subst hj
        rw [getD_rep]
        exact OwnT.nil _ _ _ _ _
      have hs3 : w2.heap.size < w3.heap.size := hO1.lt rfl
      clear hown hg
      go_loopw [25] (fun i wr => ∃ (k : Nat) (tag : Nat → Nat) (us : List Value), k ≤ 12 ∧ i = .int .i64 k ∧ us.length = 12 ∧ OwnT w2.heap.size tag 2 22 wr (.slice (some ⟨w2.heap.size, 0, none⟩) 12 12) us ∧ InT w2.heap.size tag 3 wr us (partL (compF a b) (castL (List.range k))) ∧ (∀ v, v < k → app40ok b (compT a v) = true) ∧ w3.heap.size ≤ wr.heap.size ∧ Bel (w.alloc (.cells #[v] 29)) wr) (fun i _ => 12 - (intOf i).toNat)
      case atStart => exact ⟨0, _, _, Nat.zero_le _, rfl, by simp, hO1, hI0, fun v hv => absurd hv (Nat.not_lt_zero _), Nat.le_refl _, hB0⟩
      case round =>
        clear hO1 hI0 hB0
        obtain ⟨k, tag, us, hk, rfl, hul, hO, hI, hgood, hszr, hb⟩ := hrel
        have hbox := boxc hb 0 _ rfl
        by_cases hlt : k < 12
        · obtain ⟨b1, off1, p, rfl, -, hc, hp⟩ := hx.at hb.of_alloc k (by omega)
          have hck := hcok k hlt
          have hap := hapo k hlt
          have hlow := okTerm_low hck
          have h40t := ((okTerm_iff _ _).1 hck).2.1
          have hcf : compF a b k = appT b (compT a k) := rfl
          have hbad := fun h => compose_bad (ar := ar) (a := a) (b := b) hlt h
          have hctp := compT_pos (a := a) (v := k)
          have hctz := compT_zero (a := a) (v := k)
          have hset := partL_snoc (compF a b) (castL (List.range k)) k hlt
          rw [← castL_range] at hset
          generalize a.getD k [] = T at *
          obtain ⟨ap, cp, rfl⟩ := hp.form
          clear hck
          have hlt64 : (k : Int) < 12 := by omega
          by_cases hpos : 0 < T.length
          · have hct := hctp hpos
            clear hctp hctz
            rw [hct] at hcf hlow h40t hbad hap
            have hnz2 : ((T.length : Int) == 0) = false := by rw [beq_eq_false_iff_ne]; omega
            have hal2 := appT_len hb40 T
            cases h4 : app40ok b T with
            | false =>
              have e0 := hbad h4
              have E := Lib.hid (composeAns_no e0)
              have E2 := Lib.hid e0
              have H4 := Lib.hid (hap.trans h4)
              clear e0 h4 hbad hgood hap
              go_wp2_with fail
              refine (l2Apply_r _ _ _ _ _ _ b T _ hbl hb40 (by omega) hlow (hy.below (hb).of_alloc) hp).mono ?_; rintro e w4 ⟨ao, no, co, rfl, hX0, hb4⟩
              have hno : no = (appT b T).length := row_len hX0
              subst hno
              obtain ⟨tag1, hX, hT1⟩ := tag_new (tag := tag) (base := w2.heap.size) (t := 10 + k) (xs := (appT b T).map (Value.int .i64)) (by simpa using hX0) hb4 (by first | omega | (simp; omega))
              have hO4 := hT1 _ _ _ _ hO
              have hI4 := hI.all hT1
              have hb14 := (hb).step hb4
              have hbox4 := boxc hb14 0 _ rfl
              have hXs := hX.sl
              go_wp2_with fail
              refine (l1Term_v _ _ _ _ _ _ ar (appT b T) false _ H4.out hg (by omega) (hv.below hb14.of_alloc) hXs).mono ?_; rintro e w5 ⟨rfl, hb5⟩
              go_wp2_with fail
              go_ret2
              exact ⟨_, _, _, by rw [E2.out]; rfl, by rw [E.out]; exact OwnS.nil _ _ _, (hb14.step hb5).of_alloc⟩
            | true =>
              have h4c : app40ok b (compT a k) = true := by rw [hct]; exact h4
              have H4 := Lib.hid (And.intro (hap.trans h4) (And.intro h4c (And.intro hset hcf)))
              clear h4 hbad h4c hcf hset hap
              go_wp2_with fail
              refine (l2Apply_r _ _ _ _ _ _ b T _ hbl hb40 (by omega) hlow (hy.below (hb).of_alloc) hp).mono ?_; rintro e w4 ⟨ao, no, co, rfl, hX0, hb4⟩
              have hno : no = (appT b T).length := row_len hX0
              subst hno
              obtain ⟨tag1, hX, hT1⟩ := tag_new (tag := tag) (base := w2.heap.size) (t := 10 + k) (xs := (appT b T).map (Value.int .i64)) (by simpa using hX0) hb4 (by first | omega | (simp; omega))
              have hO4 := hT1 _ _ _ _ hO
              have hI4 := hI.all hT1
              have hb14 := (hb).step hb4
              have hbox4 := boxc hb14 0 _ rfl
              have hXs := hX.sl
              go_wp2_with fail
              refine (l1Term_v _ _ _ _ _ _ ar (appT b T) true _ H4.out.1 hg (by omega) (hv.below hb14.of_alloc) hXs).mono ?_; rintro e w5 ⟨rfl, hb5⟩
              by_cases hst0 : appT b T = [-1 - (k : Int)]
              · have hsF : Hid (stayF (compF a b) k = []) := by show _ = _; unfold stayF; rw [if_pos (by rw [H4.out.2.2.2]; exact hst0)]
                have HY := Lib.hid (l2Stay_y _ _ _ (appT b T) k w5 hlt hst0 (hXs.below hb5))
                clear hst0 hX hXs
                go_wp2_with fail
                refine HY.out.mono ?_; rintro e w6 ⟨rfl, hb6⟩
                have hO5 := hO4.bel (hb5.step hb6)
                have hO5r := hO5.1
                rw [hul] at hO5r
                have hcell5 := hO5r.cellAt k (by omega)
                rw [List.getElem?_eq_getElem (by omega)] at hcell5
                have hfr5 := hO5r.frozenAt k
                have hI5 := hI4.put k (by omega) (u := .slice none 0 0) (xs := []) (fun t2 e2 u2 zs h => (h.bel (hb5.step hb6))) (OwnT.nil _ _ _ _ _)
                go_wp2_with fail
                have hst := tag_store hO5 k (.slice none 0 0)
                have hI6 := hI5.step (by omega) hst.2
                have hz6 := (hb4.step (hb5.step hb6)).size
                go_roundw
                case rel => exact ⟨k+1, tag1, us.set k (.slice none 0 0), by omega, by go_num, by simpa using hul, hst.1, by rw [← H4.out.2.2.1, hsF.out]; exact hI6, fun v hv => (by
                    by_cases e : v = k
                    · subst e; exact H4.out.2.1
                    · exact hgood v (by omega)), by simp at hz6 ⊢; omega, (hb14.step (hb5.step hb6)).setCell (p := ⟨w2.heap.size, k, none⟩) (by simp; omega) _⟩
                case measure => simp [intOf]; omega
              · have hsF : Hid (stayF (compF a b) k = appT b T) := by show _ = _; unfold stayF; rw [H4.out.2.2.2, if_neg hst0]
                have HY := Lib.hid (l2Stay_n _ _ _ (appT b T) k w5 hlt hst0 (hXs.below hb5))
                have hX6 := Lib.hid hX
                clear hst0 hX hXs
                go_wp2_with fail
                refine HY.out.mono ?_; rintro e w6 ⟨rfl, hb6⟩
                have hO5 := hO4.bel (hb5.step hb6)
                have hO5r := hO5.1
                rw [hul] at hO5r
                have hcell5 := hO5r.cellAt k (by omega)
                rw [List.getElem?_eq_getElem (by omega)] at hcell5
                have hfr5 := hO5r.frozenAt k
                have hI5 := hI4.put k (by omega) (u := .slice ao (appT b T).length co) (xs := appT b T) (fun t2 e2 u2 zs h => (h.bel (hb5.step hb6))) (hX6.out.bel (hb5.step hb6))
                go_wp2_with fail
                have hst := tag_store hO5 k (.slice ao (appT b T).length co)
                have hI6 := hI5.step (by omega) hst.2
                have hz6 := (hb4.step (hb5.step hb6)).size
                go_roundw
                case rel => exact ⟨k+1, tag1, us.set k (.slice ao (appT b T).length co), by omega, by go_num, by simpa using hul, hst.1, by rw [← H4.out.2.2.1, hsF.out]; exact hI6, fun v hv => (by
                    by_cases e : v = k
                    · subst e; exact H4.out.2.1
                    · exact hgood v (by omega)), by simp at hz6 ⊢; omega, (hb14.step (hb5.step hb6)).setCell (p := ⟨w2.heap.size, k, none⟩) (by simp; omega) _⟩
                case measure => simp [intOf]; omega
          · have hp0 : T.length = 0 := by omega
            have hct := hctz hpos
            clear hctp hctz
            rw [hct] at hcf hlow h40t hbad hap
            rw [hp0] at hc
            clear hp
            have hw35 := IntWalk.i64_in (-1 - (k : Int)) (by omega)
            have hal2 := appT_len hb40 [-1 - (k : Int)]
            cases h4 : app40ok b [-1 - (k : Int)] with
            | false =>
              have e0 := hbad h4
              have E := Lib.hid (composeAns_no e0)
              have E2 := Lib.hid e0
              have H4 := Lib.hid (hap.trans h4)
              clear e0 h4 hbad hgood hap
              go_wp2_with fail
              refine (l2Apply_r _ _ _ _ _ _ b [-1 - (k : Int)] _ hbl hb40 (by omega) hlow (hy.below ((hb.alloc (.cells #[.int .i64 (-1 - (k : Int))] 3))).of_alloc) (SlI.lit _ _)).mono ?_; rintro e w4 ⟨ao, no, co, rfl, hX0, hb4⟩
              have hno : no = (appT b [-1 - (k : Int)]).length := row_len hX0
              subst hno
              obtain ⟨tag1, hX, hT1⟩ := tag_new (tag := tag) (base := w2.heap.size) (t := 10 + k) (xs := (appT b [-1 - (k : Int)]).map (Value.int .i64)) (by simpa using hX0) hb4 (by first | omega | (simp; omega))
              have hO4 := hT1 _ _ _ _ (hO.alloc _)
              have hI4 := (hI.bel (Bel.alloc0 _ _)).all hT1
              have hb14 := ((hb.alloc (.cells #[.int .i64 (-1 - (k : Int))] 3))).step hb4
              have hbox4 := boxc hb14 0 _ rfl
              have hXs := hX.sl
              go_wp2_with fail
              refine (l1Term_v _ _ _ _ _ _ ar (appT b [-1 - (k : Int)]) false _ H4.out hg (by omega) (hv.below hb14.of_alloc) hXs).mono ?_; rintro e w5 ⟨rfl, hb5⟩
              go_wp2_with fail
              go_ret2
              exact ⟨_, _, _, by rw [E2.out]; rfl, by rw [E.out]; exact OwnS.nil _ _ _, (hb14.step hb5).of_alloc⟩
            | true =>
              have h4c : app40ok b (compT a k) = true := by rw [hct]; exact h4
              have H4 := Lib.hid (And.intro (hap.trans h4) (And.intro h4c (And.intro hset hcf)))
              clear h4 hbad h4c hcf hset hap
              go_wp2_with fail
              refine (l2Apply_r _ _ _ _ _ _ b [-1 - (k : Int)] _ hbl hb40 (by omega) hlow (hy.below ((hb.alloc (.cells #[.int .i64 (-1 - (k : Int))] 3))).of_alloc) (SlI.lit _ _)).mono ?_; rintro e w4 ⟨ao, no, co, rfl, hX0, hb4⟩
              have hno : no = (appT b [-1 - (k : Int)]).length := row_len hX0
              subst hno
              obtain ⟨tag1, hX, hT1⟩ := tag_new (tag := tag) (base := w2.heap.size) (t := 10 + k) (xs := (appT b [-1 - (k : Int)]).map (Value.int .i64)) (by simpa using hX0) hb4 (by first | omega | (simp; omega))
              have hO4 := hT1 _ _ _ _ (hO.alloc _)
              have hI4 := (hI.bel (Bel.alloc0 _ _)).all hT1
              have hb14 := ((hb.alloc (.cells #[.int .i64 (-1 - (k : Int))] 3))).step hb4
              have hbox4 := boxc hb14 0 _ rfl
              have hXs := hX.sl
              go_wp2_with fail
              refine (l1Term_v _ _ _ _ _ _ ar (appT b [-1 - (k : Int)]) true _ H4.out.1 hg (by omega) (hv.below hb14.of_alloc) hXs).mono ?_; rintro e w5 ⟨rfl, hb5⟩
              by_cases hst0 : appT b [-1 - (k : Int)] = [-1 - (k : Int)]
              · have hsF : Hid (stayF (compF a b) k = []) := by show _ = _; unfold stayF; rw [if_pos (by rw [H4.out.2.2.2]; exact hst0)]
                have HY := Lib.hid (l2Stay_y _ _ _ (appT b [-1 - (k : Int)]) k w5 hlt hst0 (hXs.below hb5))
                clear hst0 hX hXs
                go_wp2_with fail
                refine HY.out.mono ?_; rintro e w6 ⟨rfl, hb6⟩
                have hO5 := hO4.bel (hb5.step hb6)
                have hO5r := hO5.1
                rw [hul] at hO5r
                have hcell5 := hO5r.cellAt k (by omega)
                rw [List.getElem?_eq_getElem (by omega)] at hcell5
                have hfr5 := hO5r.frozenAt k
                have hI5 := hI4.put k (by omega) (u := .slice none 0 0) (xs := []) (fun t2 e2 u2 zs h => (h.bel (hb5.step hb6))) (OwnT.nil _ _ _ _ _)
                go_wp2_with fail
                have hst := tag_store hO5 k (.slice none 0 0)
                have hI6 := hI5.step (by omega) hst.2
                have hz6 := (hb4.step (hb5.step hb6)).size
                go_roundw
                case rel => exact ⟨k+1, tag1, us.set k (.slice none 0 0), by omega, by go_num, by simpa using hul, hst.1, by rw [← H4.out.2.2.1, hsF.out]; exact hI6, fun v hv => (by
                    by_cases e : v = k
                    · subst e; exact H4.out.2.1
                    · exact hgood v (by omega)), by simp at hz6 ⊢; omega, (hb14.step (hb5.step hb6)).setCell (p := ⟨w2.heap.size, k, none⟩) (by simp; omega) _⟩
                case measure => simp [intOf]; omega
              · have hsF : Hid (stayF (compF a b) k = appT b [-1 - (k : Int)]) := by show _ = _; unfold stayF; rw [H4.out.2.2.2, if_neg hst0]
                have HY := Lib.hid (l2Stay_n _ _ _ (appT b [-1 - (k : Int)]) k w5 hlt hst0 (hXs.below hb5))
                have hX6 := Lib.hid hX
                clear hst0 hX hXs
                go_wp2_with fail
                refine HY.out.mono ?_; rintro e w6 ⟨rfl, hb6⟩
                have hO5 := hO4.bel (hb5.step hb6)
                have hO5r := hO5.1
                rw [hul] at hO5r
                have hcell5 := hO5r.cellAt k (by omega)
                rw [List.getElem?_eq_getElem (by omega)] at hcell5
                have hfr5 := hO5r.frozenAt k
                have hI5 := hI4.put k (by omega) (u := .slice ao (appT b [-1 - (k : Int)]).length co) (xs := appT b [-1 - (k : Int)]) (fun t2 e2 u2 zs h => (h.bel (hb5.step hb6))) (hX6.out.bel (hb5.step hb6))
                go_wp2_with fail
                have hst := tag_store hO5 k (.slice ao (appT b [-1 - (k : Int)]).length co)
                have hI6 := hI5.step (by omega) hst.2
                have hz6 := (hb4.step (hb5.step hb6)).size
                go_roundw
                case rel => exact ⟨k+1, tag1, us.set k (.slice ao (appT b [-1 - (k : Int)]).length co), by omega, by go_num, by simpa using hul, hst.1, by rw [← H4.out.2.2.1, hsF.out]; exact hI6, fun v hv => (by
                    by_cases e : v = k
                    · subst e; exact H4.out.2.1
                    · exact hgood v (by omega)), by simp at hz6 ⊢; omega, (hb14.step (hb5.step hb6)).setCell (p := ⟨w2.heap.size, k, none⟩) (by simp; omega) _⟩
                case measure => simp [intOf]; omega
        · obtain rfl : k = 12 := by omega
          have e0 := compose_good HS.out.1 HS.out.2 hgood
          have E := Lib.hid (composeAns_yes e0)
          have E2 := Lib.hid e0
          rw [partL_all (compF a b) (castL (List.range 12)) (fun v hv hn => absurd (mem_castL.2 ⟨v, by simpa using hv, rfl⟩) hn)] at hI
          clear e0 hgood
          go_wp2_with fail
          go_ret2
          exact ⟨_, _, _, by rw [E2.out]; rfl, by rw [E.out]; exact (OwnS.of_tag hO hI (by omega)).mono (by omega) (Nat.le_refl _), hb.of_alloc⟩
end Go.Proofs.Ytikllmdmifecpaa
end
