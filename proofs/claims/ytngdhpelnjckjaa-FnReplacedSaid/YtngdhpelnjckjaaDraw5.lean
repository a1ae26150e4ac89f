/- The draws: arguments of functions of chapter 1. -/
import Derived.Test.YtngdhpelnjckjaaDraw4
namespace Go.Proofs.Ytngdhpelnjckjaa
open Go.RowKit

/-- A cursor at its beginning. -/
theorem Cur.new {w : World} {v : Value} {n : Nat} {T : TypeId} (h : SlB w.heap.size w v n) : Cur w.heap.size n 0 (w.alloc (.cells #[v, .int .i64 0, .int .u64 0] T)) := by
  refine ⟨v, 0, by simp, h.chg (Chg.of_bel (lo := w.heap.size) (hi := w.heap.size) (Bel.alloc0 _ _)) (Nat.le_refl _), ?_, ?_, ?_, fun j => by simp [go_sem]; try rfl⟩
  · rw [World.cell?_alloc_new w]; rfl
  · rw [World.cell?_alloc_new w]; rfl
  · rw [World.cell?_alloc_new w]; rfl

def RetDR (w : World) (e : Ending) (w' : World) : Prop :=
  ∃ (sv tv uv : Value) (ar t u : List Int) (z : Int), e = .returned (.tuple #[.agg #[sv], tv, .int .i64 z, uv]) ∧ drawn ar ∧ SlI w.heap.size w'.heap.size w' sv ar ∧ SlI w.heap.size w'.heap.size w' tv t ∧ t.length ≤ 1000 ∧ -1 ≤ z ∧ z ≤ 1000 ∧ SlI w.heap.size w'.heap.size w' uv u ∧ u.length ≤ 1000 ∧ Bel w w'
set_option maxRecDepth 100000 in
set_option maxHeartbeats 1000000 in
theorem drawReplaceAt_c (n : Nat) (v : Value) (w : World) (hn : n ≤ 1048576) (hv : SlB w.heap.size w v n) :
    Calls Try.prog 17 #[v] w (RetDR w) := by
  obtain ⟨ad, cap, rfl, hcap, hr⟩ := hv
  have hv : SlB w.heap.size w (.slice ad n cap) n := ⟨ad, cap, rfl, hcap, hr⟩
  have hB1 := Bel.alloc0 w (.cells #[.slice none 0 0] 26)
  have hs1 : (w.alloc (.cells #[.slice none 0 0] 26)).heap.size = w.heap.size + 1 := by simp
  have hC := Cur.new (T := 87) (w := w.alloc (.cells #[.slice none 0 0] 26)) (v := .slice ad n cap) (n := n) (by
    obtain ⟨ad', cap', e, hc, hr'⟩ := hv.chg (Chg.of_bel (lo := w.heap.size) (hi := w.heap.size) hB1) (Nat.le_refl _)
    exact ⟨ad', cap', e, hc, fun hp => by obtain ⟨b, off, e1, e2, e3⟩ := hr' hp; exact ⟨b, off, e1, by omega, e3⟩⟩)
  rw [hs1] at hC
  have hB2 := hB1.step (Bel.alloc0 (w.alloc (.cells #[.slice none 0 0] 26)) (.cells #[.slice ad n cap, .int .i64 0, .int .u64 0] 87))
  have hbx : ((w.alloc (.cells #[.slice none 0 0] 26)).alloc (.cells #[.slice ad n cap, .int .i64 0, .int .u64 0] 87)).cell? ⟨w.heap.size, 0, none⟩ = some (.slice none 0 0) := (Bel.alloc0 _ _).at (by simp) (by rw [World.cell?_alloc_new w]; rfl)
  have hfx : ((w.alloc (.cells #[.slice none 0 0] 26)).alloc (.cells #[.slice ad n cap, .int .i64 0, .int .u64 0] 87)).frozen? ⟨w.heap.size, 0, none⟩ = false := by simp [go_sem]; try rfl
  have HS := Lib.hid (sign_c (w.heap.size + 1) n 0 _ (by omega) (by omega) hC)
  go_enter Try.func17, Try.ntmps17
  go_wp2_with fail
  refine HS.out.mono ?_; rintro e w1 ⟨sv, ar, k1, rfl, hdr, hsv, hk1, hk2, hc1, hg1⟩
  obtain ⟨sa, sc, rfl⟩ := hsv.form
  have hW0 : ((w.alloc (.cells #[.slice none 0 0] 26)).alloc (.cells #[.slice ad n cap, .int .i64 0, .int .u64 0] 87)).heap.size = w.heap.size + 1 + 1 := by simp
  generalize ((w.alloc (.cells #[.slice none 0 0] 26)).alloc (.cells #[.slice ad n cap, .int .i64 0, .int .u64 0] 87)) = W0 at *
  have hsz1 : W0.heap.size ≤ w1.heap.size := hg1.size
  rw [hW0] at hsv
  have hbx1 := hg1.cell (by omega) (by omega) hbx
  have hfx1 : w1.frozen? ⟨w.heap.size, 0, none⟩ = false := (World.frozen?_of_block (w := W0) (w' := w1) (a := ⟨w.heap.size, 0, none⟩) (hg1.block w.heap.size (by omega) (by omega))).trans hfx
  have hB3 := Bel.alloc0 w1 (.cells #[.slice sa ar.length sc] 26)
  have hs2 : (w1.alloc (.cells #[.slice sa ar.length sc] 26)).heap.size = w1.heap.size + 1 := by simp
  have hbx7 : (w1.alloc (.cells #[.slice sa ar.length sc] 26)).cell? ⟨w1.heap.size, 0, none⟩ = some (.slice sa ar.length sc) := by rw [World.cell?_alloc_new w1]; rfl
  have hbx2 := hB3.at (by omega) hbx1
  have hfx2 := (World.frozen?_of_block (w := w1) (a := ⟨w.heap.size, 0, none⟩) (hB3.block w.heap.size (by omega))).trans hfx1
  have hc2 := hc1.below hB3
  have hsv2 := hsv.below hB3
  have hg2 := hg1.trans (Chg.of_bel (lo := w.heap.size + 1) (hi := w.heap.size + 1 + 1) hB3)
  generalize hw2 : w1.alloc (.cells #[.slice sa ar.length sc] 26) = w2 at *
  clear hc1 hg1 hbx1 hfx1 hB3 hsv hbx hfx HS hC hB1
  go_wp2_with fail
  refine (anyTerm_c (w.heap.size + 1) n k1 _ _ _ ar w2 (by omega) (by omega) hdr (by omega) hc2 hsv2).mono ?_; rintro e w3 ⟨ta, tc, t, k3, rfl, ht3, htl, hk3, hk4, hc3, hg3⟩
  go_wp2_with fail
  refine (place_c (w.heap.size + 1) n k3 _ t.length ta tc w3 rfl (by omega) (by omega) (by omega) hc3).mono ?_; rintro e w4 ⟨z, k5, rfl, hz1, hz2, hk5, hk6, hc4, hg4⟩
  have hs3 : w2.heap.size ≤ w3.heap.size := hg3.size
  have hs4 : w3.heap.size ≤ w4.heap.size := hg4.size
  have hg24 := hg3.trans hg4
  have hbx4 := hg24.cell (by omega) (by omega) hbx2
  have hb74 := hg24.cell (by omega) (by omega) hbx7
  have hsv4 := hsv2.chg hg24 (by omega)
  have ht4 := ht3.chg hg4 (by omega)
  have hfx4 := (World.frozen?_of_block (w := w2) (w' := w4) (a := ⟨w.heap.size, 0, none⟩) (hg24.block w.heap.size (by omega) (by omega))).trans hfx2
  have hg04 := hg2.trans hg24
  clear hc2 hsv2 hg2 hw2 hbx7 hbx2 hfx2 hc3 hg3 hg4 hg24 ht3
  go_wp2_with fail
  go_region_held3 (fun w' => w'.cell? ⟨w1.heap.size, 0, none⟩ = some (.slice sa ar.length sc))
    (first | exact hb74 | exact hb75 | exact hb7F | fail)
    (first
      | (go_at_call 88; refine (term_z (w.heap.size + 1) n 2 3 k5 _ _ 2 3 _ ar _ rfl rfl (by omega) (by omega) (by omega) hdr (by omega) (by omega) (by omega) (hc4.below (Bel.drew0 _)) (hsv4.below (Bel.drew0 _))).mono ?_; rintro e w5 ⟨a5, m5, c5, u, k6, rfl, hrow5, hu1, hu2, hseq5, hk7, hk8, hc5, hg5⟩; replace hg5 := (Chg.of_bel (lo := w.heap.size + 1) (hi := w.heap.size + 1 + 1) (Bel.drew0 _)).trans hg5; have hb75 := hg5.cell (by omega) (by omega) hb74; have hbx5 := hg5.cell (by omega) (by omega) hbx4; have hb7F := (World.cell?_setCell_other w5 ⟨w.heap.size, 0, none⟩ ⟨w1.heap.size, 0, none⟩ (.slice sa ar.length sc) (fun h => (show w.heap.size ≠ w1.heap.size by omega) (congrArg Addr.block h))).trans hb75; have hfx5 := (World.frozen?_of_block (w := w4) (w' := w5) (a := ⟨w.heap.size, 0, none⟩) (hg5.block w.heap.size (by omega) (by omega))).trans hfx4)
      | fail)
  have hs5 : w4.heap.size ≤ w5.heap.size := hg5.size
  have htl2 : tl 2 ≤ 400 := tl_le 2 (by omega)
  have hm5 := row_len hrow5
  subst hm5
  have hbF : (w5.setCell ⟨w.heap.size, 0, none⟩ (.slice sa ar.length sc)).cell? ⟨w.heap.size, 0, none⟩ = some (.slice sa ar.length sc) := World.cell?_setCell_same _ _ _ hbx5
  have hsF := ((hsv4.chg hg5 (by omega)).set (p := ⟨w.heap.size, 0, none⟩) (.inl (by simp; omega)) (.slice sa ar.length sc)).mono (show w.heap.size ≤ w.heap.size + 1 + 1 by omega) (show w1.heap.size ≤ w5.heap.size by omega)
  have htF := ((ht4.chg hg5 (by omega)).set (p := ⟨w.heap.size, 0, none⟩) (.inl (by simp; omega)) (.slice sa ar.length sc)).mono (show w.heap.size ≤ w2.heap.size by omega) (show w3.heap.size ≤ w5.heap.size by omega)
  have huF := ((OwnI.of_row hrow5).sl.set (p := ⟨w.heap.size, 0, none⟩) (.inl (by simp; omega)) (.slice sa ar.length sc)).mono (show w.heap.size ≤ w4.heap.size by omega) (Nat.le_refl _)
  have hgF := ((hg04.trans hg5).bel hB2 (by omega)).setCell (p := ⟨w.heap.size, 0, none⟩) (Nat.le_refl _) (.slice sa ar.length sc)
  clear hrow5 hc5 hbx5 hfx5 hb75 hb7F hg5 hg04 hsv4 ht4 hb74 hbx4 hfx4 hc4
  go_wp2_with fail
  exact bodyPost_ret (v := .tuple #[.agg #[.slice sa ar.length sc], .slice ta t.length tc, .int .i64 z, .slice a5 u.length c5]) (by simp [results, Try.results17, go_sem, hbF]) rfl ⟨_, _, _, ar, t, u, z, rfl, hdr, by simpa using hsF, by simpa using htF, htl, hz1, by omega, by simpa using huF, by omega, hgF⟩
def RetDC (w : World) (e : Ending) (w' : World) : Prop :=
  ∃ (sv tv : Value) (ar t : List Int) (z : Int), e = .returned (.tuple #[.agg #[sv], tv, .int .i64 z]) ∧ drawn ar ∧ SlI w.heap.size w'.heap.size w' sv ar ∧ SlI w.heap.size w'.heap.size w' tv t ∧ t.length ≤ 1000 ∧ -1000 ≤ z ∧ z ≤ 1000 ∧ Bel w w'
set_option maxRecDepth 100000 in
set_option maxHeartbeats 1000000 in
theorem drawCountOf_c (n : Nat) (v : Value) (w : World) (hn : n ≤ 1048576) (hv : SlB w.heap.size w v n) :
    Calls Try.prog 32 #[v] w (RetDC w) := by
  obtain ⟨ad, cap, rfl, hcap, hr⟩ := hv
  have hv : SlB w.heap.size w (.slice ad n cap) n := ⟨ad, cap, rfl, hcap, hr⟩
  have hB1 := Bel.alloc0 w (.cells #[.slice none 0 0] 26)
  have hs1 : (w.alloc (.cells #[.slice none 0 0] 26)).heap.size = w.heap.size + 1 := by simp
  have hC := Cur.new (T := 87) (w := w.alloc (.cells #[.slice none 0 0] 26)) (v := .slice ad n cap) (n := n) (by
    obtain ⟨ad', cap', e, hc, hr'⟩ := hv.chg (Chg.of_bel (lo := w.heap.size) (hi := w.heap.size) hB1) (Nat.le_refl _)
    exact ⟨ad', cap', e, hc, fun hp => by obtain ⟨b, off, e1, e2, e3⟩ := hr' hp; exact ⟨b, off, e1, by omega, e3⟩⟩)
  rw [hs1] at hC
  have hB2 := hB1.step (Bel.alloc0 (w.alloc (.cells #[.slice none 0 0] 26)) (.cells #[.slice ad n cap, .int .i64 0, .int .u64 0] 87))
  have hbx : ((w.alloc (.cells #[.slice none 0 0] 26)).alloc (.cells #[.slice ad n cap, .int .i64 0, .int .u64 0] 87)).cell? ⟨w.heap.size, 0, none⟩ = some (.slice none 0 0) := (Bel.alloc0 _ _).at (by simp) (by rw [World.cell?_alloc_new w]; rfl)
  have hfx : ((w.alloc (.cells #[.slice none 0 0] 26)).alloc (.cells #[.slice ad n cap, .int .i64 0, .int .u64 0] 87)).frozen? ⟨w.heap.size, 0, none⟩ = false := by simp [go_sem]; try rfl
  have HS := Lib.hid (sign_c (w.heap.size + 1) n 0 _ (by omega) (by omega) hC)
  go_enter Try.func32, Try.ntmps32
  go_wp2_with fail
  refine HS.out.mono ?_; rintro e w1 ⟨sv, ar, k1, rfl, hdr, hsv, hk1, hk2, hc1, hg1⟩
  obtain ⟨sa, sc, rfl⟩ := hsv.form
  have hW0 : ((w.alloc (.cells #[.slice none 0 0] 26)).alloc (.cells #[.slice ad n cap, .int .i64 0, .int .u64 0] 87)).heap.size = w.heap.size + 1 + 1 := by simp
  generalize ((w.alloc (.cells #[.slice none 0 0] 26)).alloc (.cells #[.slice ad n cap, .int .i64 0, .int .u64 0] 87)) = W0 at *
  have hsz1 : W0.heap.size ≤ w1.heap.size := hg1.size
  rw [hW0] at hsv
  have hbx1 := hg1.cell (by omega) (by omega) hbx
  have hfx1 : w1.frozen? ⟨w.heap.size, 0, none⟩ = false := (World.frozen?_of_block (w := W0) (w' := w1) (a := ⟨w.heap.size, 0, none⟩) (hg1.block w.heap.size (by omega) (by omega))).trans hfx
  have hB3 := Bel.alloc0 w1 (.cells #[.slice sa ar.length sc] 26)
  have hs2 : (w1.alloc (.cells #[.slice sa ar.length sc] 26)).heap.size = w1.heap.size + 1 := by simp
  have hbx7 : (w1.alloc (.cells #[.slice sa ar.length sc] 26)).cell? ⟨w1.heap.size, 0, none⟩ = some (.slice sa ar.length sc) := by rw [World.cell?_alloc_new w1]; rfl
  have hbx2 := hB3.at (by omega) hbx1
  have hfx2 := (World.frozen?_of_block (w := w1) (a := ⟨w.heap.size, 0, none⟩) (hB3.block w.heap.size (by omega))).trans hfx1
  have hc2 := hc1.below hB3
  have hsv2 := hsv.below hB3
  have hg2 := hg1.trans (Chg.of_bel (lo := w.heap.size + 1) (hi := w.heap.size + 1 + 1) hB3)
  generalize hw2 : w1.alloc (.cells #[.slice sa ar.length sc] 26) = w2 at *
  clear hc1 hg1 hbx1 hfx1 hB3 hsv hbx hfx HS hC hB1
  have HA := Lib.hid (anyTerm_c (w.heap.size + 1) n k1 _ _ _ ar _ (by omega) (by omega) hdr (by omega) (hc2.below (Bel.drew0 w2)) (hsv2.below (Bel.drew0 w2)))
  go_wp2_with fail
  go_region_held3 (fun w' => w'.cell? ⟨w1.heap.size, 0, none⟩ = some (.slice sa ar.length sc))
    (first | exact hbx7 | exact hb73 | exact hb74 | exact hb7F | fail)
    (first
      | (go_at_call 86; refine HA.out.mono ?_; rintro e w3 ⟨ta, tc, t, k3, rfl, ht3, htl, hk3, hk4, hc3, hg3⟩; replace hg3 := (Chg.of_bel (lo := w.heap.size + 1) (hi := w.heap.size + 1 + 1) (Bel.drew0 w2)).trans hg3; have hb73 := hg3.cell (by omega) (by omega) hbx7)
      | (go_at_call 102; refine (pick_c (w.heap.size + 1) n k3 9 9 w3 rfl (by omega) (by omega) (by omega) hc3).mono ?_; rintro e w4 ⟨z, k5, rfl, hz, hk5, hk6, hc4, hg4⟩; have hb74 := hg4.cell (by have := hg3.size; omega) (by omega) hb73; have hg24 := hg3.trans hg4; have hbx4 := hg24.cell (by omega) (by omega) hbx2; have hfx4 := (World.frozen?_of_block (w := w2) (w' := w4) (a := ⟨w.heap.size, 0, none⟩) (hg24.block w.heap.size (by omega) (by omega))).trans hfx2; have hb7F := (World.cell?_setCell_other w4 ⟨w.heap.size, 0, none⟩ ⟨w1.heap.size, 0, none⟩ (.slice sa ar.length sc) (fun h => (show w.heap.size ≠ w1.heap.size by omega) (congrArg Addr.block h))).trans hb74; have hw18 := IntWalk.i64_in ((z : Int) - 3) (by omega))
      | fail)
  clear hw18
  have hs3 : w2.heap.size ≤ w3.heap.size := hg3.size
  have hs4 : w3.heap.size ≤ w4.heap.size := hg4.size
  have hsv4 := hsv2.chg hg24 (by omega)
  have ht4 := ht3.chg hg4 (by simp; omega)
  have hg04 := hg2.trans hg24
  have hbF : (w4.setCell ⟨w.heap.size, 0, none⟩ (.slice sa ar.length sc)).cell? ⟨w.heap.size, 0, none⟩ = some (.slice sa ar.length sc) := World.cell?_setCell_same _ _ _ hbx4
  have hsF := (hsv4.set (p := ⟨w.heap.size, 0, none⟩) (.inl (by simp; omega)) (.slice sa ar.length sc)).mono (show w.heap.size ≤ w.heap.size + 1 + 1 by omega) (show w1.heap.size ≤ w4.heap.size by omega)
  have htF := (ht4.set (p := ⟨w.heap.size, 0, none⟩) (.inl (by simp; omega)) (.slice sa ar.length sc)).mono (show w.heap.size ≤ w2.heap.size by omega) (show w3.heap.size ≤ w4.heap.size by omega)
  have hgF := (hg04.bel hB2 (by omega)).setCell (p := ⟨w.heap.size, 0, none⟩) (Nat.le_refl _) (.slice sa ar.length sc)
  clear hbx4 hfx4 hb73 hb74 hb7F hg04 hsv4 ht4 hc4 hc3 hc2 hbx2 hbx7 hfx2 hg3 hg4 hg24 hg2 hsv2 ht3 hw2
  go_wp2_with fail
  exact bodyPost_ret (v := .tuple #[.agg #[.slice sa ar.length sc], .slice ta t.length tc, .int .i64 ((z : Int) - 3)]) (by simp [results, Try.results32, go_sem, hbF]) rfl ⟨_, _, ar, t, (z : Int) - 3, rfl, hdr, by simpa using hsF, by simpa using htF, htl, by omega, by omega, hgF⟩
end Go.Proofs.Ytngdhpelnjckjaa
