/- Texts merged, part 11. -/
import Derived.Deep.RegionHeld3
import Derived.Test.YtajmjjandkdhiabMgReplaced10
section
/- The draws: any term. -/
namespace Go.Proofs.Ytajmjjandkdhiab
open Go.RowKit

set_option maxRecDepth 100000 in
set_option maxHeartbeats 400000 in
theorem among_c (b n k lo hi : Nat) (v : Value) (l : List Int) (w : World) (hn : n ≤ 1099511627776) (hk : k ≤ 1099511627775) (hl0 : 0 < l.length) (hl : l.length ≤ 200) (hblo : b < lo) (hc : Cur b n k w) (hv : SlI lo hi w v l) :
    Calls Try.prog 61 #[.pointer (some ⟨b, 0, none⟩), v] w (fun e w' => ∃ (z : Int) (k' : Nat), e = .returned (.int .i64 z) ∧ z ∈ l ∧ k ≤ k' ∧ k' ≤ k + 2 ∧ Cur b n k' w' ∧ Chg b (b+1) w w') := by
  obtain ⟨ad, cap, rfl⟩ := hv.form
  go_enter Try.func61, Try.ntmps61
  go_wp2_with (go_at_call 57; refine (pick_c b n k _ l.length w rfl hn hk (by omega) hc).mono ?_; rintro e w1 ⟨x, k1, rfl, hx, hk1, hk2, hc1, hg1⟩; obtain ⟨bb, off, e1, -, hcell⟩ := (hv.chg hg1 (by omega)).at x (by omega); cases e1; have hxl : (x : Int) < l.length := by omega)
  go_ret
  exact ⟨l.getD x 0, k1, rfl, by rw [show l.getD x 0 = l[x]'(by omega) from by simp [List.getD, show x < l.length by omega]]; exact List.getElem_mem _, hk1, hk2, hc1, hg1⟩
theorem term_z (b n : Nat) (deep vars k lo hi : Nat) (z y : Int) (v : Value) (ar : List Int) (w : World) (hz : z = deep) (hy : y = vars) (hn : n ≤ 1099511627776) (h1 : 1 ≤ deep) (h5 : deep ≤ 5) (hdr : drawn ar) (hblo : b < lo) (hvars : vars ≤ 12) (hk : k ≤ 500000000000) (hc : Cur b n k w) (hv : SlI lo hi w v ar) :
    Calls Try.prog 43 #[.pointer (some ⟨b, 0, none⟩), .agg #[v], .int .i64 z, .int .i64 y] w (RetTm ar b n k 4000 (tl deep) w) := by
  subst hz hy
  have hd := dk_le deep h5
  refine (term_c b n hn deep h1 h5 k vars lo hi v ar w hdr hblo hvars (by omega) hc hv).mono ?_
  rintro e w' ⟨ad, m, c, t, k', h⟩
  exact ⟨ad, m, c, t, k', h.1, h.2.1, h.2.2.1, h.2.2.2.1, h.2.2.2.2.1, h.2.2.2.2.2.1, by have := h.2.2.2.2.2.2.1; omega, h.2.2.2.2.2.2.2⟩
theorem row_off {w : World} {base e m n c g o : Nat} {xs : List Value} (h : w.ownsRow base e 1 (.slice (some ⟨g, o, none⟩) n c) m xs) : o = 0 := by
  rcases h.2 with ⟨e1, _⟩ | ⟨g', cap, cur, e1, _⟩
  · simp at e1
  · simp at e1; exact e1.1.2
/-- What anyTerm gives: of blocks that are new. -/
def RetA (b n k d : Nat) (w : World) (e : Ending) (w' : World) : Prop :=
  ∃ (ad : Option Addr) (c : Nat) (t : List Int) (k' : Nat), e = .returned (.slice ad t.length c) ∧ SlI w.heap.size w'.heap.size w' (.slice ad t.length c) t ∧ t.length ≤ 1000 ∧ k ≤ k' ∧ k' ≤ k + d ∧ Cur b n k' w' ∧ Chg b (b+1) w w'

set_option maxRecDepth 100000 in
set_option maxHeartbeats 1000000 in
theorem anyTerm_c (b n k lo hi : Nat) (v : Value) (ar : List Int) (w : World) (hn : n ≤ 1099511627776) (hk : k ≤ 1000000000) (hdr : drawn ar) (hblo : b < lo) (hc : Cur b n k w) (hv : SlI lo hi w v ar) :
    Calls Try.prog 41 #[.pointer (some ⟨b, 0, none⟩), .agg #[v]] w (RetA b n k 5000 w) := by
  have hbl := hc.lt
  have hc1 := hc.below (Bel.alloc0 w (.cells #[v] 28))
  have hv1 := hv.alloc (.cells #[v] 28)
  have hbox : (w.alloc (.cells #[v] 28)).cell? ⟨w.heap.size, 0, none⟩ = some v := by rw [World.cell?_alloc_new w]; rfl
  have HP := Lib.hid (fun w' (h : Bel (w.alloc (.cells #[v] 28)) w') => pick_c b n k 4 4 w' rfl hn (by omega) (by omega) (hc1.below h))
  have hbl1 : w.heap.size < (w.alloc (.cells #[v] 28)).heap.size := by simp
  go_enter Try.func41, Try.ntmps41
  go_wp2_with fail
  go_region_held3 (fun w' => w'.cell? ⟨w.heap.size, 0, none⟩ = some v)
    (first | exact hbox | exact hbx2 | exact hbx3 | fail)
    (first
      | (go_at_call 57; refine (HP.out _ (Bel.drew0 _)).mono ?_; rintro e w2 ⟨x, k1, rfl, hx, hk1, hk2, hc2, hg2⟩; replace hg2 := (Chg.of_bel (lo := b) (hi := b+1) (Bel.drew0 _)).trans hg2; have hbx2 : w2.cell? ⟨w.heap.size, 0, none⟩ = some v := hg2.cell (by simp) (by omega) hbox; have hw10 := IntWalk.i64_in (1 + (x : Int)) (by omega))
      | (go_at_call 43; clear hw10; refine (term_z b n (1 + x) 3 k1 lo hi _ 3 v ar w2 (by omega) rfl hn (by omega) (by omega) hdr hblo (by omega) (by omega) hc2 (hv1.chg hg2 (by omega))).mono ?_; rintro e w3 ⟨a3, m3, c3, t3, k3, rfl, hrow3, ht1, ht2, -, hk3, hk4, hc3, hg3⟩; have hbx3 : w3.cell? ⟨w.heap.size, 0, none⟩ = some v := hg3.cell (Nat.lt_of_lt_of_le hbl1 hg2.size) (by omega) hbx2)
      | fail)
  have hsz3 : w.heap.size + 1 ≤ w3.heap.size := by have := hbl1; have := hg2.size; have := hg3.size; exact Nat.le_trans hbl1 (Nat.le_trans hg2.size hg3.size)
  have hgA : Chg b (b+1) w w3 := ((Chg.of_bel (lo := b) (hi := b+1) (Bel.alloc0 w (.cells #[v] 28))).trans hg2).trans hg3
  have hgB := hg2
  have hsz23 : w2.heap.size ≤ w3.heap.size := hg3.size
  clear hbx2 hbx3 hg2 hg3 hc2 HP
  have hm3 := row_len hrow3
  subst hm3
  obtain ⟨i0, hi0, hz0', hz1, hz2⟩ := info_parts Try.info3
  have hsz2 : w.heap.size + 1 ≤ w2.heap.size := Nat.le_trans hbl1 hgB.size
  clear hgB
  have htl := tl_le (1 + x) (by omega)
  have HH := Lib.hid (pick_c b n k3 40 40 w3 rfl hn (by omega) (by omega) hc3)
  go_wp2_with fail
  refine HH.out.mono ?_; rintro e w4 ⟨y, k4, rfl, hy, hk5, hk6, hc4, hg4⟩
  have hrow4 := row_chg hrow3 (by omega) hg4
  have hsz4 : w3.heap.size ≤ w4.heap.size := hg4.size
  have hgW := hgA.trans hg4
  obtain ⟨tb, toff, tc, e3, hcap3⟩ := (OwnI.of_row hrow4).sl.plain (by omega)
  cases e3
  clear hc3 hg4 hrow3 HH
  generalize hzy : (y : Int) = z
  have hz0 : 0 ≤ z := by omega
  clear hzy hy
  have hcase : z = 0 ∨ z = 1 ∨ z = 2 ∨ 2 < z := by omega
  rcases hcase with rfl | rfl | rfl | hz3
  · go_wp2_with (at_builtin; refine wpList_append_own _ rfl _ _ 22 rfl w2.heap.size 3 i0 (.int .i64 0) 1 8 Try.underlying22 hi0 hz0' hz1 hz2 rfl (by decide) _ _ _ rfl (hrow4.alloc _) ⟨w4.heap.size, 0, none⟩ 1 1 [.int .i64 1] rfl rfl (news_one _ _ _) (one_int _) (by unfold maxLen; first | omega | (simp; omega)) (by first | omega | (simp; omega)) (by first | omega | (simp; omega)) ?_; intro v' w5 hown' hgrow _)
    have hown5 : w5.ownsRow w2.heap.size 3 1 v' (t3 ++ [1]).length ((t3 ++ [1]).map (Value.int .i64)) := by simpa using hown'
    obtain ⟨ao, no, co, rfl⟩ := own_form hown5
    have hno := row_len hown5
    subst hno
    have hg5 : Chg w2.heap.size (w5.heap.size + 1) (w4.alloc (.cells #[.int .i64 1] 3)) w5 := ⟨hgrow.os, hgrow.tape, hgrow.output, hgrow.size, fun i hi ho => hgrow.block i hi (fun e => by have := own_base hrow4 i e.symm; have := hgrow.size; simp at hi this; omega)⟩
    have hg6 := (Chg.of_bel (lo := w2.heap.size) (hi := w5.heap.size + 1) (Bel.alloc0 w4 (.cells #[.int .i64 1] 3))).trans hg5
    go_ret
    exact ⟨ao, co, t3 ++ [1], k4, rfl, (OwnI.of_row hown5).sl.mono (by omega) (Nat.le_refl _), by simp; omega, by omega, by omega, hc4.chg hg6 (by omega), hgW.news hg6 (by omega)⟩
  · have hB2 := Bel.alloc0 w4 (.cells #[.int .i64 (-13), .int .i64 (-12), .int .i64 10, .int .i64 9] 3)
    have hS2 : SlI w4.heap.size (w4.heap.size + 1) (w4.alloc (.cells #[.int .i64 (-13), .int .i64 (-12), .int .i64 10, .int .i64 9] 3)) (.slice (some ⟨w4.heap.size, 0, none⟩) 4 4) [-13, -12, 10, 9] := SlI.arr (xs := [-13, -12, 10, 9]) rfl rfl (by decide) (Nat.le_refl _) (Nat.lt_succ_self _)
    have hc5 := hc4.below hB2
    have hrow5 := ownsRow_bel hrow4 hB2
    have hbl4 := hc4.lt
    have HA := Lib.hid (among_c b n k4 _ _ _ [-13, -12, 10, 9] _ hn (by omega) (by decide) (by decide) (by omega) hc5 hS2)
    go_wp2_with fail
    refine HA.out.mono ?_; rintro e w5 ⟨zq, k5, rfl, -, hk7, hk8, hc6, hg6⟩
    have hrow6 := row_chg hrow5 (by omega) hg6
    have ht0 := row_off hrow6
    subst ht0
    obtain ⟨tb2, to2, e4, -, hcell6⟩ := (OwnI.of_row hrow6).sl.at 0 (by omega)
    cases e4
    have hf6 := hrow6.frozenAt 0
    have htb : w2.heap.size ≤ tb := own_base hrow6 tb rfl
    have hst := (hrow6.stored 0 (.int .i64 zq)).1
    rw [show (t3.map (Value.int .i64)).set 0 (.int .i64 zq) = (t3.set 0 zq).map (Value.int .i64) from by rw [List.map_set], show t3.length = (t3.set 0 zq).length from by rw [List.length_set]] at hst
    have hlen : (t3.set 0 zq).length = t3.length := List.length_set
    have hgn := hgW.news ((Chg.of_bel (lo := w4.heap.size) (hi := w4.heap.size) hB2)) (by omega)
    have hgs := Chg.set (lo := w2.heap.size) (hi := w5.heap.size + tb + 1) (p := ⟨tb, 0, none⟩) w5 htb (by simp; omega) (.int .i64 zq)
    have hcF := hc6.chg hgs (by omega)
    have hgF := (hgn.trans hg6).news hgs (by omega)
    clear hrow4 hrow5 hB2 hS2 hc4 hc5 HA hgn
    go_wp2_with fail
    go_ret
    exact ⟨_, c3, t3.set 0 zq, k5, by rw [hlen]; rfl, by rw [hlen]; rw [hlen] at hst; exact ((OwnI.of_row (by rw [hlen]; exact hst)).sl).mono (by omega) (Nat.le_refl _), by rw [hlen]; omega, by omega, by omega, hcF, hgF⟩
  · have hsl := (OwnI.of_row hrow4).sl
    by_cases hc1 : c3 = 1
    · subst hc1
      go_wp2_with fail
      go_ret
      have h0 : t3.length - 1 = 0 := by omega
      exact ⟨some ⟨tb, toff, none⟩, 0, [], k4, by first | rfl | (rw [h0]; rfl), ⟨_, 0, rfl, Nat.le_refl _, ⟨Nat.zero_le _, fun h => by simp at h⟩, fun h => absurd h (by simp)⟩, by simp, by omega, by omega, hc4, hgW⟩
    · have hcut := hsl.cut 1 t3.length (by omega) (Nat.le_refl _)
      have hle : ((t3.drop 1).take (t3.length - 1)).length = t3.length - 1 := by simp
      have hc2 : (1 : Int) < c3 := by omega
      go_wp2_with fail
      go_ret
      exact ⟨some ⟨tb, toff + 1, none⟩, c3 - 1, (t3.drop 1).take (t3.length - 1), k4, by rw [hle]; rfl, by rw [hle]; exact hcut.mono (by omega) (Nat.le_refl _), by rw [hle]; omega, by omega, by omega, hc4, hgW⟩
  · have e0 : (z == 0) = false := by rw [beq_eq_false_iff_ne]; omega
    have e1 : (z == 1) = false := by rw [beq_eq_false_iff_ne]; omega
    have e2 : (z == 2) = false := by rw [beq_eq_false_iff_ne]; omega
    go_wp2_with fail
    go_ret
    exact ⟨_, c3, t3, k4, rfl, (OwnI.of_row hrow4).sl.mono (by omega) (Nat.le_refl _), by omega, by omega, by omega, hc4, hgW⟩
end Go.Proofs.Ytajmjjandkdhiab
end
section
/- The draws: arguments of functions of chapter 1. -/
namespace Go.Proofs.Ytajmjjandkdhiab
open Go.RowKit

/-- A cursor at its beginning. -/
theorem Cur.new {w : World} {v : Value} {n : Nat} {T : TypeId} (h : SlB w.heap.size w v n) : Cur w.heap.size n 0 (w.alloc (.cells #[v, .int .i64 0, .int .u64 0] T)) := by
  refine ⟨v, 0, by simp, h.chg (Chg.of_bel (lo := w.heap.size) (hi := w.heap.size) (Bel.alloc0 _ _)) (Nat.le_refl _), ?_, ?_, ?_, fun j => by simp [go_sem]; try rfl⟩
  · rw [World.cell?_alloc_new w]; rfl
  · rw [World.cell?_alloc_new w]; rfl
  · rw [World.cell?_alloc_new w]; rfl

def RetDR (w : World) (e : Ending) (w' : World) : Prop :=
  ∃ (sv tv uv : Value) (ar t u : List Int) (z : Int), e = .returned (.tuple #[.agg #[sv], tv, .int .i64 z, uv]) ∧ drawn ar ∧ SlI w.heap.size w'.heap.size w' sv ar ∧ SlI w.heap.size w'.heap.size w' tv t ∧ t.length ≤ 1000 ∧ -1 ≤ z ∧ z ≤ 1000 ∧ SlI w.heap.size w'.heap.size w' uv u ∧ u.length ≤ 1000 ∧ Bel w w'
set_option maxRecDepth 100000 in
set_option maxHeartbeats 1000000 in
theorem drawReplaceAt_c (n : Nat) (v : Value) (w : World) (hn : n ≤ 1048576) (hv : SlB w.heap.size w v n) :
    Calls Try.prog 16 #[v] w (RetDR w) := by
  obtain ⟨ad, cap, rfl, hcap, hr⟩ := hv
  have hv : SlB w.heap.size w (.slice ad n cap) n := ⟨ad, cap, rfl, hcap, hr⟩
  have hB1 := Bel.alloc0 w (.cells #[.slice none 0 0] 28)
  have hs1 : (w.alloc (.cells #[.slice none 0 0] 28)).heap.size = w.heap.size + 1 := by simp
  have hC := Cur.new (T := 56) (w := w.alloc (.cells #[.slice none 0 0] 28)) (v := .slice ad n cap) (n := n) (by
    obtain ⟨ad', cap', e, hc, hr'⟩ := hv.chg (Chg.of_bel (lo := w.heap.size) (hi := w.heap.size) hB1) (Nat.le_refl _)
    exact ⟨ad', cap', e, hc, fun hp => by obtain ⟨b, off, e1, e2, e3⟩ := hr' hp; exact ⟨b, off, e1, by omega, e3⟩⟩)
  rw [hs1] at hC
  have hB2 := hB1.step (Bel.alloc0 (w.alloc (.cells #[.slice none 0 0] 28)) (.cells #[.slice ad n cap, .int .i64 0, .int .u64 0] 56))
  have hbx : ((w.alloc (.cells #[.slice none 0 0] 28)).alloc (.cells #[.slice ad n cap, .int .i64 0, .int .u64 0] 56)).cell? ⟨w.heap.size, 0, none⟩ = some (.slice none 0 0) := (Bel.alloc0 _ _).at (by simp) (by rw [World.cell?_alloc_new w]; rfl)
  have hfx : ((w.alloc (.cells #[.slice none 0 0] 28)).alloc (.cells #[.slice ad n cap, .int .i64 0, .int .u64 0] 56)).frozen? ⟨w.heap.size, 0, none⟩ = false := by simp [go_sem]; try rfl
  have HS := Lib.hid (sign_c (w.heap.size + 1) n 0 _ (by omega) (by omega) hC)
  go_enter Try.func16, Try.ntmps16
  go_wp2_with fail
  refine HS.out.mono ?_; rintro e w1 ⟨sv, ar, k1, rfl, hdr, hsv, hk1, hk2, hc1, hg1⟩
  obtain ⟨sa, sc, rfl⟩ := hsv.form
  have hW0 : ((w.alloc (.cells #[.slice none 0 0] 28)).alloc (.cells #[.slice ad n cap, .int .i64 0, .int .u64 0] 56)).heap.size = w.heap.size + 1 + 1 := by simp
  generalize ((w.alloc (.cells #[.slice none 0 0] 28)).alloc (.cells #[.slice ad n cap, .int .i64 0, .int .u64 0] 56)) = W0 at *
  have hsz1 : W0.heap.size ≤ w1.heap.size := hg1.size
  rw [hW0] at hsv
  have hbx1 := hg1.cell (by omega) (by omega) hbx
  have hfx1 : w1.frozen? ⟨w.heap.size, 0, none⟩ = false := (World.frozen?_of_block (w := W0) (w' := w1) (a := ⟨w.heap.size, 0, none⟩) (hg1.block w.heap.size (by omega) (by omega))).trans hfx
  have hB3 := Bel.alloc0 w1 (.cells #[.slice sa ar.length sc] 28)
  have hs2 : (w1.alloc (.cells #[.slice sa ar.length sc] 28)).heap.size = w1.heap.size + 1 := by simp
  have hbx7 : (w1.alloc (.cells #[.slice sa ar.length sc] 28)).cell? ⟨w1.heap.size, 0, none⟩ = some (.slice sa ar.length sc) := by rw [World.cell?_alloc_new w1]; rfl
  have hbx2 := hB3.at (by omega) hbx1
  have hfx2 := (World.frozen?_of_block (w := w1) (a := ⟨w.heap.size, 0, none⟩) (hB3.block w.heap.size (by omega))).trans hfx1
  have hc2 := hc1.below hB3
  have hsv2 := hsv.below hB3
  have hg2 := hg1.trans (Chg.of_bel (lo := w.heap.size + 1) (hi := w.heap.size + 1 + 1) hB3)
  generalize hw2 : w1.alloc (.cells #[.slice sa ar.length sc] 28) = w2 at *
  clear hc1 hg1 hbx1 hfx1 hB3 hsv hbx hfx HS hC hB1
  go_wp2_with fail
  refine (anyTerm_c (w.heap.size + 1) n k1 _ _ _ ar w2 (by omega) (by omega) hdr (by omega) hc2 hsv2).mono ?_; rintro e w3 ⟨ta, tc, t, k3, rfl, ht3, htl, hk3, hk4, hc3, hg3⟩
  go_wp2_with fail
  refine (place_c (w.heap.size + 1) n k3 _ t.length ta tc w3 rfl (by omega) (by omega) (by omega) hc3).mono ?_; rintro e w4 ⟨z, k5, rfl, hz1, hz2, hk5, hk6, hc4, hg4⟩
  have hs3 : w2.heap.size ≤ w3.heap.size := hg3.size
  have hs4 : w3.heap.size ≤ w4.heap.size := hg4.size
  have hg24 := hg3.trans hg4
  have hbx4 := hg24.cell (by omega) (by omega) hbx2
  have hb74 := hg24.cell (by omega) (by omega) hbx7
  have hsv4 := hsv2.chg hg24 (by omega)
  have ht4 := ht3.chg hg4 (by omega)
  have hfx4 := (World.frozen?_of_block (w := w2) (w' := w4) (a := ⟨w.heap.size, 0, none⟩) (hg24.block w.heap.size (by omega) (by omega))).trans hfx2
  have hg04 := hg2.trans hg24
  clear hc2 hsv2 hg2 hw2 hbx7 hbx2 hfx2 hc3 hg3 hg4 hg24 ht3
  go_wp2_with fail
  go_region_held3 (fun w' => w'.cell? ⟨w1.heap.size, 0, none⟩ = some (.slice sa ar.length sc))
    (first | exact hb74 | exact hb75 | exact hb7F | fail)
    (first
      | (go_at_call 43; refine (term_z (w.heap.size + 1) n 2 3 k5 _ _ 2 3 _ ar _ rfl rfl (by omega) (by omega) (by omega) hdr (by omega) (by omega) (by omega) (hc4.below (Bel.drew0 _)) (hsv4.below (Bel.drew0 _))).mono ?_; rintro e w5 ⟨a5, m5, c5, u, k6, rfl, hrow5, hu1, hu2, hseq5, hk7, hk8, hc5, hg5⟩; replace hg5 := (Chg.of_bel (lo := w.heap.size + 1) (hi := w.heap.size + 1 + 1) (Bel.drew0 _)).trans hg5; have hb75 := hg5.cell (by omega) (by omega) hb74; have hbx5 := hg5.cell (by omega) (by omega) hbx4; have hb7F := (World.cell?_setCell_other w5 ⟨w.heap.size, 0, none⟩ ⟨w1.heap.size, 0, none⟩ (.slice sa ar.length sc) (fun h => (show w.heap.size ≠ w1.heap.size by omega) (congrArg Addr.block h))).trans hb75; have hfx5 := (World.frozen?_of_block (w := w4) (w' := w5) (a := ⟨w.heap.size, 0, none⟩) (hg5.block w.heap.size (by omega) (by omega))).trans hfx4)
      | fail)
  have hs5 : w4.heap.size ≤ w5.heap.size := hg5.size
  have htl2 : tl 2 ≤ 400 := tl_le 2 (by omega)
  have hm5 := row_len hrow5
  subst hm5
  have hbF : (w5.setCell ⟨w.heap.size, 0, none⟩ (.slice sa ar.length sc)).cell? ⟨w.heap.size, 0, none⟩ = some (.slice sa ar.length sc) := World.cell?_setCell_same _ _ _ hbx5
  have hsF := ((hsv4.chg hg5 (by omega)).set (p := ⟨w.heap.size, 0, none⟩) (.inl (by simp; omega)) (.slice sa ar.length sc)).mono (show w.heap.size ≤ w.heap.size + 1 + 1 by omega) (show w1.heap.size ≤ w5.heap.size by omega)
  have htF := ((ht4.chg hg5 (by omega)).set (p := ⟨w.heap.size, 0, none⟩) (.inl (by simp; omega)) (.slice sa ar.length sc)).mono (show w.heap.size ≤ w2.heap.size by omega) (show w3.heap.size ≤ w5.heap.size by omega)
  have huF := ((OwnI.of_row hrow5).sl.set (p := ⟨w.heap.size, 0, none⟩) (.inl (by simp; omega)) (.slice sa ar.length sc)).mono (show w.heap.size ≤ w4.heap.size by omega) (Nat.le_refl _)
  have hgF := ((hg04.trans hg5).bel hB2 (by omega)).setCell (p := ⟨w.heap.size, 0, none⟩) (Nat.le_refl _) (.slice sa ar.length sc)
  clear hrow5 hc5 hbx5 hfx5 hb75 hb7F hg5 hg04 hsv4 ht4 hb74 hbx4 hfx4 hc4
  go_wp2_with fail
  exact bodyPost_ret (v := .tuple #[.agg #[.slice sa ar.length sc], .slice ta t.length tc, .int .i64 z, .slice a5 u.length c5]) (by simp [results, Try.results16, go_sem, hbF]) rfl ⟨_, _, _, ar, t, u, z, rfl, hdr, by simpa using hsF, by simpa using htF, htl, hz1, by omega, by simpa using huF, by omega, hgF⟩
def RetDC (w : World) (e : Ending) (w' : World) : Prop :=
  ∃ (sv tv : Value) (ar t : List Int) (z : Int), e = .returned (.tuple #[.agg #[sv], tv, .int .i64 z]) ∧ drawn ar ∧ SlI w.heap.size w'.heap.size w' sv ar ∧ SlI w.heap.size w'.heap.size w' tv t ∧ t.length ≤ 1000 ∧ -1000 ≤ z ∧ z ≤ 1000 ∧ Bel w w'
set_option maxRecDepth 100000 in
set_option maxHeartbeats 1000000 in
theorem drawCountOf_c (n : Nat) (v : Value) (w : World) (hn : n ≤ 1048576) (hv : SlB w.heap.size w v n) :
    Calls Try.prog 31 #[v] w (RetDC w) := by
  obtain ⟨ad, cap, rfl, hcap, hr⟩ := hv
  have hv : SlB w.heap.size w (.slice ad n cap) n := ⟨ad, cap, rfl, hcap, hr⟩
  have hB1 := Bel.alloc0 w (.cells #[.slice none 0 0] 28)
  have hs1 : (w.alloc (.cells #[.slice none 0 0] 28)).heap.size = w.heap.size + 1 := by simp
  have hC := Cur.new (T := 56) (w := w.alloc (.cells #[.slice none 0 0] 28)) (v := .slice ad n cap) (n := n) (by
    obtain ⟨ad', cap', e, hc, hr'⟩ := hv.chg (Chg.of_bel (lo := w.heap.size) (hi := w.heap.size) hB1) (Nat.le_refl _)
    exact ⟨ad', cap', e, hc, fun hp => by obtain ⟨b, off, e1, e2, e3⟩ := hr' hp; exact ⟨b, off, e1, by omega, e3⟩⟩)
  rw [hs1] at hC
  have hB2 := hB1.step (Bel.alloc0 (w.alloc (.cells #[.slice none 0 0] 28)) (.cells #[.slice ad n cap, .int .i64 0, .int .u64 0] 56))
  have hbx : ((w.alloc (.cells #[.slice none 0 0] 28)).alloc (.cells #[.slice ad n cap, .int .i64 0, .int .u64 0] 56)).cell? ⟨w.heap.size, 0, none⟩ = some (.slice none 0 0) := (Bel.alloc0 _ _).at (by simp) (by rw [World.cell?_alloc_new w]; rfl)
  have hfx : ((w.alloc (.cells #[.slice none 0 0] 28)).alloc (.cells #[.slice ad n cap, .int .i64 0, .int .u64 0] 56)).frozen? ⟨w.heap.size, 0, none⟩ = false := by simp [go_sem]; try rfl
  have HS := Lib.hid (sign_c (w.heap.size + 1) n 0 _ (by omega) (by omega) hC)
  go_enter Try.func31, Try.ntmps31
  go_wp2_with fail
  refine HS.out.mono ?_; rintro e w1 ⟨sv, ar, k1, rfl, hdr, hsv, hk1, hk2, hc1, hg1⟩
  obtain ⟨sa, sc, rfl⟩ := hsv.form
  have hW0 : ((w.alloc (.cells #[.slice none 0 0] 28)).alloc (.cells #[.slice ad n cap, .int .i64 0, .int .u64 0] 56)).heap.size = w.heap.size + 1 + 1 := by simp
  generalize ((w.alloc (.cells #[.slice none 0 0] 28)).alloc (.cells #[.slice ad n cap, .int .i64 0, .int .u64 0] 56)) = W0 at *
  have hsz1 : W0.heap.size ≤ w1.heap.size := hg1.size
  rw [hW0] at hsv
  have hbx1 := hg1.cell (by omega) (by omega) hbx
  have hfx1 : w1.frozen? ⟨w.heap.size, 0, none⟩ = false := (World.frozen?_of_block (w := W0) (w' := w1) (a := ⟨w.heap.size, 0, none⟩) (hg1.block w.heap.size (by omega) (by omega))).trans hfx
  have hB3 := Bel.alloc0 w1 (.cells #[.slice sa ar.length sc] 28)
  have hs2 : (w1.alloc (.cells #[.slice sa ar.length sc] 28)).heap.size = w1.heap.size + 1 := by simp
  have hbx7 : (w1.alloc (.cells #[.slice sa ar.length sc] 28)).cell? ⟨w1.heap.size, 0, none⟩ = some (.slice sa ar.length sc) := by rw [World.cell?_alloc_new w1]; rfl
  have hbx2 := hB3.at (by omega) hbx1
  have hfx2 := (World.frozen?_of_block (w := w1) (a := ⟨w.heap.size, 0, none⟩) (hB3.block w.heap.size (by omega))).trans hfx1
  have hc2 := hc1.below hB3
  have hsv2 := hsv.below hB3
  have hg2 := hg1.trans (Chg.of_bel (lo := w.heap.size + 1) (hi := w.heap.size + 1 + 1) hB3)
  generalize hw2 : w1.alloc (.cells #[.slice sa ar.length sc] 28) = w2 at *
  clear hc1 hg1 hbx1 hfx1 hB3 hsv hbx hfx HS hC hB1
  have HA := Lib.hid (anyTerm_c (w.heap.size + 1) n k1 _ _ _ ar _ (by omega) (by omega) hdr (by omega) (hc2.below (Bel.drew0 w2)) (hsv2.below (Bel.drew0 w2)))
  go_wp2_with fail
  go_region_held3 (fun w' => w'.cell? ⟨w1.heap.size, 0, none⟩ = some (.slice sa ar.length sc))
    (first | exact hbx7 | exact hb73 | exact hb74 | exact hb7F | fail)
    (first
      | (go_at_call 41; refine HA.out.mono ?_; rintro e w3 ⟨ta, tc, t, k3, rfl, ht3, htl, hk3, hk4, hc3, hg3⟩; replace hg3 := (Chg.of_bel (lo := w.heap.size + 1) (hi := w.heap.size + 1 + 1) (Bel.drew0 w2)).trans hg3; have hb73 := hg3.cell (by omega) (by omega) hbx7)
      | (go_at_call 57; refine (pick_c (w.heap.size + 1) n k3 9 9 w3 rfl (by omega) (by omega) (by omega) hc3).mono ?_; rintro e w4 ⟨z, k5, rfl, hz, hk5, hk6, hc4, hg4⟩; have hb74 := hg4.cell (by have := hg3.size; omega) (by omega) hb73; have hg24 := hg3.trans hg4; have hbx4 := hg24.cell (by omega) (by omega) hbx2; have hfx4 := (World.frozen?_of_block (w := w2) (w' := w4) (a := ⟨w.heap.size, 0, none⟩) (hg24.block w.heap.size (by omega) (by omega))).trans hfx2; have hb7F := (World.cell?_setCell_other w4 ⟨w.heap.size, 0, none⟩ ⟨w1.heap.size, 0, none⟩ (.slice sa ar.length sc) (fun h => (show w.heap.size ≠ w1.heap.size by omega) (congrArg Addr.block h))).trans hb74; have hw18 := IntWalk.i64_in ((z : Int) - 3) (by omega))
      | fail)
  clear hw18
  have hs3 : w2.heap.size ≤ w3.heap.size := hg3.size
  have hs4 : w3.heap.size ≤ w4.heap.size := hg4.size
  have hsv4 := hsv2.chg hg24 (by omega)
  have ht4 := ht3.chg hg4 (by simp; omega)
  have hg04 := hg2.trans hg24
  have hbF : (w4.setCell ⟨w.heap.size, 0, none⟩ (.slice sa ar.length sc)).cell? ⟨w.heap.size, 0, none⟩ = some (.slice sa ar.length sc) := World.cell?_setCell_same _ _ _ hbx4
  have hsF := (hsv4.set (p := ⟨w.heap.size, 0, none⟩) (.inl (by simp; omega)) (.slice sa ar.length sc)).mono (show w.heap.size ≤ w.heap.size + 1 + 1 by omega) (show w1.heap.size ≤ w4.heap.size by omega)
  have htF := (ht4.set (p := ⟨w.heap.size, 0, none⟩) (.inl (by simp; omega)) (.slice sa ar.length sc)).mono (show w.heap.size ≤ w2.heap.size by omega) (show w3.heap.size ≤ w4.heap.size by omega)
  have hgF := (hg04.bel hB2 (by omega)).setCell (p := ⟨w.heap.size, 0, none⟩) (Nat.le_refl _) (.slice sa ar.length sc)
  clear hbx4 hfx4 hb73 hb74 hb7F hg04 hsv4 ht4 hc4 hc3 hc2 hbx2 hbx7 hfx2 hg3 hg4 hg24 hg2 hsv2 ht3 hw2
  go_wp2_with fail
  exact bodyPost_ret (v := .tuple #[.agg #[.slice sa ar.length sc], .slice ta t.length tc, .int .i64 ((z : Int) - 3)]) (by simp [results, Try.results31, go_sem, hbF]) rfl ⟨_, _, ar, t, (z : Int) - 3, rfl, hdr, by simpa using hsF, by simpa using htF, htl, by omega, by omega, hgF⟩
end Go.Proofs.Ytajmjjandkdhiab
end
section
/- Contracts with the answers named. -/
namespace Go.Proofs.Ytajmjjandkdhiab
open Go.RowKit

theorem SlB.bel {w w' : World} {v : Value} {n : Nat} (h : SlB w.heap.size w v n) (hb : Bel w w') : SlB w'.heap.size w' v n := by
  obtain ⟨ad, cap, e, hc, hr⟩ := h.chg (Chg.of_bel (lo := w.heap.size) (hi := w.heap.size) hb) (Nat.le_refl _)
  exact ⟨ad, cap, e, hc, fun hp => by obtain ⟨b, off, e1, e2, e3⟩ := hr hp; exact ⟨b, off, e1, Nat.lt_of_lt_of_le e2 hb.size, e3⟩⟩
theorem slI_n {lo hi : Nat} {w : World} {ad : Option Addr} {n c : Nat} {xs : List Int} (h : SlI lo hi w (.slice ad n c) xs) : n = xs.length := by
  obtain ⟨ad', c', e⟩ := h.form
  simp only [Value.slice.injEq] at e
  exact e.2.1
theorem SlB.form {hi : Nat} {w : World} {v : Value} {n : Nat} (h : SlB hi w v n) : ∃ a c, v = .slice a n c := by obtain ⟨a, c, e, _⟩ := h; exact ⟨a, c, e⟩
theorem iReplaceAt_v {l h l' h' l2 h2 : Nat} {v u x : Value} {ar t r : List Int} {w : World} (ha : ar.length ≤ 1048576) (hv : SlI l h w v ar) (ht : t.length ≤ 1048576) (hu : SlI l' h' w u t) {i : Int} (h1 : -9223372036854775808 ≤ i) (h2' : i ≤ 9223372036854775807) (hr : r.length ≤ 1048576) (hx : SlI l2 h2 w x r) {xs : List Int} {b : Bool} (e1 : replAns ar t i r = xs) (e2 : replOk ar t i r = b) :
    Calls Try.prog 17 #[.agg #[v], u, .int .i64 i, x] w (RetIB w xs b) := by subst e1 e2; exact iReplaceAt_t ha hv ht hu h1 h2' hr hx
theorem iPartAt_v {l h l' h' : Nat} {v u : Value} {ar t : List Int} {w : World} (ha : ar.length ≤ 1048576) (hv : SlI l h w v ar) (ht : t.length ≤ 1048576) (hu : SlI l' h' w u t) {i : Int} (h1 : -9223372036854775808 ≤ i) (h2 : i ≤ 9223372036854775807) {xs : List Int} {b : Bool} (e1 : partAns ar t i = xs) (e2 : askOk ar t i = b) :
    Calls Try.prog 19 #[.agg #[v], u, .int .i64 i] w (RetIB w xs b) := by subst e1 e2; exact iPartAt_t ha hv ht hu h1 h2
theorem iArgsAt_v {l h l' h' : Nat} {v u : Value} {ar t : List Int} {w : World} (ha : ar.length ≤ 1048576) (hv : SlI l h w v ar) (ht : t.length ≤ 1048576) (hu : SlI l' h' w u t) {i : Int} (h1 : -9223372036854775808 ≤ i) (h2 : i ≤ 9223372036854775807) {xs : List Int} {b : Bool} (e1 : argsAns ar t i = xs) (e2 : askOk ar t i = b) :
    Calls Try.prog 23 #[.agg #[v], u, .int .i64 i] w (RetIB w xs b) := by subst e1 e2; exact iArgsAt_t ha hv ht hu h1 h2
theorem iEndOf_vv {l h l' h' : Nat} {v u : Value} {ar t : List Int} {w : World} (ha : ar.length ≤ 1048576) (hv : SlI l h w v ar) (ht : t.length ≤ 1048576) (hu : SlI l' h' w u t) {i : Int} (h1 : -9223372036854775808 ≤ i) (h2 : i ≤ 9223372036854775807) {x : Int} {b : Bool} (e1 : endN ar t i = x) (e2 : askOk ar t i = b) :
    Calls Try.prog 21 #[.agg #[v], u, .int .i64 i] w (RetV w (.tuple #[.int .i64 x, .bool b])) := by subst e1 e2; exact iEndOf_t ha hv ht hu h1 h2
theorem iCountOf_vv {l h l' h' : Nat} {v u : Value} {ar t : List Int} {w : World} (ha : ar.length ≤ 1048576) (hv : SlI l h w v ar) (ht : t.length ≤ 1048576) (hu : SlI l' h' w u t) {i : Int} (h1 : -9223372036854775808 ≤ i) (h2 : i ≤ 9223372036854775807) {x : Int} {b : Bool} (e1 : countAns ar t i = x) (e2 : goodTerm ar t = b) :
    Calls Try.prog 32 #[.agg #[v], u, .int .i64 i] w (RetV w (.tuple #[.int .i64 x, .bool b])) := by subst e1 e2; exact iCountOf_t ha hv ht hu h1 h2
theorem iDepthOf_vv {l h l' h' : Nat} {v u : Value} {ar t : List Int} {w : World} (ha : ar.length ≤ 1048576) (hv : SlI l h w v ar) (ht : t.length ≤ 1048576) (hu : SlI l' h' w u t) {x : Int} {b : Bool} (e1 : depthAns ar t = x) (e2 : goodTerm ar t = b) :
    Calls Try.prog 34 #[.agg #[v], u] w (RetV w (.tuple #[.int .i64 x, .bool b])) := by subst e1 e2; exact iDepthOf_t ha hv ht hu
theorem iVarsOf_vv {l h l' h' : Nat} {v u : Value} {ar t : List Int} {w : World} (ha : ar.length ≤ 1048576) (hv : SlI l h w v ar) (ht : t.length ≤ 1048576) (hu : SlI l' h' w u t) {xs : List Int} {b : Bool} (e1 : varsAns ar t = xs) (e2 : goodTerm ar t = b) :
    Calls Try.prog 9 #[.agg #[v], u] w (RetIB w xs b) := by subst e1 e2; exact iVarsOf_t ha hv ht hu
theorem sReplaceAt_v {l h l' h' l2 h2 : Nat} {v u x : Value} {ar t r : List Int} {w : World} (ha : ar.length ≤ 1048576) (hv : SlI l h w v ar) (ht : t.length ≤ 1048576) (hu : SlI l' h' w u t) {i : Int} (h1 : -9223372036854775808 ≤ i) (h2' : i ≤ 9223372036854775807) (hr : r.length ≤ 1048576) (hx : SlI l2 h2 w x r) {xs : List Int} {b : Bool} (e1 : replAns ar t i r = xs) (e2 : replOk ar t i r = b) :
    Calls Try.prog 18 #[.agg #[v], u, .int .i64 i, x] w (RetIB w xs b) := by subst e1 e2; exact sReplaceAt_t ha hv ht hu h1 h2' hr hx
theorem sPartAt_v {l h l' h' : Nat} {v u : Value} {ar t : List Int} {w : World} (ha : ar.length ≤ 1048576) (hv : SlI l h w v ar) (ht : t.length ≤ 1048576) (hu : SlI l' h' w u t) {i : Int} (h1 : -9223372036854775808 ≤ i) (h2 : i ≤ 9223372036854775807) {xs : List Int} {b : Bool} (e1 : partAns ar t i = xs) (e2 : askOk ar t i = b) :
    Calls Try.prog 20 #[.agg #[v], u, .int .i64 i] w (RetIB w xs b) := by subst e1 e2; exact sPartAt_t ha hv ht hu h1 h2
theorem sArgsAt_v {l h l' h' : Nat} {v u : Value} {ar t : List Int} {w : World} (ha : ar.length ≤ 1048576) (hv : SlI l h w v ar) (ht : t.length ≤ 1048576) (hu : SlI l' h' w u t) {i : Int} (h1 : -9223372036854775808 ≤ i) (h2 : i ≤ 9223372036854775807) {xs : List Int} {b : Bool} (e1 : argsAns ar t i = xs) (e2 : askOk ar t i = b) :
    Calls Try.prog 24 #[.agg #[v], u, .int .i64 i] w (RetIB w xs b) := by subst e1 e2; exact sArgsAt_t ha hv ht hu h1 h2
theorem sEndOf_vv {l h l' h' : Nat} {v u : Value} {ar t : List Int} {w : World} (ha : ar.length ≤ 1048576) (hv : SlI l h w v ar) (ht : t.length ≤ 1048576) (hu : SlI l' h' w u t) {i : Int} (h1 : -9223372036854775808 ≤ i) (h2 : i ≤ 9223372036854775807) {x : Int} {b : Bool} (e1 : endN ar t i = x) (e2 : askOk ar t i = b) :
    Calls Try.prog 22 #[.agg #[v], u, .int .i64 i] w (RetV w (.tuple #[.int .i64 x, .bool b])) := by subst e1 e2; exact sEndOf_t ha hv ht hu h1 h2
theorem sCountOf_vv {l h l' h' : Nat} {v u : Value} {ar t : List Int} {w : World} (ha : ar.length ≤ 1048576) (hv : SlI l h w v ar) (ht : t.length ≤ 1048576) (hu : SlI l' h' w u t) {i : Int} (h1 : -9223372036854775808 ≤ i) (h2 : i ≤ 9223372036854775807) {x : Int} {b : Bool} (e1 : countAns ar t i = x) (e2 : goodTerm ar t = b) :
    Calls Try.prog 33 #[.agg #[v], u, .int .i64 i] w (RetV w (.tuple #[.int .i64 x, .bool b])) := by subst e1 e2; exact sCountOf_t ha hv ht hu h1 h2
theorem sDepthOf_vv {l h l' h' : Nat} {v u : Value} {ar t : List Int} {w : World} (ha : ar.length ≤ 1048576) (hv : SlI l h w v ar) (ht : t.length ≤ 1048576) (hu : SlI l' h' w u t) {x : Int} {b : Bool} (e1 : depthAns ar t = x) (e2 : goodTerm ar t = b) :
    Calls Try.prog 35 #[.agg #[v], u] w (RetV w (.tuple #[.int .i64 x, .bool b])) := by subst e1 e2; exact sDepthOf_t ha hv ht hu
theorem sVarsOf_vv {l h l' h' : Nat} {v u : Value} {ar t : List Int} {w : World} (ha : ar.length ≤ 1048576) (hv : SlI l h w v ar) (ht : t.length ≤ 1048576) (hu : SlI l' h' w u t) {xs : List Int} {b : Bool} (e1 : varsAns ar t = xs) (e2 : goodTerm ar t = b) :
    Calls Try.prog 6 #[.agg #[v], u] w (RetIB w xs b) := by subst e1 e2; exact sVarsOf_t ha hv ht hu
end Go.Proofs.Ytajmjjandkdhiab
end
