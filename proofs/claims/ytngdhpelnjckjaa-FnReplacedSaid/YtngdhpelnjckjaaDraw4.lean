/- The draws: any term. -/
import Derived.Test.YtngdhpelnjckjaaDraw3
import Derived.Deep.RegionHeld3
namespace Go.Proofs.Ytngdhpelnjckjaa
open Go.RowKit

set_option maxRecDepth 100000 in
set_option maxHeartbeats 400000 in
theorem among_c (b n k lo hi : Nat) (v : Value) (l : List Int) (w : World) (hn : n ≤ 1099511627776) (hk : k ≤ 1099511627775) (hl0 : 0 < l.length) (hl : l.length ≤ 200) (hblo : b < lo) (hc : Cur b n k w) (hv : SlI lo hi w v l) :
    Calls Try.prog 114 #[.pointer (some ⟨b, 0, none⟩), v] w (fun e w' => ∃ (z : Int) (k' : Nat), e = .returned (.int .i64 z) ∧ z ∈ l ∧ k ≤ k' ∧ k' ≤ k + 2 ∧ Cur b n k' w' ∧ Chg b (b+1) w w') := by
  obtain ⟨ad, cap, rfl⟩ := hv.form
  go_enter Try.func114, Try.ntmps114
  go_wp2_with (go_at_call 102; refine (pick_c b n k _ l.length w rfl hn hk (by omega) hc).mono ?_; rintro e w1 ⟨x, k1, rfl, hx, hk1, hk2, hc1, hg1⟩; obtain ⟨bb, off, e1, -, hcell⟩ := (hv.chg hg1 (by omega)).at x (by omega); cases e1; have hxl : (x : Int) < l.length := by omega)
  go_ret
  exact ⟨l.getD x 0, k1, rfl, by rw [show l.getD x 0 = l[x]'(by omega) from by simp [List.getD, show x < l.length by omega]]; exact List.getElem_mem _, hk1, hk2, hc1, hg1⟩
theorem term_z (b n : Nat) (deep vars k lo hi : Nat) (z y : Int) (v : Value) (ar : List Int) (w : World) (hz : z = deep) (hy : y = vars) (hn : n ≤ 1099511627776) (h1 : 1 ≤ deep) (h5 : deep ≤ 5) (hdr : drawn ar) (hblo : b < lo) (hvars : vars ≤ 12) (hk : k ≤ 500000000000) (hc : Cur b n k w) (hv : SlI lo hi w v ar) :
    Calls Try.prog 88 #[.pointer (some ⟨b, 0, none⟩), .agg #[v], .int .i64 z, .int .i64 y] w (RetT ar b n k 4000 (tl deep) w) := by
  subst hz hy
  have hd := dk_le deep h5
  refine (term_c b n hn deep h1 h5 k vars lo hi v ar w hdr hblo hvars (by omega) hc hv).mono ?_
  rintro e w' ⟨ad, m, c, t, k', h⟩
  exact ⟨ad, m, c, t, k', h.1, h.2.1, h.2.2.1, h.2.2.2.1, h.2.2.2.2.1, h.2.2.2.2.2.1, by have := h.2.2.2.2.2.2.1; omega, h.2.2.2.2.2.2.2⟩
theorem row_off {w : World} {base e m n c g o : Nat} {xs : List Value} (h : w.ownsRow base e 1 (.slice (some ⟨g, o, none⟩) n c) m xs) : o = 0 := by
  rcases h.2 with ⟨e1, _⟩ | ⟨g', cap, cur, e1, _⟩
  · simp at e1
  · simp at e1; exact e1.1.2
/-- What anyTerm gives: of blocks that are new. -/
def RetA (b n k d : Nat) (w : World) (e : Ending) (w' : World) : Prop :=
  ∃ (ad : Option Addr) (c : Nat) (t : List Int) (k' : Nat), e = .returned (.slice ad t.length c) ∧ SlI w.heap.size w'.heap.size w' (.slice ad t.length c) t ∧ t.length ≤ 1000 ∧ k ≤ k' ∧ k' ≤ k + d ∧ Cur b n k' w' ∧ Chg b (b+1) w w'

set_option maxRecDepth 100000 in
set_option maxHeartbeats 1000000 in
theorem anyTerm_c (b n k lo hi : Nat) (v : Value) (ar : List Int) (w : World) (hn : n ≤ 1099511627776) (hk : k ≤ 1000000000) (hdr : drawn ar) (hblo : b < lo) (hc : Cur b n k w) (hv : SlI lo hi w v ar) :
    Calls Try.prog 86 #[.pointer (some ⟨b, 0, none⟩), .agg #[v]] w (RetA b n k 5000 w) := by
  have hbl := hc.lt
  have hc1 := hc.below (Bel.alloc0 w (.cells #[v] 26))
  have hv1 := hv.alloc (.cells #[v] 26)
  have hbox : (w.alloc (.cells #[v] 26)).cell? ⟨w.heap.size, 0, none⟩ = some v := by rw [World.cell?_alloc_new w]; rfl
  have HP := Lib.hid (fun w' (h : Bel (w.alloc (.cells #[v] 26)) w') => pick_c b n k 4 4 w' rfl hn (by omega) (by omega) (hc1.below h))
  have hbl1 : w.heap.size < (w.alloc (.cells #[v] 26)).heap.size := by simp
  go_enter Try.func86, Try.ntmps86
  go_wp2_with fail
  go_region_held3 (fun w' => w'.cell? ⟨w.heap.size, 0, none⟩ = some v)
    (first | exact hbox | exact hbx2 | exact hbx3 | fail)
    (first
      | (go_at_call 102; refine (HP.out _ (Bel.drew0 _)).mono ?_; rintro e w2 ⟨x, k1, rfl, hx, hk1, hk2, hc2, hg2⟩; replace hg2 := (Chg.of_bel (lo := b) (hi := b+1) (Bel.drew0 _)).trans hg2; have hbx2 : w2.cell? ⟨w.heap.size, 0, none⟩ = some v := hg2.cell (by simp) (by omega) hbox; have hw10 := IntWalk.i64_in (1 + (x : Int)) (by omega))
      | (go_at_call 88; clear hw10; refine (term_z b n (1 + x) 3 k1 lo hi _ 3 v ar w2 (by omega) rfl hn (by omega) (by omega) hdr hblo (by omega) (by omega) hc2 (hv1.chg hg2 (by omega))).mono ?_; rintro e w3 ⟨a3, m3, c3, t3, k3, rfl, hrow3, ht1, ht2, -, hk3, hk4, hc3, hg3⟩; have hbx3 : w3.cell? ⟨w.heap.size, 0, none⟩ = some v := hg3.cell (Nat.lt_of_lt_of_le hbl1 hg2.size) (by omega) hbx2)
      | fail)
  have hsz3 : w.heap.size + 1 ≤ w3.heap.size := by have := hbl1; have := hg2.size; have := hg3.size; exact Nat.le_trans hbl1 (Nat.le_trans hg2.size hg3.size)
  have hgA : Chg b (b+1) w w3 := ((Chg.of_bel (lo := b) (hi := b+1) (Bel.alloc0 w (.cells #[v] 26))).trans hg2).trans hg3
  have hgB := hg2
  have hsz23 : w2.heap.size ≤ w3.heap.size := hg3.size
  clear hbx2 hbx3 hg2 hg3 hc2 HP
  have hm3 := row_len hrow3
  subst hm3
  obtain ⟨i0, hi0, hz0', hz1, hz2⟩ := info_parts Try.info3
  have hsz2 : w.heap.size + 1 ≤ w2.heap.size := Nat.le_trans hbl1 hgB.size
  clear hgB
  have htl := tl_le (1 + x) (by omega)
  have HH := Lib.hid (pick_c b n k3 40 40 w3 rfl hn (by omega) (by omega) hc3)
  go_wp2_with fail
  refine HH.out.mono ?_; rintro e w4 ⟨y, k4, rfl, hy, hk5, hk6, hc4, hg4⟩
  have hrow4 := row_chg hrow3 (by omega) hg4
  have hsz4 : w3.heap.size ≤ w4.heap.size := hg4.size
  have hgW := hgA.trans hg4
  obtain ⟨tb, toff, tc, e3, hcap3⟩ := (OwnI.of_row hrow4).sl.plain (by omega)
  cases e3
  clear hc3 hg4 hrow3 HH
  generalize hzy : (y : Int) = z
  have hz0 : 0 ≤ z := by omega
  clear hzy hy
  have hcase : z = 0 ∨ z = 1 ∨ z = 2 ∨ 2 < z := by omega
  rcases hcase with rfl | rfl | rfl | hz3
  · go_wp2_with (at_builtin; refine wpList_append_own _ rfl _ _ 24 rfl w2.heap.size 3 i0 (.int .i64 0) 1 8 Try.underlying24 hi0 hz0' hz1 hz2 rfl (by decide) _ _ _ rfl (hrow4.alloc _) ⟨w4.heap.size, 0, none⟩ 1 1 [.int .i64 1] rfl rfl (news_one _ _ _) (one_int _) (by unfold maxLen; first | omega | (simp; omega)) (by first | omega | (simp; omega)) (by first | omega | (simp; omega)) ?_; intro v' w5 hown' hgrow _)
    have hown5 : w5.ownsRow w2.heap.size 3 1 v' (t3 ++ [1]).length ((t3 ++ [1]).map (Value.int .i64)) := by simpa using hown'
    obtain ⟨ao, no, co, rfl⟩ := own_form hown5
    have hno := row_len hown5
    subst hno
    have hg5 : Chg w2.heap.size (w5.heap.size + 1) (w4.alloc (.cells #[.int .i64 1] 3)) w5 := ⟨hgrow.os, hgrow.tape, hgrow.output, hgrow.size, fun i hi ho => hgrow.block i hi (fun e => by have := own_base hrow4 i e.symm; have := hgrow.size; simp at hi this; omega)⟩
    have hg6 := (Chg.of_bel (lo := w2.heap.size) (hi := w5.heap.size + 1) (Bel.alloc0 w4 (.cells #[.int .i64 1] 3))).trans hg5
    go_ret
    exact ⟨ao, co, t3 ++ [1], k4, rfl, (OwnI.of_row hown5).sl.mono (by omega) (Nat.le_refl _), by simp; omega, by omega, by omega, hc4.chg hg6 (by omega), hgW.news hg6 (by omega)⟩
  · have hB2 := Bel.alloc0 w4 (.cells #[.int .i64 (-13), .int .i64 (-12), .int .i64 10, .int .i64 9] 3)
    have hS2 : SlI w4.heap.size (w4.heap.size + 1) (w4.alloc (.cells #[.int .i64 (-13), .int .i64 (-12), .int .i64 10, .int .i64 9] 3)) (.slice (some ⟨w4.heap.size, 0, none⟩) 4 4) [-13, -12, 10, 9] := SlI.arr (xs := [-13, -12, 10, 9]) rfl rfl (by decide) (Nat.le_refl _) (Nat.lt_succ_self _)
    have hc5 := hc4.below hB2
    have hrow5 := ownsRow_bel hrow4 hB2
    have hbl4 := hc4.lt
    have HA := Lib.hid (among_c b n k4 _ _ _ [-13, -12, 10, 9] _ hn (by omega) (by decide) (by decide) (by omega) hc5 hS2)
    go_wp2_with fail
    refine HA.out.mono ?_; rintro e w5 ⟨zq, k5, rfl, -, hk7, hk8, hc6, hg6⟩
    have hrow6 := row_chg hrow5 (by omega) hg6
    have ht0 := row_off hrow6
    subst ht0
    obtain ⟨tb2, to2, e4, -, hcell6⟩ := (OwnI.of_row hrow6).sl.at 0 (by omega)
    cases e4
    have hf6 := hrow6.frozenAt 0
    have htb : w2.heap.size ≤ tb := own_base hrow6 tb rfl
    have hst := (hrow6.stored 0 (.int .i64 zq)).1
    rw [show (t3.map (Value.int .i64)).set 0 (.int .i64 zq) = (t3.set 0 zq).map (Value.int .i64) from by rw [List.map_set], show t3.length = (t3.set 0 zq).length from by rw [List.length_set]] at hst
    have hlen : (t3.set 0 zq).length = t3.length := List.length_set
    have hgn := hgW.news ((Chg.of_bel (lo := w4.heap.size) (hi := w4.heap.size) hB2)) (by omega)
    have hgs := Chg.set (lo := w2.heap.size) (hi := w5.heap.size + tb + 1) (p := ⟨tb, 0, none⟩) w5 htb (by simp; omega) (.int .i64 zq)
    have hcF := hc6.chg hgs (by omega)
    have hgF := (hgn.trans hg6).news hgs (by omega)
    clear hrow4 hrow5 hB2 hS2 hc4 hc5 HA hgn
    go_wp2_with fail
    go_ret
    exact ⟨_, c3, t3.set 0 zq, k5, by rw [hlen]; rfl, by rw [hlen]; rw [hlen] at hst; exact ((OwnI.of_row (by rw [hlen]; exact hst)).sl).mono (by omega) (Nat.le_refl _), by rw [hlen]; omega, by omega, by omega, hcF, hgF⟩
  · have hsl := (OwnI.of_row hrow4).sl
    by_cases hc1 : c3 = 1
    · subst hc1
      go_wp2_with fail
      go_ret
      have h0 : t3.length - 1 = 0 := by omega
      exact ⟨some ⟨tb, toff, none⟩, 0, [], k4, by first | rfl | (rw [h0]; rfl), ⟨_, 0, rfl, Nat.le_refl _, ⟨Nat.zero_le _, fun h => by simp at h⟩, fun h => absurd h (by simp)⟩, by simp, by omega, by omega, hc4, hgW⟩
    · have hcut := hsl.cut 1 t3.length (by omega) (Nat.le_refl _)
      have hle : ((t3.drop 1).take (t3.length - 1)).length = t3.length - 1 := by simp
      have hc2 : (1 : Int) < c3 := by omega
      go_wp2_with fail
      go_ret
      exact ⟨some ⟨tb, toff + 1, none⟩, c3 - 1, (t3.drop 1).take (t3.length - 1), k4, by rw [hle]; rfl, by rw [hle]; exact hcut.mono (by omega) (Nat.le_refl _), by rw [hle]; omega, by omega, by omega, hc4, hgW⟩
  · have e0 : (z == 0) = false := by rw [beq_eq_false_iff_ne]; omega
    have e1 : (z == 1) = false := by rw [beq_eq_false_iff_ne]; omega
    have e2 : (z == 2) = false := by rw [beq_eq_false_iff_ne]; omega
    go_wp2_with fail
    go_ret
    exact ⟨_, c3, t3, k4, rfl, (OwnI.of_row hrow4).sl.mono (by omega) (Nat.le_refl _), by omega, by omega, by omega, hc4, hgW⟩
end Go.Proofs.Ytngdhpelnjckjaa
