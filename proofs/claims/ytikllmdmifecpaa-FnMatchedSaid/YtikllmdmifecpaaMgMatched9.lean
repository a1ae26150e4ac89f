/- Texts merged, part 9. -/
import Derived.Deep.RegionHeld3
import Derived.Deep.OwnRows
import Derived.Test.YtikllmdmifecpaaMgMatched8
section
/- The draws: any term. -/
namespace Go.Proofs.Ytikllmdmifecpaa
open Go.RowKit

set_option maxRecDepth 100000 in
set_option maxHeartbeats 400000 in
theorem among_c (b n k lo hi : Nat) (v : Value) (l : List Int) (w : World) (hn : n ≤ 1099511627776) (hk : k ≤ 1099511627775) (hl0 : 0 < l.length) (hl : l.length ≤ 200) (hblo : b < lo) (hc : Cur b n k w) (hv : SlI lo hi w v l) :
    Calls Try.prog 130 #[.pointer (some ⟨b, 0, none⟩), v] w (fun e w' => ∃ (z : Int) (k' : Nat), e = .returned (.int .i64 z) ∧ z ∈ l ∧ k ≤ k' ∧ k' ≤ k + 2 ∧ Cur b n k' w' ∧ Chg b (b+1) w w') := by
  obtain ⟨ad, cap, rfl⟩ := hv.form
  go_enter Try.func130, Try.ntmps130
  go_wp2_with (go_at_call 128; refine (pick_c b n k _ l.length w rfl hn hk (by omega) hc).mono ?_; rintro e w1 ⟨x, k1, rfl, hx, hk1, hk2, hc1, hg1⟩; obtain ⟨bb, off, e1, -, hcell⟩ := (hv.chg hg1 (by omega)).at x (by omega); cases e1; have hxl : (x : Int) < l.length := by omega)
  go_ret
  exact ⟨l.getD x 0, k1, rfl, by rw [show l.getD x 0 = l[x]'(by omega) from by simp [List.getD, show x < l.length by omega]]; exact List.getElem_mem _, hk1, hk2, hc1, hg1⟩
theorem term_z (b n : Nat) (deep vars k lo hi : Nat) (z y : Int) (v : Value) (ar : List Int) (w : World) (hz : z = deep) (hy : y = vars) (hn : n ≤ 1099511627776) (h1 : 1 ≤ deep) (h5 : deep ≤ 5) (hdr : drawn ar) (hblo : b < lo) (hvars : vars ≤ 12) (hk : k ≤ 500000000000) (hc : Cur b n k w) (hv : SlI lo hi w v ar) :
    Calls Try.prog 129 #[.pointer (some ⟨b, 0, none⟩), .agg #[v], .int .i64 z, .int .i64 y] w (RetTm ar b n k 4000 (tl deep) w) := by
  subst hz hy
  have hd := dk_le deep h5
  refine (term_c b n hn deep h1 h5 k vars lo hi v ar w hdr hblo hvars (by omega) hc hv).mono ?_
  rintro e w' ⟨ad, m, c, t, k', h⟩
  exact ⟨ad, m, c, t, k', h.1, h.2.1, h.2.2.1, h.2.2.2.1, h.2.2.2.2.1, h.2.2.2.2.2.1, by have := h.2.2.2.2.2.2.1; omega, h.2.2.2.2.2.2.2⟩
theorem row_off {w : World} {base e m n c g o : Nat} {xs : List Value} (h : w.ownsRow base e 1 (.slice (some ⟨g, o, none⟩) n c) m xs) : o = 0 := by
  rcases h.2 with ⟨e1, _⟩ | ⟨g', cap, cur, e1, _⟩
  · simp at e1
  · simp at e1; exact e1.1.2
/-- What anyTerm gives: of blocks that are new. -/
def RetA (b n k d : Nat) (w : World) (e : Ending) (w' : World) : Prop :=
  ∃ (ad : Option Addr) (c : Nat) (t : List Int) (k' : Nat), e = .returned (.slice ad t.length c) ∧ SlI w.heap.size w'.heap.size w' (.slice ad t.length c) t ∧ t.length ≤ 1000 ∧ k ≤ k' ∧ k' ≤ k + d ∧ Cur b n k' w' ∧ Chg b (b+1) w w'

set_option maxRecDepth 100000 in
set_option maxHeartbeats 1000000 in
theorem anyTerm_c (b n k lo hi : Nat) (v : Value) (ar : List Int) (w : World) (hn : n ≤ 1099511627776) (hk : k ≤ 1000000000) (hdr : drawn ar) (hblo : b < lo) (hc : Cur b n k w) (hv : SlI lo hi w v ar) :
    Calls Try.prog 79 #[.pointer (some ⟨b, 0, none⟩), .agg #[v]] w (RetA b n k 5000 w) := by
  have hbl := hc.lt
  have hc1 := hc.below (Bel.alloc0 w (.cells #[v] 29))
  have hv1 := hv.alloc (.cells #[v] 29)
  have hbox : (w.alloc (.cells #[v] 29)).cell? ⟨w.heap.size, 0, none⟩ = some v := by rw [World.cell?_alloc_new w]; rfl
  have HP := Lib.hid (fun w' (h : Bel (w.alloc (.cells #[v] 29)) w') => pick_c b n k 4 4 w' rfl hn (by omega) (by omega) (hc1.below h))
  have hbl1 : w.heap.size < (w.alloc (.cells #[v] 29)).heap.size := by simp
  go_enter Try.func79, Try.ntmps79
  go_wp2_with fail
  go_region_held3 (fun w' => w'.cell? ⟨w.heap.size, 0, none⟩ = some v)
    (first | exact hbox | exact hbx2 | exact hbx3 | fail)
    (first
      | (go_at_call 128; refine (HP.out _ (Bel.drew0 _)).mono ?_; rintro e w2 ⟨x, k1, rfl, hx, hk1, hk2, hc2, hg2⟩; replace hg2 := (Chg.of_bel (lo := b) (hi := b+1) (Bel.drew0 _)).trans hg2; have hbx2 : w2.cell? ⟨w.heap.size, 0, none⟩ = some v := hg2.cell (by simp) (by omega) hbox; have hw10 := IntWalk.i64_in (1 + (x : Int)) (by omega))
      | (go_at_call 129; clear hw10; refine (term_z b n (1 + x) 3 k1 lo hi _ 3 v ar w2 (by omega) rfl hn (by omega) (by omega) hdr hblo (by omega) (by omega) hc2 (hv1.chg hg2 (by omega))).mono ?_; rintro e w3 ⟨a3, m3, c3, t3, k3, rfl, hrow3, ht1, ht2, -, hk3, hk4, hc3, hg3⟩; have hbx3 : w3.cell? ⟨w.heap.size, 0, none⟩ = some v := hg3.cell (Nat.lt_of_lt_of_le hbl1 hg2.size) (by omega) hbx2)
      | fail)
  have hsz3 : w.heap.size + 1 ≤ w3.heap.size := by have := hbl1; have := hg2.size; have := hg3.size; exact Nat.le_trans hbl1 (Nat.le_trans hg2.size hg3.size)
  have hgA : Chg b (b+1) w w3 := ((Chg.of_bel (lo := b) (hi := b+1) (Bel.alloc0 w (.cells #[v] 29))).trans hg2).trans hg3
  have hgB := hg2
  have hsz23 : w2.heap.size ≤ w3.heap.size := hg3.size
  clear hbx2 hbx3 hg2 hg3 hc2 HP
  have hm3 := row_len hrow3
  subst hm3
  obtain ⟨i0, hi0, hz0', hz1, hz2⟩ := info_parts Try.info3
  have hsz2 : w.heap.size + 1 ≤ w2.heap.size := Nat.le_trans hbl1 hgB.size
  clear hgB
  have htl := tl_le (1 + x) (by omega)
  have HH := Lib.hid (pick_c b n k3 40 40 w3 rfl hn (by omega) (by omega) hc3)
  go_wp2_with fail
  refine HH.out.mono ?_; rintro e w4 ⟨y, k4, rfl, hy, hk5, hk6, hc4, hg4⟩
  have hrow4 := row_chg hrow3 (by omega) hg4
  have hsz4 : w3.heap.size ≤ w4.heap.size := hg4.size
  have hgW := hgA.trans hg4
  obtain ⟨tb, toff, tc, e3, hcap3⟩ := (OwnI.of_row hrow4).sl.plain (by omega)
  cases e3
  clear hc3 hg4 hrow3 HH
  generalize hzy : (y : Int) = z
  have hz0 : 0 ≤ z := by omega
  clear hzy hy
  have hcase : z = 0 ∨ z = 1 ∨ z = 2 ∨ 2 < z := by omega
  rcases hcase with rfl | rfl | rfl | hz3
  · go_wp2_with (at_builtin; refine wpList_append_own _ rfl _ _ 22 rfl w2.heap.size 3 i0 (.int .i64 0) 1 8 Try.underlying22 hi0 hz0' hz1 hz2 rfl (by decide) _ _ _ rfl (hrow4.alloc _) ⟨w4.heap.size, 0, none⟩ 1 1 [.int .i64 1] rfl rfl (news_one _ _ _) (one_int _) (by unfold maxLen; first | omega | (simp; omega)) (by first | omega | (simp; omega)) (by first | omega | (simp; omega)) ?_; intro v' w5 hown' hgrow _)
    have hown5 : w5.ownsRow w2.heap.size 3 1 v' (t3 ++ [1]).length ((t3 ++ [1]).map (Value.int .i64)) := by simpa using hown'
    obtain ⟨ao, no, co, rfl⟩ := own_form hown5
    have hno := row_len hown5
    subst hno
    have hg5 : Chg w2.heap.size (w5.heap.size + 1) (w4.alloc (.cells #[.int .i64 1] 3)) w5 := ⟨hgrow.os, hgrow.tape, hgrow.output, hgrow.size, fun i hi ho => hgrow.block i hi (fun e => by have := own_base hrow4 i e.symm; have := hgrow.size; simp at hi this; omega)⟩
    have hg6 := (Chg.of_bel (lo := w2.heap.size) (hi := w5.heap.size + 1) (Bel.alloc0 w4 (.cells #[.int .i64 1] 3))).trans hg5
    go_ret
    exact ⟨ao, co, t3 ++ [1], k4, rfl, (OwnI.of_row hown5).sl.mono (by omega) (Nat.le_refl _), by simp; omega, by omega, by omega, hc4.chg hg6 (by omega), hgW.news hg6 (by omega)⟩
  · have hB2 := Bel.alloc0 w4 (.cells #[.int .i64 (-13), .int .i64 (-12), .int .i64 10, .int .i64 9] 3)
    have hS2 : SlI w4.heap.size (w4.heap.size + 1) (w4.alloc (.cells #[.int .i64 (-13), .int .i64 (-12), .int .i64 10, .int .i64 9] 3)) (.slice (some ⟨w4.heap.size, 0, none⟩) 4 4) [-13, -12, 10, 9] := SlI.arr (xs := [-13, -12, 10, 9]) rfl rfl (by decide) (Nat.le_refl _) (Nat.lt_succ_self _)
    have hc5 := hc4.below hB2
    have hrow5 := ownsRow_bel hrow4 hB2
    have hbl4 := hc4.lt
    have HA := Lib.hid (among_c b n k4 _ _ _ [-13, -12, 10, 9] _ hn (by omega) (by decide) (by decide) (by omega) hc5 hS2)
    go_wp2_with fail
    refine HA.out.mono ?_; rintro e w5 ⟨zq, k5, rfl, -, hk7, hk8, hc6, hg6⟩
    have hrow6 := row_chg hrow5 (by omega) hg6
    have ht0 := row_off hrow6
    subst ht0
    obtain ⟨tb2, to2, e4, -, hcell6⟩ := (OwnI.of_row hrow6).sl.at 0 (by omega)
    cases e4
    have hf6 := hrow6.frozenAt 0
    have htb : w2.heap.size ≤ tb := own_base hrow6 tb rfl
    have hst := (hrow6.stored 0 (.int .i64 zq)).1
    rw [show (t3.map (Value.int .i64)).set 0 (.int .i64 zq) = (t3.set 0 zq).map (Value.int .i64) from by rw [List.map_set], show t3.length = (t3.set 0 zq).length from by rw [List.length_set]] at hst
    have hlen : (t3.set 0 zq).length = t3.length := List.length_set
    have hgn := hgW.news ((Chg.of_bel (lo := w4.heap.size) (hi := w4.heap.size) hB2)) (by omega)
    have hgs := Chg.set (lo := w2.heap.size) (hi := w5.heap.size + tb + 1) (p := ⟨tb, 0, none⟩) w5 htb (by simp; omega) (.int .i64 zq)
    have hcF := hc6.chg hgs (by omega)
    have hgF := (hgn.trans hg6).news hgs (by omega)
    clear hrow4 hrow5 hB2 hS2 hc4 hc5 HA hgn
    go_wp2_with fail
    go_ret
    exact ⟨_, c3, t3.set 0 zq, k5, by rw [hlen]; rfl, by rw [hlen]; rw [hlen] at hst; exact ((OwnI.of_row (by rw [hlen]; exact hst)).sl).mono (by omega) (Nat.le_refl _), by rw [hlen]; omega, by omega, by omega, hcF, hgF⟩
  · have hsl := (OwnI.of_row hrow4).sl
    by_cases hc1 : c3 = 1
    · subst hc1
      go_wp2_with fail
      go_ret
      have h0 : t3.length - 1 = 0 := by omega
      exact ⟨some ⟨tb, toff, none⟩, 0, [], k4, by first | rfl | (rw [h0]; rfl), ⟨_, 0, rfl, Nat.le_refl _, ⟨Nat.zero_le _, fun h => by simp at h⟩, fun h => absurd h (by simp)⟩, by simp, by omega, by omega, hc4, hgW⟩
    · have hcut := hsl.cut 1 t3.length (by omega) (Nat.le_refl _)
      have hle : ((t3.drop 1).take (t3.length - 1)).length = t3.length - 1 := by simp
      have hc2 : (1 : Int) < c3 := by omega
      go_wp2_with fail
      go_ret
      exact ⟨some ⟨tb, toff + 1, none⟩, c3 - 1, (t3.drop 1).take (t3.length - 1), k4, by rw [hle]; rfl, by rw [hle]; exact hcut.mono (by omega) (Nat.le_refl _), by rw [hle]; omega, by omega, by omega, hc4, hgW⟩
  · have e0 : (z == 0) = false := by rw [beq_eq_false_iff_ne]; omega
    have e1 : (z == 1) = false := by rw [beq_eq_false_iff_ne]; omega
    have e2 : (z == 2) = false := by rw [beq_eq_false_iff_ne]; omega
    go_wp2_with fail
    go_ret
    exact ⟨_, c3, t3, k4, rfl, (OwnI.of_row hrow4).sl.mono (by omega) (Nat.le_refl _), by omega, by omega, by omega, hc4, hgW⟩
end Go.Proofs.Ytikllmdmifecpaa
end
section
/- The draws: arguments of functions of chapter 1. -/
namespace Go.Proofs.Ytikllmdmifecpaa
open Go.RowKit

/-- A cursor at its beginning. -/
theorem Cur.new {w : World} {v : Value} {n : Nat} {T : TypeId} (h : SlB w.heap.size w v n) : Cur w.heap.size n 0 (w.alloc (.cells #[v, .int .i64 0, .int .u64 0] T)) := by
  refine ⟨v, 0, by simp, h.chg (Chg.of_bel (lo := w.heap.size) (hi := w.heap.size) (Bel.alloc0 _ _)) (Nat.le_refl _), ?_, ?_, ?_, fun j => by simp [go_sem]; try rfl⟩
  · rw [World.cell?_alloc_new w]; rfl
  · rw [World.cell?_alloc_new w]; rfl
  · rw [World.cell?_alloc_new w]; rfl

def RetDR (w : World) (e : Ending) (w' : World) : Prop :=
  ∃ (sv tv uv : Value) (ar t u : List Int) (z : Int), e = .returned (.tuple #[.agg #[sv], tv, .int .i64 z, uv]) ∧ drawn ar ∧ SlI w.heap.size w'.heap.size w' sv ar ∧ SlI w.heap.size w'.heap.size w' tv t ∧ t.length ≤ 1000 ∧ -1 ≤ z ∧ z ≤ 1000 ∧ SlI w.heap.size w'.heap.size w' uv u ∧ u.length ≤ 1000 ∧ Bel w w'
def RetDC (w : World) (e : Ending) (w' : World) : Prop :=
  ∃ (sv tv : Value) (ar t : List Int) (z : Int), e = .returned (.tuple #[.agg #[sv], tv, .int .i64 z]) ∧ drawn ar ∧ SlI w.heap.size w'.heap.size w' sv ar ∧ SlI w.heap.size w'.heap.size w' tv t ∧ t.length ≤ 1000 ∧ -1000 ≤ z ∧ z ≤ 1000 ∧ Bel w w'
end Go.Proofs.Ytikllmdmifecpaa
end
section
/- Contracts with the answers named. -/
namespace Go.Proofs.Ytikllmdmifecpaa
open Go.RowKit

theorem SlB.bel {w w' : World} {v : Value} {n : Nat} (h : SlB w.heap.size w v n) (hb : Bel w w') : SlB w'.heap.size w' v n := by
  obtain ⟨ad, cap, e, hc, hr⟩ := h.chg (Chg.of_bel (lo := w.heap.size) (hi := w.heap.size) hb) (Nat.le_refl _)
  exact ⟨ad, cap, e, hc, fun hp => by obtain ⟨b, off, e1, e2, e3⟩ := hr hp; exact ⟨b, off, e1, Nat.lt_of_lt_of_le e2 hb.size, e3⟩⟩
theorem slI_n {lo hi : Nat} {w : World} {ad : Option Addr} {n c : Nat} {xs : List Int} (h : SlI lo hi w (.slice ad n c) xs) : n = xs.length := by
  obtain ⟨ad', c', e⟩ := h.form
  simp only [Value.slice.injEq] at e
  exact e.2.1
theorem SlB.form {hi : Nat} {w : World} {v : Value} {n : Nat} (h : SlB hi w v n) : ∃ a c, v = .slice a n c := by obtain ⟨a, c, e, _⟩ := h; exact ⟨a, c, e⟩
end Go.Proofs.Ytikllmdmifecpaa
end
section
/- Match: the reference's. -/
namespace Go.Proofs.Ytikllmdmifecpaa
open Go.RowKit Go.Maps

/-- The first k have been taken back where they bind a variable to itself. -/
def mixF (F : Nat → List Int) (k : Nat) : Nat → List Int := fun v => if v < k then stayF F v else F v
theorem mixF_zero (F : Nat → List Int) : mixF F 0 = F := by funext v; simp [mixF]
theorem mixF_succ (F : Nat → List Int) (k : Nat) : upd (mixF F k) k (stayF F k) = mixF F (k+1) := by
  funext v
  unfold upd mixF
  by_cases e : v = k
  · subst e; simp
  · by_cases h : v < k
    · rw [if_neg e, if_pos h, if_pos (by omega)]
    · rw [if_neg e, if_neg h, if_neg (by omega)]
theorem mixF_at (F : Nat → List Int) (k : Nat) : mixF F k k = F k := by simp [mixF]
theorem rawL_mix (F : Nat → List Int) : rawL (mixF F 12) = substL F := by
  unfold rawL substL
  apply List.map_congr_left
  intro v hv
  rw [List.mem_range] at hv
  simp [mixF, hv]
theorem made12 (w : World) : (Instr.makeSlice 26 (.int .i64 12) (.int .i64 12)).run Try.prog w = .ok (.slice (some ⟨w.heap.size, 0, none⟩) 12 12) (w.alloc (.cells (madeCells #[.slice none 0 0] 12) 22)) :=
  Go.run_make_row' 26 22 (.slice none 0 0) 24 Try.underlying26 Try.info22 rfl .i64 .i64 12 (by omega) (by omega) w
theorem rep12 (w : World) : (w.alloc (.cells (madeCells #[.slice none 0 0] 12) 22)).ownsRow w.heap.size 22 1 (.slice (some ⟨w.heap.size, 0, none⟩) 12 12) 12 (List.replicate 12 (Value.slice none 0 0)) := by
  have h := World.ownsRow_lit (e := 22) (base := w.heap.size) (size := 1) w (madeCells #[.slice none 0 0] 12) 12 (Nat.le_refl _) (by unfold maxLen; omega) (by rw [← Array.length_toList, toList_madeCells_one]; simp)
  rw [toList_madeCells_one] at h
  exact h
theorem arr12 {w w' : World} {base B : Nat} (hb : base ≤ w.heap.size) (hB : B = w.heap.size) (hw : Bel (w.alloc (.cells (madeCells #[.slice none 0 0] 12) 22)) w') :
    Arr base B (fun _ => 2) w' (List.replicate 12 (Value.slice none 0 0)) (fun _ => []) := by
  subst hB
  exact Arr.fresh ((show OwnT base (fun _ => 2) 2 22 (w.alloc (.cells (madeCells #[.slice none 0 0] 12) 22)) (.slice (some ⟨w.heap.size, 0, none⟩) 12 12) (List.replicate 12 (Value.slice none 0 0)) from ⟨by simpa using row_mono (rep12 w) hb, fun _ _ => rfl⟩).bel hw)

set_option maxRecDepth 100000 in
set_option maxHeartbeats 1000000 in
theorem sMatch_t {l h l' h' l2 h2 : Nat} {v x y : Value} {ar p t : List Int} {w : World} (ha : ar.length ≤ 1048576) (hv : SlI l h w v ar) (hpl : p.length ≤ 1048576) (hx : SlI l' h' w x p) (htl : t.length ≤ 1048576) (hy : SlI l2 h2 w y t) :
    Calls Try.prog 10 #[.agg #[v], x, y] w (RetSSB w (matchAns ar p t) (matchOk ar p t)) := by
  cases hs : goodTerm ar p with
  | false =>
    have h0 : matchOk0 ar p t = false := by simp [matchOk0, hs]
    have E := Lib.hid (match_no0 h0).1
    have E2 := Lib.hid (match_no0 h0).2
    have HS := Lib.hid hs; clear hs h0
    go_enter Try.func10, Try.ntmps10
    go_wp2_with fail
    refine (sGoodTerm_v _ _ _ _ _ _ _ _ _ _ HS.out ha hpl (hv.alloc _) (hx.alloc _)).mono ?_; rintro e w1 ⟨rfl, hb1⟩
    go_wp2_with fail
    go_ret2
    exact ⟨_, _, _, by rw [E2.out]; rfl, by rw [E.out]; exact OwnS.nil _ _ _, hb1.of_alloc⟩
  | true =>
    obtain ⟨hg, hop⟩ := goodTerm_iff.1 hs
    cases hs2 : okTerm ar t with
    | false =>
      have h0 : matchOk0 ar p t = false := by simp [matchOk0, hs2]
      have E := Lib.hid (match_no0 h0).1
      have E2 := Lib.hid (match_no0 h0).2
      have HS := Lib.hid (And.intro hs hs2); clear hs hs2 h0
      go_enter Try.func10, Try.ntmps10
      go_wp2_with fail
      refine (sGoodTerm_v _ _ _ _ _ _ _ _ _ _ HS.out.1 ha hpl (hv.alloc _) (hx.alloc _)).mono ?_; rintro e w1 ⟨rfl, hb1⟩
      have hx1 := boxc hb1 0 _ rfl
      go_wp2_with fail
      refine (l1Term_v _ _ _ _ _ _ _ _ _ _ HS.out.2 hg htl (hv.below hb1.of_alloc) (hy.below hb1.of_alloc)).mono ?_; rintro e w2 ⟨rfl, hb2⟩
      go_wp2_with fail
      go_ret2
      exact ⟨_, _, _, by rw [E2.out]; rfl, by rw [E.out]; exact OwnS.nil _ _ _, (hb1.step hb2).of_alloc⟩
    | true =>
      have h00 : matchOk0 ar p t = true := by simp [matchOk0, hs, hs2]
      have hot := hs2
      have HS := Lib.hid (And.intro (And.intro hs hs2) h00); clear hs hs2 h00
      have HO := Lib.hid (And.intro hop hot); clear hop hot
      obtain ⟨xa, xc, rfl⟩ := hx.form
      obtain ⟨ya, yc, rfl⟩ := hy.form
      go_enter Try.func10, Try.ntmps10
      go_wp2_with fail
      refine (sGoodTerm_v _ _ _ _ _ _ _ _ _ _ HS.out.1.1 ha hpl (hv.alloc _) (hx.alloc _)).mono ?_; rintro e w1 ⟨rfl, hb1⟩
      have hx1 := boxc hb1 0 _ rfl
      go_wp2_with fail
      refine (l1Term_v _ _ _ _ _ _ _ _ _ _ HS.out.1.2 hg htl (hv.below hb1.of_alloc) (hy.below hb1.of_alloc)).mono ?_; rintro e w2 ⟨rfl, hb2⟩
      have hb12 := hb1.step hb2
      have hx2 := boxc hb12 0 _ rfl
      have hbl2 : w.heap.size < w2.heap.size := by have := hb12.size; simp at this; omega
      have hvw := (hv.below hb12.of_alloc).in'
      have hxw := (hx.below hb12.of_alloc).in'
      have hyw := (hy.below hb12.of_alloc).in'
      have HL := Lib.hid (fun (B : Nat) (w' : World) (hb : Bel w2 w') (hA : Arr w2.heap.size B (fun _ => 2) w' (List.replicate 12 (Value.slice none 0 0)) (fun _ => [])) (hB : w2.heap.size ≤ B) => l2Match_c w2.heap.size B (fun _ => 2) _ v _ _ ar p t w' hB hg HO.out.1 HO.out.2 hA (hvw.below hb) (hxw.below hb) (hyw.below hb))
      clear hv hx hy hb1 hb2 hx1 hvw hxw hyw
      have hmk := made12
      cases hR : matchR ar p t with
      | none =>
        have E := Lib.hid (match_no hR).1
        have E2 := Lib.hid (match_no hR).2
        have HL := Lib.hid (fun (B : Nat) (w' : World) (hb : Bel w2 w') (hA : Arr w2.heap.size B (fun _ => 2) w' (List.replicate 12 (Value.slice none 0 0)) (fun _ => [])) (hB : w2.heap.size ≤ B) => hR ▸ HL.out B w' hb hA hB)
        clear hR
        go_wp2_with fail
        go_region_held3 (fun w' => Bel w2 w' ∧ w'.cell? ⟨w.heap.size, 0, none⟩ = some v)
          (first | exact ⟨Bel.drew0 _, hx2⟩ | exact ⟨Bel.alloc (Bel.drew0 _) _, (Bel.alloc (Bel.drew0 _) _).at hbl2 hx2⟩ | exact ⟨Bel.drew (Bel.alloc0 _ _), (Bel.drew (Bel.alloc0 _ _)).at hbl2 hx2⟩ | exact ⟨hB4, hB4.at hbl2 hx2⟩)
          (first | (go_at_call 72; refine (HL.out w2.heap.size _ (by first | exact Bel.drew (Bel.alloc0 _ _) | exact Bel.alloc (Bel.drew0 _) _) (by first | exact arr12 (Nat.le_refl _) rfl (Bel.rfl' _) | exact arr12 (Nat.le_refl _) rfl (Bel.drew0 _)) (Nat.le_refl _)).mono ?_; rintro e w4 ⟨hch, rfl⟩; have hB4 : Bel w2 w4 := hch.bel (by first | exact Bel.drew (Bel.alloc0 _ _) | exact Bel.alloc (Bel.drew0 _) _) (Nat.le_refl _)))
        go_wp2_with fail
        go_ret2
        exact ⟨_, _, _, by rw [E2.out]; rfl, by rw [E.out]; exact OwnS.nil _ _ _, (hb12.step hB4).of_alloc⟩
      | some F =>
        have E := Lib.hid (match_yes HS.out.2 hR).1
        have E2 := Lib.hid (match_yes HS.out.2 hR).2
        have HL := Lib.hid (fun (B : Nat) (w' : World) (hb : Bel w2 w') (hA : Arr w2.heap.size B (fun _ => 2) w' (List.replicate 12 (Value.slice none 0 0)) (fun _ => [])) (hB : w2.heap.size ≤ B) => hR ▸ HL.out B w' hb hA hB)
        have hF40 := mg_len HO.out.2 p p.length 0 0 (fun _ => []) F (by omega) (by omega) (Pair2.start HO.out.1 HO.out.2) (by simp) (by simpa [matchR] using hR)
        clear hR
        go_wp2_with fail
        go_region_held3 (fun w' => Bel w2 w' ∧ w'.cell? ⟨w.heap.size, 0, none⟩ = some v)
          (first | exact ⟨Bel.drew0 _, hx2⟩ | exact ⟨Bel.alloc (Bel.drew0 _) _, (Bel.alloc (Bel.drew0 _) _).at hbl2 hx2⟩ | exact ⟨Bel.drew (Bel.alloc0 _ _), (Bel.drew (Bel.alloc0 _ _)).at hbl2 hx2⟩ | exact ⟨hB4, hB4.at hbl2 hx2⟩)
          (first | (go_at_call 72; refine (HL.out w2.heap.size _ (by first | exact Bel.drew (Bel.alloc0 _ _) | exact Bel.alloc (Bel.drew0 _) _) (by first | exact arr12 (Nat.le_refl _) rfl (Bel.rfl' _) | exact arr12 (Nat.le_refl _) rfl (Bel.drew0 _)) (Nat.le_refl _)).mono ?_; rintro e w4 ⟨hch, rfl, hArr⟩; have hB4 : Bel w2 w4 := hch.bel (by first | exact Bel.drew (Bel.alloc0 _ _) | exact Bel.alloc (Bel.drew0 _) _) (Nat.le_refl _)))
        obtain ⟨tag4, us4, hA4⟩ := hArr
        go_wp2_with fail
        go_loopw [33] (fun i wr => ∃ (k : Nat) (tag : Nat → Nat) (us : List Value), k ≤ 12 ∧ i = .int .i64 k ∧ Arr w2.heap.size w2.heap.size tag wr us (mixF F k) ∧ w4.heap.size ≤ wr.heap.size ∧ Bel w2 wr) (fun i _ => 12 - (intOf i).toNat)
        case atStart => exact ⟨0, tag4, us4, Nat.zero_le _, rfl, by rw [mixF_zero]; exact hA4, Nat.le_refl _, hB4⟩
        case round =>
          clear hA4
          obtain ⟨k, tag, us, hk, rfl, hA, hsz, hb⟩ := hrel
          by_cases hlt : k < 12
          · obtain ⟨au, cu, hcu, -, hfu, hUr⟩ := hA.cell k hlt
            rw [mixF_at] at hcu hUr
            have hUs := hUr.sl
            have hlt64 : (k : Int) < 12 := by omega
            have hsucc := mixF_succ F k
            have hlB : w2.heap.size < wr.heap.size := hA.2.1.lt rfl
            by_cases hst0 : F k = [-1 - (k : Int)]
            · have hsF : stayF F k = [] := by unfold stayF; rw [if_pos hst0]
              rw [hsF] at hsucc
              have HY := Lib.hid (l2Stay_y _ _ _ (F k) k wr hlt hst0 hUs)
              have HF := Lib.hid (And.intro hsucc hA)
              clear hst0 hsF hsucc hA hUr hUs
              generalize (F k).length = nk at *
              go_wp2_with fail
              refine HY.out.mono ?_; rintro e w6 ⟨rfl, hb6⟩
              have hcu6 := hb6.at hlB hcu
              have hfu6 := (World.frozen?_of_block (w := wr) (w' := w6) (a := ⟨w2.heap.size, k, none⟩) (hb6.block w2.heap.size hlB)).trans hfu
              go_wp2_with fail
              have hst := (HF.out.2.bel hb6).set k hlt (tag' := tag) (x := []) (u := .slice none 0 0) (fun _ _ _ _ h => h) (OwnT.nil _ _ _ _ _)
              rw [HF.out.1] at hst
              go_roundw
              case rel => exact ⟨k+1, tag, _, by omega, by go_num, hst, by have := hb6.size; simp; omega, (hb.step hb6).setCell (p := ⟨w2.heap.size, k, none⟩) (Nat.le_refl _) _⟩
              case measure => simp [intOf]; omega
            · have hsF : stayF F k = F k := by unfold stayF; rw [if_neg hst0]
              rw [hsF] at hsucc
              have HY := Lib.hid (l2Stay_n _ _ _ (F k) k wr hlt hst0 hUs)
              have HF := Lib.hid (And.intro hsucc (And.intro hA hUr))
              clear hst0 hsF hsucc hA hUr hUs
              generalize hnk : (F k).length = nk at *
              have HNK := Lib.hid hnk
              clear hnk
              go_wp2_with fail
              refine HY.out.mono ?_; rintro e w6 ⟨rfl, hb6⟩
              have hcu6 := hb6.at hlB hcu
              have hfu6 := (World.frozen?_of_block (w := wr) (w' := w6) (a := ⟨w2.heap.size, k, none⟩) (hb6.block w2.heap.size hlB)).trans hfu
              go_wp2_with fail
              have hst := (HF.out.2.1.bel hb6).set k hlt (tag' := tag) (x := F k) (fun _ _ _ _ h => h) (HF.out.2.2.bel hb6)
              rw [HF.out.1] at hst
              go_roundw
              case rel => exact ⟨k+1, tag, _, by omega, by go_num, hst, by have := hb6.size; simp; omega, (hb.step hb6).setCell (p := ⟨w2.heap.size, k, none⟩) (Nat.le_refl _) _⟩
              case measure => simp [intOf]; omega
          · obtain rfl : k = 12 := by omega
            have hO := hA.2.1
            have hI := hA.2.2
            rw [rawL_mix] at hI
            clear hA
            go_wp2_with fail
            go_ret2
            exact ⟨_, _, _, by rw [E2.out]; rfl, by rw [E.out]; exact (OwnS.of_tag hO hI (by omega)).mono (by omega) (Nat.le_refl _), (hb12.step hb).of_alloc⟩
end Go.Proofs.Ytikllmdmifecpaa
end
section
/- The least number of a loop's relation, as its measure. -/
namespace Go.Proofs.Ytikllmdmifecpaa

theorem least_ex (P : Nat → Prop) : ∀ k, P k → ∃ j, P j ∧ ∀ i, P i → j ≤ i := by
  intro k
  induction k using Nat.strongRecOn with
  | ind k ih =>
    intro h
    rcases Classical.em (∃ i, i < k ∧ P i) with ⟨i, hi, hp⟩ | hn
    · exact ih i hi hp
    · refine ⟨k, h, fun i hp => ?_⟩
      rcases Nat.lt_or_ge i k with h1 | h1
      · exact absurd ⟨i, h1, hp⟩ hn
      · exact h1
noncomputable def leastOf (P : Nat → Prop) : Nat := by
  classical exact if h : ∃ k, P k then Classical.choose (least_ex P h.choose h.choose_spec) else 0
theorem leastOf_spec {P : Nat → Prop} (h : ∃ k, P k) : P (leastOf P) ∧ ∀ i, P i → leastOf P ≤ i := by
  unfold leastOf
  rw [dif_pos h]
  exact Classical.choose_spec (least_ex P h.choose h.choose_spec)
theorem least_at {P : Nat → Prop} (h : ∃ k, P k) : ∃ k, P k ∧ leastOf P = k := ⟨_, (leastOf_spec h).1, rfl⟩
theorem least_lt {P Q : Nat → Prop} {j k : Nat} (hq : Q j) (hj : j < k) (hk : leastOf P = k) : leastOf Q < leastOf P := by
  have := (leastOf_spec ⟨j, hq⟩).2 j hq
  omega
end Go.Proofs.Ytikllmdmifecpaa
end
section
/- The draws: a substitution. -/
namespace Go.Proofs.Ytikllmdmifecpaa
open Go.RowKit Go.Maps

theorem SlS.cut1 {lo hi : Nat} {w : World} {b off n c : Nat} {xss : List (List Int)} (h : SlS lo hi w (.slice (some ⟨b, off, none⟩) n c) xss) (hp : 0 < xss.length) :
    SlS lo hi w (.slice (some ⟨b, off + 1, none⟩) (n - 1) (c - 1)) (xss.drop 1) := by
  obtain ⟨ad, cap, e, hc, hm, hr⟩ := h
  simp only [Value.slice.injEq] at e
  obtain ⟨rfl, rfl, rfl⟩ := e
  have hdl : (xss.drop 1).length = xss.length - 1 := by simp
  refine ⟨some ⟨b, off + 1, none⟩, c - 1, by rw [hdl], by rw [hdl]; omega, ⟨by have := hm.1; omega, fun h => by simp at h⟩, fun hp2 => ?_⟩
  obtain ⟨b', off', e2, a1, a2, a3⟩ := hr hp
  simp only [Option.some.injEq, Addr.mk.injEq, and_true] at e2
  obtain ⟨rfl, rfl⟩ := e2
  refine ⟨b, off + 1, rfl, a1, a2, fun j hj => ?_⟩
  simp at hj
  obtain ⟨u, h1, h2⟩ := a3 (j + 1) (by omega)
  refine ⟨u, by rw [show off + 1 + j = off + (j + 1) by omega]; exact h1, ?_⟩
  rw [show (xss.drop 1).getD j [] = xss.getD (j+1) [] from by simp only [List.getD, List.getElem?_drop]; rw [Nat.add_comm 1 j]]
  exact h2
theorem Arr.cur {base B b : Nat} {tag : Nat → Nat} {w w' : World} {us : List Value} {F : Nat → List Int} (h : Arr base B tag w us F) (hb : b < base) (k : Chg b (b+1) w w') : Arr base B tag w' us F :=
  h.all fun _ _ _ _ ho => ho.chgMap hb k
theorem tag_newC {base tag e w w1 v xs b} (t : Nat) (hown : w1.ownsRow w.heap.size e 1 v xs.length xs) (hb : Chg b (b+1) w w1) (hbb : b < base) (hbase : base ≤ w.heap.size) :
    ∃ tag', OwnT base tag' t e w1 v xs ∧ ∀ t' e' u zs, OwnT base tag t' e' w u zs → OwnT base tag' t' e' w1 u zs := by
  refine ⟨fun g => if w.heap.size ≤ g then t else tag g, ⟨row_mono hown hbase, fun g hg => ?_⟩, fun t' e' u zs ho => ⟨(ho.chgMap hbb hb).1, fun g hg => ?_⟩⟩
  · have := own_base hown g hg
    simp [this]
  · have := ho.lt hg
    show (if w.heap.size ≤ g then t else tag g) = t'
    rw [if_neg (by omega)]; exact ho.2 g hg
theorem arr_row {base B b : Nat} {tag : Nat → Nat} {w w5 w6 : World} {us : List Value} {F : Nat → List Int} {v : Value} {t : List Int} (h : Arr base B tag w us F) (hbb : b < base) (k5 : Chg b (b+1) w w5) (k6 : Chg b (b+1) w5 w6) (hbase : base ≤ w5.heap.size) (hrow : w6.ownsRow w5.heap.size 3 1 v t.length (t.map (Value.int .i64))) (y : Nat) (hy : y < 12) :
    ∃ tag6, OwnT base tag6 (10 + y) 3 w6 v (t.map (Value.int .i64)) ∧ Arr base B tag6 w6 us F ∧ ∃ a c, w6.cell? ⟨B, y, none⟩ = some (.slice a (F y).length c) ∧ w6.frozen? ⟨B, y, none⟩ = false := by
  obtain ⟨tag6, hX, hT⟩ := tag_newC (tag := tag) (base := base) (t := 10 + y) (xs := t.map (Value.int .i64)) (w := w5) (w1 := w6) (by simpa using hrow) k6 hbb hbase
  have hA := (h.cur hbb k5).all hT
  obtain ⟨a, c, h1, -, h2, -⟩ := hA.cell y hy
  exact ⟨tag6, hX, hA, a, c, h1, h2⟩
/-- A substitution of the draws: lists of new blocks. -/
def RetSD (b n k d : Nat) (w : World) (e : Ending) (w' : World) : Prop :=
  ∃ (ad : Option Addr) (c : Nat) (l : List (List Int)) (k' : Nat), e = .returned (.slice ad l.length c) ∧ SlS w.heap.size w'.heap.size w' (.slice ad l.length c) l ∧ l.length ≤ 12 ∧ (∀ j, (l.getD j []).length ≤ 1000) ∧ k ≤ k' ∧ k' ≤ k + d ∧ Cur b n k' w' ∧ Chg b (b+1) w w'

set_option maxRecDepth 100000 in
set_option maxHeartbeats 1000000 in
theorem subst_d (b n k lo hi : Nat) (v : Value) (ar : List Int) (w : World) (hn : n ≤ 1099511627776) (hk : k ≤ 1000000000) (hdr : drawn ar) (hblo : b < lo) (hhi : hi ≤ w.heap.size) (hc : Cur b n k w) (hv : SlI lo hi w v ar) :
    Calls Try.prog 81 #[.pointer (some ⟨b, 0, none⟩), .agg #[v]] w (RetSD b n k 20000 w) := by
  have hbl := hc.lt
  have hmk := made12
  have hB1 := Bel.alloc0 w (.cells #[v] 29)
  have hs1 : (w.alloc (.cells #[v] 29)).heap.size = w.heap.size + 1 := by simp
  have hbx1 : (w.alloc (.cells #[v] 29)).cell? ⟨w.heap.size, 0, none⟩ = some v := by rw [World.cell?_alloc_new w]; rfl
  have hc1 := hc.below hB1
  have hv1 := hv.below hB1
  have hg1 := Chg.of_bel (lo := b) (hi := b + 1) hB1
  go_enter Try.func81, Try.ntmps81
  go_wp2_with fail
  have hB2 := Bel.alloc0 (w.alloc (.cells #[v] 29)) (.cells (madeCells #[.slice none 0 0] 12) 22)
  have hA2 : Arr (w.heap.size + 1) (w.heap.size + 1) (fun _ => 2) ((w.alloc (.cells #[v] 29)).alloc (.cells (madeCells #[.slice none 0 0] 12) 22)) (List.replicate 12 (Value.slice none 0 0)) (fun _ => []) := arr12 (by simp) (by simp) (Bel.rfl' _)
  have hbx2 := hB2.at (by simp) hbx1
  have hc2 := hc1.below hB2
  have hv2 := hv1.below hB2
  have hg2 := hg1.trans (Chg.of_bel (lo := b) (hi := b + 1) hB2)
  clear hB1 hB2 hbx1 hc1 hv1 hg1
  refine (pick_c b n k 5 5 _ rfl hn (by omega) (by omega) hc2).mono ?_; rintro e w1 ⟨x, k1, rfl, hx, hk1, hk2, hc3, hg3⟩
  have hA3 := hA2.cur (by omega) hg3
  have hbx3 := hg3.cell (by simp; omega) (by omega) hbx2
  have hv3 := hv2.chg hg3 (by omega)
  have hg4 := hg2.trans hg3
  clear hA2 hbx2 hc2 hv2 hg2 hg3
  go_wp2_with fail
  go_loopw [6] (fun i wr => ∃ (j k9 : Nat) (tag : Nat → Nat) (us : List Value) (F : Nat → List Int), j ≤ 4 ∧ i = .int .i64 j ∧ Arr (w.heap.size + 1) (w.heap.size + 1) tag wr us F ∧ (∀ v, (F v).length ≤ 1000) ∧ k ≤ k9 ∧ k9 + 4500 * j ≤ k + 18010 ∧ Cur b n k9 wr ∧ wr.cell? ⟨w.heap.size, 0, none⟩ = some v ∧ SlI lo hi wr v ar ∧ Chg b (b+1) w wr) (fun i _ => (intOf i).toNat)
  case atStart => exact ⟨x, k1, _, _, _, by omega, rfl, hA3, fun _ => by simp, by omega, by omega, hc3, hbx3, hv3, hg4⟩
  case round =>
    clear hA3 hbx3 hc3 hv3 hg4
    obtain ⟨j, k9, tag, us, F, hj, rfl, hA, hF, hk9, hk8, hcr, hbr, hvr, hgr⟩ := hrel
    by_cases hlt : 0 < j
    · have hw13 := IntWalk.i64_in ((j : Int) - 1) (by omega)
      have hszr : w.heap.size + 1 < wr.heap.size := hA.2.1.lt rfl
      have HW13 := Lib.hid (IntWalk.i64_in ((j : Int) - 1) (by omega))
      have HTm := Lib.hid (fun (w5 : World) (q k5 : Nat) (hq : q < 2 + (1 - 2)) (hk5 : k5 ≤ k9 + 4) (hc5 : Cur b n k5 w5) (hg5 : Chg b (b+1) wr w5) => term_z b n (1 + q) 4 k5 lo hi (1 + (q : Int)) 4 v ar w5 (by omega) rfl hn (by omega) (by omega) hdr hblo (by omega) (by omega) hc5 (hvr.chg hg5 (by omega)))
      have HAr := Lib.hid (fun (w5 w6 : World) (y : Nat) (v : Value) (t : List Int) (k5 : Chg b (b+1) wr w5) (k6 : Chg b (b+1) w5 w6) (hrow : w6.ownsRow w5.heap.size 3 1 v t.length (t.map (Value.int .i64))) (hy : y < 12) => arr_row hA (by omega) k5 k6 (by have := k5.size; omega) hrow y hy)
      go_wp2_with fail
      go_region_held3 (fun w' => w'.cell? ⟨w.heap.size, 0, none⟩ = some v)
        (first | exact hbr | exact hb4 | exact hb5 | exact hb6 | exact hb7 | fail)
        (first
          | (go_at_call 128; refine (pick_c b n k9 _ 4 _ (by decide) hn (by omega) (by omega) (hcr.below (Bel.drew0 wr))).mono ?_; rintro e w4 ⟨y, k4, rfl, hy, hk41, hk42, hc4, hg4⟩; have hyl : (y : Int) < 12 := (by omega); replace hg4 := (Chg.of_bel (lo := b) (hi := b+1) (Bel.drew0 wr)).trans hg4; have hb4 := hg4.cell (by omega) (by omega) hbr)
          | (go_at_call 128; refine (pick_c b n k4 _ 2 w4 (by decide) hn (by omega) (by omega) hc4).mono ?_; rintro e w5 ⟨q, k5, rfl, hq, hk51, hk52, hc5, hg5⟩; replace hg5 := hg4.trans hg5; have hb5 := hg5.cell (by omega) (by omega) hbr; have hw21 := IntWalk.i64_in (1 + (q : Int)) (by omega))
          | (go_at_call 129; clear hw21; refine (HTm.out w5 q k5 hq (by omega) hc5 hg5).mono ?_; rintro e w6 ⟨a6, m6, c6, t6, k6, rfl, hrow6, ht1, ht2, -, hk61, hk62, hc6, hg6⟩; have hm6 := row_len hrow6; subst hm6; have hb6 := (hg5.trans hg6).cell (by omega) (by omega) hbr; obtain ⟨tag6, hX6, hA6, au, cu, hcu, hfu⟩ := HAr.out w5 w6 y _ t6 hg5 hg6 hrow6 (by omega); have hb7 := (World.cell?_setCell_other w6 ⟨w.heap.size + 1, y, none⟩ ⟨w.heap.size, 0, none⟩ (.slice a6 t6.length c6) (fun h => (Nat.succ_ne_self w.heap.size) (congrArg Addr.block h))).trans hb6)
          | fail)
      have hstp := hA6.set y (by omega) (fun _ _ _ _ h => h) hX6
      have htl := tl_le (1 + q) (by omega)
      have hF6 : ∀ g, (upd F y t6 g).length ≤ 1000 := fun g => by unfold upd; split; omega; exact hF g
      have hgAll := hg5.trans hg6
      have hset := Chg.set (lo := w.heap.size + 1) (hi := w.heap.size + 2) (p := ⟨w.heap.size + 1, y, none⟩) w6 (by simp) (by simp) (.slice a6 t6.length c6)
      have hcF := hc6.chg hset (by omega)
      have hvF := (hvr.chg hgAll (by omega)).set (p := ⟨w.heap.size + 1, y, none⟩) (.inr (by simp; omega)) (.slice a6 t6.length c6)
      have hgF := (hgr.trans hgAll).news hset (by omega)
      have hw13 := HW13.out
      clear hA hA6 hX6 hrow6 hcu hfu hb4 hb5 hb6 HTm HAr hc4 hc5 hc6 hg4 hg5 hg6
      go_wp2_with fail
      clear hw13
      exact ⟨⟨j - 1, k6, tag6, _, _, by omega, by go_num, hstp, hF6, by omega, by omega, hcF, hb7, hvF, hgF⟩, by simp [intOf]; omega⟩
    · obtain rfl : j = 0 := by omega
      have HA := Lib.hid hA
      clear hA
      go_wp2_with fail
      refine (one_c b n k9 _ 40 _ rfl hn (by omega) (by omega) hcr).mono ?_; rintro e w2 ⟨q, k2, rfl, hk21, hk22, hc2, hg2⟩
      have hA2 := HA.out.cur (by omega) hg2
      have hS2 : SlS (w.heap.size + 1) w2.heap.size w2 (.slice (some ⟨w.heap.size + 1, 0, none⟩) 12 12) (rawL F) := (OwnS.of_tag hA2.2.1 hA2.2.2 (by omega)).sl
      have hrl := rawL_len F
      have hFr : ∀ j, ((rawL F).getD j []).length ≤ 1000 := by
        intro j
        by_cases hj : j < 12
        · rw [rawL_get F j hj]; exact hF j
        · simp [List.getD, List.getElem?_eq_none (show (rawL F).length ≤ j by omega)]
      have hgW := hgr.trans hg2
      cases q with
      | true =>
        go_wp2_with fail
        go_ret
        refine ⟨some ⟨w.heap.size + 1, 1, none⟩, 11, (rawL F).drop 1, k2, by rw [List.length_drop, hrl]; rfl, ?_, by rw [List.length_drop, hrl]; omega, fun j => ?_, by omega, by omega, hc2, hgW⟩
        · have := (hS2.cut1 (by omega)).mono (show w.heap.size ≤ w.heap.size + 1 by omega) (Nat.le_refl _)
          rw [List.length_drop, hrl]
          exact this
        · rw [show ((rawL F).drop 1).getD j [] = (rawL F).getD (j+1) [] from by simp only [List.getD, List.getElem?_drop]; rw [Nat.add_comm 1 j]]
          exact hFr (j+1)
      | false =>
        go_wp2_with fail
        go_ret
        exact ⟨some ⟨w.heap.size + 1, 0, none⟩, 12, rawL F, k2, by rw [hrl]; rfl, by rw [hrl]; exact hS2.mono (by omega) (Nat.le_refl _), by omega, hFr, by omega, by omega, hc2, hgW⟩
end Go.Proofs.Ytikllmdmifecpaa
end
section
/- Apply, IsUnifier: both functions. -/
namespace Go.Proofs.Ytikllmdmifecpaa
open Go.RowKit

def unifAns (ar : List Int) (b : List (List Int)) (t r : List Int) : Bool := applyOk ar b t && applyOk ar b r && decide (applyAns ar b t = applyAns ar b r)

set_option maxRecDepth 100000 in
set_option maxHeartbeats 400000 in
theorem sApply_t {l h l' h' l2 h2 : Nat} {v u x : Value} {ar : List Int} {b : List (List Int)} {t : List Int} {w : World} (ha : ar.length ≤ 1048576) (hv : SlI l h w v ar) (hb : short b) (hu : SlS l' h' w u b) (ht : t.length ≤ 1048576) (hx : SlI l2 h2 w x t) :
    Calls Try.prog 80 #[.agg #[v], u, x] w (RetIB w (applyAns ar b t) (applyOk ar b t)) := by
  cases hs : goodSubst ar b with
  | false =>
    have E := Lib.hid (applyAns_no (show applyOk ar b t = false by simp [applyOk, hs]))
    have E2 : Hid (applyOk ar b t = false) := by show _ = _; simp [applyOk, hs]
    have HS := Lib.hid hs; clear hs
    go_enter Try.func80, Try.ntmps80
    go_wp2_with fail
    refine (sGoodSubst_v _ _ _ _ _ _ _ _ _ _ HS.out ha (hv.alloc _) hb (hu.alloc _)).mono ?_; rintro e w1 ⟨rfl, hb1⟩
    go_wp2_with fail
    go_ret2
    exact ⟨_, _, _, by rw [E2.out]; rfl, by rw [E.out]; exact OwnI.nil _ _ _, hb1.of_alloc⟩
  | true =>
    have hg := (goodSubst_iff.1 hs).1
    cases htt : okTerm ar t with
    | false =>
      have E := Lib.hid (applyAns_no (show applyOk ar b t = false by simp [applyOk, htt]))
      have E2 : Hid (applyOk ar b t = false) := by show _ = _; simp [applyOk, htt]
      have HS := Lib.hid hs
      have HT := Lib.hid htt
      clear hs htt
      go_enter Try.func80, Try.ntmps80
      go_wp2_with fail
      refine (sGoodSubst_v _ _ _ _ _ _ _ _ _ _ HS.out ha (hv.alloc _) hb (hu.alloc _)).mono ?_; rintro e w1 ⟨rfl, hb1⟩
      have hx1 := boxc hb1 0 _ rfl
      go_wp2_with fail
      refine (l1Term_v _ _ _ _ _ _ _ _ _ _ HT.out hg ht (hv.below hb1.of_alloc) (hx.below hb1.of_alloc)).mono ?_; rintro e w2 ⟨rfl, hb2⟩
      go_wp2_with fail
      go_ret2
      exact ⟨_, _, _, by rw [E2.out]; rfl, by rw [E.out]; exact OwnI.nil _ _ _, (hb1.step hb2).of_alloc⟩
    | true =>
      have hlow := okTerm_low htt
      have ht40 := ((okTerm_iff _ _).1 htt).2.1
      have h40 := goodSubst_len40 hs
      have hal := appT_len h40 t
      have h12 := (goodSubst_iff.1 hs).2.1
      have hok := app_ok hs htt
      have HS := Lib.hid hs
      have HT := Lib.hid htt
      cases h4 : app40ok b t with
      | false =>
        have E := Lib.hid (applyAns_no (show applyOk ar b t = false by simp [applyOk, h4]))
        have E2 : Hid (applyOk ar b t = false) := by show _ = _; simp [applyOk, h4]
        have HO := Lib.hid (hok.trans h4)
        clear hs htt h4 hok
        go_enter Try.func80, Try.ntmps80
        go_wp2_with fail
        refine (sGoodSubst_v _ _ _ _ _ _ _ _ _ _ HS.out ha (hv.alloc _) hb (hu.alloc _)).mono ?_; rintro e w1 ⟨rfl, hb1⟩
        have hx1 := boxc hb1 0 _ rfl
        go_wp2_with fail
        refine (l1Term_v _ _ _ _ _ _ _ _ _ _ HT.out hg ht (hv.below hb1.of_alloc) (hx.below hb1.of_alloc)).mono ?_; rintro e w2 ⟨rfl, hb2⟩
        have hb12 := hb1.step hb2
        have hx2 := boxc hb12 0 _ rfl
        go_wp2_with fail
        refine (l2Apply_c _ _ _ _ _ _ b t _ h12 h40 (by omega) hlow (hu.below hb12.of_alloc) (hx.below hb12.of_alloc)).mono ?_; rintro e w3 ⟨ao, no, co, rfl, ho, hb3⟩
        have hb13 := hb12.step hb3
        have hx3 := boxc hb13 0 _ rfl
        go_wp2_with fail
        refine (l1Term_v _ _ _ _ _ _ ar (appT b t) _ _ HO.out hg (by omega) (hv.below hb13.of_alloc) ho.sl).mono ?_; rintro e w4 ⟨rfl, hb4⟩
        go_wp2_with fail
        go_ret2
        exact ⟨_, _, _, by rw [E2.out]; rfl, by rw [E.out]; exact OwnI.nil _ _ _, (hb13.step hb4).of_alloc⟩
      | true =>
        have hyes : applyOk ar b t = true := by simp [applyOk, h4, hs, htt]
        have E := Lib.hid (applyAns_yes hyes)
        have E2 := Lib.hid hyes
        have HO := Lib.hid (hok.trans h4)
        clear hs htt h4 hok hyes
        go_enter Try.func80, Try.ntmps80
        go_wp2_with fail
        refine (sGoodSubst_v _ _ _ _ _ _ _ _ _ _ HS.out ha (hv.alloc _) hb (hu.alloc _)).mono ?_; rintro e w1 ⟨rfl, hb1⟩
        have hx1 := boxc hb1 0 _ rfl
        go_wp2_with fail
        refine (l1Term_v _ _ _ _ _ _ _ _ _ _ HT.out hg ht (hv.below hb1.of_alloc) (hx.below hb1.of_alloc)).mono ?_; rintro e w2 ⟨rfl, hb2⟩
        have hb12 := hb1.step hb2
        have hx2 := boxc hb12 0 _ rfl
        go_wp2_with fail
        refine (l2Apply_c _ _ _ _ _ _ b t _ h12 h40 (by omega) hlow (hu.below hb12.of_alloc) (hx.below hb12.of_alloc)).mono ?_; rintro e w3 ⟨ao, no, co, rfl, ho, hb3⟩
        have hb13 := hb12.step hb3
        have hx3 := boxc hb13 0 _ rfl
        go_wp2_with fail
        refine (l1Term_v _ _ _ _ _ _ ar (appT b t) _ _ HO.out hg (by omega) (hv.below hb13.of_alloc) ho.sl).mono ?_; rintro e w4 ⟨rfl, hb4⟩
        go_wp2_with fail
        go_ret2
        exact ⟨_, _, _, by rw [E2.out]; rfl, by rw [E.out]; exact (ho.mono (by have := hb12.size; simp at this; omega) hb4.size).below hb4, (hb13.step hb4).of_alloc⟩

set_option maxRecDepth 100000 in
set_option maxHeartbeats 400000 in
theorem iApply_t {l h l' h' l2 h2 : Nat} {v u x : Value} {ar : List Int} {b : List (List Int)} {t : List Int} {w : World} (ha : ar.length ≤ 1048576) (hv : SlI l h w v ar) (hb : short b) (hu : SlS l' h' w u b) (ht : t.length ≤ 1048576) (hx : SlI l2 h2 w x t) :
    Calls Try.prog 24 #[.agg #[v], u, x] w (RetIB w (applyAns ar b t) (applyOk ar b t)) := by
  cases hs : goodSubst ar b with
  | false =>
    have E := Lib.hid (applyAns_no (show applyOk ar b t = false by simp [applyOk, hs]))
    have E2 : Hid (applyOk ar b t = false) := by show _ = _; simp [applyOk, hs]
    have HS := Lib.hid hs; clear hs
    go_enter Try.func24, Try.ntmps24
    go_wp2_with fail
    refine (iGoodSubst_v _ _ _ _ _ _ _ _ _ _ HS.out ha (hv.alloc _) hb (hu.alloc _)).mono ?_; rintro e w1 ⟨rfl, hb1⟩
    go_wp2_with fail
    go_ret2
    exact ⟨_, _, _, by rw [E2.out]; rfl, by rw [E.out]; exact OwnI.nil _ _ _, hb1.of_alloc⟩
  | true =>
    have hg := (goodSubst_iff.1 hs).1
    cases htt : okTerm ar t with
    | false =>
      have E := Lib.hid (applyAns_no (show applyOk ar b t = false by simp [applyOk, htt]))
      have E2 : Hid (applyOk ar b t = false) := by show _ = _; simp [applyOk, htt]
      have HS := Lib.hid hs
      have HT := Lib.hid htt
      clear hs htt
      go_enter Try.func24, Try.ntmps24
      go_wp2_with fail
      refine (iGoodSubst_v _ _ _ _ _ _ _ _ _ _ HS.out ha (hv.alloc _) hb (hu.alloc _)).mono ?_; rintro e w1 ⟨rfl, hb1⟩
      have hx1 := boxc hb1 0 _ rfl
      go_wp2_with fail
      refine (iGoodTerm_vv _ _ _ _ _ _ _ _ _ _ HT.out hg ha ht (hv.below hb1.of_alloc) (hx.below hb1.of_alloc)).mono ?_; rintro e w2 ⟨rfl, hb2⟩
      go_wp2_with fail
      go_ret2
      exact ⟨_, _, _, by rw [E2.out]; rfl, by rw [E.out]; exact OwnI.nil _ _ _, (hb1.step hb2).of_alloc⟩
    | true =>
      have hlow := okTerm_low htt
      have ht40 := ((okTerm_iff _ _).1 htt).2.1
      have h40 := goodSubst_len40 hs
      have h12 := (goodSubst_iff.1 hs).2.1
      have E2 : Hid (applyOk ar b t = app40ok b t) := by show _ = _; simp [applyOk, hs, htt]
      have E : Hid (applyAns ar b t = app40 b t) := by
        show _ = _
        have := E2.out
        unfold applyAns
        rw [this]
        unfold app40 app40ok
        by_cases h : 40 < (appT b t).length <;> simp [h]
      have HS := Lib.hid hs
      have HT := Lib.hid htt
      clear hs htt
      go_enter Try.func24, Try.ntmps24
      go_wp2_with fail
      refine (iGoodSubst_v _ _ _ _ _ _ _ _ _ _ HS.out ha (hv.alloc _) hb (hu.alloc _)).mono ?_; rintro e w1 ⟨rfl, hb1⟩
      have hx1 := boxc hb1 0 _ rfl
      go_wp2_with fail
      refine (iGoodTerm_vv _ _ _ _ _ _ _ _ _ _ HT.out hg ha ht (hv.below hb1.of_alloc) (hx.below hb1.of_alloc)).mono ?_; rintro e w2 ⟨rfl, hb2⟩
      have hb12 := hb1.step hb2
      go_wp2_with fail
      refine (applied_c _ _ _ _ _ _ b t _ h12 h40 (by omega) hlow (hu.below hb12.of_alloc) (hx.below hb12.of_alloc)).mono ?_; rintro e w3 ⟨ao, no, co, rfl, ho, hb3⟩
      go_wp2_with fail
      go_ret2
      exact ⟨_, _, _, by rw [E2.out]; rfl, by rw [E.out]; exact ho.mono (by have := hb12.size; simp at this; omega) (Nat.le_refl _), (hb12.step hb3).of_alloc⟩

end Go.Proofs.Ytikllmdmifecpaa
end
