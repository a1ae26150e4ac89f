/- Texts merged, part 8. -/
import Derived.Deep.OwnRows
import Derived.Shelf.SlicesE.Delete
import Derived.Lib.OwnBridge
import Derived.Test.YtkbgglejhdodoaaDoorMgLists7
section
/- Match: the reference's. -/
namespace Go.Proofs.YtkbgglejhdodoaaDoor
open Go.RowKit Go.Maps

/-- The first k have been taken back where they bind a variable to itself. -/
def mixF (F : Nat → List Int) (k : Nat) : Nat → List Int := fun v => if v < k then stayF F v else F v
theorem mixF_zero (F : Nat → List Int) : mixF F 0 = F := by funext v; simp [mixF]
theorem mixF_succ (F : Nat → List Int) (k : Nat) : upd (mixF F k) k (stayF F k) = mixF F (k+1) := by
  funext v
  unfold upd mixF
  by_cases e : v = k
  · subst e; simp
  · by_cases h : v < k
    · rw [if_neg e, if_pos h, if_pos (by omega)]
    · rw [if_neg e, if_neg h, if_neg (by omega)]
theorem mixF_at (F : Nat → List Int) (k : Nat) : mixF F k k = F k := by simp [mixF]
theorem rawL_mix (F : Nat → List Int) : rawL (mixF F 12) = substL F := by
  unfold rawL substL
  apply List.map_congr_left
  intro v hv
  rw [List.mem_range] at hv
  simp [mixF, hv]
theorem made12 (w : World) : (Instr.makeSlice 36 (.int .i64 12) (.int .i64 12)).run Tryd.prog w = .ok (.slice (some ⟨w.heap.size, 0, none⟩) 12 12) (w.alloc (.cells (madeCells #[.slice none 0 0] 12) 24)) :=
  Go.run_make_row' 36 24 (.slice none 0 0) 24 Tryd.underlying36 Tryd.info24 rfl .i64 .i64 12 (by omega) (by omega) w
theorem rep12 (w : World) : (w.alloc (.cells (madeCells #[.slice none 0 0] 12) 24)).ownsRow w.heap.size 24 1 (.slice (some ⟨w.heap.size, 0, none⟩) 12 12) 12 (List.replicate 12 (Value.slice none 0 0)) := by
  have h := World.ownsRow_lit (e := 24) (base := w.heap.size) (size := 1) w (madeCells #[.slice none 0 0] 12) 12 (Nat.le_refl _) (by unfold maxLen; omega) (by rw [← Array.length_toList, toList_madeCells_one]; simp)
  rw [toList_madeCells_one] at h
  exact h
theorem arr12 {w w' : World} {base B : Nat} (hb : base ≤ w.heap.size) (hB : B = w.heap.size) (hw : Bel (w.alloc (.cells (madeCells #[.slice none 0 0] 12) 24)) w') :
    Arr base B (fun _ => 2) w' (List.replicate 12 (Value.slice none 0 0)) (fun _ => []) := by
  subst hB
  exact Arr.fresh ((show OwnT base (fun _ => 2) 2 24 (w.alloc (.cells (madeCells #[.slice none 0 0] 12) 24)) (.slice (some ⟨w.heap.size, 0, none⟩) 12 12) (List.replicate 12 (Value.slice none 0 0)) from ⟨by simpa using row_mono (rep12 w) hb, fun _ _ => rfl⟩).bel hw)

end Go.Proofs.YtkbgglejhdodoaaDoor
end
section
/- The least number of a loop's relation, as its measure. -/
namespace Go.Proofs.YtkbgglejhdodoaaDoor

theorem least_ex (P : Nat → Prop) : ∀ k, P k → ∃ j, P j ∧ ∀ i, P i → j ≤ i := by
  intro k
  induction k using Nat.strongRecOn with
  | ind k ih =>
    intro h
    rcases Classical.em (∃ i, i < k ∧ P i) with ⟨i, hi, hp⟩ | hn
    · exact ih i hi hp
    · refine ⟨k, h, fun i hp => ?_⟩
      rcases Nat.lt_or_ge i k with h1 | h1
      · exact absurd ⟨i, h1, hp⟩ hn
      · exact h1
noncomputable def leastOf (P : Nat → Prop) : Nat := by
  classical exact if h : ∃ k, P k then Classical.choose (least_ex P h.choose h.choose_spec) else 0
theorem leastOf_spec {P : Nat → Prop} (h : ∃ k, P k) : P (leastOf P) ∧ ∀ i, P i → leastOf P ≤ i := by
  unfold leastOf
  rw [dif_pos h]
  exact Classical.choose_spec (least_ex P h.choose h.choose_spec)
theorem least_at {P : Nat → Prop} (h : ∃ k, P k) : ∃ k, P k ∧ leastOf P = k := ⟨_, (leastOf_spec h).1, rfl⟩
theorem least_lt {P Q : Nat → Prop} {j k : Nat} (hq : Q j) (hj : j < k) (hk : leastOf P = k) : leastOf Q < leastOf P := by
  have := (leastOf_spec ⟨j, hq⟩).2 j hq
  omega
end Go.Proofs.YtkbgglejhdodoaaDoor
end
section
/- The draws: a substitution. -/
namespace Go.Proofs.YtkbgglejhdodoaaDoor
open Go.RowKit Go.Maps

theorem SlS.cut1 {lo hi : Nat} {w : World} {b off n c : Nat} {xss : List (List Int)} (h : SlS lo hi w (.slice (some ⟨b, off, none⟩) n c) xss) (hp : 0 < xss.length) :
    SlS lo hi w (.slice (some ⟨b, off + 1, none⟩) (n - 1) (c - 1)) (xss.drop 1) := by
  obtain ⟨ad, cap, e, hc, hm, hr⟩ := h
  simp only [Value.slice.injEq] at e
  obtain ⟨rfl, rfl, rfl⟩ := e
  have hdl : (xss.drop 1).length = xss.length - 1 := by simp
  refine ⟨some ⟨b, off + 1, none⟩, c - 1, by rw [hdl], by rw [hdl]; omega, ⟨by have := hm.1; omega, fun h => by simp at h⟩, fun hp2 => ?_⟩
  obtain ⟨b', off', e2, a1, a2, a3⟩ := hr hp
  simp only [Option.some.injEq, Addr.mk.injEq, and_true] at e2
  obtain ⟨rfl, rfl⟩ := e2
  refine ⟨b, off + 1, rfl, a1, a2, fun j hj => ?_⟩
  simp at hj
  obtain ⟨u, h1, h2⟩ := a3 (j + 1) (by omega)
  refine ⟨u, by rw [show off + 1 + j = off + (j + 1) by omega]; exact h1, ?_⟩
  rw [show (xss.drop 1).getD j [] = xss.getD (j+1) [] from by simp only [List.getD, List.getElem?_drop]; rw [Nat.add_comm 1 j]]
  exact h2
theorem Arr.cur {base B b : Nat} {tag : Nat → Nat} {w w' : World} {us : List Value} {F : Nat → List Int} (h : Arr base B tag w us F) (hb : b < base) (k : Chg b (b+1) w w') : Arr base B tag w' us F :=
  h.all fun _ _ _ _ ho => ho.chgMap hb k
theorem tag_newC {base tag e w w1 v xs b} (t : Nat) (hown : w1.ownsRow w.heap.size e 1 v xs.length xs) (hb : Chg b (b+1) w w1) (hbb : b < base) (hbase : base ≤ w.heap.size) :
    ∃ tag', OwnT base tag' t e w1 v xs ∧ ∀ t' e' u zs, OwnT base tag t' e' w u zs → OwnT base tag' t' e' w1 u zs := by
  refine ⟨fun g => if w.heap.size ≤ g then t else tag g, ⟨row_mono hown hbase, fun g hg => ?_⟩, fun t' e' u zs ho => ⟨(ho.chgMap hbb hb).1, fun g hg => ?_⟩⟩
  · have := own_base hown g hg
    simp [this]
  · have := ho.lt hg
    show (if w.heap.size ≤ g then t else tag g) = t'
    rw [if_neg (by omega)]; exact ho.2 g hg
theorem arr_row {base B b : Nat} {tag : Nat → Nat} {w w5 w6 : World} {us : List Value} {F : Nat → List Int} {v : Value} {t : List Int} (h : Arr base B tag w us F) (hbb : b < base) (k5 : Chg b (b+1) w w5) (k6 : Chg b (b+1) w5 w6) (hbase : base ≤ w5.heap.size) (hrow : w6.ownsRow w5.heap.size 3 1 v t.length (t.map (Value.int .i64))) (y : Nat) (hy : y < 12) :
    ∃ tag6, OwnT base tag6 (10 + y) 3 w6 v (t.map (Value.int .i64)) ∧ Arr base B tag6 w6 us F ∧ ∃ a c, w6.cell? ⟨B, y, none⟩ = some (.slice a (F y).length c) ∧ w6.frozen? ⟨B, y, none⟩ = false := by
  obtain ⟨tag6, hX, hT⟩ := tag_newC (tag := tag) (base := base) (t := 10 + y) (xs := t.map (Value.int .i64)) (w := w5) (w1 := w6) (by simpa using hrow) k6 hbb hbase
  have hA := (h.cur hbb k5).all hT
  obtain ⟨a, c, h1, -, h2, -⟩ := hA.cell y hy
  exact ⟨tag6, hX, hA, a, c, h1, h2⟩
/-- A substitution of the draws: lists of new blocks. -/
def RetSD (b n k d : Nat) (w : World) (e : Ending) (w' : World) : Prop :=
  ∃ (ad : Option Addr) (c : Nat) (l : List (List Int)) (k' : Nat), e = .returned (.slice ad l.length c) ∧ SlS w.heap.size w'.heap.size w' (.slice ad l.length c) l ∧ l.length ≤ 12 ∧ (∀ j, (l.getD j []).length ≤ 1000) ∧ k ≤ k' ∧ k' ≤ k + d ∧ Cur b n k' w' ∧ Chg b (b+1) w w'

set_option maxRecDepth 100000 in
set_option maxHeartbeats 1000000 in
theorem subst_d (b n k lo hi : Nat) (v : Value) (ar : List Int) (w : World) (hn : n ≤ 1099511627776) (hk : k ≤ 1000000000) (hdr : drawn ar) (hblo : b < lo) (hhi : hi ≤ w.heap.size) (hc : Cur b n k w) (hv : SlI lo hi w v ar) :
    Calls Tryd.prog 55 #[.pointer (some ⟨b, 0, none⟩), .agg #[v]] w (RetSD b n k 20000 w) := by
  have hbl := hc.lt
  have hmk := made12
  have hB1 := Bel.alloc0 w (.cells #[v] 26)
  have hs1 : (w.alloc (.cells #[v] 26)).heap.size = w.heap.size + 1 := by simp
  have hbx1 : (w.alloc (.cells #[v] 26)).cell? ⟨w.heap.size, 0, none⟩ = some v := by rw [World.cell?_alloc_new w]; rfl
  have hc1 := hc.below hB1
  have hv1 := hv.below hB1
  have hg1 := Chg.of_bel (lo := b) (hi := b + 1) hB1
  go_enter Tryd.func55, Tryd.ntmps55
  go_wp2_with fail
  have hB2 := Bel.alloc0 (w.alloc (.cells #[v] 26)) (.cells (madeCells #[.slice none 0 0] 12) 24)
  have hA2 : Arr (w.heap.size + 1) (w.heap.size + 1) (fun _ => 2) ((w.alloc (.cells #[v] 26)).alloc (.cells (madeCells #[.slice none 0 0] 12) 24)) (List.replicate 12 (Value.slice none 0 0)) (fun _ => []) := arr12 (by simp) (by simp) (Bel.rfl' _)
  have hbx2 := hB2.at (by simp) hbx1
  have hc2 := hc1.below hB2
  have hv2 := hv1.below hB2
  have hg2 := hg1.trans (Chg.of_bel (lo := b) (hi := b + 1) hB2)
  clear hB1 hB2 hbx1 hc1 hv1 hg1
  refine (pick_c b n k 5 5 _ rfl hn (by omega) (by omega) hc2).mono ?_; rintro e w1 ⟨x, k1, rfl, hx, hk1, hk2, hc3, hg3⟩
  have hA3 := hA2.cur (by omega) hg3
  have hbx3 := hg3.cell (by simp; omega) (by omega) hbx2
  have hv3 := hv2.chg hg3 (by omega)
  have hg4 := hg2.trans hg3
  clear hA2 hbx2 hc2 hv2 hg2 hg3
  go_wp2_with fail
  go_loopw [6] (fun i wr => ∃ (j k9 : Nat) (tag : Nat → Nat) (us : List Value) (F : Nat → List Int), j ≤ 4 ∧ i = .int .i64 j ∧ Arr (w.heap.size + 1) (w.heap.size + 1) tag wr us F ∧ (∀ v, (F v).length ≤ 1000) ∧ k ≤ k9 ∧ k9 + 4500 * j ≤ k + 18010 ∧ Cur b n k9 wr ∧ wr.cell? ⟨w.heap.size, 0, none⟩ = some v ∧ SlI lo hi wr v ar ∧ Chg b (b+1) w wr) (fun i _ => (intOf i).toNat)
  case atStart => exact ⟨x, k1, _, _, _, by omega, rfl, hA3, fun _ => by simp, by omega, by omega, hc3, hbx3, hv3, hg4⟩
  case round =>
    clear hA3 hbx3 hc3 hv3 hg4
    obtain ⟨j, k9, tag, us, F, hj, rfl, hA, hF, hk9, hk8, hcr, hbr, hvr, hgr⟩ := hrel
    by_cases hlt : 0 < j
    · have hw13 := IntWalk.i64_in ((j : Int) - 1) (by omega)
      have hszr : w.heap.size + 1 < wr.heap.size := hA.2.1.lt rfl
      have HW13 := Lib.hid (IntWalk.i64_in ((j : Int) - 1) (by omega))
      have HTm := Lib.hid (fun (w5 : World) (q k5 : Nat) (hq : q < 2 + (1 - 2)) (hk5 : k5 ≤ k9 + 4) (hc5 : Cur b n k5 w5) (hg5 : Chg b (b+1) wr w5) => term_z b n (1 + q) 4 k5 lo hi (1 + (q : Int)) 4 v ar w5 (by omega) rfl hn (by omega) (by omega) hdr hblo (by omega) (by omega) hc5 (hvr.chg hg5 (by omega)))
      have HAr := Lib.hid (fun (w5 w6 : World) (y : Nat) (v : Value) (t : List Int) (k5 : Chg b (b+1) wr w5) (k6 : Chg b (b+1) w5 w6) (hrow : w6.ownsRow w5.heap.size 3 1 v t.length (t.map (Value.int .i64))) (hy : y < 12) => arr_row hA (by omega) k5 k6 (by have := k5.size; omega) hrow y hy)
      go_wp2_with fail
      go_region_held3 (fun w' => w'.cell? ⟨w.heap.size, 0, none⟩ = some v)
        (first | exact hbr | exact hb4 | exact hb5 | exact hb6 | exact hb7 | fail)
        (first
          | (go_at_call 43; refine (pick_c b n k9 _ 4 _ (by decide) hn (by omega) (by omega) (hcr.below (Bel.drew0 wr))).mono ?_; rintro e w4 ⟨y, k4, rfl, hy, hk41, hk42, hc4, hg4⟩; have hyl : (y : Int) < 12 := (by omega); replace hg4 := (Chg.of_bel (lo := b) (hi := b+1) (Bel.drew0 wr)).trans hg4; have hb4 := hg4.cell (by omega) (by omega) hbr)
          | (go_at_call 43; refine (pick_c b n k4 _ 2 w4 (by decide) hn (by omega) (by omega) hc4).mono ?_; rintro e w5 ⟨q, k5, rfl, hq, hk51, hk52, hc5, hg5⟩; replace hg5 := hg4.trans hg5; have hb5 := hg5.cell (by omega) (by omega) hbr; have hw21 := IntWalk.i64_in (1 + (q : Int)) (by omega))
          | (go_at_call 71; clear hw21; refine (HTm.out w5 q k5 hq (by omega) hc5 hg5).mono ?_; rintro e w6 ⟨a6, m6, c6, t6, k6, rfl, hrow6, ht1, ht2, -, hk61, hk62, hc6, hg6⟩; have hm6 := row_len hrow6; subst hm6; have hb6 := (hg5.trans hg6).cell (by omega) (by omega) hbr; obtain ⟨tag6, hX6, hA6, au, cu, hcu, hfu⟩ := HAr.out w5 w6 y _ t6 hg5 hg6 hrow6 (by omega); have hb7 := (World.cell?_setCell_other w6 ⟨w.heap.size + 1, y, none⟩ ⟨w.heap.size, 0, none⟩ (.slice a6 t6.length c6) (fun h => (Nat.succ_ne_self w.heap.size) (congrArg Addr.block h))).trans hb6)
          | fail)
      have hstp := hA6.set y (by omega) (fun _ _ _ _ h => h) hX6
      have htl := tl_le (1 + q) (by omega)
      have hF6 : ∀ g, (upd F y t6 g).length ≤ 1000 := fun g => by unfold upd; split; omega; exact hF g
      have hgAll := hg5.trans hg6
      have hset := Chg.set (lo := w.heap.size + 1) (hi := w.heap.size + 2) (p := ⟨w.heap.size + 1, y, none⟩) w6 (by simp) (by simp) (.slice a6 t6.length c6)
      have hcF := hc6.chg hset (by omega)
      have hvF := (hvr.chg hgAll (by omega)).set (p := ⟨w.heap.size + 1, y, none⟩) (.inr (by simp; omega)) (.slice a6 t6.length c6)
      have hgF := (hgr.trans hgAll).news hset (by omega)
      have hw13 := HW13.out
      clear hA hA6 hX6 hrow6 hcu hfu hb4 hb5 hb6 HTm HAr hc4 hc5 hc6 hg4 hg5 hg6
      go_wp2_with fail
      clear hw13
      exact ⟨⟨j - 1, k6, tag6, _, _, by omega, by go_num, hstp, hF6, by omega, by omega, hcF, hb7, hvF, hgF⟩, by simp [intOf]; omega⟩
    · obtain rfl : j = 0 := by omega
      have HA := Lib.hid hA
      clear hA
      go_wp2_with fail
      refine (one_c b n k9 _ 40 _ rfl hn (by omega) (by omega) hcr).mono ?_; rintro e w2 ⟨q, k2, rfl, hk21, hk22, hc2, hg2⟩
      have hA2 := HA.out.cur (by omega) hg2
      have hS2 : SlS (w.heap.size + 1) w2.heap.size w2 (.slice (some ⟨w.heap.size + 1, 0, none⟩) 12 12) (rawL F) := (OwnS.of_tag hA2.2.1 hA2.2.2 (by omega)).sl
      have hrl := rawL_len F
      have hFr : ∀ j, ((rawL F).getD j []).length ≤ 1000 := by
        intro j
        by_cases hj : j < 12
        · rw [rawL_get F j hj]; exact hF j
        · simp [List.getD, List.getElem?_eq_none (show (rawL F).length ≤ j by omega)]
      have hgW := hgr.trans hg2
      cases q with
      | true =>
        go_wp2_with fail
        go_ret
        refine ⟨some ⟨w.heap.size + 1, 1, none⟩, 11, (rawL F).drop 1, k2, by rw [List.length_drop, hrl]; rfl, ?_, by rw [List.length_drop, hrl]; omega, fun j => ?_, by omega, by omega, hc2, hgW⟩
        · have := (hS2.cut1 (by omega)).mono (show w.heap.size ≤ w.heap.size + 1 by omega) (Nat.le_refl _)
          rw [List.length_drop, hrl]
          exact this
        · rw [show ((rawL F).drop 1).getD j [] = (rawL F).getD (j+1) [] from by simp only [List.getD, List.getElem?_drop]; rw [Nat.add_comm 1 j]]
          exact hFr (j+1)
      | false =>
        go_wp2_with fail
        go_ret
        exact ⟨some ⟨w.heap.size + 1, 0, none⟩, 12, rawL F, k2, by rw [hrl]; rfl, by rw [hrl]; exact hS2.mono (by omega) (Nat.le_refl _), by omega, hFr, by omega, by omega, hc2, hgW⟩
end Go.Proofs.YtkbgglejhdodoaaDoor
end
section
/- The draws of chapter 2. -/
namespace Go.Proofs.YtkbgglejhdodoaaDoor
open Go.RowKit

theorem SlS.set {lo hi w v xss} (h : SlS lo hi w v xss) {p : Addr} (hp : p.block < lo ∨ hi ≤ p.block) (u : Value) : SlS lo hi (w.setCell p u) v xss :=
  h.same fun b h1 h2 _ => Below.heap_setCell w p u b (by omega)
def RetDSS (w : World) (e : Ending) (w' : World) : Prop :=
  ∃ (sv lv mv : Value) (ar : List Int) (l m : List (List Int)), e = .returned (.tuple #[.agg #[sv], lv, mv]) ∧ drawn ar ∧ SlI w.heap.size w'.heap.size w' sv ar ∧ SlS w.heap.size w'.heap.size w' lv l ∧ l.length ≤ 12 ∧ (∀ j, (l.getD j []).length ≤ 1000) ∧ SlS w.heap.size w'.heap.size w' mv m ∧ m.length ≤ 12 ∧ (∀ j, (m.getD j []).length ≤ 1000) ∧ Bel w w'
def RetDSI (w : World) (e : Ending) (w' : World) : Prop :=
  ∃ (sv lv tv : Value) (ar : List Int) (l : List (List Int)) (t : List Int), e = .returned (.tuple #[.agg #[sv], lv, tv]) ∧ drawn ar ∧ SlI w.heap.size w'.heap.size w' sv ar ∧ SlS w.heap.size w'.heap.size w' lv l ∧ l.length ≤ 12 ∧ (∀ j, (l.getD j []).length ≤ 1000) ∧ SlI w.heap.size w'.heap.size w' tv t ∧ t.length ≤ 1000 ∧ Bel w w'

set_option maxRecDepth 100000 in
set_option maxHeartbeats 1000000 in
theorem drawApply_c (n : Nat) (v : Value) (w : World) (hn : n ≤ 1048576) (hv : SlB w.heap.size w v n) :
    Calls Tryd.prog 17 #[v] w (RetDSI w) := by
  obtain ⟨ad, cap, rfl, hcap, hr⟩ := hv
  have hv : SlB w.heap.size w (.slice ad n cap) n := ⟨ad, cap, rfl, hcap, hr⟩
  have hB1 := Bel.alloc0 w (.cells #[.slice none 0 0] 26)
  have hs1 : (w.alloc (.cells #[.slice none 0 0] 26)).heap.size = w.heap.size + 1 := by simp
  have hC := Cur.new (T := 68) (w := w.alloc (.cells #[.slice none 0 0] 26)) (v := .slice ad n cap) (n := n) (by
    obtain ⟨ad', cap', e, hc, hr'⟩ := hv.chg (Chg.of_bel (lo := w.heap.size) (hi := w.heap.size) hB1) (Nat.le_refl _)
    exact ⟨ad', cap', e, hc, fun hp => by obtain ⟨b, off, e1, e2, e3⟩ := hr' hp; exact ⟨b, off, e1, by omega, e3⟩⟩)
  rw [hs1] at hC
  have hB2 := hB1.step (Bel.alloc0 (w.alloc (.cells #[.slice none 0 0] 26)) (.cells #[.slice ad n cap, .int .i64 0, .int .u64 0] 68))
  have hbx : ((w.alloc (.cells #[.slice none 0 0] 26)).alloc (.cells #[.slice ad n cap, .int .i64 0, .int .u64 0] 68)).cell? ⟨w.heap.size, 0, none⟩ = some (.slice none 0 0) := (Bel.alloc0 _ _).at (by simp) (by rw [World.cell?_alloc_new w]; rfl)
  have hfx : ((w.alloc (.cells #[.slice none 0 0] 26)).alloc (.cells #[.slice ad n cap, .int .i64 0, .int .u64 0] 68)).frozen? ⟨w.heap.size, 0, none⟩ = false := by simp [go_sem]; try rfl
  have HS := Lib.hid (sign_c (w.heap.size + 1) n 0 _ (by omega) (by omega) hC)
  go_enter Tryd.func17, Tryd.ntmps17
  go_wp2_with fail
  refine HS.out.mono ?_; rintro e w1 ⟨sv, ar, k1, rfl, hdr, hsv, hk1, hk2, hc1, hg1⟩
  obtain ⟨sa, sc, rfl⟩ := hsv.form
  have hW0 : ((w.alloc (.cells #[.slice none 0 0] 26)).alloc (.cells #[.slice ad n cap, .int .i64 0, .int .u64 0] 68)).heap.size = w.heap.size + 1 + 1 := by simp
  generalize ((w.alloc (.cells #[.slice none 0 0] 26)).alloc (.cells #[.slice ad n cap, .int .i64 0, .int .u64 0] 68)) = W0 at *
  have hsz1 : W0.heap.size ≤ w1.heap.size := hg1.size
  rw [hW0] at hsv
  have hbx1 := hg1.cell (by omega) (by omega) hbx
  have hfx1 : w1.frozen? ⟨w.heap.size, 0, none⟩ = false := (World.frozen?_of_block (w := W0) (w' := w1) (a := ⟨w.heap.size, 0, none⟩) (hg1.block w.heap.size (by omega) (by omega))).trans hfx
  have hB3 := Bel.alloc0 w1 (.cells #[.slice sa ar.length sc] 26)
  have hs2 : (w1.alloc (.cells #[.slice sa ar.length sc] 26)).heap.size = w1.heap.size + 1 := by simp
  have hbx7 : (w1.alloc (.cells #[.slice sa ar.length sc] 26)).cell? ⟨w1.heap.size, 0, none⟩ = some (.slice sa ar.length sc) := by rw [World.cell?_alloc_new w1]; rfl
  have hbx2 := hB3.at (by omega) hbx1
  have hfx2 := (World.frozen?_of_block (w := w1) (a := ⟨w.heap.size, 0, none⟩) (hB3.block w.heap.size (by omega))).trans hfx1
  have hc2 := hc1.below hB3
  have hsv2 := hsv.below hB3
  have hg2 := hg1.trans (Chg.of_bel (lo := w.heap.size + 1) (hi := w.heap.size + 1 + 1) hB3)
  generalize hw2 : w1.alloc (.cells #[.slice sa ar.length sc] 26) = w2 at *
  clear hc1 hg1 hbx1 hfx1 hB3 hsv hbx hfx HS hC hB1
  have hhi0 : w1.heap.size ≤ w2.heap.size := by omega
  go_wp2_with fail
  go_region_held3 (fun w' => w'.cell? ⟨w1.heap.size, 0, none⟩ = some (.slice sa ar.length sc))
    (first | exact hbx7 | exact hx1 | exact hx2 | exact hb7F | fail)
    (first
      | (go_at_call 55; refine (subst_d (w.heap.size + 1) n k1 _ _ _ ar _ (by omega) (by omega) hdr (by omega) (by exact hhi0) (hc2.below (Bel.drew0 w2)) (hsv2.below (Bel.drew0 w2))).mono ?_; rintro e y1_2 ⟨aA, cA, lA, k2x, rfl, hA, hlA, hjA, hk1k2x, hk2k2x, hcr1, hr1⟩; have G1 := (Chg.of_bel (lo := w.heap.size + 1) (hi := w.heap.size + 1 + 1) (Bel.drew0 w2)).trans hr1; have hzr1 : w2.heap.size ≤ y1_2.heap.size := G1.size; have hx1 := G1.cell (by omega) (by omega) hbx7)
      | (go_at_call 42; refine (anyTerm_c (w.heap.size + 1) n k2x _ _ _ ar _ (by omega) (by omega) hdr (by omega) hcr1 (hsv2.chg G1 (by omega))).mono ?_; rintro e y2_2 ⟨aB, cB, tB, k3x, rfl, hB, hlB, hk1k3x, hk2k3x, hcr2, hr2⟩; have G2 := G1.trans hr2; have hzr2 : w2.heap.size ≤ y2_2.heap.size := G2.size; have hx2 := G2.cell (by omega) (by omega) hbx7; have hzs2 := hr2.size; have hbxL := G2.cell (by omega) (by omega) hbx2; have hb7F := (World.cell?_setCell_other y2_2 ⟨w.heap.size, 0, none⟩ ⟨w1.heap.size, 0, none⟩ (.slice sa ar.length sc) (fun h => (show w.heap.size ≠ w1.heap.size by omega) (congrArg Addr.block h))).trans hx2; have hfxL := (World.frozen?_of_block (w := w2) (w' := y2_2) (a := ⟨w.heap.size, 0, none⟩) (G2.block w.heap.size (by omega) (by omega))).trans hfx2)
      | fail)
  replace hA := hA.mono (show w2.heap.size ≤ w2.drew.heap.size from Nat.le_refl _) (Nat.le_refl _)
  replace hA := hA.chg hr2 (by omega)
  clear hfx2
  have hzL : w2.heap.size ≤ y2_2.heap.size := G2.size
  replace hsv2 := hsv2.chg G2 (by omega)
  replace hg2 := hg2.trans G2
  have hbF : (y2_2.setCell ⟨w.heap.size, 0, none⟩ (.slice sa ar.length sc)).cell? ⟨w.heap.size, 0, none⟩ = some (.slice sa ar.length sc) := World.cell?_setCell_same _ _ _ hbxL
  have hsv2F := (hsv2.set (p := ⟨w.heap.size, 0, none⟩) (.inl (by simp; omega)) (.slice sa ar.length sc)).mono (show w.heap.size ≤ _ by omega) (show _ ≤ (y2_2.setCell ⟨w.heap.size, 0, none⟩ (.slice sa ar.length sc)).heap.size by first | (simp; done) | (simp; omega))
  have hAF := (hA.set (p := ⟨w.heap.size, 0, none⟩) (.inl (by simp; omega)) (.slice sa ar.length sc)).mono (show w.heap.size ≤ _ by omega) (show _ ≤ (y2_2.setCell ⟨w.heap.size, 0, none⟩ (.slice sa ar.length sc)).heap.size by first | (simp; done) | (simp; omega))
  have hBF := (hB.set (p := ⟨w.heap.size, 0, none⟩) (.inl (by simp; omega)) (.slice sa ar.length sc)).mono (show w.heap.size ≤ _ by omega) (show _ ≤ (y2_2.setCell ⟨w.heap.size, 0, none⟩ (.slice sa ar.length sc)).heap.size by first | (simp; done) | (simp; omega))
  have hgF := (hg2.bel hB2 (by omega)).setCell (p := ⟨w.heap.size, 0, none⟩) (Nat.le_refl _) (.slice sa ar.length sc)
  clear hbx2 hbx7 hg2 hB2 hcr2 hsv2 hA hB
  go_wp2_with fail
  exact bodyPost_ret (v := .tuple #[.agg #[.slice sa ar.length sc], .slice aA lA.length cA, .slice aB tB.length cB]) (by simp [results, Tryd.results17, go_sem, hbF]) rfl ⟨_, _, _, ar, lA, tB, rfl, hdr, hsv2F, hAF, hlA, hjA, hBF, hlB, hgF⟩
end Go.Proofs.YtkbgglejhdodoaaDoor
end
section
/- The draws of chapter 2: two terms. -/
namespace Go.Proofs.YtkbgglejhdodoaaDoor
open Go.RowKit

theorem short_12 {l : List (List Int)} (h : l.length ≤ 12) (hj : ∀ j, (l.getD j []).length ≤ 1000) : short l := ⟨by omega, fun j _ => by have := hj j; omega⟩
theorem slI_k {lo hi : Nat} {w : World} {ad : Option Addr} {n c : Nat} {xs : List Int} (h : SlI lo hi w (.slice ad n c) xs) : n = xs.length := by
  obtain ⟨ad', c', e⟩ := h.form
  simp only [Value.slice.injEq] at e
  exact e.2.1
def RetDII (w : World) (e : Ending) (w' : World) : Prop :=
  ∃ (sv tv uv : Value) (ar t u : List Int), e = .returned (.tuple #[.agg #[sv], tv, uv]) ∧ drawn ar ∧ SlI w.heap.size w'.heap.size w' sv ar ∧ SlI w.heap.size w'.heap.size w' tv t ∧ t.length ≤ 1048576 ∧ SlI w.heap.size w'.heap.size w' uv u ∧ u.length ≤ 1048576 ∧ Bel w w'

end Go.Proofs.YtkbgglejhdodoaaDoor
end
section
/- The draws of chapter 3: two terms. -/
namespace Go.Proofs.YtkbgglejhdodoaaDoor
open Go.RowKit

def RetDIe (w : World) (e : Ending) (w' : World) : Prop :=
  ∃ (sv tv : Value) (ar t : List Int), e = .returned (.tuple #[.agg #[sv], tv]) ∧ drawn ar ∧ SlI w.heap.size w'.heap.size w' sv ar ∧ SlI w.heap.size w'.heap.size w' tv t ∧ t.length ≤ 1000 ∧ Bel w w'
def RetDGe (w : World) (e : Ending) (w' : World) : Prop :=
  ∃ (sv : Value) (ar : List Int), e = .returned (.agg #[sv]) ∧ drawn ar ∧ SlI w.heap.size w'.heap.size w' sv ar ∧ Bel w w'

set_option maxRecDepth 100000 in
set_option maxHeartbeats 1000000 in
theorem drawGoodTerm_e (n : Nat) (v : Value) (w : World) (hn : n ≤ 1048576) (hv : SlB w.heap.size w v n) :
    Calls Tryd.prog 19 #[v] w (RetDIe w) := by
  obtain ⟨ad, cap, rfl, hcap, hr⟩ := hv
  have hv : SlB w.heap.size w (.slice ad n cap) n := ⟨ad, cap, rfl, hcap, hr⟩
  have hB1 := Bel.alloc0 w (.cells #[.slice none 0 0] 26)
  have hs1 : (w.alloc (.cells #[.slice none 0 0] 26)).heap.size = w.heap.size + 1 := by simp
  have hC := Cur.new (T := 68) (w := w.alloc (.cells #[.slice none 0 0] 26)) (v := .slice ad n cap) (n := n) (by
    obtain ⟨ad', cap', e, hc, hr'⟩ := hv.chg (Chg.of_bel (lo := w.heap.size) (hi := w.heap.size) hB1) (Nat.le_refl _)
    exact ⟨ad', cap', e, hc, fun hp => by obtain ⟨b, off, e1, e2, e3⟩ := hr' hp; exact ⟨b, off, e1, by omega, e3⟩⟩)
  rw [hs1] at hC
  have hB2 := hB1.step (Bel.alloc0 (w.alloc (.cells #[.slice none 0 0] 26)) (.cells #[.slice ad n cap, .int .i64 0, .int .u64 0] 68))
  have hbx : ((w.alloc (.cells #[.slice none 0 0] 26)).alloc (.cells #[.slice ad n cap, .int .i64 0, .int .u64 0] 68)).cell? ⟨w.heap.size, 0, none⟩ = some (.slice none 0 0) := (Bel.alloc0 _ _).at (by simp) (by rw [World.cell?_alloc_new w]; rfl)
  have hfx : ((w.alloc (.cells #[.slice none 0 0] 26)).alloc (.cells #[.slice ad n cap, .int .i64 0, .int .u64 0] 68)).frozen? ⟨w.heap.size, 0, none⟩ = false := by simp [go_sem]; try rfl
  have HS := Lib.hid (sign_c (w.heap.size + 1) n 0 _ (by omega) (by omega) hC)
  go_enter Tryd.func19, Tryd.ntmps19
  go_wp2_with fail
  refine HS.out.mono ?_; rintro e w1 ⟨sv, ar, k1, rfl, hdr, hsv, hk1, hk2, hc1, hg1⟩
  obtain ⟨sa, sc, rfl⟩ := hsv.form
  have hW0 : ((w.alloc (.cells #[.slice none 0 0] 26)).alloc (.cells #[.slice ad n cap, .int .i64 0, .int .u64 0] 68)).heap.size = w.heap.size + 1 + 1 := by simp
  generalize ((w.alloc (.cells #[.slice none 0 0] 26)).alloc (.cells #[.slice ad n cap, .int .i64 0, .int .u64 0] 68)) = W0 at *
  have hsz1 : W0.heap.size ≤ w1.heap.size := hg1.size
  rw [hW0] at hsv
  have hbx1 := hg1.cell (by omega) (by omega) hbx
  have hfx1 : w1.frozen? ⟨w.heap.size, 0, none⟩ = false := (World.frozen?_of_block (w := W0) (w' := w1) (a := ⟨w.heap.size, 0, none⟩) (hg1.block w.heap.size (by omega) (by omega))).trans hfx
  have hB3 := Bel.alloc0 w1 (.cells #[.slice sa ar.length sc] 26)
  have hs2 : (w1.alloc (.cells #[.slice sa ar.length sc] 26)).heap.size = w1.heap.size + 1 := by simp
  have hbx7 : (w1.alloc (.cells #[.slice sa ar.length sc] 26)).cell? ⟨w1.heap.size, 0, none⟩ = some (.slice sa ar.length sc) := by rw [World.cell?_alloc_new w1]; rfl
  have hbx2 := hB3.at (by omega) hbx1
  have hfx2 := (World.frozen?_of_block (w := w1) (a := ⟨w.heap.size, 0, none⟩) (hB3.block w.heap.size (by omega))).trans hfx1
  have hc2 := hc1.below hB3
  have hsv2 := hsv.below hB3
  have hg2 := hg1.trans (Chg.of_bel (lo := w.heap.size + 1) (hi := w.heap.size + 1 + 1) hB3)
  generalize hw2 : w1.alloc (.cells #[.slice sa ar.length sc] 26) = w2 at *
  clear hc1 hg1 hbx1 hfx1 hB3 hsv hbx hfx HS hC hB1
  have hal := drawn_len hdr
  have hhi0 : w1.heap.size ≤ w2.heap.size := by omega
  go_wp2_with fail
  go_region_held3 (fun w' => w'.cell? ⟨w1.heap.size, 0, none⟩ = some (.slice sa ar.length sc))
    (first | exact hbx7 | exact hx1 | exact hb7F | fail)
    (first
      | (go_at_call 42; refine (anyTerm_c (w.heap.size + 1) n k1 _ _ _ ar _ (by omega) (by omega) hdr (by omega) (hc2.below (Bel.drew0 w2)) (hsv2.below (Bel.drew0 w2))).mono ?_; rintro e y1_2 ⟨aT, cT, tT, k2x, rfl, hT, hlT, hk1k2x, hk2k2x, hcr1, hr1⟩; have G1 := (Chg.of_bel (lo := w.heap.size + 1) (hi := w.heap.size + 1 + 1) (Bel.drew0 w2)).trans hr1; have hzr1 : w2.heap.size ≤ y1_2.heap.size := G1.size; have hx1 := G1.cell (by omega) (by omega) hbx7; have hbxL := G1.cell (by omega) (by omega) hbx2; have hb7F := (World.cell?_setCell_other y1_2 ⟨w.heap.size, 0, none⟩ ⟨w1.heap.size, 0, none⟩ (.slice sa ar.length sc) (fun h => (show w.heap.size ≠ w1.heap.size by omega) (congrArg Addr.block h))).trans hx1; have hfxL := (World.frozen?_of_block (w := w2) (w' := y1_2) (a := ⟨w.heap.size, 0, none⟩) (G1.block w.heap.size (by omega) (by omega))).trans hfx2)
      | fail)
  replace hT := hT.mono (show w2.heap.size ≤ w2.drew.heap.size from Nat.le_refl _) (Nat.le_refl _)
  clear hfx2
  have hzL : w2.heap.size ≤ y1_2.heap.size := G1.size
  replace hsv2 := hsv2.chg G1 (by omega)
  replace hg2 := hg2.trans G1
  have hbF : (y1_2.setCell ⟨w.heap.size, 0, none⟩ (.slice sa ar.length sc)).cell? ⟨w.heap.size, 0, none⟩ = some (.slice sa ar.length sc) := World.cell?_setCell_same _ _ _ hbxL
  have hsv2F := (hsv2.set (p := ⟨w.heap.size, 0, none⟩) (.inl (by simp; omega)) (.slice sa ar.length sc)).mono (show w.heap.size ≤ _ by omega) (show _ ≤ (y1_2.setCell ⟨w.heap.size, 0, none⟩ (.slice sa ar.length sc)).heap.size by first | (simp; done) | (simp; omega))
  have hTF := (hT.set (p := ⟨w.heap.size, 0, none⟩) (.inl (by simp; omega)) (.slice sa ar.length sc)).mono (show w.heap.size ≤ _ by omega) (show _ ≤ (y1_2.setCell ⟨w.heap.size, 0, none⟩ (.slice sa ar.length sc)).heap.size by first | (simp; done) | (simp; omega))
  have hgF := (hg2.bel hB2 (by omega)).setCell (p := ⟨w.heap.size, 0, none⟩) (Nat.le_refl _) (.slice sa ar.length sc)
  clear hbx2 hbx7 hg2 hB2 hcr1 hsv2 hT
  go_wp2_with fail
  exact bodyPost_ret (v := .tuple #[.agg #[.slice sa ar.length sc], .slice aT tT.length cT]) (by simp [results, Tryd.results19, go_sem, hbF]) rfl ⟨_, _, ar, _, rfl, hdr, hsv2F, hTF, by omega, hgF⟩
set_option maxRecDepth 100000 in
set_option maxHeartbeats 1000000 in
theorem drawCompareTerms_c (n : Nat) (v : Value) (w : World) (hn : n ≤ 1048576) (hv : SlB w.heap.size w v n) :
    Calls Tryd.prog 10 #[v] w (RetDII w) := by
  obtain ⟨ad, cap, rfl, hcap, hr⟩ := hv
  have hv : SlB w.heap.size w (.slice ad n cap) n := ⟨ad, cap, rfl, hcap, hr⟩
  have hB1 := Bel.alloc0 w (.cells #[.slice none 0 0] 26)
  have hs1 : (w.alloc (.cells #[.slice none 0 0] 26)).heap.size = w.heap.size + 1 := by simp
  have hC := Cur.new (T := 68) (w := w.alloc (.cells #[.slice none 0 0] 26)) (v := .slice ad n cap) (n := n) (by
    obtain ⟨ad', cap', e, hc, hr'⟩ := hv.chg (Chg.of_bel (lo := w.heap.size) (hi := w.heap.size) hB1) (Nat.le_refl _)
    exact ⟨ad', cap', e, hc, fun hp => by obtain ⟨b, off, e1, e2, e3⟩ := hr' hp; exact ⟨b, off, e1, by omega, e3⟩⟩)
  rw [hs1] at hC
  have hB2 := hB1.step (Bel.alloc0 (w.alloc (.cells #[.slice none 0 0] 26)) (.cells #[.slice ad n cap, .int .i64 0, .int .u64 0] 68))
  have hbx : ((w.alloc (.cells #[.slice none 0 0] 26)).alloc (.cells #[.slice ad n cap, .int .i64 0, .int .u64 0] 68)).cell? ⟨w.heap.size, 0, none⟩ = some (.slice none 0 0) := (Bel.alloc0 _ _).at (by simp) (by rw [World.cell?_alloc_new w]; rfl)
  have hfx : ((w.alloc (.cells #[.slice none 0 0] 26)).alloc (.cells #[.slice ad n cap, .int .i64 0, .int .u64 0] 68)).frozen? ⟨w.heap.size, 0, none⟩ = false := by simp [go_sem]; try rfl
  have HS := Lib.hid (sign_c (w.heap.size + 1) n 0 _ (by omega) (by omega) hC)
  go_enter Tryd.func10, Tryd.ntmps10
  go_wp2_with fail
  refine HS.out.mono ?_; rintro e w1 ⟨sv, ar, k1, rfl, hdr, hsv, hk1, hk2, hc1, hg1⟩
  obtain ⟨sa, sc, rfl⟩ := hsv.form
  have hW0 : ((w.alloc (.cells #[.slice none 0 0] 26)).alloc (.cells #[.slice ad n cap, .int .i64 0, .int .u64 0] 68)).heap.size = w.heap.size + 1 + 1 := by simp
  generalize ((w.alloc (.cells #[.slice none 0 0] 26)).alloc (.cells #[.slice ad n cap, .int .i64 0, .int .u64 0] 68)) = W0 at *
  have hsz1 : W0.heap.size ≤ w1.heap.size := hg1.size
  rw [hW0] at hsv
  have hbx1 := hg1.cell (by omega) (by omega) hbx
  have hfx1 : w1.frozen? ⟨w.heap.size, 0, none⟩ = false := (World.frozen?_of_block (w := W0) (w' := w1) (a := ⟨w.heap.size, 0, none⟩) (hg1.block w.heap.size (by omega) (by omega))).trans hfx
  have hB3 := Bel.alloc0 w1 (.cells #[.slice sa ar.length sc] 26)
  have hs2 : (w1.alloc (.cells #[.slice sa ar.length sc] 26)).heap.size = w1.heap.size + 1 := by simp
  have hbx7 : (w1.alloc (.cells #[.slice sa ar.length sc] 26)).cell? ⟨w1.heap.size, 0, none⟩ = some (.slice sa ar.length sc) := by rw [World.cell?_alloc_new w1]; rfl
  have hbx2 := hB3.at (by omega) hbx1
  have hfx2 := (World.frozen?_of_block (w := w1) (a := ⟨w.heap.size, 0, none⟩) (hB3.block w.heap.size (by omega))).trans hfx1
  have hc2 := hc1.below hB3
  have hsv2 := hsv.below hB3
  have hg2 := hg1.trans (Chg.of_bel (lo := w.heap.size + 1) (hi := w.heap.size + 1 + 1) hB3)
  generalize hw2 : w1.alloc (.cells #[.slice sa ar.length sc] 26) = w2 at *
  clear hc1 hg1 hbx1 hfx1 hB3 hsv hbx hfx HS hC hB1
  have hal := drawn_len hdr
  go_wp2_with fail
  refine (anyTerm_c (w.heap.size + 1) n k1 _ _ _ ar w2 (by omega) (by omega) hdr (by omega) hc2 hsv2).mono ?_; rintro e w3 ⟨aA, cA, tA, k2x, rfl, hA, hlA, hk1k2x, hk2k2x, hc3, hgs3⟩
  have hzw3 : w2.heap.size ≤ w3.heap.size := hgs3.size
  replace hsv2 := hsv2.chg hgs3 (by omega)
  replace hbx7 := hgs3.cell (by omega) (by omega) hbx7
  have hfq := hfx2
  replace hfx2 := (World.frozen?_of_block (w := w2) (w' := w3) (a := ⟨w.heap.size, 0, none⟩) (hgs3.block w.heap.size (by omega) (by omega))).trans hfq
  clear hfq
  replace hbx2 := hgs3.cell (by omega) (by omega) hbx2
  replace hg2 := hg2.trans hgs3
  clear hc2
  go_wp2_with fail
  refine (pick_c (w.heap.size + 1) n k2x _ 4 w3 (by decide) (by omega) (by omega) (by omega) hc3).mono ?_; rintro e w4 ⟨x, k3x, rfl, hpx, hk1k3x, hk2k3x, hc4, hgs4⟩
  have hzw4 : w3.heap.size ≤ w4.heap.size := hgs4.size
  replace hsv2 := hsv2.chg hgs4 (by omega)
  replace hA := hA.chg hgs4 (by omega)
  replace hbx7 := hgs4.cell (by omega) (by omega) hbx7
  have hfq := hfx2
  replace hfx2 := (World.frozen?_of_block (w := w3) (w' := w4) (a := ⟨w.heap.size, 0, none⟩) (hgs4.block w.heap.size (by omega) (by omega))).trans hfq
  clear hfq
  replace hbx2 := hgs4.cell (by omega) (by omega) hbx2
  replace hg2 := hg2.trans hgs4
  clear hc3
  have hw9 := IntWalk.i64_in ((tA.length : Int) + 1) (by omega)
  by_cases hx0 : x = 0
  · subst hx0
    have hhi0 : w1.heap.size ≤ w4.heap.size := by omega
    go_wp2_with fail
    go_region_held3 (fun w' => w'.cell? ⟨w1.heap.size, 0, none⟩ = some (.slice sa ar.length sc))
      (first | exact hbx7 | exact hx1 | exact hx2 | fail)
      (first
        | (go_at_call 43; refine (pick_c (w.heap.size + 1) n k3x _ (tA.length + 1) _ (by simp) (by omega) (by omega) (by omega) (hc4.below (Bel.drew0 w4))).mono ?_; rintro e y1_4 ⟨z, k4x, rfl, hpz, hk1k4x, hk2k4x, hcr1, hr1⟩; have G1 := (Chg.of_bel (lo := w.heap.size + 1) (hi := w.heap.size + 1 + 1) (Bel.drew0 w4)).trans hr1; have hzr1 : w4.heap.size ≤ y1_4.heap.size := G1.size; have hx1 := G1.cell (by omega) (by omega) hbx7)
        | (go_at_call 44; refine (sPartAt_t (by omega) (hsv2.chg G1 (by omega)) (by omega) (hA.chg G1 (by omega)) (by omega) (by omega)).mono ?_; rintro e y2_4 ⟨aU, mU, cU, rfl, hU, hbq⟩; have hr2 := Chg.of_bel (lo := w.heap.size + 1) (hi := w.heap.size + 1 + 1) hbq; have G2 := G1.trans hr2; have hzr2 : w4.heap.size ≤ y2_4.heap.size := G2.size; have hx2 := G2.cell (by omega) (by omega) hbx7; have hzs2 := hr2.size; have hcr2 := Cur.below hcr1 hbq)
        | fail)
    skip
    have hzy2_4 : w4.heap.size ≤ y2_4.heap.size := G2.size
    replace hsv2 := hsv2.chg G2 (by omega)
    replace hA := hA.chg G2 (by omega)
    replace hbx7 := G2.cell (by omega) (by omega) hbx7
    have hfq := hfx2
    replace hfx2 := (World.frozen?_of_block (w := w4) (w' := y2_4) (a := ⟨w.heap.size, 0, none⟩) (G2.block w.heap.size (by omega) (by omega))).trans hfq
    clear hfq
    replace hbx2 := G2.cell (by omega) (by omega) hbx2
    replace hg2 := hg2.trans G2
    clear hx1 hx2 G1 G2 hr1 hr2
    replace hU := hU.sl
    have hmU := slI_k hU
    subst hmU
    have hrl := partAns_len ar tA (z : Int)
    generalize partAns ar tA (z : Int) = r at *
    generalize askOk ar tA (z : Int) = ok at *
    cases ok with
    | false =>
      have hhi0 : w1.heap.size ≤ y2_4.heap.size := by omega
      go_wp2_with fail
      go_region_held3 (fun w' => w'.cell? ⟨w1.heap.size, 0, none⟩ = some (.slice sa ar.length sc))
        (first | exact hbx7 | exact hx1 | exact hb7F | fail)
        (first
          | (go_at_call 42; refine (anyTerm_c (w.heap.size + 1) n k4x _ _ _ ar _ (by omega) (by omega) hdr (by omega) (hcr2.below (Bel.drew0 y2_4)) (hsv2.below (Bel.drew0 y2_4))).mono ?_; rintro e y1_5 ⟨aQ, cQ, tQ, k5x, rfl, hQ, hlQ, hk1k5x, hk2k5x, hcr1, hr1⟩; have G1 := (Chg.of_bel (lo := w.heap.size + 1) (hi := w.heap.size + 1 + 1) (Bel.drew0 y2_4)).trans hr1; have hzr1 : y2_4.heap.size ≤ y1_5.heap.size := G1.size; have hx1 := G1.cell (by omega) (by omega) hbx7; have hbxL := G1.cell (by omega) (by omega) hbx2; have hb7F := (World.cell?_setCell_other y1_5 ⟨w.heap.size, 0, none⟩ ⟨w1.heap.size, 0, none⟩ (.slice sa ar.length sc) (fun h => (show w.heap.size ≠ w1.heap.size by omega) (congrArg Addr.block h))).trans hx1; have hfxL := (World.frozen?_of_block (w := y2_4) (w' := y1_5) (a := ⟨w.heap.size, 0, none⟩) (G1.block w.heap.size (by omega) (by omega))).trans hfx2)
          | fail)
      replace hQ := hQ.mono (show y2_4.heap.size ≤ y2_4.drew.heap.size from Nat.le_refl _) (Nat.le_refl _)
      clear hfx2
      have hzL : y2_4.heap.size ≤ y1_5.heap.size := G1.size
      replace hsv2 := hsv2.chg G1 (by omega)
      replace hA := hA.chg G1 (by omega)
      replace hU := hU.chg G1 (by omega)
      replace hg2 := hg2.trans G1
      have hbF : (y1_5.setCell ⟨w.heap.size, 0, none⟩ (.slice sa ar.length sc)).cell? ⟨w.heap.size, 0, none⟩ = some (.slice sa ar.length sc) := World.cell?_setCell_same _ _ _ hbxL
      have hsv2F := (hsv2.set (p := ⟨w.heap.size, 0, none⟩) (.inl (by simp; omega)) (.slice sa ar.length sc)).mono (show w.heap.size ≤ _ by omega) (show _ ≤ (y1_5.setCell ⟨w.heap.size, 0, none⟩ (.slice sa ar.length sc)).heap.size by first | (simp; done) | (simp; omega))
      have hAF := (hA.set (p := ⟨w.heap.size, 0, none⟩) (.inl (by simp; omega)) (.slice sa ar.length sc)).mono (show w.heap.size ≤ _ by omega) (show _ ≤ (y1_5.setCell ⟨w.heap.size, 0, none⟩ (.slice sa ar.length sc)).heap.size by first | (simp; done) | (simp; omega))
      have hUF := (hU.set (p := ⟨w.heap.size, 0, none⟩) (.inl (by simp; omega)) (.slice sa ar.length sc)).mono (show w.heap.size ≤ _ by omega) (show _ ≤ (y1_5.setCell ⟨w.heap.size, 0, none⟩ (.slice sa ar.length sc)).heap.size by first | (simp; done) | (simp; omega))
      have hQF := (hQ.set (p := ⟨w.heap.size, 0, none⟩) (.inl (by simp; omega)) (.slice sa ar.length sc)).mono (show w.heap.size ≤ _ by omega) (show _ ≤ (y1_5.setCell ⟨w.heap.size, 0, none⟩ (.slice sa ar.length sc)).heap.size by first | (simp; done) | (simp; omega))
      have hgF := (hg2.bel hB2 (by omega)).setCell (p := ⟨w.heap.size, 0, none⟩) (Nat.le_refl _) (.slice sa ar.length sc)
      clear hbx2 hbx7 hg2 hB2 hcr1 hsv2 hA hU hQ
      go_wp2_with fail
      exact bodyPost_ret (v := .tuple #[.agg #[.slice sa ar.length sc], .slice aA tA.length cA, .slice aQ tQ.length cQ]) (by simp [results, Tryd.results10, go_sem, hbF]) rfl ⟨_, _, _, ar, _, _, rfl, hdr, hsv2F, hAF, by omega, hQF, by omega, hgF⟩
    | true =>
      have hbF : (y2_4.setCell ⟨w.heap.size, 0, none⟩ (.slice sa ar.length sc)).cell? ⟨w.heap.size, 0, none⟩ = some (.slice sa ar.length sc) := World.cell?_setCell_same _ _ _ hbx2
      have hsv2F := (hsv2.set (p := ⟨w.heap.size, 0, none⟩) (.inl (by simp; omega)) (.slice sa ar.length sc)).mono (show w.heap.size ≤ _ by omega) (show _ ≤ (y2_4.setCell ⟨w.heap.size, 0, none⟩ (.slice sa ar.length sc)).heap.size by first | (simp; done) | (simp; omega))
      have hAF := (hA.set (p := ⟨w.heap.size, 0, none⟩) (.inl (by simp; omega)) (.slice sa ar.length sc)).mono (show w.heap.size ≤ _ by omega) (show _ ≤ (y2_4.setCell ⟨w.heap.size, 0, none⟩ (.slice sa ar.length sc)).heap.size by first | (simp; done) | (simp; omega))
      have hUF := (hU.set (p := ⟨w.heap.size, 0, none⟩) (.inl (by simp; omega)) (.slice sa ar.length sc)).mono (show w.heap.size ≤ _ by omega) (show _ ≤ (y2_4.setCell ⟨w.heap.size, 0, none⟩ (.slice sa ar.length sc)).heap.size by first | (simp; done) | (simp; omega))
      have hgF := (hg2.bel hB2 (by omega)).setCell (p := ⟨w.heap.size, 0, none⟩) (Nat.le_refl _) (.slice sa ar.length sc)
      clear hg2 hB2 hcr2
      go_wp2_with fail
      exact bodyPost_ret (v := .tuple #[.agg #[.slice sa ar.length sc], .slice aA tA.length cA, .slice aU r.length cU]) (by simp [results, Tryd.results10, go_sem, hbF]) rfl ⟨_, _, _, ar, _, _, rfl, hdr, hsv2F, hAF, by omega, hUF, by omega, hgF⟩
  · have hdx0 : ((x : Int) == 0) = false := by simp; omega
    by_cases hx1 : x = 1
    · subst hx1
      go_wp2_with fail
      refine (l1Own_c _ _ _ tA _ (by omega) hA).mono ?_; rintro e w5 ⟨aU, mU, cU, rfl, hU, hb5⟩
      have hgs5 := Chg.of_bel (lo := w.heap.size + 1) (hi := w.heap.size + 1 + 1) hb5
      have hzw5 : w4.heap.size ≤ w5.heap.size := hgs5.size
      replace hsv2 := hsv2.chg hgs5 (by omega)
      replace hA := hA.chg hgs5 (by omega)
      replace hbx7 := hgs5.cell (by omega) (by omega) hbx7
      have hfq := hfx2
      replace hfx2 := (World.frozen?_of_block (w := w4) (w' := w5) (a := ⟨w.heap.size, 0, none⟩) (hgs5.block w.heap.size (by omega) (by omega))).trans hfq
      clear hfq
      replace hbx2 := hgs5.cell (by omega) (by omega) hbx2
      replace hg2 := hg2.trans hgs5
      have hc5 := hc4.below hb5
      clear hc4
      have hmU := slI_k hU.sl
      subst hmU
      by_cases htA : 0 < tA.length
      · have hdt : decide ((tA.length : Int) > 0) = true := by simp; omega
        go_wp2_with fail
        refine (pick_c (w.heap.size + 1) n k3x _ tA.length w5 (by simp) (by omega) (by omega) (by omega) hc5).mono ?_; rintro e w6 ⟨z, k4x, rfl, hpz, hk1k4x, hk2k4x, hc6, hgs6⟩
        have hzw6 : w5.heap.size ≤ w6.heap.size := hgs6.size
        replace hsv2 := hsv2.chg hgs6 (by omega)
        replace hA := hA.chg hgs6 (by omega)
        replace hU := hU.chg hgs6 (by omega)
        replace hbx7 := hgs6.cell (by omega) (by omega) hbx7
        have hfq := hfx2
        replace hfx2 := (World.frozen?_of_block (w := w5) (w' := w6) (a := ⟨w.heap.size, 0, none⟩) (hgs6.block w.heap.size (by omega) (by omega))).trans hfq
        clear hfq
        replace hbx2 := hgs6.cell (by omega) (by omega) hbx2
        replace hg2 := hg2.trans hgs6
        clear hc5
        go_wp2_with fail
        refine (pick_c (w.heap.size + 1) n k4x _ 6 w6 (by decide) (by omega) (by omega) (by omega) hc6).mono ?_; rintro e w7 ⟨y, k5x, rfl, hpy, hk1k5x, hk2k5x, hc7, hgs7⟩
        have hzw7 : w6.heap.size ≤ w7.heap.size := hgs7.size
        replace hsv2 := hsv2.chg hgs7 (by omega)
        replace hA := hA.chg hgs7 (by omega)
        replace hU := hU.chg hgs7 (by omega)
        replace hbx7 := hgs7.cell (by omega) (by omega) hbx7
        have hfq := hfx2
        replace hfx2 := (World.frozen?_of_block (w := w6) (w' := w7) (a := ⟨w.heap.size, 0, none⟩) (hgs7.block w.heap.size (by omega) (by omega))).trans hfq
        clear hfq
        replace hbx2 := hgs7.cell (by omega) (by omega) hbx2
        replace hg2 := hg2.trans hgs7
        clear hc6
        have hzl : z < tA.length := by omega
        have hzi : (0 : Int) ≤ z := by omega
        have hzj : (z : Int) < tA.length := by omega
        obtain ⟨ad9, cp9, e9, -, -, hr9⟩ := hU.1
        obtain ⟨bU, oU, e10, hbU1, hbU2, hcU⟩ := hr9 htA
        simp only [Value.slice.injEq] at e9
        obtain ⟨rfl, -, rfl⟩ := e9
        subst e10
        have hcz := hcU z hzl
        have hfz := hU.2 bU oU _ _ rfl htA z
        have hst := hU.stored z hzl (y : Int)
        have hq := Chg.set (lo := w3.heap.size) (hi := w7.heap.size) w7 (p := ⟨bU, oU + z, none⟩) (by simp; omega) (by simp; omega) (.int .i64 (y : Int))
        have hstl : (tA.set z (y : Int)).length = tA.length := by simp
        have hzq : (w7.setCell ⟨bU, oU + z, none⟩ (.int .i64 (y : Int))).heap.size = w7.heap.size := by simp
        replace hsv2 := hsv2.chg hq (by omega)
        replace hA := hA.chg hq (by omega)
        replace hbx7 := hq.cell (by omega) (by omega) hbx7
        have hfq := hfx2
        replace hfx2 := (World.frozen?_of_block (w := w7) (a := ⟨w.heap.size, 0, none⟩) (hq.block w.heap.size (by omega) (by omega))).trans hfq
        replace hbx2 := hq.cell (by omega) (by omega) hbx2
        replace hg2 := hg2.news hq (by omega)
        clear hc7 hcU hr9 hU hfq
        have hU := hst.sl
        rw [← hstl] at hU
        clear hst hq
        go_wp2_with fail
        generalize w7.setCell ⟨bU, oU + z, none⟩ (.int .i64 (y : Int)) = wz at *
        clear hcz hfz
        have hbF : (wz.setCell ⟨w.heap.size, 0, none⟩ (.slice sa ar.length sc)).cell? ⟨w.heap.size, 0, none⟩ = some (.slice sa ar.length sc) := World.cell?_setCell_same _ _ _ hbx2
        have hsv2F := (hsv2.set (p := ⟨w.heap.size, 0, none⟩) (.inl (by simp; omega)) (.slice sa ar.length sc)).mono (show w.heap.size ≤ _ by omega) (show _ ≤ (wz.setCell ⟨w.heap.size, 0, none⟩ (.slice sa ar.length sc)).heap.size by first | (simp; done) | (simp; omega))
        have hAF := (hA.set (p := ⟨w.heap.size, 0, none⟩) (.inl (by simp; omega)) (.slice sa ar.length sc)).mono (show w.heap.size ≤ _ by omega) (show _ ≤ (wz.setCell ⟨w.heap.size, 0, none⟩ (.slice sa ar.length sc)).heap.size by first | (simp; done) | (simp; omega))
        have hUF := (hU.set (p := ⟨w.heap.size, 0, none⟩) (.inl (by simp; omega)) (.slice sa ar.length sc)).mono (show w.heap.size ≤ _ by omega) (show _ ≤ (wz.setCell ⟨w.heap.size, 0, none⟩ (.slice sa ar.length sc)).heap.size by first | (simp; done) | (simp; omega))
        have hgF := (hg2.bel hB2 (by omega)).setCell (p := ⟨w.heap.size, 0, none⟩) (Nat.le_refl _) (.slice sa ar.length sc)
        clear hg2 hB2 
        go_wp2_with fail
        exact bodyPost_ret (v := .tuple #[.agg #[.slice sa ar.length sc], .slice aA tA.length cA, .slice (some ⟨bU, oU, none⟩) (tA.set z (y : Int)).length cU]) (by simp [results, Tryd.results10, go_sem, hbF]) rfl ⟨_, _, _, ar, _, _, rfl, hdr, hsv2F, hAF, by omega, hUF, by omega, hgF⟩
      · have hdt : decide ((tA.length : Int) > 0) = false := by rw [decide_eq_false_iff_not]; omega
        replace hU := hU.sl
        have hbF : (w5.setCell ⟨w.heap.size, 0, none⟩ (.slice sa ar.length sc)).cell? ⟨w.heap.size, 0, none⟩ = some (.slice sa ar.length sc) := World.cell?_setCell_same _ _ _ hbx2
        have hsv2F := (hsv2.set (p := ⟨w.heap.size, 0, none⟩) (.inl (by simp; omega)) (.slice sa ar.length sc)).mono (show w.heap.size ≤ _ by omega) (show _ ≤ (w5.setCell ⟨w.heap.size, 0, none⟩ (.slice sa ar.length sc)).heap.size by first | (simp; done) | (simp; omega))
        have hAF := (hA.set (p := ⟨w.heap.size, 0, none⟩) (.inl (by simp; omega)) (.slice sa ar.length sc)).mono (show w.heap.size ≤ _ by omega) (show _ ≤ (w5.setCell ⟨w.heap.size, 0, none⟩ (.slice sa ar.length sc)).heap.size by first | (simp; done) | (simp; omega))
        have hUF := (hU.set (p := ⟨w.heap.size, 0, none⟩) (.inl (by simp; omega)) (.slice sa ar.length sc)).mono (show w.heap.size ≤ _ by omega) (show _ ≤ (w5.setCell ⟨w.heap.size, 0, none⟩ (.slice sa ar.length sc)).heap.size by first | (simp; done) | (simp; omega))
        have hgF := (hg2.bel hB2 (by omega)).setCell (p := ⟨w.heap.size, 0, none⟩) (Nat.le_refl _) (.slice sa ar.length sc)
        clear hg2 hB2 hc5
        go_wp2_with fail
        exact bodyPost_ret (v := .tuple #[.agg #[.slice sa ar.length sc], .slice aA tA.length cA, .slice aU tA.length cU]) (by simp [results, Tryd.results10, go_sem, hbF]) rfl ⟨_, _, _, ar, _, _, rfl, hdr, hsv2F, hAF, by omega, hUF, by omega, hgF⟩
    · have hdx1 : ((x : Int) == 1) = false := by simp; omega
      have hhi0 : w1.heap.size ≤ w4.heap.size := by omega
      go_wp2_with fail
      go_region_held3 (fun w' => w'.cell? ⟨w1.heap.size, 0, none⟩ = some (.slice sa ar.length sc))
        (first | exact hbx7 | exact hx1 | exact hb7F | fail)
        (first
          | (go_at_call 42; refine (anyTerm_c (w.heap.size + 1) n k3x _ _ _ ar _ (by omega) (by omega) hdr (by omega) (hc4.below (Bel.drew0 w4)) (hsv2.below (Bel.drew0 w4))).mono ?_; rintro e y1_4 ⟨aQ, cQ, tQ, k4x, rfl, hQ, hlQ, hk1k4x, hk2k4x, hcr1, hr1⟩; have G1 := (Chg.of_bel (lo := w.heap.size + 1) (hi := w.heap.size + 1 + 1) (Bel.drew0 w4)).trans hr1; have hzr1 : w4.heap.size ≤ y1_4.heap.size := G1.size; have hx1 := G1.cell (by omega) (by omega) hbx7; have hbxL := G1.cell (by omega) (by omega) hbx2; have hb7F := (World.cell?_setCell_other y1_4 ⟨w.heap.size, 0, none⟩ ⟨w1.heap.size, 0, none⟩ (.slice sa ar.length sc) (fun h => (show w.heap.size ≠ w1.heap.size by omega) (congrArg Addr.block h))).trans hx1; have hfxL := (World.frozen?_of_block (w := w4) (w' := y1_4) (a := ⟨w.heap.size, 0, none⟩) (G1.block w.heap.size (by omega) (by omega))).trans hfx2)
          | fail)
      replace hQ := hQ.mono (show w4.heap.size ≤ w4.drew.heap.size from Nat.le_refl _) (Nat.le_refl _)
      clear hfx2
      have hzL : w4.heap.size ≤ y1_4.heap.size := G1.size
      replace hsv2 := hsv2.chg G1 (by omega)
      replace hA := hA.chg G1 (by omega)
      replace hg2 := hg2.trans G1
      have hbF : (y1_4.setCell ⟨w.heap.size, 0, none⟩ (.slice sa ar.length sc)).cell? ⟨w.heap.size, 0, none⟩ = some (.slice sa ar.length sc) := World.cell?_setCell_same _ _ _ hbxL
      have hsv2F := (hsv2.set (p := ⟨w.heap.size, 0, none⟩) (.inl (by simp; omega)) (.slice sa ar.length sc)).mono (show w.heap.size ≤ _ by omega) (show _ ≤ (y1_4.setCell ⟨w.heap.size, 0, none⟩ (.slice sa ar.length sc)).heap.size by first | (simp; done) | (simp; omega))
      have hAF := (hA.set (p := ⟨w.heap.size, 0, none⟩) (.inl (by simp; omega)) (.slice sa ar.length sc)).mono (show w.heap.size ≤ _ by omega) (show _ ≤ (y1_4.setCell ⟨w.heap.size, 0, none⟩ (.slice sa ar.length sc)).heap.size by first | (simp; done) | (simp; omega))
      have hQF := (hQ.set (p := ⟨w.heap.size, 0, none⟩) (.inl (by simp; omega)) (.slice sa ar.length sc)).mono (show w.heap.size ≤ _ by omega) (show _ ≤ (y1_4.setCell ⟨w.heap.size, 0, none⟩ (.slice sa ar.length sc)).heap.size by first | (simp; done) | (simp; omega))
      have hgF := (hg2.bel hB2 (by omega)).setCell (p := ⟨w.heap.size, 0, none⟩) (Nat.le_refl _) (.slice sa ar.length sc)
      clear hbx2 hbx7 hg2 hB2 hcr1 hsv2 hA hQ
      go_wp2_with fail
      exact bodyPost_ret (v := .tuple #[.agg #[.slice sa ar.length sc], .slice aA tA.length cA, .slice aQ tQ.length cQ]) (by simp [results, Tryd.results10, go_sem, hbF]) rfl ⟨_, _, _, ar, _, _, rfl, hdr, hsv2F, hAF, by omega, hQF, by omega, hgF⟩
end Go.Proofs.YtkbgglejhdodoaaDoor
end
section
/- Contracts with the answers named: chapter 3's law on terms. -/
namespace Go.Proofs.YtkbgglejhdodoaaDoor
open Go.RowKit

theorem SlB.belo {w w' : World} {v : Value} {n : Nat} (h : SlB w.heap.size w v n) (hb : Bel w w') : SlB w'.heap.size w' v n := by
  obtain ⟨ad, cap, e, hc, hr⟩ := h.chg (Chg.of_bel (lo := w.heap.size) (hi := w.heap.size) hb) (Nat.le_refl _)
  exact ⟨ad, cap, e, hc, fun hp => by obtain ⟨b, off, e1, e2, e3⟩ := hr hp; exact ⟨b, off, e1, Nat.lt_of_lt_of_le e2 hb.size, e3⟩⟩
theorem slI_no {lo hi : Nat} {w : World} {ad : Option Addr} {n c : Nat} {xs : List Int} (h : SlI lo hi w (.slice ad n c) xs) : n = xs.length := by
  obtain ⟨ad', c', e⟩ := h.form
  simp only [Value.slice.injEq] at e
  exact e.2.1
theorem SlB.formo {hi : Nat} {w : World} {v : Value} {n : Nat} (h : SlB hi w v n) : ∃ a c, v = .slice a n c := by obtain ⟨a, c, e, _⟩ := h; exact ⟨a, c, e⟩
theorem iApply_o {l h l' h' l2 h2 : Nat} {v u x : Value} {ar : List Int} {b : List (List Int)} {t : List Int} {w : World} (ha : ar.length ≤ 1048576) (hv : SlI l h w v ar) (hb : short b) (hu : SlS l' h' w u b) (ht : t.length ≤ 1048576) (hx : SlI l2 h2 w x t) {xs : List Int} {k : Bool} (e1 : applyAns ar b t = xs) (e2 : applyOk ar b t = k) :
    Calls Tryd.prog 18 #[.agg #[v], u, x] w (RetIB w xs k) := by subst e1 e2; exact iApply_t ha hv hb hu ht hx
theorem iReplaceAt_o {l h l' h' l2 h2 : Nat} {v u x : Value} {ar t r : List Int} {w : World} (ha : ar.length ≤ 1048576) (hv : SlI l h w v ar) (ht : t.length ≤ 1048576) (hu : SlI l' h' w u t) {i : Int} (h1 : -9223372036854775808 ≤ i) (h2' : i ≤ 9223372036854775807) (hr : r.length ≤ 1048576) (hx : SlI l2 h2 w x r) {xs : List Int} {b : Bool} (e1 : replAns ar t i r = xs) (e2 : replOk ar t i r = b) :
    Calls Tryd.prog 22 #[.agg #[v], u, .int .i64 i, x] w (RetIB w xs b) := by subst e1 e2; exact iReplaceAt_t ha hv ht hu h1 h2' hr hx
theorem iPartAt_o {l h l' h' : Nat} {v u : Value} {ar t : List Int} {w : World} (ha : ar.length ≤ 1048576) (hv : SlI l h w v ar) (ht : t.length ≤ 1048576) (hu : SlI l' h' w u t) {i : Int} (h1 : -9223372036854775808 ≤ i) (h2 : i ≤ 9223372036854775807) {xs : List Int} {b : Bool} (e1 : partAns ar t i = xs) (e2 : askOk ar t i = b) :
    Calls Tryd.prog 23 #[.agg #[v], u, .int .i64 i] w (RetIB w xs b) := by subst e1 e2; exact iPartAt_t ha hv ht hu h1 h2
theorem iVarsOf_o {l h l' h' : Nat} {v u : Value} {ar t : List Int} {w : World} (ha : ar.length ≤ 1048576) (hv : SlI l h w v ar) (ht : t.length ≤ 1048576) (hu : SlI l' h' w u t) {xs : List Int} {b : Bool} (e1 : varsAns ar t = xs) (e2 : goodTerm ar t = b) :
    Calls Tryd.prog 15 #[.agg #[v], u] w (RetIB w xs b) := by subst e1 e2; exact iVarsOf_t ha hv ht hu
theorem iCompareTerms_o {l h l' h' l2 h2 : Nat} {v x y : Value} {ar a b : List Int} {w : World} (hT : Tab w) (ha : ar.length ≤ 1048576) (hv : SlI l h w v ar) (hal : a.length ≤ 1048576) (hx : SlI l' h' w x a) (hbl : b.length ≤ 1048576) (hy : SlI l2 h2 w y b) {n : Int} {k : Bool} (e1 : cmpAns ar a b = n) (e2 : cmpOk ar a b = k) :
    Calls Tryd.prog 11 #[.agg #[v], x, y] w (RetV w (.tuple #[.int .i64 n, .bool k])) := by subst e1 e2; exact iCompareTerms_t hT ha hv hal hx hbl hy
theorem iWeighsMore_o {l h l' h' l2 h2 : Nat} {v x y : Value} {ar a b : List Int} {w : World} (hT : Tab w) (ha : ar.length ≤ 1048576) (hv : SlI l h w v ar) (hal : a.length ≤ 1048576) (hx : SlI l' h' w x a) (hbl : b.length ≤ 1048576) (hy : SlI l2 h2 w y b) {n k : Bool} (e1 : weiAns ar a b = n) (e2 : cmpOk ar a b = k) :
    Calls Tryd.prog 13 #[.agg #[v], x, y] w (RetV w (.tuple #[.bool n, .bool k])) := by subst e1 e2; exact iWeighsMore_t hT ha hv hal hx hbl hy
theorem sCompareTerms_o {l h l' h' l2 h2 : Nat} {v x y : Value} {ar a b : List Int} {w : World} (ha : ar.length ≤ 1048576) (hv : SlI l h w v ar) (hal : a.length ≤ 1048576) (hx : SlI l' h' w x a) (hbl : b.length ≤ 1048576) (hy : SlI l2 h2 w y b) {n : Int} {k : Bool} (e1 : cmpAns ar a b = n) (e2 : cmpOk ar a b = k) :
    Calls Tryd.prog 12 #[.agg #[v], x, y] w (RetV w (.tuple #[.int .i64 n, .bool k])) := by subst e1 e2; exact sCompareTerms_t ha hv hal hx hbl hy
theorem sWeighsMore_o {l h l' h' l2 h2 : Nat} {v x y : Value} {ar a b : List Int} {w : World} (ha : ar.length ≤ 1048576) (hv : SlI l h w v ar) (hal : a.length ≤ 1048576) (hx : SlI l' h' w x a) (hbl : b.length ≤ 1048576) (hy : SlI l2 h2 w y b) {n k : Bool} (e1 : weiAns ar a b = n) (e2 : cmpOk ar a b = k) :
    Calls Tryd.prog 14 #[.agg #[v], x, y] w (RetV w (.tuple #[.bool n, .bool k])) := by subst e1 e2; exact sWeighsMore_t ha hv hal hx hbl hy
end Go.Proofs.YtkbgglejhdodoaaDoor
end
section
/- Lists of terms, plainly: what remains, who dominates, how they compare. No program. -/
namespace Go.Proofs.YtkbgglejhdodoaaDoor
open Go.RowKit

theorem minus_nil_left (b : List (List Int)) : minus [] b = [] := by
  induction b with
  | nil => rfl
  | cons y b ih => rw [minus_cons]; simpa using ih
theorem take_snoc {α : Type} (l : List α) (k : Nat) (d : α) (hk : k < l.length) : l.take (k+1) = l.take k ++ [l.getD k d] := by
  rw [List.take_succ_eq_append_getElem hk]; simp [List.getD, hk]
theorem drop_get {α : Type} (l : List α) (k : Nat) (d : α) (hk : k < l.length) : l.drop k = l.getD k d :: l.drop (k+1) := by
  rw [List.drop_eq_getElem_cons hk]; simp [List.getD, hk]
theorem minus_take (a b : List (List Int)) (k : Nat) (hk : k < b.length) : minus a (b.take (k+1)) = (minus a (b.take k)).erase (b.getD k []) := by
  rw [take_snoc b k [] hk]; simp [minus, List.foldl_append]
theorem erase_at {X : List (List Int)} {t : List Int} {j : Nat} (hj : j < X.length) (hn : t ∉ X.take j) (he : X.getD j [] = t) : X.erase t = X.eraseIdx j := by
  induction X generalizing j with
  | nil => simp at hj
  | cons x X ih =>
    cases j with
    | zero =>
      have he : x = t := by simpa using he
      subst he; simp
    | succ j =>
      simp only [List.take_succ_cons, List.mem_cons, not_or] at hn
      rw [List.erase_cons_tail (by simpa using fun h => hn.1 h.symm), List.eraseIdx_cons_succ, ih (by simpa using hj) hn.2 (by simpa using he)]
theorem erase_none {X : List (List Int)} {t : List Int} {j : Nat} (hj : ¬ j < X.length) (hn : t ∉ X.take j) : X.erase t = X := by
  rw [List.take_of_length_le (by omega)] at hn
  exact List.erase_of_not_mem hn
theorem not_take {X : List (List Int)} {t : List Int} {j : Nat} (hj : j < X.length) (hn : t ∉ X.take j) (he : X.getD j [] ≠ t) : t ∉ X.take (j+1) := by
  rw [take_snoc X j [] hj, List.mem_append, List.mem_singleton, not_or]
  exact ⟨hn, fun h => he h.symm⟩
theorem eraseIdx_perm {l : List (List Int)} {i : Nat} (hi : i < l.length) : (l.getD i [] :: l.eraseIdx i).Perm l := by
  induction l generalizing i with
  | nil => simp at hi
  | cons x l ih =>
    cases i with
    | zero => simp
    | succ i =>
      have := ih (i := i) (by simpa using hi)
      rw [show (x :: l).getD (i+1) [] = l.getD i [] from by simp [List.getD], List.eraseIdx_cons_succ]
      exact (List.Perm.swap _ _ _).trans (this.cons x)
/-- The reference's loop: what is out, what is left. -/
theorem left_in {a b out left : List (List Int)} {k i : Nat} (h : minus a b = out ++ minus (a.drop k) left) (hk : k < a.length) (hi : i < left.length) (he : left.getD i [] = a.getD k []) :
    minus a b = out ++ minus (a.drop (k+1)) (left.eraseIdx i) := by
  rw [h, drop_get a k [] hk, minus_front]
  generalize a.getD k [] = t at *
  have hx : left[i] = t := by rw [← he]; simp [List.getD, hi]
  have hm : t ∈ left := by rw [← hx]; exact List.getElem_mem hi
  rw [if_pos hm]
  have hp : (left.erase t).Perm (left.eraseIdx i) := by
    have h1 := eraseIdx_perm hi
    rw [he] at h1
    exact (List.perm_cons t).1 ((List.perm_cons_erase hm).symm.trans h1.symm)
  rw [minus_perm hp]
theorem left_out {a b out left : List (List Int)} {k : Nat} (h : minus a b = out ++ minus (a.drop k) left) (hk : k < a.length) (hn : a.getD k [] ∉ left) :
    minus a b = (out ++ [a.getD k []]) ++ minus (a.drop (k+1)) left := by
  rw [h, drop_get a k [] hk, minus_front, if_neg hn, List.append_assoc]; rfl
theorem left_end {a b out left : List (List Int)} {k : Nat} (h : minus a b = out ++ minus (a.drop k) left) (hk : ¬ k < a.length) : minus a b = out := by
  rw [h, List.drop_eq_nil_of_le (by omega), minus_nil_left, List.append_nil]
theorem minus_get {a b : List (List Int)} {P : List Int → Prop} (h : ∀ t ∈ a, P t) : ∀ t ∈ minus a b, P t := fun t ht => h t (minus_sub ht)

theorem dom_no {a b : List (List Int)} {k : Nat} (hk : k < b.length) (h : (a.any fun u => above u (b.getD k [])) = false) : dom a b = false := by
  rw [Bool.eq_false_iff]
  intro hd
  unfold dom at hd
  rw [List.all_eq_true] at hd
  have := hd (b.getD k []) (by simp [List.getD, hk])
  rw [h] at this; simp at this
theorem dom_take {a b : List (List Int)} {k : Nat} (hk : k < b.length) (h : dom a (b.take k) = true) (h2 : (a.any fun u => above u (b.getD k [])) = true) : dom a (b.take (k+1)) = true := by
  unfold dom at *
  rw [take_snoc b k [] hk, List.all_append, h]
  simpa using h2
theorem dom_all {a b : List (List Int)} {k : Nat} (hk : ¬ k < b.length) (h : dom a (b.take k) = true) : dom a b = true := by
  rwa [List.take_of_length_le (by omega)] at h
theorem any_take {a : List (List Int)} {t : List Int} {i : Nat} (hi : i < a.length) (h : ((a.take i).any fun u => above u t) = false) : ((a.take (i+1)).any fun u => above u t) = above (a.getD i []) t := by
  rw [take_snoc a i [] hi, List.any_append, h]; simp
theorem any_yes {a : List (List Int)} {t : List Int} {i : Nat} (hi : i < a.length) (h : above (a.getD i []) t = true) : (a.any fun u => above u t) = true := by
  rw [List.any_eq_true]; exact ⟨_, by simp [List.getD, hi], h⟩
theorem any_end {a : List (List Int)} {t : List Int} {i : Nat} {q : Bool} (hi : ¬ i < a.length) (h : ((a.take i).any fun u => above u t) = q) : (a.any fun u => above u t) = q := by
  rwa [List.take_of_length_le (by omega)] at h
theorem cmpL_0 {a b : List (List Int)} (h1 : minus a b = []) (h2 : minus b a = []) : cmpL a b = 0 := cmpL_zero.2 ⟨h1, h2⟩
theorem cmpL_1 {a b : List (List Int)} (h0 : ¬ (minus a b = [] ∧ minus b a = [])) (h : dom (minus a b) (minus b a) = true) : cmpL a b = 1 := by unfold cmpL; rw [if_neg h0, if_pos h]
theorem cmpL_m {a b : List (List Int)} (h0 : ¬ (minus a b = [] ∧ minus b a = [])) (h : dom (minus a b) (minus b a) = false) (k : dom (minus b a) (minus a b) = true) : cmpL a b = -1 := by
  unfold cmpL; rw [if_neg h0, if_neg (by rw [h]; simp), if_pos k]
theorem cmpL_2 {a b : List (List Int)} (h0 : ¬ (minus a b = [] ∧ minus b a = [])) (h : dom (minus a b) (minus b a) = false) (k : dom (minus b a) (minus a b) = false) : cmpL a b = 2 := by
  unfold cmpL; rw [if_neg h0, if_neg (by rw [h]; simp), if_neg (by rw [k]; simp)]
/-- The reference asks also that something is there. -/
theorem dom_some {x y : List (List Int)} (h0 : ¬ (x = [] ∧ y = [])) (h : dom x y = true) : 0 < x.length := by
  cases x with
  | nil =>
    cases y with
    | nil => exact absurd ⟨rfl, rfl⟩ h0
    | cons t r => obtain ⟨u, hu, _⟩ := dom_iff.1 h t List.mem_cons_self; simp at hu
  | cons u r => simp
/-- Falling. -/
theorem falls_no {l : List (List Int)} {i : Nat} (h1 : 0 < i) (hi : i < l.length) (h : above (l.getD (i-1) []) (l.getD i []) = false) : falls l = false := by
  rw [Bool.eq_false_iff]; intro hf
  have := falls_pair hf i (i-1) (by omega) hi
  rw [h] at this; simp at this
def fallTo (l : List (List Int)) (i : Nat) : Prop := ∀ j, 0 < j → j < i → above (l.getD (j-1) []) (l.getD j []) = true
theorem fallTo.step {l : List (List Int)} {i : Nat} (h : fallTo l i) (hi : 0 < i → above (l.getD (i-1) []) (l.getD i []) = true) : fallTo l (i+1) := fun j h1 h2 => by
  by_cases e : j = i
  · subst e; exact hi h1
  · exact h j h1 (by omega)
theorem fallTo.done {l : List (List Int)} {i : Nat} (h : fallTo l i) (hi : ¬ i < l.length) : falls l = true := by
  unfold falls
  rw [List.all_eq_true]
  intro j hj
  rw [List.mem_range] at hj
  exact h (j+1) (by omega) (by omega)

def lisOk (ar : List Int) (a b : List (List Int)) : Bool := goodTerms ar a 8 && goodTerms ar b 8
def lisAns (ar : List Int) (a b : List (List Int)) : Int := if lisOk ar a b then cmpL a b else 0
theorem lisOk_iff {ar : List Int} {a b : List (List Int)} : lisOk ar a b = true ↔ goodTerms ar a 8 = true ∧ goodTerms ar b 8 = true := by simp [lisOk]
theorem lis_no {ar : List Int} {a b : List (List Int)} (h : lisOk ar a b = false) : lisAns ar a b = 0 := by simp [lisAns, h]
theorem lis_yes {ar : List Int} {a b : List (List Int)} (h : lisOk ar a b = true) : lisAns ar a b = cmpL a b := by simp [lisAns, h]
def falAns (ar : List Int) (l : List (List Int)) : Bool := goodTerms ar l 8 && falls l
theorem fal_no {ar : List Int} {l : List (List Int)} (h : goodTerms ar l 8 = false) : falAns ar l = false := by simp [falAns, h]
theorem fal_yes {ar : List Int} {l : List (List Int)} (h : goodTerms ar l 8 = true) : falAns ar l = falls l := by simp [falAns, h]
theorem goodTerms_get {ar : List Int} {b : List (List Int)} {m : Nat} (h : goodTerms ar b m = true) (j : Nat) (hj : j < b.length) : okTerm ar (b.getD j []) = true :=
  (goodTerms_iff.1 h).2.2 _ (by simp [List.getD, hj])
end Go.Proofs.YtkbgglejhdodoaaDoor
end
section
/- Rows of slices whose elements lie in older memory: copies, deletion. -/
namespace Go.Proofs.YtkbgglejhdodoaaDoor
open Go.RowKit

/-- A slice's three words. -/
abbrev SV := Option Addr × Nat × Nat
def encS (x : SV) : Value := .slice x.1 x.2.1 x.2.2
theorem encS_one (zs : List SV) : ∀ u ∈ zs.map encS, u.oneCell' = true := by
  intro u hu; obtain ⟨z, _, rfl⟩ := List.mem_map.1 hu; rfl
/-- The elements, read in the world W. -/
def Els (W : World) (zs : List SV) (xss : List (List Int)) : Prop := zs.length = xss.length ∧ ∀ j z, zs[j]? = some z → SlI 0 W.heap.size W (encS z) (xss.getD j [])
def RowV (W wr : World) (v : Value) (xss : List (List Int)) : Prop := ∃ zs : List SV, wr.ownsRow W.heap.size 24 1 v zs.length (zs.map encS) ∧ Els W zs xss
def RetRow (W : World) (xss : List (List Int)) (e : Ending) (w' : World) : Prop := ∃ ad n c, e = .returned (.slice ad n c) ∧ RowV W w' (.slice ad n c) xss ∧ Bel W w'
theorem Els.nil (W : World) : Els W [] [] := ⟨rfl, fun j z h => by simp at h⟩
theorem Els.at {W : World} {zs : List SV} {xss : List (List Int)} (h : Els W zs xss) {j : Nat} (hj : j < xss.length) : ∃ z, zs[j]? = some z ∧ SlI 0 W.heap.size W (encS z) (xss.getD j []) :=
  ⟨_, List.getElem?_eq_getElem (by rw [h.1]; exact hj), h.2 j _ (List.getElem?_eq_getElem (by rw [h.1]; exact hj))⟩
theorem Els.erase {W : World} {zs : List SV} {xss : List (List Int)} (h : Els W zs xss) (i : Nat) (hi : i < xss.length) : Els W (zs.eraseIdx i) (xss.eraseIdx i) := by
  refine ⟨by rw [List.length_eraseIdx, List.length_eraseIdx, h.1], fun j z hj => ?_⟩
  rw [List.getElem?_eraseIdx] at hj
  by_cases hlt : j < i
  · rw [if_pos hlt] at hj
    have := h.2 j z hj
    rwa [show (xss.eraseIdx i).getD j [] = xss.getD j [] from by simp [List.getD, List.getElem?_eraseIdx, hlt]]
  · rw [if_neg hlt] at hj
    have := h.2 (j+1) z hj
    rwa [show (xss.eraseIdx i).getD j [] = xss.getD (j+1) [] from by simp [List.getD, List.getElem?_eraseIdx, hlt]]
theorem Els.snoc {W : World} {zs : List SV} {xss : List (List Int)} (h : Els W zs xss) {z : SV} {t : List Int} (hz : SlI 0 W.heap.size W (encS z) t) : Els W (zs ++ [z]) (xss ++ [t]) := by
  refine ⟨by simp [h.1], fun j u hj => ?_⟩
  by_cases e : j < zs.length
  · rw [List.getElem?_append_left e] at hj
    have := h.2 j u hj
    rwa [show (xss ++ [t]).getD j [] = xss.getD j [] from by simp [List.getD, List.getElem?_append_left (show j < xss.length by rw [← h.1]; exact e)]]
  · have hlt := (List.getElem?_eq_some_iff.1 hj).1
    simp at hlt
    obtain rfl : j = zs.length := by omega
    rw [List.getElem?_append_right (Nat.le_refl _), Nat.sub_self] at hj
    simp at hj
    subst hj
    rwa [show (xss ++ [t]).getD zs.length [] = t from by rw [h.1]; simp [List.getD]]
theorem RowV.form {W wr : World} {v : Value} {xss : List (List Int)} (h : RowV W wr v xss) : ∃ ad c, v = .slice ad xss.length c := by
  obtain ⟨zs, ho, he⟩ := h
  obtain ⟨ad, n, c, rfl⟩ := own_form ho
  have := row_len ho
  rw [he.1] at this
  exact ⟨ad, c, by rw [this]⟩
theorem RowV.bel {W wr w2 : World} {v : Value} {xss : List (List Int)} (h : RowV W wr v xss) (hb : Bel wr w2) : RowV W w2 v xss := by
  obtain ⟨zs, ho, he⟩ := h
  exact ⟨zs, ownsRow_bel ho hb, he⟩
theorem RowV.sls {W wr : World} {v : Value} {xss : List (List Int)} (h : RowV W wr v xss) (hb : Bel W wr) : SlS 0 wr.heap.size wr v xss := by
  obtain ⟨zs, h1, h2, h3⟩ := h
  have h0 := h1
  rcases h1.2 with ⟨rfl, hn⟩ | ⟨g, cap, cur, rfl, hg, hh, hn, hc, hs, ht⟩
  · obtain rfl : xss = [] := List.length_eq_zero_iff.1 (by omega)
    exact SlS.nil _ _ _
  · have hgs : g < wr.heap.size := (Array.getElem?_eq_some_iff.1 hh).1
    refine ⟨_, cap, by rw [h2], by omega, ⟨hc, fun h => by simp at h⟩, fun hp => ⟨g, 0, rfl, Nat.zero_le _, hgs, fun j hj => ?_⟩⟩
    have hju : zs[j]? = some zs[j] := List.getElem?_eq_getElem (by omega)
    refine ⟨encS zs[j], by rw [Nat.zero_add, h0.cellAt j (by omega), List.getElem?_map, hju]; rfl, ?_⟩
    exact ((h3 j _ hju).below hb).mono (Nat.le_refl _) hb.size
/-- Reading the k-th. -/
theorem RowV.at {W wr : World} {ad : Option Addr} {n c : Nat} {xss : List (List Int)} (h : RowV W wr (.slice ad n c) xss) (k : Nat) (hk : k < xss.length) :
    ∃ g z, ad = some ⟨g, 0, none⟩ ∧ W.heap.size ≤ g ∧ wr.cell? ⟨g, k, none⟩ = some (encS z) ∧ SlI 0 W.heap.size W (encS z) (xss.getD k []) := by
  obtain ⟨zs, h1, h2⟩ := h
  have h0 := h1
  obtain ⟨z, hz, hs⟩ := h2.at hk
  rcases h1.2 with ⟨e, hn⟩ | ⟨g, cap, cur, e, hg, hh, _⟩
  · rw [h2.1] at hn; omega
  · simp only [Value.slice.injEq] at e
    obtain ⟨rfl, rfl, rfl⟩ := e
    exact ⟨g, z, rfl, hg, by rw [h0.cellAt k (by rw [h2.1]; omega), List.getElem?_map, hz]; rfl, hs⟩

theorem skolem_lt {α : Type} [Inhabited α] {n : Nat} {P : Nat → α → Prop} (H : ∀ j, j < n → ∃ z, P j z) : ∃ f : Nat → α, ∀ j, j < n → P j (f j) :=
  ⟨fun j => if h : j < n then Classical.choose (H j h) else default, fun j hj => by
    show P j (dite (j < n) (fun h => Classical.choose (H j h)) (fun _ => default))
    rw [dif_pos hj]; exact Classical.choose_spec (H j hj)⟩
/-- The three words of the elements of a slice of slices. -/
theorem SlS.vals {lo hi : Nat} {w : World} {ad : Option Addr} {n c : Nat} {xss : List (List Int)} (h : SlS lo hi w (.slice ad n c) xss) : ∃ zs : List SV, Els w zs xss ∧ ∀ a, ad = some a → ∀ j u, (zs.map encS)[j]? = some u → w.cell? (a.add j) = some u := by
  obtain ⟨ad', cap, e, hc, hm, hr⟩ := h
  simp only [Value.slice.injEq] at e
  obtain ⟨rfl, rfl, rfl⟩ := e
  by_cases hp : 0 < xss.length
  · obtain ⟨b, off, rfl, a1, a2, a3⟩ := hr hp
    have H : ∀ j, j < xss.length → ∃ z : SV, w.cell? ⟨b, off + j, none⟩ = some (encS z) ∧ SlI lo hi w (encS z) (xss.getD j []) := fun j hj => by
      obtain ⟨u, h1, h2⟩ := a3 j hj
      obtain ⟨x, y, rfl⟩ := h2.form
      exact ⟨(x, _, y), h1, h2⟩
    obtain ⟨f, hf⟩ := skolem_lt H
    refine ⟨(List.range xss.length).map f, ⟨by simp, fun j z hj => ?_⟩, fun a ha j u hj => ?_⟩
    · have hlt := (List.getElem?_eq_some_iff.1 hj).1
      simp at hlt
      rw [List.getElem?_map, List.getElem?_range hlt] at hj
      simp only [Option.map_some, Option.some.injEq] at hj
      subst hj
      exact (hf j hlt).2.in'
    · have hlt := (List.getElem?_eq_some_iff.1 hj).1
      simp at hlt
      rw [List.getElem?_map, List.getElem?_map, List.getElem?_range hlt] at hj
      simp only [Option.map_some, Option.some.injEq] at hj
      subst hj
      simp only [Option.some.injEq] at ha
      subst ha
      rw [addr_add]
      exact (hf j hlt).1
  · obtain rfl : xss = [] := List.length_eq_zero_iff.1 (by omega)
    exact ⟨[], Els.nil _, fun a _ j u hj => by simp at hj⟩

set_option maxRecDepth 100000 in
theorem cloneS_c (l h : Nat) (v : Value) (xss : List (List Int)) (w : World) (hx : xss.length ≤ 1048576) (hv : SlS l h w v xss) :
    Calls Tryd.prog 94 #[v] w (RetRow w xss) := by
  obtain ⟨i1, hi1, hy0, hy1, hy2⟩ := info_parts Tryd.info24
  obtain ⟨ad, cap, rfl⟩ := hv.form
  have hv0 := hv
  obtain ⟨zs, hE, hcell⟩ := hv.vals
  have hown : (w.alloc (.cells #[] 24)).ownsRow w.heap.size 24 1 (.slice (some ⟨w.heap.size, 0, none⟩) 0 0) ([] : List SV).length (([] : List SV).map encS) :=
    World.ownsRow_lit w #[] 0 (Nat.le_refl _) (Nat.zero_le _) rfl
  have hk := fun (w : World) (a : Option Addr) (n c : Nat) => Lib.run_eql_slice_nil (P := Tryd.prog) w 36 24 a n c 0 0 Tryd.underlying36
  cases ad with
  | none =>
    obtain ⟨ad', cap', e, -, hm, hr⟩ := hv0
    simp only [Value.slice.injEq] at e
    obtain ⟨rfl, -, rfl⟩ := e
    obtain rfl : xss = [] := by
      rcases Nat.eq_zero_or_pos xss.length with h0 | h0
      · exact List.length_eq_zero_iff.1 h0
      · obtain ⟨_, _, e, _⟩ := hr h0; simp at e
    obtain rfl : cap = 0 := hm.2 rfl
    clear hr hm hv hcell hE
    go_enter Tryd.func94, Tryd.ntmps94
    go_wp2_with fail
    go_ret
    exact ⟨_, _, _, rfl, ⟨[], World.ownsRow_nil _ _ _ _, Els.nil _⟩, Bel.rfl' _⟩
  | some a =>
    have hn : ∀ j u, (zs.map encS)[j]? = some u → (w.alloc (.cells #[] 24)).cell? (a.add j) = some u := fun j u hj => by
      have h1 := hcell a rfl j u hj
      have h2 := World.block_lt_of_cell? w (a.add j) h1
      exact ((Bel.alloc0 w (.cells #[] 24)).cell h2).trans h1
    have hzl := hE.1
    clear hcell hv hv0
    go_enter Tryd.func94, Tryd.ntmps94
    go_wp2_with (at_builtin; refine wpList_append_own _ rfl _ _ 36 rfl w.heap.size 24 i1 (.slice none 0 0) 1 24 Tryd.underlying36 hi1 hy0 hy1 hy2 rfl (by decide) _ _ _ rfl hown a xss.length cap (zs.map encS) rfl (by simp [hzl]) hn (encS_one _) (by unfold maxLen; simp; omega) (by simp; omega) (by simp) ?_; intro v' w1 hown' hgrow _)
    have hb1 := (Bel.alloc0 w (.cells #[] 24)).grown hgrow (fun k hk => own_base hown k hk)
    have hown2 : w1.ownsRow w.heap.size 24 1 v' zs.length (zs.map encS) := by rw [hzl]; simpa using hown'
    obtain ⟨g, n, c, rfl⟩ := own_form hown2
    go_ret
    exact ⟨_, _, _, rfl, ⟨zs, hown2, hE⟩, hb1⟩

/-- slices.Delete: the library's contract laid at this program. -/
def delRen : Go.Shelf.Ren := ⟨fun | 45 => 95 | n => n, fun | 0 => 0 | 3 => 3 | 4 => 4 | 22 => 36 | 23 => 24 | n => n, fun n => n⟩
set_option maxRecDepth 100000 in
theorem laysDel : SlLaysE.n45 Tryd.prog delRen := {
  mixed := by kernel_rfl
  f45 := ⟨Tryd.f95.name, by kernel_rfl, Tryd.func95.trans (congrArg some (by kernel_rfl))⟩
  t0 := Tryd.underlying0
  a0 := fun w => by kernel_rfl
  z0 := fun w => by kernel_rfl
  v0 := fun w => by kernel_rfl
  t3 := Tryd.underlying3
  a3 := fun w => by kernel_rfl
  z3 := fun w => by kernel_rfl
  v3 := fun w => by kernel_rfl
  t4 := Tryd.underlying4
  a4 := fun w => by kernel_rfl
  z4 := fun w => by kernel_rfl
  v4 := fun w => by kernel_rfl
  t22 := Tryd.underlying36
  a22 := fun w => by kernel_rfl
  z22 := fun w => by kernel_rfl
  v22 := fun w => by kernel_rfl
  a23 := fun w => by kernel_rfl
  z23 := fun w => by kernel_rfl }

theorem deleteS_c (W wr : World) (ad : Option Addr) (n cap i : Nat) (xss : List (List Int)) (hi : i < xss.length) (hx : xss.length ≤ 1048576) (hb : Bel W wr) (hR : RowV W wr (.slice ad n cap) xss) :
    Calls Tryd.prog 95 #[.slice ad n cap, .int .i64 i, .int .i64 ((i : Int) + 1)] wr (RetRow W (xss.eraseIdx i)) := by
  obtain ⟨i1, hi1, hy0, hy1, hy2⟩ := info_parts Tryd.info24
  obtain ⟨zs, hown, hE⟩ := hR
  have hzl := hE.1
  have hne : Value.slice ad n cap ≠ .slice none 0 0 := by
    intro e
    have := row_len hown
    simp only [Value.slice.injEq] at e
    omega
  obtain ⟨g, cap', e, hg, hlt, hnc, hcm, -, hH⟩ := Lib.holds_of_ownsRow hown hne
  simp only [Value.slice.injEq] at e
  obtain ⟨rfl, rfl, rfl⟩ := e
  have hc := AnyE.slices_Delete laysDel encS (fun _ => rfl) ((none, 0, 0) : SV) (fun w => by kernel_rfl) i1 hi1 hy1 g 0 cap i (i + 1) zs.toArray wr hH (by simpa using hnc) (by unfold maxLen at hcm; omega) (by omega) (by simp; omega)
  have hs : zs.toArray.size = zs.length := by simp
  rw [hs] at hc
  rw [show ((i + 1 : Nat) : Int) = (i : Int) + 1 from by omega] at hc
  refine Calls.mono hc ?_
  rintro e w' ⟨rfl, q, rfl⟩
  have hyl : (zs.take i ++ zs.drop (i + 1) ++ List.replicate (i + 1 - i) ((none, 0, 0) : SV)).length = zs.length := by simp; omega
  have hown2 := Lib.ownsRow_putRow (q := q) (k := zs.length - (i + 1 - i)) hown hyl (by omega)
  have hyt : (zs.take i ++ zs.drop (i + 1) ++ List.replicate (i + 1 - i) ((none, 0, 0) : SV)).take (zs.length - (i + 1 - i)) = zs.eraseIdx i := by
    rw [List.eraseIdx_eq_take_drop_succ, List.take_append_of_le_length (by simp; omega), List.take_of_length_le (by simp; omega)]
  rw [hyt] at hown2
  have hl2 : zs.length - (i + 1 - i) = (zs.eraseIdx i).length := by rw [List.length_eraseIdx_of_lt (by omega)]; omega
  refine ⟨_, _, _, rfl, ⟨zs.eraseIdx i, ?_, hE.erase i hi⟩, Lib.below_putRow hb hg⟩
  rw [hl2] at hown2 ⊢
  simpa using hown2
end Go.Proofs.YtkbgglejhdodoaaDoor
end
