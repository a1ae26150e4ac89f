/- Texts merged, part 4. -/
import Derived.Shelf.SlicesE.Delete
import Derived.Lib.OwnBridge
import Derived.Deep.AppendLies
import Derived.Maps.AppendAt
import Derived.Deep.RegionHeldLaw
import Derived.Lib.MinMaxS
import Derived.Laws.BytesString
import Derived.Test.YtikllmdmifecpaaGreatDoorMgSuperpose3
section
/- Chapter 4: facts on the answers. No program. -/
namespace Go.Proofs.YtikllmdmifecpaaGreatDoor
open Go.RowKit

theorem flat_all (ar : List Int) (c : List Lt) : (flatC c).all (okTerm ar) = c.all (okLit ar) := by
  induction c with
  | nil => rfl
  | cons x r ih => rw [flatC_cons]; simp only [List.all_cons, ih, okLit, Bool.and_assoc]
theorem goodTerms_flat (ar : List Int) {c : List Lt} (h : c.length ≤ 8) : goodTerms ar (flatC c) 16 = goodClause ar c := by
  unfold goodTerms goodClause okLits
  rw [flat_all, flatC_len, decide_eq_true (show 2 * c.length ≤ 16 by omega), decide_eq_true h, Bool.and_true, Bool.true_and]
theorem goodClause_long (ar : List Int) {c : List Lt} (h : ¬ c.length ≤ 8) : goodClause ar c = false := by
  unfold goodClause okLits
  rw [decide_eq_false h]; simp
theorem flat_mem {c : List Lt} {t : List Int} (h : t ∈ flatC c) : ∃ x ∈ c, t = x.2.1 ∨ t = x.2.2 := by
  unfold flatC at h
  obtain ⟨x, hx, ht⟩ := List.mem_flatMap.1 h
  exact ⟨x, hx, by simpa using ht⟩
theorem flat_ok {ar : List Int} {c : List Lt} (h : ∀ x ∈ c, okLit ar x = true) {t : List Int} (ht : t ∈ flatC c) : okTerm ar t = true := by
  obtain ⟨x, hx, e⟩ := flat_mem ht
  have := okLit_iff.1 (h x hx)
  rcases e with rfl | rfl
  · exact this.1
  · exact this.2
theorem mem_getD {α : Type} (l : List α) (d : α) (j : Nat) (h : j < l.length) : l.getD j d ∈ l := by
  rw [List.getD_eq_getElem?_getD, List.getElem?_eq_getElem h]; exact List.getElem_mem h
theorem ok_litC {ar : List Int} {c : List Lt} (h : goodClause ar c = true) {j : Nat} (hj : j < c.length) : okTerm ar (c.getD j lt0).2.1 = true ∧ okTerm ar (c.getD j lt0).2.2 = true :=
  okLits_get (goodClause_iff.1 h).2.2 j hj

theorem low_memC {t : List Int} (h : ∀ n ∈ t, -12 ≤ n) : ∀ k, k < t.length → -12 ≤ t.getD k 0 := fun k hk => h _ (mem_getD t 0 k hk)
theorem ok_low {ar t : List Int} (h : okTerm ar t = true) {n : Int} (hn : n ∈ t) : -12 ≤ n := by
  obtain ⟨k, hk, rfl⟩ := List.getElem_of_mem hn
  have := good_sym ar t h k hk
  simp [okSym, inB, hk] at this
  exact this.1
theorem flat_low {ar : List Int} {c : List Lt} (h : goodClause ar c = true) : ∀ k, k < (flatC c).flatten.length → -12 ≤ (flatC c).flatten.getD k 0 := by
  refine low_memC fun n hn => ?_
  obtain ⟨t, ht, hnt⟩ := List.mem_flatten.1 hn
  exact ok_low (flat_ok (goodClause_iff.1 h).2.2 ht) hnt

/-- The signs of c, those terms. -/
theorem zipC_len (c : List Lt) : ∀ ts : List (List Int), ts.length = 2 * c.length → (zipC c ts).length = c.length := by
  induction c with
  | nil => intro ts _; rfl
  | cons x c ih =>
    intro ts h
    match ts, h with
    | l :: r :: ts, h => simp [zipC, ih ts (by simp at h; omega)]
theorem zipC_flat (c : List Lt) : ∀ ts : List (List Int), ts.length = 2 * c.length → flatC (zipC c ts) = ts := by
  induction c with
  | nil => intro ts h; simp at h; subst h; rfl
  | cons x c ih =>
    intro ts h
    match ts, h with
    | l :: r :: ts, h => simp only [zipC, flatC_cons]; rw [ih ts (by simp at h; omega)]
theorem zipC_signs (c : List Lt) : ∀ ts : List (List Int), ts.length = 2 * c.length → (zipC c ts).map (·.1) = c.map (·.1) := by
  induction c with
  | nil => intro ts _; rfl
  | cons x c ih =>
    intro ts h
    match ts, h with
    | l :: r :: ts, h => simp [zipC, ih ts (by simp at h; omega)]
theorem zipC_get (c : List Lt) : ∀ (ts : List (List Int)) (j : Nat), ts.length = 2 * c.length → j < c.length → (zipC c ts).getD j lt0 = ((c.getD j lt0).1, ts.getD (2*j) [], ts.getD (2*j+1) []) := by
  induction c with
  | nil => intro ts j _ h; simp at h
  | cons x c ih =>
    intro ts j h hj
    match ts, h with
    | l :: r :: ts, h =>
      cases j with
      | zero => simp [zipC]
      | succ j =>
        have := ih ts j (by simp at h; omega) (by simpa using hj)
        simpa [zipC, show 2 * (j + 1) = 2 * j + 1 + 1 from by omega] using this
theorem zipC_map (f : List Int → List Int) (c : List Lt) : zipC c ((flatC c).map f) = c.map fun x => (x.1, f x.2.1, f x.2.2) := by
  induction c with
  | nil => rfl
  | cons x c ih => rw [flatC_cons]; simp [zipC, ih]

def varsInAns (ar : List Int) (c : List Lt) : List Int := if goodClause ar c then natsI (varsTo (mk (flatC c).flatten) 12) else []
theorem varsInAns_len (ar : List Int) (c : List Lt) : (varsInAns ar c).length ≤ 1048576 := by
  unfold varsInAns
  split
  · rw [natsI_len]; exact Nat.le_trans (varsTo_len _ _) (by omega)
  · exact Nat.zero_le _

def applyC (b : List (List Int)) (c : List Lt) : List Lt := c.map fun x => (x.1, appT b x.2.1, appT b x.2.2)
def applyCok (ar : List Int) (b : List (List Int)) (c : List Lt) : Bool := (goodSubst ar b && okLits ar c) && okLits ar (applyC b c)
def applyCAns (ar : List Int) (b : List (List Int)) (c : List Lt) : List Lt := if applyCok ar b c then applyC b c else []
theorem applyC_flat (b : List (List Int)) (c : List Lt) : flatC (applyC b c) = (flatC c).map (appT b) := by
  induction c with
  | nil => rfl
  | cons x c ih => rw [flatC_cons, show applyC b (x :: c) = (x.1, appT b x.2.1, appT b x.2.2) :: applyC b c from rfl, flatC_cons, ih]; rfl
theorem applyC_ok {ar : List Int} {b : List (List Int)} {c : List Lt} (hb : goodSubst ar b = true) (hc : okLits ar c = true) : okLits ar (applyC b c) = (flatC c).all (app40ok b) := by
  obtain ⟨hl, h⟩ := okLits_iff.1 hc
  unfold okLits
  rw [← flat_all, applyC_flat, show (applyC b c).length = c.length from by simp [applyC], decide_eq_true hl, Bool.true_and, List.all_map]
  rw [Bool.eq_iff_iff, List.all_eq_true, List.all_eq_true]
  constructor
  · intro k t ht
    rw [← app_ok hb (flat_ok h ht)]; exact k t ht
  · intro k t ht
    show okTerm ar (appT b t) = true
    rw [app_ok hb (flat_ok h ht)]; exact k t ht

def renC (c : List Lt) : List Lt := zipC c (renS [] (flatC c))
def renCAns (ar : List Int) (c : List Lt) : List Lt := if goodClause ar c then renC c else []
end Go.Proofs.YtikllmdmifecpaaGreatDoor
end
section
/- Chapter 4, the reference: literals and clauses that are valid, weights. -/
namespace Go.Proofs.YtikllmdmifecpaaGreatDoor
open Go.RowKit

set_option maxRecDepth 100000 in
set_option maxHeartbeats 400000 in
theorem l4Lit_c (l h l' h' : Nat) (v u1 u2 : Value) (ar xl xr : List Int) (p : Bool) (w : World) (hg : goodSign ar = true) (hl : xl.length ≤ 1048576) (hr : xr.length ≤ 1048576) (hv : SlI l h w v ar) (h1 : SlI l' h' w u1 xl) (h2 : SlI l' h' w u2 xr) :
    Calls Tryz.prog 79 #[.agg #[v], .agg #[.bool p, u1, u2]] w (RetV w (.bool (okTerm ar xl && okTerm ar xr))) := by
  have HB : Bel w ((w.alloc (.cells #[v] 33)).alloc (.cells #[.bool p, u1, u2] 67)) := Bel.alloc2 _ _ _
  cases e1 : okTerm ar xl with
  | false =>
    have HC := Lib.hid (fun (w' : World) (hb : Bel w w') => l1Term_v l h l' h' v u1 ar xl false w' e1 hg hl (hv.below hb) (h1.below hb))
    clear hv h1 h2 e1
    go_enter Tryz.func79, Tryz.ntmps79
    go_wp2_with fail
    refine (HC.out _ HB).mono ?_; rintro e w1 ⟨rfl, hb1⟩
    go_wp2_with fail
    go_ret
    exact ⟨rfl, HB.step hb1⟩
  | true =>
    rw [Bool.true_and]
    have HC := Lib.hid (fun (w' : World) (hb : Bel w w') => l1Term_v l h l' h' v u1 ar xl true w' e1 hg hl (hv.below hb) (h1.below hb))
    have HD := Lib.hid (fun (w' : World) (hb : Bel w w') => l1Term_c l h l' h' v u2 ar xr w' hg hr (hv.below hb) (h2.below hb))
    clear hv h1 h2 e1
    go_enter Tryz.func79, Tryz.ntmps79
    go_wp2_with fail
    refine (HC.out _ HB).mono ?_; rintro e w1 ⟨rfl, hb1⟩
    have k0 := hb1.at (b := w.heap.size) (off := 0) (by simp; omega) (show World.cell? _ _ = some v by simp [go_sem])
    have k2 := hb1.at (b := w.heap.size + 1) (off := 2) (by simp) (show World.cell? _ _ = some u2 by simp [go_sem])
    go_wp2_with fail
    refine (HD.out _ (HB.step hb1)).mono ?_; rintro e w2 ⟨rfl, hb2⟩
    go_wp2_with fail
    go_ret
    exact ⟨rfl, (HB.step hb1).step hb2⟩
end Go.Proofs.YtikllmdmifecpaaGreatDoor
end
section
/- The laws' helpers over literals and slices of literals, by contracts: sizes and copies. -/
namespace Go.Proofs.YtikllmdmifecpaaGreatDoor
open Go.RowKit

set_option maxRecDepth 100000 in
set_option maxHeartbeats 400000 in
theorem szLit_c (l h : Nat) (p : Bool) (u1 u2 : Value) (xl xr : List Int) (left : Int) (w : World) (hl : xl.length ≤ 9223372036854775807) (hr : xr.length ≤ 9223372036854775807) (h0 : 0 ≤ left) (h1 : left ≤ 1048576) (hv1 : SlI l h w u1 xl) (hv2 : SlI l h w u2 xr) :
    Calls Tryz.prog 50 #[.agg #[.bool p, u1, u2], .int .i64 left] w (RetV w (.int .i64 (szI (xl.length + xr.length) left))) := by
  have HB := Bel.alloc0 w (.cells #[.bool p, u1, u2] 81)
  by_cases hs : left - xl.length < 0
  · have E : Hid (szI (xl.length + xr.length) left = -1) := by show szI _ _ = _; unfold szI; rw [if_pos (by omega)]
    have e1 : szI xl.length left = -1 := by unfold szI; rw [if_pos hs]
    have HC := Lib.hid (szIntS_c l h u1 xl left _ hl h0 h1 (hv1.below HB))
    rw [e1] at HC
    clear hv1 hv2 hs e1
    go_enter Tryz.func50, Tryz.ntmps50
    go_wp2_with (go_at_call 49; refine HC.out.mono ?_; rintro e w' ⟨rfl, hb1⟩)
    go_ret
    exact ⟨by rw [E.out]; rfl, HB.step hb1⟩
  · have e1 : szI xl.length left = left - xl.length := by unfold szI; rw [if_neg hs]
    have HC := Lib.hid (szIntS_c l h u1 xl left _ hl h0 h1 (hv1.below HB))
    rw [e1] at HC
    have hz0 : 0 ≤ left - (xl.length : Int) := by omega
    have hz1 : left - (xl.length : Int) ≤ 1048576 := by omega
    by_cases hs2 : left - xl.length - xr.length < 0
    · have E : Hid (szI (xl.length + xr.length) left = -1) := by show szI _ _ = _; unfold szI; rw [if_pos (by omega)]
      have e2 : szI xr.length (left - xl.length) = -1 := by unfold szI; rw [if_pos hs2]
      have HD := Lib.hid (fun (w' : World) (hb : Bel (w.alloc (.cells #[.bool p, u1, u2] 81)) w') => szIntS_c l h u2 xr (left - xl.length) w' hr hz0 hz1 ((hv2.below HB).below hb))
      rw [e2] at HD
      clear hv1 hv2 hs e1 hs2 e2
      generalize left - (xl.length : Int) = z at *
      go_enter Tryz.func50, Tryz.ntmps50
      go_wp2_with fail
      refine HC.out.mono ?_; rintro e w1 ⟨rfl, hb1⟩
      have hbx := hb1.at (b := w.heap.size) (off := 2) (by simp) (show (w.alloc (.cells #[.bool p, u1, u2] 81)).cell? ⟨w.heap.size, 2, none⟩ = some u2 by simp)
      go_wp2_with fail
      refine (HD.out _ hb1).mono ?_; rintro e w2 ⟨rfl, hb2⟩
      go_wp2_with fail
      go_ret
      exact ⟨by rw [E.out]; rfl, (HB.step hb1).step hb2⟩
    · have E : Hid (szI (xl.length + xr.length) left = left - xl.length - xr.length) := by show szI _ _ = _; unfold szI; rw [if_neg (by omega)]; omega
      have e2 : szI xr.length (left - xl.length) = left - xl.length - xr.length := by unfold szI; rw [if_neg hs2]
      have HD := Lib.hid (fun (w' : World) (hb : Bel (w.alloc (.cells #[.bool p, u1, u2] 81)) w') => szIntS_c l h u2 xr (left - xl.length) w' hr hz0 hz1 ((hv2.below HB).below hb))
      rw [e2] at HD
      have hy0 : 0 ≤ left - (xl.length : Int) - xr.length := by omega
      clear hv1 hv2 hs e1 hs2 e2
      generalize left - (xl.length : Int) - (xr.length : Int) = y at *
      generalize left - (xl.length : Int) = z at *
      go_enter Tryz.func50, Tryz.ntmps50
      go_wp2_with fail
      refine HC.out.mono ?_; rintro e w1 ⟨rfl, hb1⟩
      have hbx := hb1.at (b := w.heap.size) (off := 2) (by simp) (show (w.alloc (.cells #[.bool p, u1, u2] 81)).cell? ⟨w.heap.size, 2, none⟩ = some u2 by simp)
      go_wp2_with fail
      refine (HD.out _ hb1).mono ?_; rintro e w2 ⟨rfl, hb2⟩
      go_wp2_with fail
      go_ret
      exact ⟨by rw [E.out]; rfl, (HB.step hb1).step hb2⟩

def szC (c : List Lt) (left : Int) : Int := if left - (sumC c : Nat) < 0 then -1 else left - (sumC c : Nat)
def lenC (c : List Lt) : Nat := sumL (flatC c)
theorem sumC_eq (c : List Lt) : sumC c = c.length + lenC c := by
  unfold lenC
  induction c with
  | nil => rfl
  | cons x r ih => rw [flatC_cons]; simp only [sumC, sumL, List.map_cons, List.sum_cons, List.length_cons, wC] at *; omega
theorem lenC_take (c : List Lt) (k : Nat) (h : k < c.length) : lenC (c.take (k+1)) = lenC (c.take k) + ((c.getD k lt0).2.1.length + (c.getD k lt0).2.2.length) := by
  have h1 := sumC_take c k h
  rw [sumC_eq, sumC_eq] at h1
  have e1 : (c.take (k+1)).length = k + 1 := by rw [List.length_take]; omega
  have e2 : (c.take k).length = k := by rw [List.length_take]; omega
  unfold wC at h1
  omega
theorem lenC_all (c : List Lt) (k : Nat) (h : ¬ k < c.length) : lenC (c.take k) = lenC c := by rw [List.take_of_length_le (by omega)]
theorem lenC_get (c : List Lt) (k : Nat) (h : k < c.length) : lenC (c.take k) + ((c.getD k lt0).2.1.length + (c.getD k lt0).2.2.length) ≤ lenC c := by
  rw [← lenC_take c k h]
  conv => rhs; rw [← List.take_append_drop (k+1) c]
  unfold lenC
  rw [flatC_app]; unfold sumL; rw [List.map_append, List.sum_append]; omega
theorem SlC.max {lo hi w v c} (h : SlC lo hi w v c) : c.length ≤ 9223372036854775807 ∧ ∀ j, j < c.length → (c.getD j lt0).2.1.length ≤ 9223372036854775807 ∧ (c.getD j lt0).2.2.length ≤ 9223372036854775807 := by
  obtain ⟨ad, cap, e, hc, hm, hr⟩ := h
  have hml : maxLen = 9223372036854775807 := rfl
  refine ⟨by omega, fun j hj => ?_⟩
  obtain ⟨b, off, _, _, _, hx⟩ := hr (by omega)
  obtain ⟨u1, u2, _, _, _, ⟨ad2, cap2, _, hc2, hm2, _⟩, ⟨ad3, cap3, _, hc3, hm3, _⟩⟩ := hx j hj
  omega

set_option maxRecDepth 100000 in
set_option maxHeartbeats 400000 in
theorem szLitS_c (l h : Nat) (v : Value) (c : List Lt) (left : Int) (w : World) (h0 : 0 ≤ left) (h1 : left ≤ 1048576) (hv : SlC l h w v c) :
    Calls Tryz.prog 10 #[v, .int .i64 left] w (RetV w (.int .i64 (szC c left))) := by
  obtain ⟨ad, cap, rfl⟩ := hv.form
  obtain ⟨hx, hmax⟩ := hv.max
  have hse := sumC_eq c
  by_cases hs : left - c.length < 0
  · have E : Hid (szC c left = -1) := by show szC _ _ = _; unfold szC; rw [if_pos (by omega)]
    go_enter Tryz.func10, Tryz.ntmps10
    go_wp2_with fail
    go_ret
    exact ⟨by rw [E.out]; rfl, Bel.rfl' _⟩
  · have hw1 := IntWalk.i64_in (left - c.length) (by omega)
    go_enter Tryz.func10, Tryz.ntmps10
    go_wp2_with fail
    go_loopw [1, 5] (fun m i wr => ∃ (k : Nat) (z : Int), k ≤ c.length ∧ i = .int .i64 k ∧ m = .int .i64 z ∧ 0 ≤ z ∧ z = left - c.length - (lenC (c.take k) : Nat) ∧ Bel w wr) (fun _ i _ => c.length - (intOf i).toNat)
    case atStart => exact ⟨0, _, Nat.zero_le _, rfl, by go_num, by omega, by simp [lenC, flatC, sumL], Bel.rfl' _⟩
    case round =>
      obtain ⟨k, z, hk, rfl, rfl, hz0, hz, hb⟩ := hrel
      by_cases hlt : k < c.length
      · obtain ⟨b, off, u1, u2, rfl, -, c1, c2, c3, s1, s2⟩ := hv.at hb k hlt
        obtain ⟨hm1, hm2⟩ := hmax k hlt
        have hst := lenC_take c k hlt
        have hsl := lenC_get c k hlt
        have hcall := szLit_c l h (c.getD k lt0).1 u1 u2 (c.getD k lt0).2.1 (c.getD k lt0).2.2 z wr hm1 hm2 hz0 (by omega) s1 s2
        have hin0 : (0 : Int) ≤ k := by omega
        have hin1 : (k : Int) < c.length := by omega
        generalize hp : (c.getD k lt0).1 = p at *
        generalize hxl : (c.getD k lt0).2.1 = xl at *
        generalize hxr : (c.getD k lt0).2.2 = xr at *
        by_cases hneg : z - (xl.length + xr.length : Int) < 0
        · have e1 : szI (xl.length + xr.length) z = -1 := by unfold szI; rw [if_pos hneg]
          have E : Hid (szC c left = -1) := by show szC _ _ = _; unfold szC; rw [if_pos (by omega)]
          rw [e1] at hcall
          have HC := Lib.hid hcall
          clear hcall hv s1 s2 hmax hst hsl e1 hneg hz hse hxl hxr hp
          go_wp2_with (go_at_call 50; refine HC.out.mono ?_; rintro e w' ⟨rfl, hb1⟩)
          go_ret
          exact ⟨by rw [E.out]; rfl, hb.step hb1⟩
        · have e1 : szI (xl.length + xr.length) z = z - (xl.length + xr.length) := by unfold szI; rw [if_neg hneg]
          have hz' : z - ((xl.length : Int) + xr.length) = left - c.length - (lenC (c.take (k+1)) : Nat) := by omega
          rw [e1] at hcall
          have HC := Lib.hid hcall
          have HZ := Lib.hid hz'
          have hz2 : 0 ≤ z - ((xl.length : Int) + xr.length) := by omega
          clear hcall hv s1 s2 hmax hst hsl e1 hneg hz hz' hse hxl hxr hp
          generalize z - ((xl.length : Int) + xr.length) = z2 at *
          go_wp2_with (go_at_call 50; refine HC.out.mono ?_; rintro e w' ⟨rfl, hb1⟩)
          go_roundw
          case rel => exact ⟨k+1, z2, by omega, by go_num, rfl, hz2, HZ.out, hb.step hb1⟩
          case measure => simp [intOf]; omega
      · have E : Hid (szC c left = z) := by
          show szC _ _ = _
          rw [lenC_all c k hlt] at hz
          unfold szC; rw [if_neg (by omega)]; omega
        clear hz
        go_wp2_with fail
        go_ret
        exact ⟨by rw [E.out]; rfl, hb⟩
end Go.Proofs.YtikllmdmifecpaaGreatDoor
end
section
/- Chapter 4, the reference: valid clauses, weights. -/
namespace Go.Proofs.YtikllmdmifecpaaGreatDoor
open Go.RowKit

theorem okTerm_len {ar t : List Int} (h : okTerm ar t = true) : 1 ≤ t.length ∧ t.length ≤ 40 := ⟨((okTerm_iff ar t).1 h).1, ((okTerm_iff ar t).1 h).2.1⟩
theorem l4Lit_v (l h l' h' : Nat) (v u1 u2 : Value) (ar xl xr : List Int) (p q : Bool) (w : World) (hq : (okTerm ar xl && okTerm ar xr) = q) (hg : goodSign ar = true) (hl : xl.length ≤ 1048576) (hr : xr.length ≤ 1048576) (hv : SlI l h w v ar) (h1 : SlI l' h' w u1 xl) (h2 : SlI l' h' w u2 xr) :
    Calls Tryz.prog 79 #[.agg #[v], .agg #[.bool p, u1, u2]] w (RetV w (.bool q)) := by subst hq; exact l4Lit_c l h l' h' v u1 u2 ar xl xr p w hg hl hr hv h1 h2

set_option maxRecDepth 100000 in
set_option maxHeartbeats 400000 in
theorem l4Clause_c (l h l' h' : Nat) (v u : Value) (ar : List Int) (c : List Lt) (w : World) (hg : goodSign ar = true) (hx : shortC c) (hv : SlI l h w v ar) (hu : SlC l' h' w u c) :
    Calls Tryz.prog 52 #[.agg #[v], u] w (RetV w (.bool (okLits ar c))) := by
  obtain ⟨ad, cap, rfl⟩ := hu.form
  obtain ⟨hxl, hxj⟩ := hx
  go_enter Tryz.func52, Tryz.ntmps52
  go_wp2_with fail
  go_loopw [9] (fun i wr => ∃ k : Nat, k ≤ c.length ∧ i = .int .i64 k ∧ okTo ar c k ∧ Bel (w.alloc (.cells #[v] 33)) wr) (fun i _ => c.length - (intOf i).toNat)
  case atStart => exact ⟨0, Nat.zero_le _, rfl, fun j hj => absurd hj (by omega), Bel.rfl' _⟩
  case round =>
    obtain ⟨k, hk, rfl, hto, hb⟩ := hrel
    have hbox := boxc hb 0 _ rfl
    by_cases hlt : k < c.length
    · obtain ⟨b, off, u1, u2, rfl, hbs, c1, c2, c3, s1, s2⟩ := hu.at hb.of_alloc k hlt
      obtain ⟨hm1, hm2⟩ := hxj k hlt
      have hstep := hto.step (k := k)
      have hbad := okLits_bad (ar := ar) hlt
      have hin1 : (k : Int) < c.length := by omega
      have hvr := hv.below hb.of_alloc
      clear hu hv hxj hto
      unfold okLit at hstep hbad
      generalize c.getD k lt0 = x at *
      obtain ⟨p, xl, xr⟩ := x
      simp only at *
      obtain ⟨a1, d1, rfl⟩ := s1.form
      obtain ⟨a2, d2, rfl⟩ := s2.form
      have hbox2 := boxc (hb.alloc (.cells #[.bool p, .slice a1 xl.length d1, .slice a2 xr.length d2] 67)) 0 _ rfl
      cases hq : (okTerm ar xl && okTerm ar xr) with
      | false =>
        have E := Lib.hid (hbad hq)
        have HQ := Lib.hid hq
        clear hstep hbad hq
        go_wp2_with fail
        refine (l4Lit_v l h l' h' v _ _ ar xl xr p false _ HQ.out hg hm1 hm2 (hvr.alloc _) (s1.alloc _) (s2.alloc _)).mono ?_; rintro e w1 ⟨rfl, hb1⟩
        go_wp2_with fail
        go_ret
        exact ⟨by rw [E.out]; rfl, hb.of_alloc.step ((Bel.alloc0 _ _).step hb1)⟩
      | true =>
        have E := Lib.hid (hstep hq)
        have HQ := Lib.hid hq
        clear hstep hbad hq
        go_wp2_with fail
        refine (l4Lit_v l h l' h' v _ _ ar xl xr p true _ HQ.out hg hm1 hm2 (hvr.alloc _) (s1.alloc _) (s2.alloc _)).mono ?_; rintro e w1 ⟨rfl, hb1⟩
        go_wp2_with fail
        go_roundw
        case rel => exact ⟨k+1, by omega, by go_num, E.out, hb.step ((Bel.alloc0 _ _).step hb1)⟩
        case measure => simp [intOf]; omega
    · obtain rfl : k = c.length := by omega
      have E := Lib.hid hto.done
      have hd : decide ((c.length : Int) ≤ 8) = decide (c.length ≤ 8) := by rw [decide_eq_decide]; omega
      go_wp2_with fail
      go_ret
      exact ⟨by rw [E.out, ← hd]; rfl, hb.of_alloc⟩

end Go.Proofs.YtikllmdmifecpaaGreatDoor
end
section
/- Chapter 4, the reference: GoodClause, WeightOf. -/
namespace Go.Proofs.YtikllmdmifecpaaGreatDoor
open Go.RowKit

set_option maxRecDepth 100000 in
set_option maxHeartbeats 400000 in
theorem sGoodClause_t {l h l' h' : Nat} {v u : Value} {ar : List Int} {c : List Lt} {w : World} (ha : ar.length ≤ 1048576) (hv : SlI l h w v ar) (hc : sumC c ≤ 1048576) (hu : SlC l' h' w u c) :
    Calls Tryz.prog 51 #[.agg #[v], u] w (RetV w (.bool (goodClause ar c))) := by
  unfold goodClause
  cases hg : goodSign ar with
  | false =>
    rw [Bool.false_and]
    have HG := Lib.hid hg; clear hg
    go_enter Tryz.func51, Tryz.ntmps51
    go_wp2_with fail
    refine (sGoodSign_v _ _ _ _ _ _ HG.out ha (hv.alloc _)).mono ?_; rintro e w1 ⟨rfl, hb1⟩
    go_wp2_with fail
    go_ret
    exact ⟨rfl, hb1.of_alloc⟩
  | true =>
    rw [Bool.true_and]
    have HG := Lib.hid hg
    have HC := Lib.hid (fun (w' : World) (hb : Bel w w') => l4Clause_c l h l' h' v u ar c w' hg (shortC_of_sum hc) (hv.below hb) (hu.below hb))
    clear hg hc
    go_enter Tryz.func51, Tryz.ntmps51
    go_wp2_with fail
    refine (sGoodSign_v _ _ _ _ _ _ HG.out ha (hv.alloc _)).mono ?_; rintro e w1 ⟨rfl, hb1⟩
    have hbox := boxc hb1 0 _ rfl
    go_wp2_with fail
    refine (HC.out _ hb1.of_alloc).mono ?_; rintro e w2 ⟨rfl, hb2⟩
    go_wp2_with fail
    go_ret
    exact ⟨rfl, hb1.of_alloc.step hb2⟩
theorem sGoodClause_v {l h l' h' : Nat} {v u : Value} {ar : List Int} {c : List Lt} {w : World} {q : Bool} (he : goodClause ar c = q) (ha : ar.length ≤ 1048576) (hv : SlI l h w v ar) (hc : sumC c ≤ 1048576) (hu : SlC l' h' w u c) :
    Calls Tryz.prog 51 #[.agg #[v], u] w (RetV w (.bool q)) := by subst he; exact sGoodClause_t ha hv hc hu

end Go.Proofs.YtikllmdmifecpaaGreatDoor
end
section
/- Chapter 6: the answers, as plain functions. No program. -/
namespace Go.Proofs.YtikllmdmifecpaaGreatDoor
open Go.RowKit

theorem varsTo_pair (f : Nat → Bool) (n : Nat) : (varsTo f n).Pairwise (· < ·) := by
  unfold varsTo
  exact List.Pairwise.sublist List.filter_sublist List.pairwise_lt_range
theorem varsTo_lt {f : Nat → Bool} {n j : Nat} (h : j ∈ varsTo f n) : j < n := by simp [varsTo] at h; exact h.1
/-- The numbers of a clause's variables. -/
def vC (c : List Lt) : List Nat := varsTo (mk (flatC c).flatten) 12
theorem vC_len (c : List Lt) : (vC c).length ≤ 12 := varsTo_len _ _
/-- One more than the greatest variable. -/
def byC (c : List Lt) : Nat := if (vC c).length = 0 then 0 else (vC c).getD ((vC c).length - 1) 0 + 1
theorem byC_no {c : List Lt} (h : (vC c).length = 0) : byC c = 0 := by unfold byC; rw [if_pos h]
theorem byC_yes {c : List Lt} (h : 0 < (vC c).length) : byC c = (vC c).getD ((vC c).length - 1) 0 + 1 := by unfold byC; rw [if_neg (by omega)]
theorem vC_lt {c : List Lt} {j : Nat} (hj : j < (vC c).length) : (vC c).getD j 0 < 12 := by
  have : (vC c).getD j 0 ∈ vC c := mem_getD _ _ _ hj
  exact varsTo_lt this
theorem byC_le (c : List Lt) : byC c ≤ 12 := by
  unfold byC
  split
  · omega
  · have := vC_lt (c := c) (j := (vC c).length - 1) (by omega); omega
theorem pair_le {l : List Nat} (h : l.Pairwise (· < ·)) {i j : Nat} (hij : i < j) (hj : j < l.length) : l.getD i 0 < l.getD j 0 := by
  have := List.pairwise_iff_getElem.1 h i j (by omega) hj hij
  simpa [List.getD, show i < l.length by omega, hj] using this

/-- d, its variables shifted. -/
def shiftC (d : Nat) (c : List Lt) : List Lt := c.map fun x => (x.1, shifted x.2.1 d, shifted x.2.2 d)
theorem shiftC_len (d : Nat) (c : List Lt) : (shiftC d c).length = c.length := by simp [shiftC]
theorem shiftC_flat (d : Nat) (c : List Lt) : flatC (shiftC d c) = (flatC c).map (fun t => shifted t d) := by
  induction c with
  | nil => rfl
  | cons x c ih => rw [flatC_cons, show shiftC d (x :: c) = (x.1, shifted x.2.1 d, shifted x.2.2 d) :: shiftC d c from rfl, flatC_cons, ih]; rfl
theorem shiftC_zip (d : Nat) (c : List Lt) : zipC c ((flatC c).map (fun t => shifted t d)) = shiftC d c := zipC_map _ c
theorem shiftC_get (d : Nat) (c : List Lt) (j : Nat) (hj : j < c.length) : (shiftC d c).getD j lt0 = ((c.getD j lt0).1, shifted (c.getD j lt0).2.1 d, shifted (c.getD j lt0).2.2 d) := by simp [shiftC, List.getD, hj]
def apartC (c d : List Lt) : List Lt := shiftC (byC c) d
theorem shift_all {ar : List Int} {d : List Lt} (n : Nat) (hg : goodSign ar = true) (hd : okLits ar d = true) (hn : n ≤ 12) : okLits ar (shiftC n d) = (flatC d).all (fun t => shiftOk ar t n) := by
  obtain ⟨hl, h⟩ := okLits_iff.1 hd
  unfold okLits
  rw [← flat_all, shiftC_flat, shiftC_len, decide_eq_true hl, Bool.true_and, List.all_map]
  have : ∀ t ∈ flatC d, shiftOk ar t n = okTerm ar (shifted t n) := by
    intro t ht
    have h1 := flat_ok h ht
    unfold shiftOk goodTerm inB
    rw [hg, h1, decide_eq_true (show (0:Int) ≤ n by omega), decide_eq_true (show (n:Int) ≤ 12 by omega)]
    simp
  rw [Bool.eq_iff_iff, List.all_eq_true, List.all_eq_true]
  constructor
  · intro k t ht; rw [this t ht]; exact k t ht
  · intro k t ht; show okTerm ar (shifted t n) = true; rw [← this t ht]; exact k t ht
theorem shiftC_short {ar : List Int} {d : List Lt} (n : Nat) (hd : okLits ar d = true) : shortC (shiftC n d) := by
  obtain ⟨h8, hok⟩ := okLits_iff.1 hd
  refine ⟨by rw [shiftC_len]; omega, fun j hj => ?_⟩
  rw [shiftC_len] at hj
  obtain ⟨o1, o2⟩ := okLits_get hok j hj
  rw [shiftC_get _ _ _ hj]
  have k1 := (okTerm_len o1).2
  have k2 := (okTerm_len o2).2
  exact ⟨by show (shifted _ _).length ≤ _; rw [shifted_len]; omega, by show (shifted _ _).length ≤ _; rw [shifted_len]; omega⟩
theorem okLits_short {ar : List Int} {d : List Lt} (hd : okLits ar d = true) : shortC d := by
  obtain ⟨h8, hok⟩ := okLits_iff.1 hd
  refine ⟨by omega, fun j hj => ?_⟩
  obtain ⟨o1, o2⟩ := okLits_get hok j hj
  have k1 := (okTerm_len o1).2
  have k2 := (okTerm_len o2).2
  omega
def apOk (ar : List Int) (c d : List Lt) : Bool := (goodClause ar c && okLits ar d) && okLits ar (apartC c d)
def apAns (ar : List Int) (c d : List Lt) : List Lt := if apOk ar c d then apartC c d else []
end Go.Proofs.YtikllmdmifecpaaGreatDoor
end
section
/- Rows of slices whose elements lie in older memory: copies, deletion. -/
namespace Go.Proofs.YtikllmdmifecpaaGreatDoor
open Go.RowKit

/-- A slice's three words. -/
abbrev SV := Option Addr × Nat × Nat
def encS (x : SV) : Value := .slice x.1 x.2.1 x.2.2
theorem encS_one (zs : List SV) : ∀ u ∈ zs.map encS, u.oneCell' = true := by
  intro u hu; obtain ⟨z, _, rfl⟩ := List.mem_map.1 hu; rfl
/-- The elements, read in the world W. -/
def Els (W : World) (zs : List SV) (xss : List (List Int)) : Prop := zs.length = xss.length ∧ ∀ j z, zs[j]? = some z → SlI 0 W.heap.size W (encS z) (xss.getD j [])
def RowV (W wr : World) (v : Value) (xss : List (List Int)) : Prop := ∃ zs : List SV, wr.ownsRow W.heap.size 22 1 v zs.length (zs.map encS) ∧ Els W zs xss
def RetRow (W : World) (xss : List (List Int)) (e : Ending) (w' : World) : Prop := ∃ ad n c, e = .returned (.slice ad n c) ∧ RowV W w' (.slice ad n c) xss ∧ Bel W w'
theorem Els.nil (W : World) : Els W [] [] := ⟨rfl, fun j z h => by simp at h⟩
theorem Els.at {W : World} {zs : List SV} {xss : List (List Int)} (h : Els W zs xss) {j : Nat} (hj : j < xss.length) : ∃ z, zs[j]? = some z ∧ SlI 0 W.heap.size W (encS z) (xss.getD j []) :=
  ⟨_, List.getElem?_eq_getElem (by rw [h.1]; exact hj), h.2 j _ (List.getElem?_eq_getElem (by rw [h.1]; exact hj))⟩
theorem Els.erase {W : World} {zs : List SV} {xss : List (List Int)} (h : Els W zs xss) (i : Nat) (_ : i < xss.length) : Els W (zs.eraseIdx i) (xss.eraseIdx i) := by
  refine ⟨by rw [List.length_eraseIdx, List.length_eraseIdx, h.1], fun j z hj => ?_⟩
  rw [List.getElem?_eraseIdx] at hj
  by_cases hlt : j < i
  · rw [if_pos hlt] at hj
    have := h.2 j z hj
    rwa [show (xss.eraseIdx i).getD j [] = xss.getD j [] from by simp [List.getD, List.getElem?_eraseIdx, hlt]]
  · rw [if_neg hlt] at hj
    have := h.2 (j+1) z hj
    rwa [show (xss.eraseIdx i).getD j [] = xss.getD (j+1) [] from by simp [List.getD, List.getElem?_eraseIdx, hlt]]
theorem Els.snoc {W : World} {zs : List SV} {xss : List (List Int)} (h : Els W zs xss) {z : SV} {t : List Int} (hz : SlI 0 W.heap.size W (encS z) t) : Els W (zs ++ [z]) (xss ++ [t]) := by
  refine ⟨by simp [h.1], fun j u hj => ?_⟩
  by_cases e : j < zs.length
  · rw [List.getElem?_append_left e] at hj
    have := h.2 j u hj
    rwa [show (xss ++ [t]).getD j [] = xss.getD j [] from by simp [List.getD, List.getElem?_append_left (show j < xss.length by rw [← h.1]; exact e)]]
  · have hlt := (List.getElem?_eq_some_iff.1 hj).1
    simp at hlt
    obtain rfl : j = zs.length := by omega
    rw [List.getElem?_append_right (Nat.le_refl _), Nat.sub_self] at hj
    simp at hj
    subst hj
    rwa [show (xss ++ [t]).getD zs.length [] = t from by rw [h.1]; simp [List.getD]]
theorem RowV.form {W wr : World} {v : Value} {xss : List (List Int)} (h : RowV W wr v xss) : ∃ ad c, v = .slice ad xss.length c := by
  obtain ⟨zs, ho, he⟩ := h
  obtain ⟨ad, n, c, rfl⟩ := own_form ho
  have := row_len ho
  rw [he.1] at this
  exact ⟨ad, c, by rw [this]⟩
theorem RowV.bel {W wr w2 : World} {v : Value} {xss : List (List Int)} (h : RowV W wr v xss) (hb : Bel wr w2) : RowV W w2 v xss := by
  obtain ⟨zs, ho, he⟩ := h
  exact ⟨zs, ownsRow_bel ho hb, he⟩
theorem RowV.sls {W wr : World} {v : Value} {xss : List (List Int)} (h : RowV W wr v xss) (hb : Bel W wr) : SlS 0 wr.heap.size wr v xss := by
  obtain ⟨zs, h1, h2, h3⟩ := h
  have h0 := h1
  rcases h1.2 with ⟨rfl, hn⟩ | ⟨g, cap, cur, rfl, hg, hh, hn, hc, hs, ht⟩
  · obtain rfl : xss = [] := List.length_eq_zero_iff.1 (by omega)
    exact SlS.nil _ _ _
  · have hgs : g < wr.heap.size := (Array.getElem?_eq_some_iff.1 hh).1
    refine ⟨_, cap, by rw [h2], by omega, ⟨hc, fun h => by simp at h⟩, fun hp => ⟨g, 0, rfl, Nat.zero_le _, hgs, fun j hj => ?_⟩⟩
    have hju : zs[j]? = some zs[j] := List.getElem?_eq_getElem (by omega)
    refine ⟨encS zs[j], by rw [Nat.zero_add, h0.cellAt j (by omega), List.getElem?_map, hju]; rfl, ?_⟩
    exact ((h3 j _ hju).below hb).mono (Nat.le_refl _) hb.size
/-- Reading the k-th. -/
theorem RowV.at {W wr : World} {ad : Option Addr} {n c : Nat} {xss : List (List Int)} (h : RowV W wr (.slice ad n c) xss) (k : Nat) (hk : k < xss.length) :
    ∃ g z, ad = some ⟨g, 0, none⟩ ∧ W.heap.size ≤ g ∧ wr.cell? ⟨g, k, none⟩ = some (encS z) ∧ SlI 0 W.heap.size W (encS z) (xss.getD k []) := by
  obtain ⟨zs, h1, h2⟩ := h
  have h0 := h1
  obtain ⟨z, hz, hs⟩ := h2.at hk
  rcases h1.2 with ⟨e, hn⟩ | ⟨g, cap, cur, e, hg, hh, _⟩
  · rw [h2.1] at hn; omega
  · simp only [Value.slice.injEq] at e
    obtain ⟨rfl, rfl, rfl⟩ := e
    exact ⟨g, z, rfl, hg, by rw [h0.cellAt k (by rw [h2.1]; omega), List.getElem?_map, hz]; rfl, hs⟩

theorem skolem_lt {α : Type} [Inhabited α] {n : Nat} {P : Nat → α → Prop} (H : ∀ j, j < n → ∃ z, P j z) : ∃ f : Nat → α, ∀ j, j < n → P j (f j) :=
  ⟨fun j => if h : j < n then Classical.choose (H j h) else default, fun j hj => by
    show P j (dite (j < n) (fun h => Classical.choose (H j h)) (fun _ => default))
    rw [dif_pos hj]; exact Classical.choose_spec (H j hj)⟩
/-- The three words of the elements of a slice of slices. -/
theorem SlS.vals {lo hi : Nat} {w : World} {ad : Option Addr} {n c : Nat} {xss : List (List Int)} (h : SlS lo hi w (.slice ad n c) xss) : ∃ zs : List SV, Els w zs xss ∧ ∀ a, ad = some a → ∀ j u, (zs.map encS)[j]? = some u → w.cell? (a.add j) = some u := by
  obtain ⟨ad', cap, e, hc, hm, hr⟩ := h
  simp only [Value.slice.injEq] at e
  obtain ⟨rfl, rfl, rfl⟩ := e
  by_cases hp : 0 < xss.length
  · obtain ⟨b, off, rfl, a1, a2, a3⟩ := hr hp
    have H : ∀ j, j < xss.length → ∃ z : SV, w.cell? ⟨b, off + j, none⟩ = some (encS z) ∧ SlI lo hi w (encS z) (xss.getD j []) := fun j hj => by
      obtain ⟨u, h1, h2⟩ := a3 j hj
      obtain ⟨x, y, rfl⟩ := h2.form
      exact ⟨(x, _, y), h1, h2⟩
    obtain ⟨f, hf⟩ := skolem_lt H
    refine ⟨(List.range xss.length).map f, ⟨by simp, fun j z hj => ?_⟩, fun a ha j u hj => ?_⟩
    · have hlt := (List.getElem?_eq_some_iff.1 hj).1
      simp at hlt
      rw [List.getElem?_map, List.getElem?_range hlt] at hj
      simp only [Option.map_some, Option.some.injEq] at hj
      subst hj
      exact (hf j hlt).2.in'
    · have hlt := (List.getElem?_eq_some_iff.1 hj).1
      simp at hlt
      rw [List.getElem?_map, List.getElem?_map, List.getElem?_range hlt] at hj
      simp only [Option.map_some, Option.some.injEq] at hj
      subst hj
      simp only [Option.some.injEq] at ha
      subst ha
      rw [addr_add]
      exact (hf j hlt).1
  · obtain rfl : xss = [] := List.length_eq_zero_iff.1 (by omega)
    exact ⟨[], Els.nil _, fun a _ j u hj => by simp at hj⟩

set_option maxRecDepth 100000 in
theorem cloneS_c (l h : Nat) (v : Value) (xss : List (List Int)) (w : World) (hx : xss.length ≤ 1048576) (hv : SlS l h w v xss) :
    Calls Tryz.prog 190 #[v] w (RetRow w xss) := by
  obtain ⟨i1, hi1, hy0, hy1, hy2⟩ := info_parts Tryz.info22
  obtain ⟨ad, cap, rfl⟩ := hv.form
  have hv0 := hv
  obtain ⟨zs, hE, hcell⟩ := hv.vals
  have hown : (w.alloc (.cells #[] 22)).ownsRow w.heap.size 22 1 (.slice (some ⟨w.heap.size, 0, none⟩) 0 0) ([] : List SV).length (([] : List SV).map encS) :=
    World.ownsRow_lit w #[] 0 (Nat.le_refl _) (Nat.zero_le _) rfl
  have hk := fun (w : World) (a : Option Addr) (n c : Nat) => Lib.run_eql_slice_nil (P := Tryz.prog) w 70 22 a n c 0 0 Tryz.underlying70
  cases ad with
  | none =>
    obtain ⟨ad', cap', e, -, hm, hr⟩ := hv0
    simp only [Value.slice.injEq] at e
    obtain ⟨rfl, -, rfl⟩ := e
    obtain rfl : xss = [] := by
      rcases Nat.eq_zero_or_pos xss.length with h0 | h0
      · exact List.length_eq_zero_iff.1 h0
      · obtain ⟨_, _, e, _⟩ := hr h0; simp at e
    obtain rfl : cap = 0 := hm.2 rfl
    clear hr hm hv hcell hE
    go_enter Tryz.func190, Tryz.ntmps190
    go_wp2_with fail
    go_ret
    exact ⟨_, _, _, rfl, ⟨[], World.ownsRow_nil _ _ _ _, Els.nil _⟩, Bel.rfl' _⟩
  | some a =>
    have hn : ∀ j u, (zs.map encS)[j]? = some u → (w.alloc (.cells #[] 22)).cell? (a.add j) = some u := fun j u hj => by
      have h1 := hcell a rfl j u hj
      have h2 := World.block_lt_of_cell? w (a.add j) h1
      exact ((Bel.alloc0 w (.cells #[] 22)).cell h2).trans h1
    have hzl := hE.1
    clear hcell hv hv0
    go_enter Tryz.func190, Tryz.ntmps190
    go_wp2_with (at_builtin; refine wpList_append_own _ rfl _ _ 70 rfl w.heap.size 22 i1 (.slice none 0 0) 1 24 Tryz.underlying70 hi1 hy0 hy1 hy2 rfl (by decide) _ _ _ rfl hown a xss.length cap (zs.map encS) rfl (by simp [hzl]) hn (encS_one _) (by unfold maxLen; simp; omega) (by simp; omega) (by simp) ?_; intro v' w1 hown' hgrow _)
    have hb1 := (Bel.alloc0 w (.cells #[] 22)).grown hgrow (fun k hk => own_base hown k hk)
    have hown2 : w1.ownsRow w.heap.size 22 1 v' zs.length (zs.map encS) := by rw [hzl]; simpa using hown'
    obtain ⟨g, n, c, rfl⟩ := own_form hown2
    go_ret
    exact ⟨_, _, _, rfl, ⟨zs, hown2, hE⟩, hb1⟩

/-- slices.Delete: the library's contract laid at this program. -/
def delRen : Go.Shelf.Ren := ⟨fun | 45 => 191 | n => n, fun | 0 => 0 | 3 => 3 | 4 => 4 | 22 => 70 | 23 => 22 | n => n, fun n => n⟩
set_option maxRecDepth 100000 in
theorem laysDel : SlLaysE.n45 Tryz.prog delRen := {
  mixed := by kernel_rfl
  f45 := ⟨Tryz.f191.name, by kernel_rfl, Tryz.func191.trans (congrArg some (by kernel_rfl))⟩
  t0 := Tryz.underlying0
  a0 := fun w => by kernel_rfl
  z0 := fun w => by kernel_rfl
  v0 := fun w => by kernel_rfl
  t3 := Tryz.underlying3
  a3 := fun w => by kernel_rfl
  z3 := fun w => by kernel_rfl
  v3 := fun w => by kernel_rfl
  t4 := Tryz.underlying4
  a4 := fun w => by kernel_rfl
  z4 := fun w => by kernel_rfl
  v4 := fun w => by kernel_rfl
  t22 := Tryz.underlying70
  a22 := fun w => by kernel_rfl
  z22 := fun w => by kernel_rfl
  v22 := fun w => by kernel_rfl
  a23 := fun w => by kernel_rfl
  z23 := fun w => by kernel_rfl }

theorem deleteS_c (W wr : World) (ad : Option Addr) (n cap i : Nat) (xss : List (List Int)) (hi : i < xss.length) (hx : xss.length ≤ 1048576) (hb : Bel W wr) (hR : RowV W wr (.slice ad n cap) xss) :
    Calls Tryz.prog 191 #[.slice ad n cap, .int .i64 i, .int .i64 ((i : Int) + 1)] wr (RetRow W (xss.eraseIdx i)) := by
  obtain ⟨i1, hi1, hy0, hy1, hy2⟩ := info_parts Tryz.info22
  obtain ⟨zs, hown, hE⟩ := hR
  have hzl := hE.1
  have hne : Value.slice ad n cap ≠ .slice none 0 0 := by
    intro e
    have := row_len hown
    simp only [Value.slice.injEq] at e
    omega
  obtain ⟨g, cap', e, hg, hlt, hnc, hcm, -, hH⟩ := Lib.holds_of_ownsRow hown hne
  simp only [Value.slice.injEq] at e
  obtain ⟨rfl, rfl, rfl⟩ := e
  have hc := AnyE.slices_Delete laysDel encS (fun _ => rfl) ((none, 0, 0) : SV) (fun w => by kernel_rfl) i1 hi1 hy1 g 0 cap i (i + 1) zs.toArray wr hH (by simpa using hnc) (by unfold maxLen at hcm; omega) (by omega) (by simp; omega)
  have hs : zs.toArray.size = zs.length := by simp
  rw [hs] at hc
  rw [show ((i + 1 : Nat) : Int) = (i : Int) + 1 from by omega] at hc
  refine Calls.mono hc ?_
  rintro e w' ⟨rfl, q, rfl⟩
  have hyl : (zs.take i ++ zs.drop (i + 1) ++ List.replicate (i + 1 - i) ((none, 0, 0) : SV)).length = zs.length := by simp; omega
  have hown2 := Lib.ownsRow_putRow (q := q) (k := zs.length - (i + 1 - i)) hown hyl (by omega)
  have hyt : (zs.take i ++ zs.drop (i + 1) ++ List.replicate (i + 1 - i) ((none, 0, 0) : SV)).take (zs.length - (i + 1 - i)) = zs.eraseIdx i := by
    rw [List.eraseIdx_eq_take_drop_succ, List.take_append_of_le_length (by simp; omega), List.take_of_length_le (by simp; omega)]
  rw [hyt] at hown2
  have hl2 : zs.length - (i + 1 - i) = (zs.eraseIdx i).length := by rw [List.length_eraseIdx_of_lt (by omega)]; omega
  refine ⟨_, _, _, rfl, ⟨zs.eraseIdx i, ?_, hE.erase i hi⟩, Lib.below_putRow hb hg⟩
  rw [hl2] at hown2 ⊢
  simpa using hown2
end Go.Proofs.YtikllmdmifecpaaGreatDoor
end
section
/- The terms of a clause, literal by literal: both sides. -/
namespace Go.Proofs.YtikllmdmifecpaaGreatDoor
open Go.RowKit

theorem news_two (w : World) (x y : Value) (t : TypeId) : ∀ j u, [x, y][j]? = some u → (w.alloc (.cells #[x, y] t)).cell? ((⟨w.heap.size, 0, none⟩ : Addr).add j) = some u := by
  intro j u hj
  match j, hj with
  | 0, hj => simp at hj; subst hj; rw [show (⟨w.heap.size, 0, none⟩ : Addr).add 0 = ⟨w.heap.size, 0, none⟩ from rfl, World.cell?_alloc_new w]; rfl
  | 1, hj => simp at hj; subst hj; rw [addr_add, World.cell?_alloc_new w]; rfl
theorem news_two_at (w : World) (x y : Value) (t : TypeId) (g : Nat) (hg : g = w.heap.size) : ∀ j u, [x, y][j]? = some u → (w.alloc (.cells #[x, y] t)).cell? ((⟨g, 0, none⟩ : Addr).add j) = some u := by subst hg; exact news_two w x y t
theorem news_one_at (w : World) (x : Value) (t : TypeId) (g : Nat) (hg : g = w.heap.size) : ∀ j u, [x][j]? = some u → (w.alloc (.cells #[x] t)).cell? ((⟨g, 0, none⟩ : Addr).add j) = some u := by subst hg; exact news_one w x t
theorem two_slice (a b : Option Addr) (n m c d : Nat) : ∀ u ∈ [Value.slice a n c, Value.slice b m d], u.oneCell' = true := by
  intro u hu; simp at hu; rcases hu with rfl | rfl <;> rfl
theorem flatC_take (c : List Lt) (k : Nat) (h : k < c.length) : flatC (c.take (k+1)) = flatC (c.take k) ++ [(c.getD k lt0).2.1] ++ [(c.getD k lt0).2.2] := by
  rw [List.take_succ_eq_append_getElem h, flatC_app]
  simp [flatC, List.getD, h]
/-- A literal's terms as they lie in the world W. -/
theorem SlC.two {lo hi : Nat} {w : World} {ad : Option Addr} {n k : Nat} {c : List Lt} (h : SlC lo hi w (.slice ad n k) c) (j : Nat) (hj : j < c.length) :
    ∃ (b off : Nat) (z1 z2 : SV), ad = some ⟨b, off, none⟩ ∧ b < w.heap.size ∧ w.cell? ⟨b, off + j * 3, none⟩ = some (.bool (c.getD j lt0).1) ∧ w.cell? ⟨b, off + j * 3 + 1, none⟩ = some (encS z1) ∧ w.cell? ⟨b, off + j * 3 + 2, none⟩ = some (encS z2) ∧
      SlI 0 w.heap.size w (encS z1) (c.getD j lt0).2.1 ∧ SlI 0 w.heap.size w (encS z2) (c.getD j lt0).2.2 := by
  obtain ⟨b, off, u1, u2, rfl, hb, c1, c2, c3, s1, s2⟩ := h.at (Bel.rfl' w) j hj
  obtain ⟨x1, y1, rfl⟩ := s1.form
  obtain ⟨x2, y2, rfl⟩ := s2.form
  exact ⟨b, off, (x1, _, y1), (x2, _, y2), rfl, hb, c1, c2, c3, s1.in', s2.in'⟩

set_option maxRecDepth 100000 in
set_option maxHeartbeats 400000 in
theorem termsIn_c (l h : Nat) (v : Value) (c : List Lt) (w : World) (hx : c.length ≤ 1048576) (hv : SlC l h w v c) :
    Calls Tryz.prog 103 #[v] w (RetRow w (flatC c)) := by
  obtain ⟨i1, hi1, hy0, hy1, hy2⟩ := info_parts Tryz.info22
  obtain ⟨ad, cap, rfl⟩ := hv.form
  go_enter Tryz.func103, Tryz.ntmps103
  go_wp2_with fail
  go_loopw [3, 8] (fun o i wr => ∃ k : Nat, k ≤ c.length ∧ i = .int .i64 k ∧ RowV w wr o (flatC (c.take k)) ∧ Bel w wr) (fun _ i _ => c.length - (intOf i).toNat)
  case atStart => exact ⟨0, Nat.zero_le _, rfl, ⟨[], World.ownsRow_nil _ _ _ _, Els.nil _⟩, Bel.rfl' _⟩
  case round =>
    obtain ⟨k, hk, rfl, hrow, hb⟩ := hrel
    by_cases hlt : k < c.length
    · obtain ⟨b, off, z1, z2, rfl, hbs, e1, e2, e3, s1, s2⟩ := hv.two k hlt
      have c1 := hb.at (World.block_lt_of_cell? _ ⟨_, _, none⟩ e1) e1
      have c2 := hb.at (World.block_lt_of_cell? _ ⟨_, _, none⟩ e2) e2
      have c3 := hb.at (World.block_lt_of_cell? _ ⟨_, _, none⟩ e3) e3
      have HF := Lib.hid (flatC_take c k hlt)
      have hfl := flatC_len (c.take k)
      have hkl : (c.take k).length = k := by rw [List.length_take]; omega
      obtain ⟨zs, ho, hE⟩ := hrow
      have hzl := hE.1
      have hE2 := Lib.hid ((hE.snoc s1).snoc s2)
      have hin1 : (k : Int) < c.length := by omega
      generalize (c.getD k lt0).1 = p at *
      obtain ⟨a1, n1, d1⟩ := z1
      obtain ⟨a2, n2, d2⟩ := z2
      simp only [encS] at c2 c3
      have hbz := hb.size
      clear hv s1 s2 hE e1 e2 e3
      go_wp2_with (at_builtin; refine wpList_append_own _ rfl _ _ 70 rfl w.heap.size 22 i1 (.slice none 0 0) 1 24 Tryz.underlying70 hi1 hy0 hy1 hy2 rfl (by decide) _ _ _ rfl ((ho.alloc _).alloc _) ⟨wr.heap.size + 1, 0, none⟩ 2 2 [.slice a1 n1 d1, .slice a2 n2 d2] rfl rfl (news_two_at _ _ _ _ _ (by simp)) (two_slice _ _ _ _ _ _) (by unfold maxLen; rw [hzl]; omega) (by rw [hzl]; omega) (by simp; omega) ?_; intro v' w1 hown' hgrow _)
      go_roundw
      case rel =>
        refine ⟨k+1, by omega, by go_num, ?_, ?_⟩
        · rw [HF.out]
          exact ⟨zs ++ [(a1, n1, d1)] ++ [(a2, n2, d2)], by simpa [encS] using hown', hE2.out⟩
        · exact ((hb.alloc _).alloc _).grown hgrow (fun q hq => own_base ho q hq)
      case measure => simp [intOf]; omega
    · rw [List.take_of_length_le (by omega)] at hrow
      obtain ⟨og, oc, rfl⟩ := hrow.form
      go_wp2_with fail
      go_ret
      exact ⟨_, _, _, rfl, hrow, hb⟩

set_option maxRecDepth 100000 in
set_option maxHeartbeats 400000 in
theorem l4Terms_c (l h : Nat) (v : Value) (c : List Lt) (w : World) (hx : c.length ≤ 1048576) (hv : SlC l h w v c) :
    Calls Tryz.prog 183 #[v] w (RetRow w (flatC c)) := by
  obtain ⟨i1, hi1, hy0, hy1, hy2⟩ := info_parts Tryz.info22
  obtain ⟨ad, cap, rfl⟩ := hv.form
  go_enter Tryz.func183, Tryz.ntmps183
  go_wp2_with fail
  go_loopw [3, 8] (fun o i wr => ∃ k : Nat, k ≤ c.length ∧ i = .int .i64 k ∧ RowV w wr o (flatC (c.take k)) ∧ Bel w wr) (fun _ i _ => c.length - (intOf i).toNat)
  case atStart => exact ⟨0, Nat.zero_le _, rfl, ⟨[], World.ownsRow_nil _ _ _ _, Els.nil _⟩, Bel.rfl' _⟩
  case round =>
    obtain ⟨k, hk, rfl, hrow, hb⟩ := hrel
    by_cases hlt : k < c.length
    · obtain ⟨b, off, z1, z2, rfl, hbs, e1, e2, e3, s1, s2⟩ := hv.two k hlt
      have c1 := hb.at (World.block_lt_of_cell? _ ⟨_, _, none⟩ e1) e1
      have c2 := hb.at (World.block_lt_of_cell? _ ⟨_, _, none⟩ e2) e2
      have c3 := hb.at (World.block_lt_of_cell? _ ⟨_, _, none⟩ e3) e3
      have HF := Lib.hid (flatC_take c k hlt)
      have hfl := flatC_len (c.take k)
      have hkl : (c.take k).length = k := by rw [List.length_take]; omega
      obtain ⟨zs, ho, hE⟩ := hrow
      have hzl := hE.1
      have hE2 := Lib.hid ((hE.snoc s1).snoc s2)
      have hin1 : (k : Int) < c.length := by omega
      generalize (c.getD k lt0).1 = p at *
      obtain ⟨a1, n1, d1⟩ := z1
      obtain ⟨a2, n2, d2⟩ := z2
      simp only [encS] at c2 c3
      have hbz := hb.size
      clear hv s1 s2 hE e1 e2 e3
      go_wp2_with (at_builtin; refine wpList_append_own _ rfl _ _ 70 rfl w.heap.size 22 i1 (.slice none 0 0) 1 24 Tryz.underlying70 hi1 hy0 hy1 hy2 rfl (by decide) _ _ _ rfl ((ho.alloc _).alloc _) ⟨wr.heap.size + 1, 0, none⟩ 2 2 [.slice a1 n1 d1, .slice a2 n2 d2] rfl rfl (news_two_at _ _ _ _ _ (by simp)) (two_slice _ _ _ _ _ _) (by unfold maxLen; rw [hzl]; omega) (by rw [hzl]; omega) (by simp; omega) ?_; intro v' w1 hown' hgrow _)
      go_roundw
      case rel =>
        refine ⟨k+1, by omega, by go_num, ?_, ?_⟩
        · rw [HF.out]
          exact ⟨zs ++ [(a1, n1, d1)] ++ [(a2, n2, d2)], by simpa [encS] using hown', hE2.out⟩
        · exact ((hb.alloc _).alloc _).grown hgrow (fun q hq => own_base ho q hq)
      case measure => simp [intOf]; omega
    · rw [List.take_of_length_le (by omega)] at hrow
      obtain ⟨og, oc, rfl⟩ := hrow.form
      go_wp2_with fail
      go_ret
      exact ⟨_, _, _, rfl, hrow, hb⟩
end Go.Proofs.YtikllmdmifecpaaGreatDoor
end
section
/- Chapter 4, the program: GoodClause, WeightOf. -/
namespace Go.Proofs.YtikllmdmifecpaaGreatDoor
open Go.RowKit

theorem short_flat {c : List Lt} (h : sumC c ≤ 1048576) : sumL (flatC c) ≤ 1048576 ∧ ∀ j, j < (flatC c).length → ((flatC c).getD j []).length ≤ 1048576 := by
  have h1 : sumL (flatC c) ≤ 1048576 := by have := sumC_eq c; unfold lenC at this; omega
  exact ⟨h1, fun j hj => by have := sumL_get (flatC c) j hj; omega⟩
theorem short_flat8 {c : List Lt} (h : sumC c ≤ 1048576) (h8 : c.length ≤ 8) : short (flatC c) := ⟨by rw [flatC_len]; omega, (short_flat h).2⟩

theorem short_flat8s {c : List Lt} (h : shortC c) (h8 : c.length ≤ 8) : short (flatC c) := by
  refine ⟨by rw [flatC_len]; omega, fun j hj => ?_⟩
  obtain ⟨x, hx, e⟩ := flat_mem (mem_getD (flatC c) [] j hj)
  obtain ⟨i, hi, rfl⟩ := List.getElem_of_mem hx
  have := h.2 i hi
  rw [show c.getD i lt0 = c[i] from by simp [List.getD, hi]] at this
  rcases e with e | e <;> rw [e]
  · exact this.1
  · exact this.2

set_option maxRecDepth 100000 in
set_option maxHeartbeats 400000 in
theorem iGoodClause_sh {l h l' h' : Nat} {v u : Value} {ar : List Int} {c : List Lt} {w : World} (ha : ar.length ≤ 1048576) (hv : SlI l h w v ar) (hc : shortC c) (hu : SlC l' h' w u c) :
    Calls Tryz.prog 56 #[.agg #[v], u] w (RetV w (.bool (goodClause ar c))) := by
  obtain ⟨ad, cap, rfl⟩ := hu.form
  have hle := hc.1
  by_cases h8 : c.length ≤ 8
  · have hd : decide ((c.length : Int) ≤ 8) = true := by rw [decide_eq_true]; omega
    have HE := Lib.hid (goodTerms_flat ar h8)
    have hsh := short_flat8s hc h8
    have HT := Lib.hid (fun (w' : World) (hb : Bel w w') => termsIn_c l' h' _ c w' (by omega) (hu.below hb))
    have HD := Lib.hid (fun (w' : World) (x : Value) (hb : Bel w w') (hx : SlS 0 w'.heap.size w' x (flatC c)) => goodTerms_c l h _ _ v x ar (flatC c) 16 w' (by omega) ha (hv.below hb) hsh hx)
    rw [HE.out] at HD
    clear hsh hle hu hv HE h8
    have HB0 : Bel w (w.alloc (.cells #[v] 33)).drew := (Bel.alloc0 _ _).drew
    have hbox0 : (w.alloc (.cells #[v] 33)).drew.cell? ⟨w.heap.size, 0, none⟩ = some v := boxc ((Bel.rfl' _).drew) 0 _ rfl
    go_enter Tryz.func56, Tryz.ntmps56
    go_wp2_with fail
    go_region_held3 (fun w' => Bel w w' ∧ w'.cell? ⟨w.heap.size, 0, none⟩ = some v)
      (first | exact ⟨HB2, hbox2⟩ | exact ⟨HB1, hbox1⟩ | exact ⟨HB0, hbox0⟩ | fail)
      (first | (go_at_call 102; refine (HD.out _ _ HB1 hrow).mono ?_; rintro e w2 ⟨rfl, hb2⟩; have HB2 := HB1.step hb2; have hbox2 := hb2.at (World.block_lt_of_cell? _ ⟨_, _, none⟩ hbox1) hbox1) | (go_at_call 103; refine (HT.out _ HB0).mono ?_; rintro e w1 ⟨ad1, n1, c1, rfl, hrw, hb1⟩; have HB1 := HB0.step hb1; have hbox1 := hb1.at (World.block_lt_of_cell? _ ⟨_, _, none⟩ hbox0) hbox0; have hrow := hrw.sls hb1) | fail)
    go_wp2_with fail
    go_ret
    exact ⟨rfl, HB2⟩
  · have hd : decide ((c.length : Int) ≤ 8) = false := by rw [decide_eq_false]; omega
    have E := Lib.hid (goodClause_long ar h8)
    clear h8
    go_enter Tryz.func56, Tryz.ntmps56
    go_wp2_with fail
    have hbox0 : (w.alloc (.cells #[v] 33)).drew.cell? ⟨w.heap.size, 0, none⟩ = some v := boxc ((Bel.rfl' _).drew) 0 _ rfl
    go_region
    all_goals
      go_wp2_with fail
      go_ret
      exact ⟨by rw [E.out]; rfl, (Bel.alloc0 _ _).drew⟩
theorem iGoodClause_t {l h l' h' : Nat} {v u : Value} {ar : List Int} {c : List Lt} {w : World} (ha : ar.length ≤ 1048576) (hv : SlI l h w v ar) (hc : sumC c ≤ 1048576) (hu : SlC l' h' w u c) :
    Calls Tryz.prog 56 #[.agg #[v], u] w (RetV w (.bool (goodClause ar c))) := iGoodClause_sh ha hv (shortC_of_sum hc) hu
theorem iGoodClause_v {l h l' h' : Nat} {v u : Value} {ar : List Int} {c : List Lt} {w : World} {q : Bool} (he : goodClause ar c = q) (ha : ar.length ≤ 1048576) (hv : SlI l h w v ar) (hc : sumC c ≤ 1048576) (hu : SlC l' h' w u c) :
    Calls Tryz.prog 56 #[.agg #[v], u] w (RetV w (.bool q)) := by subst he; exact iGoodClause_t ha hv hc hu

end Go.Proofs.YtikllmdmifecpaaGreatDoor
end
section
/- The laws' helpers over literals, by contracts: copies, comparisons. -/
namespace Go.Proofs.YtikllmdmifecpaaGreatDoor
open Go.RowKit

/-- A literal of the call's own: its two terms in two ranges. -/
def RetL (w : World) (x : Lt) (e : Ending) (w' : World) : Prop :=
  ∃ a1 n1 c1 a2 n2 c2 m, e = .returned (.agg #[.bool x.1, .slice a1 n1 c1, .slice a2 n2 c2]) ∧ w.heap.size ≤ m ∧ m ≤ w'.heap.size ∧ OwnI w.heap.size m w' (.slice a1 n1 c1) x.2.1 ∧ OwnI m w'.heap.size w' (.slice a2 n2 c2) x.2.2 ∧ Bel w w'

set_option maxRecDepth 100000 in
set_option maxHeartbeats 400000 in
theorem eqLit_same (l h l' h' : Nat) (p : Bool) (u1 u2 q1 q2 : Value) (xl xr : List Int) (w : World) (hl : xl.length ≤ 1048576) (hr : xr.length ≤ 1048576) (a1 : SlI l h w u1 xl) (a2 : SlI l h w u2 xr) (b1 : SlI l' h' w q1 xl) (b2 : SlI l' h' w q2 xr) :
    Calls Tryz.prog 61 #[.agg #[.bool p, u1, u2], .agg #[.bool p, q1, q2]] w (RetV w (.bool true)) := by
  have HB : Bel w ((w.alloc (.cells #[.bool p, u1, u2] 67)).alloc (.cells #[.bool p, q1, q2] 67)) := Bel.alloc2 _ _ _
  have HC := Lib.hid (fun (w' : World) (hb : Bel w w') => eqIntS_same l h l' h' u1 q1 xl w' hl (a1.below hb) (b1.below hb))
  have HD := Lib.hid (fun (w' : World) (hb : Bel w w') => eqIntS_same l h l' h' u2 q2 xr w' hr (a2.below hb) (b2.below hb))
  clear a1 a2 b1 b2
  go_enter Tryz.func61, Tryz.ntmps61
  go_wp2_with fail
  refine (HC.out _ HB).mono ?_; rintro e w1 ⟨rfl, hb1⟩
  have ka := hb1.at (b := w.heap.size) (off := 2) (by simp; omega) (show World.cell? _ _ = some u2 by simp [go_sem])
  have kb := hb1.at (b := w.heap.size + 1) (off := 2) (by simp) (show World.cell? _ _ = some q2 by simp [go_sem])
  have HB1 := HB.step hb1
  go_wp2_with fail
  refine (HD.out _ HB1).mono ?_; rintro e w2 ⟨rfl, hb2⟩
  go_wp2_with fail
  go_ret
  exact ⟨rfl, HB1.step hb2⟩

set_option maxRecDepth 100000 in
set_option maxHeartbeats 400000 in
theorem toLit_c (l h : Nat) (p : Bool) (u1 u2 : Value) (xl xr : List Int) (w : World) (hl : xl.length ≤ 1048576) (hr : xr.length ≤ 1048576) (h1 : SlI l h w u1 xl) (h2 : SlI l h w u2 xr) :
    Calls Tryz.prog 55 #[.agg #[.bool p, u1, u2]] w (RetL w (p, xl, xr)) := by
  have HC := Lib.hid (fun (w' : World) (hb : Bel w w') => toIntS_c l h u1 xl w' hl (h1.below hb))
  have HD := Lib.hid (fun (w' : World) (hb : Bel w w') => toIntS_c l h u2 xr w' hr (h2.below hb))
  clear h1 h2
  go_enter Tryz.func55, Tryz.ntmps55
  go_wp2_with fail
  have HB : Bel w (((w.alloc (.cells #[.bool p, u1, u2] 81)).alloc (.cells #[.bool false, .slice none 0 0, .slice none 0 0] 67)).alloc (.cells #[.bool p, .slice none 0 0, .slice none 0 0] 67)) := Bel.alloc3 _ _ _ _
  refine (HC.out _ HB).mono ?_; rintro e w1 ⟨a1, n1, c1, rfl, o1, hb1⟩
  have hz1 := hb1.size
  simp only [World.size_alloc] at hz1 o1
  have e0 := hb1.at (b := w.heap.size) (off := 2) (by simp; omega) (show World.cell? _ _ = some u2 by simp [go_sem])
  have e1 := hb1.at (b := w.heap.size + 1) (off := 0) (by simp) (show World.cell? _ _ = some (.bool false) by simp [go_sem])
  have e2 := hb1.at (b := w.heap.size + 1) (off := 1) (by simp) (show World.cell? _ _ = some (.slice none 0 0) by simp [go_sem])
  have e3 := hb1.at (b := w.heap.size + 1) (off := 2) (by simp) (show World.cell? _ _ = some (.slice none 0 0) by simp [go_sem])
  have f0 := hb1.at (b := w.heap.size + 1 + 1) (off := 0) (by simp) (show World.cell? _ _ = some (.bool p) by simp [go_sem])
  have f1 := hb1.at (b := w.heap.size + 1 + 1) (off := 1) (by simp) (show World.cell? _ _ = some (.slice none 0 0) by simp [go_sem])
  have f2 := hb1.at (b := w.heap.size + 1 + 1) (off := 2) (by simp) (show World.cell? _ _ = some (.slice none 0 0) by simp [go_sem])
  have g1 : ∀ i, w1.frozen? ⟨w.heap.size + 1, i, none⟩ = false := fun i => (hb1.frozen (p := ⟨w.heap.size + 1, i, none⟩) (by simp)).trans (by simp [go_sem])
  have g2 : ∀ i, w1.frozen? ⟨w.heap.size + 1 + 1, i, none⟩ = false := fun i => (hb1.frozen (p := ⟨w.heap.size + 1 + 1, i, none⟩) (by simp)).trans (by simp [go_sem])
  have HB1 := HB.step hb1
  go_wp2_with fail
  have HS : Bel w (w1.setCell ⟨w.heap.size + 1 + 1, 1, none⟩ (.slice a1 n1 c1)) := HB1.set (by simp; omega) _
  refine (HD.out _ HS).mono ?_; rintro e w2 ⟨a2, n2, c2, rfl, o2, hb2⟩
  have hz2 := hb2.size
  simp only [World.size_setCell] at hz2 o2
  have far : ∀ {b o : Nat} {x : Value}, (b ≠ w.heap.size + 1 + 1 ∨ o ≠ 1) → w1.cell? ⟨b, o, none⟩ = some x → b < w1.heap.size → w2.cell? ⟨b, o, none⟩ = some x := fun hne hc hlt =>
    hb2.at (by simpa using hlt) (by rw [World.cell?_setCell_other (h := by intro h; simp at h; omega)]; exact hc)
  have e1' := far (.inl (by omega)) e1 (by omega)
  have e2' := far (.inl (by omega)) e2 (by omega)
  have e3' := far (.inl (by omega)) e3 (by omega)
  have f0' := far (.inr (by omega)) f0 (by omega)
  have f1' := hb2.at (b := w.heap.size + 1 + 1) (off := 1) (by simp; omega) (World.cell?_setCell_same w1 _ _ f1)
  have f2' := far (.inr (by omega)) f2 (by omega)
  have g1' : ∀ i, w2.frozen? ⟨w.heap.size + 1, i, none⟩ = false := fun i => (hb2.frozen (p := ⟨w.heap.size + 1, i, none⟩) (by simp; omega)).trans (by rw [World.frozen?_setCell]; exact g1 i)
  have g2' : ∀ i, w2.frozen? ⟨w.heap.size + 1 + 1, i, none⟩ = false := fun i => (hb2.frozen (p := ⟨w.heap.size + 1 + 1, i, none⟩) (by simp; omega)).trans (by rw [World.frozen?_setCell]; exact g2 i)
  have HB2 := HS.step hb2
  clear far
  go_wp2_with fail
  have o1' := ((((((o1.set (p := ⟨w.heap.size + 1 + 1, 1, none⟩) (.inl (by simp)) (.slice a1 n1 c1)).below hb2).set (p := ⟨w.heap.size + 1 + 1, 2, none⟩) (.inl (by simp)) (.slice a2 n2 c2)).set (p := ⟨w.heap.size + 1, 0, none⟩) (.inl (by simp)) (.bool p)).set (p := ⟨w.heap.size + 1, 1, none⟩) (.inl (by simp)) (.slice a1 n1 c1)).set (p := ⟨w.heap.size + 1, 2, none⟩) (.inl (by simp)) (.slice a2 n2 c2))
  have o2' := ((((o2.set (p := ⟨w.heap.size + 1 + 1, 2, none⟩) (.inl (by simp; omega)) (.slice a2 n2 c2)).set (p := ⟨w.heap.size + 1, 0, none⟩) (.inl (by simp; omega)) (.bool p)).set (p := ⟨w.heap.size + 1, 1, none⟩) (.inl (by simp; omega)) (.slice a1 n1 c1)).set (p := ⟨w.heap.size + 1, 2, none⟩) (.inl (by simp; omega)) (.slice a2 n2 c2))
  have HB3 := ((((HB2.set (p := ⟨w.heap.size + 1 + 1, 2, none⟩) (by simp; omega) (.slice a2 n2 c2)).set (p := ⟨w.heap.size + 1, 0, none⟩) (by simp) (.bool p)).set (p := ⟨w.heap.size + 1, 1, none⟩) (by simp) (.slice a1 n1 c1)).set (p := ⟨w.heap.size + 1, 2, none⟩) (by simp) (.slice a2 n2 c2))
  refine bodyPost_ret (v := .agg #[.bool p, .slice a1 n1 c1, .slice a2 n2 c2]) (by simp [results, Tryz.results55, go_sem, e1', e2', e3']) rfl ⟨_, _, _, _, _, _, w1.heap.size, rfl, by omega, by simp; omega, o1'.mono (by omega) (Nat.le_refl _), o2'.mono (Nat.le_refl _) (by simp), HB3⟩
end Go.Proofs.YtikllmdmifecpaaGreatDoor
end
section
/- The laws' helpers over slices of literals: copies. -/
namespace Go.Proofs.YtikllmdmifecpaaGreatDoor
open Go.RowKit

theorem Tryz.info67 : (Tryz.prog.info? 67).map (fun i => (i.zero, i.size, i.bytes)) = some (some (.agg #[.bool false, .slice none 0 0, .slice none 0 0]), 3, 56) := by kernel_rfl
theorem flatC_take' (c : List Lt) (k : Nat) (h : k < c.length) : flatC (c.take (k+1)) = flatC (c.take k) ++ [(c.getD k lt0).2.1] ++ [(c.getD k lt0).2.2] := by
  rw [List.take_succ_eq_append_getElem h, flatC_app]
  simp [flatC, List.getD, h]
def z0C : LV := (false, .slice none 0 0, .slice none 0 0)
theorem made3 (n : Nat) : (madeCells #[.bool false, .slice none 0 0, .slice none 0 0] (n * 3)).toList = cellsC (List.replicate n z0C) := by
  have e : ∀ m, (madeCells #[.bool false, .slice none 0 0, .slice none 0 0] m).toList = (List.range m).map (fun i => (#[Value.bool false, .slice none 0 0, .slice none 0 0] : Array Value)[i % 3]!) := by
    intro m; simp [madeCells, Array.toList_range]
  rw [e]
  induction n with
  | zero => rfl
  | succ n ih =>
    rw [List.replicate_succ', cellsC_app, ← ih, show (n + 1) * 3 = n * 3 + 1 + 1 + 1 from by omega, List.range_succ, List.range_succ, List.range_succ]
    simp only [List.map_append, List.map_cons, List.map_nil, List.append_assoc]
    congr 1
    have h0 : (n * 3) % 3 = 0 := by omega
    have h1 : (n * 3 + 1) % 3 = 1 := by omega
    have h2 : (n * 3 + 1 + 1) % 3 = 2 := by omega
    rw [h0, h1, h2]
    rfl
theorem cellsC_set (zs rest : List LV) (y : LV) (p : Bool) (a b : Value) :
    (((cellsC (zs ++ y :: rest)).set (zs.length * 3) (.bool p)).set (zs.length * 3 + 1) a).set (zs.length * 3 + 2) b = cellsC (zs ++ (p, a, b) :: rest) := by
  have hl := cellsC_len zs
  rw [cellsC_app, cellsC_app]
  rw [List.set_append_right _ _ (by omega), hl, Nat.sub_self, List.set_append_right _ _ (by omega), hl, Nat.add_sub_cancel_left, List.set_append_right _ _ (by omega), hl, Nat.add_sub_cancel_left]
  rfl

set_option maxRecDepth 100000 in
set_option maxHeartbeats 400000 in
theorem toLitS_c (l h : Nat) (v : Value) (c : List Lt) (w : World) (hx : sumC c ≤ 1048576) (hv : SlC l h w v c) :
    Calls Tryz.prog 13 #[v] w (RetC w c) := by
  obtain ⟨ad, cap, rfl⟩ := hv.form
  obtain ⟨hxl, hmax⟩ := shortC_of_sum hx
  obtain ⟨i0, hi, hz0, hz1, hz2⟩ := info_parts Tryz.info67
  go_enter Tryz.func13, Tryz.ntmps13
  go_wp2_with (at_make; refine wpList_make_full _ rfl _ _ 30 rfl w.heap.size 67 i0 (.agg #[.bool false, .slice none 0 0, .slice none 0 0]) 3 Tryz.underlying30 hi hz0 hz1 _ _ _ _ c.length rfl rfl rfl rfl (by rw [hz2]; omega) (by unfold maxLen; omega) (Nat.le_refl _) ?_; intro w1 hown hg)
  have hz3 : (madeCells (Value.agg #[.bool false, .slice none 0 0, .slice none 0 0]).cells (c.length * 3)).toList = cellsC ([] ++ List.replicate (c.length - 0) z0C) := by
    rw [show (Value.agg #[.bool false, .slice none 0 0, .slice none 0 0]).cells = #[.bool false, .slice none 0 0, .slice none 0 0] from rfl, made3]; simp
  rw [hz3] at hown
  have hb0 : Bel w w1 := (Bel.rfl' w).grown hg (by simp)
  have hs1 : w.heap.size + 1 ≤ w1.heap.size := by
    rcases hown.2 with ⟨e, _⟩ | ⟨g, c, cur, e, _, hh, _⟩
    · simp at e
    · simp at e; have := (Array.getElem?_eq_some_iff.1 hh).1; omega
  clear hg hz3
  go_loopw [4] (fun i wr => ∃ (k : Nat) (zs : List LV) (bs : Nat → Nat), k ≤ c.length ∧ i = .int .i64 k ∧ wr.ownsRow w.heap.size 67 3 (.slice (some ⟨w.heap.size, 0, none⟩) c.length c.length) c.length (cellsC (zs ++ List.replicate (c.length - k) z0C)) ∧
    zs.map (·.1) = (c.take k).map (·.1) ∧ Ins (w.heap.size + 1) wr.heap.size w.heap.size wr (rowsC zs) (flatC (c.take k)) bs ∧ w.heap.size + 1 ≤ wr.heap.size ∧ Bel w wr) (fun i _ => c.length - (intOf i).toNat)
  case atStart => exact ⟨0, [], _, Nat.zero_le _, rfl, hown, rfl, (Ins.none _ _ _ _), hs1, hb0⟩
  case round =>
    obtain ⟨k, zs, bs, hk, rfl, ho, hzp, hin, hs, hb⟩ := hrel
    have hzl : zs.length = k := by have := congrArg List.length hzp; simp at this; omega
    by_cases hlt : k < c.length
    · obtain ⟨b, off, u1, u2, rfl, hbs, c1, c2, c3, s1, s2⟩ := hv.at hb k hlt
      obtain ⟨hm1, hm2⟩ := hmax k hlt
      have HFT := Lib.hid (flatC_take' c k hlt)
      have HTK : Hid ((c.take (k+1)).map (·.1) = (c.take k).map (·.1) ++ [(c.getD k lt0).1]) := by show _ = _; rw [List.take_succ_eq_append_getElem hlt, List.map_append]; simp [List.getD, hlt]
      have hin1 : (k : Int) < c.length := by omega
      have hrep : List.replicate (c.length - k) z0C = z0C :: List.replicate (c.length - (k+1)) z0C := by rw [show c.length - k = (c.length - (k+1)) + 1 from by omega, List.replicate_succ]
      rw [hrep] at ho
      generalize c.getD k lt0 = x at *
      obtain ⟨p, xl, xr⟩ := x
      simp only at *
      obtain ⟨a1, d1, rfl⟩ := s1.form
      obtain ⟨a2, d2, rfl⟩ := s2.form
      have HG : Hid ((zs ++ z0C :: List.replicate (c.length - (k+1)) z0C)[k]? = some z0C) := by show _ = _; rw [List.getElem?_append_right (by omega), hzl, Nat.sub_self]; rfl
      have HC := Lib.hid (toLit_c l h p _ _ xl xr wr hm1 hm2 s1 s2)
      have HI := Lib.hid hin
      have HO := Lib.hid ho
      have HP := Lib.hid hzp
      clear hv s1 s2 hmax hown hin ho hzp
      go_wp2_with (go_at_call 55; refine HC.out.mono ?_; rintro e w' ⟨b1, m1, q1, b2, m2, q2, M, rfl, hM1, hM2, o1, o2, hb2⟩; have ho3 := ownsRow_bel HO.out hb2; obtain ⟨t0, t1, t2⟩ := cellsC_get _ k z0C (HG.out); have y0 := (ho3.cellAt (k * 3) (by omega)).trans t0; have y1 := (ho3.cellAt (k * 3 + 1) (by omega)).trans t1; have y2 := (ho3.cellAt (k * 3 + 2) (by omega)).trans t2; have x0 := ho3.frozenAt (k * 3); have x1 := ho3.frozenAt (k * 3 + 1); have x2 := ho3.frozenAt (k * 3 + 2))
      go_roundw
      case rel =>
        have hst := ((((ho3.stored (k * 3) (.bool p)).1).stored (k * 3 + 1) (.slice b1 m1 q1)).1.stored (k * 3 + 2) (.slice b2 m2 q2)).1
        have hst2 := cellsC_set zs (List.replicate (c.length - (k+1)) z0C) z0C p (.slice b1 m1 q1) (.slice b2 m2 q2)
        rw [hzl] at hst2
        rw [hst2] at hst
        obtain ⟨bs1, hin1⟩ := (HI.out.below hb2).snoc o1 (Nat.le_refl _) hs (.inl (by omega)) (hi2 := M) (Nat.le_refl _) hM1
        obtain ⟨bs2, hin2⟩ := hin1.snoc o2 (Nat.le_refl _) (by omega) (.inl (by omega)) (hi2 := w'.heap.size) (Nat.le_refl _) hM2
        rw [← HFT.out] at hin2
        have hin3 := hin2.same (w' := ((w'.setCell ⟨w.heap.size, k * 3, none⟩ (.bool p)).setCell ⟨w.heap.size, k * 3 + 1, none⟩ (.slice b1 m1 q1)).setCell ⟨w.heap.size, k * 3 + 2, none⟩ (.slice b2 m2 q2)) (fun b h1 h2 _ => by
          rw [Below.heap_setCell _ _ _ b (by simp; omega), Below.heap_setCell _ _ _ b (by simp; omega), Below.heap_setCell _ _ _ b (by simp; omega)])
        have hB := (((hb.step hb2).set (p := ⟨w.heap.size, k * 3, none⟩) (Nat.le_refl _) (.bool p)).set (p := ⟨w.heap.size, k * 3 + 1, none⟩) (Nat.le_refl _) (.slice b1 m1 q1)).set (p := ⟨w.heap.size, k * 3 + 2, none⟩) (Nat.le_refl _) (.slice b2 m2 q2)
        have hsz := hb2.size
        refine ⟨k+1, zs ++ [(p, .slice b1 m1 q1, .slice b2 m2 q2)], bs2, by omega, by go_num, by rw [List.append_assoc]; exact hst, by rw [List.map_append, HP.out, HTK.out]; rfl, ?_, by simp; omega, hB⟩
        rw [rowsC_app]
        simpa [rowsC] using hin3
      case measure => simp [intOf]; omega
    · rw [show c.length - k = 0 from by omega, List.replicate_zero, List.append_nil] at ho
      rw [List.take_of_length_le (by omega)] at hin hzp
      have HI := Lib.hid hin
      have HO := Lib.hid ho
      have HP := Lib.hid hzp
      clear hin ho hv hmax hown hzp
      go_wp2_with fail
      go_ret
      exact ⟨_, _, _, rfl, OwnC.of_row HO.out (Nat.le_refl _) HP.out (fun g hg => by simp [Value.ownBlock] at hg; subst hg; exact HI.out.mono (by omega) (Nat.le_refl _)), hb⟩
end Go.Proofs.YtikllmdmifecpaaGreatDoor
end
section
/- append of one literal to a row of literals of the call's own: at a plain region, and at a step of a region that draws. -/
namespace Go.Proofs.YtikllmdmifecpaaGreatDoor
open Go.RowKit

/-- A row of literals of the call's own. -/
abbrev RowC (lo : Nat) (w : World) (v : Value) (zs : List LV) : Prop := w.ownsRow lo 67 3 v zs.length (cellsC zs)
theorem RowC.nil (lo : Nat) (w : World) : RowC lo w (.slice none 0 0) [] := World.ownsRow_nil _ _ _ _
theorem news_lit (w : World) (x y z : Value) (t : TypeId) (g : Nat) (hg : g = w.heap.size) : ∀ j u, [x, y, z][j]? = some u → (w.alloc (.cells #[x, y, z] t)).cell? ((⟨g, 0, none⟩ : Addr).add j) = some u := by
  subst hg
  intro j u hj
  match j, hj with
  | 0, hj => simp at hj; subst hj; rw [show (⟨w.heap.size, 0, none⟩ : Addr).add 0 = ⟨w.heap.size, 0, none⟩ from rfl, World.cell?_alloc_new w]; rfl
  | 1, hj => simp at hj; subst hj; rw [addr_add, World.cell?_alloc_new w]; rfl
  | 2, hj => simp at hj; subst hj; rw [addr_add, World.cell?_alloc_new w]; rfl
theorem one_lit (p : Bool) (a b : Option Addr) (n m c d : Nat) : ∀ u ∈ [Value.bool p, Value.slice a n c, Value.slice b m d], u.oneCell' = true := by
  intro u hu; simp at hu; rcases hu with rfl | rfl | rfl <;> rfl

theorem step_append_lit {w : World} {ops : Array Oper} {o : Oper} {a : Act} {K : Act → World → Prop} {Q : Exit → Act → World → Prop} {E : Prop} (hgd : o.guard = none) (s x : Operand) (d : Nat) (hd : o.dst = some d)
    (ho : o.op = .call { callee := .builtin .append, args := #[s, x], argTypes := #[30, 30] })
    (base : Nat) (v : Value) (zs : List LV) (hs : a.eval s = v) (hown : RowC base w v zs) (g : Nat) (p : Bool) (z1 z2 : SV) (hx : a.eval x = .slice (some ⟨g, 0, none⟩) 1 1)
    (hnews : ∀ j u, [Value.bool p, encS z1, encS z2][j]? = some u → w.cell? ((⟨g, 0, none⟩ : Addr).add j) = some u)
    (hl : zs.length ≤ 1048576) (hbase : base ≤ w.heap.size)
    (h : ∀ ad n c w', RowC base w' (.slice ad n c) (zs ++ [(p, encS z1, encS z2)]) → w.grownBy w' v.ownBlock → K (a.put (some d) (.slice ad n c)) w') :
    if Region.wanted o (yielded ops a.tmps) = true then Oper.wp Tryz.prog o a w K Q else E := by
  obtain ⟨i0, hi0, hz0, hz1, hz2⟩ := info_parts Tryz.info67
  have hw : Region.wanted o (yielded ops a.tmps) = true := by simp [Region.wanted, hgd]
  rw [if_pos hw]
  rw [← hd] at h
  refine wp_append_own w s x 30 ho base 67 i0 (.agg #[.bool false, .slice none 0 0, .slice none 0 0]) 3 56 Tryz.underlying30 hi0 hz0 hz1 hz2 rfl (by decide) v zs.length (cellsC zs) hs hown
    ⟨g, 0, none⟩ 1 1 [.bool p, encS z1, encS z2] hx (by simp) hnews (one_lit _ _ _ _ _ _ _) (by unfold maxLen; omega) (by omega) hbase (fun v' w' h1 h2 _ => ?_)
  obtain ⟨ad, n, c, rfl⟩ := own_form h1
  refine h ad n c w' ?_ h2
  have e : cellsC (zs ++ [(p, encS z1, encS z2)]) = cellsC zs ++ [.bool p, encS z1, encS z2] := by rw [cellsC_app]; rfl
  show World.ownsRow _ _ _ _ _ _ _
  rw [e]
  simpa using h1
end Go.Proofs.YtikllmdmifecpaaGreatDoor
end
section
/- Chapter 4, the program: a clause with other terms; RenameClause. -/
namespace Go.Proofs.YtikllmdmifecpaaGreatDoor
open Go.RowKit

theorem ownsRow_base {w : World} {lo lo' e s n : Nat} {v : Value} {xs : List Value} (h : w.ownsRow lo e s v n xs) (hl : lo' ≤ lo) : w.ownsRow lo' e s v n xs := by
  refine ⟨h.1, ?_⟩
  rcases h.2 with h0 | ⟨g, cap, cur, e1, e2, r⟩
  · exact .inl h0
  · exact .inr ⟨g, cap, cur, e1, Nat.le_trans hl e2, r⟩
theorem OwnS.two {lo hi : Nat} {w : World} {u : Value} {ts : List (List Int)} (h : OwnS lo hi w u ts) (hhi : hi ≤ w.heap.size) : ∃ (ad : Option Addr) (cap : Nat) (us : List SV) (bs : Nat → Nat), u = .slice ad ts.length cap ∧ us.length = ts.length ∧
    (∀ j z, us[j]? = some z → ∃ b off, ad = some ⟨b, off, none⟩ ∧ b < w.heap.size ∧ w.cell? ⟨b, off + j, none⟩ = some (encS z)) ∧ (∀ g w', Bel w w' → w.heap.size ≤ g → Ins lo hi g w' (us.map encS) ts bs) := by
  obtain ⟨ad, cap, rfl, hc, hm, hr⟩ := h
  by_cases hp : 0 < ts.length
  · obtain ⟨b, off, us, bs, rfl, a1, a2, a3, hi'⟩ := hr hp
    have hl := hi'.len
    have hv : ∀ j, j < us.length → ∃ z : SV, us[j]? = some (encS z) := fun j hj => by
      have h1 : us[j]? = some us[j] := List.getElem?_eq_getElem hj
      obtain ⟨x, y, e⟩ := (hi'.sl j _ h1).form
      exact ⟨(x, _, y), by rw [h1, e]; rfl⟩
    obtain ⟨f, hf⟩ := skolem_lt hv
    have he : ((List.range us.length).map f).map encS = us := by
      apply List.ext_getElem?
      intro j
      by_cases hj : j < us.length
      · rw [hf j hj]; simp [hj]
      · simp [List.getElem?_eq_none (Nat.le_of_not_lt hj), Nat.le_of_not_lt hj]
    refine ⟨some ⟨b, off, none⟩, cap, (List.range us.length).map f, bs, rfl, by simp [hl], fun j z hj => ?_, fun g w' hb hg => ?_⟩
    · have h2 : us[j]? = some (encS z) := by rw [← he, List.getElem?_map, hj]; rfl
      have h3 := a3 j _ h2
      exact ⟨b, off, rfl, World.block_lt_of_cell? w ⟨b, _, none⟩ h3, h3⟩
    · rw [he]
      have h4 := hi'.below hb
      exact ⟨h4.len, fun j hj hpj => by have := h4.rng j hj hpj; omega, h4.inj, h4.own⟩
  · obtain rfl : ts = [] := List.length_eq_zero_iff.1 (by omega)
    exact ⟨ad, cap, [], _, rfl, rfl, fun j z h => by simp at h, fun g w' _ _ => Ins.none _ _ _ _ |>.mono (Nat.le_refl _) (Nat.le_refl _)⟩

set_option maxRecDepth 100000 in
set_option maxHeartbeats 400000 in
theorem withTerms_c (l h lo hi : Nat) (v u : Value) (c : List Lt) (ts : List (List Int)) (w : World) (hx : c.length ≤ 1048576) (ht : ts.length = 2 * c.length) (hlo : lo ≤ w.heap.size) (hhi : hi ≤ w.heap.size) (hv : SlC l h w v c) (hu : OwnS lo hi w u ts) :
    Calls Tryz.prog 155 #[v, u] w (fun e w' => ∃ ad n k, e = .returned (.slice ad n k) ∧ OwnC lo w'.heap.size w' (.slice ad n k) (zipC c ts) ∧ Bel w w') := by
  obtain ⟨ad, cap, rfl⟩ := hv.form
  obtain ⟨au, cu, us, bs, rfl, hul, hcell, hIns⟩ := hu.two hhi
  have HTS := Lib.hid ht
  clear hu ht
  go_enter Tryz.func155, Tryz.ntmps155
  go_wp2_with fail
  go_loopw [5, 10] (fun o i wr => ∃ (k : Nat) (zs : List LV), k ≤ c.length ∧ i = .int .i64 k ∧ RowC w.heap.size wr o zs ∧ zs.map (·.1) = (c.take k).map (·.1) ∧ rowsC zs = (us.take (2 * k)).map encS ∧ Bel w wr) (fun _ i _ => c.length - (intOf i).toNat)
  case atStart => exact ⟨0, [], Nat.zero_le _, rfl, RowC.nil _ _, rfl, rfl, Bel.rfl' _⟩
  case round =>
    obtain ⟨k, zs, hk, rfl, hrow, hzp, hzr, hb⟩ := hrel
    have hzl : zs.length = k := by have := congrArg List.length hzp; simp at this; omega
    have ht := HTS.out
    by_cases hlt : k < c.length
    · obtain ⟨b, off, z1, z2, rfl, hbs, e1, e2, e3, -, -⟩ := hv.two k hlt
      have c1 := hb.at (World.block_lt_of_cell? _ ⟨_, _, none⟩ e1) e1
      have c2 := hb.at (World.block_lt_of_cell? _ ⟨_, _, none⟩ e2) e2
      have c3 := hb.at (World.block_lt_of_cell? _ ⟨_, _, none⟩ e3) e3
      have hu1 : us[2 * k]? = some us[2 * k] := List.getElem?_eq_getElem (by omega)
      have hu2 : us[2 * k + 1]? = some us[2 * k + 1] := List.getElem?_eq_getElem (by omega)
      have HTK : Hid ((us.take (2 * (k+1))).map encS = (us.take (2 * k)).map encS ++ [encS us[2 * k], encS us[2 * k + 1]]) := by
        show _ = _
        rw [show 2 * (k + 1) = 2 * k + 1 + 1 from by omega, List.take_succ_eq_append_getElem (show 2 * k + 1 < us.length by omega), List.take_succ_eq_append_getElem (show 2 * k < us.length by omega), List.map_append, List.map_append]
        simp only [List.append_assoc]
        rfl
      have HTP : Hid ((c.take (k+1)).map (·.1) = (c.take k).map (·.1) ++ [(c.getD k lt0).1]) := by show _ = _; rw [List.take_succ_eq_append_getElem hlt, List.map_append]; simp [List.getD, hlt]
      obtain ⟨b2, o2, rfl, hb2, d1⟩ := hcell _ _ hu1
      obtain ⟨b2', o2', eq2, -, d2⟩ := hcell _ _ hu2
      simp only [Option.some.injEq, Addr.mk.injEq, and_true] at eq2
      obtain ⟨rfl, rfl⟩ := eq2
      have d1 := hb.at hb2 d1
      have d2 := hb.at hb2 d2
      have hin1 : (k : Int) < c.length := by omega
      generalize (c.getD k lt0).1 = p at *
      generalize us[2 * k] = y1 at *
      generalize us[2 * k + 1] = y2 at *
      obtain ⟨a1, n1, q1⟩ := z1
      obtain ⟨a2, n2, q2⟩ := z2
      obtain ⟨a3, n3, q3⟩ := y1
      obtain ⟨a4, n4, q4⟩ := y2
      simp only [encS] at c2 c3 d1 d2
      have HROW := Lib.hid hrow
      have hin2 : 2 * (k : Int) < ts.length := by omega
      have hin3 : 2 * (k : Int) + 1 < ts.length := by omega
      have hw1 := IntWalk.i64_in (2 * (k : Int)) (by omega)
      have hw2 := IntWalk.i64_in (2 * (k : Int) + 1) (by omega)
      have B2 := World.block_lt_of_cell? wr ⟨b2, _, none⟩ d1
      have k1 : (wr.alloc (.cells #[.bool p, .slice a1 n1 q1, .slice a2 n2 q2] 67)).drew.cell? ⟨wr.heap.size, 0, none⟩ = some (.bool p) := boxc ((Bel.rfl' _).drew) 0 _ rfl
      have k2 := (Bel.alloc0 wr (.cells #[.bool p, .slice a1 n1 q1, .slice a2 n2 q2] 67)).drew.at B2 d1
      have k3 := (Bel.alloc0 wr (.cells #[.bool p, .slice a1 n1 q1, .slice a2 n2 q2] 67)).drew.at B2 d2
      have m1 : ((wr.alloc (.cells #[.bool p, .slice a1 n1 q1, .slice a2 n2 q2] 67)).alloc (.cells #[.bool p, .slice a3 n3 q3, .slice a4 n4 q4] 67)).drew.cell? ⟨wr.heap.size, 0, none⟩ = some (.bool p) := boxc (Bel.alloc0 _ _).drew 0 _ rfl
      have m2 := (Bel.alloc2 wr (.cells #[.bool p, .slice a1 n1 q1, .slice a2 n2 q2] 67) (.cells #[.bool p, .slice a3 n3 q3, .slice a4 n4 q4] 67)).drew.at B2 d1
      have m3 := (Bel.alloc2 wr (.cells #[.bool p, .slice a1 n1 q1, .slice a2 n2 q2] 67) (.cells #[.bool p, .slice a3 n3 q3, .slice a4 n4 q4] 67)).drew.at B2 d2
      have HB5 : Bel wr ((wr.alloc (.cells #[.bool p, .slice a1 n1 q1, .slice a2 n2 q2] 67)).alloc (.cells #[.bool p, .slice a3 n3 q3, .slice a4 n4 q4] 67)).drew := (Bel.alloc2 _ _ _).drew
      have R5 : RowC w.heap.size ((wr.alloc (.cells #[.bool p, .slice a1 n1 q1, .slice a2 n2 q2] 67)).alloc (.cells #[.bool p, .slice a3 n3 q3, .slice a4 n4 q4] 67)).drew _ zs := ownsRow_bel hrow HB5
      have HLT := hrow.lt
      have HZ5 : w.heap.size ≤ ((wr.alloc (.cells #[.bool p, .slice a1 n1 q1, .slice a2 n2 q2] 67)).alloc (.cells #[.bool p, .slice a3 n3 q3, .slice a4 n4 q4] 67)).drew.heap.size := Nat.le_trans hb.size HB5.size
      have HN : ∀ j u, [Value.bool p, encS (a3, n3, q3), encS (a4, n4, q4)][j]? = some u → ((wr.alloc (.cells #[.bool p, .slice a1 n1 q1, .slice a2 n2 q2] 67)).alloc (.cells #[.bool p, .slice a3 n3 q3, .slice a4 n4 q4] 67)).drew.cell? ((⟨wr.heap.size + 1, 0, none⟩ : Addr).add j) = some u := fun j u hj => by
        have := news_lit (wr.alloc (.cells #[.bool p, .slice a1 n1 q1, .slice a2 n2 q2] 67)) (.bool p) (.slice a3 n3 q3) (.slice a4 n4 q4) 67 (wr.heap.size + 1) (by simp) j u hj
        rw [addr_add] at this ⊢
        exact (Bel.drew0 _).at (World.block_lt_of_cell? _ ⟨_, _, none⟩ this) this
      clear hv e1 e2 e3 hcell hu1 hu2 hIns hrow ht
      go_wp2_with fail
      go_region_held_law (fun w' => w'.cell? ⟨wr.heap.size, 0, none⟩ = some (.bool p) ∧ w'.cell? ⟨b2, o2 + 2 * k, none⟩ = some (.slice a3 n3 q3) ∧ w'.cell? ⟨b2, o2 + (2 * k + 1), none⟩ = some (.slice a4 n4 q4))
        (first | exact ⟨k1, k2, k3⟩ | exact ⟨m1, m2, m3⟩ | exact ⟨t1, t2, t3⟩ | fail)
        (first
          | (refine step_append_lit rfl (.tmp 15) (.tmp 30) 31 rfl rfl w.heap.size _ zs rfl R5 (wr.heap.size + 1) p (a3, n3, q3) (a4, n4, q4) rfl HN (by omega) HZ5 ?_; intro a5 n5 c5 w5 R6 hg5; have t1 := hg5.cell m1 (fun e => Nat.lt_irrefl _ (HLT _ e.symm).2); have t2 := hg5.cell m2 (fun e => by have := (HLT _ e.symm).1; simp at this; omega); have t3 := hg5.cell m3 (fun e => by have := (HLT _ e.symm).1; simp at this; omega))
          | fail)
      all_goals
        have HB6 := (hb.step HB5).grown hg5 (fun q hq => own_base R5 q hq)
        go_wp2_with fail
        go_roundw
        case rel => exact ⟨k+1, _, by omega, by go_num, R6, by rw [List.map_append, hzp, HTP.out]; rfl, by rw [rowsC_app, hzr, HTK.out]; rfl, HB6⟩
        case measure => simp [intOf]; omega
    · obtain ⟨ad5, n5, c5, rfl⟩ := own_form hrow
      rw [List.take_of_length_le (by omega)] at hzp hzr
      have hfz := zipC_flat c ts ht
      have hlz := zipC_len c ts ht
      have hsz := zipC_signs c ts ht
      have hkc : k = c.length := by omega
      have HO : Hid (OwnC lo wr.heap.size wr (.slice ad5 n5 c5) (zipC c ts)) := by
        show OwnC _ _ _ _ _
        refine OwnC.of_row (base := lo) (e := 67) (zs := zs) (bs := bs) ?_ (Nat.le_refl _) (by rw [hsz]; exact hzp) (fun g hg => ?_)
        · rw [hlz, ← hkc, ← hzl]
          exact ownsRow_base hrow hlo
        · rw [hfz, hzr]
          exact (hIns g wr hb (own_base hrow g hg)).mono (Nat.le_refl _) (Nat.le_trans hhi hb.size)
      clear hrow hzp hzr hcell hIns hfz hlz hsz ht
      go_wp2_with fail
      go_ret
      exact ⟨_, _, _, rfl, HO.out, hb⟩
end Go.Proofs.YtikllmdmifecpaaGreatDoor
end
section
/- Chapter 4: RenameClause, both sides. -/
namespace Go.Proofs.YtikllmdmifecpaaGreatDoor
open Go.RowKit

theorem rows_flat {ar : List Int} {c : List Lt} (h : goodClause ar c = true) : rows40 (flatC c) := by
  obtain ⟨h1, h2, h3⟩ := goodClause_iff.1 h
  refine renameOk_rows (ar := ar) ?_
  unfold renameOk
  rw [h1, decide_eq_true (show (flatC c).length ≤ 20 by rw [flatC_len]; omega), flat_all]
  simpa using h3
theorem renC_len (c : List Lt) : (renS [] (flatC c)).length = 2 * c.length := by rw [renS_len, flatC_len]

set_option maxRecDepth 100000 in
set_option maxHeartbeats 400000 in
theorem renamedClause_c (l h : Nat) (v : Value) (c : List Lt) (w : World) (hx : c.length ≤ 1048576) (hr : rows40 (flatC c)) (hv : SlC l h w v c) :
    Calls Tryz.prog 117 #[v] w (RetC w (renC c)) := by
  have HT := Lib.hid (fun (w' : World) (hb : Bel w w') => termsIn_c l h v c w' hx (hv.below hb))
  have HW := Lib.hid (fun (w' : World) (u : Value) (hb : Bel w w') (hu : OwnS w.heap.size w'.heap.size w' u (renS [] (flatC c))) => withTerms_c l h _ _ v u c _ w' hx (renC_len c) hb.size (Nat.le_refl _) (hv.below hb) hu)
  clear hv
  go_enter Tryz.func117, Tryz.ntmps117
  go_wp2_with fail
  refine (HT.out _ (Bel.rfl' _)).mono ?_; rintro e w1 ⟨a1, n1, c1, rfl, hrow, hb1⟩
  go_wp2_with fail
  refine (renamed_c _ _ _ (flatC c) w1 hr (hrow.sls hb1)).mono ?_; rintro e w2 ⟨a2, n2, c2, rfl, ho, hb2⟩
  go_wp2_with fail
  refine (HW.out _ _ (hb1.step hb2) (ho.mono hb1.size (Nat.le_refl _))).mono ?_; rintro e w3 ⟨a3, n3, c3, rfl, hc, hb3⟩
  go_wp2_with fail
  go_ret
  exact ⟨_, _, _, rfl, hc, (hb1.step hb2).step hb3⟩

set_option maxRecDepth 100000 in
set_option maxHeartbeats 400000 in
theorem l4Rename_c (l h : Nat) (v : Value) (c : List Lt) (w : World) (hx : c.length ≤ 1048576) (hr : rows40 (flatC c)) (hv : SlC l h w v c) :
    Calls Tryz.prog 151 #[v] w (RetC w (renC c)) := by
  obtain ⟨ad, cap, rfl⟩ := hv.form
  unfold renC
  go_enter Tryz.func151, Tryz.ntmps151
  go_wp2_with fail
  refine (l4Terms_c l h _ c _ hx hv).mono ?_; rintro e w1 ⟨a1, n1, c1, rfl, hrow, hb1⟩
  go_wp2_with fail
  refine (l2Rename_c _ _ _ (flatC c) w1 hr (hrow.sls hb1)).mono ?_; rintro e w2 ⟨a2, n2, c2, rfl, ho, hb2⟩
  have hb12 := hb1.step hb2
  have hv2 := hv.below hb12
  have hlo := hb12.size
  have HTS := Lib.hid (renC_len c)
  have ho2 := ho.mono (lo' := w.heap.size) hb1.size (Nat.le_refl _)
  have hts := renC_len c
  clear ho hv hrow hr
  generalize renS [] (flatC c) = ts at *
  obtain ⟨au, cu, us, bs, e2, hul, hcell, hIns⟩ := ho2.two (Nat.le_refl _)
  simp only [Value.slice.injEq] at e2
  obtain ⟨rfl, rfl, rfl⟩ := e2
  have hv := hv2
  clear hv2
  have hhi := Nat.le_refl w2.heap.size
  clear ho2 hts
  go_wp2_with fail
  go_loopw [4, 12] (fun o i wr => ∃ (k : Nat) (zs : List LV), k ≤ c.length ∧ i = .int .i64 k ∧ RowC w2.heap.size wr o zs ∧ zs.map (·.1) = (c.take k).map (·.1) ∧ rowsC zs = (us.take (2 * k)).map encS ∧ Bel w2 wr) (fun _ i _ => c.length - (intOf i).toNat)
  case atStart => exact ⟨0, [], Nat.zero_le _, rfl, RowC.nil _ _, rfl, rfl, Bel.rfl' _⟩
  case round =>
    obtain ⟨k, zs, hk, rfl, hrow, hzp, hzr, hb⟩ := hrel
    have hzl : zs.length = k := by have := congrArg List.length hzp; simp at this; omega
    have ht := HTS.out
    by_cases hlt : k < c.length
    · obtain ⟨b, off, z1, z2, rfl, hbs, e1, e2, e3, -, -⟩ := hv.two k hlt
      have c1 := hb.at (World.block_lt_of_cell? _ ⟨_, _, none⟩ e1) e1
      have c2 := hb.at (World.block_lt_of_cell? _ ⟨_, _, none⟩ e2) e2
      have c3 := hb.at (World.block_lt_of_cell? _ ⟨_, _, none⟩ e3) e3
      have hu1 : us[2 * k]? = some us[2 * k] := List.getElem?_eq_getElem (by omega)
      have hu2 : us[2 * k + 1]? = some us[2 * k + 1] := List.getElem?_eq_getElem (by omega)
      have HTK : Hid ((us.take (2 * (k+1))).map encS = (us.take (2 * k)).map encS ++ [encS us[2 * k], encS us[2 * k + 1]]) := by
        show _ = _
        rw [show 2 * (k + 1) = 2 * k + 1 + 1 from by omega, List.take_succ_eq_append_getElem (show 2 * k + 1 < us.length by omega), List.take_succ_eq_append_getElem (show 2 * k < us.length by omega), List.map_append, List.map_append]
        simp only [List.append_assoc]
        rfl
      have HTP : Hid ((c.take (k+1)).map (·.1) = (c.take k).map (·.1) ++ [(c.getD k lt0).1]) := by show _ = _; rw [List.take_succ_eq_append_getElem hlt, List.map_append]; simp [List.getD, hlt]
      obtain ⟨b2, o2, rfl, hb2, d1⟩ := hcell _ _ hu1
      obtain ⟨b2', o2', eq2, -, d2⟩ := hcell _ _ hu2
      simp only [Option.some.injEq, Addr.mk.injEq, and_true] at eq2
      obtain ⟨rfl, rfl⟩ := eq2
      have d1 := hb.at hb2 d1
      have d2 := hb.at hb2 d2
      have hin1 : (k : Int) < c.length := by omega
      generalize (c.getD k lt0).1 = p at *
      generalize us[2 * k] = y1 at *
      generalize us[2 * k + 1] = y2 at *
      obtain ⟨a1, n1, q1⟩ := z1
      obtain ⟨a2, n2, q2⟩ := z2
      obtain ⟨a3, n3, q3⟩ := y1
      obtain ⟨a4, n4, q4⟩ := y2
      simp only [encS] at c2 c3 d1 d2
      have HROW := Lib.hid hrow
      have hin2 : 2 * (k : Int) < ts.length := by omega
      have hin3 : 2 * (k : Int) + 1 < ts.length := by omega
      have hw1 := IntWalk.i64_in (2 * (k : Int)) (by omega)
      have hw2 := IntWalk.i64_in (2 * (k : Int) + 1) (by omega)
      have B2 := World.block_lt_of_cell? wr ⟨b2, _, none⟩ d1
      have k1 : (wr.alloc (.cells #[.bool p, .slice a1 n1 q1, .slice a2 n2 q2] 67)).drew.cell? ⟨wr.heap.size, 0, none⟩ = some (.bool p) := boxc ((Bel.rfl' _).drew) 0 _ rfl
      have k2 := (Bel.alloc0 wr (.cells #[.bool p, .slice a1 n1 q1, .slice a2 n2 q2] 67)).drew.at B2 d1
      have k3 := (Bel.alloc0 wr (.cells #[.bool p, .slice a1 n1 q1, .slice a2 n2 q2] 67)).drew.at B2 d2
      have m1 : ((wr.alloc (.cells #[.bool p, .slice a1 n1 q1, .slice a2 n2 q2] 67)).alloc (.cells #[.bool p, .slice a3 n3 q3, .slice a4 n4 q4] 67)).drew.cell? ⟨wr.heap.size, 0, none⟩ = some (.bool p) := boxc (Bel.alloc0 _ _).drew 0 _ rfl
      have m2 := (Bel.alloc2 wr (.cells #[.bool p, .slice a1 n1 q1, .slice a2 n2 q2] 67) (.cells #[.bool p, .slice a3 n3 q3, .slice a4 n4 q4] 67)).drew.at B2 d1
      have m3 := (Bel.alloc2 wr (.cells #[.bool p, .slice a1 n1 q1, .slice a2 n2 q2] 67) (.cells #[.bool p, .slice a3 n3 q3, .slice a4 n4 q4] 67)).drew.at B2 d2
      have HB5 : Bel wr ((wr.alloc (.cells #[.bool p, .slice a1 n1 q1, .slice a2 n2 q2] 67)).alloc (.cells #[.bool p, .slice a3 n3 q3, .slice a4 n4 q4] 67)).drew := (Bel.alloc2 _ _ _).drew
      have R5 : RowC w2.heap.size ((wr.alloc (.cells #[.bool p, .slice a1 n1 q1, .slice a2 n2 q2] 67)).alloc (.cells #[.bool p, .slice a3 n3 q3, .slice a4 n4 q4] 67)).drew _ zs := ownsRow_bel hrow HB5
      have HLT := hrow.lt
      have HZ5 : w2.heap.size ≤ ((wr.alloc (.cells #[.bool p, .slice a1 n1 q1, .slice a2 n2 q2] 67)).alloc (.cells #[.bool p, .slice a3 n3 q3, .slice a4 n4 q4] 67)).drew.heap.size := Nat.le_trans hb.size HB5.size
      have HN : ∀ j u, [Value.bool p, encS (a3, n3, q3), encS (a4, n4, q4)][j]? = some u → ((wr.alloc (.cells #[.bool p, .slice a1 n1 q1, .slice a2 n2 q2] 67)).alloc (.cells #[.bool p, .slice a3 n3 q3, .slice a4 n4 q4] 67)).drew.cell? ((⟨wr.heap.size + 1, 0, none⟩ : Addr).add j) = some u := fun j u hj => by
        have := news_lit (wr.alloc (.cells #[.bool p, .slice a1 n1 q1, .slice a2 n2 q2] 67)) (.bool p) (.slice a3 n3 q3) (.slice a4 n4 q4) 67 (wr.heap.size + 1) (by simp) j u hj
        rw [addr_add] at this ⊢
        exact (Bel.drew0 _).at (World.block_lt_of_cell? _ ⟨_, _, none⟩ this) this
      clear hv e1 e2 e3 hcell hu1 hu2 hIns hrow ht
      go_wp2_with fail
      go_region_held_law (fun w' => w'.cell? ⟨wr.heap.size, 0, none⟩ = some (.bool p) ∧ w'.cell? ⟨b2, o2 + 2 * k, none⟩ = some (.slice a3 n3 q3) ∧ w'.cell? ⟨b2, o2 + (2 * k + 1), none⟩ = some (.slice a4 n4 q4))
        (first | exact ⟨k1, k2, k3⟩ | exact ⟨m1, m2, m3⟩ | exact ⟨t1, t2, t3⟩ | fail)
        (first
          | (refine step_append_lit rfl (.tmp 17) (.tmp 32) 33 rfl rfl w2.heap.size _ zs rfl R5 (wr.heap.size + 1) p (a3, n3, q3) (a4, n4, q4) rfl HN (by omega) HZ5 ?_; intro a5 n5 c5 w5 R6 hg5; have t1 := hg5.cell m1 (fun e => Nat.lt_irrefl _ (HLT _ e.symm).2); have t2 := hg5.cell m2 (fun e => by have := (HLT _ e.symm).1; simp at this; omega); have t3 := hg5.cell m3 (fun e => by have := (HLT _ e.symm).1; simp at this; omega))
          | fail)
      all_goals
        have HB6 := (hb.step HB5).grown hg5 (fun q hq => own_base R5 q hq)
        go_wp2_with fail
        go_roundw
        case rel => exact ⟨k+1, _, by omega, by go_num, R6, by rw [List.map_append, hzp, HTP.out]; rfl, by rw [rowsC_app, hzr, HTK.out]; rfl, HB6⟩
        case measure => simp [intOf]; omega
    · obtain ⟨ad5, n5, c5, rfl⟩ := own_form hrow
      rw [List.take_of_length_le (by omega)] at hzp hzr
      have hfz := zipC_flat c ts ht
      have hlz := zipC_len c ts ht
      have hsz := zipC_signs c ts ht
      have hkc : k = c.length := by omega
      have HO : Hid (OwnC w.heap.size wr.heap.size wr (.slice ad5 n5 c5) (zipC c ts)) := by
        show OwnC _ _ _ _ _
        refine OwnC.of_row (base := w.heap.size) (e := 67) (zs := zs) (bs := bs) ?_ (Nat.le_refl _) (by rw [hsz]; exact hzp) (fun g hg => ?_)
        · rw [hlz, ← hkc, ← hzl]
          exact ownsRow_base hrow hlo
        · rw [hfz, hzr]
          exact (hIns g wr hb (own_base hrow g hg)).mono (Nat.le_refl _) (Nat.le_trans hhi hb.size)
      clear hrow hzp hzr hcell hIns hfz hlz hsz ht
      go_wp2_with fail
      go_ret
      exact ⟨_, _, _, rfl, HO.out, hb12.step hb⟩

theorem renCAns_len (ar : List Int) (c : List Lt) : sumC (renCAns ar c) ≤ 1048576 := by
  unfold renCAns
  split
  · rename_i hg
    obtain ⟨_, h8, hok⟩ := goodClause_iff.1 hg
    rw [sumC_eq]
    have hl := zipC_len c _ (renC_len c)
    have hf := zipC_flat c _ (renC_len c)
    unfold lenC renC
    rw [hl, hf]
    have h40 := renS_lens [] (flatC c) (fun t ht => (okTerm_len (flat_ok hok ht)).2)
    have := sumL_le40 _ h40
    rw [renC_len] at this
    omega
  · simp [sumC]
end Go.Proofs.YtikllmdmifecpaaGreatDoor
end
section
/- Chapter 4: what the keys of literals tell. No program. -/
namespace Go.Proofs.YtikllmdmifecpaaGreatDoor
open Go.RowKit

theorem ba_inj (x y : ByteArray) : x.toList = y.toList ↔ x = y := by simp [Lib.toList_data, ByteArray.ext_iff, Array.ext_iff]
def bytesOf (ns : List Int) : ByteArray := ns.foldl (fun r n => r.push (UInt8.ofNat n.toNat)) ByteArray.empty
def keyT (t : List Int) : ByteArray := bytesOf (t.map (· + 12))
abbrev Ky := Bool × ByteArray × ByteArray
def keyL (x : Lt) : Ky := (x.1, Lib.minS (keyT x.2.1) (keyT x.2.2), Lib.maxS (keyT x.2.1) (keyT x.2.2))

theorem bytes_list (ns : List Int) : ∀ s : ByteArray, (ns.foldl (fun r n => r.push (UInt8.ofNat n.toNat)) s).data.toList = s.data.toList ++ ns.map (fun n => UInt8.ofNat n.toNat) := by
  induction ns with
  | nil => intro s; simp
  | cons n r ih => intro s; rw [List.foldl_cons, ih]; simp [ByteArray.push]
theorem keyT_list (t : List Int) : (keyT t).data.toList = t.map (fun n => UInt8.ofNat (n + 12).toNat) := by
  unfold keyT bytesOf
  rw [bytes_list]
  simp [ByteArray.empty, ByteArray.emptyWithCapacity, Function.comp_def]
  try rfl
def inKey (t : List Int) : Prop := ∀ n ∈ t, -12 ≤ n ∧ n ≤ 9
theorem byte_inj {a b : Int} (ha : -12 ≤ a ∧ a ≤ 9) (hb : -12 ≤ b ∧ b ≤ 9) (h : UInt8.ofNat (a + 12).toNat = UInt8.ofNat (b + 12).toNat) : a = b := by
  have := congrArg UInt8.toNat h
  simp at this
  omega
theorem map_inj {f : Int → UInt8} : ∀ {a b : List Int}, (∀ x ∈ a, ∀ y ∈ b, f x = f y → x = y) → a.map f = b.map f → a = b := by
  intro a
  induction a with
  | nil => intro b _ h; cases b with
    | nil => rfl
    | cons y s => simp at h
  | cons x r ih => intro b hi h; cases b with
    | nil => simp at h
    | cons y s =>
      simp only [List.map_cons, List.cons.injEq] at h
      rw [hi x (by simp) y (by simp) h.1, ih (fun p hp q hq => hi p (by simp [hp]) q (by simp [hq])) h.2]
theorem keyT_inj {a b : List Int} (ha : inKey a) (hb : inKey b) : keyT a = keyT b ↔ a = b := by
  constructor
  · intro h
    have := congrArg (fun x : ByteArray => x.data.toList) h
    simp only [keyT_list] at this
    exact map_inj (fun x hx y hy e => byte_inj (ha x hx) (hb y hy) e) this
  · rintro rfl; rfl
theorem lt_no (a : List UInt8) : ¬ a < a := List.lt_irrefl a
theorem lt_tri {x y : ByteArray} (h1 : ¬ x.data.toList < y.data.toList) (h2 : ¬ y.data.toList < x.data.toList) : x = y := by
  have : x.data.toList = y.data.toList := List.le_antisymm h2 h1
  rw [← ba_inj, Lib.toList_data, Lib.toList_data]; exact this
theorem minmax (x y : ByteArray) : (Lib.minS x y = x ∧ Lib.maxS x y = y) ∨ (Lib.minS x y = y ∧ Lib.maxS x y = x) := by
  unfold Lib.minS Lib.maxS
  by_cases h1 : x.data.toList < y.data.toList
  · exact .inl ⟨by rw [if_pos (.inl h1)], by rw [if_pos h1]⟩
  · by_cases h2 : x.data.toList = y.data.toList
    · have : x = y := by rw [← ba_inj, Lib.toList_data, Lib.toList_data]; exact h2
      subst this
      exact .inl ⟨by rw [if_pos (.inr rfl)], by rw [if_neg h1]⟩
    · exact .inr ⟨by rw [if_neg (by rintro (h | h); exact h1 h; exact h2 h)], by rw [if_neg h1]⟩
theorem min_comm (x y : ByteArray) : Lib.minS x y = Lib.minS y x ∧ Lib.maxS x y = Lib.maxS y x := by
  unfold Lib.minS Lib.maxS
  by_cases h1 : x.data.toList < y.data.toList
  · have h2 : ¬ y.data.toList < x.data.toList := fun h => lt_no _ (List.lt_trans h1 h)
    have h3 : ¬ y.data.toList = x.data.toList := fun h => by rw [h] at h1; exact lt_no _ h1
    rw [if_pos (.inl h1), if_pos h1, if_neg (by rintro (h | h); exact h2 h; exact h3 h), if_neg h2]
    exact ⟨rfl, rfl⟩
  · by_cases h2 : y.data.toList < x.data.toList
    · have h3 : ¬ x.data.toList = y.data.toList := fun h => by rw [h] at h2; exact lt_no _ h2
      rw [if_neg (by rintro (h | h); exact h1 h; exact h3 h), if_neg h1, if_pos (.inl h2), if_pos h2]
      exact ⟨rfl, rfl⟩
    · have := lt_tri h1 h2
      subst this
      exact ⟨rfl, rfl⟩
theorem pair_iff (x y u v : ByteArray) : (Lib.minS x y = Lib.minS u v ∧ Lib.maxS x y = Lib.maxS u v) ↔ ((x = u ∧ y = v) ∨ (x = v ∧ y = u)) := by
  constructor
  · rintro ⟨h1, h2⟩
    rcases minmax x y with ⟨a1, a2⟩ | ⟨a1, a2⟩ <;> rcases minmax u v with ⟨b1, b2⟩ | ⟨b1, b2⟩ <;> rw [a1, b1] at h1 <;> rw [a2, b2] at h2
    · exact .inl ⟨h1, h2⟩
    · exact .inr ⟨h1, h2⟩
    · exact .inr ⟨h2, h1⟩
    · exact .inl ⟨h2, h1⟩
  · rintro (⟨rfl, rfl⟩ | ⟨rfl, rfl⟩)
    · exact ⟨rfl, rfl⟩
    · exact min_comm _ _
theorem same_iff (x y : ByteArray) : Lib.minS x y = Lib.maxS x y ↔ x = y := by
  rcases minmax x y with ⟨a1, a2⟩ | ⟨a1, a2⟩ <;> rw [a1, a2]
  exact eq_comm
def inKeyL (x : Lt) : Prop := inKey x.2.1 ∧ inKey x.2.2
theorem ok_inKey {ar : List Int} (hl : ar.length ≤ 10) {t : List Int} (h : okTerm ar t = true) : inKey t := by
  intro n hn
  obtain ⟨k, hk, rfl⟩ := List.getElem_of_mem hn
  have := good_sym ar t h k hk
  simp [okSym, inB, hk] at this
  omega
theorem ok_inKeyL {ar : List Int} (hl : ar.length ≤ 10) {x : Lt} (h : okLit ar x = true) : inKeyL x := ⟨ok_inKey hl (okLit_iff.1 h).1, ok_inKey hl (okLit_iff.1 h).2⟩
theorem inKey_get {t : List Int} (h : inKey t) : ∀ k, k < t.length → -12 ≤ t.getD k 0 ∧ t.getD k 0 ≤ 9 := fun k hk => h _ (mem_getD t 0 k hk)
theorem keyL_same {x y : Lt} (hx : inKeyL x) (hy : inKeyL y) : decide ((keyL x).2 = (keyL y).2) = sameTs x y := by
  rw [Bool.eq_iff_iff, decide_eq_true_iff]
  unfold keyL sameTs
  simp only [Prod.mk.injEq, pair_iff, Bool.or_eq_true, Bool.and_eq_true, decide_eq_true_iff]
  rw [keyT_inj hx.1 hy.1, keyT_inj hx.2 hy.2, keyT_inj hx.1 hy.2, keyT_inj hx.2 hy.1]
theorem keyL_triv {x : Lt} (hx : inKeyL x) : decide ((keyL x).2.1 = (keyL x).2.2) = decide (x.2.1 = x.2.2) := by
  rw [decide_eq_decide]
  unfold keyL
  simp only [same_iff]
  exact keyT_inj hx.1 hx.2
theorem keyL_eq {x y : Lt} (hx : inKeyL x) (hy : inKeyL y) : decide (keyL x = keyL y) = eqvL x y := by
  have h := keyL_same hx hy
  unfold eqvL
  rw [← h, Bool.eq_iff_iff]
  simp only [decide_eq_true_iff, Bool.and_eq_true, beq_iff_eq]
  constructor
  · intro e; exact ⟨congrArg (fun k : Ky => k.1) e, by rw [e]⟩
  · rintro ⟨e1, e2⟩; exact Prod.ext e1 e2
end Go.Proofs.YtikllmdmifecpaaGreatDoor
end
section
/- Chapter 4, the program: the keys of literals. -/
namespace Go.Proofs.YtikllmdmifecpaaGreatDoor
open Go.RowKit

theorem Tryz.info5 : (Tryz.prog.info? 5).map (fun i => (i.zero, i.size, i.bytes)) = some (some (.int .u8 0), 1, 1) := by kernel_rfl
theorem convN (W : World) (b n cap : Nat) (ns : List Int) (hn : n = ns.length) (h : ∀ j, j < ns.length → W.cell? ⟨b, j, none⟩ = some (.int .u8 (ns.getD j 0))) :
    (convert 58 9 (.slice (some ⟨b, 0, none⟩) n cap)).run Tryz.prog W = .ok (.string (bytesOf ns)) W := by
  subst hn
  rw [run_convert_bytes_string _ 58 9 5 _ _ _ Tryz.underlying58 Tryz.underlying5 Tryz.underlying9]
  rw [run_bytesToString _ _ ns.length cap ns ?_]
  · rfl
  · have := run_loadCells_list (P := Tryz.prog) (w := W) ⟨b, 0, none⟩ (ns.map (Value.int .u8)) (fun j v hj => by
      have hlt : j < ns.length := by simpa using (List.getElem?_eq_some_iff.1 hj).1
      rw [addr_add, Nat.zero_add, h j hlt]
      rw [List.getElem?_map, List.getElem?_eq_getElem hlt] at hj
      simpa [List.getD, hlt] using hj)
    simpa using this

set_option maxRecDepth 100000 in
set_option maxHeartbeats 1000000 in
theorem termKey_c (l h : Nat) (v : Value) (t : List Int) (w : World) (ht : t.length ≤ 40) (hlow : ∀ k, k < t.length → -12 ≤ t.getD k 0 ∧ t.getD k 0 ≤ 9) (hv : SlI l h w v t) :
    Calls Tryz.prog 188 #[v] w (RetV w (.string (keyT t))) := by
  obtain ⟨ad, cap, rfl, -, -, hr⟩ := hv
  obtain ⟨i0, hi, hz0, hz1, hz2⟩ := info_parts Tryz.info5
  go_enter Tryz.func188, Tryz.ntmps188
  go_wp2_with (at_make; refine wpList_make_full _ rfl _ _ 58 rfl w.heap.size 5 i0 (.int .u8 0) 1 Tryz.underlying58 hi hz0 hz1 _ _ _ _ t.length rfl rfl rfl rfl (by rw [hz2]; omega) (by unfold maxLen; omega) (Nat.le_refl _) ?_; intro w1 hown hg)
  have hz3 : (madeCells (Value.int .u8 0).cells (t.length * 1)).toList = ((t.take 0).map (· + 12)).map (Value.int .u8) ++ List.replicate (t.length - 0) (.int .u8 0) := by
    rw [Nat.mul_one]; show (madeCells #[_] _).toList = _; rw [toList_madeCells_one]; simp
  rw [hz3] at hown
  have hb0 : Bel w w1 := (Bel.rfl' w).grown hg (by simp)
  clear hg hz3
  go_loopw [11] (fun i wr => ∃ k : Nat, k ≤ t.length ∧ i = .int .i64 k ∧ wr.ownsRow w.heap.size 5 1 (.slice (some ⟨w.heap.size, 0, none⟩) t.length t.length) t.length (((t.take k).map (· + 12)).map (Value.int .u8) ++ List.replicate (t.length - k) (.int .u8 0)) ∧ Bel w wr) (fun i _ => t.length - (intOf i).toNat)
  case atStart => exact ⟨0, Nat.zero_le _, rfl, hown, hb0⟩
  case round =>
    obtain ⟨k, hk, rfl, ho, hb⟩ := hrel
    by_cases hlt : k < t.length
    · obtain ⟨b, off, rfl, -, hc⟩ := rd hr hb k hlt
      obtain ⟨hx1, hx2⟩ := hlow k hlt
      have HTK : Hid (((t.take (k+1)).map (· + 12)).map (Value.int .u8) = ((t.take k).map (· + 12)).map (Value.int .u8) ++ [.int .u8 (t.getD k 0 + 12)]) := by show _ = _; rw [List.take_succ_eq_append_getElem hlt, List.map_append, List.map_append]; simp [List.getD, hlt]
      have hin1 : (k : Int) < t.length := by omega
      have hcell := ho.cellAt k (by omega)
      have hfr := ho.frozenAt k
      rw [List.getElem?_append_right (by simp; omega)] at hcell
      rw [show k - (((t.take k).map (· + 12)).map (Value.int .u8)).length = 0 from by simp; omega, List.getElem?_replicate, if_pos (by omega)] at hcell
      have hst := Lib.hid (ho.stored k (.int .u8 (t.getD k 0 + 12))).1
      generalize t.getD k 0 = x at *
      have hw1 := IntWalk.i64_in (x + 12) (by omega)
      have hw2 : IntKind.u8.wrap (x + 12) = x + 12 := by simp [IntKind.wrap, IntKind.bits, IntKind.signed]; omega
      clear hr hlow hown ho
      go_wp2_with fail
      go_roundw
      case rel =>
        refine ⟨k+1, by omega, by go_num, ?_, hb.set (Nat.le_refl _) _⟩
        have h2 := hst.out
        rw [List.set_append_right _ _ (by simp; omega), show k - (((t.take k).map (· + 12)).map (Value.int .u8)).length = 0 from by simp; omega, show t.length - k = (t.length - (k+1)) + 1 from by omega, List.replicate_succ, List.set_cons_zero] at h2
        rw [HTK.out]
        simpa using h2
      case measure => simp [intOf]; omega
    · rw [show t.length - k = 0 from by omega, List.replicate_zero, List.append_nil, List.take_of_length_le (by omega)] at ho
      have hconv := convN wr w.heap.size t.length t.length (t.map (· + 12)) (by simp) (fun j hj => by
        have hj' : j < t.length := by simpa using hj
        rw [ho.cellAt j (by omega), List.getElem?_map, List.getElem?_eq_getElem (by simpa using hj')]
        simp [List.getD, hj'])
      clear hown ho hr hlow
      go_wp2_with fail
      go_ret
      exact ⟨rfl, hb⟩

set_option maxRecDepth 100000 in
set_option maxHeartbeats 1000000 in
theorem keyOf_c (l h : Nat) (p : Bool) (u1 u2 : Value) (xl xr : List Int) (w : World) (hl : xl.length ≤ 40) (hr : xr.length ≤ 40) (hll : ∀ k, k < xl.length → -12 ≤ xl.getD k 0 ∧ xl.getD k 0 ≤ 9) (hlr : ∀ k, k < xr.length → -12 ≤ xr.getD k 0 ∧ xr.getD k 0 ≤ 9) (h1 : SlI l h w u1 xl) (h2 : SlI l h w u2 xr) :
    Calls Tryz.prog 166 #[.agg #[.bool p, u1, u2]] w (RetV w (.agg #[.bool p, .string (Lib.minS (keyT xl) (keyT xr)), .string (Lib.maxS (keyT xl) (keyT xr))])) := by
  have HB0 : Bel w ((w.alloc (.cells #[.bool p, u1, u2] 67)).alloc (.cells #[.bool false, .string ⟨#[]⟩, .string ⟨#[]⟩] 183)).drew := (Bel.alloc2 _ _ _).drew
  have k1 : ((w.alloc (.cells #[.bool p, u1, u2] 67)).alloc (.cells #[.bool false, .string ⟨#[]⟩, .string ⟨#[]⟩] 183)).drew.cell? ⟨w.heap.size, 1, none⟩ = some u1 := boxc (Bel.alloc0 _ _).drew 1 _ rfl
  have k2 : ((w.alloc (.cells #[.bool p, u1, u2] 67)).alloc (.cells #[.bool false, .string ⟨#[]⟩, .string ⟨#[]⟩] 183)).drew.cell? ⟨w.heap.size, 2, none⟩ = some u2 := boxc (Bel.alloc0 _ _).drew 2 _ rfl
  have HL := Lib.hid (fun (w' : World) (hq : Bel w w') => termKey_c l h u1 xl w' hl hll (h1.below hq))
  have HR := Lib.hid (fun (w' : World) (hq : Bel w w') => termKey_c l h u2 xr w' hr hlr (h2.below hq))
  clear h1 h2
  generalize keyT xl = a at *
  generalize keyT xr = b at *
  have hmin := fun (W : World) => Lib.run_min_strs (P := Tryz.prog) W #[9, 9] 9 a b
  have hmax := fun (W : World) => Lib.run_max_strs (P := Tryz.prog) W #[9, 9] 9 a b
  generalize Lib.minS a b = lo at *
  generalize Lib.maxS a b = hi at *
  go_enter Tryz.func166, Tryz.ntmps166
  go_wp2_with fail
  go_region_held3 (fun w' => w'.cell? ⟨w.heap.size, 1, none⟩ = some u1 ∧ w'.cell? ⟨w.heap.size, 2, none⟩ = some u2)
    (first | exact ⟨k14, k24⟩ | exact ⟨k13, k23⟩ | exact ⟨k1, k2⟩ | fail)
    (first
      | (go_at_call 188; refine (HR.out _ HB3).mono ?_; rintro e w4 ⟨rfl, hb4⟩; have HB4 := HB3.step hb4; have k14 := hb4.at (World.block_lt_of_cell? _ ⟨_, _, none⟩ k13) k13; have k24 := hb4.at (World.block_lt_of_cell? _ ⟨_, _, none⟩ k23) k23)
      | (go_at_call 188; refine (HL.out _ HB0).mono ?_; rintro e w3 ⟨rfl, hb3⟩; have HB3 := HB0.step hb3; have k13 := hb3.at (World.block_lt_of_cell? _ ⟨_, _, none⟩ k1) k1; have k23 := hb3.at (World.block_lt_of_cell? _ ⟨_, _, none⟩ k2) k2)
      | fail)
  have hbb := hb3.step hb4
  have e0 := hbb.at (b := w.heap.size) (off := 0) (by simp [World.drew]; omega) (show World.cell? _ _ = some (.bool p) from boxc (Bel.alloc0 _ _).drew 0 _ rfl)
  have y0 := hbb.at (b := w.heap.size + 1) (off := 0) (by simp [World.drew]) (show World.cell? _ _ = some (.bool false) from (Bel.drew0 _).at (by simp) (by simp [go_sem]))
  have y1 := hbb.at (b := w.heap.size + 1) (off := 1) (by simp [World.drew]) (show World.cell? _ _ = some (.string ⟨#[]⟩) from (Bel.drew0 _).at (by simp) (by simp [go_sem]))
  have y2 := hbb.at (b := w.heap.size + 1) (off := 2) (by simp [World.drew]) (show World.cell? _ _ = some (.string ⟨#[]⟩) from (Bel.drew0 _).at (by simp) (by simp [go_sem]))
  have g1 : ∀ i, w4.frozen? ⟨w.heap.size + 1, i, none⟩ = false := fun i => (hbb.frozen (p := ⟨w.heap.size + 1, i, none⟩) (by simp [World.drew])).trans (((Bel.drew0 _).frozen (p := ⟨w.heap.size + 1, i, none⟩) (by simp)).trans (by simp [go_sem]))
  go_wp2_with fail
  have HB5 := (((HB4.set (p := ⟨w.heap.size + 1, 0, none⟩) (by simp) (.bool p)).set (p := ⟨w.heap.size + 1, 1, none⟩) (by simp) (.string lo)).set (p := ⟨w.heap.size + 1, 2, none⟩) (by simp) (.string hi))
  refine bodyPost_ret (v := .agg #[.bool p, .string lo, .string hi]) (by simp [results, Tryz.results166, go_sem, y0, y1, y2]) rfl ⟨rfl, HB5⟩

set_option maxRecDepth 100000 in
set_option maxHeartbeats 1000000 in
theorem isSame_c (p : Bool) (x y : ByteArray) (w : World) :
    Calls Tryz.prog 167 #[.agg #[.bool p, .string x, .string y]] w (RetV w (.bool (decide (x = y)))) := by
  have e : (x.toList == y.toList) = decide (x = y) := by
    rw [Bool.eq_iff_iff]; simp [ba_inj]
  go_enter Tryz.func167, Tryz.ntmps167
  go_wp2_with fail
  go_ret
  exact ⟨rfl, Bel.alloc0 _ _⟩

def vK (k : Ky) : Value := .agg #[.bool k.1, .string k.2.1, .string k.2.2]
def cellsK (ks : List Ky) : List Value := ks.flatMap fun k => [.bool k.1, .string k.2.1, .string k.2.2]
theorem eqK (W : World) (a b : Ky) : (Op.equalIn 10000 183 (.agg #[.bool a.1, .string a.2.1, .string a.2.2]) (.agg #[.bool b.1, .string b.2.1, .string b.2.2])).run Tryz.prog W = .ok (decide (a = b)) W := by
  simp [go_sem, ba_inj]
  obtain ⟨p, x, y⟩ := a
  obtain ⟨q, x', y'⟩ := b
  simp only [Prod.mk.injEq]
  by_cases h1 : p = q
  · by_cases h2 : x = x'
    · by_cases h3 : y = y'
      · simp [h1, h2, h3]
      · simp [h1, h2, h3]
    · simp [h1, h2]
  · simp [h1]
theorem cellsK_len (ks : List Ky) : (cellsK ks).length = ks.length * 3 := by
  induction ks with
  | nil => rfl
  | cons x r ih => show (_ :: _ :: _ :: cellsK r).length = _; simp [ih]; omega
theorem cellsK_get (ks : List Ky) (j : Nat) (k : Ky) (h : ks[j]? = some k) : (cellsK ks)[j * 3]? = some (.bool k.1) ∧ (cellsK ks)[j * 3 + 1]? = some (.string k.2.1) ∧ (cellsK ks)[j * 3 + 2]? = some (.string k.2.2) := by
  induction ks generalizing j with
  | nil => simp at h
  | cons x r ih =>
    have e : cellsK (x :: r) = .bool x.1 :: .string x.2.1 :: .string x.2.2 :: cellsK r := rfl
    cases j with
    | zero => simp at h; subst h; rw [e]; simp
    | succ j =>
      rw [e, show (j + 1) * 3 = j * 3 + 1 + 1 + 1 from by omega]
      simpa using ih j (by simpa using h)
theorem cellsK_app (a b : List Ky) : cellsK (a ++ b) = cellsK a ++ cellsK b := by simp [cellsK]
/-- A row of keys of the call's own. -/
abbrev RowK (lo : Nat) (w : World) (v : Value) (ks : List Ky) : Prop := w.ownsRow lo 183 3 v ks.length (cellsK ks)
theorem RowK.nil (lo : Nat) (w : World) : RowK lo w (.slice none 0 0) [] := World.ownsRow_nil _ _ _ _
theorem RowK.form {lo : Nat} {w : World} {v : Value} {ks : List Ky} (h : RowK lo w v ks) : ∃ ad c, v = .slice ad ks.length c := by
  rcases h.2 with ⟨e1, h2⟩ | ⟨g, cap, cur, e1, _⟩
  · exact ⟨none, 0, by rw [e1, h2]⟩
  · exact ⟨_, _, e1⟩
theorem RowK.at {lo : Nat} {w : World} {ad : Option Addr} {n c : Nat} {ks : List Ky} (h : RowK lo w (.slice ad n c) ks) (j : Nat) (hj : j < ks.length) :
    ∃ g, ad = some ⟨g, 0, none⟩ ∧ w.cell? ⟨g, j * 3, none⟩ = some (.bool (ks.getD j (false, ByteArray.empty, ByteArray.empty)).1) ∧ w.cell? ⟨g, j * 3 + 1, none⟩ = some (.string (ks.getD j (false, ByteArray.empty, ByteArray.empty)).2.1) ∧ w.cell? ⟨g, j * 3 + 2, none⟩ = some (.string (ks.getD j (false, ByteArray.empty, ByteArray.empty)).2.2) := by
  have h0 := h
  rcases h.2 with ⟨e1, h2⟩ | ⟨g, cap, cur, e1, _⟩
  · omega
  · simp only [Value.slice.injEq] at e1
    obtain ⟨rfl, rfl, rfl⟩ := e1
    obtain ⟨t0, t1, t2⟩ := cellsK_get ks j _ (List.getElem?_eq_getElem hj)
    have e : ks.getD j (false, ByteArray.empty, ByteArray.empty) = ks[j] := by simp [List.getD, hj]
    rw [e]
    exact ⟨g, rfl, (h0.cellAt _ (by omega)).trans t0, (h0.cellAt _ (by omega)).trans t1, (h0.cellAt _ (by omega)).trans t2⟩

set_option maxRecDepth 100000 in
set_option maxHeartbeats 1000000 in
theorem indexK_c (lo : Nat) (v : Value) (ks : List Ky) (key : Ky) (w : World) (hl : ks.length ≤ 1048576) (hv : RowK lo w v ks) :
    Calls Tryz.prog 189 #[v, .agg #[.bool key.1, .string key.2.1, .string key.2.2]] w (fun e w' => (∃ z : Int, e = .returned (.int .i64 z) ∧ (decide (0 ≤ z) = ks.any (fun y => decide (key = y))) ∧ -1 ≤ z ∧ z ≤ 1048576) ∧ Bel w w') := by
  obtain ⟨ad, cap, rfl⟩ := hv.form
  have k0 : ∀ w', Bel (w.alloc (.cells #[.bool key.1, .string key.2.1, .string key.2.2] 183)) w' → w'.cell? ⟨w.heap.size, 0, none⟩ = some (.bool key.1) ∧ w'.cell? ⟨w.heap.size, 1, none⟩ = some (.string key.2.1) ∧ w'.cell? ⟨w.heap.size, 2, none⟩ = some (.string key.2.2) := fun w' hb => ⟨boxc hb 0 _ rfl, boxc hb 1 _ rfl, boxc hb 2 _ rfl⟩
  have K0 := Lib.hid k0
  clear k0
  go_enter Tryz.func189, Tryz.ntmps189
  go_wp2_with fail
  go_loopw [8] (fun i wr => ∃ k : Nat, k ≤ ks.length ∧ i = .int .i64 k ∧ ((ks.take k).any (fun y => decide (key = y)) = false) ∧ Bel (w.alloc (.cells #[.bool key.1, .string key.2.1, .string key.2.2] 183)) wr) (fun i _ => ks.length - (intOf i).toNat)
  case atStart => exact ⟨0, Nat.zero_le _, rfl, by simp, Bel.rfl' _⟩
  case round =>
    obtain ⟨k, hk, rfl, hno, hb⟩ := hrel
    obtain ⟨e0, e1, e2⟩ := K0.out _ (hb.drew)
    by_cases hlt : k < ks.length
    · obtain ⟨g, rfl, c0, c1, c2⟩ := RowK.at (ownsRow_bel hv hb.of_alloc) k hlt
      have hq := fun W => eqK W key (ks.getD k (false, ByteArray.empty, ByteArray.empty))
      have c0 := (Bel.drew0 wr).at (World.block_lt_of_cell? _ ⟨_, _, none⟩ c0) c0
      have c1 := (Bel.drew0 wr).at (World.block_lt_of_cell? _ ⟨_, _, none⟩ c1) c1
      have c2 := (Bel.drew0 wr).at (World.block_lt_of_cell? _ ⟨_, _, none⟩ c2) c2
      have hin1 : (k : Int) < ks.length := by omega
      have HTK : Hid (ks.take (k+1) = ks.take k ++ [ks.getD k (false, ByteArray.empty, ByteArray.empty)]) := by show _ = _; rw [List.take_succ_eq_append_getElem hlt]; simp [List.getD, hlt]
      have hmem := mem_getD ks (false, ByteArray.empty, ByteArray.empty) k hlt
      generalize ks.getD k (false, ByteArray.empty, ByteArray.empty) = y at *
      clear hv
      by_cases he : key = y
      · simp only [decide_eq_true he] at hq
        have HM : Hid (decide ((0 : Int) ≤ (k : Int)) = ks.any (fun y => decide (key = y))) := by show _ = _; rw [decide_eq_true (by omega)]; exact (List.any_eq_true.2 ⟨y, hmem, by simp [he]⟩).symm
        clear he hmem hno
        go_wp2_with fail
        go_region_held3 (fun w' => (w'.cell? ⟨w.heap.size, 0, none⟩ = some (.bool key.1) ∧ w'.cell? ⟨w.heap.size, 1, none⟩ = some (.string key.2.1) ∧ w'.cell? ⟨w.heap.size, 2, none⟩ = some (.string key.2.2)) ∧ w'.cell? ⟨g, k * 3, none⟩ = some (.bool y.1) ∧ w'.cell? ⟨g, k * 3 + 1, none⟩ = some (.string y.2.1) ∧ w'.cell? ⟨g, k * 3 + 2, none⟩ = some (.string y.2.2))
          (first | exact ⟨⟨e0, e1, e2⟩, c0, c1, c2⟩ | fail)
          (first | fail)
        go_wp2_with fail
        go_ret
        exact ⟨⟨_, rfl, HM.out, by omega, by omega⟩, hb.of_alloc.drew⟩
      · simp only [decide_eq_false he] at hq
        have HN : Hid ((ks.take (k+1)).any (fun y => decide (key = y)) = false) := by show _ = _; rw [HTK.out, List.any_append, hno]; simp [he]
        clear he hmem hno
        go_wp2_with fail
        go_region_held3 (fun w' => (w'.cell? ⟨w.heap.size, 0, none⟩ = some (.bool key.1) ∧ w'.cell? ⟨w.heap.size, 1, none⟩ = some (.string key.2.1) ∧ w'.cell? ⟨w.heap.size, 2, none⟩ = some (.string key.2.2)) ∧ w'.cell? ⟨g, k * 3, none⟩ = some (.bool y.1) ∧ w'.cell? ⟨g, k * 3 + 1, none⟩ = some (.string y.2.1) ∧ w'.cell? ⟨g, k * 3 + 2, none⟩ = some (.string y.2.2))
          (first | exact ⟨⟨e0, e1, e2⟩, c0, c1, c2⟩ | fail)
          (first | fail)
        go_wp2_with fail
        go_roundw
        case rel => exact ⟨k+1, by omega, by go_num, HN.out, hb.drew⟩
        case measure => simp [intOf]; omega
    · rw [List.take_of_length_le (by omega)] at hno
      have HM : Hid (decide ((0 : Int) ≤ -1) = ks.any (fun y => decide (key = y))) := by show _ = _; rw [hno]; rfl
      clear hno hv
      go_wp2_with fail
      go_ret
      exact ⟨⟨_, rfl, HM.out, by omega, by omega⟩, hb.of_alloc⟩
end Go.Proofs.YtikllmdmifecpaaGreatDoor
end
section
/- Chapter 4, the program: keys among keys, tautologies. -/
namespace Go.Proofs.YtikllmdmifecpaaGreatDoor
open Go.RowKit

set_option maxRecDepth 100000 in
set_option maxHeartbeats 1000000 in
theorem containsK_c (lo : Nat) (v : Value) (ks : List Ky) (key : Ky) (w : World) (hl : ks.length ≤ 1048576) (hv : RowK lo w v ks) :
    Calls Tryz.prog 168 #[v, .agg #[.bool key.1, .string key.2.1, .string key.2.2]] w (RetV w (.bool (ks.any fun y => decide (key = y)))) := by
  have HC := Lib.hid (fun (w' : World) (hb : Bel w w') => indexK_c lo v ks key w' hl (ownsRow_bel hv hb))
  obtain ⟨ad, cap, rfl⟩ := hv.form
  clear hv
  generalize (ks.any fun y => decide (key = y)) = q at *
  go_enter Tryz.func168, Tryz.ntmps168
  go_wp2_with fail
  refine (HC.out _ (Bel.alloc0 _ _)).mono ?_; rintro e w1 ⟨⟨z, rfl, hz, hz1, hz2⟩, hb1⟩
  go_wp2_with fail
  go_ret
  exact ⟨by rw [← hz]; rfl, hb1.of_alloc⟩

set_option maxRecDepth 100000 in
set_option maxHeartbeats 1000000 in
theorem news_key (w : World) (k : Ky) (t : TypeId) (g : Nat) (hg : g = w.heap.size) : ∀ j u, [Value.bool k.1, .string k.2.1, .string k.2.2][j]? = some u → (w.alloc (.cells #[.bool k.1, .string k.2.1, .string k.2.2] t)).cell? ((⟨g, 0, none⟩ : Addr).add j) = some u := by
  subst hg
  intro j u hj
  match j, hj with
  | 0, hj => simp at hj; subst hj; rw [show (⟨w.heap.size, 0, none⟩ : Addr).add 0 = ⟨w.heap.size, 0, none⟩ from rfl, World.cell?_alloc_new w]; rfl
  | 1, hj => simp at hj; subst hj; rw [addr_add, World.cell?_alloc_new w]; rfl
  | 2, hj => simp at hj; subst hj; rw [addr_add, World.cell?_alloc_new w]; rfl
theorem one_key (k : Ky) : ∀ u ∈ [Value.bool k.1, .string k.2.1, .string k.2.2], u.oneCell' = true := by
  intro u hu; simp at hu; rcases hu with rfl | rfl | rfl <;> rfl
theorem Tryz.info183 : (Tryz.prog.info? 183).map (fun i => (i.zero, i.size, i.bytes)) = some (some (.agg #[.bool false, .string ⟨#[]⟩, .string ⟨#[]⟩]), 3, 40) := by kernel_rfl
theorem keyOf_k (l h : Nat) (x : Lt) (u1 u2 : Value) (w : World) (hl : x.2.1.length ≤ 40) (hr : x.2.2.length ≤ 40) (hk : inKeyL x) (h1 : SlI l h w u1 x.2.1) (h2 : SlI l h w u2 x.2.2) :
    Calls Tryz.prog 166 #[.agg #[.bool x.1, u1, u2]] w (RetV w (.agg #[.bool (keyL x).1, .string (keyL x).2.1, .string (keyL x).2.2])) :=
  keyOf_c l h x.1 u1 u2 x.2.1 x.2.2 w hl hr (inKey_get hk.1) (inKey_get hk.2) h1 h2
/-- A tautology, told by the keys. -/
def tautK (ks : List Ky) : Bool := ks.any fun k => (k.1 && decide (k.2.1 = k.2.2)) || ks.any fun y => decide ((!k.1, k.2) = y)

end Go.Proofs.YtikllmdmifecpaaGreatDoor
end
section
/- The laws' helpers over slices of literals: comparisons, marks. -/
namespace Go.Proofs.YtikllmdmifecpaaGreatDoor
open Go.RowKit

set_option maxRecDepth 100000 in
set_option maxHeartbeats 400000 in
theorem eqLitS_same (l h l' h' : Nat) (v u : Value) (c : List Lt) (w : World) (hx : sumC c ≤ 1048576) (hv : SlC l h w v c) (hu : SlC l' h' w u c) :
    Calls Tryz.prog 16 #[v, u] w (RetV w (.bool true)) := by
  obtain ⟨ad, cap, rfl⟩ := hv.form
  obtain ⟨ad', cap', rfl⟩ := hu.form
  obtain ⟨hxl, hmax⟩ := shortC_of_sum hx
  have hl' : ((c.length : Int) != c.length) = false := by simp
  go_enter Tryz.func16, Tryz.ntmps16
  go_wp2_with fail
  go_loopw [5] (fun i wr => ∃ k : Nat, k ≤ c.length ∧ i = .int .i64 k ∧ Bel w wr) (fun i _ => c.length - (intOf i).toNat)
  case atStart => exact ⟨0, Nat.zero_le _, rfl, Bel.rfl' _⟩
  case round =>
    obtain ⟨k, hk, rfl, hb⟩ := hrel
    by_cases hlt : k < c.length
    · obtain ⟨b, off, u1, u2, rfl, -, c1, c2, c3, s1, s2⟩ := hv.at hb k hlt
      obtain ⟨b', off', q1, q2, rfl, -, d1, d2, d3, t1, t2⟩ := hu.at hb k hlt
      obtain ⟨hm1, hm2⟩ := hmax k hlt
      have hin1 : (k : Int) < c.length := by omega
      clear hv hu hmax
      generalize c.getD k lt0 = x at *
      obtain ⟨p, xl, xr⟩ := x
      simp only at *
      have B1 := World.block_lt_of_cell? wr ⟨b, _, none⟩ c1
      have B2 := World.block_lt_of_cell? wr ⟨b', _, none⟩ d1
      have HC := Lib.hid (fun w' (h1 : Bel wr w') => eqLit_same _ _ _ _ p u1 u2 q1 q2 xl xr w' hm1 hm2 (s1.below h1) (s2.below h1) (t1.below h1) (t2.below h1))
      clear s1 s2 t1 t2
      go_wp2_with fail
      go_region_held3 (fun w' => Bel wr w' ∧ (w'.cell? ⟨b, off + k * 3, none⟩ = some (.bool p) ∧ w'.cell? ⟨b, off + k * 3 + 1, none⟩ = some u1 ∧ w'.cell? ⟨b, off + k * 3 + 2, none⟩ = some u2) ∧ (w'.cell? ⟨b', off' + k * 3, none⟩ = some (.bool p) ∧ w'.cell? ⟨b', off' + k * 3 + 1, none⟩ = some q1 ∧ w'.cell? ⟨b', off' + k * 3 + 2, none⟩ = some q2))
        (first | exact ⟨Bel.drew0 _, ⟨c1, c2, c3⟩, d1, d2, d3⟩ | exact ⟨hb2.of_drew, ⟨hb2.at B1 c1, hb2.at B1 c2, hb2.at B1 c3⟩, hb2.at B2 d1, hb2.at B2 d2, hb2.at B2 d3⟩ | fail)
        (first | (go_at_call 61; refine (HC.out _ (Bel.drew0 _)).mono ?_; rintro e w2 ⟨rfl, hb2⟩) | fail)
      go_wp2_with fail
      go_roundw
      case rel => exact ⟨k+1, by omega, by go_num, hb.step hb2.of_drew⟩
      case measure => simp [intOf]; omega
    · go_wp2_with fail
      go_ret
      exact ⟨rfl, hb⟩

theorem Ins.but {lo hi b w w' us xss bs} (h : Ins lo hi b w us xss bs) (hs : ∀ x, x ≠ b → lo ≤ x → x < hi → x < w.heap.size → w'.heap[x]? = w.heap[x]?) : Ins lo hi b w' us xss bs := by
  refine ⟨h.len, h.rng, h.inj, fun j u hj => ?_⟩
  have ho := h.own j u hj
  have hlt : j < xss.length := by rw [← h.len]; exact (List.getElem?_eq_some_iff.1 hj).1
  by_cases hp : 0 < (xss.getD j []).length
  · obtain ⟨a1, a2, a3⟩ := h.rng j hlt hp
    exact ho.same fun x h1 h2 h3 => hs x (by omega) (by omega) (by omega) h3
  · rw [len0 hp] at ho ⊢
    exact ho.empty
structure CRow (lo hi b off : Nat) (w : World) (zs : List LV) (c : List Lt) (bs : Nat → Nat) : Prop where
  hlo : lo ≤ b
  hhi : b < hi
  len : zs.length = c.length
  cell : ∀ j z, zs[j]? = some z → z.1 = (c.getD j lt0).1 ∧ w.cell? ⟨b, off + j * 3, none⟩ = some (.bool z.1) ∧ w.cell? ⟨b, off + j * 3 + 1, none⟩ = some z.2.1 ∧ w.cell? ⟨b, off + j * 3 + 2, none⟩ = some z.2.2
  free : ∀ i, w.frozen? ⟨b, i, none⟩ = false
  ins : Ins lo hi b w (rowsC zs) (flatC c) bs
theorem rowsC_set (zs : List LV) (j : Nat) (z : LV) (p : Bool) (h : zs[j]? = some z) : rowsC (zs.set j (p, z.2)) = rowsC zs := by
  induction zs generalizing j with
  | nil => simp
  | cons x r ih =>
    cases j with
    | zero => simp at h; subst h; rfl
    | succ j => simp only [List.set_cons_succ]; show _ :: _ :: rowsC _ = _ :: _ :: rowsC _; rw [ih j (by simpa using h)]
theorem flatC_set (c : List Lt) (j : Nat) (y : Lt) (h : j < c.length) : flatC (c.set j y) = ((flatC c).set (2 * j) y.2.1).set (2 * j + 1) y.2.2 := by
  induction c generalizing j with
  | nil => simp at h
  | cons x r ih =>
    cases j with
    | zero => rfl
    | succ j =>
      rw [List.set_cons_succ, flatC_cons, flatC_cons, ih j (by simpa using h), show 2 * (j + 1) = (2 * j) + 1 + 1 from by omega]
      simp
theorem CRow.sign {lo hi b off : Nat} {w : World} {zs : List LV} {c : List Lt} {bs : Nat → Nat} (h : CRow lo hi b off w zs c bs) (j : Nat) (z : LV) (hz : zs[j]? = some z) (p : Bool) :
    CRow lo hi b off (w.setCell ⟨b, off + j * 3, none⟩ (.bool p)) (zs.set j (p, z.2)) (c.set j (p, (c.getD j lt0).2)) bs := by
  have hj : j < zs.length := (List.getElem?_eq_some_iff.1 hz).1
  have hjc : j < c.length := by rw [← h.len]; exact hj
  have hflat : flatC (c.set j (p, (c.getD j lt0).2)) = flatC c := by
    rw [flatC_set c j _ hjc]
    have := flatC_get c j
    have hl := flatC_len c
    show ((flatC c).set (2 * j) (c.getD j lt0).2.1).set (2 * j + 1) (c.getD j lt0).2.2 = flatC c
    rw [← this.1, ← this.2]
    apply List.ext_getElem?
    intro i
    simp only [List.getElem?_set]
    split
    · rename_i e; subst e; simp [List.getD, show 2 * j + 1 < (flatC c).length by omega]
    · split
      · rename_i e; subst e; simp [List.getD, show 2 * j < (flatC c).length by omega]
      · rfl
  refine ⟨h.hlo, h.hhi, by simp [h.len], fun i y hy => ?_, fun i => by rw [World.frozen?_setCell]; exact h.free i, ?_⟩
  · rw [List.getElem?_set] at hy
    by_cases e : j = i
    · subst e
      rw [if_pos rfl, if_pos hj] at hy
      obtain rfl : (p, z.2) = y := by simpa using hy
      obtain ⟨_, c1, c2, c3⟩ := h.cell j z hz
      refine ⟨by simp [List.getD, hjc], World.cell?_setCell_same w _ _ c1, ?_, ?_⟩
      · rw [World.cell?_setCell_other (h := by intro h; simp at h <;> omega)]; exact c2
      · rw [World.cell?_setCell_other (h := by intro h; simp at h <;> omega)]; exact c3
    · rw [if_neg e] at hy
      obtain ⟨e1, c1, c2, c3⟩ := h.cell i y hy
      refine ⟨by rw [e1]; simp [List.getD, e], ?_, ?_, ?_⟩
      · rw [World.cell?_setCell_other (h := by intro h; simp at h <;> omega)]; exact c1
      · rw [World.cell?_setCell_other (h := by intro h; simp at h <;> omega)]; exact c2
      · rw [World.cell?_setCell_other (h := by intro h; simp at h <;> omega)]; exact c3
  · rw [rowsC_set zs j z p hz, hflat]
    exact h.ins.but fun x hx _ _ _ => Below.heap_setCell w _ _ x (by simpa using hx)
theorem CRow.terms {lo hi b off : Nat} {w w' : World} {zs : List LV} {c c' : List Lt} {bs : Nat → Nat} (h : CRow lo hi b off w zs c bs) (hb : w'.heap[b]? = w.heap[b]?) (hl : c'.length = c.length) (hp : ∀ j, (c'.getD j lt0).1 = (c.getD j lt0).1) (hi' : Ins lo hi b w' (rowsC zs) (flatC c') bs) :
    CRow lo hi b off w' zs c' bs :=
  ⟨h.hlo, h.hhi, by rw [h.len, hl], fun j z hz => by
    obtain ⟨e1, c1, c2, c3⟩ := h.cell j z hz
    exact ⟨by rw [hp]; exact e1, cell_same (fun _ => hb) c1, cell_same (fun _ => hb) c2, cell_same (fun _ => hb) c3⟩,
   fun i => by rw [World.frozen?_of_block (w := w) (a := ⟨b, i, none⟩) hb]; exact h.free i, hi'⟩
end Go.Proofs.YtikllmdmifecpaaGreatDoor
end
