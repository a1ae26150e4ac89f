/- Texts merged, part 8. -/
import Derived.Test.YtajmjjandkdhiaaDoorMgCompareLits7
section
/- Chapter 4: facts on the answers. No program. -/
namespace Go.Proofs.YtajmjjandkdhiaaDoor
open Go.RowKit

theorem flat_all (ar : List Int) (c : List Lt) : (flatC c).all (okTerm ar) = c.all (okLit ar) := by
  induction c with
  | nil => rfl
  | cons x r ih => rw [flatC_cons]; simp only [List.all_cons, ih, okLit, Bool.and_assoc]
theorem goodTerms_flat (ar : List Int) {c : List Lt} (h : c.length ≤ 8) : goodTerms ar (flatC c) 16 = goodClause ar c := by
  unfold goodTerms goodClause okLits
  rw [flat_all, flatC_len, decide_eq_true (show 2 * c.length ≤ 16 by omega), decide_eq_true h, Bool.and_true, Bool.true_and]
theorem goodClause_long (ar : List Int) {c : List Lt} (h : ¬ c.length ≤ 8) : goodClause ar c = false := by
  unfold goodClause okLits
  rw [decide_eq_false h]; simp
theorem flat_mem {c : List Lt} {t : List Int} (h : t ∈ flatC c) : ∃ x ∈ c, t = x.2.1 ∨ t = x.2.2 := by
  unfold flatC at h
  obtain ⟨x, hx, ht⟩ := List.mem_flatMap.1 h
  exact ⟨x, hx, by simpa using ht⟩
theorem flat_ok {ar : List Int} {c : List Lt} (h : ∀ x ∈ c, okLit ar x = true) {t : List Int} (ht : t ∈ flatC c) : okTerm ar t = true := by
  obtain ⟨x, hx, e⟩ := flat_mem ht
  have := okLit_iff.1 (h x hx)
  rcases e with rfl | rfl
  · exact this.1
  · exact this.2
theorem mem_getD {α : Type} (l : List α) (d : α) (j : Nat) (h : j < l.length) : l.getD j d ∈ l := by
  rw [List.getD_eq_getElem?_getD, List.getElem?_eq_getElem h]; exact List.getElem_mem h
theorem ok_litC {ar : List Int} {c : List Lt} (h : goodClause ar c = true) {j : Nat} (hj : j < c.length) : okTerm ar (c.getD j lt0).2.1 = true ∧ okTerm ar (c.getD j lt0).2.2 = true :=
  okLits_get (goodClause_iff.1 h).2.2 j hj

theorem low_memC {t : List Int} (h : ∀ n ∈ t, -12 ≤ n) : ∀ k, k < t.length → -12 ≤ t.getD k 0 := fun k hk => h _ (mem_getD t 0 k hk)
theorem ok_low {ar t : List Int} (h : okTerm ar t = true) {n : Int} (hn : n ∈ t) : -12 ≤ n := by
  obtain ⟨k, hk, rfl⟩ := List.getElem_of_mem hn
  have := good_sym ar t h k hk
  simp [okSym, inB, hk] at this
  exact this.1
theorem flat_low {ar : List Int} {c : List Lt} (h : goodClause ar c = true) : ∀ k, k < (flatC c).flatten.length → -12 ≤ (flatC c).flatten.getD k 0 := by
  refine low_memC fun n hn => ?_
  obtain ⟨t, ht, hnt⟩ := List.mem_flatten.1 hn
  exact ok_low (flat_ok (goodClause_iff.1 h).2.2 ht) hnt

/-- The signs of c, those terms. -/
theorem zipC_len (c : List Lt) : ∀ ts : List (List Int), ts.length = 2 * c.length → (zipC c ts).length = c.length := by
  induction c with
  | nil => intro ts _; rfl
  | cons x c ih =>
    intro ts h
    match ts, h with
    | l :: r :: ts, h => simp [zipC, ih ts (by simp at h; omega)]
theorem zipC_flat (c : List Lt) : ∀ ts : List (List Int), ts.length = 2 * c.length → flatC (zipC c ts) = ts := by
  induction c with
  | nil => intro ts h; simp at h; subst h; rfl
  | cons x c ih =>
    intro ts h
    match ts, h with
    | l :: r :: ts, h => simp only [zipC, flatC_cons]; rw [ih ts (by simp at h; omega)]
theorem zipC_signs (c : List Lt) : ∀ ts : List (List Int), ts.length = 2 * c.length → (zipC c ts).map (·.1) = c.map (·.1) := by
  induction c with
  | nil => intro ts _; rfl
  | cons x c ih =>
    intro ts h
    match ts, h with
    | l :: r :: ts, h => simp [zipC, ih ts (by simp at h; omega)]
theorem zipC_get (c : List Lt) : ∀ (ts : List (List Int)) (j : Nat), ts.length = 2 * c.length → j < c.length → (zipC c ts).getD j lt0 = ((c.getD j lt0).1, ts.getD (2*j) [], ts.getD (2*j+1) []) := by
  induction c with
  | nil => intro ts j _ h; simp at h
  | cons x c ih =>
    intro ts j h hj
    match ts, h with
    | l :: r :: ts, h =>
      cases j with
      | zero => simp [zipC]
      | succ j =>
        have := ih ts j (by simp at h; omega) (by simpa using hj)
        simpa [zipC, show 2 * (j + 1) = 2 * j + 1 + 1 from by omega] using this
theorem zipC_map (f : List Int → List Int) (c : List Lt) : zipC c ((flatC c).map f) = c.map fun x => (x.1, f x.2.1, f x.2.2) := by
  induction c with
  | nil => rfl
  | cons x c ih => rw [flatC_cons]; simp [zipC, ih]

def varsInAns (ar : List Int) (c : List Lt) : List Int := if goodClause ar c then natsI (varsTo (mk (flatC c).flatten) 12) else []
theorem varsInAns_len (ar : List Int) (c : List Lt) : (varsInAns ar c).length ≤ 1048576 := by
  unfold varsInAns
  split
  · rw [natsI_len]; exact Nat.le_trans (varsTo_len _ _) (by omega)
  · exact Nat.zero_le _

def applyC (b : List (List Int)) (c : List Lt) : List Lt := c.map fun x => (x.1, appT b x.2.1, appT b x.2.2)
def applyCok (ar : List Int) (b : List (List Int)) (c : List Lt) : Bool := (goodSubst ar b && okLits ar c) && okLits ar (applyC b c)
def applyCAns (ar : List Int) (b : List (List Int)) (c : List Lt) : List Lt := if applyCok ar b c then applyC b c else []
theorem applyC_flat (b : List (List Int)) (c : List Lt) : flatC (applyC b c) = (flatC c).map (appT b) := by
  induction c with
  | nil => rfl
  | cons x c ih => rw [flatC_cons, show applyC b (x :: c) = (x.1, appT b x.2.1, appT b x.2.2) :: applyC b c from rfl, flatC_cons, ih]; rfl
theorem applyC_ok {ar : List Int} {b : List (List Int)} {c : List Lt} (hb : goodSubst ar b = true) (hc : okLits ar c = true) : okLits ar (applyC b c) = (flatC c).all (app40ok b) := by
  obtain ⟨hl, h⟩ := okLits_iff.1 hc
  unfold okLits
  rw [← flat_all, applyC_flat, show (applyC b c).length = c.length from by simp [applyC], decide_eq_true hl, Bool.true_and, List.all_map]
  rw [Bool.eq_iff_iff, List.all_eq_true, List.all_eq_true]
  constructor
  · intro k t ht
    rw [← app_ok hb (flat_ok h ht)]; exact k t ht
  · intro k t ht
    show okTerm ar (appT b t) = true
    rw [app_ok hb (flat_ok h ht)]; exact k t ht

def renC (c : List Lt) : List Lt := zipC c (renS [] (flatC c))
def renCAns (ar : List Int) (c : List Lt) : List Lt := if goodClause ar c then renC c else []
end Go.Proofs.YtajmjjandkdhiaaDoor
end
section
/- The laws' helpers over literals and slices of literals, by contracts: sizes and copies. -/
namespace Go.Proofs.YtajmjjandkdhiaaDoor
open Go.RowKit

set_option maxRecDepth 100000 in
set_option maxHeartbeats 400000 in
theorem szLit_c (l h : Nat) (p : Bool) (u1 u2 : Value) (xl xr : List Int) (left : Int) (w : World) (hl : xl.length ≤ 9223372036854775807) (hr : xr.length ≤ 9223372036854775807) (h0 : 0 ≤ left) (h1 : left ≤ 1048576) (hv1 : SlI l h w u1 xl) (hv2 : SlI l h w u2 xr) :
    Calls Tryd.prog 6 #[.agg #[.bool p, u1, u2], .int .i64 left] w (RetV w (.int .i64 (szI (xl.length + xr.length) left))) := by
  have HB := Bel.alloc0 w (.cells #[.bool p, u1, u2] 26)
  by_cases hs : left - xl.length < 0
  · have E : Hid (szI (xl.length + xr.length) left = -1) := by show szI _ _ = _; unfold szI; rw [if_pos (by omega)]
    have e1 : szI xl.length left = -1 := by unfold szI; rw [if_pos hs]
    have HC := Lib.hid (szIntS_c l h u1 xl left _ hl h0 h1 (hv1.below HB))
    rw [e1] at HC
    clear hv1 hv2 hs e1
    go_enter Tryd.func6, Tryd.ntmps6
    go_wp2_with (go_at_call 23; refine HC.out.mono ?_; rintro e w' ⟨rfl, hb1⟩)
    go_ret
    exact ⟨by rw [E.out]; rfl, HB.step hb1⟩
  · have e1 : szI xl.length left = left - xl.length := by unfold szI; rw [if_neg hs]
    have HC := Lib.hid (szIntS_c l h u1 xl left _ hl h0 h1 (hv1.below HB))
    rw [e1] at HC
    have hz0 : 0 ≤ left - (xl.length : Int) := by omega
    have hz1 : left - (xl.length : Int) ≤ 1048576 := by omega
    by_cases hs2 : left - xl.length - xr.length < 0
    · have E : Hid (szI (xl.length + xr.length) left = -1) := by show szI _ _ = _; unfold szI; rw [if_pos (by omega)]
      have e2 : szI xr.length (left - xl.length) = -1 := by unfold szI; rw [if_pos hs2]
      have HD := Lib.hid (fun (w' : World) (hb : Bel (w.alloc (.cells #[.bool p, u1, u2] 26)) w') => szIntS_c l h u2 xr (left - xl.length) w' hr hz0 hz1 ((hv2.below HB).below hb))
      rw [e2] at HD
      clear hv1 hv2 hs e1 hs2 e2
      generalize left - (xl.length : Int) = z at *
      go_enter Tryd.func6, Tryd.ntmps6
      go_wp2_with fail
      refine HC.out.mono ?_; rintro e w1 ⟨rfl, hb1⟩
      have hbx := hb1.at (b := w.heap.size) (off := 2) (by simp) (show (w.alloc (.cells #[.bool p, u1, u2] 26)).cell? ⟨w.heap.size, 2, none⟩ = some u2 by simp)
      go_wp2_with fail
      refine (HD.out _ hb1).mono ?_; rintro e w2 ⟨rfl, hb2⟩
      go_wp2_with fail
      go_ret
      exact ⟨by rw [E.out]; rfl, (HB.step hb1).step hb2⟩
    · have E : Hid (szI (xl.length + xr.length) left = left - xl.length - xr.length) := by show szI _ _ = _; unfold szI; rw [if_neg (by omega)]; omega
      have e2 : szI xr.length (left - xl.length) = left - xl.length - xr.length := by unfold szI; rw [if_neg hs2]
      have HD := Lib.hid (fun (w' : World) (hb : Bel (w.alloc (.cells #[.bool p, u1, u2] 26)) w') => szIntS_c l h u2 xr (left - xl.length) w' hr hz0 hz1 ((hv2.below HB).below hb))
      rw [e2] at HD
      have hy0 : 0 ≤ left - (xl.length : Int) - xr.length := by omega
      clear hv1 hv2 hs e1 hs2 e2
      generalize left - (xl.length : Int) - (xr.length : Int) = y at *
      generalize left - (xl.length : Int) = z at *
      go_enter Tryd.func6, Tryd.ntmps6
      go_wp2_with fail
      refine HC.out.mono ?_; rintro e w1 ⟨rfl, hb1⟩
      have hbx := hb1.at (b := w.heap.size) (off := 2) (by simp) (show (w.alloc (.cells #[.bool p, u1, u2] 26)).cell? ⟨w.heap.size, 2, none⟩ = some u2 by simp)
      go_wp2_with fail
      refine (HD.out _ hb1).mono ?_; rintro e w2 ⟨rfl, hb2⟩
      go_wp2_with fail
      go_ret
      exact ⟨by rw [E.out]; rfl, (HB.step hb1).step hb2⟩

def szC (c : List Lt) (left : Int) : Int := if left - (sumC c : Nat) < 0 then -1 else left - (sumC c : Nat)
def lenC (c : List Lt) : Nat := sumL (flatC c)
theorem sumC_eq (c : List Lt) : sumC c = c.length + lenC c := by
  unfold lenC
  induction c with
  | nil => rfl
  | cons x r ih => rw [flatC_cons]; simp only [sumC, sumL, List.map_cons, List.sum_cons, List.length_cons, wC] at *; omega
theorem lenC_take (c : List Lt) (k : Nat) (h : k < c.length) : lenC (c.take (k+1)) = lenC (c.take k) + ((c.getD k lt0).2.1.length + (c.getD k lt0).2.2.length) := by
  have h1 := sumC_take c k h
  rw [sumC_eq, sumC_eq] at h1
  have e1 : (c.take (k+1)).length = k + 1 := by rw [List.length_take]; omega
  have e2 : (c.take k).length = k := by rw [List.length_take]; omega
  unfold wC at h1
  omega
theorem lenC_all (c : List Lt) (k : Nat) (h : ¬ k < c.length) : lenC (c.take k) = lenC c := by rw [List.take_of_length_le (by omega)]
theorem lenC_get (c : List Lt) (k : Nat) (h : k < c.length) : lenC (c.take k) + ((c.getD k lt0).2.1.length + (c.getD k lt0).2.2.length) ≤ lenC c := by
  rw [← lenC_take c k h]
  conv => rhs; rw [← List.take_append_drop (k+1) c]
  unfold lenC
  rw [flatC_app]; unfold sumL; rw [List.map_append, List.sum_append]; omega
theorem SlC.max {lo hi w v c} (h : SlC lo hi w v c) : c.length ≤ 9223372036854775807 ∧ ∀ j, j < c.length → (c.getD j lt0).2.1.length ≤ 9223372036854775807 ∧ (c.getD j lt0).2.2.length ≤ 9223372036854775807 := by
  obtain ⟨ad, cap, e, hc, hm, hr⟩ := h
  have hml : maxLen = 9223372036854775807 := rfl
  refine ⟨by omega, fun j hj => ?_⟩
  obtain ⟨b, off, _, _, _, hx⟩ := hr (by omega)
  obtain ⟨u1, u2, _, _, _, ⟨ad2, cap2, _, hc2, hm2, _⟩, ⟨ad3, cap3, _, hc3, hm3, _⟩⟩ := hx j hj
  omega

set_option maxRecDepth 100000 in
set_option maxHeartbeats 400000 in
theorem szLitS_c (l h : Nat) (v : Value) (c : List Lt) (left : Int) (w : World) (h0 : 0 ≤ left) (h1 : left ≤ 1048576) (hv : SlC l h w v c) :
    Calls Tryd.prog 13 #[v, .int .i64 left] w (RetV w (.int .i64 (szC c left))) := by
  obtain ⟨ad, cap, rfl⟩ := hv.form
  obtain ⟨hx, hmax⟩ := hv.max
  have hse := sumC_eq c
  by_cases hs : left - c.length < 0
  · have E : Hid (szC c left = -1) := by show szC _ _ = _; unfold szC; rw [if_pos (by omega)]
    go_enter Tryd.func13, Tryd.ntmps13
    go_wp2_with fail
    go_ret
    exact ⟨by rw [E.out]; rfl, Bel.rfl' _⟩
  · have hw1 := IntWalk.i64_in (left - c.length) (by omega)
    go_enter Tryd.func13, Tryd.ntmps13
    go_wp2_with fail
    go_loopw [1, 5] (fun m i wr => ∃ (k : Nat) (z : Int), k ≤ c.length ∧ i = .int .i64 k ∧ m = .int .i64 z ∧ 0 ≤ z ∧ z = left - c.length - (lenC (c.take k) : Nat) ∧ Bel w wr) (fun _ i _ => c.length - (intOf i).toNat)
    case atStart => exact ⟨0, _, Nat.zero_le _, rfl, by go_num, by omega, by simp [lenC, flatC, sumL], Bel.rfl' _⟩
    case round =>
      obtain ⟨k, z, hk, rfl, rfl, hz0, hz, hb⟩ := hrel
      by_cases hlt : k < c.length
      · obtain ⟨b, off, u1, u2, rfl, -, c1, c2, c3, s1, s2⟩ := hv.at hb k hlt
        obtain ⟨hm1, hm2⟩ := hmax k hlt
        have hst := lenC_take c k hlt
        have hsl := lenC_get c k hlt
        have hcall := szLit_c l h (c.getD k lt0).1 u1 u2 (c.getD k lt0).2.1 (c.getD k lt0).2.2 z wr hm1 hm2 hz0 (by omega) s1 s2
        have hin0 : (0 : Int) ≤ k := by omega
        have hin1 : (k : Int) < c.length := by omega
        generalize hp : (c.getD k lt0).1 = p at *
        generalize hxl : (c.getD k lt0).2.1 = xl at *
        generalize hxr : (c.getD k lt0).2.2 = xr at *
        by_cases hneg : z - (xl.length + xr.length : Int) < 0
        · have e1 : szI (xl.length + xr.length) z = -1 := by unfold szI; rw [if_pos hneg]
          have E : Hid (szC c left = -1) := by show szC _ _ = _; unfold szC; rw [if_pos (by omega)]
          rw [e1] at hcall
          have HC := Lib.hid hcall
          clear hcall hv s1 s2 hmax hst hsl e1 hneg hz hse hxl hxr hp
          go_wp2_with (go_at_call 6; refine HC.out.mono ?_; rintro e w' ⟨rfl, hb1⟩)
          go_ret
          exact ⟨by rw [E.out]; rfl, hb.step hb1⟩
        · have e1 : szI (xl.length + xr.length) z = z - (xl.length + xr.length) := by unfold szI; rw [if_neg hneg]
          have hz' : z - ((xl.length : Int) + xr.length) = left - c.length - (lenC (c.take (k+1)) : Nat) := by omega
          rw [e1] at hcall
          have HC := Lib.hid hcall
          have HZ := Lib.hid hz'
          have hz2 : 0 ≤ z - ((xl.length : Int) + xr.length) := by omega
          clear hcall hv s1 s2 hmax hst hsl e1 hneg hz hz' hse hxl hxr hp
          generalize z - ((xl.length : Int) + xr.length) = z2 at *
          go_wp2_with (go_at_call 6; refine HC.out.mono ?_; rintro e w' ⟨rfl, hb1⟩)
          go_roundw
          case rel => exact ⟨k+1, z2, by omega, by go_num, rfl, hz2, HZ.out, hb.step hb1⟩
          case measure => simp [intOf]; omega
      · have E : Hid (szC c left = z) := by
          show szC _ _ = _
          rw [lenC_all c k hlt] at hz
          unfold szC; rw [if_neg (by omega)]; omega
        clear hz
        go_wp2_with fail
        go_ret
        exact ⟨by rw [E.out]; rfl, hb⟩
end Go.Proofs.YtajmjjandkdhiaaDoor
end
section
/- Chapter 4, the program: GoodClause, WeightOf. -/
namespace Go.Proofs.YtajmjjandkdhiaaDoor
open Go.RowKit

theorem short_flat {c : List Lt} (h : sumC c ≤ 1048576) : sumL (flatC c) ≤ 1048576 ∧ ∀ j, j < (flatC c).length → ((flatC c).getD j []).length ≤ 1048576 := by
  have h1 : sumL (flatC c) ≤ 1048576 := by have := sumC_eq c; unfold lenC at this; omega
  exact ⟨h1, fun j hj => by have := sumL_get (flatC c) j hj; omega⟩
theorem short_flat8 {c : List Lt} (h : sumC c ≤ 1048576) (h8 : c.length ≤ 8) : short (flatC c) := ⟨by rw [flatC_len]; omega, (short_flat h).2⟩

theorem short_flat8s {c : List Lt} (h : shortC c) (h8 : c.length ≤ 8) : short (flatC c) := by
  refine ⟨by rw [flatC_len]; omega, fun j hj => ?_⟩
  obtain ⟨x, hx, e⟩ := flat_mem (mem_getD (flatC c) [] j hj)
  obtain ⟨i, hi, rfl⟩ := List.getElem_of_mem hx
  have := h.2 i hi
  rw [show c.getD i lt0 = c[i] from by simp [List.getD, hi]] at this
  rcases e with e | e <;> rw [e]
  · exact this.1
  · exact this.2

set_option maxRecDepth 100000 in
set_option maxHeartbeats 400000 in
theorem iGoodClause_sh {l h l' h' : Nat} {v u : Value} {ar : List Int} {c : List Lt} {w : World} (ha : ar.length ≤ 1048576) (hv : SlI l h w v ar) (hc : shortC c) (hu : SlC l' h' w u c) :
    Calls Tryd.prog 29 #[.agg #[v], u] w (RetV w (.bool (goodClause ar c))) := by
  obtain ⟨ad, cap, rfl⟩ := hu.form
  have hle := hc.1
  by_cases h8 : c.length ≤ 8
  · have hd : decide ((c.length : Int) ≤ 8) = true := by rw [decide_eq_true]; omega
    have HE := Lib.hid (goodTerms_flat ar h8)
    have hsh := short_flat8s hc h8
    have HT := Lib.hid (fun (w' : World) (hb : Bel w w') => termsIn_c l' h' _ c w' (by omega) (hu.below hb))
    have HD := Lib.hid (fun (w' : World) (x : Value) (hb : Bel w w') (hx : SlS 0 w'.heap.size w' x (flatC c)) => goodTerms_c l h _ _ v x ar (flatC c) 16 w' (by omega) ha (hv.below hb) hsh hx)
    rw [HE.out] at HD
    clear hsh hle hu hv HE h8
    have HB0 : Bel w (w.alloc (.cells #[v] 31)).drew := (Bel.alloc0 _ _).drew
    have hbox0 : (w.alloc (.cells #[v] 31)).drew.cell? ⟨w.heap.size, 0, none⟩ = some v := boxc ((Bel.rfl' _).drew) 0 _ rfl
    go_enter Tryd.func29, Tryd.ntmps29
    go_wp2_with fail
    go_region_held3 (fun w' => Bel w w' ∧ w'.cell? ⟨w.heap.size, 0, none⟩ = some v)
      (first | exact ⟨HB2, hbox2⟩ | exact ⟨HB1, hbox1⟩ | exact ⟨HB0, hbox0⟩ | fail)
      (first | (go_at_call 39; refine (HD.out _ _ HB1 hrow).mono ?_; rintro e w2 ⟨rfl, hb2⟩; have HB2 := HB1.step hb2; have hbox2 := hb2.at (World.block_lt_of_cell? _ ⟨_, _, none⟩ hbox1) hbox1) | (go_at_call 40; refine (HT.out _ HB0).mono ?_; rintro e w1 ⟨ad1, n1, c1, rfl, hrw, hb1⟩; have HB1 := HB0.step hb1; have hbox1 := hb1.at (World.block_lt_of_cell? _ ⟨_, _, none⟩ hbox0) hbox0; have hrow := hrw.sls hb1) | fail)
    go_wp2_with fail
    go_ret
    exact ⟨rfl, HB2⟩
  · have hd : decide ((c.length : Int) ≤ 8) = false := by rw [decide_eq_false]; omega
    have E := Lib.hid (goodClause_long ar h8)
    clear h8
    go_enter Tryd.func29, Tryd.ntmps29
    go_wp2_with fail
    have hbox0 : (w.alloc (.cells #[v] 31)).drew.cell? ⟨w.heap.size, 0, none⟩ = some v := boxc ((Bel.rfl' _).drew) 0 _ rfl
    go_region
    all_goals
      go_wp2_with fail
      go_ret
      exact ⟨by rw [E.out]; rfl, (Bel.alloc0 _ _).drew⟩
theorem iGoodClause_t {l h l' h' : Nat} {v u : Value} {ar : List Int} {c : List Lt} {w : World} (ha : ar.length ≤ 1048576) (hv : SlI l h w v ar) (hc : sumC c ≤ 1048576) (hu : SlC l' h' w u c) :
    Calls Tryd.prog 29 #[.agg #[v], u] w (RetV w (.bool (goodClause ar c))) := iGoodClause_sh ha hv (shortC_of_sum hc) hu
theorem iGoodClause_v {l h l' h' : Nat} {v u : Value} {ar : List Int} {c : List Lt} {w : World} {q : Bool} (he : goodClause ar c = q) (ha : ar.length ≤ 1048576) (hv : SlI l h w v ar) (hc : sumC c ≤ 1048576) (hu : SlC l' h' w u c) :
    Calls Tryd.prog 29 #[.agg #[v], u] w (RetV w (.bool q)) := by subst he; exact iGoodClause_t ha hv hc hu

end Go.Proofs.YtajmjjandkdhiaaDoor
end
section
/- Chapter 4: the lists that stand for literals, both sides. -/
namespace Go.Proofs.YtajmjjandkdhiaaDoor
open Go.RowKit

theorem lit_row {base e size : Nat} (w : World) (cs : Array Value) (n g : Nat) (hg : g = w.heap.size) (hb : base ≤ w.heap.size) (hm : n ≤ maxLen) (hs : cs.size = n * size) : (w.alloc (.cells cs e)).ownsRow base e size (.slice (some ⟨g, 0, none⟩) n n) n cs.toList := by subst hg; exact World.ownsRow_lit w cs n hb hm hs
theorem els_two {W : World} {z1 z2 : SV} {a b : List Int} (h1 : SlI 0 W.heap.size W (encS z1) a) (h2 : SlI 0 W.heap.size W (encS z2) b) : Els W [z1, z2] [a, b] := (((Els.nil W).snoc h1).snoc h2)
theorem els_four {W : World} {z1 z2 : SV} {a b : List Int} (h1 : SlI 0 W.heap.size W (encS z1) a) (h2 : SlI 0 W.heap.size W (encS z2) b) : Els W [z1, z2, z1, z2] [a, b, a, b] := (((((Els.nil W).snoc h1).snoc h2).snoc h1).snoc h2)
theorem listL_low {ar : List Int} {x : Lt} (h : okLit ar x = true) : ∀ t ∈ listL x, okTerm ar t = true := by
  obtain ⟨h1, h2⟩ := okLit_iff.1 h
  intro t ht
  unfold listL at ht
  split at ht <;> simp at ht
  · rcases ht with rfl | rfl <;> assumption
  · rcases ht with rfl | rfl | rfl | rfl <;> assumption
theorem listL_len (x : Lt) : (listL x).length ≤ 4 := by unfold listL; split <;> simp

set_option maxRecDepth 100000 in
set_option maxHeartbeats 1000000 in
theorem countedTerms_c (l h : Nat) (x : Lt) (u1 u2 : Value) (w : World) (h1 : SlI l h w u1 x.2.1) (h2 : SlI l h w u2 x.2.2) :
    Calls Tryd.prog 42 #[.agg #[.bool x.1, u1, u2]] w (RetRow w (listL x)) := by
  obtain ⟨p, xl, xr⟩ := x
  simp only at *
  obtain ⟨a1, d1, rfl⟩ := h1.form
  obtain ⟨a2, d2, rfl⟩ := h2.form
  have s1 := Lib.hid h1.in'
  have s2 := Lib.hid h2.in'
  clear h1 h2
  cases p with
  | true =>
    show Calls _ _ _ _ (RetRow w [xl, xr])
    go_enter Tryd.func42, Tryd.ntmps42
    go_wp2_with fail
    go_ret
    exact ⟨_, _, _, rfl, ⟨[(a1, xl.length, d1), (a2, xr.length, d2)], lit_row _ #[.slice a1 xl.length d1, .slice a2 xr.length d2] 2 _ (by simp) (by simp) (by unfold maxLen; omega) rfl, els_two s1.out s2.out⟩, Bel.alloc2 _ _ _⟩
  | false =>
    show Calls _ _ _ _ (RetRow w [xl, xr, xl, xr])
    go_enter Tryd.func42, Tryd.ntmps42
    go_wp2_with fail
    go_ret
    exact ⟨_, _, _, rfl, ⟨[(a1, xl.length, d1), (a2, xr.length, d2), (a1, xl.length, d1), (a2, xr.length, d2)], lit_row _ #[.slice a1 xl.length d1, .slice a2 xr.length d2, .slice a1 xl.length d1, .slice a2 xr.length d2] 4 _ (by simp) (by simp) (by unfold maxLen; omega) rfl, els_four s1.out s2.out⟩, Bel.alloc2 _ _ _⟩

set_option maxRecDepth 100000 in
set_option maxHeartbeats 1000000 in
theorem l4List_c (l h : Nat) (x : Lt) (u1 u2 : Value) (w : World) (h1 : SlI l h w u1 x.2.1) (h2 : SlI l h w u2 x.2.2) :
    Calls Tryd.prog 27 #[.agg #[.bool x.1, u1, u2]] w (RetRow w (listL x)) := by
  obtain ⟨p, xl, xr⟩ := x
  simp only at *
  obtain ⟨a1, d1, rfl⟩ := h1.form
  obtain ⟨a2, d2, rfl⟩ := h2.form
  have s1 := Lib.hid h1.in'
  have s2 := Lib.hid h2.in'
  clear h1 h2
  cases p with
  | true =>
    show Calls _ _ _ _ (RetRow w [xl, xr])
    go_enter Tryd.func27, Tryd.ntmps27
    go_wp2_with fail
    go_ret
    exact ⟨_, _, _, rfl, ⟨[(a1, xl.length, d1), (a2, xr.length, d2)], lit_row _ #[.slice a1 xl.length d1, .slice a2 xr.length d2] 2 _ (by simp) (by simp) (by unfold maxLen; omega) rfl, els_two s1.out s2.out⟩, Bel.alloc2 _ _ _⟩
  | false =>
    show Calls _ _ _ _ (RetRow w [xl, xr, xl, xr])
    go_enter Tryd.func27, Tryd.ntmps27
    go_wp2_with fail
    go_ret
    exact ⟨_, _, _, rfl, ⟨[(a1, xl.length, d1), (a2, xr.length, d2), (a1, xl.length, d1), (a2, xr.length, d2)], lit_row _ #[.slice a1 xl.length d1, .slice a2 xr.length d2, .slice a1 xl.length d1, .slice a2 xr.length d2] 4 _ (by simp) (by simp) (by unfold maxLen; omega) rfl, els_four s1.out s2.out⟩, Bel.alloc2 _ _ _⟩
end Go.Proofs.YtajmjjandkdhiaaDoor
end
section
/- Chapter 4, the reference: literals and clauses that are valid, weights. -/
namespace Go.Proofs.YtajmjjandkdhiaaDoor
open Go.RowKit

set_option maxRecDepth 100000 in
set_option maxHeartbeats 400000 in
theorem l4Lit_c (l h l' h' : Nat) (v u1 u2 : Value) (ar xl xr : List Int) (p : Bool) (w : World) (hg : goodSign ar = true) (hl : xl.length ≤ 1048576) (hr : xr.length ≤ 1048576) (hv : SlI l h w v ar) (h1 : SlI l' h' w u1 xl) (h2 : SlI l' h' w u2 xr) :
    Calls Tryd.prog 25 #[.agg #[v], .agg #[.bool p, u1, u2]] w (RetV w (.bool (okTerm ar xl && okTerm ar xr))) := by
  have HB : Bel w ((w.alloc (.cells #[v] 31)).alloc (.cells #[.bool p, u1, u2] 33)) := Bel.alloc2 _ _ _
  cases e1 : okTerm ar xl with
  | false =>
    have HC := Lib.hid (fun (w' : World) (hb : Bel w w') => l1Term_v l h l' h' v u1 ar xl false w' e1 hg hl (hv.below hb) (h1.below hb))
    clear hv h1 h2 e1
    go_enter Tryd.func25, Tryd.ntmps25
    go_wp2_with fail
    refine (HC.out _ HB).mono ?_; rintro e w1 ⟨rfl, hb1⟩
    go_wp2_with fail
    go_ret
    exact ⟨rfl, HB.step hb1⟩
  | true =>
    rw [Bool.true_and]
    have HC := Lib.hid (fun (w' : World) (hb : Bel w w') => l1Term_v l h l' h' v u1 ar xl true w' e1 hg hl (hv.below hb) (h1.below hb))
    have HD := Lib.hid (fun (w' : World) (hb : Bel w w') => l1Term_c l h l' h' v u2 ar xr w' hg hr (hv.below hb) (h2.below hb))
    clear hv h1 h2 e1
    go_enter Tryd.func25, Tryd.ntmps25
    go_wp2_with fail
    refine (HC.out _ HB).mono ?_; rintro e w1 ⟨rfl, hb1⟩
    have k0 := hb1.at (b := w.heap.size) (off := 0) (by simp; omega) (show World.cell? _ _ = some v by simp [go_sem])
    have k2 := hb1.at (b := w.heap.size + 1) (off := 2) (by simp) (show World.cell? _ _ = some u2 by simp [go_sem])
    go_wp2_with fail
    refine (HD.out _ (HB.step hb1)).mono ?_; rintro e w2 ⟨rfl, hb2⟩
    go_wp2_with fail
    go_ret
    exact ⟨rfl, (HB.step hb1).step hb2⟩
end Go.Proofs.YtajmjjandkdhiaaDoor
end
section
/- Chapter 4, the reference: valid clauses, weights. -/
namespace Go.Proofs.YtajmjjandkdhiaaDoor
open Go.RowKit

theorem okTerm_len {ar t : List Int} (h : okTerm ar t = true) : 1 ≤ t.length ∧ t.length ≤ 40 := ⟨((okTerm_iff ar t).1 h).1, ((okTerm_iff ar t).1 h).2.1⟩
theorem l4Lit_v (l h l' h' : Nat) (v u1 u2 : Value) (ar xl xr : List Int) (p q : Bool) (w : World) (hq : (okTerm ar xl && okTerm ar xr) = q) (hg : goodSign ar = true) (hl : xl.length ≤ 1048576) (hr : xr.length ≤ 1048576) (hv : SlI l h w v ar) (h1 : SlI l' h' w u1 xl) (h2 : SlI l' h' w u2 xr) :
    Calls Tryd.prog 25 #[.agg #[v], .agg #[.bool p, u1, u2]] w (RetV w (.bool q)) := by subst hq; exact l4Lit_c l h l' h' v u1 u2 ar xl xr p w hg hl hr hv h1 h2

set_option maxRecDepth 100000 in
set_option maxHeartbeats 400000 in
theorem l4Clause_c (l h l' h' : Nat) (v u : Value) (ar : List Int) (c : List Lt) (w : World) (hg : goodSign ar = true) (hx : shortC c) (hv : SlI l h w v ar) (hu : SlC l' h' w u c) :
    Calls Tryd.prog 43 #[.agg #[v], u] w (RetV w (.bool (okLits ar c))) := by
  obtain ⟨ad, cap, rfl⟩ := hu.form
  obtain ⟨hxl, hxj⟩ := hx
  go_enter Tryd.func43, Tryd.ntmps43
  go_wp2_with fail
  go_loopw [9] (fun i wr => ∃ k : Nat, k ≤ c.length ∧ i = .int .i64 k ∧ okTo ar c k ∧ Bel (w.alloc (.cells #[v] 31)) wr) (fun i _ => c.length - (intOf i).toNat)
  case atStart => exact ⟨0, Nat.zero_le _, rfl, fun j hj => absurd hj (by omega), Bel.rfl' _⟩
  case round =>
    obtain ⟨k, hk, rfl, hto, hb⟩ := hrel
    have hbox := boxc hb 0 _ rfl
    by_cases hlt : k < c.length
    · obtain ⟨b, off, u1, u2, rfl, hbs, c1, c2, c3, s1, s2⟩ := hu.at hb.of_alloc k hlt
      obtain ⟨hm1, hm2⟩ := hxj k hlt
      have hstep := hto.step (k := k)
      have hbad := okLits_bad (ar := ar) hlt
      have hin1 : (k : Int) < c.length := by omega
      have hvr := hv.below hb.of_alloc
      clear hu hv hxj hto
      unfold okLit at hstep hbad
      generalize c.getD k lt0 = x at *
      obtain ⟨p, xl, xr⟩ := x
      simp only at *
      obtain ⟨a1, d1, rfl⟩ := s1.form
      obtain ⟨a2, d2, rfl⟩ := s2.form
      have hbox2 := boxc (hb.alloc (.cells #[.bool p, .slice a1 xl.length d1, .slice a2 xr.length d2] 33)) 0 _ rfl
      cases hq : (okTerm ar xl && okTerm ar xr) with
      | false =>
        have E := Lib.hid (hbad hq)
        have HQ := Lib.hid hq
        clear hstep hbad hq
        go_wp2_with fail
        refine (l4Lit_v l h l' h' v _ _ ar xl xr p false _ HQ.out hg hm1 hm2 (hvr.alloc _) (s1.alloc _) (s2.alloc _)).mono ?_; rintro e w1 ⟨rfl, hb1⟩
        go_wp2_with fail
        go_ret
        exact ⟨by rw [E.out]; rfl, hb.of_alloc.step ((Bel.alloc0 _ _).step hb1)⟩
      | true =>
        have E := Lib.hid (hstep hq)
        have HQ := Lib.hid hq
        clear hstep hbad hq
        go_wp2_with fail
        refine (l4Lit_v l h l' h' v _ _ ar xl xr p true _ HQ.out hg hm1 hm2 (hvr.alloc _) (s1.alloc _) (s2.alloc _)).mono ?_; rintro e w1 ⟨rfl, hb1⟩
        go_wp2_with fail
        go_roundw
        case rel => exact ⟨k+1, by omega, by go_num, E.out, hb.step ((Bel.alloc0 _ _).step hb1)⟩
        case measure => simp [intOf]; omega
    · obtain rfl : k = c.length := by omega
      have E := Lib.hid hto.done
      have hd : decide ((c.length : Int) ≤ 8) = decide (c.length ≤ 8) := by rw [decide_eq_decide]; omega
      go_wp2_with fail
      go_ret
      exact ⟨by rw [E.out, ← hd]; rfl, hb.of_alloc⟩

end Go.Proofs.YtajmjjandkdhiaaDoor
end
section
/- Chapter 4, the reference: GoodClause, WeightOf. -/
namespace Go.Proofs.YtajmjjandkdhiaaDoor
open Go.RowKit

set_option maxRecDepth 100000 in
set_option maxHeartbeats 400000 in
theorem sGoodClause_t {l h l' h' : Nat} {v u : Value} {ar : List Int} {c : List Lt} {w : World} (ha : ar.length ≤ 1048576) (hv : SlI l h w v ar) (hc : sumC c ≤ 1048576) (hu : SlC l' h' w u c) :
    Calls Tryd.prog 31 #[.agg #[v], u] w (RetV w (.bool (goodClause ar c))) := by
  unfold goodClause
  cases hg : goodSign ar with
  | false =>
    rw [Bool.false_and]
    have HG := Lib.hid hg; clear hg
    go_enter Tryd.func31, Tryd.ntmps31
    go_wp2_with fail
    refine (sGoodSign_v _ _ _ _ _ _ HG.out ha (hv.alloc _)).mono ?_; rintro e w1 ⟨rfl, hb1⟩
    go_wp2_with fail
    go_ret
    exact ⟨rfl, hb1.of_alloc⟩
  | true =>
    rw [Bool.true_and]
    have HG := Lib.hid hg
    have HC := Lib.hid (fun (w' : World) (hb : Bel w w') => l4Clause_c l h l' h' v u ar c w' hg (shortC_of_sum hc) (hv.below hb) (hu.below hb))
    clear hg hc
    go_enter Tryd.func31, Tryd.ntmps31
    go_wp2_with fail
    refine (sGoodSign_v _ _ _ _ _ _ HG.out ha (hv.alloc _)).mono ?_; rintro e w1 ⟨rfl, hb1⟩
    have hbox := boxc hb1 0 _ rfl
    go_wp2_with fail
    refine (HC.out _ hb1.of_alloc).mono ?_; rintro e w2 ⟨rfl, hb2⟩
    go_wp2_with fail
    go_ret
    exact ⟨rfl, hb1.of_alloc.step hb2⟩
theorem sGoodClause_v {l h l' h' : Nat} {v u : Value} {ar : List Int} {c : List Lt} {w : World} {q : Bool} (he : goodClause ar c = q) (ha : ar.length ≤ 1048576) (hv : SlI l h w v ar) (hc : sumC c ≤ 1048576) (hu : SlC l' h' w u c) :
    Calls Tryd.prog 31 #[.agg #[v], u] w (RetV w (.bool q)) := by subst he; exact sGoodClause_t ha hv hc hu

end Go.Proofs.YtajmjjandkdhiaaDoor
end
section
/- The ordering of two terms: the program's and the reference's inner functions. -/
namespace Go.Proofs.YtajmjjandkdhiaaDoor
open Go.RowKit

/-- The table of weights: both are one. -/
def Tab (w : World) : Prop := w.cell? ⟨0, 0, none⟩ = some (.int .i64 1) ∧ w.cell? ⟨0, 1, none⟩ = some (.int .i64 1)
theorem Tab.bel {w w' : World} (h : Tab w) (hb : Bel w w') : Tab w' := ⟨hb.at (World.block_lt_of_cell? _ ⟨_, _, none⟩ h.1) h.1, hb.at (World.block_lt_of_cell? _ ⟨_, _, none⟩ h.2) h.2⟩
theorem Tab.k {w : World} (h : Tab w) : K Tab w := fun _ hb => h.bel hb

theorem weightOf_c (l h : Nat) (v : Value) (t : List Int) (w : World) (hT : Tab w) (ht : t.length ≤ 1048576) (hv : SlI l h w v t) :
    Calls Tryd.prog 65 #[v] w (RetV w (.int .i64 (t.length : Int))) := by
  obtain ⟨ad, cap, rfl, -, -, hr⟩ := hv
  obtain ⟨hT0, hT1⟩ := hT
  go_enter Tryd.func65, Tryd.ntmps65
  go_wp2_with fail
  go_loop [3, 8] (fun m i => ∃ k : Nat, k ≤ t.length ∧ i = .int .i64 k ∧ m = .int .i64 k) (fun _ i => t.length - (intOf i).toNat)
  case atStart => exact ⟨0, Nat.zero_le _, rfl, rfl⟩
  case round =>
    obtain ⟨k, hk, rfl, rfl⟩ := hrel
    by_cases hlt : k < t.length
    · obtain ⟨b, off, rfl, -, hcell⟩ := rd hr (Bel.rfl' w) k hlt
      clear hr
      generalize t.getD k 0 = x at *
      by_cases hx : x < 0
      · have hx' : decide (x < 0) = true := by simpa using hx
        go_wp2_with fail
        go_round
        case rel => exact ⟨k+1, by omega, by go_num, by go_num⟩
        case measure => simp [intOf]; omega
      · have hx' : decide (x < 0) = false := by simpa using hx
        go_wp2_with fail
        go_round
        case rel => exact ⟨k+1, by omega, by go_num, by go_num⟩
        case measure => simp [intOf]; omega
    · obtain rfl : k = t.length := by omega
      go_wp2_with fail
      go_ret
      exact ⟨rfl, Bel.rfl' _⟩

/-- All variables have numbers up to eleven. -/
def lowT (t : List Int) : Prop := ∀ k, k < t.length → -12 ≤ t.getD k 0
theorem lowT.mem {t : List Int} (h : lowT t) {n : Int} (hn : n ∈ t) : -12 ≤ n := by
  obtain ⟨i, hi, e⟩ := List.getElem_of_mem hn
  have := h i hi
  simpa [List.getD, hi, e] using this
theorem cntf_neg {t : List Int} {k : Nat} (hk : k < t.length) (hx : t.getD k 0 < 0) :
    (fun i : Nat => if i = (-1 - t.getD k 0).toNat then (cntI (t.take k) (t.getD k 0) : Int) + 1 else (cntI (t.take k) (-1 - (i : Int)) : Int)) = fun i : Nat => (cntI (t.take (k+1)) (-1 - (i : Int)) : Int) := by
  funext i
  by_cases e : i = (-1 - t.getD k 0).toNat
  · have e2 : -1 - (i : Int) = t.getD k 0 := by omega
    rw [if_pos e, e2, cntI_yes t _ k hk rfl]; omega
  · have e2 : t.getD k 0 ≠ -1 - (i : Int) := by omega
    rw [if_neg e, cntI_no t _ k hk e2]
theorem cntf_sym {t : List Int} {k : Nat} (hk : k < t.length) (hx : ¬ t.getD k 0 < 0) (i : Nat) : cntI (t.take (k+1)) (-1 - (i : Int)) = cntI (t.take k) (-1 - (i : Int)) :=
  cntI_no t _ k hk (by omega)
theorem cntd_neg {t : List Int} {k : Nat} (g : Int → Int) (hk : k < t.length) (hx : t.getD k 0 < 0) :
    (fun i : Nat => if i = (-1 - t.getD k 0).toNat then g (t.getD k 0) - (cntI (t.take k) (t.getD k 0) : Int) - 1 else g (-1 - (i : Int)) - (cntI (t.take k) (-1 - (i : Int)) : Int)) = fun i : Nat => g (-1 - (i : Int)) - (cntI (t.take (k+1)) (-1 - (i : Int)) : Int) := by
  funext i
  by_cases e : i = (-1 - t.getD k 0).toNat
  · have e2 : -1 - (i : Int) = t.getD k 0 := by omega
    rw [if_pos e, e2, cntI_yes t _ k hk rfl]; omega
  · have e2 : t.getD k 0 ≠ -1 - (i : Int) := by omega
    rw [if_neg e, cntI_no t _ k hk e2]
theorem cntI_take (t : List Int) (k : Nat) (n : Int) : cntI (t.take k) n ≤ cntI t n := by
  rw [cntI_count, cntI_count]
  exact (List.take_sublist k t).count_le n
theorem covers_no {a b : List Int} {k : Nat} (hk : k < b.length) (hx : b.getD k 0 < 0) (h : cntI a (b.getD k 0) < cntI (b.take k) (b.getD k 0) + 1) : covers a b = false := by
  rw [Bool.eq_false_iff]; intro hc
  have h1 := covers_iff.1 hc _ hx
  have h2 := cntI_take b (k+1) (b.getD k 0)
  rw [cntI_yes b _ k hk rfl] at h2
  rw [← cntI_count, ← cntI_count] at h1
  omega
def SoFar (a b : List Int) (k : Nat) : Prop := ∀ n, n < 0 → cntI (b.take k) n ≤ cntI a n
theorem SoFar.neg {a b : List Int} {k : Nat} (h : SoFar a b k) (hk : k < b.length) (hx : ¬ cntI a (b.getD k 0) < cntI (b.take k) (b.getD k 0) + 1) : SoFar a b (k+1) := fun n hn => by
  by_cases e : b.getD k 0 = n
  · rw [cntI_yes b n k hk e]; rw [e] at hx; omega
  · rw [cntI_no b n k hk e]; exact h n hn
theorem SoFar.sym {a b : List Int} {k : Nat} (h : SoFar a b k) (hk : k < b.length) (hx : ¬ b.getD k 0 < 0) : SoFar a b (k+1) := fun n hn => by
  rw [cntI_no b n k hk (by omega)]; exact h n hn
theorem SoFar.done {a b : List Int} {k : Nat} (h : SoFar a b k) (hk : ¬ k < b.length) : covers a b = true := covers_iff.2 fun n hn => by
  have := h n hn
  rw [List.take_of_length_le (by omega), cntI_count, cntI_count] at this
  exact this

set_option maxRecDepth 100000 in
set_option maxHeartbeats 400000 in
theorem coversVars_c (l h l' h' : Nat) (v u : Value) (a b : List Int) (w : World) (ha : a.length ≤ 1048576) (hb : b.length ≤ 1048576) (hla : lowT a) (hlb : lowT b) (hv : SlI l h w v a) (hu : SlI l' h' w u b) :
    Calls Tryd.prog 64 #[v, u] w (RetV w (.bool (covers a b))) := by
  obtain ⟨ad, cap, rfl, -, -, hr⟩ := hv
  obtain ⟨ad', cap', rfl, -, -, hr'⟩ := hu
  go_enter Tryd.func64, Tryd.ntmps64
  go_wp2_with fail
  go_loopw [12] (fun i wr => ∃ k : Nat, k ≤ a.length ∧ i = .int .i64 k ∧ BlkN wr w.heap.size 79 (fun i : Nat => (cntI (a.take k) (-1 - (i : Int)) : Int)) ∧ Bel w wr) (fun i _ => a.length - (intOf i).toNat)
  case atStart => exact ⟨0, Nat.zero_le _, rfl, by exact heap_alloc_new w _, Bel.alloc0 _ _⟩
  case round =>
    obtain ⟨k, hk, rfl, hN, hb1⟩ := hrel
    by_cases hlt : k < a.length
    · obtain ⟨b0, off, rfl, -, hcell⟩ := rd hr hb1 k hlt
      have hlow := hla k hlt
      have E1 := Lib.hid (cntf_neg hlt)
      have E2 := Lib.hid (cntf_sym hlt)
      have hc0 : cntI (a.take k) (a.getD k 0) ≤ 1048576 := Nat.le_trans (cntI_take a k _) (Nat.le_trans (cntI_le a _) ha)
      clear hr hr'
      generalize a.getD k 0 = x at *
      by_cases hx : x < 0
      · have hx' : decide (x < 0) = true := by simpa using hx
        have hm12 : (-1 - x).toNat < 12 := by omega
        have hi0 : 0 ≤ -1 - x := by omega
        have hi1 : -1 - x < 12 := by omega
        have hcN := hN.cell _ hm12
        have hfN := hN.free (-1 - x).toNat
        have e3 : -1 - (((-1 - x).toNat : Nat) : Int) = x := by omega
        simp only [e3] at hcN
        have E := Lib.hid (E1.out hx)
        clear E1 E2
        generalize hq : cntI (a.take k) x = c at *
        have HN := Lib.hid (hN.set _ hm12 ((c : Int) + 1))
        clear hN
        go_wp2_with fail
        go_roundw
        case rel => exact ⟨k+1, by omega, by go_num, by rw [← E.out]; exact HN.out, hb1.setCell (p := ⟨w.heap.size, (-1 - x).toNat, none⟩) (Nat.le_refl _) _⟩
        case measure => simp [intOf]; omega
      · have hx' : decide (x < 0) = false := by simpa using hx
        have E := Lib.hid (E2.out hx)
        clear E1 E2
        go_wp2_with fail
        go_roundw
        case rel => exact ⟨k+1, by omega, by go_num, by simp only [E.out]; exact hN, hb1⟩
        case measure => simp [intOf]; omega
    · rw [List.take_of_length_le (show a.length ≤ k by omega)] at hN
      go_wp2_with fail
      go_loopw [27] (fun i wr => ∃ k : Nat, k ≤ b.length ∧ i = .int .i64 k ∧ SoFar a b k ∧ BlkN wr w.heap.size 79 (fun i : Nat => (cntI a (-1 - (i : Int)) : Int) - (cntI (b.take k) (-1 - (i : Int)) : Int)) ∧ Bel w wr) (fun i _ => b.length - (intOf i).toNat)
      case atStart => exact ⟨0, Nat.zero_le _, rfl, fun n _ => by simp [cntI], by simpa [cntI] using hN, hb1⟩
      case round =>
        clear hN hb1
        obtain ⟨j, hj, rfl, hS, hN, hb2⟩ := hrel
        by_cases hlt2 : j < b.length
        · obtain ⟨b0, off, rfl, -, hcell⟩ := rd hr' hb2 j hlt2
          have hlow := hlb j hlt2
          have E1 := Lib.hid (cntd_neg (t := b) (fun n => (cntI a n : Int)) hlt2)
          have E2 := Lib.hid (cntf_sym hlt2)
          have E3 := Lib.hid (covers_no (a := a) hlt2)
          have E4 := Lib.hid (hS.neg hlt2)
          have E5 := Lib.hid (hS.sym hlt2)
          have hc0 : cntI (b.take j) (b.getD j 0) ≤ 1048576 := Nat.le_trans (cntI_take b j _) (Nat.le_trans (cntI_le b _) hb)
          have hc1 : cntI a (b.getD j 0) ≤ 1048576 := by have := cntI_le a (b.getD j 0); omega
          clear hr hr' hS
          generalize b.getD j 0 = x at *
          by_cases hx : x < 0
          · have hx' : decide (x ≥ 0) = false := by simp; omega
            have hm12 : (-1 - x).toNat < 12 := by omega
            have hi0 : 0 ≤ -1 - x := by omega
            have hi1 : -1 - x < 12 := by omega
            have hcN := hN.cell _ hm12
            have hfN := hN.free (-1 - x).toNat
            have e3 : -1 - (((-1 - x).toNat : Nat) : Int) = x := by omega
            simp only [e3] at hcN
            have E := Lib.hid (E1.out hx)
            clear E1 E2 E5
            generalize hq : cntI (b.take j) x = c at *
            generalize hq2 : cntI a x = d at *
            have hw1 := IntWalk.i64_in ((d : Int) - c - 1) (by omega)
            have hN2 := hN.set _ hm12 ((d : Int) - c - 1)
            have hcN2 := hN2.cell _ hm12
            simp only [if_true] at hcN2
            have HN := Lib.hid hN2
            clear hN hN2
            by_cases hdc : d < c + 1
            · have e1 := Lib.hid (E3.out hx hdc)
              have hd : decide ((d : Int) - c - 1 < 0) = true := by simp; omega
              clear E3 E4 E
              go_wp2_with fail
              go_ret
              exact ⟨by rw [e1.out]; rfl, hb2.setCell (p := ⟨w.heap.size, (-1 - x).toNat, none⟩) (Nat.le_refl _) _⟩
            · have e1 := Lib.hid (E4.out hdc)
              have hd : decide ((d : Int) - c - 1 < 0) = false := by simp; omega
              clear E3 E4
              go_wp2_with fail
              go_roundw
              case rel => exact ⟨j+1, by omega, by go_num, e1.out, by rw [← E.out]; exact HN.out, hb2.setCell (p := ⟨w.heap.size, (-1 - x).toNat, none⟩) (Nat.le_refl _) _⟩
              case measure => simp [intOf]; omega
          · have hx' : decide (x ≥ 0) = true := by simp; omega
            have E := Lib.hid (E2.out hx)
            have e1 := Lib.hid (E5.out hx)
            clear E1 E2 E3 E4 E5
            go_wp2_with fail
            go_roundw
            case rel => exact ⟨j+1, by omega, by go_num, e1.out, by simp only [E.out]; exact hN, hb2⟩
            case measure => simp [intOf]; omega
        · have e1 := Lib.hid (hS.done hlt2)
          clear hS
          go_wp2_with fail
          go_ret
          exact ⟨by rw [e1.out]; rfl, hb2⟩
theorem coversVars_v (l h l' h' : Nat) (v u : Value) (a b : List Int) (q : Bool) (w : World) (he : covers a b = q) (ha : a.length ≤ 1048576) (hb : b.length ≤ 1048576) (hla : lowT a) (hlb : lowT b) (hv : SlI l h w v a) (hu : SlI l' h' w u b) :
    Calls Tryd.prog 64 #[v, u] w (RetV w (.bool q)) := he ▸ coversVars_c l h l' h' v u a b w ha hb hla hlb hv hu

theorem winF_at {a b : List Int} {k : Nat} (h : a.take k = b.take k) (ha : k < a.length) (hb : k < b.length) (hne : a.getD k 0 ≠ b.getD k 0) : winF a b = (decide (0 ≤ b.getD k 0) && decide (b.getD k 0 < a.getD k 0)) := by
  have e1 : a = a.take k ++ a.getD k 0 :: a.drop (k+1) := by simp [List.getD, ha]
  have e2 : b = b.take k ++ b.getD k 0 :: b.drop (k+1) := by simp [List.getD, hb]
  generalize a.getD k 0 = x at *
  generalize b.getD k 0 = y at *
  rw [e1, e2, h, winF_left]
  simp [winF, hne]

set_option maxRecDepth 100000 in
set_option maxHeartbeats 400000 in
theorem winsFirst_c (l h l' h' : Nat) (v u : Value) (xs ys : List Int) (w : World) (hl : xs.length = ys.length) (hx : xs.length ≤ 1048576) (hv : SlI l h w v xs) (hu : SlI l' h' w u ys) :
    Calls Tryd.prog 66 #[v, u] w (RetV w (.bool (winF xs ys))) := by
  obtain ⟨ad, cap, rfl, -, -, hr⟩ := hv
  obtain ⟨ad', cap', rfl, -, -, hr'⟩ := hu
  have HL := Lib.hid hl
  clear hl
  go_enter Tryd.func66, Tryd.ntmps66
  go_wp2_with fail
  go_loopw [8] (fun i wr => ∃ k : Nat, k ≤ xs.length ∧ i = .int .i64 k ∧ xs.take k = ys.take k ∧ Bel w wr) (fun i _ => xs.length - (intOf i).toNat)
  case atStart => exact ⟨0, Nat.zero_le _, rfl, rfl, Bel.rfl' _⟩
  case round =>
    obtain ⟨k, hk, rfl, ha, hb⟩ := hrel
    by_cases hlt : k < xs.length
    · have hlt2 : k < ys.length := by rw [← HL.out]; exact hlt
      obtain ⟨b, off, rfl, -, hcell⟩ := rd hr hb k hlt
      obtain ⟨b', off', rfl, -, hcell'⟩ := rd hr' hb k hlt2
      have E1 := Lib.hid (take_eq_succ xs ys k hlt hlt2 ha)
      have E2 := Lib.hid (winF_at ha hlt hlt2)
      clear hr hr' ha
      generalize xs.getD k 0 = x at *
      generalize ys.getD k 0 = y at *
      by_cases hxy : x = y
      · have E3 := Lib.hid (E1.out hxy)
        clear E1 E2
        subst hxy
        go_wp2_with fail
        go_quiet (fail)
        go_wp2
        go_roundw
        case rel => exact ⟨k+1, by omega, by go_num, E3.out, hb.drewN _⟩
        case measure => simp [intOf]; omega
      · have e1 := Lib.hid (E2.out hxy)
        have hxy' : (x != y) = true := by simpa using hxy
        clear hxy E1 E2
        by_cases h0 : 0 ≤ y
        · by_cases h1 : y < x
          · have d0 : decide (y ≥ 0) = true := by simpa using h0
            have d1 : decide (x > y) = true := by simpa using h1
            have e2 : Hid (winF xs ys = true) := by show _ = _; rw [e1.out]; simp [h0, h1]
            clear e1
            go_wp2_with fail
            go_quiet (fail)
            go_wp2
            go_quiet (fail)
            go_wp2
            go_ret
            exact ⟨by rw [e2.out]; rfl, (hb.drewN _).drewN _⟩
          · have d0 : decide (y ≥ 0) = true := by simpa using h0
            have d1 : decide (x > y) = false := by simp; omega
            have e2 : Hid (winF xs ys = false) := by show _ = _; rw [e1.out]; simp [h1]
            clear e1
            go_wp2_with fail
            go_quiet (fail)
            go_wp2
            go_quiet (fail)
            go_wp2
            go_ret
            exact ⟨by rw [e2.out]; rfl, (hb.drewN _).drewN _⟩
        · have d0 : decide (y ≥ 0) = false := by simp; omega
          have e2 : Hid (winF xs ys = false) := by show _ = _; rw [e1.out]; simp [h0]
          clear e1
          go_wp2_with fail
          go_quiet (fail)
          go_wp2
          go_quiet (fail)
          go_wp2
          go_ret
          exact ⟨by rw [e2.out]; rfl, (hb.drewN _).drewN _⟩
    · have e1 : Hid (winF xs ys = false) := by
        show _ = _
        rw [List.take_of_length_le (by omega), List.take_of_length_le (by rw [← HL.out]; omega)] at ha
        rw [ha, winF_irrefl]
      clear ha
      go_wp2_with fail
      go_ret
      exact ⟨by rw [e1.out]; rfl, hb⟩
end Go.Proofs.YtajmjjandkdhiaaDoor
end
