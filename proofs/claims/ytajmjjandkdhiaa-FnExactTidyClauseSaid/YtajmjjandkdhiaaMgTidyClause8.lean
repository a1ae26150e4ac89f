/- Texts merged, part 8. -/
import Derived.Lib.MinMaxS
import Derived.Laws.BytesString
import Derived.Test.YtajmjjandkdhiaaMgTidyClause7
section
/- Chapter 4: facts on the answers. No program. -/
namespace Go.Proofs.Ytajmjjandkdhiaa
open Go.RowKit

theorem flat_all (ar : List Int) (c : List Lt) : (flatC c).all (okTerm ar) = c.all (okLit ar) := by
  induction c with
  | nil => rfl
  | cons x r ih => rw [flatC_cons]; simp only [List.all_cons, ih, okLit, Bool.and_assoc]
theorem goodTerms_flat (ar : List Int) {c : List Lt} (h : c.length ≤ 8) : goodTerms ar (flatC c) 16 = goodClause ar c := by
  unfold goodTerms goodClause okLits
  rw [flat_all, flatC_len, decide_eq_true (show 2 * c.length ≤ 16 by omega), decide_eq_true h, Bool.and_true, Bool.true_and]
theorem goodClause_long (ar : List Int) {c : List Lt} (h : ¬ c.length ≤ 8) : goodClause ar c = false := by
  unfold goodClause okLits
  rw [decide_eq_false h]; simp
theorem flat_mem {c : List Lt} {t : List Int} (h : t ∈ flatC c) : ∃ x ∈ c, t = x.2.1 ∨ t = x.2.2 := by
  unfold flatC at h
  obtain ⟨x, hx, ht⟩ := List.mem_flatMap.1 h
  exact ⟨x, hx, by simpa using ht⟩
theorem flat_ok {ar : List Int} {c : List Lt} (h : ∀ x ∈ c, okLit ar x = true) {t : List Int} (ht : t ∈ flatC c) : okTerm ar t = true := by
  obtain ⟨x, hx, e⟩ := flat_mem ht
  have := okLit_iff.1 (h x hx)
  rcases e with rfl | rfl
  · exact this.1
  · exact this.2
theorem mem_getD {α : Type} (l : List α) (d : α) (j : Nat) (h : j < l.length) : l.getD j d ∈ l := by
  rw [List.getD_eq_getElem?_getD, List.getElem?_eq_getElem h]; exact List.getElem_mem h
theorem ok_litC {ar : List Int} {c : List Lt} (h : goodClause ar c = true) {j : Nat} (hj : j < c.length) : okTerm ar (c.getD j lt0).2.1 = true ∧ okTerm ar (c.getD j lt0).2.2 = true :=
  okLits_get (goodClause_iff.1 h).2.2 j hj

theorem low_memC {t : List Int} (h : ∀ n ∈ t, -12 ≤ n) : ∀ k, k < t.length → -12 ≤ t.getD k 0 := fun k hk => h _ (mem_getD t 0 k hk)
theorem ok_low {ar t : List Int} (h : okTerm ar t = true) {n : Int} (hn : n ∈ t) : -12 ≤ n := by
  obtain ⟨k, hk, rfl⟩ := List.getElem_of_mem hn
  have := good_sym ar t h k hk
  simp [okSym, inB, hk] at this
  exact this.1
theorem flat_low {ar : List Int} {c : List Lt} (h : goodClause ar c = true) : ∀ k, k < (flatC c).flatten.length → -12 ≤ (flatC c).flatten.getD k 0 := by
  refine low_memC fun n hn => ?_
  obtain ⟨t, ht, hnt⟩ := List.mem_flatten.1 hn
  exact ok_low (flat_ok (goodClause_iff.1 h).2.2 ht) hnt

/-- The signs of c, those terms. -/
theorem zipC_len (c : List Lt) : ∀ ts : List (List Int), ts.length = 2 * c.length → (zipC c ts).length = c.length := by
  induction c with
  | nil => intro ts _; rfl
  | cons x c ih =>
    intro ts h
    match ts, h with
    | l :: r :: ts, h => simp [zipC, ih ts (by simp at h; omega)]
theorem zipC_flat (c : List Lt) : ∀ ts : List (List Int), ts.length = 2 * c.length → flatC (zipC c ts) = ts := by
  induction c with
  | nil => intro ts h; simp at h; subst h; rfl
  | cons x c ih =>
    intro ts h
    match ts, h with
    | l :: r :: ts, h => simp only [zipC, flatC_cons]; rw [ih ts (by simp at h; omega)]
theorem zipC_signs (c : List Lt) : ∀ ts : List (List Int), ts.length = 2 * c.length → (zipC c ts).map (·.1) = c.map (·.1) := by
  induction c with
  | nil => intro ts _; rfl
  | cons x c ih =>
    intro ts h
    match ts, h with
    | l :: r :: ts, h => simp [zipC, ih ts (by simp at h; omega)]
theorem zipC_get (c : List Lt) : ∀ (ts : List (List Int)) (j : Nat), ts.length = 2 * c.length → j < c.length → (zipC c ts).getD j lt0 = ((c.getD j lt0).1, ts.getD (2*j) [], ts.getD (2*j+1) []) := by
  induction c with
  | nil => intro ts j _ h; simp at h
  | cons x c ih =>
    intro ts j h hj
    match ts, h with
    | l :: r :: ts, h =>
      cases j with
      | zero => simp [zipC]
      | succ j =>
        have := ih ts j (by simp at h; omega) (by simpa using hj)
        simpa [zipC, show 2 * (j + 1) = 2 * j + 1 + 1 from by omega] using this
theorem zipC_map (f : List Int → List Int) (c : List Lt) : zipC c ((flatC c).map f) = c.map fun x => (x.1, f x.2.1, f x.2.2) := by
  induction c with
  | nil => rfl
  | cons x c ih => rw [flatC_cons]; simp [zipC, ih]

def varsInAns (ar : List Int) (c : List Lt) : List Int := if goodClause ar c then natsI (varsTo (mk (flatC c).flatten) 12) else []
theorem varsInAns_len (ar : List Int) (c : List Lt) : (varsInAns ar c).length ≤ 1048576 := by
  unfold varsInAns
  split
  · rw [natsI_len]; exact Nat.le_trans (varsTo_len _ _) (by omega)
  · exact Nat.zero_le _

def applyC (b : List (List Int)) (c : List Lt) : List Lt := c.map fun x => (x.1, appT b x.2.1, appT b x.2.2)
def applyCok (ar : List Int) (b : List (List Int)) (c : List Lt) : Bool := (goodSubst ar b && okLits ar c) && okLits ar (applyC b c)
def applyCAns (ar : List Int) (b : List (List Int)) (c : List Lt) : List Lt := if applyCok ar b c then applyC b c else []
theorem applyC_flat (b : List (List Int)) (c : List Lt) : flatC (applyC b c) = (flatC c).map (appT b) := by
  induction c with
  | nil => rfl
  | cons x c ih => rw [flatC_cons, show applyC b (x :: c) = (x.1, appT b x.2.1, appT b x.2.2) :: applyC b c from rfl, flatC_cons, ih]; rfl
theorem applyC_ok {ar : List Int} {b : List (List Int)} {c : List Lt} (hb : goodSubst ar b = true) (hc : okLits ar c = true) : okLits ar (applyC b c) = (flatC c).all (app40ok b) := by
  obtain ⟨hl, h⟩ := okLits_iff.1 hc
  unfold okLits
  rw [← flat_all, applyC_flat, show (applyC b c).length = c.length from by simp [applyC], decide_eq_true hl, Bool.true_and, List.all_map]
  rw [Bool.eq_iff_iff, List.all_eq_true, List.all_eq_true]
  constructor
  · intro k t ht
    rw [← app_ok hb (flat_ok h ht)]; exact k t ht
  · intro k t ht
    show okTerm ar (appT b t) = true
    rw [app_ok hb (flat_ok h ht)]; exact k t ht

def renC (c : List Lt) : List Lt := zipC c (renS [] (flatC c))
def renCAns (ar : List Int) (c : List Lt) : List Lt := if goodClause ar c then renC c else []
end Go.Proofs.Ytajmjjandkdhiaa
end
section
/- The laws' helpers over literals and slices of literals, by contracts: sizes and copies. -/
namespace Go.Proofs.Ytajmjjandkdhiaa
open Go.RowKit

set_option maxRecDepth 100000 in
set_option maxHeartbeats 400000 in
theorem szLit_c (l h : Nat) (p : Bool) (u1 u2 : Value) (xl xr : List Int) (left : Int) (w : World) (hl : xl.length ≤ 9223372036854775807) (hr : xr.length ≤ 9223372036854775807) (h0 : 0 ≤ left) (h1 : left ≤ 1048576) (hv1 : SlI l h w u1 xl) (hv2 : SlI l h w u2 xr) :
    Calls Try.prog 65 #[.agg #[.bool p, u1, u2], .int .i64 left] w (RetV w (.int .i64 (szI (xl.length + xr.length) left))) := by
  have HB := Bel.alloc0 w (.cells #[.bool p, u1, u2] 78)
  by_cases hs : left - xl.length < 0
  · have E : Hid (szI (xl.length + xr.length) left = -1) := by show szI _ _ = _; unfold szI; rw [if_pos (by omega)]
    have e1 : szI xl.length left = -1 := by unfold szI; rw [if_pos hs]
    have HC := Lib.hid (szIntS_c l h u1 xl left _ hl h0 h1 (hv1.below HB))
    rw [e1] at HC
    clear hv1 hv2 hs e1
    go_enter Try.func65, Try.ntmps65
    go_wp2_with (go_at_call 64; refine HC.out.mono ?_; rintro e w' ⟨rfl, hb1⟩)
    go_ret
    exact ⟨by rw [E.out]; rfl, HB.step hb1⟩
  · have e1 : szI xl.length left = left - xl.length := by unfold szI; rw [if_neg hs]
    have HC := Lib.hid (szIntS_c l h u1 xl left _ hl h0 h1 (hv1.below HB))
    rw [e1] at HC
    have hz0 : 0 ≤ left - (xl.length : Int) := by omega
    have hz1 : left - (xl.length : Int) ≤ 1048576 := by omega
    by_cases hs2 : left - xl.length - xr.length < 0
    · have E : Hid (szI (xl.length + xr.length) left = -1) := by show szI _ _ = _; unfold szI; rw [if_pos (by omega)]
      have e2 : szI xr.length (left - xl.length) = -1 := by unfold szI; rw [if_pos hs2]
      have HD := Lib.hid (fun (w' : World) (hb : Bel (w.alloc (.cells #[.bool p, u1, u2] 78)) w') => szIntS_c l h u2 xr (left - xl.length) w' hr hz0 hz1 ((hv2.below HB).below hb))
      rw [e2] at HD
      clear hv1 hv2 hs e1 hs2 e2
      generalize left - (xl.length : Int) = z at *
      go_enter Try.func65, Try.ntmps65
      go_wp2_with fail
      refine HC.out.mono ?_; rintro e w1 ⟨rfl, hb1⟩
      have hbx := hb1.at (b := w.heap.size) (off := 2) (by simp) (show (w.alloc (.cells #[.bool p, u1, u2] 78)).cell? ⟨w.heap.size, 2, none⟩ = some u2 by simp)
      go_wp2_with fail
      refine (HD.out _ hb1).mono ?_; rintro e w2 ⟨rfl, hb2⟩
      go_wp2_with fail
      go_ret
      exact ⟨by rw [E.out]; rfl, (HB.step hb1).step hb2⟩
    · have E : Hid (szI (xl.length + xr.length) left = left - xl.length - xr.length) := by show szI _ _ = _; unfold szI; rw [if_neg (by omega)]; omega
      have e2 : szI xr.length (left - xl.length) = left - xl.length - xr.length := by unfold szI; rw [if_neg hs2]
      have HD := Lib.hid (fun (w' : World) (hb : Bel (w.alloc (.cells #[.bool p, u1, u2] 78)) w') => szIntS_c l h u2 xr (left - xl.length) w' hr hz0 hz1 ((hv2.below HB).below hb))
      rw [e2] at HD
      have hy0 : 0 ≤ left - (xl.length : Int) - xr.length := by omega
      clear hv1 hv2 hs e1 hs2 e2
      generalize left - (xl.length : Int) - (xr.length : Int) = y at *
      generalize left - (xl.length : Int) = z at *
      go_enter Try.func65, Try.ntmps65
      go_wp2_with fail
      refine HC.out.mono ?_; rintro e w1 ⟨rfl, hb1⟩
      have hbx := hb1.at (b := w.heap.size) (off := 2) (by simp) (show (w.alloc (.cells #[.bool p, u1, u2] 78)).cell? ⟨w.heap.size, 2, none⟩ = some u2 by simp)
      go_wp2_with fail
      refine (HD.out _ hb1).mono ?_; rintro e w2 ⟨rfl, hb2⟩
      go_wp2_with fail
      go_ret
      exact ⟨by rw [E.out]; rfl, (HB.step hb1).step hb2⟩

def szC (c : List Lt) (left : Int) : Int := if left - (sumC c : Nat) < 0 then -1 else left - (sumC c : Nat)
def lenC (c : List Lt) : Nat := sumL (flatC c)
theorem sumC_eq (c : List Lt) : sumC c = c.length + lenC c := by
  unfold lenC
  induction c with
  | nil => rfl
  | cons x r ih => rw [flatC_cons]; simp only [sumC, sumL, List.map_cons, List.sum_cons, List.length_cons, wC] at *; omega
theorem lenC_take (c : List Lt) (k : Nat) (h : k < c.length) : lenC (c.take (k+1)) = lenC (c.take k) + ((c.getD k lt0).2.1.length + (c.getD k lt0).2.2.length) := by
  have h1 := sumC_take c k h
  rw [sumC_eq, sumC_eq] at h1
  have e1 : (c.take (k+1)).length = k + 1 := by rw [List.length_take]; omega
  have e2 : (c.take k).length = k := by rw [List.length_take]; omega
  unfold wC at h1
  omega
theorem lenC_all (c : List Lt) (k : Nat) (h : ¬ k < c.length) : lenC (c.take k) = lenC c := by rw [List.take_of_length_le (by omega)]
theorem lenC_get (c : List Lt) (k : Nat) (h : k < c.length) : lenC (c.take k) + ((c.getD k lt0).2.1.length + (c.getD k lt0).2.2.length) ≤ lenC c := by
  rw [← lenC_take c k h]
  conv => rhs; rw [← List.take_append_drop (k+1) c]
  unfold lenC
  rw [flatC_app]; unfold sumL; rw [List.map_append, List.sum_append]; omega
theorem SlC.max {lo hi w v c} (h : SlC lo hi w v c) : c.length ≤ 9223372036854775807 ∧ ∀ j, j < c.length → (c.getD j lt0).2.1.length ≤ 9223372036854775807 ∧ (c.getD j lt0).2.2.length ≤ 9223372036854775807 := by
  obtain ⟨ad, cap, e, hc, hm, hr⟩ := h
  have hml : maxLen = 9223372036854775807 := rfl
  refine ⟨by omega, fun j hj => ?_⟩
  obtain ⟨b, off, _, _, _, hx⟩ := hr (by omega)
  obtain ⟨u1, u2, _, _, _, ⟨ad2, cap2, _, hc2, hm2, _⟩, ⟨ad3, cap3, _, hc3, hm3, _⟩⟩ := hx j hj
  omega

set_option maxRecDepth 100000 in
set_option maxHeartbeats 400000 in
theorem szLitS_c (l h : Nat) (v : Value) (c : List Lt) (left : Int) (w : World) (h0 : 0 ≤ left) (h1 : left ≤ 1048576) (hv : SlC l h w v c) :
    Calls Try.prog 22 #[v, .int .i64 left] w (RetV w (.int .i64 (szC c left))) := by
  obtain ⟨ad, cap, rfl⟩ := hv.form
  obtain ⟨hx, hmax⟩ := hv.max
  have hse := sumC_eq c
  by_cases hs : left - c.length < 0
  · have E : Hid (szC c left = -1) := by show szC _ _ = _; unfold szC; rw [if_pos (by omega)]
    go_enter Try.func22, Try.ntmps22
    go_wp2_with fail
    go_ret
    exact ⟨by rw [E.out]; rfl, Bel.rfl' _⟩
  · have hw1 := IntWalk.i64_in (left - c.length) (by omega)
    go_enter Try.func22, Try.ntmps22
    go_wp2_with fail
    go_loopw [1, 5] (fun m i wr => ∃ (k : Nat) (z : Int), k ≤ c.length ∧ i = .int .i64 k ∧ m = .int .i64 z ∧ 0 ≤ z ∧ z = left - c.length - (lenC (c.take k) : Nat) ∧ Bel w wr) (fun _ i _ => c.length - (intOf i).toNat)
    case atStart => exact ⟨0, _, Nat.zero_le _, rfl, by go_num, by omega, by simp [lenC, flatC, sumL], Bel.rfl' _⟩
    case round =>
      obtain ⟨k, z, hk, rfl, rfl, hz0, hz, hb⟩ := hrel
      by_cases hlt : k < c.length
      · obtain ⟨b, off, u1, u2, rfl, -, c1, c2, c3, s1, s2⟩ := hv.at hb k hlt
        obtain ⟨hm1, hm2⟩ := hmax k hlt
        have hst := lenC_take c k hlt
        have hsl := lenC_get c k hlt
        have hcall := szLit_c l h (c.getD k lt0).1 u1 u2 (c.getD k lt0).2.1 (c.getD k lt0).2.2 z wr hm1 hm2 hz0 (by omega) s1 s2
        have hin0 : (0 : Int) ≤ k := by omega
        have hin1 : (k : Int) < c.length := by omega
        generalize hp : (c.getD k lt0).1 = p at *
        generalize hxl : (c.getD k lt0).2.1 = xl at *
        generalize hxr : (c.getD k lt0).2.2 = xr at *
        by_cases hneg : z - (xl.length + xr.length : Int) < 0
        · have e1 : szI (xl.length + xr.length) z = -1 := by unfold szI; rw [if_pos hneg]
          have E : Hid (szC c left = -1) := by show szC _ _ = _; unfold szC; rw [if_pos (by omega)]
          rw [e1] at hcall
          have HC := Lib.hid hcall
          clear hcall hv s1 s2 hmax hst hsl e1 hneg hz hse hxl hxr hp
          go_wp2_with (go_at_call 65; refine HC.out.mono ?_; rintro e w' ⟨rfl, hb1⟩)
          go_ret
          exact ⟨by rw [E.out]; rfl, hb.step hb1⟩
        · have e1 : szI (xl.length + xr.length) z = z - (xl.length + xr.length) := by unfold szI; rw [if_neg hneg]
          have hz' : z - ((xl.length : Int) + xr.length) = left - c.length - (lenC (c.take (k+1)) : Nat) := by omega
          rw [e1] at hcall
          have HC := Lib.hid hcall
          have HZ := Lib.hid hz'
          have hz2 : 0 ≤ z - ((xl.length : Int) + xr.length) := by omega
          clear hcall hv s1 s2 hmax hst hsl e1 hneg hz hz' hse hxl hxr hp
          generalize z - ((xl.length : Int) + xr.length) = z2 at *
          go_wp2_with (go_at_call 65; refine HC.out.mono ?_; rintro e w' ⟨rfl, hb1⟩)
          go_roundw
          case rel => exact ⟨k+1, z2, by omega, by go_num, rfl, hz2, HZ.out, hb.step hb1⟩
          case measure => simp [intOf]; omega
      · have E : Hid (szC c left = z) := by
          show szC _ _ = _
          rw [lenC_all c k hlt] at hz
          unfold szC; rw [if_neg (by omega)]; omega
        clear hz
        go_wp2_with fail
        go_ret
        exact ⟨by rw [E.out]; rfl, hb⟩
end Go.Proofs.Ytajmjjandkdhiaa
end
section
/- Chapter 4, the program: GoodClause, WeightOf. -/
namespace Go.Proofs.Ytajmjjandkdhiaa
open Go.RowKit

theorem short_flat {c : List Lt} (h : sumC c ≤ 1048576) : sumL (flatC c) ≤ 1048576 ∧ ∀ j, j < (flatC c).length → ((flatC c).getD j []).length ≤ 1048576 := by
  have h1 : sumL (flatC c) ≤ 1048576 := by have := sumC_eq c; unfold lenC at this; omega
  exact ⟨h1, fun j hj => by have := sumL_get (flatC c) j hj; omega⟩
theorem short_flat8 {c : List Lt} (h : sumC c ≤ 1048576) (h8 : c.length ≤ 8) : short (flatC c) := ⟨by rw [flatC_len]; omega, (short_flat h).2⟩

set_option maxRecDepth 100000 in
set_option maxHeartbeats 400000 in
theorem iGoodClause_t {l h l' h' : Nat} {v u : Value} {ar : List Int} {c : List Lt} {w : World} (ha : ar.length ≤ 1048576) (hv : SlI l h w v ar) (hc : sumC c ≤ 1048576) (hu : SlC l' h' w u c) :
    Calls Try.prog 26 #[.agg #[v], u] w (RetV w (.bool (goodClause ar c))) := by
  obtain ⟨ad, cap, rfl⟩ := hu.form
  have hle := sumC_len c
  by_cases h8 : c.length ≤ 8
  · have hd : decide ((c.length : Int) ≤ 8) = true := by rw [decide_eq_true]; omega
    have HE := Lib.hid (goodTerms_flat ar h8)
    have hsh := short_flat8 hc h8
    have HT := Lib.hid (fun (w' : World) (hb : Bel w w') => termsIn_c l' h' _ c w' (by omega) (hu.below hb))
    have HD := Lib.hid (fun (w' : World) (x : Value) (hb : Bel w w') (hx : SlS 0 w'.heap.size w' x (flatC c)) => goodTerms_c l h _ _ v x ar (flatC c) 16 w' (by omega) ha (hv.below hb) hsh hx)
    rw [HE.out] at HD
    clear hsh hle hu hv HE h8
    have HB0 : Bel w (w.alloc (.cells #[v] 26)).drew := (Bel.alloc0 _ _).drew
    have hbox0 : (w.alloc (.cells #[v] 26)).drew.cell? ⟨w.heap.size, 0, none⟩ = some v := boxc ((Bel.rfl' _).drew) 0 _ rfl
    go_enter Try.func26, Try.ntmps26
    go_wp2_with fail
    go_region_held3 (fun w' => Bel w w' ∧ w'.cell? ⟨w.heap.size, 0, none⟩ = some v)
      (first | exact ⟨HB2, hbox2⟩ | exact ⟨HB1, hbox1⟩ | exact ⟨HB0, hbox0⟩ | fail)
      (first | (go_at_call 68; refine (HD.out _ _ HB1 hrow).mono ?_; rintro e w2 ⟨rfl, hb2⟩; have HB2 := HB1.step hb2; have hbox2 := hb2.at (World.block_lt_of_cell? _ ⟨_, _, none⟩ hbox1) hbox1) | (go_at_call 69; refine (HT.out _ HB0).mono ?_; rintro e w1 ⟨ad1, n1, c1, rfl, hrw, hb1⟩; have HB1 := HB0.step hb1; have hbox1 := hb1.at (World.block_lt_of_cell? _ ⟨_, _, none⟩ hbox0) hbox0; have hrow := hrw.sls hb1) | fail)
    go_wp2_with fail
    go_ret
    exact ⟨rfl, HB2⟩
  · have hd : decide ((c.length : Int) ≤ 8) = false := by rw [decide_eq_false]; omega
    have E := Lib.hid (goodClause_long ar h8)
    clear h8
    go_enter Try.func26, Try.ntmps26
    go_wp2_with fail
    have hbox0 : (w.alloc (.cells #[v] 26)).drew.cell? ⟨w.heap.size, 0, none⟩ = some v := boxc ((Bel.rfl' _).drew) 0 _ rfl
    go_region
    all_goals
      go_wp2_with fail
      go_ret
      exact ⟨by rw [E.out]; rfl, (Bel.alloc0 _ _).drew⟩
theorem iGoodClause_v {l h l' h' : Nat} {v u : Value} {ar : List Int} {c : List Lt} {w : World} {q : Bool} (he : goodClause ar c = q) (ha : ar.length ≤ 1048576) (hv : SlI l h w v ar) (hc : sumC c ≤ 1048576) (hu : SlC l' h' w u c) :
    Calls Try.prog 26 #[.agg #[v], u] w (RetV w (.bool q)) := by subst he; exact iGoodClause_t ha hv hc hu

set_option maxRecDepth 100000 in
set_option maxHeartbeats 400000 in
theorem iWeightOf_t {l h l' h' : Nat} {v u : Value} {ar : List Int} {c : List Lt} {w : World} (ha : ar.length ≤ 1048576) (hv : SlI l h w v ar) (hc : sumC c ≤ 1048576) (hu : SlC l' h' w u c) :
    Calls Try.prog 50 #[.agg #[v], u] w (RetV w (.tuple #[.int .i64 (weightAns ar c), .bool (goodClause ar c)])) := by
  unfold weightAns
  cases hg : goodClause ar c with
  | false =>
    rw [if_neg (by simp)]
    have HG := Lib.hid hg; clear hg
    go_enter Try.func50, Try.ntmps50
    go_wp2_with fail
    refine (iGoodClause_v HG.out ha (hv.alloc _) hc (hu.alloc _)).mono ?_; rintro e w1 ⟨rfl, hb1⟩
    go_wp2_with fail
    go_ret2
    exact ⟨rfl, hb1.of_alloc⟩
  | true =>
    rw [if_pos rfl]
    have hle := sumC_len c
    have hsum := (short_flat hc).1
    have hfl := flatC_len c
    have HG := Lib.hid hg; clear hg
    have HC := Lib.hid (fun (w' : World) (hb : Bel w w') => termsIn_c l' h' u c w' (by omega) (hu.below hb))
    go_enter Try.func50, Try.ntmps50
    go_wp2_with fail
    refine (iGoodClause_v HG.out ha (hv.alloc _) hc (hu.alloc _)).mono ?_; rintro e w1 ⟨rfl, hb1⟩
    have hcl : c.length ≤ 1048576 := by omega
    clear hc hu hv
    go_wp2_with fail
    refine (HC.out _ hb1.of_alloc).mono ?_; rintro e w2 ⟨a2, n2, c2, rfl, hrow, hb2⟩
    have HB := hb1.of_alloc.step hb2
    generalize flatC c = L at *
    have hs := hrow.sls hb2
    obtain ⟨ad, cap, e⟩ := hs.form
    simp only [Value.slice.injEq] at e
    obtain ⟨rfl, rfl, rfl⟩ := e
    go_wp2_with fail
    go_loopw [6, 16] (fun m i wr => ∃ k : Nat, k ≤ L.length ∧ i = .int .i64 k ∧ m = .int .i64 (sumL (L.take k) : Nat) ∧ Bel w2 wr) (fun _ i _ => L.length - (intOf i).toNat)
    case atStart => exact ⟨0, Nat.zero_le _, rfl, by simp [sumL], Bel.rfl' _⟩
    case round =>
      obtain ⟨k, hk, rfl, rfl, hb⟩ := hrel
      by_cases hlt : k < L.length
      · obtain ⟨b, off, u1, rfl, hbs, c1, s1⟩ := hs.at hb k hlt
        have hst := sumL_take L k hlt
        have hsl := sumL_get L k hlt
        have hin1 : (k : Int) < L.length := by omega
        have hin2 : (k : Int) < 2 * c.length := by omega
        clear hs hrow
        generalize L.getD k [] = x at *
        obtain ⟨a1, d1, rfl⟩ := s1.form
        have HE : Hid (((sumL (L.take k) : Nat) : Int) + (x.length : Int) = (sumL (L.take (k+1)) : Nat)) := by show _ = _; omega
        have i2 := IntWalk.i64_in (((sumL (L.take k) : Nat) : Int) + (x.length : Int)) (by omega)
        clear s1 hst hsl
        go_wp2_with fail
        go_roundw
        case rel => exact ⟨k+1, by omega, by go_num, by rw [← HE.out], hb⟩
        case measure => simp [intOf]; omega
      · have hin2 : ¬ (k : Int) < 2 * c.length := by omega
        rw [sumL_all L k hlt]
        go_wp2_with fail
        go_ret2
        exact ⟨rfl, HB.step hb⟩
end Go.Proofs.Ytajmjjandkdhiaa
end
section
/- The laws' helpers over literals, by contracts: copies, comparisons. -/
namespace Go.Proofs.Ytajmjjandkdhiaa
open Go.RowKit

/-- A literal of the call's own: its two terms in two ranges. -/
def RetL (w : World) (x : Lt) (e : Ending) (w' : World) : Prop :=
  ∃ a1 n1 c1 a2 n2 c2 m, e = .returned (.agg #[.bool x.1, .slice a1 n1 c1, .slice a2 n2 c2]) ∧ w.heap.size ≤ m ∧ m ≤ w'.heap.size ∧ OwnI w.heap.size m w' (.slice a1 n1 c1) x.2.1 ∧ OwnI m w'.heap.size w' (.slice a2 n2 c2) x.2.2 ∧ Bel w w'

set_option maxRecDepth 100000 in
set_option maxHeartbeats 400000 in
theorem eqLit_same (l h l' h' : Nat) (p : Bool) (u1 u2 q1 q2 : Value) (xl xr : List Int) (w : World) (hl : xl.length ≤ 1048576) (hr : xr.length ≤ 1048576) (a1 : SlI l h w u1 xl) (a2 : SlI l h w u2 xr) (b1 : SlI l' h' w q1 xl) (b2 : SlI l' h' w q2 xr) :
    Calls Try.prog 70 #[.agg #[.bool p, u1, u2], .agg #[.bool p, q1, q2]] w (RetV w (.bool true)) := by
  have HB : Bel w ((w.alloc (.cells #[.bool p, u1, u2] 68)).alloc (.cells #[.bool p, q1, q2] 68)) := Bel.alloc2 _ _ _
  have HC := Lib.hid (fun (w' : World) (hb : Bel w w') => eqIntS_same l h l' h' u1 q1 xl w' hl (a1.below hb) (b1.below hb))
  have HD := Lib.hid (fun (w' : World) (hb : Bel w w') => eqIntS_same l h l' h' u2 q2 xr w' hr (a2.below hb) (b2.below hb))
  clear a1 a2 b1 b2
  go_enter Try.func70, Try.ntmps70
  go_wp2_with fail
  refine (HC.out _ HB).mono ?_; rintro e w1 ⟨rfl, hb1⟩
  have ka := hb1.at (b := w.heap.size) (off := 2) (by simp; omega) (show World.cell? _ _ = some u2 by simp [go_sem])
  have kb := hb1.at (b := w.heap.size + 1) (off := 2) (by simp) (show World.cell? _ _ = some q2 by simp [go_sem])
  have HB1 := HB.step hb1
  go_wp2_with fail
  refine (HD.out _ HB1).mono ?_; rintro e w2 ⟨rfl, hb2⟩
  go_wp2_with fail
  go_ret
  exact ⟨rfl, HB1.step hb2⟩

set_option maxRecDepth 100000 in
set_option maxHeartbeats 400000 in
theorem toLit_c (l h : Nat) (p : Bool) (u1 u2 : Value) (xl xr : List Int) (w : World) (hl : xl.length ≤ 1048576) (hr : xr.length ≤ 1048576) (h1 : SlI l h w u1 xl) (h2 : SlI l h w u2 xr) :
    Calls Try.prog 67 #[.agg #[.bool p, u1, u2]] w (RetL w (p, xl, xr)) := by
  have HC := Lib.hid (fun (w' : World) (hb : Bel w w') => toIntS_c l h u1 xl w' hl (h1.below hb))
  have HD := Lib.hid (fun (w' : World) (hb : Bel w w') => toIntS_c l h u2 xr w' hr (h2.below hb))
  clear h1 h2
  go_enter Try.func67, Try.ntmps67
  go_wp2_with fail
  have HB : Bel w (((w.alloc (.cells #[.bool p, u1, u2] 78)).alloc (.cells #[.bool false, .slice none 0 0, .slice none 0 0] 68)).alloc (.cells #[.bool p, .slice none 0 0, .slice none 0 0] 68)) := Bel.alloc3 _ _ _ _
  refine (HC.out _ HB).mono ?_; rintro e w1 ⟨a1, n1, c1, rfl, o1, hb1⟩
  have hz1 := hb1.size
  simp only [World.size_alloc] at hz1 o1
  have e0 := hb1.at (b := w.heap.size) (off := 2) (by simp; omega) (show World.cell? _ _ = some u2 by simp [go_sem])
  have e1 := hb1.at (b := w.heap.size + 1) (off := 0) (by simp) (show World.cell? _ _ = some (.bool false) by simp [go_sem])
  have e2 := hb1.at (b := w.heap.size + 1) (off := 1) (by simp) (show World.cell? _ _ = some (.slice none 0 0) by simp [go_sem])
  have e3 := hb1.at (b := w.heap.size + 1) (off := 2) (by simp) (show World.cell? _ _ = some (.slice none 0 0) by simp [go_sem])
  have f0 := hb1.at (b := w.heap.size + 1 + 1) (off := 0) (by simp) (show World.cell? _ _ = some (.bool p) by simp [go_sem])
  have f1 := hb1.at (b := w.heap.size + 1 + 1) (off := 1) (by simp) (show World.cell? _ _ = some (.slice none 0 0) by simp [go_sem])
  have f2 := hb1.at (b := w.heap.size + 1 + 1) (off := 2) (by simp) (show World.cell? _ _ = some (.slice none 0 0) by simp [go_sem])
  have g1 : ∀ i, w1.frozen? ⟨w.heap.size + 1, i, none⟩ = false := fun i => (hb1.frozen (p := ⟨w.heap.size + 1, i, none⟩) (by simp)).trans (by simp [go_sem])
  have g2 : ∀ i, w1.frozen? ⟨w.heap.size + 1 + 1, i, none⟩ = false := fun i => (hb1.frozen (p := ⟨w.heap.size + 1 + 1, i, none⟩) (by simp)).trans (by simp [go_sem])
  have HB1 := HB.step hb1
  go_wp2_with fail
  have HS : Bel w (w1.setCell ⟨w.heap.size + 1 + 1, 1, none⟩ (.slice a1 n1 c1)) := HB1.set (by simp; omega) _
  refine (HD.out _ HS).mono ?_; rintro e w2 ⟨a2, n2, c2, rfl, o2, hb2⟩
  have hz2 := hb2.size
  simp only [World.size_setCell] at hz2 o2
  have far : ∀ {b o : Nat} {x : Value}, (b ≠ w.heap.size + 1 + 1 ∨ o ≠ 1) → w1.cell? ⟨b, o, none⟩ = some x → b < w1.heap.size → w2.cell? ⟨b, o, none⟩ = some x := fun hne hc hlt =>
    hb2.at (by simpa using hlt) (by rw [World.cell?_setCell_other (h := by intro h; simp at h; omega)]; exact hc)
  have e1' := far (.inl (by omega)) e1 (by omega)
  have e2' := far (.inl (by omega)) e2 (by omega)
  have e3' := far (.inl (by omega)) e3 (by omega)
  have f0' := far (.inr (by omega)) f0 (by omega)
  have f1' := hb2.at (b := w.heap.size + 1 + 1) (off := 1) (by simp; omega) (World.cell?_setCell_same w1 _ _ f1)
  have f2' := far (.inr (by omega)) f2 (by omega)
  have g1' : ∀ i, w2.frozen? ⟨w.heap.size + 1, i, none⟩ = false := fun i => (hb2.frozen (p := ⟨w.heap.size + 1, i, none⟩) (by simp; omega)).trans (by rw [World.frozen?_setCell]; exact g1 i)
  have g2' : ∀ i, w2.frozen? ⟨w.heap.size + 1 + 1, i, none⟩ = false := fun i => (hb2.frozen (p := ⟨w.heap.size + 1 + 1, i, none⟩) (by simp; omega)).trans (by rw [World.frozen?_setCell]; exact g2 i)
  have HB2 := HS.step hb2
  clear far
  go_wp2_with fail
  have o1' := ((((((o1.set (p := ⟨w.heap.size + 1 + 1, 1, none⟩) (.inl (by simp)) (.slice a1 n1 c1)).below hb2).set (p := ⟨w.heap.size + 1 + 1, 2, none⟩) (.inl (by simp)) (.slice a2 n2 c2)).set (p := ⟨w.heap.size + 1, 0, none⟩) (.inl (by simp)) (.bool p)).set (p := ⟨w.heap.size + 1, 1, none⟩) (.inl (by simp)) (.slice a1 n1 c1)).set (p := ⟨w.heap.size + 1, 2, none⟩) (.inl (by simp)) (.slice a2 n2 c2))
  have o2' := ((((o2.set (p := ⟨w.heap.size + 1 + 1, 2, none⟩) (.inl (by simp; omega)) (.slice a2 n2 c2)).set (p := ⟨w.heap.size + 1, 0, none⟩) (.inl (by simp; omega)) (.bool p)).set (p := ⟨w.heap.size + 1, 1, none⟩) (.inl (by simp; omega)) (.slice a1 n1 c1)).set (p := ⟨w.heap.size + 1, 2, none⟩) (.inl (by simp; omega)) (.slice a2 n2 c2))
  have HB3 := ((((HB2.set (p := ⟨w.heap.size + 1 + 1, 2, none⟩) (by simp; omega) (.slice a2 n2 c2)).set (p := ⟨w.heap.size + 1, 0, none⟩) (by simp) (.bool p)).set (p := ⟨w.heap.size + 1, 1, none⟩) (by simp) (.slice a1 n1 c1)).set (p := ⟨w.heap.size + 1, 2, none⟩) (by simp) (.slice a2 n2 c2))
  refine bodyPost_ret (v := .agg #[.bool p, .slice a1 n1 c1, .slice a2 n2 c2]) (by simp [results, Try.results67, go_sem, e1', e2', e3', f0', f1', f2']) rfl ⟨_, _, _, _, _, _, w1.heap.size, rfl, by omega, by simp; omega, o1'.mono (by omega) (Nat.le_refl _), o2'.mono (Nat.le_refl _) (by simp), HB3⟩
end Go.Proofs.Ytajmjjandkdhiaa
end
section
/- The laws' helpers over slices of literals: copies. -/
namespace Go.Proofs.Ytajmjjandkdhiaa
open Go.RowKit

theorem Try.info68 : (Try.prog.info? 68).map (fun i => (i.zero, i.size, i.bytes)) = some (some (.agg #[.bool false, .slice none 0 0, .slice none 0 0]), 3, 56) := by kernel_rfl
theorem flatC_take' (c : List Lt) (k : Nat) (h : k < c.length) : flatC (c.take (k+1)) = flatC (c.take k) ++ [(c.getD k lt0).2.1] ++ [(c.getD k lt0).2.2] := by
  rw [List.take_succ_eq_append_getElem h, flatC_app]
  simp [flatC, List.getD, h]
def z0C : LV := (false, .slice none 0 0, .slice none 0 0)
theorem made3 (n : Nat) : (madeCells #[.bool false, .slice none 0 0, .slice none 0 0] (n * 3)).toList = cellsC (List.replicate n z0C) := by
  have e : ∀ m, (madeCells #[.bool false, .slice none 0 0, .slice none 0 0] m).toList = (List.range m).map (fun i => (#[Value.bool false, .slice none 0 0, .slice none 0 0] : Array Value)[i % 3]!) := by
    intro m; simp [madeCells, Array.toList_range]
  rw [e]
  induction n with
  | zero => rfl
  | succ n ih =>
    rw [List.replicate_succ', cellsC_app, ← ih, show (n + 1) * 3 = n * 3 + 1 + 1 + 1 from by omega, List.range_succ, List.range_succ, List.range_succ]
    simp only [List.map_append, List.map_cons, List.map_nil, List.append_assoc]
    congr 1
    have h0 : (n * 3) % 3 = 0 := by omega
    have h1 : (n * 3 + 1) % 3 = 1 := by omega
    have h2 : (n * 3 + 1 + 1) % 3 = 2 := by omega
    rw [h0, h1, h2]
    rfl
theorem cellsC_set (zs rest : List LV) (y : LV) (p : Bool) (a b : Value) :
    (((cellsC (zs ++ y :: rest)).set (zs.length * 3) (.bool p)).set (zs.length * 3 + 1) a).set (zs.length * 3 + 2) b = cellsC (zs ++ (p, a, b) :: rest) := by
  have hl := cellsC_len zs
  rw [cellsC_app, cellsC_app]
  rw [List.set_append_right _ _ (by omega), hl, Nat.sub_self, List.set_append_right _ _ (by omega), hl, Nat.add_sub_cancel_left, List.set_append_right _ _ (by omega), hl, Nat.add_sub_cancel_left]
  rfl

set_option maxRecDepth 100000 in
set_option maxHeartbeats 400000 in
theorem toLitS_c (l h : Nat) (v : Value) (c : List Lt) (w : World) (hx : sumC c ≤ 1048576) (hv : SlC l h w v c) :
    Calls Try.prog 25 #[v] w (RetC w c) := by
  obtain ⟨ad, cap, rfl⟩ := hv.form
  obtain ⟨hxl, hmax⟩ := shortC_of_sum hx
  obtain ⟨i0, hi, hz0, hz1, hz2⟩ := info_parts Try.info68
  go_enter Try.func25, Try.ntmps25
  go_wp2_with (at_make; refine wpList_make_full _ rfl _ _ 27 rfl w.heap.size 68 i0 (.agg #[.bool false, .slice none 0 0, .slice none 0 0]) 3 Try.underlying27 hi hz0 hz1 _ _ _ _ c.length rfl rfl rfl rfl (by rw [hz2]; omega) (by unfold maxLen; omega) (Nat.le_refl _) ?_; intro w1 hown hg)
  have hz3 : (madeCells (Value.agg #[.bool false, .slice none 0 0, .slice none 0 0]).cells (c.length * 3)).toList = cellsC ([] ++ List.replicate (c.length - 0) z0C) := by
    rw [show (Value.agg #[.bool false, .slice none 0 0, .slice none 0 0]).cells = #[.bool false, .slice none 0 0, .slice none 0 0] from rfl, made3]; simp
  rw [hz3] at hown
  have hb0 : Bel w w1 := (Bel.rfl' w).grown hg (by simp)
  have hs1 : w.heap.size + 1 ≤ w1.heap.size := by
    rcases hown.2 with ⟨e, _⟩ | ⟨g, c, cur, e, _, hh, _⟩
    · simp at e
    · simp at e; have := (Array.getElem?_eq_some_iff.1 hh).1; omega
  clear hg hz3
  go_loopw [4] (fun i wr => ∃ (k : Nat) (zs : List LV) (bs : Nat → Nat), k ≤ c.length ∧ i = .int .i64 k ∧ wr.ownsRow w.heap.size 68 3 (.slice (some ⟨w.heap.size, 0, none⟩) c.length c.length) c.length (cellsC (zs ++ List.replicate (c.length - k) z0C)) ∧
    zs.map (·.1) = (c.take k).map (·.1) ∧ Ins (w.heap.size + 1) wr.heap.size w.heap.size wr (rowsC zs) (flatC (c.take k)) bs ∧ w.heap.size + 1 ≤ wr.heap.size ∧ Bel w wr) (fun i _ => c.length - (intOf i).toNat)
  case atStart => exact ⟨0, [], _, Nat.zero_le _, rfl, hown, rfl, (Ins.none _ _ _ _), hs1, hb0⟩
  case round =>
    obtain ⟨k, zs, bs, hk, rfl, ho, hzp, hin, hs, hb⟩ := hrel
    have hzl : zs.length = k := by have := congrArg List.length hzp; simp at this; omega
    by_cases hlt : k < c.length
    · obtain ⟨b, off, u1, u2, rfl, hbs, c1, c2, c3, s1, s2⟩ := hv.at hb k hlt
      obtain ⟨hm1, hm2⟩ := hmax k hlt
      have HFT := Lib.hid (flatC_take' c k hlt)
      have HTK : Hid ((c.take (k+1)).map (·.1) = (c.take k).map (·.1) ++ [(c.getD k lt0).1]) := by show _ = _; rw [List.take_succ_eq_append_getElem hlt, List.map_append]; simp [List.getD, hlt]
      have hin1 : (k : Int) < c.length := by omega
      have hrep : List.replicate (c.length - k) z0C = z0C :: List.replicate (c.length - (k+1)) z0C := by rw [show c.length - k = (c.length - (k+1)) + 1 from by omega, List.replicate_succ]
      rw [hrep] at ho
      generalize c.getD k lt0 = x at *
      obtain ⟨p, xl, xr⟩ := x
      simp only at *
      obtain ⟨a1, d1, rfl⟩ := s1.form
      obtain ⟨a2, d2, rfl⟩ := s2.form
      have HG : Hid ((zs ++ z0C :: List.replicate (c.length - (k+1)) z0C)[k]? = some z0C) := by show _ = _; rw [List.getElem?_append_right (by omega), hzl, Nat.sub_self]; rfl
      have HC := Lib.hid (toLit_c l h p _ _ xl xr wr hm1 hm2 s1 s2)
      have HI := Lib.hid hin
      have HO := Lib.hid ho
      have HP := Lib.hid hzp
      clear hv s1 s2 hmax hown hin ho hzp
      go_wp2_with (go_at_call 67; refine HC.out.mono ?_; rintro e w' ⟨b1, m1, q1, b2, m2, q2, M, rfl, hM1, hM2, o1, o2, hb2⟩; have ho3 := ownsRow_bel HO.out hb2; obtain ⟨t0, t1, t2⟩ := cellsC_get _ k z0C (HG.out); have y0 := (ho3.cellAt (k * 3) (by omega)).trans t0; have y1 := (ho3.cellAt (k * 3 + 1) (by omega)).trans t1; have y2 := (ho3.cellAt (k * 3 + 2) (by omega)).trans t2; have x0 := ho3.frozenAt (k * 3); have x1 := ho3.frozenAt (k * 3 + 1); have x2 := ho3.frozenAt (k * 3 + 2))
      go_roundw
      case rel =>
        have hst := ((((ho3.stored (k * 3) (.bool p)).1).stored (k * 3 + 1) (.slice b1 m1 q1)).1.stored (k * 3 + 2) (.slice b2 m2 q2)).1
        have hst2 := cellsC_set zs (List.replicate (c.length - (k+1)) z0C) z0C p (.slice b1 m1 q1) (.slice b2 m2 q2)
        rw [hzl] at hst2
        rw [hst2] at hst
        obtain ⟨bs1, hin1⟩ := (HI.out.below hb2).snoc o1 (Nat.le_refl _) hs (.inl (by omega)) (hi2 := M) (Nat.le_refl _) hM1
        obtain ⟨bs2, hin2⟩ := hin1.snoc o2 (Nat.le_refl _) (by omega) (.inl (by omega)) (hi2 := w'.heap.size) (Nat.le_refl _) hM2
        rw [← HFT.out] at hin2
        have hin3 := hin2.same (w' := ((w'.setCell ⟨w.heap.size, k * 3, none⟩ (.bool p)).setCell ⟨w.heap.size, k * 3 + 1, none⟩ (.slice b1 m1 q1)).setCell ⟨w.heap.size, k * 3 + 2, none⟩ (.slice b2 m2 q2)) (fun b h1 h2 _ => by
          rw [Below.heap_setCell _ _ _ b (by simp; omega), Below.heap_setCell _ _ _ b (by simp; omega), Below.heap_setCell _ _ _ b (by simp; omega)])
        have hB := (((hb.step hb2).set (p := ⟨w.heap.size, k * 3, none⟩) (Nat.le_refl _) (.bool p)).set (p := ⟨w.heap.size, k * 3 + 1, none⟩) (Nat.le_refl _) (.slice b1 m1 q1)).set (p := ⟨w.heap.size, k * 3 + 2, none⟩) (Nat.le_refl _) (.slice b2 m2 q2)
        have hsz := hb2.size
        refine ⟨k+1, zs ++ [(p, .slice b1 m1 q1, .slice b2 m2 q2)], bs2, by omega, by go_num, by rw [List.append_assoc]; exact hst, by rw [List.map_append, HP.out, HTK.out]; rfl, ?_, by simp; omega, hB⟩
        rw [rowsC_app]
        simpa [rowsC] using hin3
      case measure => simp [intOf]; omega
    · rw [show c.length - k = 0 from by omega, List.replicate_zero, List.append_nil] at ho
      rw [List.take_of_length_le (by omega)] at hin hzp
      have HI := Lib.hid hin
      have HO := Lib.hid ho
      have HP := Lib.hid hzp
      clear hin ho hv hmax hown hzp
      go_wp2_with fail
      go_ret
      exact ⟨_, _, _, rfl, OwnC.of_row HO.out (Nat.le_refl _) HP.out (fun g hg => by simp [Value.ownBlock] at hg; subst hg; exact HI.out.mono (by omega) (Nat.le_refl _)), hb⟩
end Go.Proofs.Ytajmjjandkdhiaa
end
section
/- Chapter 4: what the keys of literals tell. No program. -/
namespace Go.Proofs.Ytajmjjandkdhiaa
open Go.RowKit

theorem ba_inj (x y : ByteArray) : x.toList = y.toList ↔ x = y := by simp [Lib.toList_data, ByteArray.ext_iff, Array.ext_iff]
def bytesOf (ns : List Int) : ByteArray := ns.foldl (fun r n => r.push (UInt8.ofNat n.toNat)) ByteArray.empty
def keyT (t : List Int) : ByteArray := bytesOf (t.map (· + 12))
abbrev Ky := Bool × ByteArray × ByteArray
def keyL (x : Lt) : Ky := (x.1, Lib.minS (keyT x.2.1) (keyT x.2.2), Lib.maxS (keyT x.2.1) (keyT x.2.2))

theorem bytes_list (ns : List Int) : ∀ s : ByteArray, (ns.foldl (fun r n => r.push (UInt8.ofNat n.toNat)) s).data.toList = s.data.toList ++ ns.map (fun n => UInt8.ofNat n.toNat) := by
  induction ns with
  | nil => intro s; simp
  | cons n r ih => intro s; rw [List.foldl_cons, ih]; simp [ByteArray.push]
theorem keyT_list (t : List Int) : (keyT t).data.toList = t.map (fun n => UInt8.ofNat (n + 12).toNat) := by
  unfold keyT bytesOf
  rw [bytes_list]
  simp [ByteArray.empty, ByteArray.emptyWithCapacity, Function.comp_def]
  try rfl
def inKey (t : List Int) : Prop := ∀ n ∈ t, -12 ≤ n ∧ n ≤ 9
theorem byte_inj {a b : Int} (ha : -12 ≤ a ∧ a ≤ 9) (hb : -12 ≤ b ∧ b ≤ 9) (h : UInt8.ofNat (a + 12).toNat = UInt8.ofNat (b + 12).toNat) : a = b := by
  have := congrArg UInt8.toNat h
  simp at this
  omega
theorem map_inj {f : Int → UInt8} : ∀ {a b : List Int}, (∀ x ∈ a, ∀ y ∈ b, f x = f y → x = y) → a.map f = b.map f → a = b := by
  intro a
  induction a with
  | nil => intro b _ h; cases b with
    | nil => rfl
    | cons y s => simp at h
  | cons x r ih => intro b hi h; cases b with
    | nil => simp at h
    | cons y s =>
      simp only [List.map_cons, List.cons.injEq] at h
      rw [hi x (by simp) y (by simp) h.1, ih (fun p hp q hq => hi p (by simp [hp]) q (by simp [hq])) h.2]
theorem keyT_inj {a b : List Int} (ha : inKey a) (hb : inKey b) : keyT a = keyT b ↔ a = b := by
  constructor
  · intro h
    have := congrArg (fun x : ByteArray => x.data.toList) h
    simp only [keyT_list] at this
    exact map_inj (fun x hx y hy e => byte_inj (ha x hx) (hb y hy) e) this
  · rintro rfl; rfl
theorem lt_no (a : List UInt8) : ¬ a < a := List.lt_irrefl a
theorem lt_tri {x y : ByteArray} (h1 : ¬ x.data.toList < y.data.toList) (h2 : ¬ y.data.toList < x.data.toList) : x = y := by
  have : x.data.toList = y.data.toList := List.le_antisymm h2 h1
  rw [← ba_inj, Lib.toList_data, Lib.toList_data]; exact this
theorem minmax (x y : ByteArray) : (Lib.minS x y = x ∧ Lib.maxS x y = y) ∨ (Lib.minS x y = y ∧ Lib.maxS x y = x) := by
  unfold Lib.minS Lib.maxS
  by_cases h1 : x.data.toList < y.data.toList
  · exact .inl ⟨by rw [if_pos (.inl h1)], by rw [if_pos h1]⟩
  · by_cases h2 : x.data.toList = y.data.toList
    · have : x = y := by rw [← ba_inj, Lib.toList_data, Lib.toList_data]; exact h2
      subst this
      exact .inl ⟨by rw [if_pos (.inr rfl)], by rw [if_neg h1]⟩
    · exact .inr ⟨by rw [if_neg (by rintro (h | h); exact h1 h; exact h2 h)], by rw [if_neg h1]⟩
theorem min_comm (x y : ByteArray) : Lib.minS x y = Lib.minS y x ∧ Lib.maxS x y = Lib.maxS y x := by
  unfold Lib.minS Lib.maxS
  by_cases h1 : x.data.toList < y.data.toList
  · have h2 : ¬ y.data.toList < x.data.toList := fun h => lt_no _ (List.lt_trans h1 h)
    have h3 : ¬ y.data.toList = x.data.toList := fun h => by rw [h] at h1; exact lt_no _ h1
    rw [if_pos (.inl h1), if_pos h1, if_neg (by rintro (h | h); exact h2 h; exact h3 h), if_neg h2]
    exact ⟨rfl, rfl⟩
  · by_cases h2 : y.data.toList < x.data.toList
    · have h3 : ¬ x.data.toList = y.data.toList := fun h => by rw [h] at h2; exact lt_no _ h2
      rw [if_neg (by rintro (h | h); exact h1 h; exact h3 h), if_neg h1, if_pos (.inl h2), if_pos h2]
      exact ⟨rfl, rfl⟩
    · have := lt_tri h1 h2
      subst this
      exact ⟨rfl, rfl⟩
theorem pair_iff (x y u v : ByteArray) : (Lib.minS x y = Lib.minS u v ∧ Lib.maxS x y = Lib.maxS u v) ↔ ((x = u ∧ y = v) ∨ (x = v ∧ y = u)) := by
  constructor
  · rintro ⟨h1, h2⟩
    rcases minmax x y with ⟨a1, a2⟩ | ⟨a1, a2⟩ <;> rcases minmax u v with ⟨b1, b2⟩ | ⟨b1, b2⟩ <;> rw [a1, b1] at h1 <;> rw [a2, b2] at h2
    · exact .inl ⟨h1, h2⟩
    · exact .inr ⟨h1, h2⟩
    · exact .inr ⟨h2, h1⟩
    · exact .inl ⟨h2, h1⟩
  · rintro (⟨rfl, rfl⟩ | ⟨rfl, rfl⟩)
    · exact ⟨rfl, rfl⟩
    · exact min_comm _ _
theorem same_iff (x y : ByteArray) : Lib.minS x y = Lib.maxS x y ↔ x = y := by
  rcases minmax x y with ⟨a1, a2⟩ | ⟨a1, a2⟩ <;> rw [a1, a2]
  exact eq_comm
def inKeyL (x : Lt) : Prop := inKey x.2.1 ∧ inKey x.2.2
theorem ok_inKey {ar : List Int} (hl : ar.length ≤ 10) {t : List Int} (h : okTerm ar t = true) : inKey t := by
  intro n hn
  obtain ⟨k, hk, rfl⟩ := List.getElem_of_mem hn
  have := good_sym ar t h k hk
  simp [okSym, inB, hk] at this
  omega
theorem ok_inKeyL {ar : List Int} (hl : ar.length ≤ 10) {x : Lt} (h : okLit ar x = true) : inKeyL x := ⟨ok_inKey hl (okLit_iff.1 h).1, ok_inKey hl (okLit_iff.1 h).2⟩
theorem inKey_get {t : List Int} (h : inKey t) : ∀ k, k < t.length → -12 ≤ t.getD k 0 ∧ t.getD k 0 ≤ 9 := fun k hk => h _ (mem_getD t 0 k hk)
theorem keyL_same {x y : Lt} (hx : inKeyL x) (hy : inKeyL y) : decide ((keyL x).2 = (keyL y).2) = sameTs x y := by
  rw [Bool.eq_iff_iff, decide_eq_true_iff]
  unfold keyL sameTs
  simp only [Prod.mk.injEq, pair_iff, Bool.or_eq_true, Bool.and_eq_true, decide_eq_true_iff]
  rw [keyT_inj hx.1 hy.1, keyT_inj hx.2 hy.2, keyT_inj hx.1 hy.2, keyT_inj hx.2 hy.1]
theorem keyL_triv {x : Lt} (hx : inKeyL x) : decide ((keyL x).2.1 = (keyL x).2.2) = decide (x.2.1 = x.2.2) := by
  rw [decide_eq_decide]
  unfold keyL
  simp only [same_iff]
  exact keyT_inj hx.1 hx.2
theorem keyL_eq {x y : Lt} (hx : inKeyL x) (hy : inKeyL y) : decide (keyL x = keyL y) = eqvL x y := by
  have h := keyL_same hx hy
  unfold eqvL
  rw [← h, Bool.eq_iff_iff]
  simp only [decide_eq_true_iff, Bool.and_eq_true, beq_iff_eq]
  constructor
  · intro e; exact ⟨congrArg (fun k : Ky => k.1) e, by rw [e]⟩
  · rintro ⟨e1, e2⟩; exact Prod.ext e1 e2
end Go.Proofs.Ytajmjjandkdhiaa
end
section
/- Chapter 4, the program: the keys of literals. -/
namespace Go.Proofs.Ytajmjjandkdhiaa
open Go.RowKit

theorem Try.info5 : (Try.prog.info? 5).map (fun i => (i.zero, i.size, i.bytes)) = some (some (.int .u8 0), 1, 1) := by kernel_rfl
theorem convN (W : World) (b n cap : Nat) (ns : List Int) (hn : n = ns.length) (h : ∀ j, j < ns.length → W.cell? ⟨b, j, none⟩ = some (.int .u8 (ns.getD j 0))) :
    (convert 22 9 (.slice (some ⟨b, 0, none⟩) n cap)).run Try.prog W = .ok (.string (bytesOf ns)) W := by
  subst hn
  rw [run_convert_bytes_string _ 22 9 5 _ _ _ Try.underlying22 Try.underlying5 Try.underlying9]
  rw [run_bytesToString _ _ ns.length cap ns ?_]
  · rfl
  · have := run_loadCells_list (P := Try.prog) (w := W) ⟨b, 0, none⟩ (ns.map (Value.int .u8)) (fun j v hj => by
      have hlt : j < ns.length := by simpa using (List.getElem?_eq_some_iff.1 hj).1
      rw [addr_add, Nat.zero_add, h j hlt]
      rw [List.getElem?_map, List.getElem?_eq_getElem hlt] at hj
      simpa [List.getD, hlt] using hj)
    simpa using this

set_option maxRecDepth 100000 in
set_option maxHeartbeats 1000000 in
theorem termKey_c (l h : Nat) (v : Value) (t : List Int) (w : World) (ht : t.length ≤ 40) (hlow : ∀ k, k < t.length → -12 ≤ t.getD k 0 ∧ t.getD k 0 ≤ 9) (hv : SlI l h w v t) :
    Calls Try.prog 133 #[v] w (RetV w (.string (keyT t))) := by
  obtain ⟨ad, cap, rfl, -, -, hr⟩ := hv
  obtain ⟨i0, hi, hz0, hz1, hz2⟩ := info_parts Try.info5
  go_enter Try.func133, Try.ntmps133
  go_wp2_with (at_make; refine wpList_make_full _ rfl _ _ 22 rfl w.heap.size 5 i0 (.int .u8 0) 1 Try.underlying22 hi hz0 hz1 _ _ _ _ t.length rfl rfl rfl rfl (by rw [hz2]; omega) (by unfold maxLen; omega) (Nat.le_refl _) ?_; intro w1 hown hg)
  have hz3 : (madeCells (Value.int .u8 0).cells (t.length * 1)).toList = ((t.take 0).map (· + 12)).map (Value.int .u8) ++ List.replicate (t.length - 0) (.int .u8 0) := by
    rw [Nat.mul_one]; show (madeCells #[_] _).toList = _; rw [toList_madeCells_one]; simp
  rw [hz3] at hown
  have hb0 : Bel w w1 := (Bel.rfl' w).grown hg (by simp)
  clear hg hz3
  go_loopw [11] (fun i wr => ∃ k : Nat, k ≤ t.length ∧ i = .int .i64 k ∧ wr.ownsRow w.heap.size 5 1 (.slice (some ⟨w.heap.size, 0, none⟩) t.length t.length) t.length (((t.take k).map (· + 12)).map (Value.int .u8) ++ List.replicate (t.length - k) (.int .u8 0)) ∧ Bel w wr) (fun i _ => t.length - (intOf i).toNat)
  case atStart => exact ⟨0, Nat.zero_le _, rfl, hown, hb0⟩
  case round =>
    obtain ⟨k, hk, rfl, ho, hb⟩ := hrel
    by_cases hlt : k < t.length
    · obtain ⟨b, off, rfl, -, hc⟩ := rd hr hb k hlt
      obtain ⟨hx1, hx2⟩ := hlow k hlt
      have HTK : Hid (((t.take (k+1)).map (· + 12)).map (Value.int .u8) = ((t.take k).map (· + 12)).map (Value.int .u8) ++ [.int .u8 (t.getD k 0 + 12)]) := by show _ = _; rw [List.take_succ_eq_append_getElem hlt, List.map_append, List.map_append]; simp [List.getD, hlt]
      have hin1 : (k : Int) < t.length := by omega
      have hcell := ho.cellAt k (by omega)
      have hfr := ho.frozenAt k
      rw [List.getElem?_append_right (by simp; omega)] at hcell
      rw [show k - (((t.take k).map (· + 12)).map (Value.int .u8)).length = 0 from by simp; omega, List.getElem?_replicate, if_pos (by omega)] at hcell
      have hst := Lib.hid (ho.stored k (.int .u8 (t.getD k 0 + 12))).1
      generalize t.getD k 0 = x at *
      have hw1 := IntWalk.i64_in (x + 12) (by omega)
      have hw2 : IntKind.u8.wrap (x + 12) = x + 12 := by simp [IntKind.wrap, IntKind.bits, IntKind.signed]; omega
      clear hr hlow hown ho
      go_wp2_with fail
      go_roundw
      case rel =>
        refine ⟨k+1, by omega, by go_num, ?_, hb.set (Nat.le_refl _) _⟩
        have h2 := hst.out
        rw [List.set_append_right _ _ (by simp; omega), show k - (((t.take k).map (· + 12)).map (Value.int .u8)).length = 0 from by simp; omega, show t.length - k = (t.length - (k+1)) + 1 from by omega, List.replicate_succ, List.set_cons_zero] at h2
        rw [HTK.out]
        simpa using h2
      case measure => simp [intOf]; omega
    · rw [show t.length - k = 0 from by omega, List.replicate_zero, List.append_nil, List.take_of_length_le (by omega)] at ho
      have hconv := convN wr w.heap.size t.length t.length (t.map (· + 12)) (by simp) (fun j hj => by
        have hj' : j < t.length := by simpa using hj
        rw [ho.cellAt j (by omega), List.getElem?_map, List.getElem?_eq_getElem (by simpa using hj')]
        simp [List.getD, hj'])
      clear hown ho hr hlow
      go_wp2_with fail
      go_ret
      exact ⟨rfl, hb⟩

set_option maxRecDepth 100000 in
set_option maxHeartbeats 1000000 in
theorem keyOf_c (l h : Nat) (p : Bool) (u1 u2 : Value) (xl xr : List Int) (w : World) (hl : xl.length ≤ 40) (hr : xr.length ≤ 40) (hll : ∀ k, k < xl.length → -12 ≤ xl.getD k 0 ∧ xl.getD k 0 ≤ 9) (hlr : ∀ k, k < xr.length → -12 ≤ xr.getD k 0 ∧ xr.getD k 0 ≤ 9) (h1 : SlI l h w u1 xl) (h2 : SlI l h w u2 xr) :
    Calls Try.prog 114 #[.agg #[.bool p, u1, u2]] w (RetV w (.agg #[.bool p, .string (Lib.minS (keyT xl) (keyT xr)), .string (Lib.maxS (keyT xl) (keyT xr))])) := by
  have HB0 : Bel w ((w.alloc (.cells #[.bool p, u1, u2] 68)).alloc (.cells #[.bool false, .string ⟨#[]⟩, .string ⟨#[]⟩] 117)).drew := (Bel.alloc2 _ _ _).drew
  have k1 : ((w.alloc (.cells #[.bool p, u1, u2] 68)).alloc (.cells #[.bool false, .string ⟨#[]⟩, .string ⟨#[]⟩] 117)).drew.cell? ⟨w.heap.size, 1, none⟩ = some u1 := boxc (Bel.alloc0 _ _).drew 1 _ rfl
  have k2 : ((w.alloc (.cells #[.bool p, u1, u2] 68)).alloc (.cells #[.bool false, .string ⟨#[]⟩, .string ⟨#[]⟩] 117)).drew.cell? ⟨w.heap.size, 2, none⟩ = some u2 := boxc (Bel.alloc0 _ _).drew 2 _ rfl
  have HL := Lib.hid (fun (w' : World) (hq : Bel w w') => termKey_c l h u1 xl w' hl hll (h1.below hq))
  have HR := Lib.hid (fun (w' : World) (hq : Bel w w') => termKey_c l h u2 xr w' hr hlr (h2.below hq))
  clear h1 h2
  generalize keyT xl = a at *
  generalize keyT xr = b at *
  have hmin := fun (W : World) => Lib.run_min_strs (P := Try.prog) W #[9, 9] 9 a b
  have hmax := fun (W : World) => Lib.run_max_strs (P := Try.prog) W #[9, 9] 9 a b
  generalize Lib.minS a b = lo at *
  generalize Lib.maxS a b = hi at *
  go_enter Try.func114, Try.ntmps114
  go_wp2_with fail
  go_region_held3 (fun w' => w'.cell? ⟨w.heap.size, 1, none⟩ = some u1 ∧ w'.cell? ⟨w.heap.size, 2, none⟩ = some u2)
    (first | exact ⟨k14, k24⟩ | exact ⟨k13, k23⟩ | exact ⟨k1, k2⟩ | fail)
    (first
      | (go_at_call 133; refine (HR.out _ HB3).mono ?_; rintro e w4 ⟨rfl, hb4⟩; have HB4 := HB3.step hb4; have k14 := hb4.at (World.block_lt_of_cell? _ ⟨_, _, none⟩ k13) k13; have k24 := hb4.at (World.block_lt_of_cell? _ ⟨_, _, none⟩ k23) k23)
      | (go_at_call 133; refine (HL.out _ HB0).mono ?_; rintro e w3 ⟨rfl, hb3⟩; have HB3 := HB0.step hb3; have k13 := hb3.at (World.block_lt_of_cell? _ ⟨_, _, none⟩ k1) k1; have k23 := hb3.at (World.block_lt_of_cell? _ ⟨_, _, none⟩ k2) k2)
      | fail)
  have hbb := hb3.step hb4
  have e0 := hbb.at (b := w.heap.size) (off := 0) (by simp [World.drew]; omega) (show World.cell? _ _ = some (.bool p) from boxc (Bel.alloc0 _ _).drew 0 _ rfl)
  have y0 := hbb.at (b := w.heap.size + 1) (off := 0) (by simp [World.drew]) (show World.cell? _ _ = some (.bool false) from (Bel.drew0 _).at (by simp) (by simp [go_sem]))
  have y1 := hbb.at (b := w.heap.size + 1) (off := 1) (by simp [World.drew]) (show World.cell? _ _ = some (.string ⟨#[]⟩) from (Bel.drew0 _).at (by simp) (by simp [go_sem]))
  have y2 := hbb.at (b := w.heap.size + 1) (off := 2) (by simp [World.drew]) (show World.cell? _ _ = some (.string ⟨#[]⟩) from (Bel.drew0 _).at (by simp) (by simp [go_sem]))
  have g1 : ∀ i, w4.frozen? ⟨w.heap.size + 1, i, none⟩ = false := fun i => (hbb.frozen (p := ⟨w.heap.size + 1, i, none⟩) (by simp [World.drew])).trans (((Bel.drew0 _).frozen (p := ⟨w.heap.size + 1, i, none⟩) (by simp)).trans (by simp [go_sem]))
  go_wp2_with fail
  have HB5 := (((HB4.set (p := ⟨w.heap.size + 1, 0, none⟩) (by simp) (.bool p)).set (p := ⟨w.heap.size + 1, 1, none⟩) (by simp) (.string lo)).set (p := ⟨w.heap.size + 1, 2, none⟩) (by simp) (.string hi))
  refine bodyPost_ret (v := .agg #[.bool p, .string lo, .string hi]) (by simp [results, Try.results114, go_sem, y0, y1, y2]) rfl ⟨rfl, HB5⟩

set_option maxRecDepth 100000 in
set_option maxHeartbeats 1000000 in
theorem isSame_c (p : Bool) (x y : ByteArray) (w : World) :
    Calls Try.prog 115 #[.agg #[.bool p, .string x, .string y]] w (RetV w (.bool (decide (x = y)))) := by
  have e : (x.toList == y.toList) = decide (x = y) := by
    rw [Bool.eq_iff_iff]; simp [ba_inj]
  go_enter Try.func115, Try.ntmps115
  go_wp2_with fail
  go_ret
  exact ⟨rfl, Bel.alloc0 _ _⟩

def vK (k : Ky) : Value := .agg #[.bool k.1, .string k.2.1, .string k.2.2]
def cellsK (ks : List Ky) : List Value := ks.flatMap fun k => [.bool k.1, .string k.2.1, .string k.2.2]
theorem eqK (W : World) (a b : Ky) : (Op.equalIn 10000 117 (.agg #[.bool a.1, .string a.2.1, .string a.2.2]) (.agg #[.bool b.1, .string b.2.1, .string b.2.2])).run Try.prog W = .ok (decide (a = b)) W := by
  simp [go_sem, ba_inj]
  obtain ⟨p, x, y⟩ := a
  obtain ⟨q, x', y'⟩ := b
  simp only [Prod.mk.injEq]
  by_cases h1 : p = q
  · by_cases h2 : x = x'
    · by_cases h3 : y = y'
      · simp [h1, h2, h3]
      · simp [h1, h2, h3]
    · simp [h1, h2]
  · simp [h1]
theorem cellsK_len (ks : List Ky) : (cellsK ks).length = ks.length * 3 := by
  induction ks with
  | nil => rfl
  | cons x r ih => show (_ :: _ :: _ :: cellsK r).length = _; simp [ih]; omega
theorem cellsK_get (ks : List Ky) (j : Nat) (k : Ky) (h : ks[j]? = some k) : (cellsK ks)[j * 3]? = some (.bool k.1) ∧ (cellsK ks)[j * 3 + 1]? = some (.string k.2.1) ∧ (cellsK ks)[j * 3 + 2]? = some (.string k.2.2) := by
  induction ks generalizing j with
  | nil => simp at h
  | cons x r ih =>
    have e : cellsK (x :: r) = .bool x.1 :: .string x.2.1 :: .string x.2.2 :: cellsK r := rfl
    cases j with
    | zero => simp at h; subst h; rw [e]; simp
    | succ j =>
      rw [e, show (j + 1) * 3 = j * 3 + 1 + 1 + 1 from by omega]
      simpa using ih j (by simpa using h)
theorem cellsK_app (a b : List Ky) : cellsK (a ++ b) = cellsK a ++ cellsK b := by simp [cellsK]
/-- A row of keys of the call's own. -/
abbrev RowK (lo : Nat) (w : World) (v : Value) (ks : List Ky) : Prop := w.ownsRow lo 117 3 v ks.length (cellsK ks)
theorem RowK.nil (lo : Nat) (w : World) : RowK lo w (.slice none 0 0) [] := World.ownsRow_nil _ _ _ _
theorem RowK.form {lo : Nat} {w : World} {v : Value} {ks : List Ky} (h : RowK lo w v ks) : ∃ ad c, v = .slice ad ks.length c := by
  rcases h.2 with ⟨e1, h2⟩ | ⟨g, cap, cur, e1, _⟩
  · exact ⟨none, 0, by rw [e1, h2]⟩
  · exact ⟨_, _, e1⟩
theorem RowK.at {lo : Nat} {w : World} {ad : Option Addr} {n c : Nat} {ks : List Ky} (h : RowK lo w (.slice ad n c) ks) (j : Nat) (hj : j < ks.length) :
    ∃ g, ad = some ⟨g, 0, none⟩ ∧ w.cell? ⟨g, j * 3, none⟩ = some (.bool (ks.getD j (false, ByteArray.empty, ByteArray.empty)).1) ∧ w.cell? ⟨g, j * 3 + 1, none⟩ = some (.string (ks.getD j (false, ByteArray.empty, ByteArray.empty)).2.1) ∧ w.cell? ⟨g, j * 3 + 2, none⟩ = some (.string (ks.getD j (false, ByteArray.empty, ByteArray.empty)).2.2) := by
  have h0 := h
  rcases h.2 with ⟨e1, h2⟩ | ⟨g, cap, cur, e1, _⟩
  · omega
  · simp only [Value.slice.injEq] at e1
    obtain ⟨rfl, rfl, rfl⟩ := e1
    obtain ⟨t0, t1, t2⟩ := cellsK_get ks j _ (List.getElem?_eq_getElem hj)
    have e : ks.getD j (false, ByteArray.empty, ByteArray.empty) = ks[j] := by simp [List.getD, hj]
    rw [e]
    exact ⟨g, rfl, (h0.cellAt _ (by omega)).trans t0, (h0.cellAt _ (by omega)).trans t1, (h0.cellAt _ (by omega)).trans t2⟩

set_option maxRecDepth 100000 in
set_option maxHeartbeats 1000000 in
theorem indexK_c (lo : Nat) (v : Value) (ks : List Ky) (key : Ky) (w : World) (hl : ks.length ≤ 1048576) (hv : RowK lo w v ks) :
    Calls Try.prog 134 #[v, .agg #[.bool key.1, .string key.2.1, .string key.2.2]] w (fun e w' => (∃ z : Int, e = .returned (.int .i64 z) ∧ (decide (0 ≤ z) = ks.any (fun y => decide (key = y))) ∧ -1 ≤ z ∧ z ≤ 1048576) ∧ Bel w w') := by
  obtain ⟨ad, cap, rfl⟩ := hv.form
  have k0 : ∀ w', Bel (w.alloc (.cells #[.bool key.1, .string key.2.1, .string key.2.2] 117)) w' → w'.cell? ⟨w.heap.size, 0, none⟩ = some (.bool key.1) ∧ w'.cell? ⟨w.heap.size, 1, none⟩ = some (.string key.2.1) ∧ w'.cell? ⟨w.heap.size, 2, none⟩ = some (.string key.2.2) := fun w' hb => ⟨boxc hb 0 _ rfl, boxc hb 1 _ rfl, boxc hb 2 _ rfl⟩
  have K0 := Lib.hid k0
  clear k0
  go_enter Try.func134, Try.ntmps134
  go_wp2_with fail
  go_loopw [8] (fun i wr => ∃ k : Nat, k ≤ ks.length ∧ i = .int .i64 k ∧ ((ks.take k).any (fun y => decide (key = y)) = false) ∧ Bel (w.alloc (.cells #[.bool key.1, .string key.2.1, .string key.2.2] 117)) wr) (fun i _ => ks.length - (intOf i).toNat)
  case atStart => exact ⟨0, Nat.zero_le _, rfl, by simp, Bel.rfl' _⟩
  case round =>
    obtain ⟨k, hk, rfl, hno, hb⟩ := hrel
    obtain ⟨e0, e1, e2⟩ := K0.out _ (hb.drew)
    by_cases hlt : k < ks.length
    · obtain ⟨g, rfl, c0, c1, c2⟩ := RowK.at (ownsRow_bel hv hb.of_alloc) k hlt
      have hq := fun W => eqK W key (ks.getD k (false, ByteArray.empty, ByteArray.empty))
      have c0 := (Bel.drew0 wr).at (World.block_lt_of_cell? _ ⟨_, _, none⟩ c0) c0
      have c1 := (Bel.drew0 wr).at (World.block_lt_of_cell? _ ⟨_, _, none⟩ c1) c1
      have c2 := (Bel.drew0 wr).at (World.block_lt_of_cell? _ ⟨_, _, none⟩ c2) c2
      have hin1 : (k : Int) < ks.length := by omega
      have HTK : Hid (ks.take (k+1) = ks.take k ++ [ks.getD k (false, ByteArray.empty, ByteArray.empty)]) := by show _ = _; rw [List.take_succ_eq_append_getElem hlt]; simp [List.getD, hlt]
      have hmem := mem_getD ks (false, ByteArray.empty, ByteArray.empty) k hlt
      generalize ks.getD k (false, ByteArray.empty, ByteArray.empty) = y at *
      clear hv
      by_cases he : key = y
      · simp only [decide_eq_true he] at hq
        have HM : Hid (decide ((0 : Int) ≤ (k : Int)) = ks.any (fun y => decide (key = y))) := by show _ = _; rw [decide_eq_true (by omega)]; exact (List.any_eq_true.2 ⟨y, hmem, by simp [he]⟩).symm
        clear he hmem hno
        go_wp2_with fail
        go_region_held3 (fun w' => (w'.cell? ⟨w.heap.size, 0, none⟩ = some (.bool key.1) ∧ w'.cell? ⟨w.heap.size, 1, none⟩ = some (.string key.2.1) ∧ w'.cell? ⟨w.heap.size, 2, none⟩ = some (.string key.2.2)) ∧ w'.cell? ⟨g, k * 3, none⟩ = some (.bool y.1) ∧ w'.cell? ⟨g, k * 3 + 1, none⟩ = some (.string y.2.1) ∧ w'.cell? ⟨g, k * 3 + 2, none⟩ = some (.string y.2.2))
          (first | exact ⟨⟨e0, e1, e2⟩, c0, c1, c2⟩ | fail)
          (first | fail)
        go_wp2_with fail
        go_ret
        exact ⟨⟨_, rfl, HM.out, by omega, by omega⟩, hb.of_alloc.drew⟩
      · simp only [decide_eq_false he] at hq
        have HN : Hid ((ks.take (k+1)).any (fun y => decide (key = y)) = false) := by show _ = _; rw [HTK.out, List.any_append, hno]; simp [he]
        clear he hmem hno
        go_wp2_with fail
        go_region_held3 (fun w' => (w'.cell? ⟨w.heap.size, 0, none⟩ = some (.bool key.1) ∧ w'.cell? ⟨w.heap.size, 1, none⟩ = some (.string key.2.1) ∧ w'.cell? ⟨w.heap.size, 2, none⟩ = some (.string key.2.2)) ∧ w'.cell? ⟨g, k * 3, none⟩ = some (.bool y.1) ∧ w'.cell? ⟨g, k * 3 + 1, none⟩ = some (.string y.2.1) ∧ w'.cell? ⟨g, k * 3 + 2, none⟩ = some (.string y.2.2))
          (first | exact ⟨⟨e0, e1, e2⟩, c0, c1, c2⟩ | fail)
          (first | fail)
        go_wp2_with fail
        go_roundw
        case rel => exact ⟨k+1, by omega, by go_num, HN.out, hb.drew⟩
        case measure => simp [intOf]; omega
    · rw [List.take_of_length_le (by omega)] at hno
      have HM : Hid (decide ((0 : Int) ≤ -1) = ks.any (fun y => decide (key = y))) := by show _ = _; rw [hno]; rfl
      clear hno hv
      go_wp2_with fail
      go_ret
      exact ⟨⟨_, rfl, HM.out, by omega, by omega⟩, hb.of_alloc⟩
end Go.Proofs.Ytajmjjandkdhiaa
end
section
/- Chapter 4, the reference: literals and clauses that are valid, weights. -/
namespace Go.Proofs.Ytajmjjandkdhiaa
open Go.RowKit

set_option maxRecDepth 100000 in
set_option maxHeartbeats 400000 in
theorem l4Lit_c (l h l' h' : Nat) (v u1 u2 : Value) (ar xl xr : List Int) (p : Bool) (w : World) (hg : goodSign ar = true) (hl : xl.length ≤ 1048576) (hr : xr.length ≤ 1048576) (hv : SlI l h w v ar) (h1 : SlI l' h' w u1 xl) (h2 : SlI l' h' w u2 xr) :
    Calls Try.prog 99 #[.agg #[v], .agg #[.bool p, u1, u2]] w (RetV w (.bool (okTerm ar xl && okTerm ar xr))) := by
  have HB : Bel w ((w.alloc (.cells #[v] 26)).alloc (.cells #[.bool p, u1, u2] 68)) := Bel.alloc2 _ _ _
  cases e1 : okTerm ar xl with
  | false =>
    have HC := Lib.hid (fun (w' : World) (hb : Bel w w') => l1Term_v l h l' h' v u1 ar xl false w' e1 hg hl (hv.below hb) (h1.below hb))
    clear hv h1 h2 e1
    go_enter Try.func99, Try.ntmps99
    go_wp2_with fail
    refine (HC.out _ HB).mono ?_; rintro e w1 ⟨rfl, hb1⟩
    go_wp2_with fail
    go_ret
    exact ⟨rfl, HB.step hb1⟩
  | true =>
    rw [Bool.true_and]
    have HC := Lib.hid (fun (w' : World) (hb : Bel w w') => l1Term_v l h l' h' v u1 ar xl true w' e1 hg hl (hv.below hb) (h1.below hb))
    have HD := Lib.hid (fun (w' : World) (hb : Bel w w') => l1Term_c l h l' h' v u2 ar xr w' hg hr (hv.below hb) (h2.below hb))
    clear hv h1 h2 e1
    go_enter Try.func99, Try.ntmps99
    go_wp2_with fail
    refine (HC.out _ HB).mono ?_; rintro e w1 ⟨rfl, hb1⟩
    have k0 := hb1.at (b := w.heap.size) (off := 0) (by simp; omega) (show World.cell? _ _ = some v by simp [go_sem])
    have k2 := hb1.at (b := w.heap.size + 1) (off := 2) (by simp) (show World.cell? _ _ = some u2 by simp [go_sem])
    go_wp2_with fail
    refine (HD.out _ (HB.step hb1)).mono ?_; rintro e w2 ⟨rfl, hb2⟩
    go_wp2_with fail
    go_ret
    exact ⟨rfl, (HB.step hb1).step hb2⟩
end Go.Proofs.Ytajmjjandkdhiaa
end
