/- Texts merged, part 7. -/
import Derived.Lib.Bytealg
import Derived.Lib.Strings
import Derived.Test.YteegjnobmbcjiaaMgTidied6
section
namespace Go.Proofs.Yteegjnobmbcjiaa
open Go.RowKit

/-- The text of a term, as bytes. -/
def textBA (ar t : List Int) : ByteArray := if goodTerm ar t then ⟨(textAt ar t 0).toArray⟩ else ⟨#[]⟩
theorem ba_eq {A : ByteArray} {l : List UInt8} (h : A.data.toList = l) : A = ⟨l.toArray⟩ := by subst h; cases A; simp
theorem text_no {ar t : List Int} (h : goodTerm ar t = false) : textBA ar t = ⟨#[]⟩ := by simp [textBA, h]
theorem text_yes {ar t : List Int} (h : goodTerm ar t = true) : textBA ar t = ⟨(textAt ar t 0).toArray⟩ := by simp [textBA, h]

end Go.Proofs.Yteegjnobmbcjiaa
end
section
/- The draws of chapter 1: texts. -/
namespace Go.Proofs.Yteegjnobmbcjiaa
open Go.RowKit

theorem text_size (ar t : List Int) : (textBA ar t).size ≤ 120 := by
  cases h : goodTerm ar t with
  | false => rw [text_no h]; decide
  | true =>
    obtain ⟨hg, hok⟩ := goodTerm_iff.1 h
    have := textAt_le ar t hok 0 (by have := ((okTerm_iff _ _).1 hok).1; omega)
    rw [text_yes h, ba_size]
    simpa using this
def RetDI (w : World) (e : Ending) (w' : World) : Prop :=
  ∃ (sv tv : Value) (ar t : List Int), e = .returned (.tuple #[.agg #[sv], tv]) ∧ drawn ar ∧ SlI w.heap.size w'.heap.size w' sv ar ∧ SlI w.heap.size w'.heap.size w' tv t ∧ t.length ≤ 1000 ∧ Bel w w'
def RetDS (w : World) (e : Ending) (w' : World) : Prop :=
  ∃ (sv : Value) (ar : List Int) (s : ByteArray), e = .returned (.tuple #[.agg #[sv], .string s]) ∧ drawn ar ∧ SlI w.heap.size w'.heap.size w' sv ar ∧ s.size ≤ 1000 ∧ Bel w w'

end Go.Proofs.Yteegjnobmbcjiaa
end
section
/- Chapter 4, the reference: literals and clauses that are valid, weights. -/
namespace Go.Proofs.Yteegjnobmbcjiaa
open Go.RowKit

set_option maxRecDepth 100000 in
set_option maxHeartbeats 400000 in
theorem l4Lit_c (l h l' h' : Nat) (v u1 u2 : Value) (ar xl xr : List Int) (p : Bool) (w : World) (hg : goodSign ar = true) (hl : xl.length ≤ 1048576) (hr : xr.length ≤ 1048576) (hv : SlI l h w v ar) (h1 : SlI l' h' w u1 xl) (h2 : SlI l' h' w u2 xr) :
    Calls Try.prog 126 #[.agg #[v], .agg #[.bool p, u1, u2]] w (RetV w (.bool (okTerm ar xl && okTerm ar xr))) := by
  have HB : Bel w ((w.alloc (.cells #[v] 30)).alloc (.cells #[.bool p, u1, u2] 91)) := Bel.alloc2 _ _ _
  cases e1 : okTerm ar xl with
  | false =>
    have HC := Lib.hid (fun (w' : World) (hb : Bel w w') => l1Term_v l h l' h' v u1 ar xl false w' e1 hg hl (hv.below hb) (h1.below hb))
    clear hv h1 h2 e1
    go_enter Try.func126, Try.ntmps126
    go_wp2_with fail
    refine (HC.out _ HB).mono ?_; rintro e w1 ⟨rfl, hb1⟩
    go_wp2_with fail
    go_ret
    exact ⟨rfl, HB.step hb1⟩
  | true =>
    rw [Bool.true_and]
    have HC := Lib.hid (fun (w' : World) (hb : Bel w w') => l1Term_v l h l' h' v u1 ar xl true w' e1 hg hl (hv.below hb) (h1.below hb))
    have HD := Lib.hid (fun (w' : World) (hb : Bel w w') => l1Term_c l h l' h' v u2 ar xr w' hg hr (hv.below hb) (h2.below hb))
    clear hv h1 h2 e1
    go_enter Try.func126, Try.ntmps126
    go_wp2_with fail
    refine (HC.out _ HB).mono ?_; rintro e w1 ⟨rfl, hb1⟩
    have k0 := hb1.at (b := w.heap.size) (off := 0) (by simp; omega) (show World.cell? _ _ = some v by simp [go_sem])
    have k2 := hb1.at (b := w.heap.size + 1) (off := 2) (by simp) (show World.cell? _ _ = some u2 by simp [go_sem])
    go_wp2_with fail
    refine (HD.out _ (HB.step hb1)).mono ?_; rintro e w2 ⟨rfl, hb2⟩
    go_wp2_with fail
    go_ret
    exact ⟨rfl, (HB.step hb1).step hb2⟩
end Go.Proofs.Yteegjnobmbcjiaa
end
section
/- Chapter 4: facts on the answers. No program. -/
namespace Go.Proofs.Yteegjnobmbcjiaa
open Go.RowKit

theorem flat_all (ar : List Int) (c : List Lt) : (flatC c).all (okTerm ar) = c.all (okLit ar) := by
  induction c with
  | nil => rfl
  | cons x r ih => rw [flatC_cons]; simp only [List.all_cons, ih, okLit, Bool.and_assoc]
theorem goodTerms_flat (ar : List Int) {c : List Lt} (h : c.length ≤ 8) : goodTerms ar (flatC c) 16 = goodClause ar c := by
  unfold goodTerms goodClause okLits
  rw [flat_all, flatC_len, decide_eq_true (show 2 * c.length ≤ 16 by omega), decide_eq_true h, Bool.and_true, Bool.true_and]
theorem goodClause_long (ar : List Int) {c : List Lt} (h : ¬ c.length ≤ 8) : goodClause ar c = false := by
  unfold goodClause okLits
  rw [decide_eq_false h]; simp
theorem flat_mem {c : List Lt} {t : List Int} (h : t ∈ flatC c) : ∃ x ∈ c, t = x.2.1 ∨ t = x.2.2 := by
  unfold flatC at h
  obtain ⟨x, hx, ht⟩ := List.mem_flatMap.1 h
  exact ⟨x, hx, by simpa using ht⟩
theorem flat_ok {ar : List Int} {c : List Lt} (h : ∀ x ∈ c, okLit ar x = true) {t : List Int} (ht : t ∈ flatC c) : okTerm ar t = true := by
  obtain ⟨x, hx, e⟩ := flat_mem ht
  have := okLit_iff.1 (h x hx)
  rcases e with rfl | rfl
  · exact this.1
  · exact this.2
theorem mem_getD {α : Type} (l : List α) (d : α) (j : Nat) (h : j < l.length) : l.getD j d ∈ l := by
  rw [List.getD_eq_getElem?_getD, List.getElem?_eq_getElem h]; exact List.getElem_mem h
theorem ok_litC {ar : List Int} {c : List Lt} (h : goodClause ar c = true) {j : Nat} (hj : j < c.length) : okTerm ar (c.getD j lt0).2.1 = true ∧ okTerm ar (c.getD j lt0).2.2 = true :=
  okLits_get (goodClause_iff.1 h).2.2 j hj

theorem low_memC {t : List Int} (h : ∀ n ∈ t, -12 ≤ n) : ∀ k, k < t.length → -12 ≤ t.getD k 0 := fun k hk => h _ (mem_getD t 0 k hk)
theorem ok_low {ar t : List Int} (h : okTerm ar t = true) {n : Int} (hn : n ∈ t) : -12 ≤ n := by
  obtain ⟨k, hk, rfl⟩ := List.getElem_of_mem hn
  have := good_sym ar t h k hk
  simp [okSym, inB, hk] at this
  exact this.1
theorem flat_low {ar : List Int} {c : List Lt} (h : goodClause ar c = true) : ∀ k, k < (flatC c).flatten.length → -12 ≤ (flatC c).flatten.getD k 0 := by
  refine low_memC fun n hn => ?_
  obtain ⟨t, ht, hnt⟩ := List.mem_flatten.1 hn
  exact ok_low (flat_ok (goodClause_iff.1 h).2.2 ht) hnt

/-- The signs of c, those terms. -/
theorem zipC_len (c : List Lt) : ∀ ts : List (List Int), ts.length = 2 * c.length → (zipC c ts).length = c.length := by
  induction c with
  | nil => intro ts _; rfl
  | cons x c ih =>
    intro ts h
    match ts, h with
    | l :: r :: ts, h => simp [zipC, ih ts (by simp at h; omega)]
theorem zipC_flat (c : List Lt) : ∀ ts : List (List Int), ts.length = 2 * c.length → flatC (zipC c ts) = ts := by
  induction c with
  | nil => intro ts h; simp at h; subst h; rfl
  | cons x c ih =>
    intro ts h
    match ts, h with
    | l :: r :: ts, h => simp only [zipC, flatC_cons]; rw [ih ts (by simp at h; omega)]
theorem zipC_signs (c : List Lt) : ∀ ts : List (List Int), ts.length = 2 * c.length → (zipC c ts).map (·.1) = c.map (·.1) := by
  induction c with
  | nil => intro ts _; rfl
  | cons x c ih =>
    intro ts h
    match ts, h with
    | l :: r :: ts, h => simp [zipC, ih ts (by simp at h; omega)]
theorem zipC_get (c : List Lt) : ∀ (ts : List (List Int)) (j : Nat), ts.length = 2 * c.length → j < c.length → (zipC c ts).getD j lt0 = ((c.getD j lt0).1, ts.getD (2*j) [], ts.getD (2*j+1) []) := by
  induction c with
  | nil => intro ts j _ h; simp at h
  | cons x c ih =>
    intro ts j h hj
    match ts, h with
    | l :: r :: ts, h =>
      cases j with
      | zero => simp [zipC]
      | succ j =>
        have := ih ts j (by simp at h; omega) (by simpa using hj)
        simpa [zipC, show 2 * (j + 1) = 2 * j + 1 + 1 from by omega] using this
theorem zipC_map (f : List Int → List Int) (c : List Lt) : zipC c ((flatC c).map f) = c.map fun x => (x.1, f x.2.1, f x.2.2) := by
  induction c with
  | nil => rfl
  | cons x c ih => rw [flatC_cons]; simp [zipC, ih]

def varsInAns (ar : List Int) (c : List Lt) : List Int := if goodClause ar c then natsI (varsTo (mk (flatC c).flatten) 12) else []
theorem varsInAns_len (ar : List Int) (c : List Lt) : (varsInAns ar c).length ≤ 1048576 := by
  unfold varsInAns
  split
  · rw [natsI_len]; exact Nat.le_trans (varsTo_len _ _) (by omega)
  · exact Nat.zero_le _

def applyC (b : List (List Int)) (c : List Lt) : List Lt := c.map fun x => (x.1, appT b x.2.1, appT b x.2.2)
def applyCok (ar : List Int) (b : List (List Int)) (c : List Lt) : Bool := (goodSubst ar b && okLits ar c) && okLits ar (applyC b c)
def applyCAns (ar : List Int) (b : List (List Int)) (c : List Lt) : List Lt := if applyCok ar b c then applyC b c else []
theorem applyC_flat (b : List (List Int)) (c : List Lt) : flatC (applyC b c) = (flatC c).map (appT b) := by
  induction c with
  | nil => rfl
  | cons x c ih => rw [flatC_cons, show applyC b (x :: c) = (x.1, appT b x.2.1, appT b x.2.2) :: applyC b c from rfl, flatC_cons, ih]; rfl
theorem applyC_ok {ar : List Int} {b : List (List Int)} {c : List Lt} (hb : goodSubst ar b = true) (hc : okLits ar c = true) : okLits ar (applyC b c) = (flatC c).all (app40ok b) := by
  obtain ⟨hl, h⟩ := okLits_iff.1 hc
  unfold okLits
  rw [← flat_all, applyC_flat, show (applyC b c).length = c.length from by simp [applyC], decide_eq_true hl, Bool.true_and, List.all_map]
  rw [Bool.eq_iff_iff, List.all_eq_true, List.all_eq_true]
  constructor
  · intro k t ht
    rw [← app_ok hb (flat_ok h ht)]; exact k t ht
  · intro k t ht
    show okTerm ar (appT b t) = true
    rw [app_ok hb (flat_ok h ht)]; exact k t ht

def renC (c : List Lt) : List Lt := zipC c (renS [] (flatC c))
def renCAns (ar : List Int) (c : List Lt) : List Lt := if goodClause ar c then renC c else []
end Go.Proofs.Yteegjnobmbcjiaa
end
section
/- Chapter 4, the reference: valid clauses, weights. -/
namespace Go.Proofs.Yteegjnobmbcjiaa
open Go.RowKit

theorem okTerm_len {ar t : List Int} (h : okTerm ar t = true) : 1 ≤ t.length ∧ t.length ≤ 40 := ⟨((okTerm_iff ar t).1 h).1, ((okTerm_iff ar t).1 h).2.1⟩
theorem l4Lit_v (l h l' h' : Nat) (v u1 u2 : Value) (ar xl xr : List Int) (p q : Bool) (w : World) (hq : (okTerm ar xl && okTerm ar xr) = q) (hg : goodSign ar = true) (hl : xl.length ≤ 1048576) (hr : xr.length ≤ 1048576) (hv : SlI l h w v ar) (h1 : SlI l' h' w u1 xl) (h2 : SlI l' h' w u2 xr) :
    Calls Try.prog 126 #[.agg #[v], .agg #[.bool p, u1, u2]] w (RetV w (.bool q)) := by subst hq; exact l4Lit_c l h l' h' v u1 u2 ar xl xr p w hg hl hr hv h1 h2

set_option maxRecDepth 100000 in
set_option maxHeartbeats 400000 in
theorem l4Clause_c (l h l' h' : Nat) (v u : Value) (ar : List Int) (c : List Lt) (w : World) (hg : goodSign ar = true) (hx : shortC c) (hv : SlI l h w v ar) (hu : SlC l' h' w u c) :
    Calls Try.prog 77 #[.agg #[v], u] w (RetV w (.bool (okLits ar c))) := by
  obtain ⟨ad, cap, rfl⟩ := hu.form
  obtain ⟨hxl, hxj⟩ := hx
  go_enter Try.func77, Try.ntmps77
  go_wp2_with fail
  go_loopw [9] (fun i wr => ∃ k : Nat, k ≤ c.length ∧ i = .int .i64 k ∧ okTo ar c k ∧ Bel (w.alloc (.cells #[v] 30)) wr) (fun i _ => c.length - (intOf i).toNat)
  case atStart => exact ⟨0, Nat.zero_le _, rfl, fun j hj => absurd hj (by omega), Bel.rfl' _⟩
  case round =>
    obtain ⟨k, hk, rfl, hto, hb⟩ := hrel
    have hbox := boxc hb 0 _ rfl
    by_cases hlt : k < c.length
    · obtain ⟨b, off, u1, u2, rfl, hbs, c1, c2, c3, s1, s2⟩ := hu.at hb.of_alloc k hlt
      obtain ⟨hm1, hm2⟩ := hxj k hlt
      have hstep := hto.step (k := k)
      have hbad := okLits_bad (ar := ar) hlt
      have hin1 : (k : Int) < c.length := by omega
      have hvr := hv.below hb.of_alloc
      clear hu hv hxj hto
      unfold okLit at hstep hbad
      generalize c.getD k lt0 = x at *
      obtain ⟨p, xl, xr⟩ := x
      simp only at *
      obtain ⟨a1, d1, rfl⟩ := s1.form
      obtain ⟨a2, d2, rfl⟩ := s2.form
      have hbox2 := boxc (hb.alloc (.cells #[.bool p, .slice a1 xl.length d1, .slice a2 xr.length d2] 91)) 0 _ rfl
      cases hq : (okTerm ar xl && okTerm ar xr) with
      | false =>
        have E := Lib.hid (hbad hq)
        have HQ := Lib.hid hq
        clear hstep hbad hq
        go_wp2_with fail
        refine (l4Lit_v l h l' h' v _ _ ar xl xr p false _ HQ.out hg hm1 hm2 (hvr.alloc _) (s1.alloc _) (s2.alloc _)).mono ?_; rintro e w1 ⟨rfl, hb1⟩
        go_wp2_with fail
        go_ret
        exact ⟨by rw [E.out]; rfl, hb.of_alloc.step ((Bel.alloc0 _ _).step hb1)⟩
      | true =>
        have E := Lib.hid (hstep hq)
        have HQ := Lib.hid hq
        clear hstep hbad hq
        go_wp2_with fail
        refine (l4Lit_v l h l' h' v _ _ ar xl xr p true _ HQ.out hg hm1 hm2 (hvr.alloc _) (s1.alloc _) (s2.alloc _)).mono ?_; rintro e w1 ⟨rfl, hb1⟩
        go_wp2_with fail
        go_roundw
        case rel => exact ⟨k+1, by omega, by go_num, E.out, hb.step ((Bel.alloc0 _ _).step hb1)⟩
        case measure => simp [intOf]; omega
    · obtain rfl : k = c.length := by omega
      have E := Lib.hid hto.done
      have hd : decide ((c.length : Int) ≤ 8) = decide (c.length ≤ 8) := by rw [decide_eq_decide]; omega
      go_wp2_with fail
      go_ret
      exact ⟨by rw [E.out, ← hd]; rfl, hb.of_alloc⟩

set_option maxRecDepth 100000 in
set_option maxHeartbeats 400000 in
theorem l4Weight_c (l h : Nat) (v : Value) (c : List Lt) (w : World) (hx : sumC c ≤ 1048576) (hv : SlC l h w v c) :
    Calls Try.prog 83 #[v] w (RetV w (.int .i64 (lenC c : Nat))) := by
  obtain ⟨ad, cap, rfl⟩ := hv.form
  have hse := sumC_eq c
  go_enter Try.func83, Try.ntmps83
  go_wp2_with fail
  go_loopw [3, 8] (fun m i wr => ∃ k : Nat, k ≤ c.length ∧ i = .int .i64 k ∧ m = .int .i64 (lenC (c.take k) : Nat) ∧ Bel w wr) (fun _ i _ => c.length - (intOf i).toNat)
  case atStart => exact ⟨0, Nat.zero_le _, rfl, by simp [lenC, flatC, sumL], Bel.rfl' _⟩
  case round =>
    obtain ⟨k, hk, rfl, rfl, hb⟩ := hrel
    by_cases hlt : k < c.length
    · obtain ⟨b, off, u1, u2, rfl, hbs, c1, c2, c3, s1, s2⟩ := hv.at hb k hlt
      have hst := lenC_take c k hlt
      have hsl := lenC_get c k hlt
      have hin1 : (k : Int) < c.length := by omega
      clear hv
      generalize c.getD k lt0 = x at *
      obtain ⟨p, xl, xr⟩ := x
      simp only at *
      obtain ⟨a1, d1, rfl⟩ := s1.form
      obtain ⟨a2, d2, rfl⟩ := s2.form
      have HE : Hid (((lenC (c.take k) : Nat) : Int) + ((xl.length : Int) + xr.length) = (lenC (c.take (k+1)) : Nat)) := by show _ = _; omega
      have i1 := IntWalk.i64_in ((xl.length : Int) + xr.length) (by omega)
      have i2 := IntWalk.i64_in (((lenC (c.take k) : Nat) : Int) + ((xl.length : Int) + xr.length)) (by omega)
      clear s1 s2 hst hsl
      go_wp2_with fail
      go_roundw
      case rel => exact ⟨k+1, by omega, by go_num, by rw [← HE.out], hb.alloc _⟩
      case measure => simp [intOf]; omega
    · rw [lenC_all c k hlt]
      go_wp2_with fail
      go_ret
      exact ⟨rfl, hb⟩
end Go.Proofs.Yteegjnobmbcjiaa
end
section
/- Chapter 4, the reference: GoodClause, WeightOf. -/
namespace Go.Proofs.Yteegjnobmbcjiaa
open Go.RowKit

set_option maxRecDepth 100000 in
set_option maxHeartbeats 400000 in
theorem sGoodClause_t {l h l' h' : Nat} {v u : Value} {ar : List Int} {c : List Lt} {w : World} (ha : ar.length ≤ 1048576) (hv : SlI l h w v ar) (hc : sumC c ≤ 1048576) (hu : SlC l' h' w u c) :
    Calls Try.prog 33 #[.agg #[v], u] w (RetV w (.bool (goodClause ar c))) := by
  unfold goodClause
  cases hg : goodSign ar with
  | false =>
    rw [Bool.false_and]
    have HG := Lib.hid hg; clear hg
    go_enter Try.func33, Try.ntmps33
    go_wp2_with fail
    refine (sGoodSign_v _ _ _ _ _ _ HG.out ha (hv.alloc _)).mono ?_; rintro e w1 ⟨rfl, hb1⟩
    go_wp2_with fail
    go_ret
    exact ⟨rfl, hb1.of_alloc⟩
  | true =>
    rw [Bool.true_and]
    have HG := Lib.hid hg
    have HC := Lib.hid (fun (w' : World) (hb : Bel w w') => l4Clause_c l h l' h' v u ar c w' hg (shortC_of_sum hc) (hv.below hb) (hu.below hb))
    clear hg hc
    go_enter Try.func33, Try.ntmps33
    go_wp2_with fail
    refine (sGoodSign_v _ _ _ _ _ _ HG.out ha (hv.alloc _)).mono ?_; rintro e w1 ⟨rfl, hb1⟩
    have hbox := boxc hb1 0 _ rfl
    go_wp2_with fail
    refine (HC.out _ hb1.of_alloc).mono ?_; rintro e w2 ⟨rfl, hb2⟩
    go_wp2_with fail
    go_ret
    exact ⟨rfl, hb1.of_alloc.step hb2⟩
theorem sGoodClause_v {l h l' h' : Nat} {v u : Value} {ar : List Int} {c : List Lt} {w : World} {q : Bool} (he : goodClause ar c = q) (ha : ar.length ≤ 1048576) (hv : SlI l h w v ar) (hc : sumC c ≤ 1048576) (hu : SlC l' h' w u c) :
    Calls Try.prog 33 #[.agg #[v], u] w (RetV w (.bool q)) := by subst he; exact sGoodClause_t ha hv hc hu

set_option maxRecDepth 100000 in
set_option maxHeartbeats 400000 in
theorem sWeightOf_t {l h l' h' : Nat} {v u : Value} {ar : List Int} {c : List Lt} {w : World} (ha : ar.length ≤ 1048576) (hv : SlI l h w v ar) (hc : sumC c ≤ 1048576) (hu : SlC l' h' w u c) :
    Calls Try.prog 40 #[.agg #[v], u] w (RetV w (.tuple #[.int .i64 (weightAns ar c), .bool (goodClause ar c)])) := by
  unfold weightAns
  cases hg : goodClause ar c with
  | false =>
    rw [if_neg (by simp)]
    have HG := Lib.hid hg; clear hg
    go_enter Try.func40, Try.ntmps40
    go_wp2_with fail
    refine (sGoodClause_v HG.out ha (hv.alloc _) hc (hu.alloc _)).mono ?_; rintro e w1 ⟨rfl, hb1⟩
    go_wp2_with fail
    go_ret2
    exact ⟨rfl, hb1.of_alloc⟩
  | true =>
    rw [if_pos rfl]
    have HG := Lib.hid hg; clear hg
    have HC := Lib.hid (fun (w' : World) (hb : Bel w w') => l4Weight_c l' h' u c w' hc (hu.below hb))
    go_enter Try.func40, Try.ntmps40
    go_wp2_with fail
    refine (sGoodClause_v HG.out ha (hv.alloc _) hc (hu.alloc _)).mono ?_; rintro e w1 ⟨rfl, hb1⟩
    clear hc
    go_wp2_with fail
    refine (HC.out _ hb1.of_alloc).mono ?_; rintro e w2 ⟨rfl, hb2⟩
    go_wp2_with fail
    go_ret2
    exact ⟨rfl, hb1.of_alloc.step hb2⟩
end Go.Proofs.Yteegjnobmbcjiaa
end
section
/- Reading a term, plainly. No program. -/
namespace Go.Proofs.Yteegjnobmbcjiaa

def sepC (k : Nat) : UInt8 := if k = 0 then 40 else 44
/-- What a letter stands for. -/
def symAt (ar : List Int) (b : UInt8) : Option Int :=
  if inB b.toNat 65 76 then some (-1 - ((b.toNat : Int) - 65)) else if inB b.toNat 97 (97 + (ar.length : Int) - 1) then some ((b.toNat : Int) - 97) else none

abbrev Scanned := List Int × Nat × Bool
def scanArgs (g : Nat → Scanned) (T : List UInt8) : Nat → Nat → List Int → Nat → Scanned
  | 0, _, acc, p => if T[p]? = some 41 then (acc, p + 1, true) else ([], p, false)
  | m + 1, k, acc, p => if T[p]? = some (sepC k) then (if (g (p + 1)).2.2 then scanArgs g T m (k + 1) (acc ++ (g (p + 1)).1) (g (p + 1)).2.1 else ([], (g (p + 1)).2.1, false)) else ([], p, false)
def scanF (ar : List Int) (T : List UInt8) : Nat → Nat → Scanned
  | 0, p => ([], p, false)
  | f + 1, p => match T[p]? with
    | none => ([], T.length, false)
    | some b => match symAt ar b with
      | none => ([], p, false)
      | some n => if arOf ar n = 0 then ([n], p + 1, true) else scanArgs (scanF ar T f) T (arOf ar n) 0 [n] (p + 1)

/-- What holds of a result that began at p. -/
def ScanOk (T : List UInt8) (p : Nat) (r : Scanned) : Prop := r.2.1 ≤ T.length ∧ (r.2.2 = true → p < r.2.1 ∧ r.1.length ≤ r.2.1 - p) ∧ (r.2.2 = false → r.1 = [])

theorem scanArgs_ok (g : Nat → Scanned) (T : List UInt8) (p0 : Nat) (hg : ∀ q, q ≤ T.length → ScanOk T q (g q)) : ∀ (m k : Nat) (acc : List Int) (p : Nat), p0 < p → p ≤ T.length → acc.length ≤ p - p0 → ScanOk T p0 (scanArgs g T m k acc p) := by
  intro m
  induction m with
  | zero =>
    intro k acc p h1 h2 h3
    unfold scanArgs
    by_cases h : T[p]? = some 41
    · have := (List.getElem?_eq_some_iff.1 h).1
      rw [if_pos h]; exact ⟨by simp; omega, fun _ => ⟨by simp; omega, by simp; omega⟩, fun h => by simp at h⟩
    · rw [if_neg h]; exact ⟨h2, fun h => by simp at h, fun _ => rfl⟩
  | succ m ih =>
    intro k acc p h1 h2 h3
    unfold scanArgs
    by_cases h : T[p]? = some (sepC k)
    · have hl := (List.getElem?_eq_some_iff.1 h).1
      rw [if_pos h]
      obtain ⟨a1, a2, a3⟩ := hg (p + 1) (by omega)
      cases hb : (g (p + 1)).2.2 with
      | true =>
        rw [if_pos rfl]
        obtain ⟨b1, b2⟩ := a2 hb
        exact ih _ _ _ (by omega) a1 (by simp; omega)
      | false =>
        rw [if_neg (by simp)]
        exact ⟨a1, fun h => by simp at h, fun _ => rfl⟩
    · rw [if_neg h]; exact ⟨h2, fun h => by simp at h, fun _ => rfl⟩

theorem scan_end {ar : List Int} {T : List UInt8} {f p : Nat} (h : ¬ p < T.length) : scanF ar T (f + 1) p = ([], T.length, false) := by
  unfold scanF; rw [List.getElem?_eq_none (by omega)]
theorem scan_bad {ar : List Int} {T : List UInt8} {f p : Nat} {b : UInt8} (h : T[p]? = some b) (hs : symAt ar b = none) : scanF ar T (f + 1) p = ([], p, false) := by
  unfold scanF; rw [h]; simp only [hs]
theorem scan_leaf {ar : List Int} {T : List UInt8} {f p : Nat} {b : UInt8} {n : Int} (h : T[p]? = some b) (hs : symAt ar b = some n) (h0 : arOf ar n = 0) : scanF ar T (f + 1) p = ([n], p + 1, true) := by
  unfold scanF; rw [h]; simp only [hs]; rw [if_pos h0]
theorem scan_args {ar : List Int} {T : List UInt8} {f p : Nat} {b : UInt8} {n : Int} (h : T[p]? = some b) (hs : symAt ar b = some n) (h0 : arOf ar n ≠ 0) : scanF ar T (f + 1) p = scanArgs (scanF ar T f) T (arOf ar n) 0 [n] (p + 1) := by
  unfold scanF; rw [h]; simp only [hs]; rw [if_neg h0]
theorem args_done {g : Nat → Scanned} {T : List UInt8} {k p : Nat} {acc : List Int} (h : T[p]? = some 41) : scanArgs g T 0 k acc p = (acc, p + 1, true) := by unfold scanArgs; rw [if_pos h]
theorem args_noclose {g : Nat → Scanned} {T : List UInt8} {k p : Nat} {acc : List Int} (h : T[p]? ≠ some 41) : scanArgs g T 0 k acc p = ([], p, false) := by unfold scanArgs; rw [if_neg h]
theorem args_nosep {g : Nat → Scanned} {T : List UInt8} {m k p : Nat} {acc : List Int} (h : T[p]? ≠ some (sepC k)) : scanArgs g T (m + 1) k acc p = ([], p, false) := by
  conv => lhs; unfold scanArgs
  rw [if_neg h]
theorem args_bad {g : Nat → Scanned} {T : List UInt8} {m k p : Nat} {acc : List Int} (h : T[p]? = some (sepC k)) (hb : (g (p + 1)).2.2 = false) : scanArgs g T (m + 1) k acc p = ([], (g (p + 1)).2.1, false) := by
  conv => lhs; unfold scanArgs
  rw [if_pos h, if_neg (by simp [hb])]
theorem args_next {g : Nat → Scanned} {T : List UInt8} {m k p : Nat} {acc : List Int} (h : T[p]? = some (sepC k)) (hb : (g (p + 1)).2.2 = true) : scanArgs g T (m + 1) k acc p = scanArgs g T m (k + 1) (acc ++ (g (p + 1)).1) (g (p + 1)).2.1 := by
  conv => lhs; unfold scanArgs
  rw [if_pos h, if_pos hb]
theorem scanF_ok (ar : List Int) (T : List UInt8) : ∀ (f p : Nat), p ≤ T.length → ScanOk T p (scanF ar T f p) := by
  intro f
  induction f with
  | zero => intro p hp; exact ⟨hp, fun h => by simp [scanF] at h, fun _ => rfl⟩
  | succ f ih =>
    intro p hp
    by_cases hl : p < T.length
    · obtain ⟨b, h⟩ : ∃ b, T[p]? = some b := ⟨T[p], List.getElem?_eq_getElem hl⟩
      cases hs : symAt ar b with
      | none => rw [scan_bad h hs]; exact ⟨hp, fun h => by simp at h, fun _ => rfl⟩
      | some n =>
        by_cases h0 : arOf ar n = 0
        · rw [scan_leaf h hs h0]; exact ⟨by simp; omega, fun _ => ⟨by simp, by simp⟩, fun h => by simp at h⟩
        · rw [scan_args h hs h0]; exact scanArgs_ok _ T p ih _ _ _ _ (by omega) (by omega) (by simp)
    · rw [scan_end hl]; exact ⟨Nat.le_refl _, fun h => by simp at h, fun _ => rfl⟩
end Go.Proofs.Yteegjnobmbcjiaa
end
section
namespace Go.Proofs.Yteegjnobmbcjiaa
open Go.RowKit

def RetScan (w : World) (r : Scanned) (e : Ending) (w' : World) : Prop := ∃ ad n c, e = .returned (.tuple #[.slice ad n c, .int .i64 r.2.1, .bool r.2.2]) ∧ OwnI w.heap.size w'.heap.size w' (.slice ad n c) r.1 ∧ Bel w w'

theorem sa_get (s : ByteArray) (p : Nat) (h : p < s.size) : s.data.toList[p]? = some s[p] := by
  rw [List.getElem?_eq_getElem (by simpa using h)]; rfl

theorem sub97 (m : Nat) (h : 97 ≤ m) : ((m : Int) - 97).toNat = m - 97 := by omega
/-- A new slice of one int. -/
theorem own1 (w : World) (x : Int) : (w.alloc (.cells #[.int .i64 x] 3)).ownsRow w.heap.size 3 1 (.slice (some ⟨w.heap.size, 0, none⟩) 1 1) [x].length ([x].map (Value.int .i64)) :=
  World.ownsRow_lit w #[.int .i64 x] 1 (Nat.le_refl _) (by unfold maxLen; omega) rfl
theorem own_mono {w : World} {base base' e s n : Nat} {v : Value} {xs : List Value} (h : w.ownsRow base e s v n xs) (hb : base' ≤ base) : w.ownsRow base' e s v n xs := by
  refine ⟨h.1, ?_⟩
  rcases h.2 with h0 | ⟨g, cap, cur, e1, e2, r⟩
  · exact .inl h0
  · exact .inr ⟨g, cap, cur, e1, by omega, r⟩
theorem u8_ne {a b : UInt8} (h : a ≠ b) : (((a.toNat : Nat) : Int) != ((b.toNat : Nat) : Int)) = true := by
  rw [bne_iff_ne]; intro h2; exact h (UInt8.toNat_inj.1 (by omega))

end Go.Proofs.Yteegjnobmbcjiaa
end
section
namespace Go.Proofs.Yteegjnobmbcjiaa
open Go.RowKit
set_option maxRecDepth 100000

theorem varIdx : ∀ n : Nat, n < 256 → Lib.indexByte [65, 66, 67, 68, 69, 70, 71, 72, 73, 74, 75, 76] (UInt8.ofNat n) = if inB n 65 76 then (n : Int) - 65 else -1 := by decide +kernel
theorem symIdx : ∀ n : Nat, n < 256 → Lib.indexByte [97, 98, 99, 100, 101, 102, 103, 104, 105, 106] (UInt8.ofNat n) = if inB n 97 106 then (n : Int) - 97 else -1 := by decide +kernel
def numV (ar : List Int) (c : UInt8) : Value := match symAt ar c with | none => .tuple #[.int .i64 0, .bool false] | some x => .tuple #[.int .i64 x, .bool true]

theorem cut1 (s : ByteArray) (q : Nat) (h : q < s.size) : (s.extract q s.size).extract 0 1 = ⟨#[s[q]]⟩ := by
  apply ByteArray.ext
  simp only [ByteArray.data_extract]
  apply Array.ext
  · have h' : q < s.data.size := h
    simp; omega
  · intro i h1 h2
    simp at h2
    subst h2
    have h' : q < s.data.size := h
    simp only [Array.getElem_extract]
    rfl
theorem one_eq (a b : UInt8) : ((⟨#[a]⟩ : ByteArray).toList == [b]) = decide (some a = some b) := by
  have h : (⟨#[a]⟩ : ByteArray).toList = [a] := by rw [ByteArray.toList_eq]
  rw [h, Bool.eq_iff_iff]; simp

end Go.Proofs.Yteegjnobmbcjiaa
end
section
namespace Go.Proofs.Yteegjnobmbcjiaa
open Go.RowKit

theorem numV_none {ar : List Int} {c : UInt8} (h : symAt ar c = none) : numV ar c = .tuple #[.int .i64 0, .bool false] := by simp [numV, h]
theorem numV_some {ar : List Int} {c : UInt8} {x : Int} (h : symAt ar c = some x) : numV ar c = .tuple #[.int .i64 x, .bool true] := by simp [numV, h]
theorem sym_bd {ar : List Int} {c : UInt8} {x : Int} (h : symAt ar c = some x) : -12 ≤ x ∧ x < ar.length := by
  unfold symAt at h
  by_cases h1 : inB c.toNat 65 76 = true
  · rw [if_pos h1] at h; simp [inB] at h1 h; omega
  · rw [if_neg h1] at h
    by_cases h2 : inB c.toNat 97 (97 + (ar.length : Int) - 1) = true
    · rw [if_pos h2] at h; simp [inB] at h2 h; omega
    · rw [if_neg h2] at h; simp at h

end Go.Proofs.Yteegjnobmbcjiaa
end
section
/- ReadTerm: both functions. -/
namespace Go.Proofs.Yteegjnobmbcjiaa
open Go.RowKit

/-- What has been read is a term. -/
def ReadOk (ar : List Int) (r : Scanned) : Prop := r.2.2 = true → endGo ar r.1 1 0 = some r.1.length ∧ 1 ≤ r.1.length
theorem args_read (ar : List Int) (g : Nat → Scanned) (T : List UInt8) (hg : ∀ q, ReadOk ar (g q)) : ∀ (m k : Nat) (acc : List Int) (p : Nat), 1 ≤ acc.length → (∀ rest, endGo ar (acc ++ rest) 1 0 = endGo ar rest m acc.length) → ReadOk ar (scanArgs g T m k acc p) := by
  intro m
  induction m with
  | zero =>
    intro k acc p h1 h2
    by_cases h : T[p]? = some 41
    · rw [args_done h]
      intro _
      have := h2 []
      rw [List.append_nil, endGo_zero] at this
      exact ⟨this, h1⟩
    · rw [args_noclose h]; intro h; simp at h
  | succ m ih =>
    intro k acc p h1 h2
    by_cases h : T[p]? = some (sepC k)
    · cases hb : (g (p + 1)).2.2 with
      | false => rw [args_bad h hb]; intro h; simp at h
      | true =>
        rw [args_next h hb]
        obtain ⟨h3, h4⟩ := hg (p + 1) hb
        refine ih _ _ _ (by simp; omega) (fun rest => ?_)
        rw [List.append_assoc, h2, show m + 1 = 1 + m from by omega, endGo_add]
        have h5 : endGo ar ((g (p + 1)).1 ++ rest) 1 acc.length = some ((g (p + 1)).1.length + acc.length) := by
          have := endGo_shift ar ((g (p + 1)).1 ++ rest) 1 0 acc.length
          rw [Nat.zero_add] at this
          rw [this, endGo_ext ar _ _ _ _ _ h3]; rfl
        rw [h5]
        simp only [Option.bind_some, Nat.add_sub_cancel, List.drop_left', List.length_append]
        rw [Nat.add_comm]
    · rw [args_nosep h]; intro h; simp at h
theorem scan_read (ar : List Int) (T : List UInt8) : ∀ (f p : Nat), ReadOk ar (scanF ar T f p) := by
  intro f
  induction f with
  | zero => intro p h; simp [scanF] at h
  | succ f ih =>
    intro p
    by_cases hl : p < T.length
    · obtain ⟨b, h⟩ : ∃ b, T[p]? = some b := ⟨T[p], List.getElem?_eq_getElem hl⟩
      cases hs : symAt ar b with
      | none => rw [scan_bad h hs]; intro h; simp at h
      | some n =>
        have hok : okSym ar n = true := by have := sym_bd hs; simp [okSym, inB]; omega
        by_cases h0 : arOf ar n = 0
        · rw [scan_leaf h hs h0]
          intro _
          refine ⟨?_, by simp⟩
          show endGo ar [n] 1 0 = some 1
          rw [endGo_cons, if_pos hok, h0, endGo_zero]
        · rw [scan_args h hs h0]
          refine args_read ar _ T ih _ _ _ _ (by simp) (fun rest => ?_)
          show endGo ar (n :: rest) 1 0 = endGo ar rest (arOf ar n) 1
          rw [endGo_cons, if_pos hok, Nat.zero_add]
    · rw [scan_end hl]; intro h; simp at h
theorem read_term {ar : List Int} {r : Scanned} (h : ReadOk ar r) (hb : r.2.2 = true) : okTerm ar r.1 = decide (r.1.length ≤ 40) := by
  obtain ⟨h1, h2⟩ := h hb
  rw [Bool.eq_iff_iff, okTerm_iff, decide_eq_true_eq]
  constructor
  · exact fun h => h.2.1
  · exact fun h3 => ⟨h2, h3, by unfold endOf; rw [List.drop_zero]; exact h1⟩

/-- What ReadTerm answers. -/
def readCore (_ar : List Int) (n : Nat) (r : Scanned) : Scanned := if r.2.2 = false ∨ r.2.1 < n then ([], r.2.1, false) else if r.1.length ≤ 40 then r else ([], 0, false)
def readAns (ar : List Int) (s : ByteArray) : Scanned :=
  if goodSign ar = true ∧ s.size ≤ 200 then readCore ar s.size (scanF ar s.data.toList (s.data.toList.length + 1) 0) else ([], 0, false)
theorem readAns_len (ar : List Int) (s : ByteArray) : (readAns ar s).1.length ≤ 1048576 := by
  unfold readAns readCore
  split
  · split
    · exact Nat.zero_le _
    · split
      · rename_i h; exact Nat.le_trans h (by omega)
      · exact Nat.zero_le _
  · exact Nat.zero_le _
theorem read_no {ar : List Int} {s : ByteArray} (h : ¬ (goodSign ar = true ∧ s.size ≤ 200)) : readAns ar s = ([], 0, false) := if_neg h
theorem read_yes {ar : List Int} {s : ByteArray} (h1 : goodSign ar = true) (h2 : s.size ≤ 200) : readAns ar s = readCore ar s.size (scanF ar s.data.toList (s.data.toList.length + 1) 0) := if_pos ⟨h1, h2⟩

end Go.Proofs.Yteegjnobmbcjiaa
end
section
/- Unify: a round. -/
namespace Go.Proofs.Yteegjnobmbcjiaa
open Go.RowKit Go.Maps

theorem getD_mem {t : List Int} {i : Nat} (h : i < t.length) : t.getD i 0 ∈ t := by
  rw [show t.getD i 0 = t[i] from by simp [List.getD, h]]; exact List.getElem_mem h
theorem partOf_infix (t : List Int) (i e : Nat) : partOf t i e <:+: t := (List.take_prefix _ _).isInfix.trans (List.drop_suffix _ _).isInfix
theorem rawL_getA {F : Nat → List Int} (h : ∀ v, 12 ≤ v → F v = []) (v : Nat) : (rawL F).getD v [] = F v := by
  rcases Nat.lt_or_ge v 12 with h1 | h1
  · exact rawL_get F v h1
  · rw [h v h1]
    unfold rawL
    simp only [List.getD]
    rw [List.getElem?_eq_none (by simp; omega)]
    rfl
theorem other_or (x y : List Int) : other x y = x ∨ other x y = y := by unfold other; split <;> simp

/-- What is known of a round that begins with two different terms. -/
structure URound (ar x y : List Int) (n : Int) (o u : List Int) (d e : Nat) : Prop where
  dx : d < x.length
  dy : d < y.length
  ne : x.getD d 0 ≠ y.getD d 0
  low : -12 ≤ n
  oo : okTerm ar o = true
  dd : d < o.length
  en : endOf ar o d = some e
  de : d < e
  eo : e ≤ o.length
  pu : u = partOf o d e
  ok : okTerm ar u = true
theorem uround {ar a0 b0 x y : List Int} {F : Nat → List Int} (h : UInv ar a0 b0 x y F) (hne : x ≠ y) : ∃ e, URound ar x y (lowN x y) (other x y) (putU ar x y) (dif x y) e := by
  obtain ⟨h1, h2, h3⟩ := dif_at (okTerm_seq.1 h.okx).2 (okTerm_seq.1 h.oky).2 hne
  have hoo : okTerm ar (other x y) = true := by rcases other_or x y with e | e <;> rw [e]; exact h.okx; exact h.oky
  have hdd : dif x y < (other x y).length := by rcases other_or x y with e | e <;> rw [e] <;> assumption
  obtain ⟨e, he, hde, heo⟩ := good_end ar _ hoo _ hdd
  have hpu : putU ar x y = partOf (other x y) (dif x y) e := by unfold putU; rw [he]; rfl
  refine ⟨e, h1, h2, h3, ?_, hoo, hdd, he, hde, heo, hpu, ?_⟩
  · have a1 := okTerm_low h.okx _ h1
    have a2 := okTerm_low h.oky _ h2
    unfold lowN; split <;> assumption
  · rw [hpu]; exact partOf_ok ar _ _ _ hoo hdd he

structure UOk (ar a0 b0 x y : List Int) (F : Nat → List Int) (n : Int) (u : List Int) : Prop where
  neg : n < 0
  lo : -12 ≤ n
  not : n ∉ u
  free : F (-1 - n).toNat = []
  u40 : u.length ≤ 40
  up : 0 < u.length
  lx : (putFor n u x).length ≤ 1600
  ly : (putFor n u y).length ≤ 1600
  lF : ∀ v, (nextF n u F v).length ≤ 1600
  ax : putFor n u x = appT (rawL (nextF n u F)) a0
  ay : putFor n u y = appT (rawL (nextF n u F)) b0
  sx : seqT ar 1 (putFor n u x)
  sy : seqT ar 1 (putFor n u y)
  next : ¬ longU ar x y → UInv ar a0 b0 (putFor n u x) (putFor n u y) (nextF n u F)
  more : cnt (nextF n u F) 12 = cnt F 12 + 1
theorem app_next {n : Int} {u : List Int} {F : Nat → List Int} (hn : n < 0) (hu : u ≠ []) (hF : F (-1 - n).toNat = []) (hlow : ∀ v, 12 ≤ v → F v = []) (hn12 : -12 ≤ n) (t : List Int) : putFor n u (appT (rawL F) t) = appT (rawL (nextF n u F)) t := by
  have hlow2 : ∀ v, 12 ≤ v → nextF n u F v = [] := by
    intro v hv
    unfold nextF
    rw [upd_other _ _ (by omega), hlow v hv]; rfl
  unfold appT
  induction t with
  | nil => rfl
  | cons m t ih =>
    rw [List.flatMap_cons, List.flatMap_cons, putFor_append, ih]
    congr 1
    by_cases hm : m < 0
    · by_cases e : m = n
      · subst e
        rw [one1_free (by rw [rawL_getA hlow, hF]; simp), one1_var hm (by rw [rawL_getA hlow2]; unfold nextF; rw [upd_same]; exact List.length_pos_iff.2 hu), rawL_getA hlow2]
        unfold nextF
        rw [upd_same, putFor_cons, if_pos rfl, putFor_nil, List.append_nil]
      · have hv : (-1 - m).toNat ≠ (-1 - n).toNat := by omega
        have hG : nextF n u F (-1 - m).toNat = putFor n u (F (-1 - m).toNat) := by unfold nextF; rw [upd_other _ _ hv]
        by_cases hE : F (-1 - m).toNat = []
        · rw [one1_free (by rw [rawL_getA hlow, hE]; simp), one1_free (by rw [rawL_getA hlow2, hG, hE]; simp [putFor_nil]), putFor_cons, if_neg e, putFor_nil]; rfl
        · rw [one1_var hm (by rw [rawL_getA hlow]; exact List.length_pos_iff.2 hE), one1_var hm (by rw [rawL_getA hlow2, hG]; exact List.length_pos_iff.2 (putFor_ne hu hE)), rawL_getA hlow, rawL_getA hlow2, hG]
    · rw [one1_sym hm, one1_sym hm, putFor_cons, if_neg (by omega), putFor_nil]; rfl
theorem uok {ar a0 b0 x y : List Int} {F : Nat → List Int} (h : UInv ar a0 b0 x y F) (hne : x ≠ y) (hb : ¬ badU ar x y) : UOk ar a0 b0 x y F (lowN x y) (putU ar x y) := by
  obtain ⟨e, hR⟩ := uround h hne
  have hnb : ¬ 0 ≤ lowN x y ∧ lowN x y ∉ putU ar x y := by unfold badU at hb; exact not_or.1 hb
  have hmem : lowN x y ∈ x ∨ lowN x y ∈ y := by unfold lowN; split; exact .inr (getD_mem hR.dy); exact .inl (getD_mem hR.dx)
  have hlg : ¬ longU ar x y → (putFor (lowN x y) (putU ar x y) x).length ≤ 40 ∧ (putFor (lowN x y) (putU ar x y) y).length ≤ 40 := by unfold longU; omega
  have hsub : ∀ m, m ∈ putU ar x y → m ∈ x ∨ m ∈ y := by
    intro m hm
    rw [hR.pu] at hm
    have := (partOf_infix _ _ _).subset hm
    rcases other_or x y with e | e <;> rw [e] at this
    · exact .inl this
    · exact .inr this
  have hinf : putU ar x y <:+: x ∨ putU ar x y <:+: y := by
    have := partOf_infix (other x y) (dif x y) e
    rw [← hR.pu] at this
    rcases other_or x y with e | e <;> rw [e] at this
    · exact .inl this
    · exact .inr this
  have hlow := hR.low
  have hu := hR.ok
  clear hR hb hne
  generalize lowN x y = n at *
  generalize putU ar x y = u at *
  obtain ⟨hn, hnu⟩ := hnb
  have hn : n < 0 := by omega
  have hu40 := (okTerm_seq.1 hu).1
  have hup := ((okTerm_iff _ _).1 hu).1
  have hun : u ≠ [] := List.length_pos_iff.1 hup
  have hvn : (-1 - (((-1 - n).toNat : Nat) : Int)) = n := by omega
  have hfree : F (-1 - n).toNat = [] := by
    rcases Classical.em (F (-1 - n).toNat = []) with e | e
    · exact e
    · rcases hmem with h1 | h1
      · exact absurd (by rwa [hvn]) (h.notx _ e)
      · exact absurd (by rwa [hvn]) (h.noty _ e)
  have hx40 := (okTerm_seq.1 h.okx).1
  have hy40 := (okTerm_seq.1 h.oky).1
  have hlx : (putFor n u x).length ≤ 1600 := by have := putFor_len (n := n) (t := x) hu40 (by omega); omega
  have hly : (putFor n u y).length ≤ 1600 := by have := putFor_len (n := n) (t := y) hu40 (by omega); omega
  have hax : putFor n u x = appT (rawL (nextF n u F)) a0 := by rw [← app_next hn hun hfree h.low hlow, ← h.appx]
  have hay : putFor n u y = appT (rawL (nextF n u F)) b0 := by rw [← app_next hn hun hfree h.low hlow, ← h.appy]
  have hus := (okTerm_seq.1 hu).2
  have hsx := putFor_seq hn hus (okTerm_seq.1 h.okx).2
  have hsy := putFor_seq hn hus (okTerm_seq.1 h.oky).2
  have hnext : ∀ v, v ≠ (-1 - n).toNat → nextF n u F v = putFor n u (F v) := fun v hv => by unfold nextF; rw [upd_other _ _ hv]
  have hnew : nextF n u F (-1 - n).toNat = u := by unfold nextF; rw [upd_same]
  have hpe : ∀ v, v ≠ (-1 - n).toNat → (F v = [] ↔ nextF n u F v = []) := by
    intro v hv
    rw [hnext v hv]
    constructor
    · intro e; rw [e]; rfl
    · intro e
      rcases Classical.em (F v = []) with e2 | e2
      · exact e2
      · exact absurd e (putFor_ne hun e2)
  refine ⟨hn, hlow, hnu, hfree, hu40, hup, hlx, hly, ?_, hax, hay, hsx, hsy, ?_, ?_⟩
  · intro v
    by_cases e : v = (-1 - n).toNat
    · rw [e, hnew]; omega
    · rw [hnext v e]
      have := putFor_len (n := n) (t := F v) hu40 (by omega)
      have := h.len40 v
      omega
  · intro hl
    obtain ⟨hl1, hl2⟩ := hlg hl
    refine ⟨okTerm_seq.2 ⟨by omega, hsx⟩, okTerm_seq.2 ⟨by omega, hsy⟩, hax, hay, ?_, ?_, ?_, ?_, ?_⟩
    · intro v hv
      by_cases e : v = (-1 - n).toNat
      · rw [e, hnew]
        rcases hinf with h1 | h1
        · left; have := putFor_infix (n := n) (u := u) h1; rwa [putFor_not hnu] at this
        · right; have := putFor_infix (n := n) (u := u) h1; rwa [putFor_not hnu] at this
      · rw [hnext v e]
        exact (h.inf v (fun h => hv ((hpe v e).1 h))).imp putFor_infix putFor_infix
    · intro v hv
      by_cases e : v = (-1 - n).toNat
      · rw [e, hnew]; exact hus
      · rw [hnext v e]; exact putFor_seq hn hus (h.seq v (fun h => hv ((hpe v e).1 h)))
    · intro v hv hm
      by_cases e : v = (-1 - n).toNat
      · rw [e, hvn] at hm
        rcases putFor_mem hm with h1 | h1
        · exact hnu h1
        · exact h1.2 rfl
      · have hv2 : F v ≠ [] := fun h => hv ((hpe v e).1 h)
        rcases putFor_mem hm with h1 | h1
        · rcases hsub _ h1 with h2 | h2
          · exact h.notx v hv2 h2
          · exact h.noty v hv2 h2
        · exact h.notx v hv2 h1.1
    · intro v hv hm
      by_cases e : v = (-1 - n).toNat
      · rw [e, hvn] at hm
        rcases putFor_mem hm with h1 | h1
        · exact hnu h1
        · exact h1.2 rfl
      · have hv2 : F v ≠ [] := fun h => hv ((hpe v e).1 h)
        rcases putFor_mem hm with h1 | h1
        · rcases hsub _ h1 with h2 | h2
          · exact h.notx v hv2 h2
          · exact h.noty v hv2 h2
        · exact h.noty v hv2 h1.1
    · intro v hv
      rw [hnext v (by omega), h.low v hv]; rfl
  · exact cnt_new hfree (by rw [hnew]; exact hun) hpe (by omega)

def uniOk0 (ar a b : List Int) : Bool := goodTerm ar a && okTerm ar b
def uniR (ar a b : List Int) : Option (Nat → List Int) := uniGo ar 13 a b (fun _ => [])
def unifyOk (ar a b : List Int) : Bool := uniOk0 ar a b && (uniR ar a b).isSome
def unifyAns (ar a b : List Int) : List (List Int) := if uniOk0 ar a b then (match uniR ar a b with | some F => substL F | none => []) else []
theorem unify_no0 {ar a b : List Int} (h : uniOk0 ar a b = false) : unifyAns ar a b = [] ∧ unifyOk ar a b = false := by simp [unifyAns, unifyOk, h]
theorem unify_no {ar a b : List Int} (h : uniR ar a b = none) : unifyAns ar a b = [] ∧ unifyOk ar a b = false := by
  unfold unifyAns unifyOk
  rw [h]
  simp
theorem unify_yes {ar a b : List Int} {F : Nat → List Int} (h0 : uniOk0 ar a b = true) (h : uniR ar a b = some F) : unifyAns ar a b = substL F ∧ unifyOk ar a b = true := by
  unfold unifyAns unifyOk
  rw [h, h0]
  simp
theorem ug_len {ar a0 b0 : List Int} : ∀ (k : Nat) (x y : List Int) (F G : Nat → List Int), UInv ar a0 b0 x y F → uniGo ar k x y F = some G → ∀ v, (G v).length ≤ 40 := by
  intro k
  induction k with
  | zero => intro x y F G h e; simp [uniGo] at e
  | succ k ih =>
    intro x y F G h e
    by_cases h1 : x = y
    · rw [ug_same h1] at e
      simp at e
      rw [← e]; exact h.len40
    · by_cases h2 : badU ar x y
      · rw [ug_bad h1 h2] at e; simp at e
      · by_cases h3 : longU ar x y
        · rw [ug_long h1 h2 h3] at e; simp at e
        · rw [ug_next h1 h2 h3] at e
          exact ih _ _ _ _ ((uok h h1 h2).next h3) e
theorem unifyAns_len (ar a b : List Int) : tot (unifyAns ar a b) ≤ 1048576 := by
  unfold unifyAns
  split
  · rename_i h0
    simp only [uniOk0, Bool.and_eq_true] at h0
    have hp := (goodTerm_iff.1 h0.1).2
    cases h : uniR ar a b with
    | none => simp [tot, sumL]
    | some F =>
      have := ug_len 13 a b _ F (UInv.start hp h0.2) (by simpa [uniR] using h)
      exact substL_tot F (fun v _ => this v)
  · simp [tot, sumL]
end Go.Proofs.Yteegjnobmbcjiaa
end
section
/- Unify: the reference's inner functions. -/
namespace Go.Proofs.Yteegjnobmbcjiaa
open Go.RowKit Go.Maps

def sizesOk (ar : List Int) (b : List (List Int)) (x y : List Int) : Bool := b.all (okEmpty ar) && okTerm ar x && okTerm ar y

/-- The substitution of one term. -/
def oneF (v : Nat) (t : List Int) : Nat → List Int := upd (fun _ => []) v t
theorem oneF_get (v : Nat) (t : List Int) (hv : v < 12) (j : Nat) : (rawL (oneF v t)).getD j [] = if j = v then t else [] := by
  rw [rawL_getA (fun k hk => by unfold oneF; rw [upd_other _ _ (by omega)])]
  unfold oneF upd
  rfl
theorem oneF_app {v : Nat} {t : List Int} (hv : v < 12) (ht : 0 < t.length) (s : List Int) : appT (rawL (oneF v t)) s = putFor (-1 - (v : Int)) t s := by
  unfold appT putFor
  congr 1
  funext m
  by_cases hm : m < 0
  · by_cases e : m = -1 - (v : Int)
    · have e2 : (-1 - m).toNat = v := by omega
      rw [if_pos e, one1_var hm (by rw [oneF_get v t hv, e2, if_pos rfl]; exact ht), oneF_get v t hv, e2, if_pos rfl]
    · have e2 : (-1 - m).toNat ≠ v := by omega
      rw [if_neg e, one1_free (by rw [oneF_get v t hv, if_neg e2]; simp)]
  · rw [if_neg (by omega), one1_sym hm]
theorem oneF_lens {v : Nat} {t : List Int} (hv : v < 12) (ht : t.length ≤ 40) : lens40 (rawL (oneF v t)) := by
  intro j _
  rw [oneF_get v t hv]
  split <;> simp [ht]
theorem one_sls (w : World) (l h v : Nat) (x : Value) (t : List Int) (hv : v < 12) (hx : SlI l h w x t) (_hp : 0 < t.length) :
    SlS 0 (w.heap.size + 1) ((w.alloc (.cells (madeCells #[.slice none 0 0] 12) 22)).setCell ⟨w.heap.size, v, none⟩ x) (.slice (some ⟨w.heap.size, 0, none⟩) 12 12) (rawL (oneF v t)) := by
  have hr := ((rep12 w).stored v x).1
  refine ⟨_, 12, by rw [rawL_len], by rw [rawL_len]; exact Nat.le_refl _, ⟨by unfold maxLen; omega, fun h => by simp at h⟩, fun _ => ⟨w.heap.size, 0, rfl, Nat.zero_le _, Nat.lt_succ_self _, fun j hj => ?_⟩⟩
  rw [rawL_len] at hj
  have hc := hr.cellAt j (by omega)
  rw [Nat.zero_add, hc, List.getElem?_set, oneF_get v t hv]
  by_cases e : v = j
  · subst e
    rw [if_pos rfl, if_pos rfl, if_pos (by simpa using hv)]
    refine ⟨x, rfl, ?_⟩
    exact (((hx.in').alloc _).set (p := ⟨w.heap.size, v, none⟩) (.inr (Nat.le_refl _)) x).mono (Nat.zero_le _) (Nat.le_succ _)
  · rw [if_neg e, if_neg (Ne.symm e), List.getElem?_replicate, if_pos (by simpa using hj)]
    exact ⟨_, rfl, SlI.nil _ _ _⟩

/-- The same with longer terms. -/
def lensW (b : List (List Int)) : Prop := ∀ j, j < b.length → (b.getD j []).length ≤ 1600
theorem getD_lenW {b : List (List Int)} (h : lensW b) (j : Nat) : (b.getD j []).length ≤ 1600 := by
  rcases Nat.lt_or_ge j b.length with h1 | h1
  · exact h j h1
  · simp [List.getD, List.getElem?_eq_none h1]
theorem one1_lenW {b : List (List Int)} (h : lensW b) (n : Int) : (one1 b n).length ≤ 1600 := by
  unfold one1
  split
  · exact getD_lenW h _
  · simp
theorem appT_lenW {b : List (List Int)} (h : lensW b) (t : List Int) : (appT b t).length ≤ 1600 * t.length := by
  unfold appT
  induction t with
  | nil => simp
  | cons n t ih =>
    have := one1_lenW h n
    rw [List.flatMap_cons, List.length_append, List.length_cons]
    omega
theorem rawL_congr {F G : Nat → List Int} (h : ∀ v, v < 12 → F v = G v) : rawL F = rawL G := by
  unfold rawL
  apply List.map_congr_left
  intro v hv
  rw [List.mem_range] at hv
  exact h v hv
def RetOS (w : World) (F : Nat → List Int) (e : Ending) (w' : World) : Prop := ∃ g, e = .returned (.slice (some ⟨g, 0, none⟩) 12 12) ∧ OwnS w.heap.size w'.heap.size w' (.slice (some ⟨g, 0, none⟩) 12 12) (rawL F) ∧ Bel w w'
/-- What is laid up to index j. -/
def laidF (P : Nat → List Int) (j : Nat) : Nat → List Int := fun v => if v < j then P v else []
theorem laidF_zero (P : Nat → List Int) : laidF P 0 = fun _ => [] := by funext v; simp [laidF]
theorem laidF_succ (P : Nat → List Int) (j : Nat) : upd (laidF P j) j (P j) = laidF P (j+1) := by
  funext v
  unfold upd laidF
  by_cases e : v = j
  · subst e; simp
  · by_cases h : v < j
    · rw [if_neg e, if_pos h, if_pos (by omega)]
    · rw [if_neg e, if_neg h, if_neg (by omega)]
theorem laidF_none (P : Nat → List Int) (j : Nat) (h : P j = []) : laidF P j = laidF P (j+1) := by
  rw [← laidF_succ, h]
  funext v
  unfold upd
  split
  · rename_i e; subst e; simp [laidF]
  · rfl
end Go.Proofs.Yteegjnobmbcjiaa
end
section
/- Unify: the reference's, one more term found. -/
namespace Go.Proofs.Yteegjnobmbcjiaa
open Go.RowKit Go.Maps

end Go.Proofs.Yteegjnobmbcjiaa
end
