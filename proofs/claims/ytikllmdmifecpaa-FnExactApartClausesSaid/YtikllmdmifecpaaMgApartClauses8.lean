/- Texts merged, part 8. -/
import Derived.Shelf.SlicesE.Delete
import Derived.Lib.OwnBridge
import Derived.Test.YtikllmdmifecpaaMgApartClauses7
section
/- Chapter 4, the reference: valid clauses, weights. -/
namespace Go.Proofs.Ytikllmdmifecpaa
open Go.RowKit

theorem okTerm_len {ar t : List Int} (h : okTerm ar t = true) : 1 ≤ t.length ∧ t.length ≤ 40 := ⟨((okTerm_iff ar t).1 h).1, ((okTerm_iff ar t).1 h).2.1⟩
theorem l4Lit_v (l h l' h' : Nat) (v u1 u2 : Value) (ar xl xr : List Int) (p q : Bool) (w : World) (hq : (okTerm ar xl && okTerm ar xr) = q) (hg : goodSign ar = true) (hl : xl.length ≤ 1048576) (hr : xr.length ≤ 1048576) (hv : SlI l h w v ar) (h1 : SlI l' h' w u1 xl) (h2 : SlI l' h' w u2 xr) :
    Calls Try.prog 132 #[.agg #[v], .agg #[.bool p, u1, u2]] w (RetV w (.bool q)) := by subst hq; exact l4Lit_c l h l' h' v u1 u2 ar xl xr p w hg hl hr hv h1 h2

set_option maxRecDepth 100000 in
set_option maxHeartbeats 400000 in
theorem l4Clause_c (l h l' h' : Nat) (v u : Value) (ar : List Int) (c : List Lt) (w : World) (hg : goodSign ar = true) (hx : shortC c) (hv : SlI l h w v ar) (hu : SlC l' h' w u c) :
    Calls Try.prog 88 #[.agg #[v], u] w (RetV w (.bool (okLits ar c))) := by
  obtain ⟨ad, cap, rfl⟩ := hu.form
  obtain ⟨hxl, hxj⟩ := hx
  go_enter Try.func88, Try.ntmps88
  go_wp2_with fail
  go_loopw [9] (fun i wr => ∃ k : Nat, k ≤ c.length ∧ i = .int .i64 k ∧ okTo ar c k ∧ Bel (w.alloc (.cells #[v] 29)) wr) (fun i _ => c.length - (intOf i).toNat)
  case atStart => exact ⟨0, Nat.zero_le _, rfl, fun j hj => absurd hj (by omega), Bel.rfl' _⟩
  case round =>
    obtain ⟨k, hk, rfl, hto, hb⟩ := hrel
    have hbox := boxc hb 0 _ rfl
    by_cases hlt : k < c.length
    · obtain ⟨b, off, u1, u2, rfl, hbs, c1, c2, c3, s1, s2⟩ := hu.at hb.of_alloc k hlt
      obtain ⟨hm1, hm2⟩ := hxj k hlt
      have hstep := hto.step (k := k)
      have hbad := okLits_bad (ar := ar) hlt
      have hin1 : (k : Int) < c.length := by omega
      have hvr := hv.below hb.of_alloc
      clear hu hv hxj hto
      unfold okLit at hstep hbad
      generalize c.getD k lt0 = x at *
      obtain ⟨p, xl, xr⟩ := x
      simp only at *
      obtain ⟨a1, d1, rfl⟩ := s1.form
      obtain ⟨a2, d2, rfl⟩ := s2.form
      have hbox2 := boxc (hb.alloc (.cells #[.bool p, .slice a1 xl.length d1, .slice a2 xr.length d2] 106)) 0 _ rfl
      cases hq : (okTerm ar xl && okTerm ar xr) with
      | false =>
        have E := Lib.hid (hbad hq)
        have HQ := Lib.hid hq
        clear hstep hbad hq
        go_wp2_with fail
        refine (l4Lit_v l h l' h' v _ _ ar xl xr p false _ HQ.out hg hm1 hm2 (hvr.alloc _) (s1.alloc _) (s2.alloc _)).mono ?_; rintro e w1 ⟨rfl, hb1⟩
        go_wp2_with fail
        go_ret
        exact ⟨by rw [E.out]; rfl, hb.of_alloc.step ((Bel.alloc0 _ _).step hb1)⟩
      | true =>
        have E := Lib.hid (hstep hq)
        have HQ := Lib.hid hq
        clear hstep hbad hq
        go_wp2_with fail
        refine (l4Lit_v l h l' h' v _ _ ar xl xr p true _ HQ.out hg hm1 hm2 (hvr.alloc _) (s1.alloc _) (s2.alloc _)).mono ?_; rintro e w1 ⟨rfl, hb1⟩
        go_wp2_with fail
        go_roundw
        case rel => exact ⟨k+1, by omega, by go_num, E.out, hb.step ((Bel.alloc0 _ _).step hb1)⟩
        case measure => simp [intOf]; omega
    · obtain rfl : k = c.length := by omega
      have E := Lib.hid hto.done
      have hd : decide ((c.length : Int) ≤ 8) = decide (c.length ≤ 8) := by rw [decide_eq_decide]; omega
      go_wp2_with fail
      go_ret
      exact ⟨by rw [E.out, ← hd]; rfl, hb.of_alloc⟩

set_option maxRecDepth 100000 in
set_option maxHeartbeats 400000 in
theorem l4Weight_c (l h : Nat) (v : Value) (c : List Lt) (w : World) (hx : sumC c ≤ 1048576) (hv : SlC l h w v c) :
    Calls Try.prog 110 #[v] w (RetV w (.int .i64 (lenC c : Nat))) := by
  obtain ⟨ad, cap, rfl⟩ := hv.form
  have hse := sumC_eq c
  go_enter Try.func110, Try.ntmps110
  go_wp2_with fail
  go_loopw [3, 8] (fun m i wr => ∃ k : Nat, k ≤ c.length ∧ i = .int .i64 k ∧ m = .int .i64 (lenC (c.take k) : Nat) ∧ Bel w wr) (fun _ i _ => c.length - (intOf i).toNat)
  case atStart => exact ⟨0, Nat.zero_le _, rfl, by simp [lenC, flatC, sumL], Bel.rfl' _⟩
  case round =>
    obtain ⟨k, hk, rfl, rfl, hb⟩ := hrel
    by_cases hlt : k < c.length
    · obtain ⟨b, off, u1, u2, rfl, hbs, c1, c2, c3, s1, s2⟩ := hv.at hb k hlt
      have hst := lenC_take c k hlt
      have hsl := lenC_get c k hlt
      have hin1 : (k : Int) < c.length := by omega
      clear hv
      generalize c.getD k lt0 = x at *
      obtain ⟨p, xl, xr⟩ := x
      simp only at *
      obtain ⟨a1, d1, rfl⟩ := s1.form
      obtain ⟨a2, d2, rfl⟩ := s2.form
      have HE : Hid (((lenC (c.take k) : Nat) : Int) + ((xl.length : Int) + xr.length) = (lenC (c.take (k+1)) : Nat)) := by show _ = _; omega
      have i1 := IntWalk.i64_in ((xl.length : Int) + xr.length) (by omega)
      have i2 := IntWalk.i64_in (((lenC (c.take k) : Nat) : Int) + ((xl.length : Int) + xr.length)) (by omega)
      clear s1 s2 hst hsl
      go_wp2_with fail
      go_roundw
      case rel => exact ⟨k+1, by omega, by go_num, by rw [← HE.out], hb.alloc _⟩
      case measure => simp [intOf]; omega
    · rw [lenC_all c k hlt]
      go_wp2_with fail
      go_ret
      exact ⟨rfl, hb⟩
end Go.Proofs.Ytikllmdmifecpaa
end
section
/- Chapter 4, the reference: GoodClause, WeightOf. -/
namespace Go.Proofs.Ytikllmdmifecpaa
open Go.RowKit

set_option maxRecDepth 100000 in
set_option maxHeartbeats 400000 in
theorem sGoodClause_t {l h l' h' : Nat} {v u : Value} {ar : List Int} {c : List Lt} {w : World} (ha : ar.length ≤ 1048576) (hv : SlI l h w v ar) (hc : sumC c ≤ 1048576) (hu : SlC l' h' w u c) :
    Calls Try.prog 54 #[.agg #[v], u] w (RetV w (.bool (goodClause ar c))) := by
  unfold goodClause
  cases hg : goodSign ar with
  | false =>
    rw [Bool.false_and]
    have HG := Lib.hid hg; clear hg
    go_enter Try.func54, Try.ntmps54
    go_wp2_with fail
    refine (sGoodSign_v _ _ _ _ _ _ HG.out ha (hv.alloc _)).mono ?_; rintro e w1 ⟨rfl, hb1⟩
    go_wp2_with fail
    go_ret
    exact ⟨rfl, hb1.of_alloc⟩
  | true =>
    rw [Bool.true_and]
    have HG := Lib.hid hg
    have HC := Lib.hid (fun (w' : World) (hb : Bel w w') => l4Clause_c l h l' h' v u ar c w' hg (shortC_of_sum hc) (hv.below hb) (hu.below hb))
    clear hg hc
    go_enter Try.func54, Try.ntmps54
    go_wp2_with fail
    refine (sGoodSign_v _ _ _ _ _ _ HG.out ha (hv.alloc _)).mono ?_; rintro e w1 ⟨rfl, hb1⟩
    have hbox := boxc hb1 0 _ rfl
    go_wp2_with fail
    refine (HC.out _ hb1.of_alloc).mono ?_; rintro e w2 ⟨rfl, hb2⟩
    go_wp2_with fail
    go_ret
    exact ⟨rfl, hb1.of_alloc.step hb2⟩
theorem sGoodClause_v {l h l' h' : Nat} {v u : Value} {ar : List Int} {c : List Lt} {w : World} {q : Bool} (he : goodClause ar c = q) (ha : ar.length ≤ 1048576) (hv : SlI l h w v ar) (hc : sumC c ≤ 1048576) (hu : SlC l' h' w u c) :
    Calls Try.prog 54 #[.agg #[v], u] w (RetV w (.bool q)) := by subst he; exact sGoodClause_t ha hv hc hu

set_option maxRecDepth 100000 in
set_option maxHeartbeats 400000 in
theorem sWeightOf_t {l h l' h' : Nat} {v u : Value} {ar : List Int} {c : List Lt} {w : World} (ha : ar.length ≤ 1048576) (hv : SlI l h w v ar) (hc : sumC c ≤ 1048576) (hu : SlC l' h' w u c) :
    Calls Try.prog 61 #[.agg #[v], u] w (RetV w (.tuple #[.int .i64 (weightAns ar c), .bool (goodClause ar c)])) := by
  unfold weightAns
  cases hg : goodClause ar c with
  | false =>
    rw [if_neg (by simp)]
    have HG := Lib.hid hg; clear hg
    go_enter Try.func61, Try.ntmps61
    go_wp2_with fail
    refine (sGoodClause_v HG.out ha (hv.alloc _) hc (hu.alloc _)).mono ?_; rintro e w1 ⟨rfl, hb1⟩
    go_wp2_with fail
    go_ret2
    exact ⟨rfl, hb1.of_alloc⟩
  | true =>
    rw [if_pos rfl]
    have HG := Lib.hid hg; clear hg
    have HC := Lib.hid (fun (w' : World) (hb : Bel w w') => l4Weight_c l' h' u c w' hc (hu.below hb))
    go_enter Try.func61, Try.ntmps61
    go_wp2_with fail
    refine (sGoodClause_v HG.out ha (hv.alloc _) hc (hu.alloc _)).mono ?_; rintro e w1 ⟨rfl, hb1⟩
    clear hc
    go_wp2_with fail
    refine (HC.out _ hb1.of_alloc).mono ?_; rintro e w2 ⟨rfl, hb2⟩
    go_wp2_with fail
    go_ret2
    exact ⟨rfl, hb1.of_alloc.step hb2⟩
end Go.Proofs.Ytikllmdmifecpaa
end
section
/- Chapter 6: the answers, as plain functions. No program. -/
namespace Go.Proofs.Ytikllmdmifecpaa
open Go.RowKit

theorem varsTo_pair (f : Nat → Bool) (n : Nat) : (varsTo f n).Pairwise (· < ·) := by
  unfold varsTo
  exact List.Pairwise.sublist List.filter_sublist List.pairwise_lt_range
theorem varsTo_lt {f : Nat → Bool} {n j : Nat} (h : j ∈ varsTo f n) : j < n := by simp [varsTo] at h; exact h.1
/-- The numbers of a clause's variables. -/
def vC (c : List Lt) : List Nat := varsTo (mk (flatC c).flatten) 12
theorem vC_len (c : List Lt) : (vC c).length ≤ 12 := varsTo_len _ _
/-- One more than the greatest variable. -/
def byC (c : List Lt) : Nat := if (vC c).length = 0 then 0 else (vC c).getD ((vC c).length - 1) 0 + 1
theorem byC_no {c : List Lt} (h : (vC c).length = 0) : byC c = 0 := by unfold byC; rw [if_pos h]
theorem byC_yes {c : List Lt} (h : 0 < (vC c).length) : byC c = (vC c).getD ((vC c).length - 1) 0 + 1 := by unfold byC; rw [if_neg (by omega)]
theorem vC_lt {c : List Lt} {j : Nat} (hj : j < (vC c).length) : (vC c).getD j 0 < 12 := by
  have : (vC c).getD j 0 ∈ vC c := mem_getD _ _ _ hj
  exact varsTo_lt this
theorem byC_le (c : List Lt) : byC c ≤ 12 := by
  unfold byC
  split
  · omega
  · have := vC_lt (c := c) (j := (vC c).length - 1) (by omega); omega
theorem pair_le {l : List Nat} (h : l.Pairwise (· < ·)) {i j : Nat} (hij : i < j) (hj : j < l.length) : l.getD i 0 < l.getD j 0 := by
  have := List.pairwise_iff_getElem.1 h i j (by omega) hj hij
  simpa [List.getD, show i < l.length by omega, hj] using this

/-- d, its variables shifted. -/
def shiftC (d : Nat) (c : List Lt) : List Lt := c.map fun x => (x.1, shifted x.2.1 d, shifted x.2.2 d)
theorem shiftC_len (d : Nat) (c : List Lt) : (shiftC d c).length = c.length := by simp [shiftC]
theorem shiftC_flat (d : Nat) (c : List Lt) : flatC (shiftC d c) = (flatC c).map (fun t => shifted t d) := by
  induction c with
  | nil => rfl
  | cons x c ih => rw [flatC_cons, show shiftC d (x :: c) = (x.1, shifted x.2.1 d, shifted x.2.2 d) :: shiftC d c from rfl, flatC_cons, ih]; rfl
theorem shiftC_zip (d : Nat) (c : List Lt) : zipC c ((flatC c).map (fun t => shifted t d)) = shiftC d c := zipC_map _ c
theorem shiftC_get (d : Nat) (c : List Lt) (j : Nat) (hj : j < c.length) : (shiftC d c).getD j lt0 = ((c.getD j lt0).1, shifted (c.getD j lt0).2.1 d, shifted (c.getD j lt0).2.2 d) := by simp [shiftC, List.getD, hj]
def apartC (c d : List Lt) : List Lt := shiftC (byC c) d
theorem shift_all {ar : List Int} {d : List Lt} (n : Nat) (hg : goodSign ar = true) (hd : okLits ar d = true) (hn : n ≤ 12) : okLits ar (shiftC n d) = (flatC d).all (fun t => shiftOk ar t n) := by
  obtain ⟨hl, h⟩ := okLits_iff.1 hd
  unfold okLits
  rw [← flat_all, shiftC_flat, shiftC_len, decide_eq_true hl, Bool.true_and, List.all_map]
  have : ∀ t ∈ flatC d, shiftOk ar t n = okTerm ar (shifted t n) := by
    intro t ht
    have h1 := flat_ok h ht
    unfold shiftOk goodTerm inB
    rw [hg, h1, decide_eq_true (show (0:Int) ≤ n by omega), decide_eq_true (show (n:Int) ≤ 12 by omega)]
    simp
  rw [Bool.eq_iff_iff, List.all_eq_true, List.all_eq_true]
  constructor
  · intro k t ht; rw [this t ht]; exact k t ht
  · intro k t ht; show okTerm ar (shifted t n) = true; rw [← this t ht]; exact k t ht
theorem shiftC_short {ar : List Int} {d : List Lt} (n : Nat) (hd : okLits ar d = true) : shortC (shiftC n d) := by
  obtain ⟨h8, hok⟩ := okLits_iff.1 hd
  refine ⟨by rw [shiftC_len]; omega, fun j hj => ?_⟩
  rw [shiftC_len] at hj
  obtain ⟨o1, o2⟩ := okLits_get hok j hj
  rw [shiftC_get _ _ _ hj]
  have k1 := (okTerm_len o1).2
  have k2 := (okTerm_len o2).2
  exact ⟨by show (shifted _ _).length ≤ _; rw [shifted_len]; omega, by show (shifted _ _).length ≤ _; rw [shifted_len]; omega⟩
theorem okLits_short {ar : List Int} {d : List Lt} (hd : okLits ar d = true) : shortC d := by
  obtain ⟨h8, hok⟩ := okLits_iff.1 hd
  refine ⟨by omega, fun j hj => ?_⟩
  obtain ⟨o1, o2⟩ := okLits_get hok j hj
  have k1 := (okTerm_len o1).2
  have k2 := (okTerm_len o2).2
  omega
def apOk (ar : List Int) (c d : List Lt) : Bool := (goodClause ar c && okLits ar d) && okLits ar (apartC c d)
def apAns (ar : List Int) (c d : List Lt) : List Lt := if apOk ar c d then apartC c d else []
end Go.Proofs.Ytikllmdmifecpaa
end
section
/- Rows of slices whose elements lie in older memory: copies, deletion. -/
namespace Go.Proofs.Ytikllmdmifecpaa
open Go.RowKit

/-- A slice's three words. -/
abbrev SV := Option Addr × Nat × Nat
def encS (x : SV) : Value := .slice x.1 x.2.1 x.2.2
theorem encS_one (zs : List SV) : ∀ u ∈ zs.map encS, u.oneCell' = true := by
  intro u hu; obtain ⟨z, _, rfl⟩ := List.mem_map.1 hu; rfl
/-- The elements, read in the world W. -/
def Els (W : World) (zs : List SV) (xss : List (List Int)) : Prop := zs.length = xss.length ∧ ∀ j z, zs[j]? = some z → SlI 0 W.heap.size W (encS z) (xss.getD j [])
def RowV (W wr : World) (v : Value) (xss : List (List Int)) : Prop := ∃ zs : List SV, wr.ownsRow W.heap.size 22 1 v zs.length (zs.map encS) ∧ Els W zs xss
def RetRow (W : World) (xss : List (List Int)) (e : Ending) (w' : World) : Prop := ∃ ad n c, e = .returned (.slice ad n c) ∧ RowV W w' (.slice ad n c) xss ∧ Bel W w'
theorem Els.nil (W : World) : Els W [] [] := ⟨rfl, fun j z h => by simp at h⟩
theorem Els.at {W : World} {zs : List SV} {xss : List (List Int)} (h : Els W zs xss) {j : Nat} (hj : j < xss.length) : ∃ z, zs[j]? = some z ∧ SlI 0 W.heap.size W (encS z) (xss.getD j []) :=
  ⟨_, List.getElem?_eq_getElem (by rw [h.1]; exact hj), h.2 j _ (List.getElem?_eq_getElem (by rw [h.1]; exact hj))⟩
theorem Els.erase {W : World} {zs : List SV} {xss : List (List Int)} (h : Els W zs xss) (i : Nat) (_ : i < xss.length) : Els W (zs.eraseIdx i) (xss.eraseIdx i) := by
  refine ⟨by rw [List.length_eraseIdx, List.length_eraseIdx, h.1], fun j z hj => ?_⟩
  rw [List.getElem?_eraseIdx] at hj
  by_cases hlt : j < i
  · rw [if_pos hlt] at hj
    have := h.2 j z hj
    rwa [show (xss.eraseIdx i).getD j [] = xss.getD j [] from by simp [List.getD, List.getElem?_eraseIdx, hlt]]
  · rw [if_neg hlt] at hj
    have := h.2 (j+1) z hj
    rwa [show (xss.eraseIdx i).getD j [] = xss.getD (j+1) [] from by simp [List.getD, List.getElem?_eraseIdx, hlt]]
theorem Els.snoc {W : World} {zs : List SV} {xss : List (List Int)} (h : Els W zs xss) {z : SV} {t : List Int} (hz : SlI 0 W.heap.size W (encS z) t) : Els W (zs ++ [z]) (xss ++ [t]) := by
  refine ⟨by simp [h.1], fun j u hj => ?_⟩
  by_cases e : j < zs.length
  · rw [List.getElem?_append_left e] at hj
    have := h.2 j u hj
    rwa [show (xss ++ [t]).getD j [] = xss.getD j [] from by simp [List.getD, List.getElem?_append_left (show j < xss.length by rw [← h.1]; exact e)]]
  · have hlt := (List.getElem?_eq_some_iff.1 hj).1
    simp at hlt
    obtain rfl : j = zs.length := by omega
    rw [List.getElem?_append_right (Nat.le_refl _), Nat.sub_self] at hj
    simp at hj
    subst hj
    rwa [show (xss ++ [t]).getD zs.length [] = t from by rw [h.1]; simp [List.getD]]
theorem RowV.form {W wr : World} {v : Value} {xss : List (List Int)} (h : RowV W wr v xss) : ∃ ad c, v = .slice ad xss.length c := by
  obtain ⟨zs, ho, he⟩ := h
  obtain ⟨ad, n, c, rfl⟩ := own_form ho
  have := row_len ho
  rw [he.1] at this
  exact ⟨ad, c, by rw [this]⟩
theorem RowV.bel {W wr w2 : World} {v : Value} {xss : List (List Int)} (h : RowV W wr v xss) (hb : Bel wr w2) : RowV W w2 v xss := by
  obtain ⟨zs, ho, he⟩ := h
  exact ⟨zs, ownsRow_bel ho hb, he⟩
theorem RowV.sls {W wr : World} {v : Value} {xss : List (List Int)} (h : RowV W wr v xss) (hb : Bel W wr) : SlS 0 wr.heap.size wr v xss := by
  obtain ⟨zs, h1, h2, h3⟩ := h
  have h0 := h1
  rcases h1.2 with ⟨rfl, hn⟩ | ⟨g, cap, cur, rfl, hg, hh, hn, hc, hs, ht⟩
  · obtain rfl : xss = [] := List.length_eq_zero_iff.1 (by omega)
    exact SlS.nil _ _ _
  · have hgs : g < wr.heap.size := (Array.getElem?_eq_some_iff.1 hh).1
    refine ⟨_, cap, by rw [h2], by omega, ⟨hc, fun h => by simp at h⟩, fun hp => ⟨g, 0, rfl, Nat.zero_le _, hgs, fun j hj => ?_⟩⟩
    have hju : zs[j]? = some zs[j] := List.getElem?_eq_getElem (by omega)
    refine ⟨encS zs[j], by rw [Nat.zero_add, h0.cellAt j (by omega), List.getElem?_map, hju]; rfl, ?_⟩
    exact ((h3 j _ hju).below hb).mono (Nat.le_refl _) hb.size
/-- Reading the k-th. -/
theorem RowV.at {W wr : World} {ad : Option Addr} {n c : Nat} {xss : List (List Int)} (h : RowV W wr (.slice ad n c) xss) (k : Nat) (hk : k < xss.length) :
    ∃ g z, ad = some ⟨g, 0, none⟩ ∧ W.heap.size ≤ g ∧ wr.cell? ⟨g, k, none⟩ = some (encS z) ∧ SlI 0 W.heap.size W (encS z) (xss.getD k []) := by
  obtain ⟨zs, h1, h2⟩ := h
  have h0 := h1
  obtain ⟨z, hz, hs⟩ := h2.at hk
  rcases h1.2 with ⟨e, hn⟩ | ⟨g, cap, cur, e, hg, hh, _⟩
  · rw [h2.1] at hn; omega
  · simp only [Value.slice.injEq] at e
    obtain ⟨rfl, rfl, rfl⟩ := e
    exact ⟨g, z, rfl, hg, by rw [h0.cellAt k (by rw [h2.1]; omega), List.getElem?_map, hz]; rfl, hs⟩

theorem skolem_lt {α : Type} [Inhabited α] {n : Nat} {P : Nat → α → Prop} (H : ∀ j, j < n → ∃ z, P j z) : ∃ f : Nat → α, ∀ j, j < n → P j (f j) :=
  ⟨fun j => if h : j < n then Classical.choose (H j h) else default, fun j hj => by
    show P j (dite (j < n) (fun h => Classical.choose (H j h)) (fun _ => default))
    rw [dif_pos hj]; exact Classical.choose_spec (H j hj)⟩
/-- The three words of the elements of a slice of slices. -/
theorem SlS.vals {lo hi : Nat} {w : World} {ad : Option Addr} {n c : Nat} {xss : List (List Int)} (h : SlS lo hi w (.slice ad n c) xss) : ∃ zs : List SV, Els w zs xss ∧ ∀ a, ad = some a → ∀ j u, (zs.map encS)[j]? = some u → w.cell? (a.add j) = some u := by
  obtain ⟨ad', cap, e, hc, hm, hr⟩ := h
  simp only [Value.slice.injEq] at e
  obtain ⟨rfl, rfl, rfl⟩ := e
  by_cases hp : 0 < xss.length
  · obtain ⟨b, off, rfl, a1, a2, a3⟩ := hr hp
    have H : ∀ j, j < xss.length → ∃ z : SV, w.cell? ⟨b, off + j, none⟩ = some (encS z) ∧ SlI lo hi w (encS z) (xss.getD j []) := fun j hj => by
      obtain ⟨u, h1, h2⟩ := a3 j hj
      obtain ⟨x, y, rfl⟩ := h2.form
      exact ⟨(x, _, y), h1, h2⟩
    obtain ⟨f, hf⟩ := skolem_lt H
    refine ⟨(List.range xss.length).map f, ⟨by simp, fun j z hj => ?_⟩, fun a ha j u hj => ?_⟩
    · have hlt := (List.getElem?_eq_some_iff.1 hj).1
      simp at hlt
      rw [List.getElem?_map, List.getElem?_range hlt] at hj
      simp only [Option.map_some, Option.some.injEq] at hj
      subst hj
      exact (hf j hlt).2.in'
    · have hlt := (List.getElem?_eq_some_iff.1 hj).1
      simp at hlt
      rw [List.getElem?_map, List.getElem?_map, List.getElem?_range hlt] at hj
      simp only [Option.map_some, Option.some.injEq] at hj
      subst hj
      simp only [Option.some.injEq] at ha
      subst ha
      rw [addr_add]
      exact (hf j hlt).1
  · obtain rfl : xss = [] := List.length_eq_zero_iff.1 (by omega)
    exact ⟨[], Els.nil _, fun a _ j u hj => by simp at hj⟩

end Go.Proofs.Ytikllmdmifecpaa
end
section
/- The terms of a clause, literal by literal: both sides. -/
namespace Go.Proofs.Ytikllmdmifecpaa
open Go.RowKit

theorem news_two (w : World) (x y : Value) (t : TypeId) : ∀ j u, [x, y][j]? = some u → (w.alloc (.cells #[x, y] t)).cell? ((⟨w.heap.size, 0, none⟩ : Addr).add j) = some u := by
  intro j u hj
  match j, hj with
  | 0, hj => simp at hj; subst hj; rw [show (⟨w.heap.size, 0, none⟩ : Addr).add 0 = ⟨w.heap.size, 0, none⟩ from rfl, World.cell?_alloc_new w]; rfl
  | 1, hj => simp at hj; subst hj; rw [addr_add, World.cell?_alloc_new w]; rfl
theorem news_two_at (w : World) (x y : Value) (t : TypeId) (g : Nat) (hg : g = w.heap.size) : ∀ j u, [x, y][j]? = some u → (w.alloc (.cells #[x, y] t)).cell? ((⟨g, 0, none⟩ : Addr).add j) = some u := by subst hg; exact news_two w x y t
theorem news_one_at (w : World) (x : Value) (t : TypeId) (g : Nat) (hg : g = w.heap.size) : ∀ j u, [x][j]? = some u → (w.alloc (.cells #[x] t)).cell? ((⟨g, 0, none⟩ : Addr).add j) = some u := by subst hg; exact news_one w x t
theorem two_slice (a b : Option Addr) (n m c d : Nat) : ∀ u ∈ [Value.slice a n c, Value.slice b m d], u.oneCell' = true := by
  intro u hu; simp at hu; rcases hu with rfl | rfl <;> rfl
theorem flatC_take (c : List Lt) (k : Nat) (h : k < c.length) : flatC (c.take (k+1)) = flatC (c.take k) ++ [(c.getD k lt0).2.1] ++ [(c.getD k lt0).2.2] := by
  rw [List.take_succ_eq_append_getElem h, flatC_app]
  simp [flatC, List.getD, h]
/-- A literal's terms as they lie in the world W. -/
theorem SlC.two {lo hi : Nat} {w : World} {ad : Option Addr} {n k : Nat} {c : List Lt} (h : SlC lo hi w (.slice ad n k) c) (j : Nat) (hj : j < c.length) :
    ∃ (b off : Nat) (z1 z2 : SV), ad = some ⟨b, off, none⟩ ∧ b < w.heap.size ∧ w.cell? ⟨b, off + j * 3, none⟩ = some (.bool (c.getD j lt0).1) ∧ w.cell? ⟨b, off + j * 3 + 1, none⟩ = some (encS z1) ∧ w.cell? ⟨b, off + j * 3 + 2, none⟩ = some (encS z2) ∧
      SlI 0 w.heap.size w (encS z1) (c.getD j lt0).2.1 ∧ SlI 0 w.heap.size w (encS z2) (c.getD j lt0).2.2 := by
  obtain ⟨b, off, u1, u2, rfl, hb, c1, c2, c3, s1, s2⟩ := h.at (Bel.rfl' w) j hj
  obtain ⟨x1, y1, rfl⟩ := s1.form
  obtain ⟨x2, y2, rfl⟩ := s2.form
  exact ⟨b, off, (x1, _, y1), (x2, _, y2), rfl, hb, c1, c2, c3, s1.in', s2.in'⟩

set_option maxRecDepth 100000 in
set_option maxHeartbeats 400000 in
theorem termsIn_c (l h : Nat) (v : Value) (c : List Lt) (w : World) (hx : c.length ≤ 1048576) (hv : SlC l h w v c) :
    Calls Try.prog 104 #[v] w (RetRow w (flatC c)) := by
  obtain ⟨i1, hi1, hy0, hy1, hy2⟩ := info_parts Try.info22
  obtain ⟨ad, cap, rfl⟩ := hv.form
  go_enter Try.func104, Try.ntmps104
  go_wp2_with fail
  go_loopw [3, 8] (fun o i wr => ∃ k : Nat, k ≤ c.length ∧ i = .int .i64 k ∧ RowV w wr o (flatC (c.take k)) ∧ Bel w wr) (fun _ i _ => c.length - (intOf i).toNat)
  case atStart => exact ⟨0, Nat.zero_le _, rfl, ⟨[], World.ownsRow_nil _ _ _ _, Els.nil _⟩, Bel.rfl' _⟩
  case round =>
    obtain ⟨k, hk, rfl, hrow, hb⟩ := hrel
    by_cases hlt : k < c.length
    · obtain ⟨b, off, z1, z2, rfl, hbs, e1, e2, e3, s1, s2⟩ := hv.two k hlt
      have c1 := hb.at (World.block_lt_of_cell? _ ⟨_, _, none⟩ e1) e1
      have c2 := hb.at (World.block_lt_of_cell? _ ⟨_, _, none⟩ e2) e2
      have c3 := hb.at (World.block_lt_of_cell? _ ⟨_, _, none⟩ e3) e3
      have HF := Lib.hid (flatC_take c k hlt)
      have hfl := flatC_len (c.take k)
      have hkl : (c.take k).length = k := by rw [List.length_take]; omega
      obtain ⟨zs, ho, hE⟩ := hrow
      have hzl := hE.1
      have hE2 := Lib.hid ((hE.snoc s1).snoc s2)
      have hin1 : (k : Int) < c.length := by omega
      generalize (c.getD k lt0).1 = p at *
      obtain ⟨a1, n1, d1⟩ := z1
      obtain ⟨a2, n2, d2⟩ := z2
      simp only [encS] at c2 c3
      have hbz := hb.size
      clear hv s1 s2 hE e1 e2 e3
      go_wp2_with (at_builtin; refine wpList_append_own _ rfl _ _ 26 rfl w.heap.size 22 i1 (.slice none 0 0) 1 24 Try.underlying26 hi1 hy0 hy1 hy2 rfl (by decide) _ _ _ rfl ((ho.alloc _).alloc _) ⟨wr.heap.size + 1, 0, none⟩ 2 2 [.slice a1 n1 d1, .slice a2 n2 d2] rfl rfl (news_two_at _ _ _ _ _ (by simp)) (two_slice _ _ _ _ _ _) (by unfold maxLen; rw [hzl]; omega) (by rw [hzl]; omega) (by simp; omega) ?_; intro v' w1 hown' hgrow _)
      go_roundw
      case rel =>
        refine ⟨k+1, by omega, by go_num, ?_, ?_⟩
        · rw [HF.out]
          exact ⟨zs ++ [(a1, n1, d1)] ++ [(a2, n2, d2)], by simpa [encS] using hown', hE2.out⟩
        · exact ((hb.alloc _).alloc _).grown hgrow (fun q hq => own_base ho q hq)
      case measure => simp [intOf]; omega
    · rw [List.take_of_length_le (by omega)] at hrow
      obtain ⟨og, oc, rfl⟩ := hrow.form
      go_wp2_with fail
      go_ret
      exact ⟨_, _, _, rfl, hrow, hb⟩

set_option maxRecDepth 100000 in
set_option maxHeartbeats 400000 in
theorem l4Terms_c (l h : Nat) (v : Value) (c : List Lt) (w : World) (hx : c.length ≤ 1048576) (hv : SlC l h w v c) :
    Calls Try.prog 148 #[v] w (RetRow w (flatC c)) := by
  obtain ⟨i1, hi1, hy0, hy1, hy2⟩ := info_parts Try.info22
  obtain ⟨ad, cap, rfl⟩ := hv.form
  go_enter Try.func148, Try.ntmps148
  go_wp2_with fail
  go_loopw [3, 8] (fun o i wr => ∃ k : Nat, k ≤ c.length ∧ i = .int .i64 k ∧ RowV w wr o (flatC (c.take k)) ∧ Bel w wr) (fun _ i _ => c.length - (intOf i).toNat)
  case atStart => exact ⟨0, Nat.zero_le _, rfl, ⟨[], World.ownsRow_nil _ _ _ _, Els.nil _⟩, Bel.rfl' _⟩
  case round =>
    obtain ⟨k, hk, rfl, hrow, hb⟩ := hrel
    by_cases hlt : k < c.length
    · obtain ⟨b, off, z1, z2, rfl, hbs, e1, e2, e3, s1, s2⟩ := hv.two k hlt
      have c1 := hb.at (World.block_lt_of_cell? _ ⟨_, _, none⟩ e1) e1
      have c2 := hb.at (World.block_lt_of_cell? _ ⟨_, _, none⟩ e2) e2
      have c3 := hb.at (World.block_lt_of_cell? _ ⟨_, _, none⟩ e3) e3
      have HF := Lib.hid (flatC_take c k hlt)
      have hfl := flatC_len (c.take k)
      have hkl : (c.take k).length = k := by rw [List.length_take]; omega
      obtain ⟨zs, ho, hE⟩ := hrow
      have hzl := hE.1
      have hE2 := Lib.hid ((hE.snoc s1).snoc s2)
      have hin1 : (k : Int) < c.length := by omega
      generalize (c.getD k lt0).1 = p at *
      obtain ⟨a1, n1, d1⟩ := z1
      obtain ⟨a2, n2, d2⟩ := z2
      simp only [encS] at c2 c3
      have hbz := hb.size
      clear hv s1 s2 hE e1 e2 e3
      go_wp2_with (at_builtin; refine wpList_append_own _ rfl _ _ 26 rfl w.heap.size 22 i1 (.slice none 0 0) 1 24 Try.underlying26 hi1 hy0 hy1 hy2 rfl (by decide) _ _ _ rfl ((ho.alloc _).alloc _) ⟨wr.heap.size + 1, 0, none⟩ 2 2 [.slice a1 n1 d1, .slice a2 n2 d2] rfl rfl (news_two_at _ _ _ _ _ (by simp)) (two_slice _ _ _ _ _ _) (by unfold maxLen; rw [hzl]; omega) (by rw [hzl]; omega) (by simp; omega) ?_; intro v' w1 hown' hgrow _)
      go_roundw
      case rel =>
        refine ⟨k+1, by omega, by go_num, ?_, ?_⟩
        · rw [HF.out]
          exact ⟨zs ++ [(a1, n1, d1)] ++ [(a2, n2, d2)], by simpa [encS] using hown', hE2.out⟩
        · exact ((hb.alloc _).alloc _).grown hgrow (fun q hq => own_base ho q hq)
      case measure => simp [intOf]; omega
    · rw [List.take_of_length_le (by omega)] at hrow
      obtain ⟨og, oc, rfl⟩ := hrow.form
      go_wp2_with fail
      go_ret
      exact ⟨_, _, _, rfl, hrow, hb⟩
end Go.Proofs.Ytikllmdmifecpaa
end
section
/- VarsOf: the reference's side. -/
namespace Go.Proofs.Ytikllmdmifecpaa
open Go.RowKit

def setF (f : Nat → Bool) (m : Nat) (i : Nat) : Bool := if i = m then true else f i
def tailF (f : Nat → Bool) (m : Nat) : List Nat := ((List.range 12).drop (m + 1)).filter f
theorem tail_gt {f : Nat → Bool} {m x : Nat} (h : x ∈ tailF f m) : m < x := by
  unfold tailF at h
  have h1 := (List.mem_filter.1 h).1
  rw [List.mem_iff_getElem?] at h1
  obtain ⟨i, hi⟩ := h1
  rw [List.getElem?_drop] at hi
  have h2 := (List.getElem?_eq_some_iff.1 hi)
  obtain ⟨h3, h4⟩ := h2
  simp at h4
  omega
theorem vars_split (f : Nat → Bool) (m : Nat) (h : m < 12) : varsTo f 12 = varsTo f m ++ (if f m then m :: tailF f m else tailF f m) := by
  unfold varsTo tailF
  conv => lhs; rw [← List.take_append_drop m (List.range 12)]
  rw [List.filter_append, List.take_range, Nat.min_eq_left (by omega), List.drop_eq_getElem_cons (by simpa using h), List.filter_cons]
  simp
theorem vars_lt {f : Nat → Bool} {m x : Nat} (h : x ∈ varsTo f m) : x < m := by
  unfold varsTo at h
  have := (List.mem_filter.1 h).1
  simpa using this
theorem set_to (f : Nat → Bool) (m : Nat) : varsTo (setF f m) m = varsTo f m := by
  unfold varsTo
  apply List.filter_congr
  intro x hx
  have : x < m := by simpa using hx
  unfold setF; rw [if_neg (by omega)]
theorem set_tail (f : Nat → Bool) (m : Nat) : tailF (setF f m) m = tailF f m := by
  unfold tailF
  apply List.filter_congr
  intro x hx
  have : m < x := by
    rw [List.mem_iff_getElem?] at hx
    obtain ⟨i, hi⟩ := hx
    rw [List.getElem?_drop] at hi
    obtain ⟨h3, h4⟩ := (List.getElem?_eq_some_iff.1 hi)
    simp at h4
    omega
  unfold setF; rw [if_neg (by omega)]
theorem set_vars (f : Nat → Bool) (m : Nat) (h : m < 12) : varsTo (setF f m) 12 = varsTo f m ++ m :: tailF f m := by
  rw [vars_split _ m h, set_to, set_tail, if_pos (by simp [setF])]
theorem set_same (f : Nat → Bool) (m : Nat) (h : f m = true) : setF f m = f := by
  funext i
  unfold setF
  by_cases e : i = m
  · subst e; rw [if_pos rfl, h]
  · rw [if_neg e]

theorem own_fix {w : World} {base e n n' : Nat} {v : Value} {vs : List Value} {xs : List Int} (hn : n' = n) (hx : vs = xs.map (Value.int .i64)) (h : w.ownsRow base e 1 v n' vs) : w.ownsRow base e 1 v n (xs.map (Value.int .i64)) := by subst hn hx; exact h
/-- A slice of ints: one's own from lo on. -/
def RetO (lo : Nat) (w : World) (xs : List Int) (e : Ending) (w' : World) : Prop := ∃ ad n c, e = .returned (.slice ad n c) ∧ OwnI lo w'.heap.size w' (.slice ad n c) xs ∧ Bel w w'

/-- The slice itself, or a new one. -/
def RetPut (w : World) (v : Value) (f : Nat → Bool) (m : Nat) (e : Ending) (w' : World) : Prop :=
  ∃ ad n c, e = .returned (.slice ad n c) ∧ ((.slice ad n c = v ∧ varsTo (setF f m) 12 = varsTo f 12) ∨ w'.ownsRow w.heap.size 3 1 (.slice ad n c) (natsI (varsTo (setF f m) 12)).length ((natsI (varsTo (setF f m) 12)).map (Value.int .i64))) ∧ Bel w w'
theorem nget (l : List Nat) (k : Nat) (h : k < l.length) : (natsI l).getD k 0 = (l.getD k 0 : Nat) := by simp [natsI, List.getD, h]

set_option maxRecDepth 100000 in
theorem l1Put_nil (m : Nat) (w : World) : Calls Try.prog 159 #[.slice none 0 0, .int .i64 m] w (RetR w [(m : Int)]) := by
  obtain ⟨i0, hi0, hz0, hz1, hz2⟩ := info_parts Try.info3
  have hown0 : (w.alloc (.cells #[] 3)).ownsRow w.heap.size 3 1 (.slice (some ⟨w.heap.size, 0, none⟩) 0 0) ([] : List Int).length (([] : List Int).map (Value.int .i64)) :=
    World.ownsRow_lit w #[] 0 (Nat.le_refl _) (Nat.zero_le _) rfl
  go_enter Try.func159, Try.ntmps159
  go_wp2_with fail
  refine wp_loop_rounds 1 ?_
  rw [rounds_succ]
  go_wp2_with (first | (at_builtin; refine wpList_append_own_none rfl (.tmp 34) (.tmp 37) 22 rfl w.heap.size 3 i0 1 Try.underlying22 hi0 _ _ _ rfl hown0 rfl ?_) | (at_builtin; refine wpList_append_own _ rfl (.tmp 39) (.tmp 41) 22 rfl w.heap.size 3 i0 (.int .i64 0) 1 8 Try.underlying22 hi0 hz0 hz1 hz2 rfl (by decide) _ _ _ rfl (hown0.alloc _) ⟨w.heap.size + 1, 0, none⟩ 1 1 [.int .i64 m] rfl rfl (by have := news_one (w.alloc (.cells #[] 3)) (.int .i64 m) 3; simpa using this) (one_int _) (by unfold maxLen; simp) (by simp) (by simp; omega) ?_; intro v' w1 hown' hgrow _) | (at_builtin; refine wpList_append_own_none rfl (.tmp 43) (.tmp 46) 22 rfl w.heap.size 3 i0 1 Try.underlying22 hi0 _ _ _ rfl hown' rfl ?_))
  have hown2 : w1.ownsRow w.heap.size 3 1 v' [(m : Int)].length ([(m : Int)].map (Value.int .i64)) := by simpa using hown'
  obtain ⟨g, n, c, hv'⟩ := own_form hown2
  subst hv'
  go_ret
  exact ⟨_, _, _, rfl, hown2, (Bel.alloc2 w _ _).grown hgrow (fun k hk => own_base hown0 k hk)⟩

set_option maxRecDepth 100000 in
set_option maxHeartbeats 1000000 in
theorem l1Put_p (lo : Nat) (v : Value) (f : Nat → Bool) (m : Nat) (w : World) (hm : m < 12) (_ : lo ≤ w.heap.size) (hnz : 0 < (varsTo f 12).length) (hv : OwnI lo w.heap.size w v (natsI (varsTo f 12))) :
    Calls Try.prog 159 #[v, .int .i64 m] w (RetPut w v f m) := by
  obtain ⟨i0, hi0, hz0, hz1, hz2⟩ := info_parts Try.info3
  have hv0 := hv
  have hlen := varsTo_len f 12
  have hsp := vars_split f m hm
  have hset := set_vars f m hm
  have hlt0 : ∀ k, k < (varsTo f m).length → ((varsTo f 12).getD k 0) < m := by
    intro k hk
    rw [hsp]
    have : (varsTo f m)[k] ∈ varsTo f m := List.getElem_mem hk
    have := vars_lt this
    simpa [List.getD, List.getElem?_append_left hk, hk] using this
  have hA : (varsTo f m).length ≤ (varsTo f 12).length := by rw [hsp]; simp
  obtain ⟨ad, cap, rfl, -, -, hr⟩ := hv.1
  rw [natsI_len] at hr ⊢
  have HLT := Lib.hid hlt0
  cases hf : f m with
  | true =>
    rw [hf, if_pos rfl] at hsp
    have E : Hid (varsTo (setF f m) 12 = varsTo f 12) := by show _ = _; rw [set_same f m hf]
    have hal : (varsTo f m).length < (varsTo f 12).length := by rw [hsp]; simp
    have hat : (varsTo f 12).getD (varsTo f m).length 0 = m := by rw [hsp]; simp [List.getD]
    have HAT := Lib.hid hat
    clear hsp hset hat hlt0
    generalize hLx : varsTo f 12 = L at *
    generalize (varsTo f m).length = A at *
    have HLX := Lib.hid hLx
    clear hLx
    go_enter Try.func159, Try.ntmps159
    go_wp2_with fail
    go_loop [5] (fun i => ∃ k : Nat, k ≤ A ∧ i = .int .i64 k) (fun i => A - (intOf i).toNat)
    case atStart => exact ⟨0, Nat.zero_le _, rfl⟩
    case round =>
      obtain ⟨k, hk, rfl⟩ := hrel
      have hkl : k < L.length := by omega
      obtain ⟨b, off, rfl, -, -, hc⟩ := hr (by omega)
      have hcell := hc k hkl
      rw [nget _ _ hkl] at hcell
      have hkl2 : (k : Int) < L.length := by omega
      have hdl : decide ((k : Int) < L.length) = true := by simpa using hkl2
      clear hc hr
      by_cases hka : k < A
      · have hx := HLT.out k hka
        generalize L.getD k 0 = x at *
        have hx2 : (x : Int) < m := by omega
        go_wp2_with fail
        go_round
        case rel => exact ⟨k + 1, by omega, by go_num⟩
        case measure => simp [intOf]; omega
      · have hx : Hid (L.getD k 0 = m) := by show _ = _; rw [← HAT.out]; congr 1; omega
        rw [hx.out] at hcell
        have hmm : ((m : Int) == (m : Int)) = true := by simp
        go_wp2_with fail
        go_ret
        exact ⟨_, _, _, rfl, .inl ⟨rfl, by rw [HLX.out]; exact E.out⟩, Bel.rfl' _⟩
  | false =>
    rw [hf, if_neg (by simp)] at hsp
    have E : Hid (natsI (varsTo (setF f m) 12) = natsI (varsTo f m) ++ [(m : Int)] ++ natsI (tailF f m)) := by show _ = _; rw [hset]; simp [natsI]
    have htk : (natsI (varsTo f 12)).take (varsTo f m).length = natsI (varsTo f m) := by rw [hsp]; simp [natsI]
    have hdr : (natsI (varsTo f 12)).drop (varsTo f m).length = natsI (tailF f m) := by rw [hsp]; simp [natsI]
    have hgt : ∀ k, (varsTo f m).length ≤ k → k < (varsTo f 12).length → m < (varsTo f 12).getD k 0 := by
      intro k h1 h2
      rw [hsp] at h2 ⊢
      have h3 : k - (varsTo f m).length < (tailF f m).length := by simp at h2; omega
      have h4 := tail_gt (List.getElem_mem h3)
      simpa [List.getD, List.getElem?_append_right h1, h3] using h4
    have hll : (varsTo f 12).length = (varsTo f m).length + (tailF f m).length := by rw [hsp]; simp
    have HGT := Lib.hid hgt
    have HTK := Lib.hid htk
    have HDR := Lib.hid hdr
    have hown0 : (w.alloc (.cells #[] 3)).ownsRow w.heap.size 3 1 (.slice (some ⟨w.heap.size, 0, none⟩) 0 0) ([] : List Int).length (([] : List Int).map (Value.int .i64)) :=
      World.ownsRow_lit w #[] 0 (Nat.le_refl _) (Nat.zero_le _) rfl
    clear hsp hset hgt htk hdr hlt0
    have hSL := hv0.1
    generalize hLd : varsTo f 12 = L at *
    generalize hAd : varsTo f m = LA at *
    generalize hBd : tailF f m = LB at *
    clear hLd hAd hBd
    have hll1 : L.length ≤ LA.length + LB.length := by omega
    have hll2 : LA.length + LB.length ≤ L.length := by omega
    clear hll
    have hpos : 0 < L.length := hnz
    obtain ⟨b, off, rfl, -, -, hc⟩ := hr hpos
    have hcapl : L.length ≤ cap := by obtain ⟨_, _, e, h, _⟩ := hSL; simp only [Value.slice.injEq] at e; obtain ⟨-, -, rfl⟩ := e; rwa [natsI_len] at h
    have hlA : LA.length ≤ 12 := by omega
    have hlB : LB.length ≤ 12 := by omega
    have hc1 : ∀ w', Bel w w' → SlI lo w.heap.size w' (.slice (some ⟨b, off, none⟩) LA.length cap) (natsI LA) := fun w' hb => by
      have := (hSL.below hb).cut 0 LA.length (by omega) (by rw [natsI_len]; omega)
      simp only [Nat.add_zero, Nat.sub_zero, List.drop_zero] at this
      rwa [HTK.out] at this
    have HC1 := Lib.hid hc1
    have hcell0 : ∀ k, k < L.length → w.cell? ⟨b, off + k, none⟩ = some (.int .i64 ((L.getD k 0 : Nat) : Int)) := fun k hk => by rw [hc k hk, nget _ _ hk]
    have HCELL := Lib.hid hcell0
    have hparts : (LA.length < L.length ∧ LA.length < cap ∧ Hid (∀ w', Bel w w' → SlI lo w.heap.size w' (.slice (some ⟨b, off + LA.length, none⟩) (L.length - LA.length) (cap - LA.length)) (natsI LB))) ∨ (LA.length = L.length ∧ LB.length = 0) := by
      rcases Nat.lt_or_ge LA.length L.length with h1 | h1
      · refine .inl ⟨h1, by omega, fun w' hb => ?_⟩
        have := (hSL.below hb).cut LA.length L.length (by omega) (by rw [natsI_len]; omega)
        rw [HDR.out, List.take_of_length_le (by rw [natsI_len]; omega)] at this
        exact this
      · exact .inr ⟨by omega, by omega⟩
    clear hc hc1 hcell0 hr hSL
    rcases hparts with ⟨hAl, hAc, HC2⟩ | ⟨hAl, hB0⟩
    · have hAl2 : (LA.length : Int) < L.length := by omega
      have hAc2 : (LA.length : Int) < cap := by omega
      go_enter Try.func159, Try.ntmps159
      go_wp2_with fail
      go_loop [5] (fun i => ∃ k : Nat, k ≤ LA.length ∧ i = .int .i64 k) (fun i => LA.length - (intOf i).toNat)
      case atStart => exact ⟨0, Nat.zero_le _, rfl⟩
      case round =>
        obtain ⟨k, hk, rfl⟩ := hrel
        have hcell := HCELL.out k (by omega)
        have hdl : decide ((k : Int) < L.length) = true := by simp; omega
        by_cases hka : k < LA.length
        · have hx := HLT.out k hka
          generalize L.getD k 0 = x at *
          have hx2 : (x : Int) < m := by omega
          go_wp2_with fail
          go_round
          case rel => exact ⟨k + 1, by omega, by go_num⟩
          case measure => simp [intOf]; omega
        · obtain rfl : k = LA.length := by omega
          have hx := HGT.out _ (Nat.le_refl _) hAl
          generalize L.getD LA.length 0 = x at *
          have hx2 : (m : Int) < x := by omega
          have hxm : ((x : Int) == (m : Int)) = false := by rw [beq_eq_false_iff_ne]; omega
          have hxm2 : decide ((x : Int) < (m : Int)) = false := by simp; omega
          go_wp2_with (first | (at_builtin; refine wpList_append_own _ rfl (.tmp 34) (.tmp 37) 22 rfl w.heap.size 3 i0 (.int .i64 0) 1 8 Try.underlying22 hi0 hz0 hz1 hz2 rfl (by decide) _ _ _ rfl hown0 ⟨b, off, none⟩ LA.length cap ((natsI LA).map (Value.int .i64)) rfl (by simp [natsI_len]) (news_of_sl (HC1.out _ (Bel.alloc0 w _))) (ones_int _) (by simp; unfold maxLen; omega) (by simp; omega) (by simp) ?_; intro v1 w1 hown1 hgrow1 _; have hown1b := own_fix (n := LA.length) (xs := natsI LA) (by simp) (by simp) hown1; have hbw1 := (Bel.alloc0 w _).grown hgrow1 (fun k hk => own_base hown0 k hk)) | (at_builtin; refine wpList_append_own _ rfl (.tmp 39) (.tmp 41) 22 rfl w.heap.size 3 i0 (.int .i64 0) 1 8 Try.underlying22 hi0 hz0 hz1 hz2 rfl (by decide) _ _ _ rfl (hown1b.alloc _) ⟨w1.heap.size, 0, none⟩ 1 1 [.int .i64 m] rfl rfl (news_one _ _ _) (one_int _) (by unfold maxLen; omega) (by omega) (by have := hbw1.size; simp; omega) ?_; intro v2 w2 hown2 hgrow2 _; have hbw2 := (hbw1.alloc _).grown hgrow2 (fun k hk => own_base hown1b k hk)) | (at_builtin; refine wpList_append_own _ rfl (.tmp 43) (.tmp 46) 22 rfl w.heap.size 3 i0 (.int .i64 0) 1 8 Try.underlying22 hi0 hz0 hz1 hz2 rfl (by decide) _ _ _ rfl hown2 ⟨b, off + LA.length, none⟩ (L.length - LA.length) (cap - LA.length) ((natsI LB).map (Value.int .i64)) rfl (by simp [natsI_len]; omega) (news_of_sl (HC2.out _ hbw2)) (ones_int _) (by unfold maxLen; omega) (by omega) hbw2.size ?_; intro v3 w3 hown3 hgrow3 _; have hbw3 := hbw2.grown hgrow3 (fun k hk => own_base hown2 k hk)))
          have hown4 : w3.ownsRow w.heap.size 3 1 v3 (natsI LA ++ [(m : Int)] ++ natsI LB).length ((natsI LA ++ [(m : Int)] ++ natsI LB).map (Value.int .i64)) := own_fix (by simp [natsI_len]; omega) (by simp) hown3
          obtain ⟨g, n, c, hv'⟩ := own_form hown4
          subst hv'
          go_ret
          exact ⟨_, _, _, rfl, .inr (by rw [E.out]; exact hown4), hbw3⟩
    · have hAl1 : LA.length ≤ L.length := by omega
      have hAl2 : L.length ≤ LA.length := by omega
      have HB0 := Lib.hid (show LB = [] from List.length_eq_zero_iff.1 hB0)
      clear hAl hB0
      by_cases hqc : cap = LA.length
      · subst hqc
        go_enter Try.func159, Try.ntmps159
        go_wp2_with fail
        go_loop [5] (fun i => ∃ k : Nat, k ≤ LA.length ∧ i = .int .i64 k) (fun i => LA.length - (intOf i).toNat)
        case atStart => exact ⟨0, Nat.zero_le _, rfl⟩
        case round =>
          obtain ⟨k, hk, rfl⟩ := hrel
          by_cases hka : k < LA.length
          · have hcell := HCELL.out k (by omega)
            have hdl : decide ((k : Int) < L.length) = true := by simp; omega
            have hx := HLT.out k hka
            generalize L.getD k 0 = x at *
            have hx2 : (x : Int) < m := by omega
            go_wp2_with fail
            go_round
            case rel => exact ⟨k + 1, by omega, by go_num⟩
            case measure => simp [intOf]; omega
          · obtain rfl : k = LA.length := by omega
            have hdl : decide ((LA.length : Int) < L.length) = false := by simp; omega
            go_wp2_with (first | (at_builtin; refine wpList_append_own _ rfl (.tmp 34) (.tmp 37) 22 rfl w.heap.size 3 i0 (.int .i64 0) 1 8 Try.underlying22 hi0 hz0 hz1 hz2 rfl (by decide) _ _ _ rfl hown0 ⟨b, off, none⟩ LA.length _ ((natsI LA).map (Value.int .i64)) rfl (by simp [natsI_len]) (news_of_sl (HC1.out _ (Bel.alloc0 w _))) (ones_int _) (by simp; unfold maxLen; omega) (by simp; omega) (by simp) ?_; intro v1 w1 hown1 hgrow1 _; have hown1b := own_fix (n := LA.length) (xs := natsI LA) (by simp) (by simp) hown1; have hbw1 := (Bel.alloc0 w _).grown hgrow1 (fun k hk => own_base hown0 k hk)) | (at_builtin; refine wpList_append_own _ rfl (.tmp 39) (.tmp 41) 22 rfl w.heap.size 3 i0 (.int .i64 0) 1 8 Try.underlying22 hi0 hz0 hz1 hz2 rfl (by decide) _ _ _ rfl (hown1b.alloc _) ⟨w1.heap.size, 0, none⟩ 1 1 [.int .i64 m] rfl rfl (news_one _ _ _) (one_int _) (by unfold maxLen; omega) (by omega) (by have := hbw1.size; simp; omega) ?_; intro v2 w2 hown2 hgrow2 _; have hbw2 := (hbw1.alloc _).grown hgrow2 (fun k hk => own_base hown1b k hk)) | (at_builtin; refine wpList_append_own _ rfl (.tmp 43) (.tmp 46) 22 rfl w.heap.size 3 i0 (.int .i64 0) 1 8 Try.underlying22 hi0 hz0 hz1 hz2 rfl (by decide) _ _ _ rfl hown2 _ _ _ [] rfl (by simp; try omega) (by simp) (by simp) (by unfold maxLen; omega) (by omega) hbw2.size ?_; intro v3 w3 hown3 hgrow3 _; have hbw3 := hbw2.grown hgrow3 (fun k hk => own_base hown2 k hk)))
            have hown4 : w3.ownsRow w.heap.size 3 1 v3 (natsI LA ++ [(m : Int)] ++ natsI LB).length ((natsI LA ++ [(m : Int)] ++ natsI LB).map (Value.int .i64)) := own_fix (by rw [HB0.out]; simp [natsI]) (by rw [HB0.out]; simp [natsI]) hown3
            obtain ⟨g, n, c, hv'⟩ := own_form hown4
            subst hv'
            go_ret
            exact ⟨_, _, _, rfl, .inr (by rw [E.out]; exact hown4), hbw3⟩
      · have hAc2 : (LA.length : Int) < cap := by omega
        go_enter Try.func159, Try.ntmps159
        go_wp2_with fail
        go_loop [5] (fun i => ∃ k : Nat, k ≤ LA.length ∧ i = .int .i64 k) (fun i => LA.length - (intOf i).toNat)
        case atStart => exact ⟨0, Nat.zero_le _, rfl⟩
        case round =>
          obtain ⟨k, hk, rfl⟩ := hrel
          by_cases hka : k < LA.length
          · have hcell := HCELL.out k (by omega)
            have hdl : decide ((k : Int) < L.length) = true := by simp; omega
            have hx := HLT.out k hka
            generalize L.getD k 0 = x at *
            have hx2 : (x : Int) < m := by omega
            go_wp2_with fail
            go_round
            case rel => exact ⟨k + 1, by omega, by go_num⟩
            case measure => simp [intOf]; omega
          · obtain rfl : k = LA.length := by omega
            have hdl : decide ((LA.length : Int) < L.length) = false := by simp; omega
            go_wp2_with (first | (at_builtin; refine wpList_append_own _ rfl (.tmp 34) (.tmp 37) 22 rfl w.heap.size 3 i0 (.int .i64 0) 1 8 Try.underlying22 hi0 hz0 hz1 hz2 rfl (by decide) _ _ _ rfl hown0 ⟨b, off, none⟩ LA.length _ ((natsI LA).map (Value.int .i64)) rfl (by simp [natsI_len]) (news_of_sl (HC1.out _ (Bel.alloc0 w _))) (ones_int _) (by simp; unfold maxLen; omega) (by simp; omega) (by simp) ?_; intro v1 w1 hown1 hgrow1 _; have hown1b := own_fix (n := LA.length) (xs := natsI LA) (by simp) (by simp) hown1; have hbw1 := (Bel.alloc0 w _).grown hgrow1 (fun k hk => own_base hown0 k hk)) | (at_builtin; refine wpList_append_own _ rfl (.tmp 39) (.tmp 41) 22 rfl w.heap.size 3 i0 (.int .i64 0) 1 8 Try.underlying22 hi0 hz0 hz1 hz2 rfl (by decide) _ _ _ rfl (hown1b.alloc _) ⟨w1.heap.size, 0, none⟩ 1 1 [.int .i64 m] rfl rfl (news_one _ _ _) (one_int _) (by unfold maxLen; omega) (by omega) (by have := hbw1.size; simp; omega) ?_; intro v2 w2 hown2 hgrow2 _; have hbw2 := (hbw1.alloc _).grown hgrow2 (fun k hk => own_base hown1b k hk)) | (at_builtin; refine wpList_append_own _ rfl (.tmp 43) (.tmp 46) 22 rfl w.heap.size 3 i0 (.int .i64 0) 1 8 Try.underlying22 hi0 hz0 hz1 hz2 rfl (by decide) _ _ _ rfl hown2 _ _ _ [] rfl (by simp; try omega) (by simp) (by simp) (by unfold maxLen; omega) (by omega) hbw2.size ?_; intro v3 w3 hown3 hgrow3 _; have hbw3 := hbw2.grown hgrow3 (fun k hk => own_base hown2 k hk)))
            have hown4 : w3.ownsRow w.heap.size 3 1 v3 (natsI LA ++ [(m : Int)] ++ natsI LB).length ((natsI LA ++ [(m : Int)] ++ natsI LB).map (Value.int .i64)) := own_fix (by rw [HB0.out]; simp [natsI]) (by rw [HB0.out]; simp [natsI]) hown3
            obtain ⟨g, n, c, hv'⟩ := own_form hown4
            subst hv'
            go_ret
            exact ⟨_, _, _, rfl, .inr (by rw [E.out]; exact hown4), hbw3⟩
theorem l1Put_c (lo : Nat) (v : Value) (f : Nat → Bool) (m : Nat) (w : World) (hm : m < 12) (hlo : lo ≤ w.heap.size) (hnz : 0 < (varsTo f 12).length) (hv : OwnI lo w.heap.size w v (natsI (varsTo f 12))) :
    Calls Try.prog 159 #[v, .int .i64 m] w (RetO lo w (natsI (varsTo (setF f m) 12))) := by
  refine (l1Put_p lo v f m w hm hlo hnz hv).mono ?_
  rintro e w' ⟨ad, n, c, rfl, h, hb⟩
  refine ⟨ad, n, c, rfl, ?_, hb⟩
  rcases h with ⟨rfl, h2⟩ | h
  · rw [h2]; exact (hv.below hb).mono (Nat.le_refl _) hb.size
  · exact (OwnI.of_row h).mono hlo (Nat.le_refl _)
end Go.Proofs.Ytikllmdmifecpaa
end
section
namespace Go.Proofs.Ytikllmdmifecpaa
open Go.RowKit

theorem put_empty {f : Nat → Bool} {m : Nat} (hm : m < 12) (h : varsTo f 12 = []) : natsI (varsTo (setF f m) 12) = [(m : Int)] := by
  have h1 := vars_split f m hm
  rw [h] at h1
  have h2 := List.append_eq_nil_iff.1 h1.symm
  have h3 : tailF f m = [] := by
    have := h2.2
    split at this
    · simp at this
    · exact this
  rw [set_vars f m hm, h2.1, h3]; rfl
theorem put_some (f : Nat → Bool) (m : Nat) (hm : m < 12) : 0 < (varsTo (setF f m) 12).length := by rw [set_vars f m hm]; simp; omega

theorem l1Put_z (z : Int) (lo : Nat) (v : Value) (f : Nat → Bool) (m : Nat) (w : World) (hz : z = m) (hm : m < 12) (hlo : lo ≤ w.heap.size) (hnz : 0 < (varsTo f 12).length) (hv : OwnI lo w.heap.size w v (natsI (varsTo f 12))) :
    Calls Try.prog 159 #[v, .int .i64 z] w (RetO lo w (natsI (varsTo (setF f m) 12))) := by subst hz; exact l1Put_c lo v f m w hm hlo hnz hv
theorem l1Put_nz (z : Int) (m : Nat) (w : World) (hz : z = m) : Calls Try.prog 159 #[.slice none 0 0, .int .i64 z] w (RetR w [(m : Int)]) := by subst hz; exact l1Put_nil m w

/-- A row of ints of the call's own. -/
abbrev RowI (lo : Nat) (w : World) (v : Value) (xs : List Int) : Prop := w.ownsRow lo 3 1 v xs.length (xs.map (Value.int .i64))
theorem RowI.mono {lo lo' : Nat} {w : World} {v : Value} {xs : List Int} (h : RowI lo w v xs) (hl : lo' ≤ lo) : RowI lo' w v xs := by
  refine ⟨h.1, ?_⟩
  rcases h.2 with h0 | ⟨g, cap, cur, e1, e2, r⟩
  · exact .inl h0
  · exact .inr ⟨g, cap, cur, e1, Nat.le_trans hl e2, r⟩
theorem l1Put_q (z : Int) (lo : Nat) (v : Value) (f : Nat → Bool) (m : Nat) (w : World) (hz : z = m) (hm : m < 12) (hlo : lo ≤ w.heap.size) (hnz : 0 < (varsTo f 12).length) (hv : RowI lo w v (natsI (varsTo f 12))) :
    Calls Try.prog 159 #[v, .int .i64 z] w (fun e w' => ∃ ad n c, e = .returned (.slice ad n c) ∧ RowI lo w' (.slice ad n c) (natsI (varsTo (setF f m) 12)) ∧ Bel w w') := by
  subst hz
  refine (l1Put_p lo v f m w hm hlo hnz (OwnI.of_row hv)).mono ?_
  rintro e w' ⟨ad, n, c, rfl, h, hb⟩
  refine ⟨ad, n, c, rfl, ?_, hb⟩
  rcases h with ⟨rfl, h2⟩ | h
  · rw [h2]; exact ownsRow_bel hv hb
  · exact RowI.mono h hlo

set_option maxRecDepth 100000 in
set_option maxHeartbeats 300000 in
theorem l1Vars_r (l h : Nat) (v : Value) (t : List Int) (w : World) (ht : t.length ≤ 1048576) (hlow : ∀ k, k < t.length → -12 ≤ t.getD k 0) (hv : SlI l h w v t) :
    Calls Try.prog 158 #[v] w (RetR w (natsI (varsTo (mk t) 12))) := by
  obtain ⟨ad, cap, rfl, -, -, hr⟩ := hv
  go_enter Try.func158, Try.ntmps158
  go_wp2_with fail
  go_loopw [3, 8] (fun o i wr => ∃ k : Nat, k ≤ t.length ∧ i = .int .i64 k ∧ RowI w.heap.size wr o (natsI (varsTo (mk (t.take k)) 12)) ∧ (varsTo (mk (t.take k)) 12 = [] → o = .slice none 0 0) ∧ Bel w wr) (fun _ i _ => t.length - (intOf i).toNat)
  case atStart =>
    have e : varsTo (mk (t.take 0)) 12 = [] := by
      unfold varsTo; rw [List.filter_eq_nil_iff]; intro a _; simp [mk]
    exact ⟨0, Nat.zero_le _, rfl, by rw [e]; exact World.ownsRow_nil _ _ _ _, fun _ => rfl, Bel.rfl' _⟩
  case round =>
    obtain ⟨k, hk, rfl, hown, hnil, hb⟩ := hrel
    by_cases hlt : k < t.length
    · obtain ⟨b, off, rfl, -, hcell⟩ := rd hr hb k hlt
      have hx12 := hlow k hlt
      have E1 := Lib.hid (fun m => mk_step t k m hlt)
      have E2 := Lib.hid (mk_skip t k hlt)
      clear hr hlow
      generalize t.getD k 0 = x at *
      by_cases hx : x < 0
      · obtain ⟨m, hm⟩ : ∃ m : Nat, -1 - x = m := ⟨(-1 - x).toNat, by omega⟩
        have hm12 : m < 12 := by omega
        have E3 : Hid (mk (t.take (k+1)) = setF (mk (t.take k)) m) := by show _ = _; rw [← E1.out m (by omega)]; rfl
        have HM := Lib.hid hm; clear hm
        cases hl : varsTo (mk (t.take k)) 12 with
        | nil =>
          have ho := hnil hl
          have E4 := Lib.hid (put_empty hm12 hl)
          have E5 := Lib.hid (put_some (mk (t.take k)) m hm12)
          subst ho
          clear hown hnil hl
          go_wp2_with fail
          refine (l1Put_nz (-1 - x) m _ HM.out).mono ?_; rintro e w1 ⟨a1, n1, c1, rfl, ho1, hb1⟩
          go_wp2_with fail
          go_roundw
          case rel => exact ⟨k+1, by omega, by go_num, by rw [E3.out, E4.out]; exact RowI.mono ho1 hb.size, fun h => by rw [E3.out] at h; have := E5.out; rw [h] at this; simp at this, hb.step hb1⟩
          case measure => simp [intOf]; omega
        | cons y ys =>
          have hpos : 0 < (varsTo (mk (t.take k)) 12).length := by rw [hl]; simp
          have E5 := Lib.hid (put_some (mk (t.take k)) m hm12)
          have HO := Lib.hid hown
          clear hown hnil hl
          go_wp2_with fail
          refine (l1Put_q (-1 - x) w.heap.size _ (mk (t.take k)) m _ HM.out hm12 hb.size hpos HO.out).mono ?_; rintro e w1 ⟨a1, n1, c1, rfl, ho1, hb1⟩
          go_wp2_with fail
          go_roundw
          case rel => exact ⟨k+1, by omega, by go_num, by rw [E3.out]; exact ho1, fun h => by rw [E3.out] at h; have := E5.out; rw [h] at this; simp at this, hb.step hb1⟩
          case measure => simp [intOf]; omega
      · have HO := Lib.hid hown
        have HN := Lib.hid hnil
        clear hown hnil
        go_wp2_with fail
        go_roundw
        case rel => exact ⟨k+1, by omega, by go_num, by rw [← E2.out (by omega)]; exact HO.out, by rw [← E2.out (by omega)]; exact HN.out, hb⟩
        case measure => simp [intOf]; omega
    · rw [show t.take k = t from List.take_of_length_le (by omega)] at hown
      obtain ⟨g, n, c2, hv'⟩ := own_form hown
      subst hv'
      have HO := Lib.hid hown
      clear hown hnil
      go_wp2_with fail
      go_ret
      exact ⟨_, _, _, rfl, HO.out, hb⟩
theorem l1Vars_c (l h : Nat) (v : Value) (t : List Int) (w : World) (ht : t.length ≤ 1048576) (hlow : ∀ k, k < t.length → -12 ≤ t.getD k 0) (hv : SlI l h w v t) :
    Calls Try.prog 158 #[v] w (RetI w (natsI (varsTo (mk t) 12))) := (l1Vars_r l h v t w ht hlow hv).mono fun _ _ h => h.i
end Go.Proofs.Ytikllmdmifecpaa
end
