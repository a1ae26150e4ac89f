/- Texts merged, part 9. -/
import Derived.Test.YteapfeaaofhgnaaDoorMgMaximalIn8
section
/- CompareTerms, WeighsMore: both functions. -/
namespace Go.Proofs.YteapfeaaofhgnaaDoor
open Go.RowKit

theorem lowT.good {ar t : List Int} (h : goodTerm ar t = true) : lowT t := low_of_good h

def cmpOk (ar a b : List Int) : Bool := goodTerm ar a && goodTerm ar b
theorem cmpOk_iff {ar a b : List Int} : cmpOk ar a b = true ↔ goodTerm ar a = true ∧ goodTerm ar b = true := by simp [cmpOk]
theorem cmpOk_swap (ar a b : List Int) : cmpOk ar a b = cmpOk ar b a := Bool.and_comm _ _
def cmpAns (ar a b : List Int) : Int := if cmpOk ar a b then cmpT a b else 0
def weiAns (ar a b : List Int) : Bool := cmpOk ar a b && (covers a b && decide (b.length < a.length))
theorem cmp_no {ar a b : List Int} (h : cmpOk ar a b = false) : cmpAns ar a b = 0 := by simp [cmpAns, h]
theorem cmp_yes {ar a b : List Int} (h : cmpOk ar a b = true) : cmpAns ar a b = cmpT a b := by simp [cmpAns, h]
theorem wei_no {ar a b : List Int} (h : cmpOk ar a b = false) : weiAns ar a b = false := by simp [weiAns, h]
theorem wei_yes {ar a b : List Int} (h : cmpOk ar a b = true) : weiAns ar a b = (covers a b && decide (b.length < a.length)) := by simp [weiAns, h]

end Go.Proofs.YteapfeaaofhgnaaDoor
end
section
/- CompareLists, IsFalling: the program's. -/
namespace Go.Proofs.YteapfeaaofhgnaaDoor
open Go.RowKit

theorem goodTerms_low {ar : List Int} {b : List (List Int)} {m : Nat} (h : goodTerms ar b m = true) : lowL b := fun j hj => okTerm_low (goodTerms_get h j hj)

set_option maxRecDepth 100000 in
set_option maxHeartbeats 800000 in
theorem comparedLists_c (l h l' h' : Nat) (v u : Value) (a b : List (List Int)) (w : World) (hT : Tab w) (ha : short a) (hla : lowL a) (hb : short b) (hlb : lowL b) (hv : SlS l h w v a) (hu : SlS l' h' w u b) :
    Calls Tryd.prog 63 #[v, u] w (RetV w (.int .i64 (cmpL a b))) := by
  obtain ⟨ad, cap, rfl⟩ := hv.form
  obtain ⟨ad', cap', rfl⟩ := hu.form
  have H1 := Lib.hid (without_c l h l' h' _ _ a b w ha hb hv hu)
  have H2 := Lib.hid (fun (w' : World) (hq : Bel w w') => without_c l' h' l h _ _ b a w' hb ha (hu.below hq) (hv.below hq))
  have hsx := minus_short (b := b) ha
  have hsy := minus_short (b := a) hb
  have hlx := minus_low (b := b) hla
  have hly := minus_low (b := a) hlb
  have E0 := Lib.hid (fun h1 h2 => cmpL_0 (a := a) (b := b) h1 h2)
  have E1 := Lib.hid (fun h0 h1 => cmpL_1 (a := a) (b := b) h0 h1)
  have Em := Lib.hid (fun h0 h1 h2 => cmpL_m (a := a) (b := b) h0 h1 h2)
  have E2 := Lib.hid (fun h0 h1 h2 => cmpL_2 (a := a) (b := b) h0 h1 h2)
  generalize cmpL a b = z at *
  generalize minus a b = X at *
  generalize minus b a = Y at *
  by_cases hx0 : X.length = 0
  · have d1 : ((X.length : Int) == 0) = true := by simpa using hx0
    by_cases hy0 : Y.length = 0
    · have d2 : ((Y.length : Int) == 0) = true := by simpa using hy0
      have E : Hid (z = 0) := E0.out (List.length_eq_zero_iff.1 hx0) (List.length_eq_zero_iff.1 hy0)
      clear hx0 hy0 E0 E1 Em E2
      go_enter Tryd.func63, Tryd.ntmps63
      go_wp2_with fail
      refine H1.out.mono ?_; rintro e w1 ⟨g1, n1, c1, rfl, hX, hb1⟩
      obtain ⟨_, _, ef⟩ := hX.form
      simp only [Value.slice.injEq] at ef
      obtain ⟨rfl, rfl, rfl⟩ := ef
      go_wp2_with fail
      refine (H2.out _ hb1).mono ?_; rintro e w2 ⟨g2, n2, c2, rfl, hY, hb2⟩
      obtain ⟨_, _, ef⟩ := hY.form
      simp only [Value.slice.injEq] at ef
      obtain ⟨rfl, rfl, rfl⟩ := ef
      have hX2 := (hX.sls hb1).below hb2
      have hY2 := hY.sls hb2
      have hb12 := hb1.step hb2
      go_wp2_with fail
      go_ret
      exact ⟨by rw [E.out]; rfl, hb12⟩
    · have d2 : ((Y.length : Int) == 0) = false := by simp; exact fun h => hy0 (by rw [h]; rfl)
      have h0 : ¬ (X = [] ∧ Y = []) := fun h => hy0 (by rw [h.2]; rfl)
      clear hx0 hy0
      have h0b : ¬ (Y = [] ∧ X = []) := fun h => h0 ⟨h.2, h.1⟩
      cases hd1 : dom X Y with
      | true =>
        have E : Hid (z = 1) := E1.out h0 hd1
        clear E0 E1 Em E2
        go_enter Tryd.func63, Tryd.ntmps63
        go_wp2_with fail
        refine H1.out.mono ?_; rintro e w1 ⟨g1, n1, c1, rfl, hX, hb1⟩
        obtain ⟨_, _, ef⟩ := hX.form
        simp only [Value.slice.injEq] at ef
        obtain ⟨rfl, rfl, rfl⟩ := ef
        go_wp2_with fail
        refine (H2.out _ hb1).mono ?_; rintro e w2 ⟨g2, n2, c2, rfl, hY, hb2⟩
        obtain ⟨_, _, ef⟩ := hY.form
        simp only [Value.slice.injEq] at ef
        obtain ⟨rfl, rfl, rfl⟩ := ef
        have hX2 := (hX.sls hb1).below hb2
        have hY2 := hY.sls hb2
        have hb12 := hb1.step hb2
        go_wp2_with fail
        refine (dominates_v _ _ _ _ _ _ X Y true _ hd1 (hT.bel hb12) hsx hlx hsy hly hX2 hY2).mono ?_; rintro e w3 ⟨rfl, hb3⟩
        have hbs3 := hb12.step hb3
        replace hX2 := hX2.below hb3
        replace hY2 := hY2.below hb3
        go_wp2_with fail
        go_ret
        exact ⟨by rw [E.out]; rfl, hbs3⟩
      | false =>
        cases hd2 : dom Y X with
        | true =>
          have E : Hid (z = -1) := Em.out h0 hd1 hd2
          clear E0 E1 Em E2
          go_enter Tryd.func63, Tryd.ntmps63
          go_wp2_with fail
          refine H1.out.mono ?_; rintro e w1 ⟨g1, n1, c1, rfl, hX, hb1⟩
          obtain ⟨_, _, ef⟩ := hX.form
          simp only [Value.slice.injEq] at ef
          obtain ⟨rfl, rfl, rfl⟩ := ef
          go_wp2_with fail
          refine (H2.out _ hb1).mono ?_; rintro e w2 ⟨g2, n2, c2, rfl, hY, hb2⟩
          obtain ⟨_, _, ef⟩ := hY.form
          simp only [Value.slice.injEq] at ef
          obtain ⟨rfl, rfl, rfl⟩ := ef
          have hX2 := (hX.sls hb1).below hb2
          have hY2 := hY.sls hb2
          have hb12 := hb1.step hb2
          go_wp2_with fail
          refine (dominates_v _ _ _ _ _ _ X Y false _ hd1 (hT.bel hb12) hsx hlx hsy hly hX2 hY2).mono ?_; rintro e w3 ⟨rfl, hb3⟩
          have hbs3 := hb12.step hb3
          replace hX2 := hX2.below hb3
          replace hY2 := hY2.below hb3
          go_wp2_with fail
          refine (dominates_v _ _ _ _ _ _ Y X true _ hd2 (hT.bel hbs3) hsy hly hsx hlx hY2 hX2).mono ?_; rintro e w4 ⟨rfl, hb4⟩
          have hbs4 := hbs3.step hb4
          replace hX2 := hX2.below hb4
          replace hY2 := hY2.below hb4
          go_wp2_with fail
          go_ret
          exact ⟨by rw [E.out]; rfl, hbs4⟩
        | false =>
          have E : Hid (z = 2) := E2.out h0 hd1 hd2
          clear E0 E1 Em E2
          go_enter Tryd.func63, Tryd.ntmps63
          go_wp2_with fail
          refine H1.out.mono ?_; rintro e w1 ⟨g1, n1, c1, rfl, hX, hb1⟩
          obtain ⟨_, _, ef⟩ := hX.form
          simp only [Value.slice.injEq] at ef
          obtain ⟨rfl, rfl, rfl⟩ := ef
          go_wp2_with fail
          refine (H2.out _ hb1).mono ?_; rintro e w2 ⟨g2, n2, c2, rfl, hY, hb2⟩
          obtain ⟨_, _, ef⟩ := hY.form
          simp only [Value.slice.injEq] at ef
          obtain ⟨rfl, rfl, rfl⟩ := ef
          have hX2 := (hX.sls hb1).below hb2
          have hY2 := hY.sls hb2
          have hb12 := hb1.step hb2
          go_wp2_with fail
          refine (dominates_v _ _ _ _ _ _ X Y false _ hd1 (hT.bel hb12) hsx hlx hsy hly hX2 hY2).mono ?_; rintro e w3 ⟨rfl, hb3⟩
          have hbs3 := hb12.step hb3
          replace hX2 := hX2.below hb3
          replace hY2 := hY2.below hb3
          go_wp2_with fail
          refine (dominates_v _ _ _ _ _ _ Y X false _ hd2 (hT.bel hbs3) hsy hly hsx hlx hY2 hX2).mono ?_; rintro e w4 ⟨rfl, hb4⟩
          have hbs4 := hbs3.step hb4
          replace hX2 := hX2.below hb4
          replace hY2 := hY2.below hb4
          go_wp2_with fail
          go_ret
          exact ⟨by rw [E.out]; rfl, hbs4⟩
  · have d1 : ((X.length : Int) == 0) = false := by simp; exact fun h => hx0 (by rw [h]; rfl)
    have h0 : ¬ (X = [] ∧ Y = []) := fun h => hx0 (by rw [h.1]; rfl)
    clear hx0
    have h0b : ¬ (Y = [] ∧ X = []) := fun h => h0 ⟨h.2, h.1⟩
    cases hd1 : dom X Y with
    | true =>
      have E : Hid (z = 1) := E1.out h0 hd1
      clear E0 E1 Em E2
      go_enter Tryd.func63, Tryd.ntmps63
      go_wp2_with fail
      refine H1.out.mono ?_; rintro e w1 ⟨g1, n1, c1, rfl, hX, hb1⟩
      obtain ⟨_, _, ef⟩ := hX.form
      simp only [Value.slice.injEq] at ef
      obtain ⟨rfl, rfl, rfl⟩ := ef
      go_wp2_with fail
      refine (H2.out _ hb1).mono ?_; rintro e w2 ⟨g2, n2, c2, rfl, hY, hb2⟩
      obtain ⟨_, _, ef⟩ := hY.form
      simp only [Value.slice.injEq] at ef
      obtain ⟨rfl, rfl, rfl⟩ := ef
      have hX2 := (hX.sls hb1).below hb2
      have hY2 := hY.sls hb2
      have hb12 := hb1.step hb2
      go_wp2_with fail
      refine (dominates_v _ _ _ _ _ _ X Y true _ hd1 (hT.bel hb12) hsx hlx hsy hly hX2 hY2).mono ?_; rintro e w3 ⟨rfl, hb3⟩
      have hbs3 := hb12.step hb3
      replace hX2 := hX2.below hb3
      replace hY2 := hY2.below hb3
      go_wp2_with fail
      go_ret
      exact ⟨by rw [E.out]; rfl, hbs3⟩
    | false =>
      cases hd2 : dom Y X with
      | true =>
        have E : Hid (z = -1) := Em.out h0 hd1 hd2
        clear E0 E1 Em E2
        go_enter Tryd.func63, Tryd.ntmps63
        go_wp2_with fail
        refine H1.out.mono ?_; rintro e w1 ⟨g1, n1, c1, rfl, hX, hb1⟩
        obtain ⟨_, _, ef⟩ := hX.form
        simp only [Value.slice.injEq] at ef
        obtain ⟨rfl, rfl, rfl⟩ := ef
        go_wp2_with fail
        refine (H2.out _ hb1).mono ?_; rintro e w2 ⟨g2, n2, c2, rfl, hY, hb2⟩
        obtain ⟨_, _, ef⟩ := hY.form
        simp only [Value.slice.injEq] at ef
        obtain ⟨rfl, rfl, rfl⟩ := ef
        have hX2 := (hX.sls hb1).below hb2
        have hY2 := hY.sls hb2
        have hb12 := hb1.step hb2
        go_wp2_with fail
        refine (dominates_v _ _ _ _ _ _ X Y false _ hd1 (hT.bel hb12) hsx hlx hsy hly hX2 hY2).mono ?_; rintro e w3 ⟨rfl, hb3⟩
        have hbs3 := hb12.step hb3
        replace hX2 := hX2.below hb3
        replace hY2 := hY2.below hb3
        go_wp2_with fail
        refine (dominates_v _ _ _ _ _ _ Y X true _ hd2 (hT.bel hbs3) hsy hly hsx hlx hY2 hX2).mono ?_; rintro e w4 ⟨rfl, hb4⟩
        have hbs4 := hbs3.step hb4
        replace hX2 := hX2.below hb4
        replace hY2 := hY2.below hb4
        go_wp2_with fail
        go_ret
        exact ⟨by rw [E.out]; rfl, hbs4⟩
      | false =>
        have E : Hid (z = 2) := E2.out h0 hd1 hd2
        clear E0 E1 Em E2
        go_enter Tryd.func63, Tryd.ntmps63
        go_wp2_with fail
        refine H1.out.mono ?_; rintro e w1 ⟨g1, n1, c1, rfl, hX, hb1⟩
        obtain ⟨_, _, ef⟩ := hX.form
        simp only [Value.slice.injEq] at ef
        obtain ⟨rfl, rfl, rfl⟩ := ef
        go_wp2_with fail
        refine (H2.out _ hb1).mono ?_; rintro e w2 ⟨g2, n2, c2, rfl, hY, hb2⟩
        obtain ⟨_, _, ef⟩ := hY.form
        simp only [Value.slice.injEq] at ef
        obtain ⟨rfl, rfl, rfl⟩ := ef
        have hX2 := (hX.sls hb1).below hb2
        have hY2 := hY.sls hb2
        have hb12 := hb1.step hb2
        go_wp2_with fail
        refine (dominates_v _ _ _ _ _ _ X Y false _ hd1 (hT.bel hb12) hsx hlx hsy hly hX2 hY2).mono ?_; rintro e w3 ⟨rfl, hb3⟩
        have hbs3 := hb12.step hb3
        replace hX2 := hX2.below hb3
        replace hY2 := hY2.below hb3
        go_wp2_with fail
        refine (dominates_v _ _ _ _ _ _ Y X false _ hd2 (hT.bel hbs3) hsy hly hsx hlx hY2 hX2).mono ?_; rintro e w4 ⟨rfl, hb4⟩
        have hbs4 := hbs3.step hb4
        replace hX2 := hX2.below hb4
        replace hY2 := hY2.below hb4
        go_wp2_with fail
        go_ret
        exact ⟨by rw [E.out]; rfl, hbs4⟩

end Go.Proofs.YteapfeaaofhgnaaDoor
end
section
/- CompareLists, IsFalling: the reference's. -/
namespace Go.Proofs.YteapfeaaofhgnaaDoor
open Go.RowKit

theorem goodTermsS_low {ar : List Int} {b : List (List Int)} {m : Nat} (h : goodTerms ar b m = true) : lowL b := fun j hj => okTerm_low (goodTerms_get h j hj)
theorem OwnT.rowV {W wr : World} {tag : Nat → Nat} {t : Nat} {v : Value} {zs : List SV} {xss : List (List Int)} (h : OwnT W.heap.size tag t 22 wr v (zs.map encS)) (he : Els W zs xss) : RowV W wr v xss :=
  ⟨zs, by simpa using h.1, he⟩
theorem short_erase {l : List (List Int)} {i : Nat} (h : short l) (hi : i < l.length) : short (l.eraseIdx i) := by
  refine ⟨by rw [List.length_eraseIdx_of_lt hi]; have := h.1; omega, fun j hj => ?_⟩
  rw [List.length_eraseIdx_of_lt hi] at hj
  by_cases e : j < i
  · rw [show (l.eraseIdx i).getD j [] = l.getD j [] from by simp [List.getD, List.getElem?_eraseIdx, e]]; exact h.2 j (by omega)
  · rw [show (l.eraseIdx i).getD j [] = l.getD (j+1) [] from by simp [List.getD, List.getElem?_eraseIdx, e]]; exact h.2 (j+1) (by omega)
theorem RowV.capn {W wr : World} {ad : Option Addr} {n c : Nat} {xss : List (List Int)} (h : RowV W wr (.slice ad n c) xss) (hb : Bel W wr) : n = xss.length ∧ n ≤ c ∧ c ≤ 9223372036854775807 := by
  obtain ⟨ad', c', e, h1, h2, -⟩ := h.sls hb
  simp only [Value.slice.injEq] at e
  obtain ⟨rfl, rfl, rfl⟩ := e
  exact ⟨rfl, h1, h2.1⟩
/-- The cells of a row, from the k-th on. -/
theorem row_cells {W wr : World} {g n c : Nat} {zs : List SV} (h : wr.ownsRow W.heap.size 22 1 (.slice (some ⟨g, 0, none⟩) n c) zs.length (zs.map encS)) (k : Nat) :
    ∀ j u, ((zs.drop k).map encS)[j]? = some u → wr.cell? ((⟨g, k, none⟩ : Addr).add j) = some u := by
  intro j u hj
  have hlt := (List.getElem?_eq_some_iff.1 hj).1
  simp at hlt
  obtain rfl := row_len h
  rw [addr_add, h.cellAt (k + j) (by omega)]
  rw [List.getElem?_map, List.getElem?_drop] at hj
  rw [List.getElem?_map]; exact hj
theorem row_cells0 {W wr : World} {g n c : Nat} {zs : List SV} (h : wr.ownsRow W.heap.size 22 1 (.slice (some ⟨g, 0, none⟩) n c) zs.length (zs.map encS)) (i : Nat) :
    ∀ j u, ((zs.take i).map encS)[j]? = some u → wr.cell? ((⟨g, 0, none⟩ : Addr).add j) = some u := by
  intro j u hj
  refine row_cells h 0 j u ?_
  rw [List.drop_zero]
  rw [List.getElem?_map, List.getElem?_take] at hj
  rw [List.getElem?_map]
  split at hj
  · exact hj
  · simp at hj
/-- The reference's search from the front: none, or the last found. -/
def lastAt (left : List (List Int)) (t : List Int) (j : Nat) (av : Value) : Prop := (av = .int .i64 (-1) ∧ t ∉ left.take j) ∨ ∃ i : Nat, i < j ∧ av = .int .i64 i ∧ left.getD i [] = t
theorem lastAt.no {left : List (List Int)} {t : List Int} {j : Nat} {av : Value} (h : lastAt left t j av) (hj : j < left.length) (he : left.getD j [] ≠ t) : lastAt left t (j+1) av := by
  rcases h with ⟨h1, h2⟩ | ⟨i, h1, h2, h3⟩
  · exact .inl ⟨h1, not_take hj h2 he⟩
  · exact .inr ⟨i, by omega, h2, h3⟩
theorem lastAt.yes {left : List (List Int)} {t : List Int} {j : Nat} (he : left.getD j [] = t) : lastAt left t (j+1) (.int .i64 (j : Int)) := .inr ⟨j, by omega, rfl, he⟩
theorem lastAt.done {left : List (List Int)} {t : List Int} {j : Nat} {av : Value} (h : lastAt left t j av) (hj : ¬ j < left.length) (hj2 : j ≤ left.length) : (av = .int .i64 (-1) ∧ t ∉ left) ∨ ∃ i : Nat, i < left.length ∧ av = .int .i64 i ∧ left.getD i [] = t := by
  obtain rfl : j = left.length := by omega
  rcases h with ⟨h1, h2⟩ | h
  · rw [List.take_length] at h2; exact .inl ⟨h1, h2⟩
  · exact .inr h

set_option maxRecDepth 100000 in
set_option maxHeartbeats 1000000 in
theorem l3Left_c (l h l' h' : Nat) (v u : Value) (a b : List (List Int)) (w : World) (ha : short a) (hb : short b) (hv : SlS l h w v a) (hu : SlS l' h' w u b) :
    Calls Tryd.prog 70 #[v, u] w (RetRow w (minus a b)) := by
  obtain ⟨i1, hi1, hy0, hy1, hy2⟩ := info_parts Tryd.info22
  obtain ⟨av, cv, rfl⟩ := hv.form
  obtain ⟨hal, ham⟩ := ha
  have hbl := hb.1
  have hown : (w.alloc (.cells #[] 22)).ownsRow w.heap.size 22 1 (.slice (some ⟨w.heap.size, 0, none⟩) 0 0) ([] : List SV).length (([] : List SV).map encS) :=
    World.ownsRow_lit w #[] 0 (Nat.le_refl _) (Nat.zero_le _) rfl
  obtain ⟨ub, uc, rfl⟩ := hu.form
  have hu0 := hu
  obtain ⟨zb, hEb, hcell⟩ := hu.vals
  cases ub with
  | none =>
    obtain ⟨ad', cap', e, -, hm, hr⟩ := hu0
    simp only [Value.slice.injEq] at e
    obtain ⟨rfl, -, rfl⟩ := e
    obtain rfl : b = [] := by
      rcases Nat.eq_zero_or_pos b.length with h0 | h0
      · exact List.length_eq_zero_iff.1 h0
      · obtain ⟨_, _, e, _⟩ := hr h0; simp at e
    obtain rfl : uc = 0 := hm.2 rfl
    obtain rfl : zb = [] := List.length_eq_zero_iff.1 hEb.1
    clear hr hm hcell hu
    go_enter Tryd.func70, Tryd.ntmps70
    go_wp2_with (at_builtin; refine wpList_append_own_none rfl _ _ 51 rfl w.heap.size 22 i1 1 Tryd.underlying51 hi1 _ _ _ rfl hown rfl ?_)
    go_wp2_with fail
    have hb1 := Bel.alloc0 w (.cells #[] 22)
    have hL : OwnT w.heap.size (fun _ => 0) 0 22 (w.alloc (.cells #[] 22)) (.slice (some ⟨w.heap.size, 0, none⟩) 0 0) (([] : List SV).map encS) := ⟨hown, fun _ _ => rfl⟩
    go_loopw [5, 6, 18] (fun lv ov i wr => ∃ (k : Nat) (tag : Nat → Nat) (zl zo : List SV) (left out : List (List Int)), k ≤ a.length ∧ i = .int .i64 k ∧ OwnT w.heap.size tag 0 22 wr lv (zl.map encS) ∧ Els w zl left ∧ OwnT w.heap.size tag 1 22 wr ov (zo.map encS) ∧ Els w zo out ∧ minus a [] = out ++ minus (a.drop k) left ∧ short left ∧ out.length ≤ k ∧ Bel w wr) (fun _ _ i _ => a.length - (intOf i).toNat)
    case atStart => exact ⟨0, _, [], [], [], [], Nat.zero_le _, rfl, hL, (Els.nil w), OwnT.nil _ _ _ _ _, Els.nil _, by simp, hb, Nat.zero_le _, hb1⟩
    case round =>
      clear hL hb1
      obtain ⟨k, tag, zl, zo, left, out, hk, rfl, hL, hEl, hO, hEo, hmin, hsl, hol, hb1⟩ := hrel
      by_cases hlt : k < a.length
      · obtain ⟨bb, off, p, rfl, hbb, hc0, hp⟩ := hv.at (Bel.rfl' w) k hlt
        have hc := hb1.at hbb hc0
        have htl := ham k hlt
        have HLO := Lib.hid (And.intro (fun i hi he => left_in (i := i) hmin hlt hi he) (fun hn => left_out hmin hlt hn))
        clear hv ham hmin hc0
        generalize a.getD k [] = t at *
        obtain ⟨ap, cp, rfl⟩ := hp.form
        have hpW := hp.in'
        clear hp
        obtain ⟨ag, an, ac, rfl⟩ := own_form hL.1
        obtain ⟨hn1, hn2, hn3⟩ := (hL.rowV hEl).capn hb1
        subst hn1
        have hln := hsl.1
        have HV := Lib.hid (hL.rowV hEl)
        have HSL := Lib.hid hsl
        clear hsl
        have HE := Lib.hid (fun (w' : World) (hq : Bel wr w') (y : List Int) (q : Bool) (l2 h2 : Nat) (yv : Value) (he : decide (t = y) = q) (hyl : y.length ≤ 1048576) (hy : SlI l2 h2 w' yv y) => l1Same_v _ _ _ _ _ _ t y q w' he htl hyl ((hpW.below hb1).below hq) hy)
        obtain ⟨wo, rfl⟩ : ∃ wo, wo = wr := ⟨wr, rfl⟩
        go_wp2_with fail
        go_loopw [9, 24] (fun av i wr => ∃ j : Nat, j ≤ left.length ∧ i = .int .i64 j ∧ lastAt left t j av ∧ Bel wo wr) (fun _ i _ => left.length - (intOf i).toNat)
        case atStart => exact ⟨0, Nat.zero_le _, rfl, .inl ⟨rfl, by simp⟩, Bel.rfl' _⟩
        case round =>
          obtain ⟨j, hj, rfl, hla, hb2⟩ := hrel
          by_cases hjl : j < left.length
          · obtain ⟨gx, az, cz, rfl, hgx, hcell, hz⟩ := (HV.out.bel hb2).at2 j hjl
            have hzl := HSL.out.2 j hjl
            have hz2 := hz.below (hb1.step hb2)
            have HN := Lib.hid (And.intro (fun h => hla.no hjl h) (fun h => lastAt.yes (j := j) (left := left) (t := t) h))
            clear hla hz
            generalize left.getD j [] = y at *
            by_cases he : y = t
            · have HF := Lib.hid (HE.out wr hb2 y true _ _ _ (by simpa using he.symm) hzl hz2)
              have E := Lib.hid (HN.out.2 he)
              clear HN he hz2
              go_wp2_with fail
              refine HF.out.mono ?_; rintro e w3 ⟨rfl, hb3⟩
              go_wp2_with fail
              go_roundw
              case rel => exact ⟨j+1, by omega, by go_num, E.out, hb2.step hb3⟩
              case measure => simp [intOf]; omega
            · have HF := Lib.hid (HE.out wr hb2 y false _ _ _ (by simpa using fun h => he h.symm) hzl hz2)
              have E := Lib.hid (HN.out.1 he)
              clear HN he hz2
              go_wp2_with fail
              refine HF.out.mono ?_; rintro e w3 ⟨rfl, hb3⟩
              go_wp2_with fail
              go_roundw
              case rel => exact ⟨j+1, by omega, by go_num, E.out, hb2.step hb3⟩
              case measure => simp [intOf]; omega
          · have hbn := hb1.step hb2
            replace hL := hL.bel hb2
            replace hO := hO.bel hb2
            rcases hla.done hjl hj with ⟨rfl, hnot⟩ | ⟨i, hi, rfl, hit⟩
            · have E := Lib.hid (HLO.out.2 hnot)
              have hzo := hEo.1
              clear hnot hla HE HV
              go_wp2_with (at_builtin; refine wpList_append_own_at _ rfl _ _ 51 rfl w.heap.size 22 i1 (.slice none 0 0) 1 24 Tryd.underlying51 hi1 hy0 hy1 hy2 rfl (by decide) _ _ _ rfl (hO.alloc _).1 _ _ _ [.slice ap t.length cp] rfl rfl (news_oneV _ _ _) (one_slice _ _ _) (by unfold maxLen; simp <;> omega) (by simp <;> omega) (by have := hbn.size; simp; omega) ?_; intro v' w4 hown' hgrow _ hat)
              obtain ⟨tag3, hO3, hT3⟩ := tag_snocV (hO.alloc _) hown' hgrow hat
              have hL3 := hT3 _ _ _ _ (by omega) (hL.alloc _)
              have hb3 := hbn.grownT hO (Nat.le_refl _) hgrow
              go_roundw
              case rel => exact ⟨k+1, tag3, zl, zo ++ [(ap, t.length, cp)], left, out ++ [t], by omega, by go_num, hL3, hEl, by simpa [encS] using hO3, hEo.snoc hpW, E.out, HSL.out, by simp; omega, hb3⟩
              case measure => simp [intOf]; omega
            · obtain ⟨gx, az, cz, rfl, hgx, hcell, hz⟩ := (HV.out.bel hb2).at2 i hi
              have E := Lib.hid (HLO.out.1 i hi hit)
              have hzl := hEl.1
              have hE2 := hEl.erase i hi
              have HS2 := Lib.hid (short_erase HSL.out hi)
              have hown0 : (wr.alloc (.cells #[] 22)).ownsRow wr.heap.size 22 1 (.slice (some ⟨wr.heap.size, 0, none⟩) 0 0) ([] : List SV).length (([] : List SV).map encS) :=
                World.ownsRow_lit wr #[] 0 (Nat.le_refl _) (Nat.zero_le _) rfl
              have hLr : wr.ownsRow w.heap.size 22 1 (.slice (some ⟨gx, 0, none⟩) left.length ac) zl.length (zl.map encS) := by simpa using hL.1
              have hb0 := Bel.alloc0 wr (.cells #[] 22)
              have hn0 := row_cells0 (ownsRow_bel hLr hb0) i
              have hi1' : (i : Int) ≤ ac := by omega
              have hi0' : (0 : Int) ≤ i := by omega
              have hi2' : (i : Int) + 1 ≤ left.length := by omega
              have hi3' : (left.length : Int) ≤ ac := by omega
              have hi4' : (0 : Int) ≤ (i : Int) + 1 := by omega
              have hw9 := IntWalk.i64_in ((i : Int) + 1) (by omega)
              have hti : (zl.take i).length = i := by rw [List.length_take]; omega
              have hne : decide ((i : Int) < 0) = false := by simp
              have hey : zl.eraseIdx i = zl.take i ++ zl.drop (i+1) := List.eraseIdx_eq_take_drop_succ ..
              clear hla hcell hz hit HE HV
              by_cases hcap : i + 1 = ac
              · have hl1 : left.length = i + 1 := by omega
                have hzd : zl.drop (i+1) = [] := List.drop_eq_nil_of_le (by omega)
                have hcap' : (i : Int) + 1 = ac := by omega
                go_wp2_with (first | (at_builtin; refine wpList_append_own_at _ rfl (.tmp 45) (.tmp 49) 51 rfl wr.heap.size 22 i1 (.slice none 0 0) 1 24 Tryd.underlying51 hi1 hy0 hy1 hy2 rfl (by decide) _ _ _ rfl hown5 ⟨gx, 0, none⟩ _ _ [] rfl (by simp <;> omega) (by simp) (by simp) (by unfold maxLen; omega) (by omega) hb4.size ?_; intro v6 w6 hown6 hgrow6 _ hat6) | (at_builtin; refine wpList_append_own_at _ rfl (.tmp 40) (.tmp 43) 51 rfl wr.heap.size 22 i1 (.slice none 0 0) 1 24 Tryd.underlying51 hi1 hy0 hy1 hy2 rfl (by decide) _ _ _ rfl hown0 ⟨gx, 0, none⟩ i ac ((zl.take i).map encS) rfl (by rw [List.length_map, hti, Nat.mul_one]) hn0 (encS_one _) (by rw [List.length_nil]; unfold maxLen; omega) (by rw [List.length_nil]; omega) hb0.size ?_; intro v4 w4 hown4 hgrow4 _ hat4; have hb4 := hb0.grown hgrow4 (fun k hk => own_base hown0 k hk); have hown5 : w4.ownsRow wr.heap.size 22 1 v4 i ((zl.take i).map encS) := (by simpa using hown4); have hn4 := row_cells (ownsRow_bel hLr hb4) (i + 1)))
                clear hown4 hgrow4 hat4 hn0 hLr
                have hb6 := hb4.grown hgrow6 (fun k hk => own_base hown5 k hk)
                have hown7 : w6.ownsRow wr.heap.size 22 1 v6 ((zl.eraseIdx i).map encS).length ((zl.eraseIdx i).map encS) := by
                  rw [hey, hzd, List.append_nil, List.length_map, hti]; simpa using hown6
                obtain ⟨tag6, hL6, hT6⟩ := tag_new (tag := tag) 0 hown7 hb6 hbn.size
                have hO6 := hT6 _ _ _ _ hO
                go_roundw
                case rel => exact ⟨k+1, tag6, zl.eraseIdx i, zo, left.eraseIdx i, out, by omega, by go_num, hL6, hE2, hO6, hEo, E.out, HS2.out, by omega, hbn.step hb6⟩
                case measure => simp [intOf]; omega
              · have hcap' : (i : Int) + 1 < ac := by omega
                have hdl : (zl.drop (i+1)).length = left.length - (i+1) := by rw [List.length_drop, hzl]
                go_wp2_with (first | (at_builtin; refine wpList_append_own_at _ rfl (.tmp 45) (.tmp 49) 51 rfl wr.heap.size 22 i1 (.slice none 0 0) 1 24 Tryd.underlying51 hi1 hy0 hy1 hy2 rfl (by decide) _ _ _ rfl hown5 ⟨gx, i + 1, none⟩ _ _ ((zl.drop (i+1)).map encS) rfl (by simp <;> omega) hn4 (encS_one _) (by unfold maxLen; omega) (by omega) hb4.size ?_; intro v6 w6 hown6 hgrow6 _ hat6) | (at_builtin; refine wpList_append_own_at _ rfl (.tmp 40) (.tmp 43) 51 rfl wr.heap.size 22 i1 (.slice none 0 0) 1 24 Tryd.underlying51 hi1 hy0 hy1 hy2 rfl (by decide) _ _ _ rfl hown0 ⟨gx, 0, none⟩ i ac ((zl.take i).map encS) rfl (by rw [List.length_map, hti, Nat.mul_one]) hn0 (encS_one _) (by rw [List.length_nil]; unfold maxLen; omega) (by rw [List.length_nil]; omega) hb0.size ?_; intro v4 w4 hown4 hgrow4 _ hat4; have hb4 := hb0.grown hgrow4 (fun k hk => own_base hown0 k hk); have hown5 : w4.ownsRow wr.heap.size 22 1 v4 i ((zl.take i).map encS) := (by simpa using hown4); have hn4 := row_cells (ownsRow_bel hLr hb4) (i + 1)))
                clear hown4 hgrow4 hat4 hn0 hLr
                have hb6 := hb4.grown hgrow6 (fun k hk => own_base hown5 k hk)
                have hown7 : w6.ownsRow wr.heap.size 22 1 v6 ((zl.eraseIdx i).map encS).length ((zl.eraseIdx i).map encS) := by
                  rw [hey, List.length_map, List.length_append, hti, hdl]; simpa using hown6
                obtain ⟨tag6, hL6, hT6⟩ := tag_new (tag := tag) 0 hown7 hb6 hbn.size
                have hO6 := hT6 _ _ _ _ hO
                go_roundw
                case rel => exact ⟨k+1, tag6, zl.eraseIdx i, zo, left.eraseIdx i, out, by omega, by go_num, hL6, hE2, hO6, hEo, E.out, HS2.out, by omega, hbn.step hb6⟩
                case measure => simp [intOf]; omega
      · have E := Lib.hid (left_end hmin hlt)
        clear hmin
        obtain ⟨ao, no, co, rfl⟩ := own_form hO.1
        go_wp2_with fail
        go_ret
        exact ⟨_, _, _, rfl, by rw [E.out]; exact hO.rowV hEo, hb1⟩
  | some ad =>
    have hn : ∀ j u, (zb.map encS)[j]? = some u → (w.alloc (.cells #[] 22)).cell? (ad.add j) = some u := fun j u hj => by
      have h1 := hcell ad rfl j u hj
      have h2 := World.block_lt_of_cell? w (ad.add j) h1
      exact ((Bel.alloc0 w (.cells #[] 22)).cell h2).trans h1
    have hzl := hEb.1
    clear hcell hu hu0
    go_enter Tryd.func70, Tryd.ntmps70
    go_wp2_with (at_builtin; refine wpList_append_own _ rfl _ _ 51 rfl w.heap.size 22 i1 (.slice none 0 0) 1 24 Tryd.underlying51 hi1 hy0 hy1 hy2 rfl (by decide) _ _ _ rfl hown ad b.length uc (zb.map encS) rfl (by simp [hzl]) hn (encS_one _) (by unfold maxLen; simp; omega) (by simp; omega) (by simp) ?_; intro v' w1 hown' hgrow _)
    have hb1 := (Bel.alloc0 w (.cells #[] 22)).grown hgrow (fun k hk => own_base hown k hk)
    have hL : OwnT w.heap.size (fun _ => 0) 0 22 w1 v' (zb.map encS) := ⟨by simpa [hzl] using hown', fun _ _ => rfl⟩
    go_wp2_with fail
    go_loopw [5, 6, 18] (fun lv ov i wr => ∃ (k : Nat) (tag : Nat → Nat) (zl zo : List SV) (left out : List (List Int)), k ≤ a.length ∧ i = .int .i64 k ∧ OwnT w.heap.size tag 0 22 wr lv (zl.map encS) ∧ Els w zl left ∧ OwnT w.heap.size tag 1 22 wr ov (zo.map encS) ∧ Els w zo out ∧ minus a b = out ++ minus (a.drop k) left ∧ short left ∧ out.length ≤ k ∧ Bel w wr) (fun _ _ i _ => a.length - (intOf i).toNat)
    case atStart => exact ⟨0, _, zb, [], b, [], Nat.zero_le _, rfl, hL, hEb, OwnT.nil _ _ _ _ _, Els.nil _, by simp, hb, Nat.zero_le _, hb1⟩
    case round =>
      clear hL hEb hb1
      obtain ⟨k, tag, zl, zo, left, out, hk, rfl, hL, hEl, hO, hEo, hmin, hsl, hol, hb1⟩ := hrel
      by_cases hlt : k < a.length
      · obtain ⟨bb, off, p, rfl, hbb, hc0, hp⟩ := hv.at (Bel.rfl' w) k hlt
        have hc := hb1.at hbb hc0
        have htl := ham k hlt
        have HLO := Lib.hid (And.intro (fun i hi he => left_in (i := i) hmin hlt hi he) (fun hn => left_out hmin hlt hn))
        clear hv ham hmin hc0
        generalize a.getD k [] = t at *
        obtain ⟨ap, cp, rfl⟩ := hp.form
        have hpW := hp.in'
        clear hp
        obtain ⟨ag, an, ac, rfl⟩ := own_form hL.1
        obtain ⟨hn1, hn2, hn3⟩ := (hL.rowV hEl).capn hb1
        subst hn1
        have hln := hsl.1
        have HV := Lib.hid (hL.rowV hEl)
        have HSL := Lib.hid hsl
        clear hsl
        have HE := Lib.hid (fun (w' : World) (hq : Bel wr w') (y : List Int) (q : Bool) (l2 h2 : Nat) (yv : Value) (he : decide (t = y) = q) (hyl : y.length ≤ 1048576) (hy : SlI l2 h2 w' yv y) => l1Same_v _ _ _ _ _ _ t y q w' he htl hyl ((hpW.below hb1).below hq) hy)
        obtain ⟨wo, rfl⟩ : ∃ wo, wo = wr := ⟨wr, rfl⟩
        go_wp2_with fail
        go_loopw [9, 24] (fun av i wr => ∃ j : Nat, j ≤ left.length ∧ i = .int .i64 j ∧ lastAt left t j av ∧ Bel wo wr) (fun _ i _ => left.length - (intOf i).toNat)
        case atStart => exact ⟨0, Nat.zero_le _, rfl, .inl ⟨rfl, by simp⟩, Bel.rfl' _⟩
        case round =>
          obtain ⟨j, hj, rfl, hla, hb2⟩ := hrel
          by_cases hjl : j < left.length
          · obtain ⟨gx, az, cz, rfl, hgx, hcell, hz⟩ := (HV.out.bel hb2).at2 j hjl
            have hzl := HSL.out.2 j hjl
            have hz2 := hz.below (hb1.step hb2)
            have HN := Lib.hid (And.intro (fun h => hla.no hjl h) (fun h => lastAt.yes (j := j) (left := left) (t := t) h))
            clear hla hz
            generalize left.getD j [] = y at *
            by_cases he : y = t
            · have HF := Lib.hid (HE.out wr hb2 y true _ _ _ (by simpa using he.symm) hzl hz2)
              have E := Lib.hid (HN.out.2 he)
              clear HN he hz2
              go_wp2_with fail
              refine HF.out.mono ?_; rintro e w3 ⟨rfl, hb3⟩
              go_wp2_with fail
              go_roundw
              case rel => exact ⟨j+1, by omega, by go_num, E.out, hb2.step hb3⟩
              case measure => simp [intOf]; omega
            · have HF := Lib.hid (HE.out wr hb2 y false _ _ _ (by simpa using fun h => he h.symm) hzl hz2)
              have E := Lib.hid (HN.out.1 he)
              clear HN he hz2
              go_wp2_with fail
              refine HF.out.mono ?_; rintro e w3 ⟨rfl, hb3⟩
              go_wp2_with fail
              go_roundw
              case rel => exact ⟨j+1, by omega, by go_num, E.out, hb2.step hb3⟩
              case measure => simp [intOf]; omega
          · have hbn := hb1.step hb2
            replace hL := hL.bel hb2
            replace hO := hO.bel hb2
            rcases hla.done hjl hj with ⟨rfl, hnot⟩ | ⟨i, hi, rfl, hit⟩
            · have E := Lib.hid (HLO.out.2 hnot)
              have hzo := hEo.1
              clear hnot hla HE HV
              go_wp2_with (at_builtin; refine wpList_append_own_at _ rfl _ _ 51 rfl w.heap.size 22 i1 (.slice none 0 0) 1 24 Tryd.underlying51 hi1 hy0 hy1 hy2 rfl (by decide) _ _ _ rfl (hO.alloc _).1 _ _ _ [.slice ap t.length cp] rfl rfl (news_oneV _ _ _) (one_slice _ _ _) (by unfold maxLen; simp <;> omega) (by simp <;> omega) (by have := hbn.size; simp; omega) ?_; intro v' w4 hown' hgrow _ hat)
              obtain ⟨tag3, hO3, hT3⟩ := tag_snocV (hO.alloc _) hown' hgrow hat
              have hL3 := hT3 _ _ _ _ (by omega) (hL.alloc _)
              have hb3 := hbn.grownT hO (Nat.le_refl _) hgrow
              go_roundw
              case rel => exact ⟨k+1, tag3, zl, zo ++ [(ap, t.length, cp)], left, out ++ [t], by omega, by go_num, hL3, hEl, by simpa [encS] using hO3, hEo.snoc hpW, E.out, HSL.out, by simp; omega, hb3⟩
              case measure => simp [intOf]; omega
            · obtain ⟨gx, az, cz, rfl, hgx, hcell, hz⟩ := (HV.out.bel hb2).at2 i hi
              have E := Lib.hid (HLO.out.1 i hi hit)
              have hzl := hEl.1
              have hE2 := hEl.erase i hi
              have HS2 := Lib.hid (short_erase HSL.out hi)
              have hown0 : (wr.alloc (.cells #[] 22)).ownsRow wr.heap.size 22 1 (.slice (some ⟨wr.heap.size, 0, none⟩) 0 0) ([] : List SV).length (([] : List SV).map encS) :=
                World.ownsRow_lit wr #[] 0 (Nat.le_refl _) (Nat.zero_le _) rfl
              have hLr : wr.ownsRow w.heap.size 22 1 (.slice (some ⟨gx, 0, none⟩) left.length ac) zl.length (zl.map encS) := by simpa using hL.1
              have hb0 := Bel.alloc0 wr (.cells #[] 22)
              have hn0 := row_cells0 (ownsRow_bel hLr hb0) i
              have hi1' : (i : Int) ≤ ac := by omega
              have hi0' : (0 : Int) ≤ i := by omega
              have hi2' : (i : Int) + 1 ≤ left.length := by omega
              have hi3' : (left.length : Int) ≤ ac := by omega
              have hi4' : (0 : Int) ≤ (i : Int) + 1 := by omega
              have hw9 := IntWalk.i64_in ((i : Int) + 1) (by omega)
              have hti : (zl.take i).length = i := by rw [List.length_take]; omega
              have hne : decide ((i : Int) < 0) = false := by simp
              have hey : zl.eraseIdx i = zl.take i ++ zl.drop (i+1) := List.eraseIdx_eq_take_drop_succ ..
              clear hla hcell hz hit HE HV
              by_cases hcap : i + 1 = ac
              · have hl1 : left.length = i + 1 := by omega
                have hzd : zl.drop (i+1) = [] := List.drop_eq_nil_of_le (by omega)
                have hcap' : (i : Int) + 1 = ac := by omega
                go_wp2_with (first | (at_builtin; refine wpList_append_own_at _ rfl (.tmp 45) (.tmp 49) 51 rfl wr.heap.size 22 i1 (.slice none 0 0) 1 24 Tryd.underlying51 hi1 hy0 hy1 hy2 rfl (by decide) _ _ _ rfl hown5 ⟨gx, 0, none⟩ _ _ [] rfl (by simp <;> omega) (by simp) (by simp) (by unfold maxLen; omega) (by omega) hb4.size ?_; intro v6 w6 hown6 hgrow6 _ hat6) | (at_builtin; refine wpList_append_own_at _ rfl (.tmp 40) (.tmp 43) 51 rfl wr.heap.size 22 i1 (.slice none 0 0) 1 24 Tryd.underlying51 hi1 hy0 hy1 hy2 rfl (by decide) _ _ _ rfl hown0 ⟨gx, 0, none⟩ i ac ((zl.take i).map encS) rfl (by rw [List.length_map, hti, Nat.mul_one]) hn0 (encS_one _) (by rw [List.length_nil]; unfold maxLen; omega) (by rw [List.length_nil]; omega) hb0.size ?_; intro v4 w4 hown4 hgrow4 _ hat4; have hb4 := hb0.grown hgrow4 (fun k hk => own_base hown0 k hk); have hown5 : w4.ownsRow wr.heap.size 22 1 v4 i ((zl.take i).map encS) := (by simpa using hown4); have hn4 := row_cells (ownsRow_bel hLr hb4) (i + 1)))
                clear hown4 hgrow4 hat4 hn0 hLr
                have hb6 := hb4.grown hgrow6 (fun k hk => own_base hown5 k hk)
                have hown7 : w6.ownsRow wr.heap.size 22 1 v6 ((zl.eraseIdx i).map encS).length ((zl.eraseIdx i).map encS) := by
                  rw [hey, hzd, List.append_nil, List.length_map, hti]; simpa using hown6
                obtain ⟨tag6, hL6, hT6⟩ := tag_new (tag := tag) 0 hown7 hb6 hbn.size
                have hO6 := hT6 _ _ _ _ hO
                go_roundw
                case rel => exact ⟨k+1, tag6, zl.eraseIdx i, zo, left.eraseIdx i, out, by omega, by go_num, hL6, hE2, hO6, hEo, E.out, HS2.out, by omega, hbn.step hb6⟩
                case measure => simp [intOf]; omega
              · have hcap' : (i : Int) + 1 < ac := by omega
                have hdl : (zl.drop (i+1)).length = left.length - (i+1) := by rw [List.length_drop, hzl]
                go_wp2_with (first | (at_builtin; refine wpList_append_own_at _ rfl (.tmp 45) (.tmp 49) 51 rfl wr.heap.size 22 i1 (.slice none 0 0) 1 24 Tryd.underlying51 hi1 hy0 hy1 hy2 rfl (by decide) _ _ _ rfl hown5 ⟨gx, i + 1, none⟩ _ _ ((zl.drop (i+1)).map encS) rfl (by simp <;> omega) hn4 (encS_one _) (by unfold maxLen; omega) (by omega) hb4.size ?_; intro v6 w6 hown6 hgrow6 _ hat6) | (at_builtin; refine wpList_append_own_at _ rfl (.tmp 40) (.tmp 43) 51 rfl wr.heap.size 22 i1 (.slice none 0 0) 1 24 Tryd.underlying51 hi1 hy0 hy1 hy2 rfl (by decide) _ _ _ rfl hown0 ⟨gx, 0, none⟩ i ac ((zl.take i).map encS) rfl (by rw [List.length_map, hti, Nat.mul_one]) hn0 (encS_one _) (by rw [List.length_nil]; unfold maxLen; omega) (by rw [List.length_nil]; omega) hb0.size ?_; intro v4 w4 hown4 hgrow4 _ hat4; have hb4 := hb0.grown hgrow4 (fun k hk => own_base hown0 k hk); have hown5 : w4.ownsRow wr.heap.size 22 1 v4 i ((zl.take i).map encS) := (by simpa using hown4); have hn4 := row_cells (ownsRow_bel hLr hb4) (i + 1)))
                clear hown4 hgrow4 hat4 hn0 hLr
                have hb6 := hb4.grown hgrow6 (fun k hk => own_base hown5 k hk)
                have hown7 : w6.ownsRow wr.heap.size 22 1 v6 ((zl.eraseIdx i).map encS).length ((zl.eraseIdx i).map encS) := by
                  rw [hey, List.length_map, List.length_append, hti, hdl]; simpa using hown6
                obtain ⟨tag6, hL6, hT6⟩ := tag_new (tag := tag) 0 hown7 hb6 hbn.size
                have hO6 := hT6 _ _ _ _ hO
                go_roundw
                case rel => exact ⟨k+1, tag6, zl.eraseIdx i, zo, left.eraseIdx i, out, by omega, by go_num, hL6, hE2, hO6, hEo, E.out, HS2.out, by omega, hbn.step hb6⟩
                case measure => simp [intOf]; omega
      · have E := Lib.hid (left_end hmin hlt)
        clear hmin
        obtain ⟨ao, no, co, rfl⟩ := own_form hO.1
        go_wp2_with fail
        go_ret
        exact ⟨_, _, _, rfl, by rw [E.out]; exact hO.rowV hEo, hb1⟩
end Go.Proofs.YteapfeaaofhgnaaDoor
end
