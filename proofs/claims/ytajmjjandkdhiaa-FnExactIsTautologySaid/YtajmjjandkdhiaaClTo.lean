/- Chapter 4: IsTautology, both sides. -/
import Derived.Test.YtajmjjandkdhiaaClTa
import Derived.Test.YtajmjjandkdhiaaClK2
import Derived.Test.YtajmjjandkdhiaaClI1
namespace Go.Proofs.Ytajmjjandkdhiaa
open Go.RowKit

theorem sameTs_symm {x y : Lt} (h : sameTs x y = true) : sameTs y x = true := by
  simp only [sameTs, Bool.or_eq_true, Bool.and_eq_true, decide_eq_true_iff] at *
  rcases h with ⟨a, b⟩ | ⟨a, b⟩
  · exact .inl ⟨a.symm, b.symm⟩
  · exact .inr ⟨b.symm, a.symm⟩
theorem take_mem {c : List Lt} {i j : Nat} (hij : i < j) (hj : j < c.length) : c.getD i lt0 ∈ c.take j := by
  have : (c.take j)[i]? = some (c.getD i lt0) := by rw [List.getElem?_take, if_pos hij, List.getElem?_eq_getElem (by omega)]; simp [List.getD, show i < c.length by omega]
  exact List.mem_of_getElem? this
theorem taut_pair {c : List Lt} {i j : Nat} (hi : i < c.length) (hj : j < c.length) (hp : (c.getD i lt0).1 ≠ (c.getD j lt0).1) (hs : sameTs (c.getD i lt0) (c.getD j lt0) = true) : tautC c = true := by
  rcases Nat.lt_trichotomy i j with h | h | h
  · refine taut_out hj ?_
    unfold tautAt
    rw [Bool.or_eq_true]
    refine .inr (List.any_eq_true.2 ⟨_, take_mem h hj, ?_⟩)
    rw [sameTs_symm hs, Bool.and_true]; exact bne_iff_ne.2 (Ne.symm hp)
  · subst h; exact absurd rfl hp
  · refine taut_out hi ?_
    unfold tautAt
    rw [Bool.or_eq_true]
    refine .inr (List.any_eq_true.2 ⟨_, take_mem h hi, ?_⟩)
    rw [hs, Bool.and_true]; exact bne_iff_ne.2 hp
theorem taut_keys {c : List Lt} (hk : ∀ x ∈ c, inKeyL x) : tautK (c.map keyL) = tautC c := by
  have hidx : ∀ x ∈ c, ∃ i, i < c.length ∧ c.getD i lt0 = x := fun x hx => by
    obtain ⟨i, hi, rfl⟩ := List.getElem_of_mem hx
    exact ⟨i, hi, by simp [List.getD, hi]⟩
  rw [Bool.eq_iff_iff]
  constructor
  · intro h
    obtain ⟨k, hkm, hc⟩ := List.any_eq_true.1 h
    obtain ⟨x, hx, rfl⟩ := List.mem_map.1 hkm
    rw [Bool.or_eq_true] at hc
    obtain ⟨i, hi, rfl⟩ := hidx x hx
    rcases hc with hc | hc
    · refine taut_out hi ?_
      unfold tautAt
      rw [Bool.or_eq_true]
      rw [keyL_triv (hk _ hx)] at hc
      exact .inl hc
    · obtain ⟨y', hym, hc⟩ := List.any_eq_true.1 hc
      obtain ⟨y, hy, rfl⟩ := List.mem_map.1 hym
      obtain ⟨j, hj, rfl⟩ := hidx y hy
      have hc := of_decide_eq_true hc
      have h1 : (!(c.getD i lt0).1) = (c.getD j lt0).1 := by have := congrArg Prod.fst hc; exact this
      have h2 : (keyL (c.getD i lt0)).2 = (keyL (c.getD j lt0)).2 := by have := congrArg Prod.snd hc; exact this
      have h3 := keyL_same (hk _ hx) (hk _ hy)
      rw [decide_eq_true h2] at h3
      exact taut_pair hi hj (by rw [← h1]; simp) h3.symm
  · intro h
    unfold tautC at h
    obtain ⟨i, hi, hc⟩ := List.any_eq_true.1 h
    have hi : i < c.length := by simpa using hi
    have hx := getD_mem c lt0 i hi
    unfold tautAt at hc
    rw [Bool.or_eq_true] at hc
    refine List.any_eq_true.2 ⟨keyL (c.getD i lt0), List.mem_map.2 ⟨_, hx, rfl⟩, ?_⟩
    rw [Bool.or_eq_true]
    rcases hc with hc | hc
    · exact .inl (by rw [keyL_triv (hk _ hx)]; exact hc)
    · obtain ⟨y, hy, hc⟩ := List.any_eq_true.1 hc
      have hy := List.mem_of_mem_take hy
      simp only [Bool.and_eq_true] at hc
      refine .inr (List.any_eq_true.2 ⟨keyL y, List.mem_map.2 ⟨_, hy, rfl⟩, decide_eq_true ?_⟩)
      have h3 := keyL_same (hk _ hx) (hk _ hy)
      rw [hc.2] at h3
      refine Prod.ext ?_ (of_decide_eq_true h3)
      show (!(c.getD i lt0).1) = y.1
      have := bne_iff_ne.1 hc.1
      revert this
      generalize (c.getD i lt0).1 = p
      generalize y.1 = q
      intro this
      cases p <;> cases q <;> simp_all
theorem goodSign_len10 {ar : List Int} (h : goodSign ar = true) : ar.length ≤ 10 := by
  simp [goodSign, inB] at h
  omega
theorem good_keys {ar : List Int} {c : List Lt} (h : goodClause ar c = true) : ∀ x ∈ c, inKeyL x ∧ x.2.1.length ≤ 40 ∧ x.2.2.length ≤ 40 := fun x hx => by
  obtain ⟨h1, _, h3⟩ := goodClause_iff.1 h
  have hl := goodSign_len10 h1
  have := okLit_iff.1 (h3 x hx)
  exact ⟨ok_inKeyL hl (h3 x hx), (okTerm_len this.1).2, (okTerm_len this.2).2⟩

set_option maxRecDepth 100000 in
set_option maxHeartbeats 400000 in
theorem iIsTautology_t {l h l' h' : Nat} {v u : Value} {ar : List Int} {c : List Lt} {w : World} (ha : ar.length ≤ 1048576) (hv : SlI l h w v ar) (hc : sumC c ≤ 1048576) (hu : SlC l' h' w u c) :
    Calls Try.prog 48 #[.agg #[v], u] w (RetV w (.tuple #[.bool (tautAns ar c), .bool (goodClause ar c)])) := by
  unfold tautAns
  cases hg : goodClause ar c with
  | false =>
    rw [Bool.false_and]
    have HG := Lib.hid hg; clear hg
    go_enter Try.func48, Try.ntmps48
    go_wp2_with fail
    refine (iGoodClause_v HG.out ha (hv.alloc _) hc (hu.alloc _)).mono ?_; rintro e w1 ⟨rfl, hb1⟩
    go_wp2_with fail
    go_ret2
    exact ⟨rfl, hb1.of_alloc⟩
  | true =>
    rw [Bool.true_and]
    have hk := good_keys hg
    rw [← taut_keys fun x hx => (hk x hx).1]
    have HC := Lib.hid (fun (w' : World) (hb : Bel w w') => isTaut_c l' h' u c w' (goodClause_iff.1 hg).2.1 hk (hu.below hb))
    have HG := Lib.hid hg; clear hg hk
    generalize tautK (c.map keyL) = q at *
    go_enter Try.func48, Try.ntmps48
    go_wp2_with fail
    refine (iGoodClause_v HG.out ha (hv.alloc _) hc (hu.alloc _)).mono ?_; rintro e w1 ⟨rfl, hb1⟩
    clear hc
    go_wp2_with fail
    refine (HC.out _ hb1.of_alloc).mono ?_; rintro e w2 ⟨rfl, hb2⟩
    go_wp2_with fail
    go_ret2
    exact ⟨rfl, hb1.of_alloc.step hb2⟩

set_option maxRecDepth 100000 in
set_option maxHeartbeats 400000 in
theorem sIsTautology_t {l h l' h' : Nat} {v u : Value} {ar : List Int} {c : List Lt} {w : World} (ha : ar.length ≤ 1048576) (hv : SlI l h w v ar) (hc : sumC c ≤ 1048576) (hu : SlC l' h' w u c) :
    Calls Try.prog 47 #[.agg #[v], u] w (RetV w (.tuple #[.bool (tautAns ar c), .bool (goodClause ar c)])) := by
  unfold tautAns
  cases hg : goodClause ar c with
  | false =>
    rw [Bool.false_and]
    have HG := Lib.hid hg; clear hg
    go_enter Try.func47, Try.ntmps47
    go_wp2_with fail
    refine (sGoodClause_v HG.out ha (hv.alloc _) hc (hu.alloc _)).mono ?_; rintro e w1 ⟨rfl, hb1⟩
    go_wp2_with fail
    go_ret2
    exact ⟨rfl, hb1.of_alloc⟩
  | true =>
    rw [Bool.true_and]
    have HC := Lib.hid (fun (w' : World) (hb : Bel w w') => l4Taut_c l' h' u c w' (shortC_of_sum hc) (hu.below hb))
    have HG := Lib.hid hg; clear hg
    generalize tautC c = q at *
    go_enter Try.func47, Try.ntmps47
    go_wp2_with fail
    refine (sGoodClause_v HG.out ha (hv.alloc _) hc (hu.alloc _)).mono ?_; rintro e w1 ⟨rfl, hb1⟩
    clear hc
    go_wp2_with fail
    refine (HC.out _ hb1.of_alloc).mono ?_; rintro e w2 ⟨rfl, hb2⟩
    go_wp2_with fail
    go_ret2
    exact ⟨rfl, hb1.of_alloc.step hb2⟩
end Go.Proofs.Ytajmjjandkdhiaa
