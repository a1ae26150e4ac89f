/- Chapter 4: ApplyClause, both sides. -/
import Derived.Test.YtajmjjandkdhiaaClAs
import Derived.Test.YtajmjjandkdhiaaClAp
import Derived.Test.YtajmjjandkdhiaaSubst
import Derived.Test.YtajmjjandkdhiaaClI1
namespace Go.Proofs.Ytajmjjandkdhiaa
open Go.RowKit

theorem l4Clause_v (l h l' h' : Nat) (v u : Value) (ar : List Int) (c : List Lt) (q : Bool) (w : World) (he : okLits ar c = q) (hg : goodSign ar = true) (hx : shortC c) (hv : SlI l h w v ar) (hu : SlC l' h' w u c) :
    Calls Try.prog 63 #[.agg #[v], u] w (RetV w (.bool q)) := by subst he; exact l4Clause_c l h l' h' v u ar c w hg hx hv hu

set_option maxRecDepth 100000 in
set_option maxHeartbeats 400000 in
theorem l4Made_c (l h lo hi : Nat) (v u : Value) (ar : List Int) (c : List Lt) (w : World) (hg : goodSign ar = true) (hx : shortC c) (hv : SlI l h w v ar) (hu : OwnC lo hi w u c) :
    Calls Try.prog 76 #[.agg #[v], u] w (fun e w' => ∃ ad n k, e = .returned (.tuple #[.slice ad n k, .bool (okLits ar c)]) ∧ OwnC lo hi w' (.slice ad n k) (if okLits ar c then c else []) ∧ Bel w w') := by
  cases hq : okLits ar c with
  | false =>
    rw [if_neg (by simp)]
    have HQ := Lib.hid hq; clear hq
    have hul := hu.sl
    go_enter Try.func76, Try.ntmps76
    go_wp2_with fail
    refine (l4Clause_v _ _ _ _ _ _ ar c false _ HQ.out hg hx (hv.alloc _) (hul.alloc _)).mono ?_; rintro e w1 ⟨rfl, hb1⟩
    go_wp2_with fail
    go_ret2
    exact ⟨_, _, _, rfl, OwnC.nil _ _ _, hb1.of_alloc⟩
  | true =>
    rw [if_pos rfl]
    have HQ := Lib.hid hq; clear hq
    have HU := Lib.hid hu
    have hul := hu.sl
    clear hu
    obtain ⟨au, cu, rfl⟩ := hul.form
    go_enter Try.func76, Try.ntmps76
    go_wp2_with fail
    refine (l4Clause_v _ _ _ _ _ _ ar c true _ HQ.out hg hx (hv.alloc _) (hul.alloc _)).mono ?_; rintro e w1 ⟨rfl, hb1⟩
    go_wp2_with fail
    go_ret2
    exact ⟨_, _, _, rfl, HU.out.below hb1.of_alloc, hb1.of_alloc⟩

theorem flat_rows {ar : List Int} {c : List Lt} (h : okLits ar c = true) : ∀ t ∈ flatC c, t.length ≤ 1024 ∧ ∀ k, k < t.length → -12 ≤ t.getD k 0 := fun t ht => by
  have := flat_ok (okLits_iff.1 h).2 ht
  exact ⟨by have := (okTerm_len this).2; omega, low_mem fun _ hn => ok_low this hn⟩
theorem applyC_short {ar : List Int} {b : List (List Int)} {c : List Lt} (hb : lens40 b) (hc : okLits ar c = true) : shortC (applyC b c) := by
  obtain ⟨h8, hok⟩ := okLits_iff.1 hc
  refine ⟨by simp [applyC]; omega, fun j hj => ?_⟩
  have hj' : j < c.length := by simpa [applyC] using hj
  obtain ⟨o1, o2⟩ := okLits_get hok j hj'
  have l1 := appT_len hb (c.getD j lt0).2.1
  have l2 := appT_len hb (c.getD j lt0).2.2
  have k1 := (okTerm_len o1).2
  have k2 := (okTerm_len o2).2
  have e : (applyC b c).getD j lt0 = ((c.getD j lt0).1, appT b (c.getD j lt0).2.1, appT b (c.getD j lt0).2.2) := by simp [applyC, List.getD, hj']
  rw [e]
  exact ⟨by show (appT b _).length ≤ _; omega, by show (appT b _).length ≤ _; omega⟩

set_option maxRecDepth 100000 in
set_option maxHeartbeats 1000000 in
theorem sApplyClause_t {l h l' h' l2 h2 : Nat} {v u x : Value} {ar : List Int} {b : List (List Int)} {c : List Lt} {w : World} (ha : ar.length ≤ 1048576) (hv : SlI l h w v ar) (hb : short b) (hu : SlS l' h' w u b) (hc : sumC c ≤ 1048576) (hx : SlC l2 h2 w x c) :
    Calls Try.prog 37 #[.agg #[v], u, x] w (RetCB w (applyCAns ar b c) (applyCok ar b c)) := by
  unfold applyCAns applyCok
  cases hs : goodSubst ar b with
  | false =>
    rw [Bool.false_and, Bool.false_and, if_neg (by simp)]
    have HS := Lib.hid hs; clear hs
    go_enter Try.func37, Try.ntmps37
    go_wp2_with fail
    refine (sGoodSubst_v _ _ _ _ _ _ ar b false _ HS.out ha (hv.alloc _) hb (hu.alloc _)).mono ?_; rintro e w1 ⟨rfl, hb1⟩
    go_wp2_with fail
    go_ret2
    exact ⟨_, _, _, rfl, OwnC.nil _ _ _, hb1.of_alloc⟩
  | true =>
    rw [Bool.true_and]
    have hg := (goodSubst_iff.1 hs).1
    have hl12 := (goodSubst_iff.1 hs).2.1
    have h40 := goodSubst_len40 hs
    have HS := Lib.hid hs; clear hs
    cases hq : okLits ar c with
    | false =>
      rw [Bool.false_and, if_neg (by simp)]
      have HQ := Lib.hid hq; clear hq hl12
      have hsc := shortC_of_sum hc
      go_enter Try.func37, Try.ntmps37
      go_wp2_with fail
      refine (sGoodSubst_v _ _ _ _ _ _ ar b true _ HS.out ha (hv.alloc _) hb (hu.alloc _)).mono ?_; rintro e w1 ⟨rfl, hb1⟩
      have hbox := boxc hb1 0 _ rfl
      go_wp2_with fail
      refine (l4Clause_v _ _ _ _ _ _ ar c false _ HQ.out hg hsc (hv.below hb1.of_alloc) (hx.below hb1.of_alloc)).mono ?_; rintro e w2 ⟨rfl, hb2⟩
      go_wp2_with fail
      go_ret2
      exact ⟨_, _, _, rfl, OwnC.nil _ _ _, hb1.of_alloc.step hb2⟩
    | true =>
      rw [Bool.true_and]
      have hsa := applyC_short h40 hq
      have hfr := flat_rows hq
      have hsc := shortC_of_sum hc
      have HA := Lib.hid (fun (w' : World) (hb' : Bel w w') => l4Apply_c _ _ _ _ _ _ b c w' hl12 h40 hsc.1 hfr (hu.below hb') (hx.below hb'))
      have HM := Lib.hid (fun (w' : World) (y : Value) (hb' : Bel w w') (hy : OwnC w.heap.size w'.heap.size w' y (applyC b c)) => l4Made_c _ _ _ _ _ y ar (applyC b c) w' hg hsa (hv.below hb') hy)
      have HQ := Lib.hid hq; clear hq hl12 hfr hsa
      generalize applyC b c = r at *
      generalize okLits ar r = q2 at *
      generalize (if q2 = true then r else []) = r2 at *
      go_enter Try.func37, Try.ntmps37
      go_wp2_with fail
      refine (sGoodSubst_v _ _ _ _ _ _ ar b true _ HS.out ha (hv.alloc _) hb (hu.alloc _)).mono ?_; rintro e w1 ⟨rfl, hb1⟩
      have hbox := boxc hb1 0 _ rfl
      go_wp2_with fail
      refine (l4Clause_v _ _ _ _ _ _ ar c true _ HQ.out hg hsc (hv.below hb1.of_alloc) (hx.below hb1.of_alloc)).mono ?_; rintro e w2 ⟨rfl, hb2⟩
      have hbox2 := hb2.at (World.block_lt_of_cell? _ ⟨_, _, none⟩ hbox) hbox
      have HB2 := hb1.of_alloc.step hb2
      go_wp2_with fail
      have HD2 := HB2.drew
      have hbox3 := (Bel.drew0 w2).at (World.block_lt_of_cell? _ ⟨_, _, none⟩ hbox2) hbox2
      go_region_held3 (fun w' => w'.cell? ⟨w.heap.size, 0, none⟩ = some v)
        (first | exact hbox5 | exact hbox4 | exact hbox3 | fail)
        (first | (go_at_call 76; refine (HM.out _ _ HB3 (ho3.mono HD2.size (Nat.le_refl _))).mono ?_; rintro e w4 ⟨a4, n4, c4, rfl, ho4, hb4⟩; have hbox5 := hb4.at (World.block_lt_of_cell? _ ⟨_, _, none⟩ hbox4) hbox4) | (go_at_call 77; refine (HA.out _ HD2).mono ?_; rintro e w3 ⟨a3, n3, c3, rfl, ho3, hb3⟩; have HB3 := HD2.step hb3; have hbox4 := hb3.at (World.block_lt_of_cell? _ ⟨_, _, none⟩ hbox3) hbox3) | fail)
      have hz4 := hb4.size
      go_wp2_with fail
      go_ret2
      exact ⟨_, _, _, rfl, ho4.mono (Nat.le_refl _) hz4, HB3.step hb4⟩

set_option maxRecDepth 100000 in
set_option maxHeartbeats 1000000 in
theorem iApplyClause_t {l h l' h' l2 h2 : Nat} {v u x : Value} {ar : List Int} {b : List (List Int)} {c : List Lt} {w : World} (ha : ar.length ≤ 1048576) (hv : SlI l h w v ar) (hb : short b) (hu : SlS l' h' w u b) (hc : sumC c ≤ 1048576) (hx : SlC l2 h2 w x c) :
    Calls Try.prog 39 #[.agg #[v], u, x] w (RetCB w (applyCAns ar b c) (applyCok ar b c)) := by
  unfold applyCAns applyCok
  cases hs : goodSubst ar b with
  | false =>
    rw [Bool.false_and, Bool.false_and, if_neg (by simp)]
    have HS := Lib.hid hs; clear hs
    go_enter Try.func39, Try.ntmps39
    go_wp2_with fail
    refine (iGoodSubst_v _ _ _ _ _ _ ar b false _ HS.out ha (hv.alloc _) hb (hu.alloc _)).mono ?_; rintro e w1 ⟨rfl, hb1⟩
    go_wp2_with fail
    go_ret2
    exact ⟨_, _, _, rfl, OwnC.nil _ _ _, hb1.of_alloc⟩
  | true =>
    rw [Bool.true_and]
    have hg := (goodSubst_iff.1 hs).1
    have hl12 := (goodSubst_iff.1 hs).2.1
    have h40 := goodSubst_len40 hs
    have hs0 := hs
    have HS := Lib.hid hs; clear hs
    have hgc : goodClause ar c = okLits ar c := by unfold goodClause; rw [hg, Bool.true_and]
    cases hq : okLits ar c with
    | false =>
      rw [Bool.false_and, if_neg (by simp)]
      rw [hq] at hgc
      have HQ := Lib.hid hgc; clear hq hl12 hgc hs0
      go_enter Try.func39, Try.ntmps39
      go_wp2_with fail
      refine (iGoodSubst_v _ _ _ _ _ _ ar b true _ HS.out ha (hv.alloc _) hb (hu.alloc _)).mono ?_; rintro e w1 ⟨rfl, hb1⟩
      have hbox := boxc hb1 0 _ rfl
      go_wp2_with fail
      refine (iGoodClause_v HQ.out ha (hv.below hb1.of_alloc) hc (hx.below hb1.of_alloc)).mono ?_; rintro e w2 ⟨rfl, hb2⟩
      go_wp2_with fail
      go_ret2
      exact ⟨_, _, _, rfl, OwnC.nil _ _ _, hb1.of_alloc.step hb2⟩
    | true =>
      rw [Bool.true_and]
      have hok := applyC_ok hs0 hq
      have hfr := flat_rows hq
      rw [hq] at hgc
      have hle := sumC_len c
      have HA := Lib.hid (fun (w' : World) (hb' : Bel w w') => appliedClause_c _ _ _ _ _ _ b c w' hl12 h40 (by omega) hfr (hu.below hb') (hx.below hb') _ _ hok.symm rfl)
      have HQ := Lib.hid hgc; clear hq hl12 hfr hok hgc hs0 hle
      generalize okLits ar (applyC b c) = q2 at *
      generalize (if q2 = true then applyC b c else []) = r2 at *
      go_enter Try.func39, Try.ntmps39
      go_wp2_with fail
      refine (iGoodSubst_v _ _ _ _ _ _ ar b true _ HS.out ha (hv.alloc _) hb (hu.alloc _)).mono ?_; rintro e w1 ⟨rfl, hb1⟩
      have hbox := boxc hb1 0 _ rfl
      go_wp2_with fail
      refine (iGoodClause_v HQ.out ha (hv.below hb1.of_alloc) hc (hx.below hb1.of_alloc)).mono ?_; rintro e w2 ⟨rfl, hb2⟩
      have HB2 := hb1.of_alloc.step hb2
      go_wp2_with fail
      refine (HA.out _ HB2).mono ?_; rintro e w3 ⟨a3, n3, c3, rfl, ho3, hb3⟩
      go_wp2_with fail
      go_ret2
      exact ⟨_, _, _, rfl, ho3.mono HB2.size (Nat.le_refl _), HB2.step hb3⟩
theorem applyCAns_len (ar : List Int) (b : List (List Int)) (c : List Lt) : sumC (applyCAns ar b c) ≤ 1048576 := by
  unfold applyCAns
  split
  · rename_i hg
    unfold applyCok at hg
    simp only [Bool.and_eq_true] at hg
    obtain ⟨h8, hok⟩ := okLits_iff.1 hg.2
    rw [sumC_eq]
    unfold lenC
    have := sumL_le40 (flatC (applyC b c)) (fun t ht => (okTerm_len (flat_ok hok ht)).2)
    rw [flatC_len] at this
    omega
  · simp [sumC]
end Go.Proofs.Ytajmjjandkdhiaa
