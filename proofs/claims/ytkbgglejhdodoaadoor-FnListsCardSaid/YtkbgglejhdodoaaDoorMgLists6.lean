/- Texts merged, part 6. -/
import Derived.IntWalk
import Derived.Test.YtkbgglejhdodoaaDoorRows
import Derived.ProofKit
import Derived.OpenShut
import Derived.ShutString
import Derived.ChangeOld
import Derived.Lib.SmallJoins
import Derived.Test.YtkbgglejhdodoaaDoorProg
import Derived.Shelf.Sort.Plain
import Derived.KernelRfl
import Derived.Shelf.Slices.In.SortNone
import Derived.Sort.OwnSortedInts
import Derived.Maps.OwnSet
import Derived.Maps.RangeWalk
import Derived.Test.YtkbgglejhdodoaaDoorMgLists5
section
/- l2Apply's result as a row of the call's own. -/
namespace Go.Proofs.YtkbgglejhdodoaaDoor
open Go.RowKit
end Go.Proofs.YtkbgglejhdodoaaDoor
end
section
/- ReplaceAt: both functions. -/
namespace Go.Proofs.YtkbgglejhdodoaaDoor
open Go.RowKit

def replIn (ar t : List Int) (i : Int) (u : List Int) : List Int := replaced t i.toNat ((endOf ar t i.toNat).getD 0) u
def replOk (ar t : List Int) (i : Int) (u : List Int) : Bool := askOk ar t i && okTerm ar u && okTerm ar (replIn ar t i u)
def replAns (ar t : List Int) (i : Int) (u : List Int) : List Int := if replOk ar t i u then replIn ar t i u else []
theorem replAns_len (ar t : List Int) (i : Int) (u : List Int) : (replAns ar t i u).length ≤ 1048576 := by
  unfold replAns
  split
  · rename_i h
    simp only [replOk, Bool.and_eq_true] at h
    have := ((okTerm_iff _ _).1 h.2).2.1
    omega
  · exact Nat.zero_le _
theorem replIn_eq {ar t u : List Int} {k q : Nat} (he : endOf ar t k = some q) : replIn ar t k u = replaced t k q u := by simp [replIn, he]
theorem repl_no {ar t u : List Int} {i : Int} (h : replOk ar t i u = false) : replAns ar t i u = [] := by simp [replAns, h]
theorem repl_yes {ar t u : List Int} {i : Int} (h : replOk ar t i u = true) : replAns ar t i u = replIn ar t i u := by simp [replAns, h]

set_option maxRecDepth 100000 in
set_option maxHeartbeats 2000000 in
theorem iReplaceAt_t {l h l' h' l2 h2 : Nat} {v u x : Value} {ar t r : List Int} {w : World} (ha : ar.length ≤ 1048576) (hv : SlI l h w v ar) (ht : t.length ≤ 1048576) (hu : SlI l' h' w u t) {i : Int} (_ : -9223372036854775808 ≤ i) (_ : i ≤ 9223372036854775807) (hr : r.length ≤ 1048576) (hx : SlI l2 h2 w x r) :
    Calls Tryd.prog 22 #[.agg #[v], u, .int .i64 i, x] w (RetIB w (replAns ar t i r) (replOk ar t i r)) := by
  cases hs : askOk ar t i with
  | false =>
    have h0 : replOk ar t i r = false := by simp [replOk, hs]
    have E := Lib.hid (repl_no h0)
    have E2 := Lib.hid h0
    have HS := Lib.hid hs; clear hs h0
    go_enter Tryd.func22, Tryd.ntmps22
    go_wp2_with fail
    refine (hasIndex_v _ _ _ _ _ _ _ _ _ _ _ HS.out ha ht (hv.alloc _) (hu.alloc _)).mono ?_; rintro e w' ⟨rfl, hb1⟩
    go_wp2_with fail
    go_ret2
    exact ⟨_, _, _, by rw [E2.out]; rfl, by rw [E.out]; exact OwnI.nil _ _ _, hb1.of_alloc⟩
  | true =>
    obtain ⟨k, q, rfl, hk, he, hq1, hq2, hlen, hg, hok⟩ := ask_yes hs
    have HS := Lib.hid hs
    cases hur : okTerm ar r with
    | false =>
      have h0 : replOk ar t k r = false := by simp [replOk, hur]
      have E := Lib.hid (repl_no h0)
      have E2 := Lib.hid h0
      have HU := Lib.hid (show goodTerm ar r = false by simp [goodTerm, hur]); clear hur h0 hs he
      go_enter Tryd.func22, Tryd.ntmps22
      go_wp2_with fail
      refine (hasIndex_v _ _ _ _ _ _ _ _ _ _ _ HS.out ha ht (hv.alloc _) (hu.alloc _)).mono ?_; rintro e w' ⟨rfl, hb1⟩
      have hx1 := boxc hb1 0 _ rfl
      go_wp2_with fail
      refine (iGoodTerm_v _ _ _ _ _ _ _ _ _ _ HU.out ha hr (hv.below hb1.of_alloc) (hx.below hb1.of_alloc)).mono ?_; rintro e w2 ⟨rfl, hb2⟩
      go_wp2_with fail
      go_ret2
      exact ⟨_, _, _, by rw [E2.out]; rfl, by rw [E.out]; exact OwnI.nil _ _ _, hb1.of_alloc.step hb2⟩
    | true =>
      have hrp := ((okTerm_iff ar r).1 hur).1
      have hor := replaced_ok ar t r k q hok hur hk he
      have hlq := replaced_len t r k q (by omega) hq2
      have hi2 := replIn_eq (u := r) he
      have hr40 := ((okTerm_iff ar r).1 hur).2.1
      have HU := Lib.hid (show goodTerm ar r = true by simp [goodTerm, hur, hg]); have HE := Lib.hid he
      have h0 : replOk ar t k r = decide ((replaced t k q r).length ≤ 40) := by simp only [replOk, hi2, hor, hs, hur, Bool.true_and]
      have E := Lib.hid (show (replaced t k q r).length ≤ 40 → replAns ar t k r = replaced t k q r from fun h => by rw [repl_yes (by rw [h0]; simpa using h), hi2])
      have E3 := Lib.hid (show ¬ (replaced t k q r).length ≤ 40 → replAns ar t k r = [] from fun h => repl_no (by rw [h0]; simpa using h))
      have E2 := Lib.hid h0
      clear h0 hs he hi2 hor hur
      obtain ⟨b, off, cap, rfl, hcap⟩ := hu.plain (by omega)
      obtain ⟨xb, xo, xc, rfl, hxc⟩ := hx.plain hrp
      have hcut : Hid (∀ w', Bel w w' → SlI l' h' w' (.slice (some ⟨b, off, none⟩) k cap) (t.take k)) := fun w' hb => by
        have := (hu.below hb).cut 0 k (by omega) (by omega); simpa using this
      have hq3 : (k : Int) < q := by omega
      have hq4 : (q : Int) ≤ t.length := by omega
      have hq5 : (t.length : Int) ≤ cap := by omega
      have hk0 : (0 : Int) ≤ k := by omega
      have hk5 : (k : Int) ≤ cap := by omega
      have hq7 : (q : Int) ≤ cap := by omega
      have hdl : (t.drop q).length = t.length - q := by simp
      have htl : (t.take k).length = k := by simp; omega
      have hfl : Hid (t.take k ++ r ++ t.drop q = replaced t k q r) := rfl
      have hsum : (t.take k).length + r.length + (t.drop q).length ≤ 1099511627776 := by omega
      have hsl : Hid (∀ w', Bel w w' → SlI 0 w'.heap.size w' (.slice (some ⟨b, off, none⟩) k cap) (t.take k)) := fun w' hb => (hcut.out w' hb).in'
      have hsl3 : Hid (∀ w', Bel w w' → SlI 0 w'.heap.size w' (.slice (some ⟨xb, xo, none⟩) r.length xc) r) := fun w' hb => (hx.below hb).in'
      clear hcut
      have hsl2 : (cap = q ∧ Hid (∀ w', Bel w w' → SlI 0 w'.heap.size w' (.slice (some ⟨b, off, none⟩) 0 0) (t.drop q))) ∨ (q < cap ∧ Hid (∀ w', Bel w w' → SlI 0 w'.heap.size w' (.slice (some ⟨b, off + q, none⟩) (t.length - q) (cap - q)) (t.drop q))) := by
        rcases Nat.lt_or_ge q cap with h | h
        · refine .inr ⟨h, fun w' hb => ?_⟩
          have := (hu.below hb).cut q t.length (by omega) (by omega)
          rw [List.take_of_length_le (by simp)] at this
          exact this.in'
        · refine .inl ⟨by omega, fun w' hb => ?_⟩
          obtain rfl : t.length = q := by omega
          rw [List.drop_length]
          exact ⟨_, 0, rfl, Nat.le_refl _, ⟨Nat.zero_le _, fun h => by simp at h⟩, fun h => absurd h (by simp)⟩
      rcases hsl2 with ⟨hqc, hsl2⟩ | ⟨hqc, hsl2⟩
      · obtain rfl : cap = q := hqc
        by_cases hfit : (replaced t k cap r).length ≤ 40
        · have E4 := Lib.hid (E.out hfit); have E5 : Hid (replOk ar t k r = true) := by show _ = _; rw [E2.out]; simpa using hfit
          clear E E3 E2
          go_enter Tryd.func22, Tryd.ntmps22
          go_wp2_with fail
          refine (hasIndex_v _ _ _ _ _ _ _ _ _ _ _ HS.out ha ht (hv.alloc _) (hu.alloc _)).mono ?_; rintro e w1 ⟨rfl, hb1⟩
          have hx1 := boxc hb1 0 _ rfl
          go_wp2_with fail
          refine (iGoodTerm_v _ _ _ _ _ _ _ _ _ _ HU.out ha hr (hv.below hb1.of_alloc) (hx.below hb1.of_alloc)).mono ?_; rintro e w2 ⟨rfl, hb2⟩
          have hx2 := boxc (hb1.step hb2) 0 _ rfl
          have hb12 := hb1.of_alloc.step hb2
          go_wp2_with fail
          refine (termEnd_v _ _ _ _ _ _ ar t k cap _ HE.out hg ht (by omega) (hv.below hb12) (hu.below hb12)).mono ?_; rintro e w3 ⟨rfl, hb3⟩
          have hb13 := hb12.step hb3
          go_wp2_with fail
          go_region_held3 (fun w' => Bel w3 w') (first | exact Bel.drew0 _ | exact Bel.alloc (Bel.drew0 _) _ | exact hb4.of_drew.of_alloc | exact hb4.of_alloc)
            (first | (go_at_call 61; refine (concat3_c 0 w3.heap.size _ _ _ _ _ _ _ _ _ (t.take k) r (t.drop cap) w3 hsum (hsl.out _ hb13) (hsl3.out _ hb13) (hsl2.out _ hb13) _).mono ?_; rintro e w4 ⟨a4, n4, c4, rfl, ho4, hb4⟩))
          have hn4 : (n4 : Int) ≤ 40 := by
            obtain ⟨ad, c, e, _⟩ := ho4.1
            simp only [Value.slice.injEq] at e
            rw [e.2.1, hfl.out]; omega
          go_wp2_with fail
          go_ret2
          refine ⟨_, _, _, by rw [E5.out]; rfl, ?_, hb13.step (hb4.of_drew.of_alloc)⟩
          rw [E4.out, ← hfl.out]
          have z := hb13.size
          exact ho4.mono (by show w.heap.size ≤ (w3.alloc _).heap.size; simp; omega) (Nat.le_refl _)
        · have E4 := Lib.hid (E3.out hfit); have E5 : Hid (replOk ar t k r = false) := by show _ = _; rw [E2.out]; simpa using hfit
          clear E E3 E2
          go_enter Tryd.func22, Tryd.ntmps22
          go_wp2_with fail
          refine (hasIndex_v _ _ _ _ _ _ _ _ _ _ _ HS.out ha ht (hv.alloc _) (hu.alloc _)).mono ?_; rintro e w1 ⟨rfl, hb1⟩
          have hx1 := boxc hb1 0 _ rfl
          go_wp2_with fail
          refine (iGoodTerm_v _ _ _ _ _ _ _ _ _ _ HU.out ha hr (hv.below hb1.of_alloc) (hx.below hb1.of_alloc)).mono ?_; rintro e w2 ⟨rfl, hb2⟩
          have hx2 := boxc (hb1.step hb2) 0 _ rfl
          have hb12 := hb1.of_alloc.step hb2
          go_wp2_with fail
          refine (termEnd_v _ _ _ _ _ _ ar t k cap _ HE.out hg ht (by omega) (hv.below hb12) (hu.below hb12)).mono ?_; rintro e w3 ⟨rfl, hb3⟩
          have hb13 := hb12.step hb3
          go_wp2_with fail
          go_region_held3 (fun w' => Bel w3 w') (first | exact Bel.drew0 _ | exact Bel.alloc (Bel.drew0 _) _ | exact hb4.of_drew.of_alloc | exact hb4.of_alloc)
            (first | (go_at_call 61; refine (concat3_c 0 w3.heap.size _ _ _ _ _ _ _ _ _ (t.take k) r (t.drop cap) w3 hsum (hsl.out _ hb13) (hsl3.out _ hb13) (hsl2.out _ hb13) _).mono ?_; rintro e w4 ⟨a4, n4, c4, rfl, ho4, hb4⟩))
          have hn4 : (40 : Int) < n4 := by
            obtain ⟨ad, c, e, _⟩ := ho4.1
            simp only [Value.slice.injEq] at e
            rw [e.2.1, hfl.out]; omega
          go_wp2_with fail
          go_ret2
          refine ⟨_, _, _, by rw [E5.out]; rfl, ?_, hb13.step (hb4.of_drew.of_alloc)⟩
          rw [E4.out]; exact OwnI.nil _ _ _
      · have hne : ¬ cap = q := by omega
        by_cases hfit : (replaced t k q r).length ≤ 40
        · have E4 := Lib.hid (E.out hfit); have E5 : Hid (replOk ar t k r = true) := by show _ = _; rw [E2.out]; simpa using hfit
          clear E E3 E2
          go_enter Tryd.func22, Tryd.ntmps22
          go_wp2_with fail
          refine (hasIndex_v _ _ _ _ _ _ _ _ _ _ _ HS.out ha ht (hv.alloc _) (hu.alloc _)).mono ?_; rintro e w1 ⟨rfl, hb1⟩
          have hx1 := boxc hb1 0 _ rfl
          go_wp2_with fail
          refine (iGoodTerm_v _ _ _ _ _ _ _ _ _ _ HU.out ha hr (hv.below hb1.of_alloc) (hx.below hb1.of_alloc)).mono ?_; rintro e w2 ⟨rfl, hb2⟩
          have hx2 := boxc (hb1.step hb2) 0 _ rfl
          have hb12 := hb1.of_alloc.step hb2
          go_wp2_with fail
          refine (termEnd_v _ _ _ _ _ _ ar t k q _ HE.out hg ht (by omega) (hv.below hb12) (hu.below hb12)).mono ?_; rintro e w3 ⟨rfl, hb3⟩
          have hb13 := hb12.step hb3
          go_wp2_with fail
          go_region_held3 (fun w' => Bel w3 w') (first | exact Bel.drew0 _ | exact Bel.alloc (Bel.drew0 _) _ | exact hb4.of_drew.of_alloc | exact hb4.of_alloc)
            (first | (go_at_call 61; refine (concat3_c 0 w3.heap.size _ _ _ _ _ _ _ _ _ (t.take k) r (t.drop q) w3 hsum (hsl.out _ hb13) (hsl3.out _ hb13) (hsl2.out _ hb13) _).mono ?_; rintro e w4 ⟨a4, n4, c4, rfl, ho4, hb4⟩))
          have hn4 : (n4 : Int) ≤ 40 := by
            obtain ⟨ad, c, e, _⟩ := ho4.1
            simp only [Value.slice.injEq] at e
            rw [e.2.1, hfl.out]; omega
          go_wp2_with fail
          go_ret2
          refine ⟨_, _, _, by rw [E5.out]; rfl, ?_, hb13.step (hb4.of_drew.of_alloc)⟩
          rw [E4.out, ← hfl.out]
          have z := hb13.size
          exact ho4.mono (by show w.heap.size ≤ (w3.alloc _).heap.size; simp; omega) (Nat.le_refl _)
        · have E4 := Lib.hid (E3.out hfit); have E5 : Hid (replOk ar t k r = false) := by show _ = _; rw [E2.out]; simpa using hfit
          clear E E3 E2
          go_enter Tryd.func22, Tryd.ntmps22
          go_wp2_with fail
          refine (hasIndex_v _ _ _ _ _ _ _ _ _ _ _ HS.out ha ht (hv.alloc _) (hu.alloc _)).mono ?_; rintro e w1 ⟨rfl, hb1⟩
          have hx1 := boxc hb1 0 _ rfl
          go_wp2_with fail
          refine (iGoodTerm_v _ _ _ _ _ _ _ _ _ _ HU.out ha hr (hv.below hb1.of_alloc) (hx.below hb1.of_alloc)).mono ?_; rintro e w2 ⟨rfl, hb2⟩
          have hx2 := boxc (hb1.step hb2) 0 _ rfl
          have hb12 := hb1.of_alloc.step hb2
          go_wp2_with fail
          refine (termEnd_v _ _ _ _ _ _ ar t k q _ HE.out hg ht (by omega) (hv.below hb12) (hu.below hb12)).mono ?_; rintro e w3 ⟨rfl, hb3⟩
          have hb13 := hb12.step hb3
          go_wp2_with fail
          go_region_held3 (fun w' => Bel w3 w') (first | exact Bel.drew0 _ | exact Bel.alloc (Bel.drew0 _) _ | exact hb4.of_drew.of_alloc | exact hb4.of_alloc)
            (first | (go_at_call 61; refine (concat3_c 0 w3.heap.size _ _ _ _ _ _ _ _ _ (t.take k) r (t.drop q) w3 hsum (hsl.out _ hb13) (hsl3.out _ hb13) (hsl2.out _ hb13) _).mono ?_; rintro e w4 ⟨a4, n4, c4, rfl, ho4, hb4⟩))
          have hn4 : (40 : Int) < n4 := by
            obtain ⟨ad, c, e, _⟩ := ho4.1
            simp only [Value.slice.injEq] at e
            rw [e.2.1, hfl.out]; omega
          go_wp2_with fail
          go_ret2
          refine ⟨_, _, _, by rw [E5.out]; rfl, ?_, hb13.step (hb4.of_drew.of_alloc)⟩
          rw [E4.out]; exact OwnI.nil _ _ _
end Go.Proofs.YtkbgglejhdodoaaDoor
end
section
/- FnOrder: what the ordering of terms does. No program. -/
namespace Go.Proofs.YtkbgglejhdodoaaDoor
open Go.RowKit

theorem cmpT_cases (a b : List Int) : cmpT a b = 0 ∨ cmpT a b = 1 ∨ cmpT a b = -1 ∨ cmpT a b = 2 := by
  unfold cmpT; split
  · omega
  · split
    · omega
    · split <;> omega
theorem cmp_mk {ar a b : List Int} (hg : goodSign ar = true) (ha : okTerm ar a = true) (hb : okTerm ar b = true) : cmpOk ar a b = true := cmpOk_iff.2 ⟨goodTerm_iff.2 ⟨hg, ha⟩, goodTerm_iff.2 ⟨hg, hb⟩⟩
theorem appOk_iff {ar : List Int} {b : List (List Int)} {t : List Int} : applyOk ar b t = true ↔ goodSubst ar b = true ∧ okTerm ar t = true ∧ app40ok b t = true := by
  unfold applyOk
  simp only [Bool.and_eq_true]
  exact ⟨fun h => ⟨h.1.1, h.1.2, h.2⟩, fun h => ⟨⟨h.1, h.2.1⟩, h.2.2⟩⟩
theorem cmp_app {ar a b : List Int} {l : List (List Int)} (hn : cmpT a b = 1) (ha : applyOk ar l a = true) (hb : applyOk ar l b = true) :
    cmpOk ar (applyAns ar l a) (applyAns ar l b) = true ∧ cmpAns ar (applyAns ar l a) (applyAns ar l b) = 1 := by
  obtain ⟨hs, hat, ha40⟩ := appOk_iff.1 ha
  obtain ⟨-, hbt, hb40⟩ := appOk_iff.1 hb
  have hk := cmp_mk (goodSubst_iff.1 hs).1 ((app_ok hs hat).trans ha40) ((app_ok hs hbt).trans hb40)
  rw [applyAns_yes ha, applyAns_yes hb]
  exact ⟨hk, by rw [cmp_yes hk]; exact cmpT_one.2 (above_app l (cmpT_one.1 hn))⟩
theorem cmp_ctx {ar t a b : List Int} {z : Int} (hn : cmpT a b = 1) (ha : replOk ar t z a = true) (hb : replOk ar t z b = true) :
    cmpOk ar (replAns ar t z a) (replAns ar t z b) = true ∧ cmpAns ar (replAns ar t z a) (replAns ar t z b) = 1 := by
  have ha0 := ha
  have hb0 := hb
  unfold replOk at ha0 hb0
  simp only [Bool.and_eq_true] at ha0 hb0
  obtain ⟨⟨hask, -⟩, hra⟩ := ha0
  obtain ⟨-, hrb⟩ := hb0
  obtain ⟨k, e, rfl, hk, he, hke, het, h40, hg, hok⟩ := ask_yes hask
  have hk2 := cmp_mk hg hra hrb
  rw [repl_yes ha, repl_yes hb]
  refine ⟨hk2, ?_⟩
  rw [cmp_yes hk2, replIn_eq he, replIn_eq he]
  exact cmpT_one.2 (above_ctx _ _ (cmpT_one.1 hn))
theorem cmp_part {ar a : List Int} {z : Int} (h : askOk ar a z = true) :
    cmpOk ar a (partAns ar a z) = true ∧ (cmpAns ar a (partAns ar a z) = 1 ∨ partAns ar a z = a) := by
  obtain ⟨k, e, rfl, hk, he, hke, het, h40, hg, hok⟩ := ask_yes h
  have hp := partAns_yes h he
  have hpo := partOf_ok ar a k e hok hk he
  have hself := replaced_self a k e (by omega)
  have hlen := partOf_len a k e het
  rw [hp]
  have hk2 := cmp_mk hg hok hpo
  refine ⟨hk2, ?_⟩
  rw [cmp_yes hk2]
  by_cases hd : 0 < (a.take k).length + (a.drop e).length
  · left
    have := above_part (a.take k) (partOf a k e) (a.drop e) hd
    rw [show a.take k ++ partOf a k e ++ a.drop e = a from hself] at this
    exact cmpT_one.2 this
  · right
    have h1 : a.take k = [] := List.length_eq_zero_iff.1 (by omega)
    have h2 : a.drop e = [] := List.length_eq_zero_iff.1 (by omega)
    have h3 : a.take k ++ partOf a k e ++ a.drop e = a := hself
    rw [h1, h2] at h3
    simpa using h3
theorem ground_of {ar t : List Int} (h : goodTerm ar t = true) (hv : (varsAns ar t).length = 0) : ∀ n ∈ t, 0 ≤ n := by
  intro n hn
  have hl := (lowT.good h).mem hn
  apply Classical.byContradiction
  intro hneg
  rw [vars_yes h, natsI_len] at hv
  have hm : (-1 - n).toNat ∈ varsTo (mk t) 12 := by
    unfold varsTo
    rw [List.mem_filter, List.mem_range]
    refine ⟨by omega, ?_⟩
    unfold mk
    rw [show -1 - (((-1 - n).toNat : Nat) : Int) = n by omega]
    simpa using hn
  rw [List.length_eq_zero_iff.1 hv] at hm
  simp at hm
theorem cmp_facts {ar a b : List Int} (h : cmpOk ar a b = true) :
    (cmpAns ar a b = 1 ∧ cmpAns ar b a = -1) ∨ (cmpAns ar a b = 0 ∧ cmpAns ar b a = 0 ∧ a = b ∧ weiAns ar a b = false) ∨
    (cmpAns ar a b = 2 ∧ cmpAns ar b a = 2 ∧ weiAns ar a b = false ∧ 0 < (varsAns ar a).length + (varsAns ar b).length) ∨ (cmpAns ar a b = -1 ∧ weiAns ar a b = false) := by
  have h' : cmpOk ar b a = true := by rw [cmpOk_swap]; exact h
  have hw : cmpT a b ≠ 1 → weiAns ar a b = false := fun hn => by
    rw [wei_yes h, Bool.eq_false_iff]
    intro hc
    simp only [Bool.and_eq_true, decide_eq_true_eq] at hc
    exact hn (cmpT_one.2 (above_iff.2 ⟨covers_iff.1 hc.1, .inl hc.2⟩))
  rw [cmp_yes h, cmp_yes h']
  obtain ⟨f1, f2, f3⟩ := cmpT_flip (a := a) (b := b)
  obtain ⟨hga, hgb⟩ := cmpOk_iff.1 h
  rcases cmpT_cases a b with e | e | e | e
  · exact .inr (.inl ⟨e, f2 e, cmpT_zero.1 e, hw (by omega)⟩)
  · exact .inl ⟨e, f1 e⟩
  · exact .inr (.inr (.inr ⟨e, hw (by omega)⟩))
  · refine .inr (.inr (.inl ⟨e, f3 e, hw (by omega), ?_⟩))
    apply Classical.byContradiction
    intro hz
    obtain ⟨h1, h2, h3⟩ := cmpT_two.1 e
    rcases above_total (ground_of hga (by omega)) (ground_of hgb (by omega)) h1 with k | k
    · rw [h2] at k; simp at k
    · rw [h3] at k; simp at k
end Go.Proofs.YtkbgglejhdodoaaDoor
end
section
/- The laws' own comparisons. -/
namespace Go.Proofs.YtkbgglejhdodoaaDoor
open Go.RowKit

set_option maxRecDepth 100000 in
theorem sameTerm_c (l h l' h' : Nat) (v u : Value) (xs ys : List Int) (w : World) (hx : xs.length ≤ 1048576) (hy : ys.length ≤ 1048576) (hv : SlI l h w v xs) (hu : SlI l' h' w u ys) :
    Calls Tryd.prog 16 #[v, u] w (RetV w (.bool (decide (xs = ys)))) := by
  go_enter Tryd.func16, Tryd.ntmps16
  go_wp2_with fail
  refine (sameInts_c _ _ _ _ _ _ xs ys w hx hy hv hu).mono ?_; rintro e w1 ⟨rfl, hb⟩
  go_wp2_with fail
  go_ret
  exact ⟨rfl, hb⟩
set_option maxRecDepth 100000 in
theorem big_no (n m c d : Nat) (a b : Option Addr) (w : World) (hn : n ≤ 1048576) (hm : n + m ≤ 1048576) :
    Calls Tryd.prog 9 #[.slice a n c, .slice b m d] w (RetV w (.bool false)) := by
  have h1 : decide ((1048576 : Int) < n) = false := by simp; omega
  have h2 : decide ((1048576 : Int) - n < m) = false := by simp; omega
  have hw := IntWalk.i64_in ((1048576 : Int) - n) (by omega)
  go_enter Tryd.func9, Tryd.ntmps9
  go_wp2_with fail
  go_ret
  exact ⟨rfl, Bel.rfl' _⟩
set_option maxRecDepth 100000 in
theorem big_yes (n m c d : Nat) (a b : Option Addr) (w : World) (hn : n ≤ 9223372036854775807) (h : ¬ (n ≤ 1048576 ∧ n + m ≤ 1048576)) :
    Calls Tryd.prog 9 #[.slice a n c, .slice b m d] w (RetV w (.bool true)) := by
  by_cases h0 : 1048576 < n
  · have h1 : decide ((1048576 : Int) < n) = true := by simp; omega
    go_enter Tryd.func9, Tryd.ntmps9
    go_wp2_with fail
    go_ret
    exact ⟨rfl, Bel.rfl' _⟩
  · have h1 : decide ((1048576 : Int) < n) = false := by simp; omega
    have h2 : decide ((1048576 : Int) - n < m) = true := by simp; omega
    have hw := IntWalk.i64_in ((1048576 : Int) - n) (by omega)
    go_enter Tryd.func9, Tryd.ntmps9
    go_wp2_with fail
    go_ret
    exact ⟨rfl, Bel.rfl' _⟩
end Go.Proofs.YtkbgglejhdodoaaDoor
end
section
namespace Go.Proofs.YtkbgglejhdodoaaDoor
open Go.RowKit

/-- A slice of bytes that lies in blocks below hi. -/
def SlB (hi : Nat) (w : World) (v : Value) (n : Nat) : Prop :=
  ∃ ad cap, v = .slice ad n cap ∧ n ≤ cap ∧ (0 < n → ∃ b off, ad = some ⟨b, off, none⟩ ∧ b < hi ∧ ∀ j, j < n → ∃ x : Nat, x < 256 ∧ w.cell? ⟨b, off + j, none⟩ = some (.int .u8 x))

/-- The cursor of the draws at block b: n bytes, of which k have been read. -/
def Cur (b n k : Nat) (w : World) : Prop :=
  ∃ code seed, b < w.heap.size ∧ SlB b w code n ∧ w.cell? ⟨b, 0, none⟩ = some code ∧ w.cell? ⟨b, 1, none⟩ = some (.int .i64 (k : Nat)) ∧ w.cell? ⟨b, 2, none⟩ = some (.int .u64 seed) ∧
    (∀ j, w.frozen? ⟨b, j, none⟩ = false)

/-- A number below m; the cursor has gone on by d at most; nothing else has turned. -/
def RetD (b n k d m : Nat) (w : World) (e : Ending) (w' : World) : Prop :=
  ∃ x k' : Nat, e = .returned (.int .i64 x) ∧ x < m ∧ k ≤ k' ∧ k' ≤ k + d ∧ Cur b n k' w' ∧ Chg b (b+1) w w'

theorem SlB.chg {hi n lo' hi' : Nat} {w w' : World} {v : Value} (h : SlB hi w v n) (k : Chg lo' hi' w w') (hd : hi ≤ lo') : SlB hi w' v n := by
  obtain ⟨ad, cap, rfl, hc, hr⟩ := h
  refine ⟨ad, cap, rfl, hc, fun hp => ?_⟩
  obtain ⟨b, off, e, hb, hx⟩ := hr hp
  refine ⟨b, off, e, hb, fun j hj => ?_⟩
  obtain ⟨x, h1, h2⟩ := hx j hj
  exact ⟨x, h1, k.cell (World.block_lt_of_cell? w ⟨b, off + j, none⟩ h2) (.inl (by omega)) h2⟩
theorem Cur.step {b n k j : Nat} {w w' : World} {s : Int} (hc : Cur b n k w) (hg : Chg b (b+1) w w') (h0 : w'.cell? ⟨b, 0, none⟩ = w.cell? ⟨b, 0, none⟩) (h1 : w'.cell? ⟨b, 1, none⟩ = some (.int .i64 j)) (h2 : w'.cell? ⟨b, 2, none⟩ = some (.int .u64 s))
    (hf : ∀ j, w'.frozen? ⟨b, j, none⟩ = w.frozen? ⟨b, j, none⟩) : Cur b n j w' := by
  obtain ⟨code, seed, hbs, hr, c0, c1, c2, cf⟩ := hc
  exact ⟨code, s, Nat.lt_of_lt_of_le hbs hg.size, hr.chg hg (Nat.le_refl _), h0.trans c0, h1, h2, fun j => (hf j).trans (cf j)⟩
theorem Cur.two {b n k : Nat} {w : World} {z s : Int} (hc : Cur b n k w) (hz : z = ((k + 1 : Nat) : Int)) (p q : Nat) :
    Cur b n (k+1) ((((w.drewN p).setCell ⟨b, 1, none⟩ (.int .i64 z)).setCell ⟨b, 2, none⟩ (.int .u64 s)).drewN q) ∧
      Chg b (b+1) w ((((w.drewN p).setCell ⟨b, 1, none⟩ (.int .i64 z)).setCell ⟨b, 2, none⟩ (.int .u64 s)).drewN q) := by
  subst hz
  have hg : Chg b (b+1) w ((((w.drewN p).setCell ⟨b, 1, none⟩ (.int .i64 ((k + 1 : Nat) : Int))).setCell ⟨b, 2, none⟩ (.int .u64 s)).drewN q) :=
    ((Chg.of_bel ((Bel.rfl' w).drewN p)).trans ((Chg.set (lo := b) (hi := b+1) (p := ⟨b, 1, none⟩) _ (Nat.le_refl _) (Nat.lt_succ_self _) _).trans (Chg.set (lo := b) (hi := b+1) (p := ⟨b, 2, none⟩) _ (Nat.le_refl _) (Nat.lt_succ_self _) _))).trans (Chg.of_bel ((Bel.rfl' _).drewN q))
  refine ⟨?_, hg⟩
  have hc0 := hc
  obtain ⟨code, seed, hbs, hr, c0, c1, c2, cf⟩ := hc
  have d1 : (w.drewN p).cell? ⟨b, 1, none⟩ = some (.int .i64 k) := c1
  have d2 : (w.drewN p).cell? ⟨b, 2, none⟩ = some (.int .u64 seed) := c2
  have n12 : (⟨b, 1, none⟩ : Addr) ≠ ⟨b, 2, none⟩ := by intro h; simp at h
  have n21 : (⟨b, 2, none⟩ : Addr) ≠ ⟨b, 1, none⟩ := by intro h; simp at h
  have n10 : (⟨b, 1, none⟩ : Addr) ≠ ⟨b, 0, none⟩ := by intro h; simp at h
  have n20 : (⟨b, 2, none⟩ : Addr) ≠ ⟨b, 0, none⟩ := by intro h; simp at h
  have e2 : ((w.drewN p).setCell ⟨b, 1, none⟩ (.int .i64 ((k + 1 : Nat) : Int))).cell? ⟨b, 2, none⟩ = some (.int .u64 seed) := by rw [World.cell?_setCell_other (h := n12)]; exact d2
  refine hc0.step hg ?_ ?_ ?_ ?_ (s := s)
  · show (((w.drewN p).setCell ⟨b, 1, none⟩ _).setCell ⟨b, 2, none⟩ _).cell? ⟨b, 0, none⟩ = _
    rw [World.cell?_setCell_other (h := n20), World.cell?_setCell_other (h := n10)]; rfl
  · show (((w.drewN p).setCell ⟨b, 1, none⟩ _).setCell ⟨b, 2, none⟩ _).cell? ⟨b, 1, none⟩ = _
    rw [World.cell?_setCell_other (h := n21), World.cell?_setCell_same (h := d1)]
  · show (((w.drewN p).setCell ⟨b, 1, none⟩ _).setCell ⟨b, 2, none⟩ _).cell? ⟨b, 2, none⟩ = _
    rw [World.cell?_setCell_same (h := e2)]
  · intro j
    show (((w.drewN p).setCell ⟨b, 1, none⟩ _).setCell ⟨b, 2, none⟩ _).frozen? ⟨b, j, none⟩ = _
    rw [World.frozen?_setCell, World.frozen?_setCell]; rfl

theorem mask255 (s : Int) : ∃ m : Nat, wrap64 (bits BinOp.and IntKind.u64 (IntKind.u64.wrap s / 1099511627776) 255) = m ∧ m < 256 := by
  have h0 : 0 ≤ IntKind.u64.wrap s ∧ IntKind.u64.wrap s ≤ 18446744073709551615 := by
    rw [IntKind.wrap_u64]; omega
  generalize IntKind.u64.wrap s = a at h0
  have h := bits_and_u64_nat (a / 1099511627776).toNat 255 (by omega) (by omega)
  rw [Int.toNat_of_nonneg (by omega)] at h
  have hl : (a / 1099511627776).toNat &&& 255 < 256 := Nat.lt_succ_of_le Nat.and_le_right
  refine ⟨(a / 1099511627776).toNat &&& 255, ?_, hl⟩
  have h3 : bits BinOp.and IntKind.u64 (a / 1099511627776) 255 = (((a / 1099511627776).toNat &&& 255 : Nat) : Int) := h
  rw [h3]
  exact IntWalk.wrap64_in (((a / 1099511627776).toNat &&& 255 : Nat) : Int) (by omega)

set_option maxRecDepth 100000 in
set_option maxHeartbeats 300000 in
theorem next_c (b n k : Nat) (w : World) (hn : n ≤ 1099511627776) (hk : k ≤ 1099511627776) (hc : Cur b n k w) :
    Calls Tryd.prog 77 #[.pointer (some ⟨b, 0, none⟩)] w (RetD b n k 1 256 w) := by
  have hcc := Lib.hid hc
  obtain ⟨code, seed, hbs, ⟨ad, cap, rfl, hcap, hr⟩, h0, h1, h2, hf⟩ := hc
  have hf1 := hf 1
  have hf2 := hf 2
  go_enter Tryd.func77, Tryd.ntmps77
  by_cases hlt : k < n
  · obtain ⟨bb, off, rfl, hbb, hcell⟩ := hr (by omega)
    obtain ⟨x, hx, hcx⟩ := hcell k hlt
    have hw1 := IntWalk.i64_in ((k : Int) + 1) (by omega)
    have hd : decide ((k : Int) < n) = true := by simp; omega
    go_wp2_with fail
    go_quiet (fail)
    go_wp2_with fail
    go_quiet (fail)
    have hd2 : decide ((k : Int) + 1 ≤ n) = true := by simp; omega
    go_wp2_with fail
    go_quiet (fail)
    go_wp2_with fail
    go_ret
    exact ⟨x, k+1, rfl, hx, by omega, by omega, (hcc.out.two (by omega) _ _).1, (hcc.out.two (by omega) _ _).2⟩
  · have hw1 := IntWalk.i64_in ((k : Int) + 1) (by omega)
    have hd : decide ((k : Int) < n) = false := by simp; omega
    go_wp2_with fail
    go_quiet (fail)
    have hd2 : decide ((k : Int) + 1 ≤ n) = false := by simp; omega
    go_wp2_with fail
    go_quiet (fail)
    go_wp2_with fail
    go_ret
    obtain ⟨m, em, hm⟩ := mask255 (IntKind.u64.wrap (IntKind.u64.wrap (seed * 6364136223846793005)) + 1442695040888963407)
    refine ⟨m, k+1, by rw [← em]; rfl, hm, by omega, by omega, (hcc.out.two (by omega) _ _).1, (hcc.out.two (by omega) _ _).2⟩

set_option maxRecDepth 100000 in
set_option maxHeartbeats 300000 in
theorem pick_c (b n k : Nat) (z : Int) (m : Nat) (w : World) (hz : z = m) (hn : n ≤ 1099511627776) (hk : k ≤ 1099511627775) (hm : m ≤ 1099511627776) (hc : Cur b n k w) :
    Calls Tryd.prog 43 #[.pointer (some ⟨b, 0, none⟩), .int .i64 z] w (RetD b n k 2 (m + (1 - m)) w) := by
  subst hz
  go_enter Tryd.func43, Tryd.ntmps43
  by_cases h1 : m ≤ 1
  · have hd : decide ((m : Int) ≤ 1) = true := by simp; omega
    go_wp2_with fail
    go_ret
    exact ⟨0, k, rfl, by omega, by omega, by omega, hc, Chg.refl _ _ _⟩
  · have hd : decide ((m : Int) ≤ 1) = false := by simp; omega
    by_cases h2 : m ≤ 200
    · have hd2 : decide ((200 : Int) < m) = false := by simp; omega
      go_wp2_with (go_at_call 77; refine (next_c b n k w hn (by omega) hc).mono ?_; rintro e w1 ⟨x, k1, rfl, hx, hk1, hk2, hc1, hg1⟩)
      go_ret
      have hlt : x % m < m := Nat.mod_lt _ (by omega)
      exact ⟨x % m, k1, rfl, by omega, by omega, by omega, hc1, hg1⟩
    · have hd2 : decide ((200 : Int) < m) = true := by simp; omega
      go_wp2_with (first | (go_at_call 77; refine (next_c b n k w hn (by omega) hc).mono ?_; rintro e w1 ⟨x, k1, rfl, hx, hk1, hk2, hc1, hg1⟩) | (go_at_call 77; refine (next_c b n k1 w1 hn (by omega) hc1).mono ?_; rintro e w2 ⟨y, k2, rfl, hy, hk3, hk4, hc2, hg2⟩))
      go_ret
      have hlt : (x * 256 + y) % m < m := Nat.mod_lt _ (by omega)
      exact ⟨(x * 256 + y) % m, k2, rfl, by omega, by omega, by omega, hc2, hg1.trans hg2⟩

/-- Yes or no. -/
def RetQ (b n k d : Nat) (w : World) (e : Ending) (w' : World) : Prop :=
  ∃ (q : Bool) (k' : Nat), e = .returned (.bool q) ∧ k ≤ k' ∧ k' ≤ k + d ∧ Cur b n k' w' ∧ Chg b (b+1) w w'
set_option maxRecDepth 100000 in
set_option maxHeartbeats 300000 in
theorem one_c (b n k : Nat) (z : Int) (m : Nat) (w : World) (hz : z = m) (hn : n ≤ 1099511627776) (hk : k ≤ 1099511627775) (hm : m ≤ 1099511627776) (hc : Cur b n k w) :
    Calls Tryd.prog 64 #[.pointer (some ⟨b, 0, none⟩), .int .i64 z] w (RetQ b n k 2 w) := by
  go_enter Tryd.func64, Tryd.ntmps64
  have H := Lib.hid (pick_c b n k z m w hz hn hk hm hc)
  clear hz hn hk hm hc
  go_wp2_with (go_at_call 43; refine H.out.mono ?_; clear H; rintro e w1 ⟨x, k1, rfl, hx, hs⟩; clear hx; have HS := Lib.hid hs; clear hs)
  go_ret
  obtain ⟨hk1, hk2, hc1, hg1⟩ := HS.out
  exact ⟨_, k1, rfl, hk1, hk2, hc1, hg1⟩

/-- A signature of the draws. -/
def drawn (ar : List Int) : Prop := ar = [0,0,0,1,1,2] ∨ ar = [0,1,2,3,0] ∨ ar = [] ∨ ar = [1,0]
def RetG (b n k d : Nat) (w : World) (e : Ending) (w' : World) : Prop :=
  ∃ (v : Value) (ar : List Int) (k' : Nat), e = .returned (.agg #[v]) ∧ drawn ar ∧ SlI w.heap.size w'.heap.size w' v ar ∧ k ≤ k' ∧ k' ≤ k + d ∧ Cur b n k' w' ∧ Chg b (b+1) w w'
theorem Cur.below {b n k : Nat} {w w' : World} (hc : Cur b n k w) (hb : Bel w w') : Cur b n k w' := by
  obtain ⟨code, seed, hbs, hr, c0, c1, c2, cf⟩ := hc
  exact ⟨code, seed, Nat.lt_of_lt_of_le hbs hb.size, hr.chg (Chg.of_bel (lo := b) (hi := b) hb) (Nat.le_refl _), hb.at hbs c0, hb.at hbs c1, hb.at hbs c2,
    fun j => (World.frozen?_of_block (w := w) (a := ⟨b, j, none⟩) (hb.block b hbs)).trans (cf j)⟩
theorem Cur.lt {b n k : Nat} {w : World} (hc : Cur b n k w) : b < w.heap.size := by obtain ⟨_, _, h, _⟩ := hc; exact h
theorem three {b : Nat} {w w1 : World} {ca cb cc : Array Value} {ta tb tc : TypeId} (hbl : b < w.heap.size) (hg : Chg b (b+1) (((w.alloc (.cells ca ta)).alloc (.cells cb tb)).alloc (.cells cc tc)) w1) :
    (∀ j v, ca[j]? = some v → w1.cell? ⟨w.heap.size, j, none⟩ = some v) ∧ (∀ j v, cb[j]? = some v → w1.cell? ⟨w.heap.size + 1, j, none⟩ = some v) ∧ (∀ j v, cc[j]? = some v → w1.cell? ⟨w.heap.size + 1 + 1, j, none⟩ = some v) := by
  have e1 : (w.alloc (.cells ca ta)).heap.size = w.heap.size + 1 := by simp
  have e2 : ((w.alloc (.cells ca ta)).alloc (.cells cb tb)).heap.size = w.heap.size + 1 + 1 := by simp
  refine ⟨fun j v h => hg.cell (by simp; omega) (by omega) (boxc (Bel.alloc2 (w.alloc (.cells ca ta)) _ _) j v h), fun j v h => ?_, fun j v h => ?_⟩
  · rw [← e1]
    exact hg.cell (by simp) (by simp; omega) (boxc (Bel.alloc0 _ _) j v h)
  · rw [← e2]
    exact hg.cell (by simp) (by simp; omega) (boxc (Bel.rfl' _) j v h)
end Go.Proofs.YtkbgglejhdodoaaDoor
end
section
/- The arguments of a law, opened: slices of ints, a struct of one, strings, ints. -/
namespace Go.Proofs.YtkbgglejhdodoaaDoor
open Go.ChangeShapes Go.WideShapes Go.ChangeAt Go.RowKit
open Go.ChangeMaps (open_string shut_string)
set_option linter.unusedVariables false
set_option maxRecDepth 100000

theorem Row.own : ownKnob Tryd.prog.godebug = none := by kernel_rfl
theorem Row.laidOut : laidOutB Tryd.prog = true := by kernel_rfl

/-- A slice of ints that came in. -/
theorem op_slI {H : Type} {enc : TypeId × Value → H} {W : World} {fuel : Nat} {v : Value} {x : DataW H × List MemPlace}
    (h : DataW.trod enc Tryd.prog W 0 (fun _ => true) true fuel 24 [v] = some x) :
    ∃ xs : List Int, xs.length ≤ 9223372036854775807 ∧ SlI 0 W.heap.size W v xs ∧ ∀ n ∈ xs, (Lit.int .i64 n).wf = true := by
  rcases open_ints Tryd.underlying24 Tryd.underlying3 (by kernel_rfl) h with ⟨hcs, _⟩ | ⟨a, l, c, zs, hcs, _, hl, hm, hz, _, hcell, hwz⟩
  · simp at hcs
    subst hcs
    exact ⟨[], by simp, SlI.nil _ _ _, by simp⟩
  · simp at hcs
    subst hcs
    have hz' : zs.length = c := by simpa using hz
    have hlen : (zs.take l).length = l := by simp; omega
    refine ⟨zs.take l, by rw [hlen]; have : maxLen = 9223372036854775807 := rfl; omega, ⟨some a, c, by rw [hlen], by rw [hlen]; exact hl, ⟨hm, fun h => by simp at h⟩, fun hp => ?_⟩, fun n hn => hwz n (List.mem_of_mem_take hn)⟩
    rw [hlen] at hp
    obtain ⟨b, off, spot⟩ := a
    have h0 := hcell 0 (by omega)
    have hspot : spot = none := by simpa [Addr.add] using World.cell?_spot h0
    subst hspot
    refine ⟨b, off, rfl, Nat.zero_le _, World.block_lt_of_cell? W ⟨b, off + 0, none⟩ h0, fun j hj => ?_⟩
    rw [hlen] at hj
    rw [← add_plain, hcell j (by omega)]
    simp [List.getD, hj]

theorem op_int {H : Type} {enc : TypeId × Value → H} {W : World} {v : Value} {d : DataW H} {p : List MemPlace} {base : Nat} (hv : Value.okWide Tryd.prog W .any base 3 v)
    (h : DataW.Trod enc Tryd.prog W 0 (fun _ => true) true 3 v d p) : ∃ n : Int, v = .int .i64 n ∧ -9223372036854775808 ≤ n ∧ n ≤ 9223372036854775807 := by
  obtain ⟨n, rfl, rfl, rfl, wf⟩ := open_int Tryd.underlying3 hv h
  have h1 : IntKind.i64.min = -9223372036854775808 := rfl
  have h2 : IntKind.i64.max = 9223372036854775807 := rfl
  simp only [Lit.wf, Bool.and_eq_true, decide_eq_true_eq] at wf
  exact ⟨n, rfl, by omega, by omega⟩

theorem op_ints {H : Type} {enc : TypeId × Value → H} {W : World} {v : Value} {d : DataW H} {p : List MemPlace} {base : Nat} (hv : Value.okWide Tryd.prog W .any base 24 v)
    (h : DataW.Trod enc Tryd.prog W 0 (fun _ => true) true 24 v d p) : ∃ xs : List Int, xs.length ≤ 9223372036854775807 ∧ SlI 0 W.heap.size W v xs ∧ ∀ n ∈ xs, (Lit.int .i64 n).wf = true := by
  obtain ⟨a, n, c, rfl⟩ := okWide_slice Tryd.underlying24 hv
  obtain ⟨fuel, hf⟩ := h
  exact op_slI (x := (d, p)) (by simpa [Value.cells] using hf)

theorem op_sign {H : Type} {enc : TypeId × Value → H} {W : World} {v : Value} {d : DataW H} {p : List MemPlace} {base : Nat} (hv : Value.okWide Tryd.prog W .any base 54 v)
    (h : DataW.Trod enc Tryd.prog W 0 (fun _ => true) true 54 v d p) : ∃ u, v = .agg #[u] ∧ ∃ xs : List Int, xs.length ≤ 9223372036854775807 ∧ SlI 0 W.heap.size W u xs ∧ ∀ n ∈ xs, (Lit.int .i64 n).wf = true := by
  obtain ⟨cs, rfl, hsz⟩ := okWide_struct Tryd.underlying54 hv
  have hC : Tryd.prog.cellsOf 54 = 1 := by kernel_rfl
  obtain ⟨u, rfl⟩ : ∃ u, cs = #[u] := by
    rw [hC] at hsz
    match cs, hsz with
    | ⟨[u]⟩, _ => exact ⟨u, rfl⟩
  obtain ⟨fuel, hf⟩ := h
  obtain ⟨y0, n, hx, _, h0⟩ := trod_struct1 Tryd.underlying54 hf
  exact ⟨u, rfl, op_slI (x := y0) (by simpa [Value.cells, show Tryd.prog.cellsOf 24 = 1 from by kernel_rfl] using h0)⟩

theorem op_string {H : Type} {enc : TypeId × Value → H} {W : World} {v : Value} {d : DataW H} {p : List MemPlace} {base : Nat} (hv : Value.okWide Tryd.prog W .any base 9 v)
    (h : DataW.Trod enc Tryd.prog W 0 (fun _ => true) true 9 v d p) : ∃ s : ByteArray, v = .string s ∧ s.size ≤ 9223372036854775807 := by
  obtain ⟨s, rfl, rfl, rfl, hs⟩ := open_string Tryd.underlying9 hv h
  exact ⟨s, rfl, hs⟩

theorem op_lt {H : Type} {enc : TypeId × Value → H} {W : World} {t : TypeId} {v : Value} {d : DataW H} {p : List MemPlace}
    (h : DataW.Trod enc Tryd.prog W 0 (fun _ => true) true t v d p) : ∀ x ∈ p, x.block < W.heap.size := by
  obtain ⟨m, hm⟩ := h; exact DataW.trod_lt m _ _ _ hm

end Go.Proofs.YtkbgglejhdodoaaDoor
end
section
/- Slices of bytes that came in. -/
namespace Go.Proofs.YtkbgglejhdodoaaDoor
open Go.ChangeShapes Go.WideShapes Go.ChangeAt Go.RowKit

set_option maxRecDepth 100000 in
theorem op_bytes {H : Type} {enc : TypeId × Value → H} {W : World} {v : Value} {d : DataW H} {p : List MemPlace} {base : Nat} (hv : Value.okWide Tryd.prog W .any base 22 v)
    (h : DataW.Trod enc Tryd.prog W 0 (fun _ => true) true 22 v d p) : ∃ n : Nat, n ≤ 9223372036854775807 ∧ SlB W.heap.size W v n := by
  obtain ⟨a, n, c, rfl⟩ := okWide_slice Tryd.underlying22 hv
  obtain ⟨fuel, hf⟩ := h
  have hf2 : DataW.trod enc Tryd.prog W 0 (fun _ => true) true fuel 22 [.slice a n c] = some (d, p) := by simpa [Value.cells] using hf
  rcases open_ints Tryd.underlying22 Tryd.underlying5 (by kernel_rfl) hf2 with ⟨hcs, _⟩ | ⟨a', l, c', zs, hcs, _, hl, hm, hz, _, hcell, hwz⟩
  · simp at hcs
    obtain ⟨rfl, rfl, rfl⟩ := hcs
    exact ⟨0, by omega, none, 0, rfl, Nat.le_refl _, fun h => absurd h (by omega)⟩
  · simp at hcs
    obtain ⟨rfl, rfl, rfl⟩ := hcs
    have hz' : zs.length = c := by simpa using hz
    have hml : maxLen = 9223372036854775807 := rfl
    refine ⟨n, by omega, some a', c, rfl, hl, fun hp => ?_⟩
    obtain ⟨b, off, spot⟩ := a'
    have h0 := hcell 0 (by omega)
    have hspot : spot = none := by simpa [Addr.add] using World.cell?_spot h0
    subst hspot
    refine ⟨b, off, rfl, World.block_lt_of_cell? W ⟨b, off + 0, none⟩ h0, fun j hj => ?_⟩
    have hj2 : j < zs.length := by omega
    have hw := hwz (zs.getD j 0) (by rw [show zs.getD j 0 = zs[j] from by simp [List.getD, hj2]]; exact List.getElem_mem hj2)
    have h1 : IntKind.u8.min = 0 := rfl
    have h2 : IntKind.u8.max = 255 := rfl
    simp only [Lit.wf, Bool.and_eq_true, decide_eq_true_eq] at hw
    refine ⟨(zs.getD j 0).toNat, by omega, ?_⟩
    rw [← add_plain, hcell j (by omega)]
    congr 2
    omega
end Go.Proofs.YtkbgglejhdodoaaDoor
end
section
/- A number of bytes. -/
namespace Go.Proofs.YtkbgglejhdodoaaDoor
open Go.RowKit

def RetNum (w : World) (e : Ending) (w' : World) : Prop := ∃ x : Int, e = .returned (.int .i64 x) ∧ 0 ≤ x ∧ x < 1000003 ∧ Bel w w'
theorem numberOf_n (h n : Nat) (v : Value) (w : World) (hn : n ≤ 1048576) (hv : SlB h w v n) :
    Calls Tryd.prog 21 #[v] w (RetNum w) := by
  obtain ⟨ad, cap, rfl, -, hr⟩ := hv
  go_enter Tryd.func21, Tryd.ntmps21
  go_wp2_with fail
  go_loop [3, 8] (fun m i => ∃ (k : Nat) (x : Int), k ≤ n ∧ i = .int .i64 k ∧ m = .int .i64 x ∧ 0 ≤ x ∧ x < 1000003) (fun _ i => n - (intOf i).toNat)
  case atStart => exact ⟨0, 0, Nat.zero_le _, rfl, rfl, by omega, by omega⟩
  case round =>
    obtain ⟨k, x, hk, rfl, rfl, hx0, hx1⟩ := hrel
    by_cases hlt : k < n
    · obtain ⟨b, off, rfl, hb, hc⟩ := hr (by omega)
      have hcell := hc k hlt
      clear hr hc
      obtain ⟨y, hy, hcell⟩ := hcell
      have hw1 := IntWalk.i64_in (31 * x) (by omega)
      have hw2 := IntWalk.i64_in (y : Int) (by omega)
      have hw3 := IntWalk.i64_in (31 * x + (y : Int)) (by omega)
      have hy2 : (y : Int) < 256 := by omega
      go_wp2_with fail
      exact ⟨⟨k + 1, _, by omega, by go_num, rfl, by omega, by omega⟩, by simp [intOf]; omega⟩
    · go_wp2_with fail
      go_ret
      exact ⟨x, rfl, hx0, hx1, Bel.rfl' _⟩
end Go.Proofs.YtkbgglejhdodoaaDoor
end
section
/- The draws: a signature. -/
namespace Go.Proofs.YtkbgglejhdodoaaDoor
open Go.RowKit

theorem three_free {b : Nat} {w w1 : World} {ca cb cc : Array Value} {ta tb tc : TypeId} (hbl : b < w.heap.size) (hg : Chg b (b+1) (((w.alloc (.cells ca ta)).alloc (.cells cb tb)).alloc (.cells cc tc)) w1) :
    w1.frozen? ⟨w.heap.size, 0, none⟩ = false ∧ w1.frozen? ⟨w.heap.size + 1 + 1, 0, none⟩ = false := by
  refine ⟨(World.frozen?_of_block (hg.block w.heap.size (by simp; omega) (by omega))).trans (by simp [go_sem]; try rfl), (World.frozen?_of_block (hg.block (w.heap.size + 1 + 1) (by simp) (by omega))).trans (by simp [go_sem]; try rfl)⟩

theorem Cur.chg {b n k lo hi : Nat} {w w' : World} (h : Cur b n k w) (c : Chg lo hi w w') (hd : b < lo) : Cur b n k w' := by
  obtain ⟨code, seed, hbs, hr, c0, c1, c2, cf⟩ := h
  exact ⟨code, seed, Nat.lt_of_lt_of_le hbs c.size, hr.chg c (Nat.le_of_lt hd), c.cell hbs (.inl hd) c0, c.cell hbs (.inl hd) c1, c.cell hbs (.inl hd) c2,
    fun j => (World.frozen?_of_block (w := w) (a := ⟨b, j, none⟩) (c.block b hbs (.inl hd))).trans (cf j)⟩
theorem Chg.news {l1 h1 lo hi : Nat} {w w1 w' : World} (h : Chg l1 h1 w w1) (c : Chg lo hi w1 w') (hd : w.heap.size ≤ lo) : Chg l1 h1 w w' :=
  ⟨c.os.trans h.os, c.tape.trans h.tape, c.output.trans h.output, Nat.le_trans h.size c.size, fun i hi' ho => (c.block i (Nat.lt_of_lt_of_le hi' h.size) (.inl (by omega))).trans (h.block i hi' ho)⟩
theorem SlI.arr {w : World} {xs : List Int} {arr : Array Value} {T : TypeId} {B lo hi : Nat} (h : arr.toList = xs.map (Value.int .i64)) (hB : B = w.heap.size) (hl : xs.length ≤ 100) (h1 : lo ≤ B) (h2 : B < hi) :
    SlI lo hi (w.alloc (.cells arr T)) (.slice (some ⟨B, 0, none⟩) xs.length xs.length) xs := by
  subst hB
  refine ⟨_, xs.length, rfl, Nat.le_refl _, ⟨by unfold maxLen; omega, fun h => by simp at h⟩, fun hp => ⟨w.heap.size, 0, rfl, h1, h2, fun j hj => ?_⟩⟩
  rw [World.cell?_alloc_new w, ← Array.getElem?_toList, h, Nat.zero_add]
  simp [hj]

set_option maxRecDepth 100000 in
set_option maxHeartbeats 400000 in
theorem sign_c (b n k : Nat) (w : World) (hn : n ≤ 1099511627776) (hk : k ≤ 1099511627775) (hc : Cur b n k w) :
    Calls Tryd.prog 41 #[.pointer (some ⟨b, 0, none⟩)] w (RetG b n k 2 w) := by
  have hbl := hc.lt
  have H := Lib.hid (fun w' (h : Bel w w') => pick_c b n k 40 40 w' rfl hn hk (by omega) (hc.below h))
  clear hn hk hc
  go_enter Tryd.func41, Tryd.ntmps41
  go_wp2_with fail
  go_at_call 43
  refine (H.out _ (Bel.alloc3 _ _ _ _)).mono ?_
  clear H
  rintro e w1 ⟨x, k1, rfl, hx, hs⟩
  clear hx
  generalize hzx : (x : Int) = z
  have hz0 : 0 ≤ z := by omega
  clear hzx
  have h3 := three hbl hs.2.2.2
  have hf3 := three_free hbl hs.2.2.2
  have hz : w.heap.size + 1 + 1 < w1.heap.size := by have := hs.2.2.2.size; simp at this; omega
  have HS := Lib.hid hs
  clear hs
  have hd1 := h3.1 0 _ rfl
  have hd2 := h3.2.2 0 _ rfl
  have hf1 := hf3.1
  have hf2 := hf3.2
  have H3 := Lib.hid h3
  clear h3 hf3
  generalize hg2 : w.heap.size + 1 + 1 = g2 at hd2 hf2 hz ⊢
  generalize hg1 : w.heap.size + 1 = g1 at hd2 ⊢
  generalize hg0 : w.heap.size = g0 at hd1 hf1 ⊢
  have hlt0 : g0 < w1.heap.size := by omega
  have hne : g0 ≠ g2 := by omega
  have hne2 : g2 ≠ g0 := by omega
  have HG := Lib.hid (And.intro hg0 (And.intro hg1 hg2))
  clear hg2 hg1 hg0
  have hcase : z = 0 ∨ z = 1 ∨ z = 2 ∨ 2 < z := by omega
  rcases hcase with rfl | rfl | rfl | hx
  · go_wp2_with fail
    obtain ⟨hg0, hg1, hg2⟩ := HG.out
    obtain ⟨hk1, hk2, hcur, hchg⟩ := HS.out
    have hset2 := fun u v => (Chg.set (lo := g0) (hi := g2+1) (p := ⟨g2, 0, none⟩) w1 (by simp; omega) (by simp) u).trans (Chg.set (lo := g0) (hi := g2+1) (p := ⟨g0, 0, none⟩) (w1.setCell ⟨g2, 0, none⟩ u) (by simp) (by simp; omega) v)
    have hset1 := fun v => Chg.set (lo := g0) (hi := g2+1) (p := ⟨g0, 0, none⟩) w1 (by simp) (by simp; omega) v
    have hch0 := (Chg.of_bel (lo := b) (hi := b+1) (Bel.alloc3 w _ _ _)).trans hchg
    have hd1b : (w1.setCell ⟨g2, 0, none⟩ (.slice (some ⟨w1.heap.size, 0, none⟩) 5 5)).cell? ⟨g0, 0, none⟩ = some _ := (World.cell?_setCell_other w1 ⟨g2, 0, none⟩ ⟨g0, 0, none⟩ _ (fun h => hne2 (congrArg Addr.block h))).trans hd1
    have hd1c : ((w1.setCell ⟨g2, 0, none⟩ (.slice (some ⟨w1.heap.size, 0, none⟩) 5 5)).setCell ⟨g0, 0, none⟩ (.slice (some ⟨w1.heap.size, 0, none⟩) 5 5)).cell? ⟨g0, 0, none⟩ = some (.slice (some ⟨w1.heap.size, 0, none⟩) 5 5) := World.cell?_setCell_same _ _ _ hd1b
    have hfin := fun o => (Bel.alloc0 ((w1.setCell ⟨g2, 0, none⟩ (.slice (some ⟨w1.heap.size, 0, none⟩) 5 5)).setCell ⟨g0, 0, none⟩ (.slice (some ⟨w1.heap.size, 0, none⟩) 5 5)) o).at (by simp; omega) hd1c
    refine bodyPost_ret (v := .agg #[.slice (some ⟨w1.heap.size, 0, none⟩) 5 5]) (by simp [results, Tryd.results41, go_sem, hfin]) rfl ⟨_, [0, 1, 2, 3, 0], k1, rfl, by simp [drawn], ?_, hk1, hk2, ?_, ?_⟩
    · exact SlI.arr (xs := [0, 1, 2, 3, 0]) rfl (by first | rfl | simp) (by first | decide | simp) (by first | omega | (simp; omega)) (by first | omega | simp | (simp; omega))
    · exact hcur.chg ((hset2 _ _).trans (Chg.of_bel (Bel.alloc0 _ _))) (by omega)
    · exact hch0.news ((hset2 _ _).trans (Chg.of_bel (Bel.alloc0 _ _))) (by omega)
  · go_wp2_with fail
    obtain ⟨hg0, hg1, hg2⟩ := HG.out
    obtain ⟨hk1, hk2, hcur, hchg⟩ := HS.out
    have hset2 := fun u v => (Chg.set (lo := g0) (hi := g2+1) (p := ⟨g2, 0, none⟩) w1 (by simp; omega) (by simp) u).trans (Chg.set (lo := g0) (hi := g2+1) (p := ⟨g0, 0, none⟩) (w1.setCell ⟨g2, 0, none⟩ u) (by simp) (by simp; omega) v)
    have hset1 := fun v => Chg.set (lo := g0) (hi := g2+1) (p := ⟨g0, 0, none⟩) w1 (by simp) (by simp; omega) v
    have hch0 := (Chg.of_bel (lo := b) (hi := b+1) (Bel.alloc3 w _ _ _)).trans hchg
    refine bodyPost_ret (v := .agg #[.slice none 0 0]) (by simp [results, Tryd.results41, go_sem, hd1, hd2, hne, hne2]) rfl ⟨_, [], k1, rfl, by simp [drawn], ?_, hk1, hk2, ?_, ?_⟩
    · exact SlI.nil _ _ _
    · exact hcur.chg (hset2 _ _) (by omega)
    · exact hch0.news (hset2 _ _) (by omega)
  · go_wp2_with fail
    obtain ⟨hg0, hg1, hg2⟩ := HG.out
    obtain ⟨hk1, hk2, hcur, hchg⟩ := HS.out
    have hset2 := fun u v => (Chg.set (lo := g0) (hi := g2+1) (p := ⟨g2, 0, none⟩) w1 (by simp; omega) (by simp) u).trans (Chg.set (lo := g0) (hi := g2+1) (p := ⟨g0, 0, none⟩) (w1.setCell ⟨g2, 0, none⟩ u) (by simp) (by simp; omega) v)
    have hset1 := fun v => Chg.set (lo := g0) (hi := g2+1) (p := ⟨g0, 0, none⟩) w1 (by simp) (by simp; omega) v
    have hch0 := (Chg.of_bel (lo := b) (hi := b+1) (Bel.alloc3 w _ _ _)).trans hchg
    have hd1b : (w1.setCell ⟨g2, 0, none⟩ (.slice (some ⟨w1.heap.size, 0, none⟩) 2 2)).cell? ⟨g0, 0, none⟩ = some _ := (World.cell?_setCell_other w1 ⟨g2, 0, none⟩ ⟨g0, 0, none⟩ _ (fun h => hne2 (congrArg Addr.block h))).trans hd1
    have hd1c : ((w1.setCell ⟨g2, 0, none⟩ (.slice (some ⟨w1.heap.size, 0, none⟩) 2 2)).setCell ⟨g0, 0, none⟩ (.slice (some ⟨w1.heap.size, 0, none⟩) 2 2)).cell? ⟨g0, 0, none⟩ = some (.slice (some ⟨w1.heap.size, 0, none⟩) 2 2) := World.cell?_setCell_same _ _ _ hd1b
    have hfin := fun o => (Bel.alloc0 ((w1.setCell ⟨g2, 0, none⟩ (.slice (some ⟨w1.heap.size, 0, none⟩) 2 2)).setCell ⟨g0, 0, none⟩ (.slice (some ⟨w1.heap.size, 0, none⟩) 2 2)) o).at (by simp; omega) hd1c
    refine bodyPost_ret (v := .agg #[.slice (some ⟨w1.heap.size, 0, none⟩) 2 2]) (by simp [results, Tryd.results41, go_sem, hfin]) rfl ⟨_, [1, 0], k1, rfl, by simp [drawn], ?_, hk1, hk2, ?_, ?_⟩
    · exact SlI.arr (xs := [1, 0]) rfl (by first | rfl | simp) (by first | decide | simp) (by first | omega | (simp; omega)) (by first | omega | simp | (simp; omega))
    · exact hcur.chg ((hset2 _ _).trans (Chg.of_bel (Bel.alloc0 _ _))) (by omega)
    · exact hch0.news ((hset2 _ _).trans (Chg.of_bel (Bel.alloc0 _ _))) (by omega)
  · go_wp2_with fail
    obtain ⟨hg0, hg1, hg2⟩ := HG.out
    obtain ⟨hk1, hk2, hcur, hchg⟩ := HS.out
    have hset2 := fun u v => (Chg.set (lo := g0) (hi := g2+1) (p := ⟨g2, 0, none⟩) w1 (by simp; omega) (by simp) u).trans (Chg.set (lo := g0) (hi := g2+1) (p := ⟨g0, 0, none⟩) (w1.setCell ⟨g2, 0, none⟩ u) (by simp) (by simp; omega) v)
    have hset1 := fun v => Chg.set (lo := g0) (hi := g2+1) (p := ⟨g0, 0, none⟩) w1 (by simp) (by simp; omega) v
    have hch0 := (Chg.of_bel (lo := b) (hi := b+1) (Bel.alloc3 w _ _ _)).trans hchg
    refine bodyPost_ret (v := .agg #[.slice (some ⟨g1, 0, none⟩) 6 6]) (by simp [results, Tryd.results41, go_sem, hd1, hd2, hne, hne2]) rfl ⟨_, [0, 0, 0, 1, 1, 2], k1, rfl, by simp [drawn], ?_, hk1, hk2, ?_, ?_⟩
    · refine ⟨_, 6, rfl, by simp, ⟨by unfold maxLen; omega, fun h => by simp at h⟩, fun _ => ⟨g1, 0, rfl, by omega, by simp; omega, fun j hj => ?_⟩⟩
      rw [World.cell?_setCell_other w1 ⟨g0, 0, none⟩ ⟨g1, 0 + j, none⟩ _ (fun h => (show g0 ≠ g1 by omega) (congrArg Addr.block h))]
      simp only [List.length_cons, List.length_nil] at hj
      have h6 := H3.out.2.1 j
      rw [hg1] at h6
      rw [Nat.zero_add]
      match j, hj with
      | 0, _ => exact h6 _ rfl
      | 1, _ => exact h6 _ rfl
      | 2, _ => exact h6 _ rfl
      | 3, _ => exact h6 _ rfl
      | 4, _ => exact h6 _ rfl
      | 5, _ => exact h6 _ rfl
    · exact hcur.chg (hset1 _) (by omega)
    · exact hch0.news (hset1 _) (by omega)
end Go.Proofs.YtkbgglejhdodoaaDoor
end
section
/- slices.Sort at []int: the library's contract laid at this program (which functions and types stand for which). -/
namespace Go.Proofs.YtkbgglejhdodoaaDoor
open Go.Shelf
end Go.Proofs.YtkbgglejhdodoaaDoor
end
section
/- Maps from variables to terms: what they hold, by variable; the library's sort; the variables of a map. -/
namespace Go.Proofs.YtkbgglejhdodoaaDoor
open Go.RowKit Go.Maps

/-- An element reads as itself. -/
def rawE : Value → Option (DataW Value × List MemPlace) := fun v => some (.held v, [])
theorem keyInt : Keyed Tryd.prog 3 := int_keyed Tryd.underlying3
abbrev kv (v : Nat) : Lit := .int .i64 v
theorem kv_inj {u v : Nat} (h : kv u = kv v) : u = v := by simp [kv] at h; omega
theorem kv_ne {u v : Nat} (h : u ≠ v) : kv u ≠ kv v := fun e => h (kv_inj e)
theorem kv_wf {v : Nat} (h : v < 12) : (Lit.int .i64 (v : Int)).wf = true := by
  simp only [Lit.wf, Bool.and_eq_true, decide_eq_true_eq]
  have h1 : IntKind.i64.min = -9223372036854775808 := rfl
  have h2 : IntKind.i64.max = 9223372036854775807 := rfl
  omega
theorem kv_key {v : Nat} (h : v < 12) : keyOf Tryd.prog 3 (.int .i64 (v : Int)) = some (kv v) := keyOf_int_mk Tryd.underlying3 (kv_wf h)
theorem kv_lit {v : Nat} (h : v < 12) : WideAt.IsKeyLit (kv v) := keyInt.key (kv_key h)
theorem zeroI (w : World) : (zeroValue 24).run Tryd.prog w = .ok (.slice none 0 0) w := by kernel_rfl
/-- The datum D holds f at the twelve variables, and nothing else. -/
structure KeyAt (D : DataW Value) (f : Nat → Option Value) : Prop where
  has : ∀ v, v < 12 → Maps.has D (kv v) = (f v).isSome
  at' : ∀ v u, v < 12 → f v = some u → ∀ z, D.atKey (kv v) z = .held u
  only : ∀ kl, Maps.has D kl = true → ∃ v, v < 12 ∧ kl = kv v
theorem KeyAt.empty : KeyAt (.map []) (fun _ => none) := ⟨fun _ _ => rfl, fun _ _ _ h => by simp at h, fun kl h => by simp [Maps.has] at h⟩
theorem KeyAt.put {D : DataW Value} {f : Nat → Option Value} (h : KeyAt D f) (hD : IsMap D) {v : Nat} (hv : v < 12) (u : Value) : KeyAt (D.put (kv v) (.held u)) (fun i => if i = v then some u else f i) := by
  refine ⟨fun i hi => ?_, fun i x hi hx z => ?_, fun kl hk => ?_⟩
  · by_cases e : i = v
    · subst e; rw [has_put_same hD (kv_lit hi)]; simp
    · rw [has_put_other (kv_ne e), h.has i hi]; simp [e]
  · by_cases e : i = v
    · subst e
      simp only [if_true, Option.some.injEq] at hx
      subst hx
      exact atKey_put_same hD (kv_lit hi) _ _
    · simp only [e, if_false] at hx
      rw [atKey_put_other (kv_ne e)]; exact h.at' i x hi hx z
  · by_cases e : kl = kv v
    · exact ⟨v, hv, e⟩
    · rw [has_put_other e] at hk; exact h.only kl hk
theorem KeyAt.del {D : DataW Value} {f : Nat → Option Value} (h : KeyAt D f) (v : Nat) : KeyAt (D.del (kv v)) (fun i => if i = v then none else f i) := by
  refine ⟨fun i hi => ?_, fun i x hi hx z => ?_, fun kl hk => ?_⟩
  · by_cases e : i = v
    · subst e; rw [has_del_same]; simp
    · rw [has_del_other (kv_ne e), h.has i hi]; simp [e]
  · by_cases e : i = v
    · subst e; simp at hx
    · simp only [e, if_false] at hx
      rw [atKey_del_other (kv_ne e)]; exact h.at' i x hi hx z
  · by_cases e : kl = kv v
    · subst e; rw [has_del_same] at hk; simp at hk
    · rw [has_del_other e] at hk; exact h.only kl hk
theorem KeyAt.at0 {D : DataW Value} {f : Nat → Option Value} (h : KeyAt D f) {v : Nat} (hv : v < 12) : D.atKey (kv v) (.held (.slice none 0 0)) = .held ((f v).getD (.slice none 0 0)) := by
  cases e : f v with
  | none => exact atKey_of_not_has (by rw [h.has v hv, e]; rfl) _
  | some u => exact h.at' v u hv e _

/-- Block b is a map that holds f; at most m stores went into it. -/
def MapV (w : World) (b m : Nat) (f : Nat → Option Value) : Prop := ∃ n D, n ≤ m ∧ w.ownsMap Tryd.prog 3 rawE b n D ∧ KeyAt D f
theorem MapV.made (w : World) : MapV (w.alloc (.map #[] 0)) w.heap.size 0 (fun _ => none) := ⟨0, .map [], Nat.le_refl _, World.ownsMap_made _ _ _ _, KeyAt.empty⟩
theorem MapV.kept {w w' : World} {b m : Nat} {f : Nat → Option Value} {row : Option Nat} (h : MapV w b m f) (hg : w.grownBy w' row) (hne : some b ≠ row) : MapV w' b m f := by
  obtain ⟨n, D, hn, ho, hk⟩ := h
  exact ⟨n, D, hn, ho.kept hg hne, hk⟩
theorem grown_of_bel {w w' : World} (h : Bel w w') : w.grownBy w' none := ⟨h.os, h.tape, h.output, h.size, fun k hk _ => h.block k hk⟩
theorem MapV.bel {w w' : World} {b m : Nat} {f : Nat → Option Value} (h : MapV w b m f) (hb : Bel w w') : MapV w' b m f := h.kept (grown_of_bel hb) (by simp)
theorem MapV.lt {w : World} {b m : Nat} {f : Nat → Option Value} (h : MapV w b m f) : b < w.heap.size := by obtain ⟨n, D, _, ho, _⟩ := h; exact ho.lt
theorem MapV.mono {w : World} {b m m' : Nat} {f : Nat → Option Value} (h : MapV w b m f) (hm : m ≤ m') : MapV w b m' f := by obtain ⟨n, D, hn, ho, hk⟩ := h; exact ⟨n, D, by omega, ho, hk⟩
theorem same_kv (u v : Nat) : (kv u).sameKey (kv v) = decide (u = v) := by
  by_cases h : u = v
  · subst h
    have : (kv u).sameKey (kv u) = true := by simp [Lit.sameKey]
    simpa using this
  · rw [sameKey_ne (kv_ne h)]; simp [h]
def castL (l : List Nat) : List Int := l.map fun (n : Nat) => (n : Int)
theorem castL_snoc (l : List Nat) (v : Nat) : castL (l ++ [v]) = castL l ++ [(v : Int)] := by simp [castL]
theorem mem_castL {l : List Nat} {x : Int} : x ∈ castL l ↔ ∃ v ∈ l, (v : Int) = x := by simp [castL]
theorem lenN : ∀ (n : Nat) (l : List Nat), l.Nodup → (∀ v ∈ l, v < n) → l.length ≤ n := by
  intro n
  induction n with
  | zero =>
    intro l _ h
    cases l with
    | nil => simp
    | cons x r => exact absurd (h x List.mem_cons_self) (by omega)
  | succ n ih =>
    intro l hd h
    by_cases hm : n ∈ l
    · have := ih (l.erase n) (hd.erase n) (fun v hv => by
        have h1 := (List.Nodup.mem_erase_iff hd).1 hv
        have := h v h1.2
        omega)
      rw [List.length_erase_of_mem hm] at this
      omega
    · have := ih l hd (fun v hv => by
        have := h v hv
        have : v ≠ n := fun e => hm (e ▸ hv)
        omega)
      omega
/-- Twelve at most. -/
theorem len12 {l : List Nat} (h : l.Nodup) (h12 : ∀ v ∈ l, v < 12) : l.length ≤ 12 := lenN 12 l h h12
end Go.Proofs.YtkbgglejhdodoaaDoor
end
section
/- The variables of a map of bindings. -/
namespace Go.Proofs.YtkbgglejhdodoaaDoor
open Go.RowKit Go.Maps

/-- The collected ones, while the loop is under way. -/
structure Coll (D : DataW Value) (left : Lit → Bool) (acc : List Nat) : Prop where
  nodup : acc.Nodup
  mem : ∀ v, v ∈ acc ↔ v < 12 ∧ Maps.has D (kv v) = true ∧ left (kv v) = false
  sub : ∀ kl, left kl = true → Maps.has D kl = true
theorem Coll.start (D : DataW Value) : Coll D (Maps.has D) [] := ⟨List.nodup_nil, fun v => by simp, fun _ h => h⟩
theorem Coll.step {D : DataW Value} {left : Lit → Bool} {acc : List Nat} {v : Nat} (h : Coll D left acc) (hv : v < 12) (hl : left (kv v) = true) : Coll D (fun z => left z && !z.sameKey (kv v)) (acc ++ [v]) := by
  refine ⟨?_, fun u => ?_, fun kl hk => h.sub kl (by simp at hk; exact hk.1)⟩
  · rw [List.nodup_append]
    refine ⟨h.nodup, by simp, fun a ha b hb => ?_⟩
    simp at hb
    subst hb
    intro e
    subst e
    have := ((h.mem a).1 ha).2.2
    rw [hl] at this; simp at this
  · rw [List.mem_append, List.mem_singleton, h.mem u]
    simp only [same_kv]
    by_cases e : u = v
    · subst e; simp [hv, h.sub _ hl]
    · simp [e]
def RetVars (f : Nat → Option Value) (w : World) (e : Ending) (w' : World) : Prop :=
  ∃ ad n c, ∃ ys : List Int, e = .returned (.slice ad n c) ∧ OwnI w.heap.size w'.heap.size w' (.slice ad n c) ys ∧ ys.length ≤ 12 ∧ ys.Nodup ∧ (∀ y ∈ ys, ∃ v : Nat, v < 12 ∧ y = v) ∧ (∀ v : Nat, v < 12 → ((v : Int) ∈ ys ↔ (f v).isSome = true)) ∧ Bel w w'

end Go.Proofs.YtkbgglejhdodoaaDoor
end
section
/- A map of bindings as a substitution. -/
namespace Go.Proofs.YtkbgglejhdodoaaDoor
open Go.RowKit Go.Maps

/-- A slice does not lie in a map's block. -/
theorem SlI.chgMap {lo hi : Nat} {w w' : World} {v : Value} {xs : List Int} {b m : Nat} {f : Nat → Option Value} (h : SlI lo hi w v xs) (hM : MapV w b m f) (k : Chg b (b+1) w w') : SlI lo hi w' v xs := by
  obtain ⟨ad, cap, rfl, hc, hm, hr⟩ := h
  refine ⟨ad, cap, rfl, hc, hm, fun hp => ?_⟩
  obtain ⟨b0, off, e, a1, a2, a3⟩ := hr hp
  have hne : b0 ≠ b := by
    intro e0
    subst e0
    obtain ⟨n, D, _, ⟨es, clock, hb, _⟩, _⟩ := hM
    have := a3 0 hp
    simp [World.cell?, hb] at this
  exact ⟨b0, off, e, a1, a2, fun j hj => k.cell (World.block_lt_of_cell? w ⟨b0, off + j, none⟩ (a3 j hj)) (by omega) (a3 j hj)⟩
theorem MapV.row_ne {w : World} {b m : Nat} {f : Nat → Option Value} (h : MapV w b m f) {base : Nat} {tag : Nat → Nat} {t : Nat} {e : TypeId} {v : Value} {xs : List Value} (ho : OwnT base tag t e w v xs) (hb : b < base) : some b ≠ v.ownBlock := by
  intro e
  have := own_base ho.1 b e.symm
  omega
theorem OwnT.chgMap {w w' : World} {b : Nat} {base : Nat} {tag : Nat → Nat} {t : Nat} {e : TypeId} {v : Value} {xs : List Value} (ho : OwnT base tag t e w v xs) (hb : b < base) (k : Chg b (b+1) w w') : OwnT base tag t e w' v xs := by
  refine ⟨⟨ho.1.1, ?_⟩, ho.2⟩
  rcases ho.1.2 with h0 | ⟨g, cap, cur, e1, e2, hh, r⟩
  · exact .inl h0
  · exact .inr ⟨g, cap, cur, e1, e2, by rw [k.block g (Array.getElem?_eq_some_iff.1 hh).1 (by omega)]; exact hh, r⟩
theorem chg_of_grown {w w' : World} {b : Nat} (h : w.grownBy w' (some b)) : Chg b (b+1) w w' := ⟨h.os, h.tape, h.output, h.size, fun k hk ho => h.block k hk (by simp; omega)⟩
/-- A new row at index v, where there was none. -/
theorem InT.put {base : Nat} {tag tag' : Nat → Nat} {ei : TypeId} {w w' : World} {us : List Value} {xss : List (List Int)} {u : Value} {xs : List Int} (h : InT base tag ei w us xss) (v : Nat) (hv : v < us.length)
    (hall : ∀ t' e' u zs, OwnT base tag t' e' w u zs → OwnT base tag' t' e' w' u zs) (hu : OwnT base tag' (10 + v) ei w' u (xs.map (Value.int .i64))) : InT base tag' ei w' (us.set v u) (xss.set v xs) := by
  refine ⟨by simp [h.1], fun j x hj => ?_⟩
  by_cases e : j = v
  · subst e
    rw [List.getElem?_set_self hv] at hj
    simp at hj
    subst hj
    rw [show (xss.set j xs).getD j [] = xs from by simp [List.getD, show j < xss.length by rw [← h.1]; exact hv]]
    exact hu
  · rw [List.getElem?_set_ne (Ne.symm e)] at hj
    rw [show (xss.set v xs).getD j [] = xss.getD j [] from by simp [List.getD, List.getElem?_set_ne (Ne.symm e)]]
    exact hall _ _ _ _ (h.2 j x hj)

theorem getD_rep (n j : Nat) : (List.replicate n ([] : List Int)).getD j [] = [] := by simp only [List.getD, List.getElem?_replicate]; split <;> rfl
theorem Chg.setNew {lo hi : Nat} {w w' : World} (h : Chg lo hi w w') {p : Addr} (hp : w.heap.size ≤ p.block) (u : Value) : Chg lo hi w (w'.setCell p u) :=
  ⟨h.os, h.tape, h.output, by simpa using h.size, fun b hb ho => (Below.heap_setCell w' p u b (by omega)).trans (h.block b hb ho)⟩
theorem MapV.set {w : World} {b m : Nat} {f : Nat → Option Value} (h : MapV w b m f) {p : Addr} (hp : b ≠ p.block) (u : Value) : MapV (w.setCell p u) b m f := by
  obtain ⟨n, D, hn, ho, hk⟩ := h
  exact ⟨n, D, hn, ho.setCell hp u, hk⟩
theorem SlI.lit {w : World} (x : Int) (T : TypeId) : SlI w.heap.size (w.heap.size + 1) (w.alloc (.cells #[.int .i64 x] T)) (.slice (some ⟨w.heap.size, 0, none⟩) 1 1) [x] := by
  refine ⟨_, 1, rfl, Nat.le_refl _, ⟨by unfold maxLen; omega, fun h => by simp at h⟩, fun _ => ⟨w.heap.size, 0, rfl, Nat.le_refl _, Nat.lt_succ_self _, fun j hj => ?_⟩⟩
  obtain rfl : j = 0 := by simp at hj; omega
  rw [World.cell?_alloc_new w]; rfl
/-- What a substitution holds for v. -/
def stayF (F : Nat → List Int) (v : Nat) : List Int := if F v = [-1 - (v : Int)] then [] else F v
def substL (F : Nat → List Int) : List (List Int) := (List.range 12).map (stayF F)
/-- .. after some of the variables. -/
def partL (F : Nat → List Int) (ys : List Int) : List (List Int) := (List.range 12).map fun (v : Nat) => if (v : Int) ∈ ys then stayF F v else []
theorem partL_nil (F : Nat → List Int) : partL F [] = List.replicate 12 [] := by simp [partL, List.range_succ, List.replicate]
theorem partL_len (F : Nat → List Int) (ys : List Int) : (partL F ys).length = 12 := by simp [partL]
theorem partL_snoc (F : Nat → List Int) (ys : List Int) (v : Nat) (hv : v < 12) : (partL F ys).set v (stayF F v) = partL F (ys ++ [(v : Int)]) := by
  apply List.ext_getElem?
  intro i
  rw [List.getElem?_set]
  unfold partL
  by_cases e : v = i
  · subst e; simp [hv]
  · by_cases hi : i < 12
    · have h1 : (List.range 12)[i]? = some i := by simp [hi]
      have e2 : ¬ (i : Int) = (v : Int) := by omega
      rw [if_neg e, List.getElem?_map, List.getElem?_map, h1]
      simp only [Option.map_some, List.mem_append, List.mem_singleton, e2, or_false]
    · rw [if_neg e, List.getElem?_eq_none (by simp; omega), List.getElem?_eq_none (by simp; omega)]
theorem partL_all (F : Nat → List Int) (ys : List Int) (h : ∀ v : Nat, v < 12 → (v : Int) ∉ ys → F v = []) : partL F ys = substL F := by
  unfold partL substL
  apply List.map_congr_left
  intro v hv
  rw [List.mem_range] at hv
  by_cases hm : (v : Int) ∈ ys
  · rw [if_pos hm]
  · rw [if_neg hm]; unfold stayF; rw [h v hv hm]; simp
def RetSub (F : Nat → List Int) (b : Nat) (w : World) (e : Ending) (w' : World) : Prop :=
  ∃ ad n c, e = .returned (.slice ad n c) ∧ OwnS w.heap.size w'.heap.size w' (.slice ad n c) (substL F) ∧ Chg b (b+1) w w'

end Go.Proofs.YtkbgglejhdodoaaDoor
end
