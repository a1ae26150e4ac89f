/- ReplaceAt: both functions. -/
import Derived.Test.YtngdhpelnjckjaaPart
namespace Go.Proofs.Ytngdhpelnjckjaa
open Go.RowKit

def replIn (ar t : List Int) (i : Int) (u : List Int) : List Int := replaced t i.toNat ((endOf ar t i.toNat).getD 0) u
def replOk (ar t : List Int) (i : Int) (u : List Int) : Bool := askOk ar t i && okTerm ar u && okTerm ar (replIn ar t i u)
def replAns (ar t : List Int) (i : Int) (u : List Int) : List Int := if replOk ar t i u then replIn ar t i u else []
theorem replAns_len (ar t : List Int) (i : Int) (u : List Int) : (replAns ar t i u).length ≤ 1048576 := by
  unfold replAns
  split
  · rename_i h
    simp only [replOk, Bool.and_eq_true] at h
    have := ((okTerm_iff _ _).1 h.2).2.1
    omega
  · exact Nat.zero_le _
theorem replIn_eq {ar t u : List Int} {k q : Nat} (he : endOf ar t k = some q) : replIn ar t k u = replaced t k q u := by simp [replIn, he]
theorem repl_no {ar t u : List Int} {i : Int} (h : replOk ar t i u = false) : replAns ar t i u = [] := by simp [replAns, h]
theorem repl_yes {ar t u : List Int} {i : Int} (h : replOk ar t i u = true) : replAns ar t i u = replIn ar t i u := by simp [replAns, h]

theorem sReplaceAt_t {l h l' h' l2 h2 : Nat} {v u x : Value} {ar t r : List Int} {w : World} (ha : ar.length ≤ 1048576) (hv : SlI l h w v ar) (ht : t.length ≤ 1048576) (hu : SlI l' h' w u t) {i : Int} (_ : -9223372036854775808 ≤ i) (_ : i ≤ 9223372036854775807) (hr : r.length ≤ 1048576) (hx : SlI l2 h2 w x r) :
    Calls Try.prog 19 #[.agg #[v], u, .int .i64 i, x] w (RetIB w (replAns ar t i r) (replOk ar t i r)) := by
  cases hs : askOk ar t i with
  | false =>
    have h0 : replOk ar t i r = false := by simp [replOk, hs]
    have E := Lib.hid (repl_no h0)
    have E2 := Lib.hid h0
    have HS := Lib.hid hs; clear hs h0
    go_enter Try.func19, Try.ntmps19
    go_wp2_with fail
    refine (l1Asked_v _ _ _ _ _ _ _ _ _ _ _ HS.out ha ht (hv.alloc _) (hu.alloc _)).mono ?_; rintro e w' ⟨rfl, hb1⟩
    go_wp2_with fail
    go_ret2
    exact ⟨_, _, _, by rw [E2.out]; rfl, by rw [E.out]; exact OwnI.nil _ _ _, hb1.of_alloc⟩
  | true =>
    obtain ⟨k, q, rfl, hk, he, hq1, hq2, hlen, hg, hok⟩ := ask_yes hs
    have HS := Lib.hid hs
    cases hur : okTerm ar r with
    | false =>
      have h0 : replOk ar t k r = false := by simp [replOk, hur]
      have E := Lib.hid (repl_no h0)
      have E2 := Lib.hid h0
      have HU := Lib.hid hur; clear hur h0 hs he
      go_enter Try.func19, Try.ntmps19
      go_wp2_with fail
      refine (l1Asked_v _ _ _ _ _ _ _ _ _ _ _ HS.out ha ht (hv.alloc _) (hu.alloc _)).mono ?_; rintro e w' ⟨rfl, hb1⟩
      have hx1 := boxc hb1 0 _ rfl
      go_wp2_with fail
      refine (l1Term_v _ _ _ _ _ _ _ _ _ _ HU.out hg hr (hv.below hb1.of_alloc) (hx.below hb1.of_alloc)).mono ?_; rintro e w2 ⟨rfl, hb2⟩
      go_wp2_with fail
      go_ret2
      exact ⟨_, _, _, by rw [E2.out]; rfl, by rw [E.out]; exact OwnI.nil _ _ _, hb1.of_alloc.step hb2⟩
    | true =>
      have hrp := ((okTerm_iff ar r).1 hur).1
      have hor := replaced_ok ar t r k q hok hur hk he
      have hle := replaced_len_le t r k q ht hr
      have hlq := replaced_len t r k q (by omega) hq2
      have hrl : (replaced t k q r).length ≤ 1048576 := by have := ((okTerm_iff ar r).1 hur).2.1; omega
      have hi2 := replIn_eq (u := r) he
      have HU := Lib.hid hur; have HE := Lib.hid he
      cases ho : okTerm ar (replaced t k q r) with
      | false =>
        have h0 : replOk ar t k r = false := by simp [replOk, hi2, ho]
        have E := Lib.hid (repl_no h0)
        have E2 := Lib.hid h0
        have HO := Lib.hid ho; clear ho h0 hs he hi2 hor hur hlq
        go_enter Try.func19, Try.ntmps19
        go_wp2_with fail
        refine (l1Asked_v _ _ _ _ _ _ _ _ _ _ _ HS.out ha ht (hv.alloc _) (hu.alloc _)).mono ?_; rintro e w' ⟨rfl, hb1⟩
        have hx1 := boxc hb1 0 _ rfl
        go_wp2_with fail
        refine (l1Term_v _ _ _ _ _ _ _ _ _ _ HU.out hg hr (hv.below hb1.of_alloc) (hx.below hb1.of_alloc)).mono ?_; rintro e w2 ⟨rfl, hb2⟩
        have hx2 := boxc (hb1.step hb2) 0 _ rfl
        have hb12 := hb1.of_alloc.step hb2
        go_wp2_with fail
        refine (l1Replace_c _ _ _ _ _ _ _ _ _ ar t r k q _ hg ht hr hrp hk HE.out hq1 hq2 (hv.below hb12) (hu.below hb12) (hx.below hb12)).mono ?_; rintro e w3 ⟨ad, n, c, rfl, how, hb3⟩
        have hx3 := boxc ((hb1.step hb2).step hb3) 0 _ rfl
        go_wp2_with fail
        refine (l1Term_v _ _ _ _ _ _ ar (replaced t k q r) _ _ HO.out hg hrl (hv.below (hb12.step hb3)) how.sl).mono ?_; rintro e w4 ⟨rfl, hb4⟩
        go_wp2_with fail
        go_ret2
        exact ⟨_, _, _, by rw [E2.out]; rfl, by rw [E.out]; exact OwnI.nil _ _ _, (hb12.step hb3).step hb4⟩
      | true =>
        have h0 : replOk ar t k r = true := by simp [replOk, hi2, ho, hs, hur]
        have E := Lib.hid (show replAns ar t k r = replaced t k q r by rw [repl_yes h0, hi2])
        have E2 := Lib.hid h0
        have HO := Lib.hid ho; clear ho h0 hs he hi2 hor hur hlq
        go_enter Try.func19, Try.ntmps19
        go_wp2_with fail
        refine (l1Asked_v _ _ _ _ _ _ _ _ _ _ _ HS.out ha ht (hv.alloc _) (hu.alloc _)).mono ?_; rintro e w' ⟨rfl, hb1⟩
        have hx1 := boxc hb1 0 _ rfl
        go_wp2_with fail
        refine (l1Term_v _ _ _ _ _ _ _ _ _ _ HU.out hg hr (hv.below hb1.of_alloc) (hx.below hb1.of_alloc)).mono ?_; rintro e w2 ⟨rfl, hb2⟩
        have hx2 := boxc (hb1.step hb2) 0 _ rfl
        have hb12 := hb1.of_alloc.step hb2
        go_wp2_with fail
        refine (l1Replace_c _ _ _ _ _ _ _ _ _ ar t r k q _ hg ht hr hrp hk HE.out hq1 hq2 (hv.below hb12) (hu.below hb12) (hx.below hb12)).mono ?_; rintro e w3 ⟨ad, n, c, rfl, how, hb3⟩
        have hx3 := boxc ((hb1.step hb2).step hb3) 0 _ rfl
        go_wp2_with fail
        refine (l1Term_v _ _ _ _ _ _ ar (replaced t k q r) _ _ HO.out hg hrl (hv.below (hb12.step hb3)) how.sl).mono ?_; rintro e w4 ⟨rfl, hb4⟩
        go_wp2_with fail
        go_ret2
        exact ⟨_, _, _, by rw [E2.out]; rfl, by rw [E.out]; exact (how.mono (by have := hb12.size; omega) hb4.size).below hb4, (hb12.step hb3).step hb4⟩

set_option maxRecDepth 100000 in
set_option maxHeartbeats 2000000 in
theorem iReplaceAt_t {l h l' h' l2 h2 : Nat} {v u x : Value} {ar t r : List Int} {w : World} (ha : ar.length ≤ 1048576) (hv : SlI l h w v ar) (ht : t.length ≤ 1048576) (hu : SlI l' h' w u t) {i : Int} (_ : -9223372036854775808 ≤ i) (_ : i ≤ 9223372036854775807) (hr : r.length ≤ 1048576) (hx : SlI l2 h2 w x r) :
    Calls Try.prog 18 #[.agg #[v], u, .int .i64 i, x] w (RetIB w (replAns ar t i r) (replOk ar t i r)) := by
  cases hs : askOk ar t i with
  | false =>
    have h0 : replOk ar t i r = false := by simp [replOk, hs]
    have E := Lib.hid (repl_no h0)
    have E2 := Lib.hid h0
    have HS := Lib.hid hs; clear hs h0
    go_enter Try.func18, Try.ntmps18
    go_wp2_with fail
    refine (hasIndex_v _ _ _ _ _ _ _ _ _ _ _ HS.out ha ht (hv.alloc _) (hu.alloc _)).mono ?_; rintro e w' ⟨rfl, hb1⟩
    go_wp2_with fail
    go_ret2
    exact ⟨_, _, _, by rw [E2.out]; rfl, by rw [E.out]; exact OwnI.nil _ _ _, hb1.of_alloc⟩
  | true =>
    obtain ⟨k, q, rfl, hk, he, hq1, hq2, hlen, hg, hok⟩ := ask_yes hs
    have HS := Lib.hid hs
    cases hur : okTerm ar r with
    | false =>
      have h0 : replOk ar t k r = false := by simp [replOk, hur]
      have E := Lib.hid (repl_no h0)
      have E2 := Lib.hid h0
      have HU := Lib.hid (show goodTerm ar r = false by simp [goodTerm, hur]); clear hur h0 hs he
      go_enter Try.func18, Try.ntmps18
      go_wp2_with fail
      refine (hasIndex_v _ _ _ _ _ _ _ _ _ _ _ HS.out ha ht (hv.alloc _) (hu.alloc _)).mono ?_; rintro e w' ⟨rfl, hb1⟩
      have hx1 := boxc hb1 0 _ rfl
      go_wp2_with fail
      refine (iGoodTerm_v _ _ _ _ _ _ _ _ _ _ HU.out ha hr (hv.below hb1.of_alloc) (hx.below hb1.of_alloc)).mono ?_; rintro e w2 ⟨rfl, hb2⟩
      go_wp2_with fail
      go_ret2
      exact ⟨_, _, _, by rw [E2.out]; rfl, by rw [E.out]; exact OwnI.nil _ _ _, hb1.of_alloc.step hb2⟩
    | true =>
      have hrp := ((okTerm_iff ar r).1 hur).1
      have hor := replaced_ok ar t r k q hok hur hk he
      have hlq := replaced_len t r k q (by omega) hq2
      have hi2 := replIn_eq (u := r) he
      have hr40 := ((okTerm_iff ar r).1 hur).2.1
      have HU := Lib.hid (show goodTerm ar r = true by simp [goodTerm, hur, hg]); have HE := Lib.hid he
      have h0 : replOk ar t k r = decide ((replaced t k q r).length ≤ 40) := by simp only [replOk, hi2, hor, hs, hur, Bool.true_and]
      have E := Lib.hid (show (replaced t k q r).length ≤ 40 → replAns ar t k r = replaced t k q r from fun h => by rw [repl_yes (by rw [h0]; simpa using h), hi2])
      have E3 := Lib.hid (show ¬ (replaced t k q r).length ≤ 40 → replAns ar t k r = [] from fun h => repl_no (by rw [h0]; simpa using h))
      have E2 := Lib.hid h0
      clear h0 hs he hi2 hor hur
      obtain ⟨b, off, cap, rfl, hcap⟩ := hu.plain (by omega)
      obtain ⟨xb, xo, xc, rfl, hxc⟩ := hx.plain hrp
      have hcut : Hid (∀ w', Bel w w' → SlI l' h' w' (.slice (some ⟨b, off, none⟩) k cap) (t.take k)) := fun w' hb => by
        have := (hu.below hb).cut 0 k (by omega) (by omega); simpa using this
      have hq3 : (k : Int) < q := by omega
      have hq4 : (q : Int) ≤ t.length := by omega
      have hq5 : (t.length : Int) ≤ cap := by omega
      have hk0 : (0 : Int) ≤ k := by omega
      have hk5 : (k : Int) ≤ cap := by omega
      have hq7 : (q : Int) ≤ cap := by omega
      have hdl : (t.drop q).length = t.length - q := by simp
      have htl : (t.take k).length = k := by simp; omega
      have hfl : Hid (t.take k ++ r ++ t.drop q = replaced t k q r) := rfl
      have hsum : (t.take k).length + r.length + (t.drop q).length ≤ 1099511627776 := by omega
      have hsl : Hid (∀ w', Bel w w' → SlI 0 w'.heap.size w' (.slice (some ⟨b, off, none⟩) k cap) (t.take k)) := fun w' hb => (hcut.out w' hb).in'
      have hsl3 : Hid (∀ w', Bel w w' → SlI 0 w'.heap.size w' (.slice (some ⟨xb, xo, none⟩) r.length xc) r) := fun w' hb => (hx.below hb).in'
      clear hcut
      have hsl2 : (cap = q ∧ Hid (∀ w', Bel w w' → SlI 0 w'.heap.size w' (.slice (some ⟨b, off, none⟩) 0 0) (t.drop q))) ∨ (q < cap ∧ Hid (∀ w', Bel w w' → SlI 0 w'.heap.size w' (.slice (some ⟨b, off + q, none⟩) (t.length - q) (cap - q)) (t.drop q))) := by
        rcases Nat.lt_or_ge q cap with h | h
        · refine .inr ⟨h, fun w' hb => ?_⟩
          have := (hu.below hb).cut q t.length (by omega) (by omega)
          rw [List.take_of_length_le (by simp)] at this
          exact this.in'
        · refine .inl ⟨by omega, fun w' hb => ?_⟩
          obtain rfl : t.length = q := by omega
          rw [List.drop_length]
          exact ⟨_, 0, rfl, Nat.le_refl _, ⟨Nat.zero_le _, fun h => by simp at h⟩, fun h => absurd h (by simp)⟩
      rcases hsl2 with ⟨hqc, hsl2⟩ | ⟨hqc, hsl2⟩
      · obtain rfl : cap = q := hqc
        by_cases hfit : (replaced t k cap r).length ≤ 40
        · have E4 := Lib.hid (E.out hfit); have E5 : Hid (replOk ar t k r = true) := by show _ = _; rw [E2.out]; simpa using hfit
          clear E E3 E2
          go_enter Try.func18, Try.ntmps18
          go_wp2_with fail
          refine (hasIndex_v _ _ _ _ _ _ _ _ _ _ _ HS.out ha ht (hv.alloc _) (hu.alloc _)).mono ?_; rintro e w1 ⟨rfl, hb1⟩
          have hx1 := boxc hb1 0 _ rfl
          go_wp2_with fail
          refine (iGoodTerm_v _ _ _ _ _ _ _ _ _ _ HU.out ha hr (hv.below hb1.of_alloc) (hx.below hb1.of_alloc)).mono ?_; rintro e w2 ⟨rfl, hb2⟩
          have hx2 := boxc (hb1.step hb2) 0 _ rfl
          have hb12 := hb1.of_alloc.step hb2
          go_wp2_with fail
          refine (termEnd_v _ _ _ _ _ _ ar t k cap _ HE.out hg ht (by omega) (hv.below hb12) (hu.below hb12)).mono ?_; rintro e w3 ⟨rfl, hb3⟩
          have hb13 := hb12.step hb3
          go_wp2_with fail
          go_region_held3 (fun w' => Bel w3 w') (first | exact Bel.drew0 _ | exact Bel.alloc (Bel.drew0 _) _ | exact hb4.of_drew.of_alloc | exact hb4.of_alloc)
            (first | (go_at_call 91; refine (concat3_c 0 w3.heap.size _ _ _ _ _ _ _ _ _ (t.take k) r (t.drop cap) w3 hsum (hsl.out _ hb13) (hsl3.out _ hb13) (hsl2.out _ hb13) _).mono ?_; rintro e w4 ⟨a4, n4, c4, rfl, ho4, hb4⟩))
          have hn4 : (n4 : Int) ≤ 40 := by
            obtain ⟨ad, c, e, _⟩ := ho4.1
            simp only [Value.slice.injEq] at e
            rw [e.2.1, hfl.out]; omega
          go_wp2_with fail
          go_ret2
          refine ⟨_, _, _, by rw [E5.out]; rfl, ?_, hb13.step (hb4.of_drew.of_alloc)⟩
          rw [E4.out, ← hfl.out]
          have z := hb13.size
          exact ho4.mono (by show w.heap.size ≤ (w3.alloc _).heap.size; simp; omega) (Nat.le_refl _)
        · have E4 := Lib.hid (E3.out hfit); have E5 : Hid (replOk ar t k r = false) := by show _ = _; rw [E2.out]; simpa using hfit
          clear E E3 E2
          go_enter Try.func18, Try.ntmps18
          go_wp2_with fail
          refine (hasIndex_v _ _ _ _ _ _ _ _ _ _ _ HS.out ha ht (hv.alloc _) (hu.alloc _)).mono ?_; rintro e w1 ⟨rfl, hb1⟩
          have hx1 := boxc hb1 0 _ rfl
          go_wp2_with fail
          refine (iGoodTerm_v _ _ _ _ _ _ _ _ _ _ HU.out ha hr (hv.below hb1.of_alloc) (hx.below hb1.of_alloc)).mono ?_; rintro e w2 ⟨rfl, hb2⟩
          have hx2 := boxc (hb1.step hb2) 0 _ rfl
          have hb12 := hb1.of_alloc.step hb2
          go_wp2_with fail
          refine (termEnd_v _ _ _ _ _ _ ar t k cap _ HE.out hg ht (by omega) (hv.below hb12) (hu.below hb12)).mono ?_; rintro e w3 ⟨rfl, hb3⟩
          have hb13 := hb12.step hb3
          go_wp2_with fail
          go_region_held3 (fun w' => Bel w3 w') (first | exact Bel.drew0 _ | exact Bel.alloc (Bel.drew0 _) _ | exact hb4.of_drew.of_alloc | exact hb4.of_alloc)
            (first | (go_at_call 91; refine (concat3_c 0 w3.heap.size _ _ _ _ _ _ _ _ _ (t.take k) r (t.drop cap) w3 hsum (hsl.out _ hb13) (hsl3.out _ hb13) (hsl2.out _ hb13) _).mono ?_; rintro e w4 ⟨a4, n4, c4, rfl, ho4, hb4⟩))
          have hn4 : (40 : Int) < n4 := by
            obtain ⟨ad, c, e, _⟩ := ho4.1
            simp only [Value.slice.injEq] at e
            rw [e.2.1, hfl.out]; omega
          go_wp2_with fail
          go_ret2
          refine ⟨_, _, _, by rw [E5.out]; rfl, ?_, hb13.step (hb4.of_drew.of_alloc)⟩
          rw [E4.out]; exact OwnI.nil _ _ _
      · have hne : ¬ cap = q := by omega
        by_cases hfit : (replaced t k q r).length ≤ 40
        · have E4 := Lib.hid (E.out hfit); have E5 : Hid (replOk ar t k r = true) := by show _ = _; rw [E2.out]; simpa using hfit
          clear E E3 E2
          go_enter Try.func18, Try.ntmps18
          go_wp2_with fail
          refine (hasIndex_v _ _ _ _ _ _ _ _ _ _ _ HS.out ha ht (hv.alloc _) (hu.alloc _)).mono ?_; rintro e w1 ⟨rfl, hb1⟩
          have hx1 := boxc hb1 0 _ rfl
          go_wp2_with fail
          refine (iGoodTerm_v _ _ _ _ _ _ _ _ _ _ HU.out ha hr (hv.below hb1.of_alloc) (hx.below hb1.of_alloc)).mono ?_; rintro e w2 ⟨rfl, hb2⟩
          have hx2 := boxc (hb1.step hb2) 0 _ rfl
          have hb12 := hb1.of_alloc.step hb2
          go_wp2_with fail
          refine (termEnd_v _ _ _ _ _ _ ar t k q _ HE.out hg ht (by omega) (hv.below hb12) (hu.below hb12)).mono ?_; rintro e w3 ⟨rfl, hb3⟩
          have hb13 := hb12.step hb3
          go_wp2_with fail
          go_region_held3 (fun w' => Bel w3 w') (first | exact Bel.drew0 _ | exact Bel.alloc (Bel.drew0 _) _ | exact hb4.of_drew.of_alloc | exact hb4.of_alloc)
            (first | (go_at_call 91; refine (concat3_c 0 w3.heap.size _ _ _ _ _ _ _ _ _ (t.take k) r (t.drop q) w3 hsum (hsl.out _ hb13) (hsl3.out _ hb13) (hsl2.out _ hb13) _).mono ?_; rintro e w4 ⟨a4, n4, c4, rfl, ho4, hb4⟩))
          have hn4 : (n4 : Int) ≤ 40 := by
            obtain ⟨ad, c, e, _⟩ := ho4.1
            simp only [Value.slice.injEq] at e
            rw [e.2.1, hfl.out]; omega
          go_wp2_with fail
          go_ret2
          refine ⟨_, _, _, by rw [E5.out]; rfl, ?_, hb13.step (hb4.of_drew.of_alloc)⟩
          rw [E4.out, ← hfl.out]
          have z := hb13.size
          exact ho4.mono (by show w.heap.size ≤ (w3.alloc _).heap.size; simp; omega) (Nat.le_refl _)
        · have E4 := Lib.hid (E3.out hfit); have E5 : Hid (replOk ar t k r = false) := by show _ = _; rw [E2.out]; simpa using hfit
          clear E E3 E2
          go_enter Try.func18, Try.ntmps18
          go_wp2_with fail
          refine (hasIndex_v _ _ _ _ _ _ _ _ _ _ _ HS.out ha ht (hv.alloc _) (hu.alloc _)).mono ?_; rintro e w1 ⟨rfl, hb1⟩
          have hx1 := boxc hb1 0 _ rfl
          go_wp2_with fail
          refine (iGoodTerm_v _ _ _ _ _ _ _ _ _ _ HU.out ha hr (hv.below hb1.of_alloc) (hx.below hb1.of_alloc)).mono ?_; rintro e w2 ⟨rfl, hb2⟩
          have hx2 := boxc (hb1.step hb2) 0 _ rfl
          have hb12 := hb1.of_alloc.step hb2
          go_wp2_with fail
          refine (termEnd_v _ _ _ _ _ _ ar t k q _ HE.out hg ht (by omega) (hv.below hb12) (hu.below hb12)).mono ?_; rintro e w3 ⟨rfl, hb3⟩
          have hb13 := hb12.step hb3
          go_wp2_with fail
          go_region_held3 (fun w' => Bel w3 w') (first | exact Bel.drew0 _ | exact Bel.alloc (Bel.drew0 _) _ | exact hb4.of_drew.of_alloc | exact hb4.of_alloc)
            (first | (go_at_call 91; refine (concat3_c 0 w3.heap.size _ _ _ _ _ _ _ _ _ (t.take k) r (t.drop q) w3 hsum (hsl.out _ hb13) (hsl3.out _ hb13) (hsl2.out _ hb13) _).mono ?_; rintro e w4 ⟨a4, n4, c4, rfl, ho4, hb4⟩))
          have hn4 : (40 : Int) < n4 := by
            obtain ⟨ad, c, e, _⟩ := ho4.1
            simp only [Value.slice.injEq] at e
            rw [e.2.1, hfl.out]; omega
          go_wp2_with fail
          go_ret2
          refine ⟨_, _, _, by rw [E5.out]; rfl, ?_, hb13.step (hb4.of_drew.of_alloc)⟩
          rw [E4.out]; exact OwnI.nil _ _ _
end Go.Proofs.Ytngdhpelnjckjaa
