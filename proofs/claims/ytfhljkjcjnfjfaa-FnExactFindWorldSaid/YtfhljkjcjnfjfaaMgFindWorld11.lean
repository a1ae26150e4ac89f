/- Texts merged, part 11. -/
import Derived.Test.YtfhljkjcjnfjfaaRows
import Derived.ProofKit
import Derived.OpenShut
import Derived.ShutString
import Derived.ChangeOld
import Derived.Lib.SmallJoins
import Derived.Deep.Slices
import Derived.Deep.Strs
import Derived.Test.YtfhljkjcjnfjfaaMgFindWorld10
section
/- Chapter 5: the first world in which clauses hold. No program. -/
namespace Go.Proofs.Ytfhljkjcjnfjfaa
open Go.RowKit

theorem tabN_get (ar : List Int) (Z N : Nat) : ∀ (k j : Nat), j < k → (tabN ar Z N k).getD j [] = digN Z (N / Z ^ sumW ar Z j) (longW Z (ar.getD j 0)) := by
  intro k
  induction k with
  | zero => intro j h; omega
  | succ k ih =>
    intro j h
    have hl := tabN_len ar Z N k
    rw [tabN]
    by_cases e : j = k
    · subst e
      simp [List.getD, hl]
    · rw [← ih j (by omega)]
      simp only [List.getD_eq_getElem?_getD]
      rw [List.getElem?_append_left (by omega)]
theorem tabN_world {ar : List Int} {Z N : Nat} (z1 : 1 ≤ Z) (z3 : Z ≤ 3) : isWorld ar (Z : Int) (tabN ar Z N ar.length) = true := by
  refine isWorld_iff.2 ⟨by omega, by omega, tabN_len _ _ _ _, fun k hk => ?_⟩
  rw [tabN_len] at hk
  rw [tabN_get ar Z N _ k hk, digN_len]
  refine ⟨rfl, fun j hj => ?_⟩
  rw [digN_get Z _ _ j hj]
  generalize N / Z ^ sumW ar Z k / Z ^ j = q
  have := Nat.mod_lt q (show 0 < Z by omega)
  omega
/-- The first number from k on, among m, of a world in which all hold. -/
def findN (ar : List Int) (Z : Nat) (cs : List (List Lt)) : Nat → Nat → Option Nat
  | _, 0 => none
  | k, m + 1 => if heldAll ar Z (tabN ar Z k ar.length) cs then some k else findN ar Z cs (k + 1) m
def findOk (ar : List Int) (sz : Int) (cs : List (List Lt)) : Bool := (goodSign ar && inB sz 1 3) && (decide (worldsAns ar sz ≤ 3000) && triable ar cs)
def findIdx (ar : List Int) (cs : List (List Lt)) (sz : Int) : Option Nat := if findOk ar sz cs then findN ar sz.toNat cs 0 (worldsAns ar sz).toNat else none
def findIs (ar : List Int) (cs : List (List Lt)) (sz : Int) : Bool := (findIdx ar cs sz).isSome
def findZ (ar : List Int) (cs : List (List Lt)) (sz : Int) : Int := match findIdx ar cs sz with
  | some _ => sz
  | none => 0
def findT (ar : List Int) (cs : List (List Lt)) (sz : Int) : List (List Int) := match findIdx ar cs sz with
  | some k => tabN ar sz.toNat k ar.length
  | none => []
theorem findT_tot (ar : List Int) (cs : List (List Lt)) (sz : Int) : tot (findT ar cs sz) ≤ 1048576 := by
  unfold findT
  cases h : findIdx ar cs sz with
  | none => simp [tot, sumL]
  | some k =>
    unfold findIdx at h
    split at h
    · rename_i h2
      unfold findOk at h2
      simp only [Bool.and_eq_true] at h2
      obtain ⟨⟨hg, hs⟩, _⟩ := h2
      have hlen := (sign_len ar hg).2
      have hs2 : 1 ≤ sz ∧ sz ≤ 3 := by unfold inB at hs; simpa using hs
      have := tabN_tot ar sz.toNat k (fun k => longW_le (by omega) (ar_nonneg ar hg k).2) ar.length
      show tot (tabN ar sz.toNat k ar.length) ≤ _
      omega
    · simp at h
end Go.Proofs.Ytfhljkjcjnfjfaa
end
section
/- Chapter 5, the reference: AllHold. -/
namespace Go.Proofs.Ytfhljkjcjnfjfaa
open Go.RowKit

set_option maxRecDepth 100000 in
set_option maxHeartbeats 1000000 in
theorem l5Clauses_c (l h l' h' : Nat) (v vc : Value) (ar : List Int) (cs : List (List Lt)) (w : World) (hg : goodSign ar = true) (hv : SlI l h w v ar) (hs : ∀ k, k < cs.length → sumC (cs.getD k []) ≤ 1048576) (hc : SlCs l' h' w vc cs) :
    Calls Try.prog 114 #[.agg #[v], vc] w (RetV w (.bool (triable ar cs))) := by
  obtain ⟨ac, kc, rfl⟩ := hc.form
  have hcl : cs.length ≤ 9223372036854775807 := by
    obtain ⟨_, cap, e, h1, h2, _⟩ := hc
    unfold maxLen at h2; omega
  have HS1 := Lib.hid (fun k hk h => allg_split cs [] (fun c => goodClause ar c && fewC c) k hk h)
  have HS2 := Lib.hid (fun k hk h => allg_false cs [] (fun c => goodClause ar c && fewC c) k hk h)
  have HT := Lib.hid (fun (c : List Lt) (u : Value) (a b : Nat) (w' : World) (hb : Bel w w') (h1 : sumC c ≤ 1048576) (h2 : SlC a b w' u c) => l4Clause_w _ _ _ _ v u ar c (okLits ar c) w' rfl hg (shortC_of_sum h1) (hv.below hb) h2)
  have HE := Lib.hid (fun (c : List Lt) (u : Value) (a b : Nat) (w' : World) (hq : okLits ar c = true) (h1 : sumC c ≤ 1048576) (h2 : SlC a b w' u c) => l5Few_v _ _ u ar c (fewC c) w' rfl hq (shortC_of_sum h1) h2)
  have HGC : Hid (∀ c, (goodClause ar c && fewC c) = (okLits ar c && fewC c)) := fun c => by unfold goodClause; rw [hg, Bool.true_and]
  have HSM := Lib.hid hs
  have HB := Bel.alloc0 w (.cells #[v] 30)
  have HTR : Hid (triable ar cs = (decide (cs.length ≤ 40) && cs.all (fun c => goodClause ar c && fewC c))) := rfl
  clear hv hs
  go_enter Try.func114, Try.ntmps114
  go_wp2_with fail
  go_loopw [9] (fun i wr => ∃ k : Nat, k ≤ cs.length ∧ i = .int .i64 k ∧ (cs.take k).all (fun c => goodClause ar c && fewC c) = true ∧ Bel (w.alloc (.cells #[v] 30)) wr) (fun i _ => cs.length - (intOf i).toNat)
  case atStart => exact ⟨0, Nat.zero_le _, rfl, rfl, Bel.rfl' _⟩
  case round =>
    obtain ⟨k, hk, rfl, hall, hb⟩ := hrel
    have x0 : wr.cell? ⟨w.heap.size, 0, none⟩ = some v := hb.at (by simp) (by simp [go_sem])
    by_cases hlt : k < cs.length
    · obtain ⟨bc, offc, uc, rfl, hbc, c1, s1⟩ := hc.at hb.of_alloc k hlt
      obtain ⟨a1, d1, rfl⟩ := s1.form
      have HC := Lib.hid (HT.out _ _ _ _ _ hb.of_alloc (HSM.out k hlt) s1)
      have HF2 := Lib.hid (fun (w' : World) (hq : okLits ar (cs.getD k []) = true) (hb' : Bel wr w') => HE.out _ _ _ _ w' hq (HSM.out k hlt) (s1.below hb'))
      have HA := Lib.hid (HS1.out k hlt hall)
      have HF := Lib.hid (HS2.out k hlt)
      have hlk : (k : Int) < cs.length := by omega
      rw [HGC.out] at HA HF
      generalize hcc : (cs.getD k []) = c at *
      generalize c.length = m at *
      clear hc s1 hall HS1 HS2 HT HE HSM hcc HGC
      generalize okLits ar c = g at *
      generalize fewC c = f at *
      cases g with
      | false =>
        go_wp2_with fail
        refine HC.out.mono ?_; rintro e w3 ⟨rfl, hb3⟩
        go_wp2_with fail
        go_ret
        exact ⟨by rw [HTR.out, HF.out (by first | rfl | trivial), Bool.and_false]; rfl, (HB.step hb).step hb3⟩
      | true =>
        cases f with
        | true =>
          go_wp2_with fail
          refine HC.out.mono ?_; rintro e w3 ⟨rfl, hb3⟩
          go_wp2_with fail
          refine (HF2.out _ (by first | rfl | trivial) hb3).mono ?_; rintro e w4 ⟨rfl, hb4⟩
          go_wp2_with fail
          go_roundw
          case rel => exact ⟨k+1, by omega, by go_num, HA.out, (hb.step hb3).step hb4⟩
          case measure => simp [intOf]; omega
        | false =>
          go_wp2_with fail
          refine HC.out.mono ?_; rintro e w3 ⟨rfl, hb3⟩
          go_wp2_with fail
          refine (HF2.out _ (by first | rfl | trivial) hb3).mono ?_; rintro e w4 ⟨rfl, hb4⟩
          go_wp2_with fail
          go_ret
          exact ⟨by rw [HTR.out, HF.out (by first | rfl | trivial), Bool.and_false]; rfl, ((HB.step hb).step hb3).step hb4⟩
    · obtain rfl : k = cs.length := by omega
      rw [List.take_length] at hall
      have HALL := Lib.hid hall
      clear hall
      have hd : decide ((cs.length : Int) ≤ 40) = decide (cs.length ≤ 40) := by rw [decide_eq_decide]; omega
      generalize hdd : decide (cs.length ≤ 40) = D at *
      have HDD := Lib.hid hdd
      clear hdd
      go_wp2_with fail
      go_ret
      exact ⟨by rw [HTR.out, HALL.out, Bool.and_true]; rfl, HB.step hb⟩

set_option maxRecDepth 100000 in
set_option maxHeartbeats 1000000 in
theorem l5All_c (v u vc : Value) (ar : List Int) (Z : Nat) (tb : List (List Int)) (cs : List (List Lt)) (w : World) (hg : goodSign ar = true) (hw : isWorld ar Z tb = true) (hok : ∀ k, k < cs.length → okLits ar (cs.getD k []) = true) (hs : ∀ k, k < cs.length → sumC (cs.getD k []) ≤ 1048576) (h40 : cs.length ≤ 40)
    (hv : SlI 0 w.heap.size w v ar) (hu : SlS 0 w.heap.size w u tb) (hc : SlCs 0 w.heap.size w vc cs) :
    Calls Try.prog 115 #[.agg #[v], .agg #[.int .i64 (Z : Int), u], vc] w (RetV w (.bool (heldAll ar Z tb cs))) := by
  obtain ⟨ac, kc, rfl⟩ := hc.form
  have HB : Bel w ((w.alloc (.cells #[v] 30)).alloc (.cells #[.int .i64 (Z : Int), u] 46)) := Bel.alloc2 _ _ _
  have HS1 := Lib.hid (fun k hk h => allg_split cs [] (heldC ar Z tb) k hk h)
  have HS2 := Lib.hid (fun k hk h => allg_false cs [] (heldC ar Z tb) k hk h)
  have HV := Lib.hid (fun (c : List Lt) (uc : Value) (w' : World) (hb : Bel w w') (h0 : okLits ar c = true) (h1 : sumC c ≤ 1048576) (h2 : SlC 0 w'.heap.size w' uc c) => l5Holds_c v u uc ar Z tb c w' hg hw h0 (shortC_of_sum h1) (hv.below hb).in' (hu.below hb).in' h2)
  have HSM := Lib.hid hs
  have HOK := Lib.hid hok
  have HK : Hid (∀ w', Bel ((w.alloc (.cells #[v] 30)).alloc (.cells #[.int .i64 (Z : Int), u] 46)) w' → w'.cell? ⟨w.heap.size, 0, none⟩ = some v ∧ w'.cell? ⟨w.heap.size + 1, 0, none⟩ = some (.int .i64 (Z : Int)) ∧ w'.cell? ⟨w.heap.size + 1, 1, none⟩ = some u) := fun w' hb =>
    ⟨hb.at (by simp; omega) (by simp [go_sem]), hb.at (by simp) (by simp [go_sem]), hb.at (by simp) (by simp [go_sem])⟩
  unfold heldAll
  clear hv hu hs hok hg hw
  go_enter Try.func115, Try.ntmps115
  go_wp2_with fail
  go_loopw [11] (fun i wr => ∃ k : Nat, k ≤ cs.length ∧ i = .int .i64 k ∧ (cs.take k).all (heldC ar Z tb) = true ∧ Bel ((w.alloc (.cells #[v] 30)).alloc (.cells #[.int .i64 (Z : Int), u] 46)) wr) (fun i _ => cs.length - (intOf i).toNat)
  case atStart => exact ⟨0, Nat.zero_le _, rfl, rfl, Bel.rfl' _⟩
  case round =>
    obtain ⟨k, hk, rfl, hall, hb⟩ := hrel
    obtain ⟨x0, x1, x2⟩ := HK.out _ hb
    by_cases hlt : k < cs.length
    · obtain ⟨bc, offc, uc, rfl, hbc, c1, s1⟩ := hc.at (HB.step hb) k hlt
      obtain ⟨a1, d1, rfl⟩ := s1.form
      have HC := Lib.hid (HV.out _ _ _ (HB.step hb) (HOK.out k hlt) (HSM.out k hlt) s1.in')
      have HA := Lib.hid (HS1.out k hlt hall)
      have HF := Lib.hid (HS2.out k hlt)
      generalize hcc : (cs.getD k []) = c at *
      generalize c.length = m at *
      clear hc s1 hall HS1 HS2 HV HSM HOK hcc
      generalize hR : heldC ar Z tb c = R at *
      clear hR
      cases R with
      | false =>
        go_wp2_with fail
        refine HC.out.mono ?_; rintro e w3 ⟨rfl, hb3⟩
        go_wp2_with fail
        go_ret
        exact ⟨by rw [HF.out (by first | rfl | trivial)]; rfl, (HB.step hb).step hb3⟩
      | true =>
        go_wp2_with fail
        refine HC.out.mono ?_; rintro e w3 ⟨rfl, hb3⟩
        go_wp2_with fail
        go_roundw
        case rel => exact ⟨k+1, by omega, by go_num, HA.out, hb.step hb3⟩
        case measure => simp [intOf]; omega
    · obtain rfl : k = cs.length := by omega
      rw [List.take_length] at hall
      have HALL := Lib.hid hall
      clear hall
      go_wp2_with fail
      go_ret
      exact ⟨by rw [HALL.out]; rfl, HB.step hb⟩
end Go.Proofs.Ytfhljkjcjnfjfaa
end
section
/- Chapter 5, the reference: AllHold. -/
namespace Go.Proofs.Ytfhljkjcjnfjfaa
open Go.RowKit

set_option maxRecDepth 100000 in
set_option maxHeartbeats 1000000 in
theorem sAllHold_c {l h l' h' l2 h2 : Nat} {v u vc : Value} {ar : List Int} {sz : Int} {tb : List (List Int)} {cs : List (List Lt)} {w : World} (ha : ar.length ≤ 1048576) (hv : SlI l h w v ar) (hx : short tb) (hu : SlS l' h' w u tb) (hs : ∀ k, k < cs.length → sumC (cs.getD k []) ≤ 1048576) (hc : SlCs l2 h2 w vc cs) :
    Calls Try.prog 59 #[.agg #[v], .agg #[.int .i64 sz, u], vc] w (RetV w (.tuple #[.bool (allAns ar sz tb cs), .bool (allOk ar sz tb cs)])) := by
  replace hv := hv.in'
  replace hu := hu.in'
  replace hc := hc.in'
  unfold allAns
  have HB : Bel w ((w.alloc (.cells #[v] 30)).alloc (.cells #[.int .i64 sz, u] 46)) := Bel.alloc2 _ _ _
  have HK : Hid (∀ w', Bel ((w.alloc (.cells #[v] 30)).alloc (.cells #[.int .i64 sz, u] 46)) w' → w'.cell? ⟨w.heap.size, 0, none⟩ = some v ∧ w'.cell? ⟨w.heap.size + 1, 0, none⟩ = some (.int .i64 sz) ∧ w'.cell? ⟨w.heap.size + 1, 1, none⟩ = some u) := fun w' hb =>
    ⟨hb.at (by simp; omega) (by simp [go_sem]), hb.at (by simp) (by simp [go_sem]), hb.at (by simp) (by simp [go_sem])⟩
  have EQ : allOk ar sz tb cs = (goodWorld ar sz tb && triable ar cs) := rfl
  cases hg : goodWorld ar sz tb with
  | false =>
    rw [EQ, hg, Bool.false_and, if_neg (by simp)]
    have HC := Lib.hid (fun (w' : World) (hb : Bel w w') => sGoodWorld_v hg ha (hv.below hb) hx (hu.below hb)); clear hg EQ
    go_enter Try.func59, Try.ntmps59
    go_wp2_with fail
    refine (HC.out _ HB).mono ?_; rintro e w1 ⟨rfl, hb1⟩
    go_wp2_with fail
    go_ret2
    exact ⟨rfl, HB.step hb1⟩
  | true =>
    obtain ⟨hgs, hiw⟩ := goodWorld_iff.1 hg
    obtain ⟨z1, z3, _⟩ := isWorld_iff.1 hiw
    have HC := Lib.hid (fun (w' : World) (hb : Bel w w') => sGoodWorld_v hg ha (hv.below hb) hx (hu.below hb))
    have HT := Lib.hid (fun (w' : World) (hb : Bel w w') => l5Clauses_c _ _ _ _ v vc ar cs w' hgs (hv.below hb) hs (hc.below hb))
    cases hq : triable ar cs with
    | false =>
      rw [EQ, hg, hq, Bool.true_and, if_neg (by simp)]
      rw [hq] at HT
      clear hq hg EQ
      go_enter Try.func59, Try.ntmps59
      go_wp2_with fail
      refine (HC.out _ HB).mono ?_; rintro e w1 ⟨rfl, hb1⟩
      obtain ⟨x0, x1, x2⟩ := HK.out _ hb1
      go_wp2_with fail
      refine (HT.out _ (HB.step hb1)).mono ?_; rintro e w2 ⟨rfl, hb2⟩
      go_wp2_with fail
      go_ret2
      exact ⟨rfl, (HB.step hb1).step hb2⟩
    | true =>
      have hgk : (goodWorld ar sz tb && triable ar cs) = true := by rw [hg, hq]; rfl
      rw [EQ, hgk, if_pos rfl]
      rw [hq] at HT
      obtain ⟨Z, rfl⟩ : ∃ Z : Nat, sz = (Z : Int) := ⟨sz.toNat, by omega⟩
      obtain ⟨q40, qok⟩ := triable_ok hq
      have HV := Lib.hid (fun (w' : World) (hb : Bel w w') => l5All_c v u vc ar Z tb cs w' hgs hiw qok hs q40 (hv.below hb).in' (hu.below hb).in' (hc.below hb).in')
      clear hq hg EQ hgk qok
      generalize heldAll ar Z tb cs = R at *
      go_enter Try.func59, Try.ntmps59
      go_wp2_with fail
      refine (HC.out _ HB).mono ?_; rintro e w1 ⟨rfl, hb1⟩
      obtain ⟨x0, x1, x2⟩ := HK.out _ hb1
      go_wp2_with fail
      refine (HT.out _ (HB.step hb1)).mono ?_; rintro e w2 ⟨rfl, hb2⟩
      obtain ⟨v0, v1, v2⟩ := HK.out _ (hb1.step hb2)
      go_wp2_with fail
      refine (HV.out _ ((HB.step hb1).step hb2)).mono ?_; rintro e w4 ⟨rfl, hb4⟩
      go_wp2_with fail
      go_ret2
      exact ⟨rfl, ((HB.step hb1).step hb2).step hb4⟩

end Go.Proofs.Ytfhljkjcjnfjfaa
end
section
/- The laws' helpers over slices of clauses: the size. -/
namespace Go.Proofs.Ytfhljkjcjnfjfaa
open Go.RowKit

def sumCs (cs : List (List Lt)) : Nat := (cs.map sumC).sum
def totCs (cs : List (List Lt)) : Nat := cs.length + sumCs cs
def szCs (cs : List (List Lt)) (left : Int) : Int := if left - (totCs cs : Nat) < 0 then -1 else left - (totCs cs : Nat)
theorem sumCs_take (cs : List (List Lt)) (k : Nat) (h : k < cs.length) : sumCs (cs.take (k+1)) = sumCs (cs.take k) + sumC (cs.getD k []) := by
  unfold sumCs
  rw [List.take_succ_eq_append_getElem h, List.map_append, List.sum_append]
  simp [List.getD, h]
theorem sumCs_get (cs : List (List Lt)) (k : Nat) (h : k < cs.length) : sumCs (cs.take k) + sumC (cs.getD k []) ≤ sumCs cs := by
  rw [← sumCs_take cs k h]
  conv => rhs; rw [← List.take_append_drop (k+1) cs]
  unfold sumCs
  rw [List.map_append, List.sum_append]; omega
theorem totCs_each {cs : List (List Lt)} {n : Nat} (h : totCs cs ≤ n) : cs.length ≤ n ∧ ∀ k, k < cs.length → sumC (cs.getD k []) ≤ n := by
  unfold totCs at h
  exact ⟨by omega, fun k hk => by have := sumCs_get cs k hk; omega⟩
theorem SlCs.max {lo hi w v cs} (h : SlCs lo hi w v cs) : cs.length ≤ 9223372036854775807 := by
  obtain ⟨_, cap, e, h1, h2, _⟩ := h
  unfold maxLen at h2; omega

set_option maxRecDepth 100000 in
set_option maxHeartbeats 400000 in
theorem szLitSS_c (l h : Nat) (v : Value) (cs : List (List Lt)) (left : Int) (w : World) (h0 : 0 ≤ left) (h1 : left ≤ 1048576) (hv : SlCs l h w v cs) :
    Calls Try.prog 58 #[v, .int .i64 left] w (RetV w (.int .i64 (szCs cs left))) := by
  obtain ⟨ad, cap, rfl⟩ := hv.form
  have hx := hv.max
  have hse : totCs cs = cs.length + sumCs cs := rfl
  by_cases hs : left - cs.length < 0
  · have E : Hid (szCs cs left = -1) := by show szCs _ _ = _; unfold szCs; rw [if_pos (by omega)]
    go_enter Try.func58, Try.ntmps58
    go_wp2_with fail
    go_ret
    exact ⟨by rw [E.out]; rfl, Bel.rfl' _⟩
  · have hw1 := IntWalk.i64_in (left - cs.length) (by omega)
    go_enter Try.func58, Try.ntmps58
    go_wp2_with fail
    go_loopw [1, 5] (fun m i wr => ∃ (k : Nat) (z : Int), k ≤ cs.length ∧ i = .int .i64 k ∧ m = .int .i64 z ∧ 0 ≤ z ∧ z = left - cs.length - (sumCs (cs.take k) : Nat) ∧ Bel w wr) (fun _ i _ => cs.length - (intOf i).toNat)
    case atStart => exact ⟨0, _, Nat.zero_le _, rfl, by go_num, by omega, by simp [sumCs], Bel.rfl' _⟩
    case round =>
      obtain ⟨k, z, hk, rfl, rfl, hz0, hz, hb⟩ := hrel
      by_cases hlt : k < cs.length
      · obtain ⟨b, off, u, rfl, -, c1, s1⟩ := hv.at hb k hlt
        have hst := sumCs_take cs k hlt
        have hsl := sumCs_get cs k hlt
        have hcall := szLitS_c l h u (cs.getD k []) z wr hz0 (by omega) s1
        obtain ⟨a1, d1, rfl⟩ := s1.form
        have hin0 : (0 : Int) ≤ k := by omega
        have hin1 : (k : Int) < cs.length := by omega
        have hdef : ∀ c : List Lt, szC c z = if z - (sumC c : Nat) < 0 then -1 else z - (sumC c : Nat) := fun _ => rfl
        rw [hdef] at hcall
        generalize hcc : cs.getD k [] = c at *
        generalize hm : c.length = m at *
        generalize hSS : sumC c = S at *
        by_cases hneg : z - (S : Int) < 0
        · have E : Hid (szCs cs left = -1) := by show szCs _ _ = _; unfold szCs; rw [if_pos (by omega)]
          rw [if_pos hneg] at hcall
          have HC := Lib.hid hcall
          clear hcall hv s1 hst hsl hneg hz hse hcc hm hSS hdef
          go_wp2_with (go_at_call 16; refine HC.out.mono ?_; rintro e w' ⟨rfl, hb1⟩)
          go_ret
          exact ⟨by rw [E.out]; rfl, hb.step hb1⟩
        · have hz' : z - (S : Int) = left - cs.length - (sumCs (cs.take (k+1)) : Nat) := by omega
          rw [if_neg hneg] at hcall
          have HC := Lib.hid hcall
          have HZ := Lib.hid hz'
          have hz2 : 0 ≤ z - (S : Int) := by omega
          clear hcall hv s1 hst hsl hneg hz hz' hse hcc hm hSS hdef
          generalize z - (S : Int) = z2 at *
          go_wp2_with (go_at_call 16; refine HC.out.mono ?_; rintro e w' ⟨rfl, hb1⟩)
          go_roundw
          case rel => exact ⟨k+1, z2, by omega, by go_num, rfl, hz2, HZ.out, hb.step hb1⟩
          case measure => simp [intOf]; omega
      · obtain rfl : k = cs.length := by omega
        have E : Hid (szCs cs left = z) := by
          show szCs _ _ = _
          rw [List.take_length] at hz
          unfold szCs; rw [if_neg (by omega)]; omega
        clear hv hz hse
        go_wp2_with fail
        go_ret
        exact ⟨by rw [E.out]; rfl, hb⟩
end Go.Proofs.Ytfhljkjcjnfjfaa
end
section
/- Chapter 5: AllHold. -/
namespace Go.Proofs.Ytfhljkjcjnfjfaa
open Go.RowKit

theorem sAllHold_t {l h l' h' l2 h2 : Nat} {v u vc : Value} {ar : List Int} {sz : Int} {tb : List (List Int)} {cs : List (List Lt)} {w : World} (ha : ar.length ≤ 1048576) (hv : SlI l h w v ar) (hx : short tb) (hu : SlS l' h' w u tb) (hs : totCs cs ≤ 1048576) (hc : SlCs l2 h2 w vc cs) :
    Calls Try.prog 59 #[.agg #[v], .agg #[.int .i64 sz, u], vc] w (RetV w (.tuple #[.bool (allAns ar sz tb cs), .bool (allOk ar sz tb cs)])) := sAllHold_c ha hv hx hu (totCs_each hs).2 hc
theorem iAllHold_t {l h l' h' l2 h2 : Nat} {v u vc : Value} {ar : List Int} {sz : Int} {tb : List (List Int)} {cs : List (List Lt)} {w : World} (ha : ar.length ≤ 1048576) (hv : SlI l h w v ar) (hx : short tb) (hu : SlS l' h' w u tb) (hs : totCs cs ≤ 1048576) (hc : SlCs l2 h2 w vc cs) :
    Calls Try.prog 61 #[.agg #[v], .agg #[.int .i64 sz, u], vc] w (RetV w (.tuple #[.bool (allAns ar sz tb cs), .bool (allOk ar sz tb cs)])) := iAllHold_c ha hv hx hu (totCs_each hs).2 hc
end Go.Proofs.Ytfhljkjcjnfjfaa
end
section
/- Chapter 5: FindWorld, the reference. -/
namespace Go.Proofs.Ytfhljkjcjnfjfaa
open Go.RowKit

set_option maxRecDepth 100000 in
set_option maxHeartbeats 2000000 in
theorem sFindWorld_t {l h l2 h2 : Nat} {v vc : Value} {ar : List Int} {cs : List (List Lt)} {sz : Int} {w : World} (ha : ar.length ≤ 1048576) (hv : SlI l h w v ar) (hcs : totCs cs ≤ 1048576) (hc : SlCs l2 h2 w vc cs) (b1 : -9223372036854775808 ≤ sz) (b2 : sz ≤ 9223372036854775807) :
    Calls Try.prog 63 #[.agg #[v], vc, .int .i64 sz] w (RetWB w (findZ ar cs sz) (findT ar cs sz) (findIs ar cs sz)) := by
  replace hv := hv.in'
  replace hc := hc.in'
  have hs := (totCs_each hcs).2
  have HB : Bel w ((w.alloc (.cells #[v] 30)).alloc (.cells #[.int .i64 0, .slice none 0 0] 46)) := Bel.alloc2 _ _ _
  have HC := Lib.hid (fun (w' : World) (hb : Bel w w') => sCountWorlds_t (sz := sz) ha (hv.below hb) b1 b2)
  have KX : Hid (∀ w', Bel ((w.alloc (.cells #[v] 30)).alloc (.cells #[.int .i64 0, .slice none 0 0] 46)) w' → w'.cell? ⟨w.heap.size, 0, none⟩ = some v ∧ w'.cell? ⟨w.heap.size + 1, 0, none⟩ = some (.int .i64 0) ∧ w'.cell? ⟨w.heap.size + 1, 1, none⟩ = some (.slice none 0 0) ∧ w.heap.size + 1 < w'.heap.size ∧ ∀ i, w'.frozen? ⟨w.heap.size + 1, i, none⟩ = false) := fun w' hq =>
    ⟨hq.at (by simp; omega) (by simp [go_sem]), hq.at (by simp) (by simp [go_sem]), hq.at (by simp) (by simp [go_sem]), by have := hq.size; simp at this; omega, fun i => (hq.frozen (p := ⟨w.heap.size + 1, i, none⟩) (by simp)).trans (by simp [go_sem])⟩
  have HNO : ∀ w', Bel w w' → Bel w ((w'.setCell ⟨w.heap.size + 1, 0, none⟩ (.int .i64 0)).setCell ⟨w.heap.size + 1, 1, none⟩ (.slice none 0 0)) := fun w' hb => (hb.set (p := ⟨w.heap.size + 1, 0, none⟩) (by simp) _).set (p := ⟨w.heap.size + 1, 1, none⟩) (by simp) _
  have HNO := Lib.hid HNO
  have NONE : findIdx ar cs sz = none → Hid (findZ ar cs sz = 0 ∧ findT ar cs sz = [] ∧ findIs ar cs sz = false) := fun e => by
    show _ ∧ _ ∧ _
    unfold findZ findT findIs; rw [e]; exact ⟨rfl, rfl, rfl⟩
  cases hq : (goodSign ar && inB sz 1 3) with
  | false =>
    have E := NONE (by unfold findIdx findOk; rw [hq]; rfl)
    rw [hq] at HC
    rw [E.out.1, E.out.2.1, E.out.2.2]
    generalize worldsAns ar sz = m at *
    clear hq NONE E
    go_enter Try.func63, Try.ntmps63
    go_wp2_with fail
    refine (HC.out _ HB).mono ?_; rintro e w1 ⟨rfl, hb1⟩
    obtain ⟨x0, x1, x2, x3, x4⟩ := KX.out _ hb1
    go_wp2_with fail
    refine bodyPost_ret (v := .tuple #[.agg #[.int .i64 0, .slice none 0 0], .bool false]) (by simp [results, Try.results63, go_sem, x1, x2]) rfl ⟨_, _, _, rfl, OwnS.nil _ _ _, HNO.out _ (HB.step hb1)⟩
  | true =>
    have hg : goodSign ar = true := by revert hq; cases goodSign ar <;> simp
    have h1 : inB sz 1 3 = true := by revert hq; cases inB sz 1 3 <;> simp
    obtain ⟨z1, z3⟩ : 1 ≤ sz ∧ sz ≤ 3 := by unfold inB at h1; simpa using h1
    have hm := worlds_le ar sz z1
    have hm0 : 0 ≤ worldsAns ar sz := by unfold worldsAns; rw [hq, if_pos rfl]; exact Int.le_trans (by decide) (cwN_bd z1 _).1
    rw [hq] at HC
    have EOK : findOk ar sz cs = (decide (worldsAns ar sz ≤ 3000) && triable ar cs) := by unfold findOk; rw [hq]; rfl
    have HT := Lib.hid (fun (w' : World) (hb : Bel w w') => l5Clauses_c _ _ _ _ v vc ar cs w' hg (hv.below hb) hs (hc.below hb))
    by_cases h3 : worldsAns ar sz ≤ 3000
    · cases ht : triable ar cs with
      | false =>
        have E := NONE (by unfold findIdx; rw [EOK, ht, Bool.and_false]; rfl)
        rw [E.out.1, E.out.2.1, E.out.2.2]
        rw [ht] at HT
        have hd : decide (worldsAns ar sz > 3000) = false := decide_eq_false (by omega)
        clear hq EOK ht NONE E
        generalize worldsAns ar sz = m at *
        go_enter Try.func63, Try.ntmps63
        go_wp2_with fail
        refine (HC.out _ HB).mono ?_; rintro e w1 ⟨rfl, hb1⟩
        obtain ⟨x0, x1, x2, x3, x4⟩ := KX.out _ hb1
        go_wp2_with fail
        refine (HT.out _ (HB.step hb1)).mono ?_; rintro e w2 ⟨rfl, hb2⟩
        obtain ⟨y0, y1, y2, y3, y4⟩ := KX.out _ (hb1.step hb2)
        go_wp2_with fail
        refine bodyPost_ret (v := .tuple #[.agg #[.int .i64 0, .slice none 0 0], .bool false]) (by simp [results, Try.results63, go_sem, y1, y2]) rfl ⟨_, _, _, rfl, OwnS.nil _ _ _, HNO.out _ (HB.step (hb1.step hb2))⟩
      | true =>
        obtain ⟨q40, qok⟩ := triable_ok ht
        rw [ht] at HT
        have hd : decide (worldsAns ar sz > 3000) = false := decide_eq_false (by omega)
        obtain ⟨Z, rfl⟩ : ∃ Z : Nat, sz = (Z : Int) := ⟨sz.toNat, by omega⟩
        obtain ⟨M, hM⟩ : ∃ M : Nat, worldsAns ar Z = (M : Int) := ⟨(worldsAns ar Z).toNat, by omega⟩
        obtain ⟨R, hR⟩ : ∃ R, R = findN ar Z cs 0 M := ⟨_, rfl⟩
        have EI : Hid (findIdx ar cs Z = R) := by
          show _ = _
          unfold findIdx; rw [EOK, ht, decide_eq_true h3, hM, hR]; rfl
        have HW := Lib.hid (fun (N : Nat) (w' : World) (hN : N ≤ 10000) (hb : Bel w w') => l5WorldAt_c _ _ v ar Z N w' hg (by omega) (by omega) hN (hv.below hb))
        have HA := Lib.hid (fun (N : Nat) (u : Value) (w' : World) (hb : Bel w w') (hu : SlS 0 w'.heap.size w' u (tabN ar Z N ar.length)) => l5All_c v u vc ar Z (tabN ar Z N ar.length) cs w' hg (tabN_world (by omega) (by omega)) qok hs q40 (hv.below hb).in' hu (hc.below hb).in')
        have HTL : Hid (∀ N, (tabN ar Z N ar.length).length = ar.length) := fun N => tabN_len _ _ _ _
        rw [hM] at HC hm h3 hd
        have NZ := Lib.hid NONE
        clear hq EOK ht NONE hs hm0
        go_enter Try.func63, Try.ntmps63
        go_wp2_with fail
        refine (HC.out _ HB).mono ?_; rintro e w1 ⟨rfl, hb1⟩
        obtain ⟨x0, x1, x2, x3, x4⟩ := KX.out _ hb1
        go_wp2_with fail
        refine (HT.out _ (HB.step hb1)).mono ?_; rintro e w2 ⟨rfl, hb2⟩
        have hb12 := hb1.step hb2
        clear x0 x1 x2 x3 x4
        go_wp2_with fail
        go_loopw [10] (fun i wr => ∃ k : Nat, k ≤ M ∧ i = .int .i64 k ∧ findN ar Z cs k (M - k) = R ∧ Bel ((w.alloc (.cells #[v] 30)).alloc (.cells #[.int .i64 0, .slice none 0 0] 46)) wr) (fun i _ => M - (intOf i).toNat)
        case atStart => exact ⟨0, Nat.zero_le _, rfl, by rw [hR, Nat.sub_zero], hb12⟩
        case round =>
          obtain ⟨k, hk, rfl, hf, hb⟩ := hrel
          obtain ⟨x0, x1, x2, x3, x4⟩ := KX.out _ hb
          by_cases hlt : k < M
          · have HWk := Lib.hid (HW.out k wr (by omega) (HB.step hb))
            have HAk := Lib.hid (HA.out k)
            have hf1 : findN ar Z cs k ((M - k - 1) + 1) = R := by rw [show M - k - 1 + 1 = M - k by omega]; exact hf
            have hlk : (k : Int) < M := by omega
            rw [findN] at hf1
            have htl := HTL.out k
            have EIk : Hid (R = some k → findZ ar cs Z = Z ∧ findT ar cs Z = tabN ar Z k ar.length ∧ findIs ar cs Z = true) := fun e => by
              unfold findZ findT findIs; rw [EI.out, e]; exact ⟨rfl, by rw [Int.toNat_natCast], rfl⟩
            generalize tabN ar Z k ar.length = T at *
            clear hf HW HA HT HC HTL hv hc
            generalize hAA : heldAll ar Z T cs = AA at *
            have HAA := Lib.hid hAA
            clear hAA
            have HF1 := Lib.hid hf1
            clear hf1
            cases AA with
            | true =>
              have hR2 := HF1.out
              rw [if_pos rfl] at hR2
              obtain ⟨e1, e2, e3⟩ := EIk.out hR2.symm
              have E1 := Lib.hid e1; have E2 := Lib.hid e2; have E3 := Lib.hid e3
              clear e1 e2 e3 hR2 HF1 EIk EI hR
              go_wp2_with fail
              refine HWk.out.mono ?_; rintro e w3 ⟨a3, n3, c3, rfl, o3, hb3⟩
              have hBx := (hb.step hb3).alloc (.cells #[.int .i64 (Z : Int), .slice a3 n3 c3] 46)
              obtain ⟨y0, y1, y2, y3, y4⟩ := KX.out _ hBx
              go_wp2_with fail
              refine (HAk.out (.slice a3 n3 c3) _ (HB.step hBx) (o3.sl.below (Bel.alloc0 _ _)).in').mono ?_; rintro e w4 ⟨rfl, hb4⟩
              obtain ⟨g0, g1, g2, g3, g4⟩ := KX.out _ (hBx.step hb4)
              have t0 : w4.cell? ⟨w3.heap.size, 0, none⟩ = some (.int .i64 (Z : Int)) := hb4.at (by simp) (by simp [go_sem])
              have t1 : w4.cell? ⟨w3.heap.size, 1, none⟩ = some (.slice a3 n3 c3) := hb4.at (by simp) (by simp [go_sem])
              have z3' := hb3.size
              have zr := hb.size
              simp only [World.size_alloc] at zr
              go_wp2_with fail
              refine bodyPost_ret (v := .tuple #[.agg #[.int .i64 (Z : Int), .slice a3 n3 c3], .bool true]) (by simp [results, Try.results63, go_sem, g1, g2]) rfl ?_
              rw [E1.out, E2.out, E3.out]
              have o4 := o3.below ((Bel.alloc0 w3 (.cells #[.int .i64 (Z : Int), .slice a3 n3 c3] 46)).step hb4)
              have z4 := hb4.size
              simp only [World.size_alloc] at z4
              refine ⟨_, _, _, rfl, ?_, ?_⟩
              · exact ((o4.set (p := ⟨w.heap.size + 1, 0, none⟩) (.inl (by show w.heap.size + 1 < _; omega)) _).set (p := ⟨w.heap.size + 1, 1, none⟩) (.inl (by show w.heap.size + 1 < _; omega)) _).mono (by omega) (by simp; omega)
              · exact ((HB.step (hBx.step hb4)).set (p := ⟨w.heap.size + 1, 0, none⟩) (by simp) _).set (p := ⟨w.heap.size + 1, 1, none⟩) (by simp) _
            | false =>
              have hR2 := HF1.out
              rw [if_neg (by simp)] at hR2
              have HR2 := Lib.hid hR2
              clear hR2 HF1 EIk EI hR
              go_wp2_with fail
              refine HWk.out.mono ?_; rintro e w3 ⟨a3, n3, c3, rfl, o3, hb3⟩
              have hBx := (hb.step hb3).alloc (.cells #[.int .i64 (Z : Int), .slice a3 n3 c3] 46)
              obtain ⟨y0, y1, y2, y3, y4⟩ := KX.out _ hBx
              go_wp2_with fail
              refine (HAk.out (.slice a3 n3 c3) _ (HB.step hBx) (o3.sl.below (Bel.alloc0 _ _)).in').mono ?_; rintro e w4 ⟨rfl, hb4⟩
              go_wp2_with fail
              go_roundw
              case rel => exact ⟨k+1, by omega, by go_num, by rw [← HR2.out, show M - (k + 1) = M - k - 1 by omega], hBx.step hb4⟩
              case measure => simp [intOf]; omega
          · obtain rfl : k = M := by omega
            rw [Nat.sub_self] at hf
            have hRN : R = none := by rw [← hf]; rfl
            have E := NZ.out (by rw [EI.out]; exact hRN)
            have E1 := Lib.hid E.out.1; have E2 := Lib.hid E.out.2.1; have E3 := Lib.hid E.out.2.2
            clear hf hRN E NZ EI hR HW HA HT HC HTL hv hc
            go_wp2_with fail
            refine bodyPost_ret (v := .tuple #[.agg #[.int .i64 0, .slice none 0 0], .bool false]) (by simp [results, Try.results63, go_sem, x1, x2]) rfl ?_
            rw [E1.out, E2.out, E3.out]
            exact ⟨_, _, _, rfl, OwnS.nil _ _ _, HNO.out _ (HB.step hb)⟩
    · have hd : decide (worldsAns ar sz > 3000) = true := decide_eq_true (by omega)
      have E := NONE (by unfold findIdx; rw [EOK, decide_eq_false h3, Bool.false_and]; rfl)
      rw [E.out.1, E.out.2.1, E.out.2.2]
      clear hq EOK NONE E HT
      generalize worldsAns ar sz = m at *
      go_enter Try.func63, Try.ntmps63
      go_wp2_with fail
      refine (HC.out _ HB).mono ?_; rintro e w1 ⟨rfl, hb1⟩
      obtain ⟨x0, x1, x2, x3, x4⟩ := KX.out _ hb1
      go_wp2_with fail
      refine bodyPost_ret (v := .tuple #[.agg #[.int .i64 0, .slice none 0 0], .bool false]) (by simp [results, Try.results63, go_sem, x1, x2]) rfl ⟨_, _, _, rfl, OwnS.nil _ _ _, HNO.out _ (HB.step hb1)⟩
end Go.Proofs.Ytfhljkjcjnfjfaa
end
section
/- Chapter 5: FindWorld, the program. -/
namespace Go.Proofs.Ytfhljkjcjnfjfaa
open Go.RowKit

set_option maxRecDepth 100000 in
set_option maxHeartbeats 2000000 in
theorem iFindWorld_t {l h l2 h2 : Nat} {v vc : Value} {ar : List Int} {cs : List (List Lt)} {sz : Int} {w : World} (ha : ar.length ≤ 1048576) (hv : SlI l h w v ar) (hcs : totCs cs ≤ 1048576) (hc : SlCs l2 h2 w vc cs) (b1 : -9223372036854775808 ≤ sz) (b2 : sz ≤ 9223372036854775807) :
    Calls Try.prog 64 #[.agg #[v], vc, .int .i64 sz] w (RetWB w (findZ ar cs sz) (findT ar cs sz) (findIs ar cs sz)) := by
  replace hv := hv.in'
  replace hc := hc.in'
  have hs := (totCs_each hcs).2
  have HB : Bel w ((w.alloc (.cells #[v] 30)).alloc (.cells #[.int .i64 0, .slice none 0 0] 46)) := Bel.alloc2 _ _ _
  have HC := Lib.hid (fun (w' : World) (hb : Bel w w') => iCountWorlds_t (sz := sz) ha (hv.below hb) b1 b2)
  have KX : Hid (∀ w', Bel ((w.alloc (.cells #[v] 30)).alloc (.cells #[.int .i64 0, .slice none 0 0] 46)) w' → w'.cell? ⟨w.heap.size, 0, none⟩ = some v ∧ w'.cell? ⟨w.heap.size + 1, 0, none⟩ = some (.int .i64 0) ∧ w'.cell? ⟨w.heap.size + 1, 1, none⟩ = some (.slice none 0 0) ∧ w.heap.size + 1 < w'.heap.size ∧ ∀ i, w'.frozen? ⟨w.heap.size + 1, i, none⟩ = false) := fun w' hq =>
    ⟨hq.at (by simp; omega) (by simp [go_sem]), hq.at (by simp) (by simp [go_sem]), hq.at (by simp) (by simp [go_sem]), by have := hq.size; simp at this; omega, fun i => (hq.frozen (p := ⟨w.heap.size + 1, i, none⟩) (by simp)).trans (by simp [go_sem])⟩
  have HNO : ∀ w', Bel w w' → Bel w ((w'.setCell ⟨w.heap.size + 1, 0, none⟩ (.int .i64 0)).setCell ⟨w.heap.size + 1, 1, none⟩ (.slice none 0 0)) := fun w' hb => (hb.set (p := ⟨w.heap.size + 1, 0, none⟩) (by simp) _).set (p := ⟨w.heap.size + 1, 1, none⟩) (by simp) _
  have HNO := Lib.hid HNO
  have NONE : findIdx ar cs sz = none → Hid (findZ ar cs sz = 0 ∧ findT ar cs sz = [] ∧ findIs ar cs sz = false) := fun e => by
    show _ ∧ _ ∧ _
    unfold findZ findT findIs; rw [e]; exact ⟨rfl, rfl, rfl⟩
  cases hq : (goodSign ar && inB sz 1 3) with
  | false =>
    have E := NONE (by unfold findIdx findOk; rw [hq]; rfl)
    rw [hq] at HC
    rw [E.out.1, E.out.2.1, E.out.2.2]
    generalize worldsAns ar sz = m at *
    clear hq NONE E
    go_enter Try.func64, Try.ntmps64
    go_wp2_with fail
    refine (HC.out _ HB).mono ?_; rintro e w1 ⟨rfl, hb1⟩
    obtain ⟨x0, x1, x2, x3, x4⟩ := KX.out _ hb1
    go_wp2_with fail
    refine bodyPost_ret (v := .tuple #[.agg #[.int .i64 0, .slice none 0 0], .bool false]) (by simp [results, Try.results64, go_sem, x1, x2]) rfl ⟨_, _, _, rfl, OwnS.nil _ _ _, HNO.out _ (HB.step hb1)⟩
  | true =>
    have hg : goodSign ar = true := by revert hq; cases goodSign ar <;> simp
    have h1 : inB sz 1 3 = true := by revert hq; cases inB sz 1 3 <;> simp
    obtain ⟨z1, z3⟩ : 1 ≤ sz ∧ sz ≤ 3 := by unfold inB at h1; simpa using h1
    have hm := worlds_le ar sz z1
    have hm0 : 0 ≤ worldsAns ar sz := by unfold worldsAns; rw [hq, if_pos rfl]; exact Int.le_trans (by decide) (cwN_bd z1 _).1
    rw [hq] at HC
    have EOK : findOk ar sz cs = (decide (worldsAns ar sz ≤ 3000) && triable ar cs) := by unfold findOk; rw [hq]; rfl
    have HT := Lib.hid (fun (w' : World) (hb : Bel w w') => areTriable_v (rfl : triable ar cs = triable ar cs) ha (hv.below hb) hs (hc.below hb))
    by_cases h3 : worldsAns ar sz ≤ 3000
    · cases ht : triable ar cs with
      | false =>
        have E := NONE (by unfold findIdx; rw [EOK, ht, Bool.and_false]; rfl)
        rw [E.out.1, E.out.2.1, E.out.2.2]
        rw [ht] at HT
        have hd : decide (worldsAns ar sz > 3000) = false := decide_eq_false (by omega)
        clear hq EOK ht NONE E
        generalize worldsAns ar sz = m at *
        go_enter Try.func64, Try.ntmps64
        go_wp2_with fail
        refine (HC.out _ HB).mono ?_; rintro e w1 ⟨rfl, hb1⟩
        obtain ⟨x0, x1, x2, x3, x4⟩ := KX.out _ hb1
        go_wp2_with fail
        refine (HT.out _ (HB.step hb1)).mono ?_; rintro e w2 ⟨rfl, hb2⟩
        obtain ⟨y0, y1, y2, y3, y4⟩ := KX.out _ (hb1.step hb2)
        go_wp2_with fail
        refine bodyPost_ret (v := .tuple #[.agg #[.int .i64 0, .slice none 0 0], .bool false]) (by simp [results, Try.results64, go_sem, y1, y2]) rfl ⟨_, _, _, rfl, OwnS.nil _ _ _, HNO.out _ (HB.step (hb1.step hb2))⟩
      | true =>
        obtain ⟨q40, qok⟩ := triable_ok ht
        rw [ht] at HT
        have hd : decide (worldsAns ar sz > 3000) = false := decide_eq_false (by omega)
        obtain ⟨Z, rfl⟩ : ∃ Z : Nat, sz = (Z : Int) := ⟨sz.toNat, by omega⟩
        obtain ⟨M, hM⟩ : ∃ M : Nat, worldsAns ar Z = (M : Int) := ⟨(worldsAns ar Z).toNat, by omega⟩
        obtain ⟨R, hR⟩ : ∃ R, R = findN ar Z cs 0 M := ⟨_, rfl⟩
        have EI : Hid (findIdx ar cs Z = R) := by
          show _ = _
          unfold findIdx; rw [EOK, ht, decide_eq_true h3, hM, hR]; rfl
        have HW := Lib.hid (fun (N : Nat) (w' : World) (hN : N ≤ 10000) (hb : Bel w w') => worldAt_c _ _ v ar Z N w' hg (by omega) (by omega) hN (hv.below hb))
        have HA := Lib.hid (fun (N : Nat) (u : Value) (w' : World) (hb : Bel w w') (hu : SlS 0 w'.heap.size w' u (tabN ar Z N ar.length)) => allHold_c v u vc ar Z (tabN ar Z N ar.length) cs w' hg (tabN_world (by omega) (by omega)) qok hs q40 (hv.below hb).in' hu (hc.below hb).in')
        have HTL : Hid (∀ N, (tabN ar Z N ar.length).length = ar.length) := fun N => tabN_len _ _ _ _
        rw [hM] at HC hm h3 hd
        have NZ := Lib.hid NONE
        clear hq EOK ht NONE hs hm0
        go_enter Try.func64, Try.ntmps64
        go_wp2_with fail
        refine (HC.out _ HB).mono ?_; rintro e w1 ⟨rfl, hb1⟩
        obtain ⟨x0, x1, x2, x3, x4⟩ := KX.out _ hb1
        go_wp2_with fail
        refine (HT.out _ (HB.step hb1)).mono ?_; rintro e w2 ⟨rfl, hb2⟩
        have hb12 := hb1.step hb2
        clear x0 x1 x2 x3 x4
        go_wp2_with fail
        go_loopw [32] (fun i wr => ∃ k : Nat, k ≤ M ∧ i = .int .i64 k ∧ findN ar Z cs k (M - k) = R ∧ Bel ((w.alloc (.cells #[v] 30)).alloc (.cells #[.int .i64 0, .slice none 0 0] 46)) wr) (fun i _ => M - (intOf i).toNat)
        case atStart => exact ⟨0, Nat.zero_le _, rfl, by rw [hR, Nat.sub_zero], hb12⟩
        case round =>
          obtain ⟨k, hk, rfl, hf, hb⟩ := hrel
          obtain ⟨x0, x1, x2, x3, x4⟩ := KX.out _ hb
          by_cases hlt : k < M
          · have HWk := Lib.hid (HW.out k wr (by omega) (HB.step hb))
            have HAk := Lib.hid (HA.out k)
            have hf1 : findN ar Z cs k ((M - k - 1) + 1) = R := by rw [show M - k - 1 + 1 = M - k by omega]; exact hf
            have hlk : (k : Int) < M := by omega
            rw [findN] at hf1
            have htl := HTL.out k
            have EIk : Hid (R = some k → findZ ar cs Z = Z ∧ findT ar cs Z = tabN ar Z k ar.length ∧ findIs ar cs Z = true) := fun e => by
              unfold findZ findT findIs; rw [EI.out, e]; exact ⟨rfl, by rw [Int.toNat_natCast], rfl⟩
            generalize tabN ar Z k ar.length = T at *
            clear hf HW HA HT HC HTL hv hc
            generalize hAA : heldAll ar Z T cs = AA at *
            have HAA := Lib.hid hAA
            clear hAA
            have HF1 := Lib.hid hf1
            clear hf1
            cases AA with
            | true =>
              have hR2 := HF1.out
              rw [if_pos rfl] at hR2
              obtain ⟨e1, e2, e3⟩ := EIk.out hR2.symm
              have E1 := Lib.hid e1; have E2 := Lib.hid e2; have E3 := Lib.hid e3
              clear e1 e2 e3 hR2 HF1 EIk EI hR
              go_wp2_with fail
              refine HWk.out.mono ?_; rintro e w3 ⟨a3, n3, c3, rfl, o3, hb3⟩
              have hBx := (hb.step hb3).alloc (.cells #[.int .i64 (Z : Int), .slice a3 n3 c3] 46)
              obtain ⟨y0, y1, y2, y3, y4⟩ := KX.out _ hBx
              go_wp2_with fail
              refine (HAk.out (.slice a3 n3 c3) _ (HB.step hBx) (o3.sl.below (Bel.alloc0 _ _)).in').mono ?_; rintro e w4 ⟨rfl, hb4⟩
              obtain ⟨g0, g1, g2, g3, g4⟩ := KX.out _ (hBx.step hb4)
              have t0 : w4.cell? ⟨w3.heap.size, 0, none⟩ = some (.int .i64 (Z : Int)) := hb4.at (by simp) (by simp [go_sem])
              have t1 : w4.cell? ⟨w3.heap.size, 1, none⟩ = some (.slice a3 n3 c3) := hb4.at (by simp) (by simp [go_sem])
              have z3' := hb3.size
              have zr := hb.size
              simp only [World.size_alloc] at zr
              go_wp2_with fail
              refine bodyPost_ret (v := .tuple #[.agg #[.int .i64 (Z : Int), .slice a3 n3 c3], .bool true]) (by simp [results, Try.results64, go_sem, g1, g2]) rfl ?_
              rw [E1.out, E2.out, E3.out]
              have o4 := o3.below ((Bel.alloc0 w3 (.cells #[.int .i64 (Z : Int), .slice a3 n3 c3] 46)).step hb4)
              have z4 := hb4.size
              simp only [World.size_alloc] at z4
              refine ⟨_, _, _, rfl, ?_, ?_⟩
              · exact ((o4.set (p := ⟨w.heap.size + 1, 0, none⟩) (.inl (by show w.heap.size + 1 < _; omega)) _).set (p := ⟨w.heap.size + 1, 1, none⟩) (.inl (by show w.heap.size + 1 < _; omega)) _).mono (by omega) (by simp; omega)
              · exact ((HB.step (hBx.step hb4)).set (p := ⟨w.heap.size + 1, 0, none⟩) (by simp) _).set (p := ⟨w.heap.size + 1, 1, none⟩) (by simp) _
            | false =>
              have hR2 := HF1.out
              rw [if_neg (by simp)] at hR2
              have HR2 := Lib.hid hR2
              clear hR2 HF1 EIk EI hR
              go_wp2_with fail
              refine HWk.out.mono ?_; rintro e w3 ⟨a3, n3, c3, rfl, o3, hb3⟩
              have hBx := (hb.step hb3).alloc (.cells #[.int .i64 (Z : Int), .slice a3 n3 c3] 46)
              obtain ⟨y0, y1, y2, y3, y4⟩ := KX.out _ hBx
              go_wp2_with fail
              refine (HAk.out (.slice a3 n3 c3) _ (HB.step hBx) (o3.sl.below (Bel.alloc0 _ _)).in').mono ?_; rintro e w4 ⟨rfl, hb4⟩
              go_wp2_with fail
              go_roundw
              case rel => exact ⟨k+1, by omega, by go_num, by rw [← HR2.out, show M - (k + 1) = M - k - 1 by omega], hBx.step hb4⟩
              case measure => simp [intOf]; omega
          · obtain rfl : k = M := by omega
            rw [Nat.sub_self] at hf
            have hRN : R = none := by rw [← hf]; rfl
            have E := NZ.out (by rw [EI.out]; exact hRN)
            have E1 := Lib.hid E.out.1; have E2 := Lib.hid E.out.2.1; have E3 := Lib.hid E.out.2.2
            clear hf hRN E NZ EI hR HW HA HT HC HTL hv hc
            go_wp2_with fail
            refine bodyPost_ret (v := .tuple #[.agg #[.int .i64 0, .slice none 0 0], .bool false]) (by simp [results, Try.results64, go_sem, x1, x2]) rfl ?_
            rw [E1.out, E2.out, E3.out]
            exact ⟨_, _, _, rfl, OwnS.nil _ _ _, HNO.out _ (HB.step hb)⟩
    · have hd : decide (worldsAns ar sz > 3000) = true := decide_eq_true (by omega)
      have E := NONE (by unfold findIdx; rw [EOK, decide_eq_false h3, Bool.false_and]; rfl)
      rw [E.out.1, E.out.2.1, E.out.2.2]
      clear hq EOK NONE E HT
      generalize worldsAns ar sz = m at *
      go_enter Try.func64, Try.ntmps64
      go_wp2_with fail
      refine (HC.out _ HB).mono ?_; rintro e w1 ⟨rfl, hb1⟩
      obtain ⟨x0, x1, x2, x3, x4⟩ := KX.out _ hb1
      go_wp2_with fail
      refine bodyPost_ret (v := .tuple #[.agg #[.int .i64 0, .slice none 0 0], .bool false]) (by simp [results, Try.results64, go_sem, x1, x2]) rfl ⟨_, _, _, rfl, OwnS.nil _ _ _, HNO.out _ (HB.step hb1)⟩
end Go.Proofs.Ytfhljkjcjnfjfaa
end
section
/- The arguments of a law, opened: slices of ints, a struct of one, strings, ints. -/
namespace Go.Proofs.Ytfhljkjcjnfjfaa
open Go.ChangeShapes Go.WideShapes Go.ChangeAt Go.RowKit
open Go.ChangeMaps (open_string shut_string)
set_option linter.unusedVariables false
set_option maxRecDepth 100000

theorem Row.own : ownKnob Try.prog.godebug = none := by kernel_rfl
theorem Row.laidOut : laidOutB Try.prog = true := by kernel_rfl

/-- A slice of ints that came in. -/
theorem op_slI {H : Type} {enc : TypeId × Value → H} {W : World} {fuel : Nat} {v : Value} {x : DataW H × List MemPlace}
    (h : DataW.trod enc Try.prog W 0 (fun _ => true) true fuel 22 [v] = some x) :
    ∃ xs : List Int, xs.length ≤ 9223372036854775807 ∧ SlI 0 W.heap.size W v xs ∧ ∀ n ∈ xs, (Lit.int .i64 n).wf = true := by
  rcases open_ints Try.underlying22 Try.underlying3 (by kernel_rfl) h with ⟨hcs, _⟩ | ⟨a, l, c, zs, hcs, _, hl, hm, hz, _, hcell, hwz⟩
  · simp at hcs
    subst hcs
    exact ⟨[], by simp, SlI.nil _ _ _, by simp⟩
  · simp at hcs
    subst hcs
    have hz' : zs.length = c := by simpa using hz
    have hlen : (zs.take l).length = l := by simp; omega
    refine ⟨zs.take l, by rw [hlen]; have : maxLen = 9223372036854775807 := rfl; omega, ⟨some a, c, by rw [hlen], by rw [hlen]; exact hl, ⟨hm, fun h => by simp at h⟩, fun hp => ?_⟩, fun n hn => hwz n (List.mem_of_mem_take hn)⟩
    rw [hlen] at hp
    obtain ⟨b, off, spot⟩ := a
    have h0 := hcell 0 (by omega)
    have hspot : spot = none := by simpa [Addr.add] using World.cell?_spot h0
    subst hspot
    refine ⟨b, off, rfl, Nat.zero_le _, World.block_lt_of_cell? W ⟨b, off + 0, none⟩ h0, fun j hj => ?_⟩
    rw [hlen] at hj
    rw [← add_plain, hcell j (by omega)]
    simp [List.getD, hj]

theorem op_int {H : Type} {enc : TypeId × Value → H} {W : World} {v : Value} {d : DataW H} {p : List MemPlace} {base : Nat} (hv : Value.okWide Try.prog W .any base 3 v)
    (h : DataW.Trod enc Try.prog W 0 (fun _ => true) true 3 v d p) : ∃ n : Int, v = .int .i64 n ∧ -9223372036854775808 ≤ n ∧ n ≤ 9223372036854775807 := by
  obtain ⟨n, rfl, rfl, rfl, wf⟩ := open_int Try.underlying3 hv h
  have h1 : IntKind.i64.min = -9223372036854775808 := rfl
  have h2 : IntKind.i64.max = 9223372036854775807 := rfl
  simp only [Lit.wf, Bool.and_eq_true, decide_eq_true_eq] at wf
  exact ⟨n, rfl, by omega, by omega⟩

theorem op_ints {H : Type} {enc : TypeId × Value → H} {W : World} {v : Value} {d : DataW H} {p : List MemPlace} {base : Nat} (hv : Value.okWide Try.prog W .any base 22 v)
    (h : DataW.Trod enc Try.prog W 0 (fun _ => true) true 22 v d p) : ∃ xs : List Int, xs.length ≤ 9223372036854775807 ∧ SlI 0 W.heap.size W v xs ∧ ∀ n ∈ xs, (Lit.int .i64 n).wf = true := by
  obtain ⟨a, n, c, rfl⟩ := okWide_slice Try.underlying22 hv
  obtain ⟨fuel, hf⟩ := h
  exact op_slI (x := (d, p)) (by simpa [Value.cells] using hf)

theorem op_sign {H : Type} {enc : TypeId × Value → H} {W : World} {v : Value} {d : DataW H} {p : List MemPlace} {base : Nat} (hv : Value.okWide Try.prog W .any base 24 v)
    (h : DataW.Trod enc Try.prog W 0 (fun _ => true) true 24 v d p) : ∃ u, v = .agg #[u] ∧ ∃ xs : List Int, xs.length ≤ 9223372036854775807 ∧ SlI 0 W.heap.size W u xs ∧ ∀ n ∈ xs, (Lit.int .i64 n).wf = true := by
  obtain ⟨cs, rfl, hsz⟩ := okWide_struct Try.underlying24 hv
  have hC : Try.prog.cellsOf 24 = 1 := by kernel_rfl
  obtain ⟨u, rfl⟩ : ∃ u, cs = #[u] := by
    rw [hC] at hsz
    match cs, hsz with
    | ⟨[u]⟩, _ => exact ⟨u, rfl⟩
  obtain ⟨fuel, hf⟩ := h
  obtain ⟨y0, n, hx, _, h0⟩ := trod_struct1 Try.underlying24 hf
  exact ⟨u, rfl, op_slI (x := y0) (by simpa [Value.cells, show Try.prog.cellsOf 22 = 1 from by kernel_rfl] using h0)⟩

theorem op_string {H : Type} {enc : TypeId × Value → H} {W : World} {v : Value} {d : DataW H} {p : List MemPlace} {base : Nat} (hv : Value.okWide Try.prog W .any base 9 v)
    (h : DataW.Trod enc Try.prog W 0 (fun _ => true) true 9 v d p) : ∃ s : ByteArray, v = .string s ∧ s.size ≤ 9223372036854775807 := by
  obtain ⟨s, rfl, rfl, rfl, hs⟩ := open_string Try.underlying9 hv h
  exact ⟨s, rfl, hs⟩

theorem op_lt {H : Type} {enc : TypeId × Value → H} {W : World} {t : TypeId} {v : Value} {d : DataW H} {p : List MemPlace}
    (h : DataW.Trod enc Try.prog W 0 (fun _ => true) true t v d p) : ∀ x ∈ p, x.block < W.heap.size := by
  obtain ⟨m, hm⟩ := h; exact DataW.trod_lt m _ _ _ hm

end Go.Proofs.Ytfhljkjcjnfjfaa
end
section
/- A slice of slices of ints that came in, opened. -/
namespace Go.Proofs.Ytfhljkjcjnfjfaa
open Go.ChangeShapes Go.WideShapes Go.ChangeAt Go.RowKit
set_option linter.unusedVariables false
set_option maxRecDepth 100000

theorem op_intss {H : Type} {enc : TypeId × Value → H} {W : World} {v : Value} {d : DataW H} {p : List MemPlace} {base : Nat} (hv : Value.okWide Try.prog W .any base 41 v)
    (h : DataW.Trod enc Try.prog W 0 (fun _ => true) true 41 v d p) : ∃ xss : List (List Int), SlS 0 W.heap.size W v xss := by
  obtain ⟨a, n, c, rfl⟩ := okWide_slice Try.underlying41 hv
  obtain ⟨fuel, hf⟩ := h
  rcases Go.Deep.open_slice1 Try.underlying41 (by kernel_rfl) (by simpa [Value.cells] using hf) with ⟨hcs, _⟩ | ⟨ad, len, cap, m, n', V, D, Pl, hcs, _, hl, hm, hmm, _, hx⟩
  · simp at hcs
    obtain ⟨rfl, rfl, rfl⟩ := hcs
    exact ⟨[], SlS.nil _ _ _⟩
  · simp at hcs
    obtain ⟨rfl, rfl, rfl⟩ := hcs
    simp at hmm
    subst hmm
    have each : ∀ i, i < n → ∃ xs : List Int, SlI 0 W.heap.size W (V i) xs := fun i hi => by
      obtain ⟨xs, _, h2, _⟩ := op_slI (hx i (by omega)).2
      exact ⟨xs, h2⟩
    obtain ⟨Z, hZ⟩ := Go.Deep.choose_lt each
    have hlen : ((List.range n).map Z).length = n := by simp
    refine ⟨(List.range n).map Z, some ad, _, by rw [hlen], by rw [hlen]; exact hl, ⟨hm, fun h => by simp at h⟩, fun hp => ?_⟩
    rw [hlen] at hp
    obtain ⟨b, off, spot⟩ := ad
    have h0 := (hx 0 (by omega)).1
    have hspot : spot = none := by simpa [Addr.add] using World.cell?_spot h0
    subst hspot
    refine ⟨b, off, rfl, Nat.zero_le _, World.block_lt_of_cell? W ⟨b, off + 0, none⟩ h0, fun j hj => ?_⟩
    rw [hlen] at hj
    refine ⟨V j, ?_, ?_⟩
    · rw [← add_plain]; exact (hx j (by omega)).1
    · have := hZ j hj
      simpa [List.getD, hj] using this
end Go.Proofs.Ytfhljkjcjnfjfaa
end
section
/- The laws' helpers over slices of clauses: copies. -/
namespace Go.Proofs.Ytfhljkjcjnfjfaa
open Go.RowKit

/-- Clauses of the call's own, one behind the other. -/
def InsC (lo hi : Nat) (w : World) (us : List Value) (cs : List (List Lt)) (bs : Nat → Nat × Nat) : Prop :=
  us.length = cs.length ∧ ∀ j u, us[j]? = some u → lo ≤ (bs j).1 ∧ (bs j).1 ≤ (bs j).2 ∧ (bs j).2 ≤ hi ∧ OwnC (bs j).1 (bs j).2 w u (cs.getD j []) ∧ ∀ i, i < j → (bs i).2 ≤ (bs j).1
theorem InsC.nil (lo hi : Nat) (w : World) (bs : Nat → Nat × Nat) : InsC lo hi w [] [] bs := ⟨rfl, fun j u h => by simp at h⟩
theorem InsC.same {lo hi : Nat} {w w' : World} {us : List Value} {cs : List (List Lt)} {bs : Nat → Nat × Nat} (h : InsC lo hi w us cs bs) (hs : ∀ b, lo ≤ b → b < hi → b < w.heap.size → w'.heap[b]? = w.heap[b]?) : InsC lo hi w' us cs bs :=
  ⟨h.1, fun j u hj => by
    obtain ⟨a, b, c, d, e⟩ := h.2 j u hj
    exact ⟨a, b, c, d.same fun q h1 h2 h3 => hs q (by omega) (by omega) h3, e⟩⟩
theorem InsC.mono {lo hi lo' hi' : Nat} {w : World} {us : List Value} {cs : List (List Lt)} {bs : Nat → Nat × Nat} (h : InsC lo hi w us cs bs) (h1 : lo' ≤ lo) (h2 : hi ≤ hi') : InsC lo' hi' w us cs bs :=
  ⟨h.1, fun j u hj => by
    obtain ⟨a, b, c, d, e⟩ := h.2 j u hj
    exact ⟨by omega, b, by omega, d, e⟩⟩
theorem InsC.snoc {lo hi hi2 : Nat} {w : World} {us : List Value} {cs : List (List Lt)} {bs : Nat → Nat × Nat} {u : Value} {c : List Lt} (h : InsC lo hi w us cs bs) (h0 : lo ≤ hi) (h2 : hi ≤ hi2) (ho : OwnC hi hi2 w u c) : InsC lo hi2 w (us ++ [u]) (cs ++ [c]) (fun i => if i = us.length then (hi, hi2) else bs i) := by
  refine ⟨by simp [h.1], fun j v hj => ?_⟩
  by_cases hl : j < us.length
  · rw [List.getElem?_append_left hl] at hj
    obtain ⟨a, b, c', d, e⟩ := h.2 j v hj
    have e1 : (cs ++ [c]).getD j [] = cs.getD j [] := by
      have := h.1
      simp only [List.getD_eq_getElem?_getD]
      rw [List.getElem?_append_left (by omega)]
    dsimp only
    rw [if_neg (by omega), e1]
    refine ⟨a, b, by omega, d, fun i hi' => ?_⟩
    rw [if_neg (by omega)]
    exact e i hi'
  · have hjl : j = us.length := by
      have := (List.getElem?_eq_some_iff.1 hj).1
      simp at this; omega
    subst hjl
    rw [List.getElem?_append_right (Nat.le_refl _), Nat.sub_self] at hj
    simp only [List.getElem?_cons_zero, Option.some.injEq] at hj
    subst hj
    have e1 : (cs ++ [c]).getD us.length [] = c := by
      rw [h.1]
      simp [List.getD]
    dsimp only
    rw [if_pos rfl, e1]
    refine ⟨h0, h2, Nat.le_refl _, ho, fun i hi' => ?_⟩
    rw [if_neg (by omega)]
    have hq : us[i]? = some us[i] := List.getElem?_eq_getElem hi'
    exact (h.2 i _ hq).2.2.1
/-- Clauses that may be written. -/
def OwnCs (lo hi : Nat) (w : World) (v : Value) (cs : List (List Lt)) : Prop :=
  ∃ us bs, w.ownsRow lo 32 1 v cs.length us ∧ InsC lo hi w us cs bs ∧ ∀ g, v.ownBlock = some g → g < hi ∧ ∀ j u, us[j]? = some u → g < (bs j).1 ∨ (bs j).2 ≤ g
theorem OwnCs.same {lo hi w w' v cs} (h : OwnCs lo hi w v cs) (hs : ∀ b, lo ≤ b → b < hi → b < w.heap.size → w'.heap[b]? = w.heap[b]?) : OwnCs lo hi w' v cs := by
  obtain ⟨us, bs, h1, h2, h3⟩ := h
  refine ⟨us, bs, ?_, h2.same hs, h3⟩
  have h1' := h1
  obtain ⟨q1, q0 | ⟨g, cap, cur, e1, e2, hh, r⟩⟩ := h1
  · exact ⟨q1, .inl q0⟩
  · have hb : v.ownBlock = some g := by rw [e1]; rfl
    exact ⟨q1, .inr ⟨g, cap, cur, e1, e2, by rw [hs g e2 (h3 g hb).1 (own_lt h1' hb).2]; exact hh, r⟩⟩
theorem OwnCs.below {lo hi w w' v cs} (h : OwnCs lo hi w v cs) (hb : Bel w w') : OwnCs lo hi w' v cs := h.same fun b _ _ h3 => hb.block b h3
theorem OwnCs.alloc {lo hi w v cs} (h : OwnCs lo hi w v cs) (o : Obj) : OwnCs lo hi (w.alloc o) v cs := h.below (Bel.alloc0 w o)
theorem OwnCs.k {lo hi w v cs} (h : OwnCs lo hi w v cs) : K (fun w => OwnCs lo hi w v cs) w := fun _ hb => h.below hb
theorem OwnCs.chg {lo hi lo' hi' w w' v cs} (h : OwnCs lo hi w v cs) (k : Chg lo' hi' w w') (hd : hi ≤ lo' ∨ hi' ≤ lo) : OwnCs lo hi w' v cs :=
  h.same fun b h1 h2 h3 => k.block b h3 (by omega)
theorem OwnCs.sl {lo hi w v cs} (h : OwnCs lo hi w v cs) : SlCs lo hi w v cs := by
  obtain ⟨us, bs, h1, h2, h3⟩ := h
  have h1' := h1
  obtain ⟨q1, q0 | ⟨g, cap, cur, e1, e2, hh, r1, r2, r3⟩⟩ := h1
  · obtain ⟨rfl, q3⟩ := q0
    exact ⟨none, 0, by rw [q3], by omega, ⟨Nat.zero_le _, fun _ => rfl⟩, fun hp => by omega⟩
  · subst e1
    refine ⟨some ⟨g, 0, none⟩, cap, rfl, r1, ⟨r2, fun h => by simp at h⟩, fun hp => ⟨g, 0, rfl, e2, (h3 g rfl).1, fun j hj => ?_⟩⟩
    have hju : j < us.length := by rw [h2.1]; exact hj
    refine ⟨us[j], ?_, ?_⟩
    · rw [Nat.zero_add, h1'.cellAt j (by omega), List.getElem?_eq_getElem hju]
    · obtain ⟨a, b, c, d, e⟩ := h2.2 j _ (List.getElem?_eq_getElem hju)
      exact d.sl.mono a c
theorem SlCs.alloc {lo hi w v cs} (h : SlCs lo hi w v cs) (o : Obj) : SlCs lo hi (w.alloc o) v cs := h.below (Bel.alloc0 w o)
theorem SlCs.k {lo hi w v cs} (h : SlCs lo hi w v cs) : K (fun w => SlCs lo hi w v cs) w := fun _ hb => h.below hb
def RetCs (w : World) (cs : List (List Lt)) (e : Ending) (w' : World) : Prop := ∃ ad n k, e = .returned (.slice ad n k) ∧ OwnCs w.heap.size w'.heap.size w' (.slice ad n k) cs ∧ Bel w w'

theorem litsInfo : (Try.prog.info? 32).map (fun i => (i.zero, i.size, i.bytes)) = some (some (.slice none 0 0), 1, 24) := by kernel_rfl
set_option maxRecDepth 100000 in
set_option maxHeartbeats 1000000 in
theorem toLitSS_c (l h : Nat) (v : Value) (cs : List (List Lt)) (w : World) (hx : totCs cs ≤ 1048576) (hv : SlCs l h w v cs) :
    Calls Try.prog 60 #[v] w (RetCs w cs) := by
  obtain ⟨ad, cap, rfl⟩ := hv.form
  obtain ⟨hxl, hmax⟩ := totCs_each hx
  obtain ⟨i0, hi, hz0, hz1, hz2⟩ := info_parts litsInfo
  go_enter Try.func60, Try.ntmps60
  go_wp2_with (at_make; refine wpList_make_full _ rfl _ _ 83 rfl w.heap.size 32 i0 (.slice none 0 0) 1 (by kernel_rfl) hi hz0 hz1 _ _ _ _ cs.length rfl rfl rfl rfl (by rw [hz2]; omega) (by unfold maxLen; omega) (Nat.le_refl _) ?_; intro w1 hown hg)
  have hz3 : (madeCells (Value.slice none 0 0).cells (cs.length * 1)).toList = [] ++ List.replicate (cs.length - 0) (Value.slice none 0 0) := by
    rw [Nat.mul_one]; show (madeCells #[_] _).toList = _; rw [toList_madeCells_one]; simp
  rw [hz3] at hown
  have hb0 : Bel w w1 := (Bel.rfl' w).grown hg (by simp)
  have hs1 : w.heap.size + 1 ≤ w1.heap.size := by
    rcases hown.2 with ⟨e, _⟩ | ⟨g, c, cur, e, _, hh, _⟩
    · simp at e
    · simp at e; have := (Array.getElem?_eq_some_iff.1 hh).1; omega
  clear hg hz3
  go_loopw [4] (fun i wr => ∃ (k : Nat) (us : List Value) (bs : Nat → Nat × Nat), k ≤ cs.length ∧ i = .int .i64 k ∧ wr.ownsRow w.heap.size 32 1 (.slice (some ⟨w.heap.size, 0, none⟩) cs.length cs.length) cs.length (us ++ List.replicate (cs.length - k) (Value.slice none 0 0)) ∧
    InsC (w.heap.size + 1) wr.heap.size wr us (cs.take k) bs ∧ w.heap.size + 1 ≤ wr.heap.size ∧ Bel w wr) (fun i _ => cs.length - (intOf i).toNat)
  case atStart => exact ⟨0, [], fun _ => (0, 0), Nat.zero_le _, rfl, hown, InsC.nil _ _ _ _, hs1, hb0⟩
  case round =>
    obtain ⟨k, us, bs, hk, rfl, ho, hin, hs, hb⟩ := hrel
    have hul : us.length = k := by have := hin.1; simp at this; omega
    by_cases hlt : k < cs.length
    · obtain ⟨b, off, u, rfl, hbs, hc, hu⟩ := hv.at hb k hlt
      have hm := hmax k hlt
      have hcall := toLitS_c l h u (cs.getD k []) wr hm hu
      obtain ⟨a1, d1, rfl⟩ := hu.form
      have HC := Lib.hid hcall
      have HI := Lib.hid hin
      have HO := Lib.hid ho
      have htk : Hid (cs.take (k+1) = cs.take k ++ [cs.getD k []]) := by
        show _ = _
        rw [List.take_succ_eq_append_getElem hlt]; simp [List.getD, hlt]
      generalize cs.getD k [] = c at *
      generalize c.length = m at *
      clear hv hcall hu hmax hown hin ho
      go_wp2_with (go_at_call 19; refine HC.out.mono ?_; rintro e w' ⟨ad2, n2, c2, rfl, ho2, hb2⟩; have ho3 := ownsRow_bel HO.out hb2; have hcell := ho3.cellAt k (by omega); have hf := ho3.frozenAt k; rw [List.getElem?_append_right (by omega), hul, Nat.sub_self, List.getElem?_replicate, if_pos (by omega)] at hcell)
      go_roundw
      case rel =>
        have hst := ho3.stored k (.slice ad2 n2 c2)
        rw [List.set_append_right _ _ (by omega), hul, Nat.sub_self, show cs.length - k = (cs.length - (k+1)) + 1 from by omega, List.replicate_succ, List.set_cons_zero] at hst
        have hsz := hb2.size
        have hin' := (HI.out.same (fun b _ _ h3 => hb2.block b h3)).snoc hs hsz ho2
        have hin2 := hin'.same (w' := w'.setCell ⟨w.heap.size, k, none⟩ (.slice ad2 n2 c2)) (fun b h1 h2 _ => Below.heap_setCell w' _ _ b (by simp; omega))
        rw [← htk.out] at hin2
        refine ⟨k+1, us ++ [.slice ad2 n2 c2], _, by omega, by go_num, by simpa using hst.1, by simpa using hin2, by simpa using (by omega : w.heap.size + 1 ≤ w'.heap.size), (hb.step hb2).setCell (p := ⟨w.heap.size, k, none⟩) (Nat.le_refl _) _⟩
      case measure => simp [intOf]; omega
    · rw [show cs.length - k = 0 from by omega, List.replicate_zero, List.append_nil] at ho
      rw [List.take_of_length_le (by omega)] at hin
      have HI := Lib.hid hin
      have HO := Lib.hid ho
      clear hin ho hv hmax hown
      go_wp2_with fail
      go_ret
      refine ⟨_, _, _, rfl, ⟨us, bs, HO.out, HI.out.mono (Nat.le_succ _) (Nat.le_refl _), fun g hg => ?_⟩, hb⟩
      simp [Value.ownBlock] at hg
      subst hg
      exact ⟨by omega, fun j u hj => .inl (by have := (HI.out.2 j u hj).1; omega)⟩
end Go.Proofs.Ytfhljkjcjnfjfaa
end
section
/- The laws' helpers over slices of clauses: comparison. -/
namespace Go.Proofs.Ytfhljkjcjnfjfaa
open Go.RowKit

set_option maxRecDepth 100000 in
set_option maxHeartbeats 400000 in
theorem eqLitSS_same (l h l' h' : Nat) (v u : Value) (cs : List (List Lt)) (w : World) (hx : totCs cs ≤ 1048576) (hv : SlCs l h w v cs) (hu : SlCs l' h' w u cs) :
    Calls Try.prog 62 #[v, u] w (RetV w (.bool true)) := by
  obtain ⟨ad, cap, rfl⟩ := hv.form
  obtain ⟨ad', cap', rfl⟩ := hu.form
  obtain ⟨hx, hmax⟩ := totCs_each hx
  have hl' : ((cs.length : Int) != cs.length) = false := by simp
  go_enter Try.func62, Try.ntmps62
  go_wp2_with fail
  go_loopw [5] (fun i wr => ∃ k : Nat, k ≤ cs.length ∧ i = .int .i64 k ∧ Bel w wr) (fun i _ => cs.length - (intOf i).toNat)
  case atStart => exact ⟨0, Nat.zero_le _, rfl, Bel.rfl' _⟩
  case round =>
    obtain ⟨k, hk, rfl, hb⟩ := hrel
    by_cases hlt : k < cs.length
    · obtain ⟨b, off, p, rfl, -, hc, hp⟩ := hv.at hb k hlt
      obtain ⟨b', off', q, rfl, -, hc', hq⟩ := hu.at hb k hlt
      have hm := hmax k hlt
      have hbp := World.block_lt_of_cell? wr ⟨b, off + k, none⟩ hc
      have hbq := World.block_lt_of_cell? wr ⟨b', off' + k, none⟩ hc'
      have HC := Lib.hid (fun w' (h1 : Bel wr w') => eqLitS_same _ _ _ _ p q (cs.getD k []) w' hm (hp.below h1) (hq.below h1))
      clear hv hu hmax
      obtain ⟨a1, d1, rfl⟩ := hp.form
      obtain ⟨a2, d2, rfl⟩ := hq.form
      generalize cs.getD k [] = c at *
      generalize c.length = m at *
      clear hp hq
      have hin1 : (k : Int) < cs.length := by omega
      go_wp2_with fail
      go_region_held3 (fun w' => Bel wr w' ∧ w'.cell? ⟨b, off + k, none⟩ = some (.slice a1 m d1) ∧ w'.cell? ⟨b', off' + k, none⟩ = some (.slice a2 m d2))
        (first | exact ⟨Bel.drew0 _, hc, hc'⟩ | exact ⟨hb2.of_drew, hb2.at hbp hc, hb2.at hbq hc'⟩)
        (first | (go_at_call 23; refine (HC.out _ (Bel.drew0 _)).mono ?_; rintro e w2 ⟨rfl, hb2⟩))
      go_wp2_with fail
      go_roundw
      case rel => exact ⟨k+1, by omega, by go_num, hb.step hb2.of_drew⟩
      case measure => simp [intOf]; omega
    · go_wp2_with fail
      go_ret
      exact ⟨rfl, hb⟩

end Go.Proofs.Ytfhljkjcjnfjfaa
end
section
/- A literal that came in, and a slice of literals, opened. -/
namespace Go.Proofs.Ytfhljkjcjnfjfaa
open Go.ChangeShapes Go.WideShapes Go.ChangeAt Go.RowKit
set_option linter.unusedVariables false
set_option maxRecDepth 100000

theorem op_litcells {H : Type} {enc : TypeId × Value → H} {W : World} {fuel : Nat} {cs : List Value} {x : DataW H × List MemPlace}
    (h : DataW.trod enc Try.prog W 0 (fun _ => true) true fuel 92 cs = some x) :
    ∃ (p : Bool) (u1 u2 : Value) (l r : List Int), cs = [.bool p, u1, u2] ∧ SlI 0 W.heap.size W u1 l ∧ l.length ≤ 9223372036854775807 ∧ SlI 0 W.heap.size W u2 r ∧ r.length ≤ 9223372036854775807 := by
  have hC : Try.prog.cellsOf 92 = 3 := by kernel_rfl
  obtain ⟨y0, y1, y2, n, _, hl, h0, h1, h2⟩ := Go.Deep.trod_struct3 Try.underlying92 h
  rw [hC] at hl
  match cs, hl with
  | [v0, v1, v2], _ =>
    have c0 : Try.prog.cellsOf 4 = 1 := by kernel_rfl
    have c1 : Try.prog.cellsOf 22 = 1 := by kernel_rfl
    simp only [c0, c1] at h0 h1 h2
    obtain ⟨p, e0, _⟩ := DataW.trod_bool Try.underlying4 (by simpa using h0)
    obtain ⟨l, hl, s1, _⟩ := op_slI (v := v1) (by simpa using h1)
    obtain ⟨r, hr, s2, _⟩ := op_slI (v := v2) (by simpa using h2)
    refine ⟨p, v1, v2, l, r, ?_, s1, hl, s2, hr⟩
    simp at e0
    rw [e0]

theorem op_lit {H : Type} {enc : TypeId × Value → H} {W : World} {v : Value} {d : DataW H} {p : List MemPlace} {base : Nat} (hv : Value.okWide Try.prog W .any base 92 v)
    (h : DataW.Trod enc Try.prog W 0 (fun _ => true) true 92 v d p) : ∃ (p : Bool) (u1 u2 : Value) (l r : List Int), v = .agg #[.bool p, u1, u2] ∧ SlI 0 W.heap.size W u1 l ∧ l.length ≤ 9223372036854775807 ∧ SlI 0 W.heap.size W u2 r ∧ r.length ≤ 9223372036854775807 := by
  obtain ⟨cs, rfl, hsz⟩ := okWide_struct Try.underlying92 hv
  obtain ⟨fuel, hf⟩ := h
  obtain ⟨p, u1, u2, l, r, e, s1, hl, s2, hr⟩ := op_litcells (x := (d, p)) (cs := cs.toList) (by simpa [Value.cells] using hf)
  exact ⟨p, u1, u2, l, r, by rw [← e], s1, hl, s2, hr⟩

theorem op_lits {H : Type} {enc : TypeId × Value → H} {W : World} {v : Value} {d : DataW H} {p : List MemPlace} {base : Nat} (hv : Value.okWide Try.prog W .any base 25 v)
    (h : DataW.Trod enc Try.prog W 0 (fun _ => true) true 25 v d p) : ∃ c : List Lt, SlC 0 W.heap.size W v c := by
  obtain ⟨a, n, k, rfl⟩ := okWide_slice Try.underlying25 hv
  have hC : Try.prog.cellsOf 92 = 3 := by kernel_rfl
  obtain ⟨fuel, hf⟩ := h
  rcases Go.Deep.open_slice Try.underlying25 (by simpa [Value.cells] using hf) with ⟨hcs, _⟩ | ⟨ad, len, cap, m, n', D, Pl, hcs, _, hl, hm, hmm, _, hx⟩
  · simp at hcs
    obtain ⟨rfl, rfl, rfl⟩ := hcs
    exact ⟨[], SlC.nil _ _ _⟩
  · simp at hcs
    obtain ⟨rfl, rfl, rfl⟩ := hcs
    simp at hmm
    subst hmm
    have each : ∀ i, i < n → ∃ q : Bool × Value × Value × List Int × List Int, W.cell? (ad.add (i * 3)) = some (.bool q.1) ∧ W.cell? (ad.add (i * 3 + 1)) = some q.2.1 ∧ W.cell? (ad.add (i * 3 + 2)) = some q.2.2.1 ∧ SlI 0 W.heap.size W q.2.1 q.2.2.2.1 ∧ SlI 0 W.heap.size W q.2.2.1 q.2.2.2.2 := fun i hi => by
      obtain ⟨cs', h1, h2⟩ := hx i (by omega)
      rw [hC] at h1
      obtain ⟨_, hlen, hcell⟩ := World.cells?_some h1
      obtain ⟨p, u1, u2, l, r, rfl, s1, _, s2, _⟩ := op_litcells h2
      have e0 := hcell 0 (by omega)
      have e1 := hcell 1 (by omega)
      have e2 := hcell 2 (by omega)
      rw [Go.Deep.add_add] at e0 e1 e2
      exact ⟨(p, u1, u2, l, r), by simpa using e0, by simpa using e1, by simpa using e2, s1, s2⟩
    obtain ⟨Z, hZ⟩ := Go.Deep.choose_lt each
    have hlen : ((List.range n).map fun i => ((Z i).1, (Z i).2.2.2.1, (Z i).2.2.2.2)).length = n := by simp
    refine ⟨(List.range n).map fun i => ((Z i).1, (Z i).2.2.2.1, (Z i).2.2.2.2), some ad, _, by rw [hlen], by rw [hlen]; exact hl, ⟨hm, fun h => by simp at h⟩, fun hp => ?_⟩
    rw [hlen] at hp
    obtain ⟨b, off, spot⟩ := ad
    have h0 := (hZ 0 (by omega)).1
    have hspot : spot = none := by simpa [Addr.add] using World.cell?_spot h0
    subst hspot
    refine ⟨b, off, rfl, Nat.zero_le _, World.block_lt_of_cell? W ⟨b, off + 0 * 3, none⟩ (by rw [← add_plain]; exact h0), fun j hj => ?_⟩
    rw [hlen] at hj
    obtain ⟨z0, z1, z2, z3, z4⟩ := hZ j hj
    refine ⟨(Z j).2.1, (Z j).2.2.1, ?_, ?_, ?_, ?_, ?_⟩
    · rw [← add_plain]; simpa [List.getD, hj] using z0
    · rw [Nat.add_assoc, ← add_plain]; exact z1
    · rw [Nat.add_assoc, ← add_plain]; exact z2
    · simpa [List.getD, hj] using z3
    · simpa [List.getD, hj] using z4
end Go.Proofs.Ytfhljkjcjnfjfaa
end
section
/- A slice of slices of literals that came in, opened. -/
namespace Go.Proofs.Ytfhljkjcjnfjfaa
open Go.ChangeShapes Go.WideShapes Go.ChangeAt Go.RowKit
set_option linter.unusedVariables false
set_option maxRecDepth 100000

theorem op_litsR {H : Type} {enc : TypeId × Value → H} {W : World} {v : Value} {fuel : Nat} {x : DataW H × List MemPlace}
    (hf : DataW.trod enc Try.prog W 0 (fun _ => true) true fuel 25 [v] = some x) : ∃ c : List Lt, SlC 0 W.heap.size W v c := by
  have hC : Try.prog.cellsOf 92 = 3 := by kernel_rfl
  rcases Go.Deep.open_slice Try.underlying25 hf with ⟨hcs, _⟩ | ⟨ad, n, cap, m, n', D, Pl, hcs, _, hl, hm, hmm, _, hx⟩
  · simp at hcs
    subst hcs
    exact ⟨[], SlC.nil _ _ _⟩
  · simp at hcs
    subst hcs
    simp at hmm
    subst hmm
    have each : ∀ i, i < n → ∃ q : Bool × Value × Value × List Int × List Int, W.cell? (ad.add (i * 3)) = some (.bool q.1) ∧ W.cell? (ad.add (i * 3 + 1)) = some q.2.1 ∧ W.cell? (ad.add (i * 3 + 2)) = some q.2.2.1 ∧ SlI 0 W.heap.size W q.2.1 q.2.2.2.1 ∧ SlI 0 W.heap.size W q.2.2.1 q.2.2.2.2 := fun i hi => by
      obtain ⟨cs', h1, h2⟩ := hx i (by omega)
      rw [hC] at h1
      obtain ⟨_, hlen, hcell⟩ := World.cells?_some h1
      obtain ⟨p, u1, u2, l, r, rfl, s1, _, s2, _⟩ := op_litcells h2
      have e0 := hcell 0 (by omega)
      have e1 := hcell 1 (by omega)
      have e2 := hcell 2 (by omega)
      rw [Go.Deep.add_add] at e0 e1 e2
      exact ⟨(p, u1, u2, l, r), by simpa using e0, by simpa using e1, by simpa using e2, s1, s2⟩
    obtain ⟨Z, hZ⟩ := Go.Deep.choose_lt each
    have hlen : ((List.range n).map fun i => ((Z i).1, (Z i).2.2.2.1, (Z i).2.2.2.2)).length = n := by simp
    refine ⟨(List.range n).map fun i => ((Z i).1, (Z i).2.2.2.1, (Z i).2.2.2.2), some ad, _, by rw [hlen], by rw [hlen]; exact hl, ⟨hm, fun h => by simp at h⟩, fun hp => ?_⟩
    rw [hlen] at hp
    obtain ⟨b, off, spot⟩ := ad
    have h0 := (hZ 0 (by omega)).1
    have hspot : spot = none := by simpa [Addr.add] using World.cell?_spot h0
    subst hspot
    refine ⟨b, off, rfl, Nat.zero_le _, World.block_lt_of_cell? W ⟨b, off + 0 * 3, none⟩ (by rw [← add_plain]; exact h0), fun j hj => ?_⟩
    rw [hlen] at hj
    obtain ⟨z0, z1, z2, z3, z4⟩ := hZ j hj
    refine ⟨(Z j).2.1, (Z j).2.2.1, ?_, ?_, ?_, ?_, ?_⟩
    · rw [← add_plain]; simpa [List.getD, hj] using z0
    · rw [Nat.add_assoc, ← add_plain]; exact z1
    · rw [Nat.add_assoc, ← add_plain]; exact z2
    · simpa [List.getD, hj] using z3
    · simpa [List.getD, hj] using z4

theorem SlCs.nil (lo hi : Nat) (w : World) : SlCs lo hi w (.slice none 0 0) [] := ⟨none, 0, rfl, Nat.le_refl _, ⟨Nat.zero_le _, fun _ => rfl⟩, fun h => absurd h (by simp)⟩
theorem op_litss {H : Type} {enc : TypeId × Value → H} {W : World} {v : Value} {d : DataW H} {p : List MemPlace} {base : Nat} (hv : Value.okWide Try.prog W .any base 80 v)
    (h : DataW.Trod enc Try.prog W 0 (fun _ => true) true 80 v d p) : ∃ cs : List (List Lt), SlCs 0 W.heap.size W v cs := by
  obtain ⟨a, n, c, rfl⟩ := okWide_slice Try.underlying80 hv
  obtain ⟨fuel, hf⟩ := h
  rcases Go.Deep.open_slice1 Try.underlying80 (by kernel_rfl) (by simpa [Value.cells] using hf) with ⟨hcs, _⟩ | ⟨ad, len, cap, m, n', V, D, Pl, hcs, _, hl, hm, hmm, _, hx⟩
  · simp at hcs
    obtain ⟨rfl, rfl, rfl⟩ := hcs
    exact ⟨[], SlCs.nil _ _ _⟩
  · simp at hcs
    obtain ⟨rfl, rfl, rfl⟩ := hcs
    simp at hmm
    subst hmm
    have each : ∀ i, i < n → ∃ c : List Lt, SlC 0 W.heap.size W (V i) c := fun i hi => op_litsR (hx i (by omega)).2
    obtain ⟨Z, hZ⟩ := Go.Deep.choose_lt each
    have hlen : ((List.range n).map Z).length = n := by simp
    refine ⟨(List.range n).map Z, some ad, _, by rw [hlen], by rw [hlen]; exact hl, ⟨hm, fun h => by simp at h⟩, fun hp => ?_⟩
    rw [hlen] at hp
    obtain ⟨b, off, spot⟩ := ad
    have h0 := (hx 0 (by omega)).1
    have hspot : spot = none := by simpa [Addr.add] using World.cell?_spot h0
    subst hspot
    refine ⟨b, off, rfl, Nat.zero_le _, World.block_lt_of_cell? W ⟨b, off + 0, none⟩ h0, fun j hj => ?_⟩
    rw [hlen] at hj
    refine ⟨V j, ?_, ?_⟩
    · rw [← add_plain]; exact (hx j (by omega)).1
    · have := hZ j hj
      simpa [List.getD, hj] using this
end Go.Proofs.Ytfhljkjcjnfjfaa
end
section
/- The laws' helpers over slices of literals: marks. -/
namespace Go.Proofs.Ytfhljkjcjnfjfaa
open Go.RowKit

def qlo (bs : Nat → Nat) (i : Nat) (xs : List Int) : Nat := if 0 < xs.length then bs i else 0
def qhi (bs : Nat → Nat) (i : Nat) (xs : List Int) : Nat := if 0 < xs.length then bs i + 1 else 0
theorem Ins.feed {lo hi b w us xss bs} (h : Ins lo hi b w us xss bs) (i : Nat) (u : Value) (hu : us[i]? = some u) : OwnI (qlo bs i (xss.getD i [])) (qhi bs i (xss.getD i [])) w u (xss.getD i []) := by
  have ho := h.own i u hu
  unfold qlo qhi
  split
  · exact ho
  · rename_i h0; rw [len0 h0] at ho ⊢; exact ho.empty
theorem Ins.fed {lo hi b w w' us xss bs} (h : Ins lo hi b w us xss bs) (hb : b < w.heap.size) (i : Nat) (hi' : i < xss.length) (u : Value) (hu : us[i]? = some u) (ys : List Int) (hl : ys.length = (xss.getD i []).length)
    (hch : Chg (qlo bs i (xss.getD i [])) (qhi bs i (xss.getD i [])) w w') (ho : OwnI (qlo bs i (xss.getD i [])) (qhi bs i (xss.getD i [])) w' u ys) :
    Ins lo hi b w' us (xss.set i ys) bs ∧ Chg lo hi w w' ∧ w'.heap[b]? = w.heap[b]? := by
  by_cases hp : 0 < (xss.getD i []).length
  · obtain ⟨a1, a2, a3⟩ := h.rng i hi' hp
    unfold qlo qhi at hch ho
    rw [if_pos hp, if_pos hp] at hch ho
    exact ⟨h.stored i hi' u hu ys hl (fun _ => hch) (fun h0 => absurd (by omega) h0) ho, hch.mono a1 (by omega), hch.block b hb (by omega)⟩
  · unfold qlo qhi at hch ho
    rw [if_neg hp, if_neg hp] at hch ho
    have hy : ys = [] := List.length_eq_zero_iff.1 (by omega)
    subst hy
    exact ⟨h.stored i hi' u hu [] hl (fun h0 => absurd h0 (by simp)) (fun _ => hch) ho.empty, ⟨hch.os, hch.tape, hch.output, hch.size, fun x hx _ => hch.block x hx (by omega)⟩, hch.block b hb (by omega)⟩
theorem CRow.left {lo hi b off : Nat} {w w' : World} {zs : List LV} {c : List Lt} {bs : Nat → Nat} (h : CRow lo hi b off w zs c bs) (hb : b < w.heap.size) (j : Nat) (z : LV) (hz : zs[j]? = some z) (ys : List Int) (hl : ys.length = (c.getD j lt0).2.1.length)
    (hch : Chg (qlo bs (2*j) (c.getD j lt0).2.1) (qhi bs (2*j) (c.getD j lt0).2.1) w w') (ho : OwnI (qlo bs (2*j) (c.getD j lt0).2.1) (qhi bs (2*j) (c.getD j lt0).2.1) w' z.2.1 ys) :
    CRow lo hi b off w' zs (c.set j ((c.getD j lt0).1, ys, (c.getD j lt0).2.2)) bs ∧ Chg lo hi w w' := by
  have hj : j < zs.length := (List.getElem?_eq_some_iff.1 hz).1
  have hjc : j < c.length := by rw [← h.len]; exact hj
  have hfl := flatC_len c
  obtain ⟨g1, g2⟩ := flatC_get c j
  rw [← g1] at hch ho hl
  obtain ⟨k1, k2, k3⟩ := h.ins.fed hb (2*j) (by omega) z.2.1 (rowsC_get zs j z hz).1 ys hl hch ho
  refine ⟨h.terms k3 (by simp) (fun i => ?_) ?_, k2⟩
  · by_cases e : j = i
    · subst e; simp [List.getD, hjc]
    · simp [List.getD, e]
  · have : flatC (c.set j ((c.getD j lt0).1, ys, (c.getD j lt0).2.2)) = (flatC c).set (2*j) ys := by
      rw [flatC_set c j _ hjc]
      show ((flatC c).set (2 * j) ys).set (2 * j + 1) (c.getD j lt0).2.2 = _
      rw [← g2]
      apply List.ext_getElem?
      intro i
      simp only [List.getElem?_set]
      by_cases e : 2 * j + 1 = i
      · subst e; simp [List.getD, show 2 * j + 1 < (flatC c).length by omega]
      · rw [if_neg e]
    rw [this]; exact k1
theorem CRow.right {lo hi b off : Nat} {w w' : World} {zs : List LV} {c : List Lt} {bs : Nat → Nat} (h : CRow lo hi b off w zs c bs) (hb : b < w.heap.size) (j : Nat) (z : LV) (hz : zs[j]? = some z) (ys : List Int) (hl : ys.length = (c.getD j lt0).2.2.length)
    (hch : Chg (qlo bs (2*j+1) (c.getD j lt0).2.2) (qhi bs (2*j+1) (c.getD j lt0).2.2) w w') (ho : OwnI (qlo bs (2*j+1) (c.getD j lt0).2.2) (qhi bs (2*j+1) (c.getD j lt0).2.2) w' z.2.2 ys) :
    CRow lo hi b off w' zs (c.set j ((c.getD j lt0).1, (c.getD j lt0).2.1, ys)) bs ∧ Chg lo hi w w' := by
  have hj : j < zs.length := (List.getElem?_eq_some_iff.1 hz).1
  have hjc : j < c.length := by rw [← h.len]; exact hj
  have hfl := flatC_len c
  obtain ⟨g1, g2⟩ := flatC_get c j
  rw [← g2] at hch ho hl
  obtain ⟨k1, k2, k3⟩ := h.ins.fed hb (2*j+1) (by omega) z.2.2 (rowsC_get zs j z hz).2 ys hl hch ho
  refine ⟨h.terms k3 (by simp) (fun i => ?_) ?_, k2⟩
  · by_cases e : j = i
    · subst e; simp [List.getD, hjc]
    · simp [List.getD, e]
  · have : flatC (c.set j ((c.getD j lt0).1, (c.getD j lt0).2.1, ys)) = (flatC c).set (2*j+1) ys := by
      rw [flatC_set c j _ hjc]
      show ((flatC c).set (2 * j) (c.getD j lt0).2.1).set (2 * j + 1) ys = _
      rw [← g1]
      apply List.ext_getElem?
      intro i
      simp only [List.getElem?_set, List.length_set]
      by_cases e : 2 * j + 1 = i
      · subst e; simp
      · rw [if_neg e, if_neg e]
        by_cases e2 : 2 * j = i
        · subst e2; simp [List.getD, show 2 * j < (flatC c).length by omega]
        · rw [if_neg e2]
    rw [this]; exact k1

theorem markIntS_z (lo hi : Nat) (v : Value) (xs : List Int) (z : Int) (k : Nat) (w : World) (hz : z = k) (hx : xs.length ≤ 1099511627776) (hk : k ≤ 1099511627776) (hv : OwnI lo hi w v xs) :
    Calls Try.prog 26 #[v, .int .i64 z] w (RetM lo hi w v xs k) := by subst hz; exact markIntS_c lo hi v xs k w hx hk hv
theorem heldIntS_z (l h : Nat) (v : Value) (n : Nat) (z : Int) (k : Nat) (w : World) (hz : z = k) (hx : n ≤ 1099511627776) (hk : k ≤ 1099511627776) (hv : SlI l h w v (marks k n)) :
    Calls Try.prog 27 #[v, .int .i64 z] w (RetV w (.int .i64 ((k + n : Nat) : Int))) := by subst hz; exact heldIntS_c l h v n k w hx hk hv
theorem set_twice {α : Type} (l : List α) (j : Nat) (a b : α) : (l.set j a).set j b = l.set j b := by simp

def RetMC (lo hi : Nat) (w : World) (v : Value) (c : List Lt) (k : Nat) (e : Ending) (w' : World) : Prop := e = .returned (.int .i64 ((k + sumC c : Nat) : Int)) ∧ Chg lo hi w w' ∧ OwnC lo hi w' v (marksC k c)
theorem OwnC.crow {lo hi : Nat} {w : World} {ad : Option Addr} {n k : Nat} {c : List Lt} (h : OwnC lo hi w (.slice ad n k) c) (hp : 0 < c.length) : ∃ b off zs bs, ad = some ⟨b, off, none⟩ ∧ n = c.length ∧ c.length ≤ k ∧ k ≤ maxLen ∧ CRow lo hi b off w zs c bs := by
  obtain ⟨ad', cap, e, hc, hm, hr⟩ := h
  simp only [Value.slice.injEq] at e
  obtain ⟨rfl, rfl, rfl⟩ := e
  obtain ⟨b, off, zs, bs, e, a1, a2, hl, a3, hf, hi⟩ := hr hp
  exact ⟨b, off, zs, bs, e, rfl, hc, hm.1, a1, a2, hl, a3, hf, hi⟩
theorem CRow.own {lo hi b off k : Nat} {w : World} {zs : List LV} {c : List Lt} {bs : Nat → Nat} (h : CRow lo hi b off w zs c bs) (hc : c.length ≤ k) (hm : k ≤ maxLen) : OwnC lo hi w (.slice (some ⟨b, off, none⟩) c.length k) c :=
  ⟨_, k, rfl, hc, ⟨hm, fun h => by simp at h⟩, fun _ => ⟨b, off, zs, bs, rfl, h.hlo, h.hhi, h.len, h.cell, h.free, h.ins⟩⟩

set_option maxRecDepth 100000 in
set_option maxHeartbeats 400000 in
theorem markLitS_c (lo hi : Nat) (v : Value) (c : List Lt) (k : Nat) (w : World) (hx : sumC c ≤ 1048576) (hk : k ≤ 1073741824) (hv : OwnC lo hi w v c) :
    Calls Try.prog 25 #[v, .int .i64 k] w (RetMC lo hi w v c k) := by
  obtain ⟨ad, cap, rfl⟩ := hv.sl.form
  go_enter Try.func25, Try.ntmps25
  go_wp2_with fail
  go_loopw [1, 5] (fun m i wr => ∃ j : Nat, j ≤ c.length ∧ i = .int .i64 j ∧ m = .int .i64 ((k + sumC (c.take j) : Nat) : Int) ∧ OwnC lo hi wr (.slice ad c.length cap) (markedC c k j) ∧ Chg lo hi w wr) (fun _ i _ => c.length - (intOf i).toNat)
  case atStart => exact ⟨0, Nat.zero_le _, rfl, by simp [sumC], by rw [markedC_zero]; exact hv, Chg.refl _ _ _⟩
  case round =>
    obtain ⟨j, hj, rfl, rfl, ho, hb⟩ := hrel
    by_cases hlt : j < c.length
    · have hl := markedC_len c k j hj
      have hst := sumC_take c j hlt
      have hsl := sumC_get c j hlt
      have hcl := sumC_len c
      obtain ⟨b, off, zs, bs, rfl, -, hcap, hml, hR⟩ := ho.crow (by omega)
      have hzl := hR.len
      have hz : zs[j]? = some zs[j] := List.getElem?_eq_getElem (by omega)
      obtain ⟨-, c1, c2, c3⟩ := hR.cell j _ hz
      have f1 := hR.free (off + j * 3)
      have hB := World.block_lt_of_cell? wr ⟨b, _, none⟩ c1
      have hget := markedC_get c k j hlt
      have hsucc := markedC_succ c k j hlt
      have hin1 : (j : Int) < c.length := by omega
      have hwd : wC (c.getD j lt0) = 1 + (c.getD j lt0).2.1.length + (c.getD j lt0).2.2.length := rfl
      generalize zs[j] = z at *
      obtain ⟨p0, u1, u2⟩ := z
      simp only at c1 c2 c3
      have hkj : k + sumC (c.take j) ≤ 1073741824 + 1048576 := by have := sumC_le c j; omega
      generalize hz0 : k + sumC (c.take j) = z0 at *
      have hrem : Int.tmod (z0 : Int) 3 = ((z0 % 3 : Nat) : Int) := by rw [Int.tmod_eq_emod_of_nonneg (by omega)]; omega
      -- the sign
      have hdec : (((z0 : Nat) : Int) % 3 == 0) = decide (z0 % 3 = 0) := by rw [Bool.eq_iff_iff]; simp; omega
      have hR1 := hR.sign j _ hz (((z0 : Nat) : Int) % 3 == 0)
      rw [hget] at hR1
      generalize hx : c.getD j lt0 = x at *
      obtain ⟨p, xl, xr⟩ := x
      simp only at *
      have hW1 := Chg.set (lo := lo) (hi := hi) wr (p := ⟨b, off + j * 3, none⟩) hR.hlo hR.hhi (.bool (((z0 : Nat) : Int) % 3 == 0))
      have hs1 : (wr.setCell ⟨b, off + j * 3, none⟩ (.bool (((z0 : Nat) : Int) % 3 == 0))).heap.size = wr.heap.size := by simp
      have e1 := World.cell?_setCell_other (h := show (⟨b, off + j * 3, none⟩ : Addr) ≠ ⟨b, off + j * 3 + 1, none⟩ by intro h; simp at h) (w := wr) (v := .bool (((z0 : Nat) : Int) % 3 == 0))
      rw [c2] at e1
      generalize hz1 : zs.set j (((z0 : Nat) : Int) % 3 == 0, u1, u2) = zs1 at hR1
      have hg1 : zs1[j]? = some (((z0 : Nat) : Int) % 3 == 0, u1, u2) := by rw [← hz1, List.getElem?_set]; simp; omega
      have hd1 : ((markedC c k j).set j (((z0 : Nat) : Int) % 3 == 0, xl, xr)).getD j lt0 = (((z0 : Nat) : Int) % 3 == 0, xl, xr) := by simp [List.getD, hl, hlt]
      have hfeed := hR1.ins.feed (2*j) u1 (rowsC_get zs1 j _ hg1).1
      rw [(flatC_get _ j).1, hd1] at hfeed
      have HC := Lib.hid (markIntS_z _ _ u1 xl ((z0 : Int) + 1) (z0 + 1) _ (by omega) (by omega) (by omega) hfeed)
      have HK := Lib.hid (And.intro hR1 (And.intro hg1 (And.intro hd1 (And.intro hsucc (And.intro hst (And.intro hl (And.intro hwd (And.intro hW1 hs1))))))))
      have HB2 := Lib.hid hb
      have HDEC := Lib.hid hdec
      clear hdec
      clear ho hv hR hR1 hz hget hsucc hst hl hwd hb hz1 hg1 hd1 hfeed hW1 hs1
      go_wp2_with fail
      refine HC.out.mono ?_; rintro e w1 ⟨rfl, hch, hom⟩
      obtain ⟨hR1, hg1, hd1, hsucc, hst, hl, hwd, hW1, hs1⟩ := HK.out
      have hB1 : b < (wr.setCell ⟨b, off + j * 3, none⟩ (.bool (((z0 : Nat) : Int) % 3 == 0))).heap.size := by rw [hs1]; exact hB
      have hst1 := hR1.left (w' := w1) hB1 j _ hg1 (marks (z0 + 1) xl.length) (by rw [hd1, marks_len]) (by rw [hd1]; exact hch) (by rw [hd1]; exact hom)
      rw [hd1, set_twice] at hst1
      obtain ⟨hR2, hW2⟩ := hst1
      obtain ⟨-, d1, d2, d3⟩ := hR2.cell j _ hg1
      simp only at d1 d2 d3
      have hB2 : b < w1.heap.size := Nat.lt_of_lt_of_le hB1 hW2.size
      have hd2 : ((markedC c k j).set j (((z0 : Nat) : Int) % 3 == 0, marks (z0 + 1) xl.length, xr)).getD j lt0 = (((z0 : Nat) : Int) % 3 == 0, marks (z0 + 1) xl.length, xr) := by simp [List.getD, hl, hlt]
      have hfeed := hR2.ins.feed (2*j+1) u2 (rowsC_get zs1 j _ hg1).2
      rw [(flatC_get _ j).2, hd2] at hfeed
      have HD := Lib.hid (markIntS_z _ _ u2 xr (((z0 + 1 + xl.length : Nat) : Int)) (z0 + 1 + xl.length) _ rfl (by omega) (by omega) hfeed)
      have HK2 := Lib.hid (And.intro hR2 (And.intro hg1 (And.intro hd2 (And.intro hsucc (And.intro hst (And.intro hl (And.intro hwd ((hW1.trans hW2)))))))))
      clear HK HC hR1 hR2 hg1 hd1 hd2 hsucc hst hl hwd hW1 hW2 hfeed hom hch hs1 hB1
      go_wp2_with fail
      refine HD.out.mono ?_; rintro e w2 ⟨rfl, hch, hom⟩
      obtain ⟨hR2, hg1, hd2, hsucc, hst, hl, hwd, hW⟩ := HK2.out
      have hst2 := hR2.right (w' := w2) hB2 j _ hg1 (marks (z0 + 1 + xl.length) xr.length) (by rw [hd2, marks_len]) (by rw [hd2]; exact hch) (by rw [hd2]; exact hom)
      rw [hd2, set_twice] at hst2
      obtain ⟨hR3, hW3⟩ := hst2
      rw [HDEC.out, show (decide (z0 % 3 = 0), marks (z0 + 1) xl.length, marks (z0 + 1 + xl.length) xr.length) = mark1 z0 (p, xl, xr) from rfl, hsucc] at hR3
      have hl3 := markedC_len c k (j+1) (by omega)
      have hown := hR3.own (k := cap) (by rw [hl3]; omega) hml
      rw [hl3] at hown
      have HO := Lib.hid (And.intro hown (And.intro (HB2.out.trans (hW.trans hW3)) (And.intro hst hwd)))
      clear hR2 hR3 hg1 hd2 hsucc hst hl hwd hW hW3 hch hom hown HK2 HD HB2
      go_wp2_with fail
      go_roundw
      case rel =>
        obtain ⟨h1, h2, h3, h4⟩ := HO.out
        exact ⟨j+1, by omega, by go_num, by rw [h3, h4, ← Nat.add_assoc, hz0]; exact congrArg (Value.int .i64) (by omega), h1, h2⟩
      case measure => simp [intOf]; omega
    · rw [markedC_all c k j hlt] at ho
      rw [sumC_all c j hlt]
      go_wp2_with fail
      go_ret
      exact ⟨rfl, hb, ho⟩

set_option maxRecDepth 100000 in
set_option maxHeartbeats 400000 in
theorem heldLitS_c (l h : Nat) (v : Value) (c : List Lt) (k : Nat) (w : World) (hx : sumC c ≤ 1048576) (hk : k ≤ 1073741824) (hv : SlC l h w v (marksC k c)) :
    Calls Try.prog 46 #[v, .int .i64 k] w (RetV w (.int .i64 ((k + sumC c : Nat) : Int))) := by
  obtain ⟨ad, cap, rfl⟩ := hv.form
  have hml := marksC_len k c
  rw [hml]
  go_enter Try.func46, Try.ntmps46
  go_wp2_with fail
  go_loopw [1, 5] (fun m i wr => ∃ j : Nat, j ≤ c.length ∧ i = .int .i64 j ∧ m = .int .i64 ((k + sumC (c.take j) : Nat) : Int) ∧ Bel w wr) (fun _ i _ => c.length - (intOf i).toNat)
  case atStart => exact ⟨0, Nat.zero_le _, rfl, by simp [sumC], Bel.rfl' _⟩
  case round =>
    obtain ⟨j, hj, rfl, rfl, hb⟩ := hrel
    by_cases hlt : j < c.length
    · have hst := sumC_take c j hlt
      have hsl := sumC_get c j hlt
      have hcl := sumC_len c
      obtain ⟨b, off, u1, u2, rfl, -, c1, c2, c3, s1, s2⟩ := hv.at hb j (by rw [hml]; exact hlt)
      rw [marksC_get k c j hlt] at c1 s1 s2
      have hin1 : (j : Int) < c.length := by omega
      have hwd : wC (c.getD j lt0) = 1 + (c.getD j lt0).2.1.length + (c.getD j lt0).2.2.length := rfl
      have hkj : k + sumC (c.take j) ≤ 1073741824 + 1048576 := by have := sumC_le c j; omega
      generalize hz0 : k + sumC (c.take j) = z0 at *
      unfold mark1 at c1 s1 s2
      generalize c.getD j lt0 = x at *
      obtain ⟨p, xl, xr⟩ := x
      simp only at c1 c2 c3 s1 s2 hwd
      have hdec : (((z0 : Nat) : Int) % 3 == 0) = decide (z0 % 3 = 0) := by rw [Bool.eq_iff_iff]; simp; omega
      have hrem : Int.tmod (z0 : Int) 3 = ((z0 % 3 : Nat) : Int) := by rw [Int.tmod_eq_emod_of_nonneg (by omega)]; omega
      rw [← hdec] at c1
      have hne : ((((z0 : Nat) : Int) % 3 == 0) != (((z0 : Nat) : Int) % 3 == 0)) = false := by simp
      have HC := Lib.hid (fun (w' : World) (hq : Bel wr w') => heldIntS_z _ _ u1 xl.length ((z0 : Int) + 1) (z0 + 1) w' (by omega) (by omega) (by omega) (s1.below hq))
      have HD := Lib.hid (fun (w' : World) (hq : Bel wr w') => heldIntS_z _ _ u2 xr.length ((z0 + 1 + xl.length : Nat) : Int) (z0 + 1 + xl.length) w' rfl (by omega) (by omega) (s2.below hq))
      have HS := Lib.hid (And.intro hst hwd)
      have B1 := World.block_lt_of_cell? wr ⟨b, _, none⟩ c1
      have hn1 : decide (((z0 + 1 + xl.length : Nat) : Int) < 0) = false := by simp; omega
      have hn2 : decide (((z0 + 1 + xl.length + xr.length : Nat) : Int) < 0) = false := by simp; omega
      clear hv s1 s2 hst hwd hdec
      go_wp2_with fail
      refine (HC.out _ (Bel.rfl' _)).mono ?_; rintro e w1 ⟨rfl, hb1⟩
      have d3 := hb1.at (World.block_lt_of_cell? wr ⟨b, _, none⟩ c3) c3
      go_wp2_with fail
      refine (HD.out _ hb1).mono ?_; rintro e w2 ⟨rfl, hb2⟩
      go_wp2_with fail
      go_roundw
      case rel =>
        obtain ⟨h3, h4⟩ := HS.out
        exact ⟨j+1, by omega, by go_num, by rw [h3, h4, ← Nat.add_assoc, hz0]; exact congrArg (Value.int .i64) (by omega), (hb.step hb1).step hb2⟩
      case measure => simp [intOf]; omega
    · rw [sumC_all c j hlt]
      go_wp2_with fail
      go_ret
      exact ⟨rfl, hb⟩
end Go.Proofs.Ytfhljkjcjnfjfaa
end
