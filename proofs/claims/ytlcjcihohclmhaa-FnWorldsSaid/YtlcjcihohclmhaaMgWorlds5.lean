/- Texts merged, part 5. -/
import Derived.Shelf.SlicesE.Delete
import Derived.Lib.OwnBridge
import Derived.Test.YtlcjcihohclmhaaMgWorlds4
section
/- The laws' helpers over literals and slices of literals, by contracts: sizes and copies. -/
namespace Go.Proofs.Ytlcjcihohclmhaa
open Go.RowKit

def szC (c : List Lt) (left : Int) : Int := if left - (sumC c : Nat) < 0 then -1 else left - (sumC c : Nat)
def lenC (c : List Lt) : Nat := sumL (flatC c)
theorem sumC_eq (c : List Lt) : sumC c = c.length + lenC c := by
  unfold lenC
  induction c with
  | nil => rfl
  | cons x r ih => rw [flatC_cons]; simp only [sumC, sumL, List.map_cons, List.sum_cons, List.length_cons, wC] at *; omega
theorem lenC_take (c : List Lt) (k : Nat) (h : k < c.length) : lenC (c.take (k+1)) = lenC (c.take k) + ((c.getD k lt0).2.1.length + (c.getD k lt0).2.2.length) := by
  have h1 := sumC_take c k h
  rw [sumC_eq, sumC_eq] at h1
  have e1 : (c.take (k+1)).length = k + 1 := by rw [List.length_take]; omega
  have e2 : (c.take k).length = k := by rw [List.length_take]; omega
  unfold wC at h1
  omega
theorem lenC_all (c : List Lt) (k : Nat) (h : ¬ k < c.length) : lenC (c.take k) = lenC c := by rw [List.take_of_length_le (by omega)]
theorem lenC_get (c : List Lt) (k : Nat) (h : k < c.length) : lenC (c.take k) + ((c.getD k lt0).2.1.length + (c.getD k lt0).2.2.length) ≤ lenC c := by
  rw [← lenC_take c k h]
  conv => rhs; rw [← List.take_append_drop (k+1) c]
  unfold lenC
  rw [flatC_app]; unfold sumL; rw [List.map_append, List.sum_append]; omega
theorem SlC.max {lo hi w v c} (h : SlC lo hi w v c) : c.length ≤ 9223372036854775807 ∧ ∀ j, j < c.length → (c.getD j lt0).2.1.length ≤ 9223372036854775807 ∧ (c.getD j lt0).2.2.length ≤ 9223372036854775807 := by
  obtain ⟨ad, cap, e, hc, hm, hr⟩ := h
  have hml : maxLen = 9223372036854775807 := rfl
  refine ⟨by omega, fun j hj => ?_⟩
  obtain ⟨b, off, _, _, _, hx⟩ := hr (by omega)
  obtain ⟨u1, u2, _, _, _, ⟨ad2, cap2, _, hc2, hm2, _⟩, ⟨ad3, cap3, _, hc3, hm3, _⟩⟩ := hx j hj
  omega

end Go.Proofs.Ytlcjcihohclmhaa
end
section
/- Lists of terms that are valid: both functions; the reference's also at signs that are not. -/
namespace Go.Proofs.Ytlcjcihohclmhaa
open Go.RowKit

def goodTerms (ar : List Int) (b : List (List Int)) (m : Nat) : Bool := goodSign ar && decide (b.length ≤ m) && b.all (okTerm ar)
theorem goodTerms_iff {ar : List Int} {b : List (List Int)} {m : Nat} : goodTerms ar b m = true ↔ goodSign ar = true ∧ b.length ≤ m ∧ ∀ t ∈ b, okTerm ar t = true := by
  simp only [goodTerms, Bool.and_eq_true, decide_eq_true_eq, List.all_eq_true]
  constructor
  · rintro ⟨⟨h1, h2⟩, h3⟩; exact ⟨h1, h2, h3⟩
  · rintro ⟨h1, h2, h3⟩; exact ⟨⟨h1, h2⟩, h3⟩

set_option maxRecDepth 100000 in
set_option maxHeartbeats 400000 in
theorem goodTerms_c (l h l' h' : Nat) (v u : Value) (ar : List Int) (b : List (List Int)) (m : Nat) (w : World) (hmm : m ≤ 1000) (ha : ar.length ≤ 1048576) (hv : SlI l h w v ar) (hb : short b) (hu : SlS l' h' w u b) :
    Calls Try.prog 64 #[.agg #[v], u, .int .i64 m] w (RetV w (.bool (goodTerms ar b m))) := by
  obtain ⟨ad', cap', rfl⟩ := hu.form
  obtain ⟨-, hm⟩ := hb
  by_cases hl : b.length ≤ m
  · have hl2 : decide (m < b.length) = false := by simp; omega
    cases hs : goodSign ar with
    | false =>
      have E : Hid (goodTerms ar b m = false) := by show _ = _; simp [goodTerms, hs]
      have HS := Lib.hid hs; clear hs
      go_enter Try.func64, Try.ntmps64
      go_wp2_with fail
      refine (iGoodSign_v _ _ _ _ _ _ HS.out ha (hv.alloc _)).mono ?_; rintro e w' ⟨rfl, hb1⟩
      go_wp2_with fail
      go_ret
      exact ⟨by rw [E.out]; rfl, hb1.of_alloc⟩
    | true =>
      have hG : Hid (goodTerms ar b m = b.all (okTerm ar)) := by show _ = _; simp [goodTerms, hs, hl]
      have hg := hs
      have HS := Lib.hid hs; clear hs
      go_enter Try.func64, Try.ntmps64
      go_wp2_with fail
      refine (iGoodSign_v _ _ _ _ _ _ HS.out ha (hv.alloc _)).mono ?_; rintro e w1 ⟨rfl, hb1⟩
      have hbox := boxc hb1 0 _ rfl
      go_wp2_with fail
      go_loopw [20] (fun i wr => ∃ k : Nat, k ≤ b.length ∧ i = .int .i64 k ∧ (b.take k).all (okTerm ar) = true ∧ Bel (w.alloc (.cells #[v] 26)) wr) (fun i _ => b.length - (intOf i).toNat)
      case atStart => exact ⟨0, Nat.zero_le _, rfl, rfl, hb1⟩
      case round =>
        obtain ⟨k, hk, rfl, hall, hb2⟩ := hrel
        have hbox2 := boxc hb2 0 _ rfl
        by_cases hlt : k < b.length
        · obtain ⟨bb, off, p, rfl, -, hc, hp⟩ := hu.at hb2.of_alloc k hlt
          have hmk := hm k hlt
          have hsp := all_splitS b (okTerm ar) k hlt hall
          have hfs := all_falseS b (okTerm ar) k hlt
          clear hm hu hbox hall
          generalize b.getD k [] = t at *
          obtain ⟨ap, cp, rfl⟩ := hp.form
          cases ht : okTerm ar t with
          | false =>
            have E : Hid (goodTerms ar b m = false) := by show _ = _; rw [hG.out]; exact hfs ht
            have HT := Lib.hid ht
            clear ht hsp hfs
            go_wp2_with fail
            refine (iGoodTerm_vv _ _ _ _ _ _ _ _ _ _ HT.out hg ha (by omega) (hv.below hb2.of_alloc) hp).mono ?_; rintro e w2 ⟨rfl, hb3⟩
            go_wp2_with fail
            go_ret
            exact ⟨by rw [E.out]; rfl, hb2.of_alloc.step hb3⟩
          | true =>
            have HA := Lib.hid (hsp.trans ht)
            have HT := Lib.hid ht
            clear ht hsp hfs
            go_wp2_with fail
            refine (iGoodTerm_vv _ _ _ _ _ _ _ _ _ _ HT.out hg ha (by omega) (hv.below hb2.of_alloc) hp).mono ?_; rintro e w2 ⟨rfl, hb3⟩
            go_wp2_with fail
            go_roundw
            case rel => exact ⟨k+1, by omega, by go_num, HA.out, hb2.step hb3⟩
            case measure => simp [intOf]; omega
        · have E : Hid (goodTerms ar b m = true) := by show _ = _; rw [hG.out]; exact all_doneS b _ k hk hlt hall
          clear hall
          go_wp2_with fail
          go_ret
          exact ⟨by rw [E.out]; rfl, hb2.of_alloc⟩
  · have E : Hid (goodTerms ar b m = false) := by show _ = _; simp [goodTerms, hl]
    have hl2 : decide (m < b.length) = true := by simp; omega
    go_enter Try.func64, Try.ntmps64
    go_wp2_with fail
    go_ret
    exact ⟨by rw [E.out]; rfl, Bel.alloc0 _ _⟩
theorem goodTerms_v (l h l' h' : Nat) (v u : Value) (ar : List Int) (b : List (List Int)) (m : Nat) (q : Bool) (w : World) (he : goodTerms ar b m = q) (hmm : m ≤ 1000) (ha : ar.length ≤ 1048576) (hv : SlI l h w v ar) (hb : short b) (hu : SlS l' h' w u b) :
    Calls Try.prog 64 #[.agg #[v], u, .int .i64 m] w (RetV w (.bool q)) := he ▸ goodTerms_c l h l' h' v u ar b m w hmm ha hv hb hu

/-- Whatever the sign: an answer comes. -/
def RetN (w : World) (e : Ending) (w' : World) : Prop := ∃ x : Int, e = .returned (.int .i64 x) ∧ Bel w w'
def RetB (w : World) (e : Ending) (w' : World) : Prop := ∃ b, e = .returned (.bool b) ∧ Bel w w'
theorem l1End_any (l h l' h' : Nat) (v u : Value) (ar t : List Int) (w : World) (ha : ar.length ≤ 1048576) (ht : t.length ≤ 1048576) (hv : SlI l h w v ar) (hu : SlI l' h' w u t) :
    Calls Try.prog 87 #[.agg #[v], u, .int .i64 0] w (RetN w) := by
  obtain ⟨ad, cap, rfl, -, -, hr⟩ := hv
  obtain ⟨ad', cap', rfl, -, -, hr'⟩ := hu
  go_enter Try.func87, Try.ntmps87
  go_wp2_with fail
  go_loopw [2, 7] (fun a n wr => ∃ (p : Nat) (m : Int), p ≤ t.length ∧ a = .int .i64 p ∧ n = .int .i64 m ∧ Bel (w.alloc (.cells #[.slice ad ar.length cap] 26)) wr) (fun a _ _ => t.length + 1 - (intOf a).toNat)
  case atStart => exact ⟨0, 1, Nat.zero_le _, rfl, rfl, Bel.rfl' _⟩
  case round =>
    obtain ⟨p, m, hp, rfl, rfl, hb⟩ := hrel
    have hbox := boxc hb 0 _ rfl
    by_cases hm : 0 < m
    · have hm1 : decide (m > 0) = true := by simpa using hm
      by_cases hlt : p < t.length
      · obtain ⟨b', off', rfl, -, hcell'⟩ := rd hr' hb.of_alloc p hlt
        clear hr'
        generalize t.getD p 0 = x at *
        have hw1 := IntWalk.i64_in ((ar.length : Int) - 1) (by omega)
        cases hs : inB x (-12) ((ar.length : Int) - 1) with
        | false =>
          have HS := Lib.hid hs; clear hs
          go_wp2_with fail
          go_quiet ((go_at_call 49; exact Calls.quiet_of_same (l1In_qv _ _ _ _ HS.out _)))
          go_wp2
          go_ret
          exact ⟨_, rfl, hb.of_alloc.drewN _⟩
        | true =>
          have HS := Lib.hid hs
          by_cases hx : x < 0
          · clear hs
            have hx' : decide (x ≥ 0) = false := by simp; omega
            go_wp2_with fail
            go_quiet ((go_at_call 49; exact Calls.quiet_of_same (l1In_qv _ _ _ _ HS.out _)))
            go_wp2
            go_roundw
            case rel => exact ⟨p+1, _, by omega, by go_num, rfl, hb.drewN _⟩
            case measure => simp [intOf]; omega
          · obtain ⟨k, rfl⟩ : ∃ k : Nat, x = k := ⟨x.toNat, by omega⟩
            have hk : k < ar.length := by simp [inB] at hs; omega
            clear hs
            obtain ⟨b, off, rfl, -, hcell⟩ := rd hr hb.of_alloc k hk
            clear hr
            generalize ar.getD k 0 = q at *
            have hk2 : (k : Int) < ar.length := by omega
            go_wp2_with fail
            go_quiet ((go_at_call 49; exact Calls.quiet_of_same (l1In_qv _ _ _ _ HS.out _)))
            go_wp2
            go_quiet (fail)
            go_wp2
            go_roundw
            case rel => exact ⟨p+1, _, by omega, by go_num, rfl, hb.drewN _⟩
            case measure => simp [intOf]; omega
      · have hge : decide ((p : Int) ≥ t.length) = true := by simp; omega
        go_wp2_with fail
        go_quiet (fail)
        go_wp2
        go_ret
        exact ⟨_, rfl, hb.of_alloc.drewN _⟩
    · have hm1 : decide (m > 0) = false := by simpa using hm
      go_wp2_with fail
      go_ret
      exact ⟨_, rfl, hb.of_alloc⟩
theorem l1Term_any (l h l' h' : Nat) (v u : Value) (ar t : List Int) (w : World) (ha : ar.length ≤ 1048576) (ht : t.length ≤ 1048576) (hv : SlI l h w v ar) (hu : SlI l' h' w u t) :
    Calls Try.prog 79 #[.agg #[v], u] w (RetB w) := by
  have hu0 := hu
  obtain ⟨ad', cap', rfl⟩ := hu.form
  cases hs : inB t.length 1 40 with
  | false =>
    have HS := Lib.hid hs; clear hs
    go_enter Try.func79, Try.ntmps79
    go_wp2_with (go_at_call 49; refine (l1In_f _ _ _ _ HS.out).mono ?_; rintro e w' ⟨rfl, hb1⟩)
    go_ret
    exact ⟨_, rfl, hb1.of_alloc⟩
  | true =>
    have HS := Lib.hid hs; clear hs
    go_enter Try.func79, Try.ntmps79
    go_wp2_with fail
    refine (l1In_t _ _ _ _ HS.out).mono ?_; rintro e w' ⟨rfl, hb1⟩
    have hx1 := boxc hb1 0 _ rfl
    go_wp2_with fail
    refine (l1End_any _ _ _ _ _ _ ar t _ ha ht (hv.below hb1.of_alloc) (hu0.below hb1.of_alloc)).mono ?_; rintro e w2 ⟨x, rfl, hb2⟩
    go_wp2_with fail
    go_ret
    exact ⟨_, rfl, hb1.of_alloc.step hb2⟩

end Go.Proofs.Ytlcjcihohclmhaa
end
section
/- Apply, IsUnifier: both functions. -/
namespace Go.Proofs.Ytlcjcihohclmhaa
open Go.RowKit

def unifAns (ar : List Int) (b : List (List Int)) (t r : List Int) : Bool := applyOk ar b t && applyOk ar b r && decide (applyAns ar b t = applyAns ar b r)

end Go.Proofs.Ytlcjcihohclmhaa
end
section
/- RenameOf: both functions. -/
namespace Go.Proofs.Ytlcjcihohclmhaa
open Go.RowKit

def renameOk (ar : List Int) (b : List (List Int)) : Bool := goodSign ar && decide (b.length ≤ 20) && b.all (okTerm ar)
def renameAns (ar : List Int) (b : List (List Int)) : List (List Int) := if renameOk ar b then renS [] b else []
theorem renameAns_no {ar : List Int} {b : List (List Int)} (h : renameOk ar b = false) : renameAns ar b = [] := by simp [renameAns, h]
theorem renameAns_yes {ar : List Int} {b : List (List Int)} (h : renameOk ar b = true) : renameAns ar b = renS [] b := by simp [renameAns, h]
theorem renameOk_iff {ar : List Int} {b : List (List Int)} : renameOk ar b = true ↔ goodSign ar = true ∧ b.length ≤ 20 ∧ ∀ t ∈ b, okTerm ar t = true := by
  simp only [renameOk, Bool.and_eq_true, decide_eq_true_eq, List.all_eq_true]
  constructor
  · rintro ⟨⟨h1, h2⟩, h3⟩; exact ⟨h1, h2, h3⟩
  · rintro ⟨h1, h2, h3⟩; exact ⟨⟨h1, h2⟩, h3⟩
theorem renameOk_rows {ar : List Int} {b : List (List Int)} (h : renameOk ar b = true) : rows40 b := by
  obtain ⟨_, h2, h3⟩ := renameOk_iff.1 h
  refine ⟨h2, fun j hj => ?_⟩
  have ho := h3 (b.getD j []) (by simp [List.getD, hj])
  exact ⟨((okTerm_iff _ _).1 ho).2.1, okTerm_low ho⟩
theorem sumL_le40 (l : List (List Int)) (h : ∀ t ∈ l, t.length ≤ 40) : sumL l ≤ 40 * l.length := by
  unfold sumL
  induction l with
  | nil => simp
  | cons x r ih =>
    have h1 := ih (fun t ht => h t (List.mem_cons_of_mem _ ht))
    have h2 := h x List.mem_cons_self
    simp only [List.map_cons, List.sum_cons, List.length_cons]
    omega
theorem renS_lens (met : List Int) (l : List (List Int)) (h : ∀ t ∈ l, t.length ≤ 40) : ∀ t ∈ renS met l, t.length ≤ 40 := by
  induction l generalizing met with
  | nil => intro t ht; simp [renS] at ht
  | cons x r ih =>
    intro t ht
    simp only [renS, List.mem_cons] at ht
    rcases ht with rfl | ht
    · rw [renT_len]; exact h x List.mem_cons_self
    · exact ih _ (fun t ht => h t (List.mem_cons_of_mem _ ht)) t ht
theorem renameAns_len (ar : List Int) (b : List (List Int)) : tot (renameAns ar b) ≤ 1048576 := by
  unfold renameAns
  split
  · rename_i h
    have hr := renameOk_rows h
    have h1 := sumL_le40 _ (renS_lens [] b hr.mem)
    have h2 := hr.1
    unfold tot
    rw [renS_len] at h1 ⊢
    omega
  · simp [tot, sumL]

end Go.Proofs.Ytlcjcihohclmhaa
end
section
/- The ordering, plainly. No program. -/
namespace Go.Proofs.Ytlcjcihohclmhaa
open Go.RowKit

theorem cntI_count (t : List Int) (n : Int) : cntI t n = t.count n := by unfold cntI; rw [List.count_eq_countP, List.countP_eq_length_filter]
/-- Every variable occurs in a at least as often. -/
def covers (a b : List Int) : Bool := b.all fun n => decide (0 ≤ n) || decide (cntI b n ≤ cntI a n)
theorem covers_iff {a b : List Int} : covers a b = true ↔ ∀ n, n < 0 → b.count n ≤ a.count n := by
  unfold covers
  rw [List.all_eq_true]
  constructor
  · intro h n hn
    by_cases hm : n ∈ b
    · have := h n hm
      simp only [Bool.or_eq_true, decide_eq_true_eq, cntI_count] at this
      omega
    · rw [List.count_eq_zero_of_not_mem hm]; omega
  · intro h n _
    by_cases hn : 0 ≤ n
    · simp [hn]
    · have := h n (by omega)
      simp only [Bool.or_eq_true, decide_eq_true_eq, cntI_count]
      omega
/-- At the first difference both have symbols, and the first's is the greater one. -/
def winF : List Int → List Int → Bool
  | x :: a, y :: b => if x = y then winF a b else decide (0 ≤ y) && decide (y < x)
  | _, _ => false
theorem winF_irrefl (a : List Int) : winF a a = false := by
  induction a with
  | nil => rfl
  | cons x a ih => simp [winF, ih]
theorem winF_asymm (a b : List Int) (h : winF a b = true) : winF b a = false := by
  induction a generalizing b with
  | nil => simp [winF] at h
  | cons x a ih =>
    cases b with
    | nil => simp [winF] at h
    | cons y b =>
      unfold winF at h ⊢
      by_cases e : x = y
      · rw [if_pos e] at h; rw [if_pos e.symm]; exact ih b h
      · rw [if_neg e] at h; rw [if_neg (Ne.symm e)]
        simp only [Bool.and_eq_true, decide_eq_true_eq] at h
        simp; omega
theorem winF_trans (a b c : List Int) (h : winF a b = true) (k : winF b c = true) : winF a c = true := by
  induction a generalizing b c with
  | nil => simp [winF] at h
  | cons x a ih =>
    cases b with
    | nil => simp [winF] at h
    | cons y b =>
      cases c with
      | nil => simp [winF] at k
      | cons z c =>
        unfold winF at h k ⊢
        by_cases e : x = y
        · rw [if_pos e] at h
          by_cases e2 : y = z
          · rw [if_pos e2] at k; rw [if_pos (e.trans e2)]; exact ih b c h k
          · rw [if_neg e2] at k; rw [if_neg (by rw [e]; exact e2), e]; exact k
        · rw [if_neg e] at h
          simp only [Bool.and_eq_true, decide_eq_true_eq] at h
          by_cases e2 : y = z
          · rw [if_neg (by omega)]; simp; omega
          · rw [if_neg e2] at k
            simp only [Bool.and_eq_true, decide_eq_true_eq] at k
            rw [if_neg (by omega)]; simp; omega
theorem winF_left (p a b : List Int) : winF (p ++ a) (p ++ b) = winF a b := by
  induction p with
  | nil => rfl
  | cons x p ih => simp [winF, ih]
theorem winF_right (a b q r : List Int) (h : winF a b = true) : winF (a ++ q) (b ++ r) = true := by
  induction a generalizing b with
  | nil => simp [winF] at h
  | cons x a ih =>
    cases b with
    | nil => simp [winF] at h
    | cons y b =>
      simp only [List.cons_append]
      unfold winF at h ⊢
      by_cases e : x = y
      · rw [if_pos e] at h ⊢; exact ih b h
      · rw [if_neg e] at h ⊢; exact h
theorem winF_total (a b : List Int) (hl : a.length = b.length) (ha : ∀ n ∈ a, 0 ≤ n) (hb : ∀ n ∈ b, 0 ≤ n) (hne : a ≠ b) : winF a b = true ∨ winF b a = true := by
  induction a generalizing b with
  | nil => cases b with
    | nil => exact absurd rfl hne
    | cons y b => simp at hl
  | cons x a ih =>
    cases b with
    | nil => simp at hl
    | cons y b =>
      unfold winF
      by_cases e : x = y
      · rw [if_pos e, if_pos e.symm]
        exact ih b (by simpa using hl) (fun n h => ha n (List.mem_cons_of_mem _ h)) (fun n h => hb n (List.mem_cons_of_mem _ h)) (by rintro rfl; exact hne (by rw [e]))
      · rw [if_neg e, if_neg (Ne.symm e)]
        have h1 := ha x List.mem_cons_self
        have h2 := hb y List.mem_cons_self
        simp only [Bool.and_eq_true, decide_eq_true_eq]
        omega
theorem one1_sym0 {s : List (List Int)} {n : Int} (h : 0 ≤ n) : one1 s n = [n] := by unfold one1; rw [if_neg (by omega)]
theorem one1_posK (s : List (List Int)) (n : Int) : 1 ≤ (one1 s n).length := by
  unfold one1; split
  · rename_i h; exact h.2
  · simp
theorem winF_app (s : List (List Int)) (a b : List Int) (h : winF a b = true) : winF (appT s a) (appT s b) = true := by
  induction a generalizing b with
  | nil => simp [winF] at h
  | cons x a ih =>
    cases b with
    | nil => simp [winF] at h
    | cons y b =>
      unfold winF at h
      by_cases e : x = y
      · rw [if_pos e] at h
        have := ih b h
        unfold appT at this ⊢
        rw [List.flatMap_cons, List.flatMap_cons, e, winF_left]; exact this
      · rw [if_neg e] at h
        simp only [Bool.and_eq_true, decide_eq_true_eq] at h
        unfold appT
        rw [List.flatMap_cons, List.flatMap_cons, one1_sym0 (s := s) h.1, one1_sym0 (s := s) (n := x) (by omega)]
        simp only [List.cons_append, List.nil_append]
        unfold winF
        rw [if_neg e]; simp; omega

/-- a is greater than b. -/
def above (a b : List Int) : Bool := covers a b && (decide (b.length < a.length) || (decide (a.length = b.length) && winF a b))
theorem above_iff {a b : List Int} : above a b = true ↔ (∀ n, n < 0 → b.count n ≤ a.count n) ∧ (b.length < a.length ∨ (a.length = b.length ∧ winF a b = true)) := by
  unfold above
  simp only [Bool.and_eq_true, Bool.or_eq_true, decide_eq_true_eq, covers_iff]
theorem above_irrefl (a : List Int) : above a a = false := by
  rw [Bool.eq_false_iff]; intro h
  obtain ⟨_, h | h⟩ := above_iff.1 h
  · omega
  · rw [winF_irrefl] at h; simp at h
theorem above_asymm {a b : List Int} (h : above a b = true) : above b a = false := by
  rw [Bool.eq_false_iff]; intro k
  obtain ⟨_, h⟩ := above_iff.1 h
  obtain ⟨_, k⟩ := above_iff.1 k
  rcases h with h | ⟨h, hw⟩ <;> rcases k with k | ⟨k, kw⟩
  · omega
  · omega
  · omega
  · rw [winF_asymm _ _ hw] at kw; simp at kw
theorem above_trans {a b c : List Int} (h : above a b = true) (k : above b c = true) : above a c = true := by
  obtain ⟨h1, h⟩ := above_iff.1 h
  obtain ⟨k1, k⟩ := above_iff.1 k
  refine above_iff.2 ⟨fun n hn => Nat.le_trans (k1 n hn) (h1 n hn), ?_⟩
  rcases h with h | ⟨h, hw⟩ <;> rcases k with k | ⟨k, kw⟩
  · left; omega
  · left; omega
  · left; omega
  · exact .inr ⟨by omega, winF_trans _ _ _ hw kw⟩
theorem above_total {a b : List Int} (ha : ∀ n ∈ a, 0 ≤ n) (hb : ∀ n ∈ b, 0 ≤ n) (hne : a ≠ b) : above a b = true ∨ above b a = true := by
  have z : ∀ (l : List Int), (∀ n ∈ l, 0 ≤ n) → ∀ n, n < 0 → l.count n = 0 := fun l hl n hn => List.count_eq_zero_of_not_mem fun hm => by have := hl n hm; omega
  have c1 : ∀ n, n < 0 → b.count n ≤ a.count n := fun n hn => by rw [z b hb n hn]; omega
  have c2 : ∀ n, n < 0 → a.count n ≤ b.count n := fun n hn => by rw [z a ha n hn]; omega
  rcases Nat.lt_trichotomy a.length b.length with h | h | h
  · exact .inr (above_iff.2 ⟨c2, .inl h⟩)
  · rcases winF_total a b h ha hb hne with k | k
    · exact .inl (above_iff.2 ⟨c1, .inr ⟨h, k⟩⟩)
    · exact .inr (above_iff.2 ⟨c2, .inr ⟨h.symm, k⟩⟩)
  · exact .inl (above_iff.2 ⟨c1, .inl h⟩)
theorem above_ctx {a b : List Int} (p q : List Int) (h : above a b = true) : above (p ++ a ++ q) (p ++ b ++ q) = true := by
  obtain ⟨h1, h⟩ := above_iff.1 h
  refine above_iff.2 ⟨fun n hn => ?_, ?_⟩
  · have := h1 n hn; simp only [List.count_append]; omega
  · rcases h with h | ⟨h, hw⟩
    · left; simp only [List.length_append]; omega
    · refine .inr ⟨by simp only [List.length_append]; omega, ?_⟩
      rw [List.append_assoc, List.append_assoc, winF_left]; exact winF_right _ _ _ _ hw
theorem above_part (p u q : List Int) (h : 0 < p.length + q.length) : above (p ++ u ++ q) u = true := by
  refine above_iff.2 ⟨fun n _ => ?_, .inl ?_⟩
  · simp only [List.count_append]; omega
  · simp only [List.length_append]; omega
theorem sum_perm {a b : List Int} (g : Int → Nat) (h : a.Perm b) : (a.map g).sum = (b.map g).sum := by
  induction h with
  | nil => rfl
  | cons x _ ih => simp [ih]
  | swap x y l => simp; omega
  | trans _ _ h1 h2 => exact h1.trans h2
theorem sum_mono (g : Int → Nat) (hg : ∀ n, 0 ≤ n → g n = 0) (a b : List Int) (h : ∀ n, n < 0 → b.count n ≤ a.count n) : (b.map g).sum ≤ (a.map g).sum := by
  induction b generalizing a with
  | nil => simp
  | cons n b ih =>
    by_cases hn : 0 ≤ n
    · have := ih a (fun m hm => by have h2 := h m hm; rw [List.count_cons] at h2; omega)
      simp [hg n hn]; exact this
    · have h1 := h n (by omega)
      rw [List.count_cons_self] at h1
      have hm : n ∈ a := List.count_pos_iff.1 (by omega)
      have hp := List.perm_cons_erase hm
      rw [sum_perm g hp]
      have := ih (a.erase n) (fun m hm => by
        have h2 := h m hm
        have h3 := hp.count_eq m
        rw [List.count_cons] at h2 h3
        omega)
      simp; exact this
theorem count_app (s : List (List Int)) (a : List Int) (n : Int) (hn : n < 0) : (appT s a).count n = (a.map fun m => if m < 0 then (one1 s m).count n else 0).sum := by
  unfold appT
  induction a with
  | nil => rfl
  | cons m a ih =>
    rw [List.flatMap_cons, List.count_append, ih, List.map_cons, List.sum_cons]
    congr 1
    by_cases hm : m < 0
    · rw [if_pos hm]
    · rw [if_neg hm, one1_sym0 (by omega)]
      exact List.count_eq_zero_of_not_mem (by simp; omega)
theorem len_app (s : List (List Int)) (a : List Int) : (appT s a).length = a.length + (a.map fun m => if m < 0 then (one1 s m).length - 1 else 0).sum := by
  unfold appT
  induction a with
  | nil => rfl
  | cons m a ih =>
    rw [List.flatMap_cons, List.length_append, ih, List.map_cons, List.sum_cons, List.length_cons]
    have := one1_posK s m
    by_cases hm : m < 0
    · rw [if_pos hm]; omega
    · rw [if_neg hm, one1_sym0 (by omega)]; simp; omega
theorem above_app {a b : List Int} (s : List (List Int)) (h : above a b = true) : above (appT s a) (appT s b) = true := by
  obtain ⟨h1, h⟩ := above_iff.1 h
  have hl := sum_mono (fun m => if m < 0 then (one1 s m).length - 1 else 0) (fun n hn => by show (if _ then _ else _) = 0; rw [if_neg (by omega)]) a b h1
  have e1 := len_app s a
  have e2 := len_app s b
  refine above_iff.2 ⟨fun n hn => ?_, ?_⟩
  · rw [count_app s a n hn, count_app s b n hn]
    exact sum_mono _ (fun m hm => by show (if _ then _ else _) = 0; rw [if_neg (by omega)]) a b h1
  · by_cases hlt : (appT s b).length < (appT s a).length
    · exact .inl hlt
    · rcases h with h | ⟨h, hw⟩
      · omega
      · exact .inr ⟨by omega, winF_app s a b hw⟩

/-- How two terms compare. -/
def cmpT (a b : List Int) : Int := if a = b then 0 else if above a b then 1 else if above b a then -1 else 2
theorem cmpT_one {a b : List Int} : cmpT a b = 1 ↔ above a b = true := by
  unfold cmpT
  by_cases e : a = b
  · rw [if_pos e, e, above_irrefl]; simp
  · rw [if_neg e]
    cases h : above a b
    · cases h2 : above b a <;> simp
    · simp
theorem cmpT_zero {a b : List Int} : cmpT a b = 0 ↔ a = b := by
  unfold cmpT
  by_cases e : a = b
  · simp [e]
  · rw [if_neg e]
    cases h : above a b
    · cases h2 : above b a <;> simp [e]
    · simp [e]
theorem cmpT_neg {a b : List Int} : cmpT a b = -1 ↔ above b a = true := by
  unfold cmpT
  by_cases e : a = b
  · rw [if_pos e, e, above_irrefl]; simp
  · rw [if_neg e]
    cases h : above a b
    · cases h2 : above b a <;> simp
    · have := above_asymm h; simp [this]
theorem cmpT_two {a b : List Int} : cmpT a b = 2 ↔ a ≠ b ∧ above a b = false ∧ above b a = false := by
  unfold cmpT
  by_cases e : a = b
  · simp [e]
  · rw [if_neg e]
    cases h : above a b
    · cases h2 : above b a <;> simp [e]
    · simp
theorem cmpT_flip {a b : List Int} : (cmpT a b = 1 → cmpT b a = -1) ∧ (cmpT a b = 0 → cmpT b a = 0) ∧ (cmpT a b = 2 → cmpT b a = 2) := by
  refine ⟨fun h => cmpT_neg.2 (cmpT_one.1 h), fun h => cmpT_zero.2 (cmpT_zero.1 h).symm, fun h => ?_⟩
  obtain ⟨h1, h2, h3⟩ := cmpT_two.1 h
  exact cmpT_two.2 ⟨Ne.symm h1, h3, h2⟩

/-- What remains of a. -/
def minus (a b : List (List Int)) : List (List Int) := b.foldl List.erase a
theorem minus_nil (a : List (List Int)) : minus a [] = a := rfl
theorem minus_cons (a : List (List Int)) (t : List Int) (b : List (List Int)) : minus a (t :: b) = minus (a.erase t) b := rfl
theorem minus_count (a b : List (List Int)) (t : List Int) : (minus a b).count t = a.count t - b.count t := by
  induction b generalizing a with
  | nil => simp [minus]
  | cons y b ih =>
    rw [minus_cons, ih, List.count_erase, List.count_cons]
    by_cases e : y = t
    · simp [e]; omega
    · simp [e]
theorem minus_mem {a b : List (List Int)} {t : List Int} : t ∈ minus a b ↔ b.count t < a.count t := by
  rw [← List.count_pos_iff, minus_count]; omega
theorem minus_len (a b : List (List Int)) : (minus a b).length ≤ a.length := by
  induction b generalizing a with
  | nil => exact Nat.le_refl _
  | cons y b ih => rw [minus_cons]; exact Nat.le_trans (ih _) (List.length_erase_le)
theorem minus_sub {a b : List (List Int)} {t : List Int} (h : t ∈ minus a b) : t ∈ a := List.count_pos_iff.1 (by have := minus_mem.1 h; omega)
/-- From the front of a: what b has is left out. -/
theorem minus_front (x : List Int) (a b : List (List Int)) : minus (x :: a) b = if x ∈ b then minus a (b.erase x) else x :: minus a b := by
  induction b generalizing a with
  | nil => simp [minus]
  | cons y b ih =>
    rw [minus_cons]
    by_cases e : x = y
    · subst e; simp
    · rw [List.erase_cons_tail (by simpa using e), ih]
      have h1 : (x ∈ y :: b) ↔ x ∈ b := by simp [e]
      have h2 : (y :: b).erase x = y :: b.erase x := List.erase_cons_tail (by simpa using Ne.symm e)
      by_cases h : x ∈ b
      · rw [if_pos h, if_pos (h1.2 h), h2, minus_cons]
      · rw [if_neg h, if_neg (fun k => h (h1.1 k)), minus_cons]
theorem minus_perm {b c : List (List Int)} (h : b.Perm c) (a : List (List Int)) : minus a b = minus a c := by
  induction h generalizing a with
  | nil => rfl
  | cons x _ ih => rw [minus_cons, minus_cons, ih]
  | swap x y l => rw [minus_cons, minus_cons, minus_cons, minus_cons, List.erase_comm]
  | trans _ _ h1 h2 => exact (h1 a).trans (h2 a)

def dom (a b : List (List Int)) : Bool := b.all fun t => a.any fun u => above u t
theorem dom_iff {a b : List (List Int)} : dom a b = true ↔ ∀ t ∈ b, ∃ u ∈ a, above u t = true := by
  unfold dom; simp only [List.all_eq_true, List.any_eq_true]
/-- Some element is below none. -/
theorem top_of (l : List (List Int)) (h : l ≠ []) : ∃ m ∈ l, ∀ x ∈ l, above x m = false := by
  induction l with
  | nil => exact absurd rfl h
  | cons y l ih =>
    by_cases hl : l = []
    · subst hl
      exact ⟨y, List.mem_cons_self, fun x hx => by simp at hx; subst hx; exact above_irrefl _⟩
    · obtain ⟨m, hm, hmax⟩ := ih hl
      cases hy : above y m with
      | false => exact ⟨m, List.mem_cons_of_mem _ hm, fun x hx => by rcases List.mem_cons.1 hx with rfl | hx; exact hy; exact hmax x hx⟩
      | true =>
        refine ⟨y, List.mem_cons_self, fun x hx => ?_⟩
        rcases List.mem_cons.1 hx with rfl | hx
        · exact above_irrefl _
        · rw [Bool.eq_false_iff]; intro hxy
          have := hmax x hx
          rw [above_trans hxy hy] at this; simp at this
theorem dom_asymm {a b : List (List Int)} (ha : a ≠ []) (h : dom a b = true) : dom b a = false := by
  rw [Bool.eq_false_iff]; intro k
  obtain ⟨m, hm, hmax⟩ := top_of a ha
  obtain ⟨u, hu, h1⟩ := dom_iff.1 k m hm
  obtain ⟨x, hx, h2⟩ := dom_iff.1 h u hu
  have := hmax x hx
  rw [above_trans h2 h1] at this; simp at this
/-- How two lists compare. -/
def cmpL (a b : List (List Int)) : Int := if minus a b = [] ∧ minus b a = [] then 0 else if dom (minus a b) (minus b a) then 1 else if dom (minus b a) (minus a b) then -1 else 2
theorem cmpL_zero {a b : List (List Int)} : cmpL a b = 0 ↔ minus a b = [] ∧ minus b a = [] := by
  unfold cmpL
  by_cases e : minus a b = [] ∧ minus b a = []
  · simp [e]
  · rw [if_neg e]; simp only [e, iff_false]; split
    · omega
    · split <;> omega
theorem cmpL_one {a b : List (List Int)} : cmpL a b = 1 ↔ minus a b ≠ [] ∧ dom (minus a b) (minus b a) = true := by
  unfold cmpL
  by_cases e : minus a b = [] ∧ minus b a = []
  · rw [if_pos e]; simp [e.1]
  · rw [if_neg e]
    cases h : dom (minus a b) (minus b a)
    · simp; split <;> omega
    · simp
      intro h0
      refine e ⟨h0, ?_⟩
      rw [h0] at h
      cases h2 : minus b a with
      | nil => rfl
      | cons t r => obtain ⟨u, hu, _⟩ := dom_iff.1 h t (by rw [h2]; exact List.mem_cons_self); simp at hu
theorem cmpL_neg {a b : List (List Int)} : cmpL a b = -1 ↔ minus b a ≠ [] ∧ dom (minus b a) (minus a b) = true := by
  constructor
  · intro h
    have h1 : cmpL a b ≠ 1 := by omega
    have h0 : cmpL a b ≠ 0 := by omega
    unfold cmpL at h
    by_cases e : minus a b = [] ∧ minus b a = []
    · rw [if_pos e] at h; omega
    · rw [if_neg e] at h
      cases hd : dom (minus a b) (minus b a)
      · rw [hd] at h
        cases hd2 : dom (minus b a) (minus a b)
        · rw [hd2] at h; simp at h
        · refine ⟨fun hb => e ⟨?_, hb⟩, rfl⟩
          rw [hb] at hd2
          cases h2 : minus a b with
          | nil => rfl
          | cons t r => obtain ⟨u, hu, _⟩ := dom_iff.1 hd2 t (by rw [h2]; exact List.mem_cons_self); simp at hu
      · rw [hd] at h; simp at h
  · rintro ⟨h1, h2⟩
    have h3 := dom_asymm h1 h2
    unfold cmpL
    rw [if_neg (fun e => h1 e.2), h3, h2]; simp
theorem cmpL_flip (a b : List (List Int)) : (cmpL a b = 1 ↔ cmpL b a = -1) ∧ (cmpL a b = 0 ↔ cmpL b a = 0) := by
  refine ⟨by rw [cmpL_one, cmpL_neg], by rw [cmpL_zero, cmpL_zero]; exact And.comm⟩
theorem nil_iff {l : List (List Int)} : l = [] ↔ ∀ t, t ∉ l := List.eq_nil_iff_forall_not_mem
theorem dom_congr {a b a' b' : List (List Int)} (h1 : ∀ t, t ∈ a ↔ t ∈ a') (h2 : ∀ t, t ∈ b ↔ t ∈ b') : dom a b = dom a' b' := by
  rw [Bool.eq_iff_iff, dom_iff, dom_iff]
  constructor
  · intro h t ht; obtain ⟨u, hu, k⟩ := h t ((h2 t).2 ht); exact ⟨u, (h1 u).1 hu, k⟩
  · intro h t ht; obtain ⟨u, hu, k⟩ := h t ((h2 t).1 ht); exact ⟨u, (h1 u).2 hu, k⟩
/-- What is put behind both changes nothing. -/
theorem cmpL_snoc (a b : List (List Int)) (g : List Int) : cmpL (a ++ [g]) (b ++ [g]) = cmpL a b := by
  have h1 : ∀ (a b : List (List Int)) t, t ∈ minus (a ++ [g]) (b ++ [g]) ↔ t ∈ minus a b := fun a b t => by
    rw [minus_mem, minus_mem, List.count_append, List.count_append]; omega
  unfold cmpL
  rw [dom_congr (h1 a b) (h1 b a), dom_congr (h1 b a) (h1 a b)]
  have h2 : ∀ a b : List (List Int), minus (a ++ [g]) (b ++ [g]) = [] ↔ minus a b = [] := fun a b => by
    rw [nil_iff, nil_iff]; exact forall_congr' fun t => not_congr (h1 a b t)
  simp only [h2]
def falls (l : List (List Int)) : Bool := (List.range (l.length - 1)).all fun i => above (l.getD i []) (l.getD (i+1) [])
theorem falls_pair {l : List (List Int)} (h : falls l = true) : ∀ (i j : Nat), j < i → i < l.length → above (l.getD j []) (l.getD i []) = true := by
  unfold falls at h
  rw [List.all_eq_true] at h
  intro i
  induction i with
  | zero => intro j hj; omega
  | succ i ih =>
    intro j hj hi
    have h1 := h i (by rw [List.mem_range]; omega)
    by_cases e : j = i
    · rw [e]; exact h1
    · exact above_trans (ih j (by omega) (by omega)) h1
end Go.Proofs.Ytlcjcihohclmhaa
end
section
/- Lists of terms, plainly: what remains, who dominates, how they compare. No program. -/
namespace Go.Proofs.Ytlcjcihohclmhaa
open Go.RowKit

theorem minus_nil_left (b : List (List Int)) : minus [] b = [] := by
  induction b with
  | nil => rfl
  | cons y b ih => rw [minus_cons]; simpa using ih
theorem take_snoc {α : Type} (l : List α) (k : Nat) (d : α) (hk : k < l.length) : l.take (k+1) = l.take k ++ [l.getD k d] := by
  rw [List.take_succ_eq_append_getElem hk]; simp [List.getD, hk]
theorem drop_get {α : Type} (l : List α) (k : Nat) (d : α) (hk : k < l.length) : l.drop k = l.getD k d :: l.drop (k+1) := by
  rw [List.drop_eq_getElem_cons hk]; simp [List.getD, hk]
theorem minus_take (a b : List (List Int)) (k : Nat) (hk : k < b.length) : minus a (b.take (k+1)) = (minus a (b.take k)).erase (b.getD k []) := by
  rw [take_snoc b k [] hk]; simp [minus, List.foldl_append]
theorem erase_at {X : List (List Int)} {t : List Int} {j : Nat} (hj : j < X.length) (hn : t ∉ X.take j) (he : X.getD j [] = t) : X.erase t = X.eraseIdx j := by
  induction X generalizing j with
  | nil => simp at hj
  | cons x X ih =>
    cases j with
    | zero =>
      have he : x = t := by simpa using he
      subst he; simp
    | succ j =>
      simp only [List.take_succ_cons, List.mem_cons, not_or] at hn
      rw [List.erase_cons_tail (by simpa using fun h => hn.1 h.symm), List.eraseIdx_cons_succ, ih (by simpa using hj) hn.2 (by simpa using he)]
theorem erase_none {X : List (List Int)} {t : List Int} {j : Nat} (hj : ¬ j < X.length) (hn : t ∉ X.take j) : X.erase t = X := by
  rw [List.take_of_length_le (by omega)] at hn
  exact List.erase_of_not_mem hn
theorem not_take {X : List (List Int)} {t : List Int} {j : Nat} (hj : j < X.length) (hn : t ∉ X.take j) (he : X.getD j [] ≠ t) : t ∉ X.take (j+1) := by
  rw [take_snoc X j [] hj, List.mem_append, List.mem_singleton, not_or]
  exact ⟨hn, fun h => he h.symm⟩
theorem eraseIdx_perm {l : List (List Int)} {i : Nat} (hi : i < l.length) : (l.getD i [] :: l.eraseIdx i).Perm l := by
  induction l generalizing i with
  | nil => simp at hi
  | cons x l ih =>
    cases i with
    | zero => simp
    | succ i =>
      have := ih (i := i) (by simpa using hi)
      rw [show (x :: l).getD (i+1) [] = l.getD i [] from by simp [List.getD], List.eraseIdx_cons_succ]
      exact (List.Perm.swap _ _ _).trans (this.cons x)
/-- The reference's loop: what is out, what is left. -/
theorem left_in {a b out left : List (List Int)} {k i : Nat} (h : minus a b = out ++ minus (a.drop k) left) (hk : k < a.length) (hi : i < left.length) (he : left.getD i [] = a.getD k []) :
    minus a b = out ++ minus (a.drop (k+1)) (left.eraseIdx i) := by
  rw [h, drop_get a k [] hk, minus_front]
  generalize a.getD k [] = t at *
  have hx : left[i] = t := by rw [← he]; simp [List.getD, hi]
  have hm : t ∈ left := by rw [← hx]; exact List.getElem_mem hi
  rw [if_pos hm]
  have hp : (left.erase t).Perm (left.eraseIdx i) := by
    have h1 := eraseIdx_perm hi
    rw [he] at h1
    exact (List.perm_cons t).1 ((List.perm_cons_erase hm).symm.trans h1.symm)
  rw [minus_perm hp]
theorem left_out {a b out left : List (List Int)} {k : Nat} (h : minus a b = out ++ minus (a.drop k) left) (hk : k < a.length) (hn : a.getD k [] ∉ left) :
    minus a b = (out ++ [a.getD k []]) ++ minus (a.drop (k+1)) left := by
  rw [h, drop_get a k [] hk, minus_front, if_neg hn, List.append_assoc]; rfl
theorem left_end {a b out left : List (List Int)} {k : Nat} (h : minus a b = out ++ minus (a.drop k) left) (hk : ¬ k < a.length) : minus a b = out := by
  rw [h, List.drop_eq_nil_of_le (by omega), minus_nil_left, List.append_nil]
theorem minus_get {a b : List (List Int)} {P : List Int → Prop} (h : ∀ t ∈ a, P t) : ∀ t ∈ minus a b, P t := fun t ht => h t (minus_sub ht)

theorem dom_no {a b : List (List Int)} {k : Nat} (hk : k < b.length) (h : (a.any fun u => above u (b.getD k [])) = false) : dom a b = false := by
  rw [Bool.eq_false_iff]
  intro hd
  unfold dom at hd
  rw [List.all_eq_true] at hd
  have := hd (b.getD k []) (by simp [List.getD, hk])
  rw [h] at this; simp at this
theorem dom_take {a b : List (List Int)} {k : Nat} (hk : k < b.length) (h : dom a (b.take k) = true) (h2 : (a.any fun u => above u (b.getD k [])) = true) : dom a (b.take (k+1)) = true := by
  unfold dom at *
  rw [take_snoc b k [] hk, List.all_append, h]
  simpa using h2
theorem dom_all {a b : List (List Int)} {k : Nat} (hk : ¬ k < b.length) (h : dom a (b.take k) = true) : dom a b = true := by
  rwa [List.take_of_length_le (by omega)] at h
theorem any_take {a : List (List Int)} {t : List Int} {i : Nat} (hi : i < a.length) (h : ((a.take i).any fun u => above u t) = false) : ((a.take (i+1)).any fun u => above u t) = above (a.getD i []) t := by
  rw [take_snoc a i [] hi, List.any_append, h]; simp
theorem any_yes {a : List (List Int)} {t : List Int} {i : Nat} (hi : i < a.length) (h : above (a.getD i []) t = true) : (a.any fun u => above u t) = true := by
  rw [List.any_eq_true]; exact ⟨_, by simp [List.getD, hi], h⟩
theorem any_end {a : List (List Int)} {t : List Int} {i : Nat} {q : Bool} (hi : ¬ i < a.length) (h : ((a.take i).any fun u => above u t) = q) : (a.any fun u => above u t) = q := by
  rwa [List.take_of_length_le (by omega)] at h
theorem cmpL_0 {a b : List (List Int)} (h1 : minus a b = []) (h2 : minus b a = []) : cmpL a b = 0 := cmpL_zero.2 ⟨h1, h2⟩
theorem cmpL_1 {a b : List (List Int)} (h0 : ¬ (minus a b = [] ∧ minus b a = [])) (h : dom (minus a b) (minus b a) = true) : cmpL a b = 1 := by unfold cmpL; rw [if_neg h0, if_pos h]
theorem cmpL_m {a b : List (List Int)} (h0 : ¬ (minus a b = [] ∧ minus b a = [])) (h : dom (minus a b) (minus b a) = false) (k : dom (minus b a) (minus a b) = true) : cmpL a b = -1 := by
  unfold cmpL; rw [if_neg h0, if_neg (by rw [h]; simp), if_pos k]
theorem cmpL_2 {a b : List (List Int)} (h0 : ¬ (minus a b = [] ∧ minus b a = [])) (h : dom (minus a b) (minus b a) = false) (k : dom (minus b a) (minus a b) = false) : cmpL a b = 2 := by
  unfold cmpL; rw [if_neg h0, if_neg (by rw [h]; simp), if_neg (by rw [k]; simp)]
/-- The reference asks also that something is there. -/
theorem dom_some {x y : List (List Int)} (h0 : ¬ (x = [] ∧ y = [])) (h : dom x y = true) : 0 < x.length := by
  cases x with
  | nil =>
    cases y with
    | nil => exact absurd ⟨rfl, rfl⟩ h0
    | cons t r => obtain ⟨u, hu, _⟩ := dom_iff.1 h t List.mem_cons_self; simp at hu
  | cons u r => simp
/-- Falling. -/
theorem falls_no {l : List (List Int)} {i : Nat} (h1 : 0 < i) (hi : i < l.length) (h : above (l.getD (i-1) []) (l.getD i []) = false) : falls l = false := by
  rw [Bool.eq_false_iff]; intro hf
  have := falls_pair hf i (i-1) (by omega) hi
  rw [h] at this; simp at this
def fallTo (l : List (List Int)) (i : Nat) : Prop := ∀ j, 0 < j → j < i → above (l.getD (j-1) []) (l.getD j []) = true
theorem fallTo.step {l : List (List Int)} {i : Nat} (h : fallTo l i) (hi : 0 < i → above (l.getD (i-1) []) (l.getD i []) = true) : fallTo l (i+1) := fun j h1 h2 => by
  by_cases e : j = i
  · subst e; exact hi h1
  · exact h j h1 (by omega)
theorem fallTo.done {l : List (List Int)} {i : Nat} (h : fallTo l i) (hi : ¬ i < l.length) : falls l = true := by
  unfold falls
  rw [List.all_eq_true]
  intro j hj
  rw [List.mem_range] at hj
  exact h (j+1) (by omega) (by omega)

def lisOk (ar : List Int) (a b : List (List Int)) : Bool := goodTerms ar a 8 && goodTerms ar b 8
def lisAns (ar : List Int) (a b : List (List Int)) : Int := if lisOk ar a b then cmpL a b else 0
theorem lisOk_iff {ar : List Int} {a b : List (List Int)} : lisOk ar a b = true ↔ goodTerms ar a 8 = true ∧ goodTerms ar b 8 = true := by simp [lisOk]
theorem lis_no {ar : List Int} {a b : List (List Int)} (h : lisOk ar a b = false) : lisAns ar a b = 0 := by simp [lisAns, h]
theorem lis_yes {ar : List Int} {a b : List (List Int)} (h : lisOk ar a b = true) : lisAns ar a b = cmpL a b := by simp [lisAns, h]
def falAns (ar : List Int) (l : List (List Int)) : Bool := goodTerms ar l 8 && falls l
theorem fal_no {ar : List Int} {l : List (List Int)} (h : goodTerms ar l 8 = false) : falAns ar l = false := by simp [falAns, h]
theorem fal_yes {ar : List Int} {l : List (List Int)} (h : goodTerms ar l 8 = true) : falAns ar l = falls l := by simp [falAns, h]
theorem goodTerms_get {ar : List Int} {b : List (List Int)} {m : Nat} (h : goodTerms ar b m = true) (j : Nat) (hj : j < b.length) : okTerm ar (b.getD j []) = true :=
  (goodTerms_iff.1 h).2.2 _ (by simp [List.getD, hj])
end Go.Proofs.Ytlcjcihohclmhaa
end
section
/- Chapter 4: the answers, as plain functions. No program. -/
namespace Go.Proofs.Ytlcjcihohclmhaa
open Go.RowKit

def okLit (ar : List Int) (x : Lt) : Bool := okTerm ar x.2.1 && okTerm ar x.2.2
def okLits (ar : List Int) (c : List Lt) : Bool := decide (c.length ≤ 8) && c.all (okLit ar)
def goodClause (ar : List Int) (c : List Lt) : Bool := goodSign ar && okLits ar c
theorem okLit_iff {ar : List Int} {x : Lt} : okLit ar x = true ↔ okTerm ar x.2.1 = true ∧ okTerm ar x.2.2 = true := by simp [okLit]
theorem okLits_iff {ar : List Int} {c : List Lt} : okLits ar c = true ↔ c.length ≤ 8 ∧ ∀ x ∈ c, okLit ar x = true := by simp [okLits]
theorem goodClause_iff {ar : List Int} {c : List Lt} : goodClause ar c = true ↔ goodSign ar = true ∧ c.length ≤ 8 ∧ ∀ x ∈ c, okLit ar x = true := by simp [goodClause, okLits]
theorem okLits_get {ar : List Int} {c : List Lt} (h : ∀ x ∈ c, okLit ar x = true) (j : Nat) (hj : j < c.length) : okTerm ar (c.getD j lt0).2.1 = true ∧ okTerm ar (c.getD j lt0).2.2 = true :=
  okLit_iff.1 (h _ (by simp [List.getD, hj]))
theorem okLits_bad {ar : List Int} {c : List Lt} {j : Nat} (hj : j < c.length) (h : okLit ar (c.getD j lt0) = false) : okLits ar c = false := by
  rw [Bool.eq_false_iff]; intro k
  have := (okLits_iff.1 k).2 (c.getD j lt0) (by simp [List.getD, hj])
  rw [h] at this; simp at this
/-- The first k literals are valid. -/
def okTo (ar : List Int) (c : List Lt) (k : Nat) : Prop := ∀ j, j < k → okLit ar (c.getD j lt0) = true
theorem okTo.step {ar : List Int} {c : List Lt} {k : Nat} (h : okTo ar c k) (hk : okLit ar (c.getD k lt0) = true) : okTo ar c (k+1) := fun j hj => by
  by_cases e : j = k
  · subst e; exact hk
  · exact h j (by omega)
theorem okTo.done {ar : List Int} {c : List Lt} (h : okTo ar c c.length) : okLits ar c = decide (c.length ≤ 8) := by
  unfold okLits
  have : c.all (okLit ar) = true := by
    rw [List.all_eq_true]
    intro x hx
    obtain ⟨j, hj, rfl⟩ := List.getElem_of_mem hx
    have := h j hj
    simpa [List.getD, hj] using this
  rw [this, Bool.and_true]

/-- The same two terms, perhaps exchanged. -/
def sameTs (x y : Lt) : Bool := (decide (x.2.1 = y.2.1) && decide (x.2.2 = y.2.2)) || (decide (x.2.1 = y.2.2) && decide (x.2.2 = y.2.1))
def eqvL (x y : Lt) : Bool := (x.1 == y.1) && sameTs x y
def tidyStep (out : List Lt) (x : Lt) : List Lt := if !x.1 && decide (x.2.1 = x.2.2) then out else if out.any (eqvL x) then out else out ++ [x]
def tidyC (c : List Lt) : List Lt := c.foldl tidyStep []
theorem tidyC_snoc (c : List Lt) (k : Nat) (h : k < c.length) : tidyC (c.take (k+1)) = tidyStep (tidyC (c.take k)) (c.getD k lt0) := by
  unfold tidyC
  rw [List.take_succ_eq_append_getElem h, List.foldl_append]
  simp [List.getD, h]
def tidyAns (ar : List Int) (c : List Lt) : List Lt := if goodClause ar c then tidyC c else []

/-- A tautology's place: the literal k alone, or with an earlier one. -/
def tautAt (c : List Lt) (k : Nat) : Bool := ((c.getD k lt0).1 && decide ((c.getD k lt0).2.1 = (c.getD k lt0).2.2)) || (c.take k).any fun y => ((c.getD k lt0).1 != y.1) && sameTs (c.getD k lt0) y
def tautC (c : List Lt) : Bool := (List.range c.length).any (tautAt c)
def tautAns (ar : List Int) (c : List Lt) : Bool := goodClause ar c && tautC c

def weightAns (ar : List Int) (c : List Lt) : Int := if goodClause ar c then (sumL (flatC c) : Int) else 0

def listL (x : Lt) : List (List Int) := if x.1 then [x.2.1, x.2.2] else [x.2.1, x.2.2, x.2.1, x.2.2]
def litsOk (ar : List Int) (x y : Lt) : Bool := goodSign ar && (okLit ar x && okLit ar y)
def litsAns (ar : List Int) (x y : Lt) : Int := if litsOk ar x y then cmpL (listL x) (listL y) else 0
def maxAt (c : List Lt) (k : Nat) : Bool := (List.range c.length).all fun i => decide (i = k) || !decide (cmpL (listL (c.getD i lt0)) (listL (c.getD k lt0)) = 1)
def maxC (c : List Lt) : List Nat := (List.range c.length).filter (maxAt c)

/-- The signs of one, the terms of another list. -/
def zipC : List Lt → List (List Int) → List Lt
  | x :: c, l :: r :: ts => (x.1, l, r) :: zipC c ts
  | _, _ => []
end Go.Proofs.Ytlcjcihohclmhaa
end
section
/- Rows of slices whose elements lie in older memory: copies, deletion. -/
namespace Go.Proofs.Ytlcjcihohclmhaa
open Go.RowKit

/-- A slice's three words. -/
abbrev SV := Option Addr × Nat × Nat
def encS (x : SV) : Value := .slice x.1 x.2.1 x.2.2
theorem encS_one (zs : List SV) : ∀ u ∈ zs.map encS, u.oneCell' = true := by
  intro u hu; obtain ⟨z, _, rfl⟩ := List.mem_map.1 hu; rfl
/-- The elements, read in the world W. -/
def Els (W : World) (zs : List SV) (xss : List (List Int)) : Prop := zs.length = xss.length ∧ ∀ j z, zs[j]? = some z → SlI 0 W.heap.size W (encS z) (xss.getD j [])
def RowV (W wr : World) (v : Value) (xss : List (List Int)) : Prop := ∃ zs : List SV, wr.ownsRow W.heap.size 24 1 v zs.length (zs.map encS) ∧ Els W zs xss
def RetRow (W : World) (xss : List (List Int)) (e : Ending) (w' : World) : Prop := ∃ ad n c, e = .returned (.slice ad n c) ∧ RowV W w' (.slice ad n c) xss ∧ Bel W w'
theorem Els.nil (W : World) : Els W [] [] := ⟨rfl, fun j z h => by simp at h⟩
theorem Els.at {W : World} {zs : List SV} {xss : List (List Int)} (h : Els W zs xss) {j : Nat} (hj : j < xss.length) : ∃ z, zs[j]? = some z ∧ SlI 0 W.heap.size W (encS z) (xss.getD j []) :=
  ⟨_, List.getElem?_eq_getElem (by rw [h.1]; exact hj), h.2 j _ (List.getElem?_eq_getElem (by rw [h.1]; exact hj))⟩
theorem Els.erase {W : World} {zs : List SV} {xss : List (List Int)} (h : Els W zs xss) (i : Nat) (_ : i < xss.length) : Els W (zs.eraseIdx i) (xss.eraseIdx i) := by
  refine ⟨by rw [List.length_eraseIdx, List.length_eraseIdx, h.1], fun j z hj => ?_⟩
  rw [List.getElem?_eraseIdx] at hj
  by_cases hlt : j < i
  · rw [if_pos hlt] at hj
    have := h.2 j z hj
    rwa [show (xss.eraseIdx i).getD j [] = xss.getD j [] from by simp [List.getD, List.getElem?_eraseIdx, hlt]]
  · rw [if_neg hlt] at hj
    have := h.2 (j+1) z hj
    rwa [show (xss.eraseIdx i).getD j [] = xss.getD (j+1) [] from by simp [List.getD, List.getElem?_eraseIdx, hlt]]
theorem Els.snoc {W : World} {zs : List SV} {xss : List (List Int)} (h : Els W zs xss) {z : SV} {t : List Int} (hz : SlI 0 W.heap.size W (encS z) t) : Els W (zs ++ [z]) (xss ++ [t]) := by
  refine ⟨by simp [h.1], fun j u hj => ?_⟩
  by_cases e : j < zs.length
  · rw [List.getElem?_append_left e] at hj
    have := h.2 j u hj
    rwa [show (xss ++ [t]).getD j [] = xss.getD j [] from by simp [List.getD, List.getElem?_append_left (show j < xss.length by rw [← h.1]; exact e)]]
  · have hlt := (List.getElem?_eq_some_iff.1 hj).1
    simp at hlt
    obtain rfl : j = zs.length := by omega
    rw [List.getElem?_append_right (Nat.le_refl _), Nat.sub_self] at hj
    simp at hj
    subst hj
    rwa [show (xss ++ [t]).getD zs.length [] = t from by rw [h.1]; simp [List.getD]]
theorem RowV.form {W wr : World} {v : Value} {xss : List (List Int)} (h : RowV W wr v xss) : ∃ ad c, v = .slice ad xss.length c := by
  obtain ⟨zs, ho, he⟩ := h
  obtain ⟨ad, n, c, rfl⟩ := own_form ho
  have := row_len ho
  rw [he.1] at this
  exact ⟨ad, c, by rw [this]⟩
theorem RowV.bel {W wr w2 : World} {v : Value} {xss : List (List Int)} (h : RowV W wr v xss) (hb : Bel wr w2) : RowV W w2 v xss := by
  obtain ⟨zs, ho, he⟩ := h
  exact ⟨zs, ownsRow_bel ho hb, he⟩
theorem RowV.sls {W wr : World} {v : Value} {xss : List (List Int)} (h : RowV W wr v xss) (hb : Bel W wr) : SlS 0 wr.heap.size wr v xss := by
  obtain ⟨zs, h1, h2, h3⟩ := h
  have h0 := h1
  rcases h1.2 with ⟨rfl, hn⟩ | ⟨g, cap, cur, rfl, hg, hh, hn, hc, hs, ht⟩
  · obtain rfl : xss = [] := List.length_eq_zero_iff.1 (by omega)
    exact SlS.nil _ _ _
  · have hgs : g < wr.heap.size := (Array.getElem?_eq_some_iff.1 hh).1
    refine ⟨_, cap, by rw [h2], by omega, ⟨hc, fun h => by simp at h⟩, fun hp => ⟨g, 0, rfl, Nat.zero_le _, hgs, fun j hj => ?_⟩⟩
    have hju : zs[j]? = some zs[j] := List.getElem?_eq_getElem (by omega)
    refine ⟨encS zs[j], by rw [Nat.zero_add, h0.cellAt j (by omega), List.getElem?_map, hju]; rfl, ?_⟩
    exact ((h3 j _ hju).below hb).mono (Nat.le_refl _) hb.size
/-- Reading the k-th. -/
theorem RowV.at {W wr : World} {ad : Option Addr} {n c : Nat} {xss : List (List Int)} (h : RowV W wr (.slice ad n c) xss) (k : Nat) (hk : k < xss.length) :
    ∃ g z, ad = some ⟨g, 0, none⟩ ∧ W.heap.size ≤ g ∧ wr.cell? ⟨g, k, none⟩ = some (encS z) ∧ SlI 0 W.heap.size W (encS z) (xss.getD k []) := by
  obtain ⟨zs, h1, h2⟩ := h
  have h0 := h1
  obtain ⟨z, hz, hs⟩ := h2.at hk
  rcases h1.2 with ⟨e, hn⟩ | ⟨g, cap, cur, e, hg, hh, _⟩
  · rw [h2.1] at hn; omega
  · simp only [Value.slice.injEq] at e
    obtain ⟨rfl, rfl, rfl⟩ := e
    exact ⟨g, z, rfl, hg, by rw [h0.cellAt k (by rw [h2.1]; omega), List.getElem?_map, hz]; rfl, hs⟩

theorem skolem_lt {α : Type} [Inhabited α] {n : Nat} {P : Nat → α → Prop} (H : ∀ j, j < n → ∃ z, P j z) : ∃ f : Nat → α, ∀ j, j < n → P j (f j) :=
  ⟨fun j => if h : j < n then Classical.choose (H j h) else default, fun j hj => by
    show P j (dite (j < n) (fun h => Classical.choose (H j h)) (fun _ => default))
    rw [dif_pos hj]; exact Classical.choose_spec (H j hj)⟩
/-- The three words of the elements of a slice of slices. -/
theorem SlS.vals {lo hi : Nat} {w : World} {ad : Option Addr} {n c : Nat} {xss : List (List Int)} (h : SlS lo hi w (.slice ad n c) xss) : ∃ zs : List SV, Els w zs xss ∧ ∀ a, ad = some a → ∀ j u, (zs.map encS)[j]? = some u → w.cell? (a.add j) = some u := by
  obtain ⟨ad', cap, e, hc, hm, hr⟩ := h
  simp only [Value.slice.injEq] at e
  obtain ⟨rfl, rfl, rfl⟩ := e
  by_cases hp : 0 < xss.length
  · obtain ⟨b, off, rfl, a1, a2, a3⟩ := hr hp
    have H : ∀ j, j < xss.length → ∃ z : SV, w.cell? ⟨b, off + j, none⟩ = some (encS z) ∧ SlI lo hi w (encS z) (xss.getD j []) := fun j hj => by
      obtain ⟨u, h1, h2⟩ := a3 j hj
      obtain ⟨x, y, rfl⟩ := h2.form
      exact ⟨(x, _, y), h1, h2⟩
    obtain ⟨f, hf⟩ := skolem_lt H
    refine ⟨(List.range xss.length).map f, ⟨by simp, fun j z hj => ?_⟩, fun a ha j u hj => ?_⟩
    · have hlt := (List.getElem?_eq_some_iff.1 hj).1
      simp at hlt
      rw [List.getElem?_map, List.getElem?_range hlt] at hj
      simp only [Option.map_some, Option.some.injEq] at hj
      subst hj
      exact (hf j hlt).2.in'
    · have hlt := (List.getElem?_eq_some_iff.1 hj).1
      simp at hlt
      rw [List.getElem?_map, List.getElem?_map, List.getElem?_range hlt] at hj
      simp only [Option.map_some, Option.some.injEq] at hj
      subst hj
      simp only [Option.some.injEq] at ha
      subst ha
      rw [addr_add]
      exact (hf j hlt).1
  · obtain rfl : xss = [] := List.length_eq_zero_iff.1 (by omega)
    exact ⟨[], Els.nil _, fun a _ j u hj => by simp at hj⟩

end Go.Proofs.Ytlcjcihohclmhaa
end
section
/- The terms of a clause, literal by literal: both sides. -/
namespace Go.Proofs.Ytlcjcihohclmhaa
open Go.RowKit

theorem news_two (w : World) (x y : Value) (t : TypeId) : ∀ j u, [x, y][j]? = some u → (w.alloc (.cells #[x, y] t)).cell? ((⟨w.heap.size, 0, none⟩ : Addr).add j) = some u := by
  intro j u hj
  match j, hj with
  | 0, hj => simp at hj; subst hj; rw [show (⟨w.heap.size, 0, none⟩ : Addr).add 0 = ⟨w.heap.size, 0, none⟩ from rfl, World.cell?_alloc_new w]; rfl
  | 1, hj => simp at hj; subst hj; rw [addr_add, World.cell?_alloc_new w]; rfl
theorem news_two_at (w : World) (x y : Value) (t : TypeId) (g : Nat) (hg : g = w.heap.size) : ∀ j u, [x, y][j]? = some u → (w.alloc (.cells #[x, y] t)).cell? ((⟨g, 0, none⟩ : Addr).add j) = some u := by subst hg; exact news_two w x y t
theorem news_one_at (w : World) (x : Value) (t : TypeId) (g : Nat) (hg : g = w.heap.size) : ∀ j u, [x][j]? = some u → (w.alloc (.cells #[x] t)).cell? ((⟨g, 0, none⟩ : Addr).add j) = some u := by subst hg; exact news_one w x t
theorem two_slice (a b : Option Addr) (n m c d : Nat) : ∀ u ∈ [Value.slice a n c, Value.slice b m d], u.oneCell' = true := by
  intro u hu; simp at hu; rcases hu with rfl | rfl <;> rfl
theorem flatC_take (c : List Lt) (k : Nat) (h : k < c.length) : flatC (c.take (k+1)) = flatC (c.take k) ++ [(c.getD k lt0).2.1] ++ [(c.getD k lt0).2.2] := by
  rw [List.take_succ_eq_append_getElem h, flatC_app]
  simp [flatC, List.getD, h]
/-- A literal's terms as they lie in the world W. -/
theorem SlC.two {lo hi : Nat} {w : World} {ad : Option Addr} {n k : Nat} {c : List Lt} (h : SlC lo hi w (.slice ad n k) c) (j : Nat) (hj : j < c.length) :
    ∃ (b off : Nat) (z1 z2 : SV), ad = some ⟨b, off, none⟩ ∧ b < w.heap.size ∧ w.cell? ⟨b, off + j * 3, none⟩ = some (.bool (c.getD j lt0).1) ∧ w.cell? ⟨b, off + j * 3 + 1, none⟩ = some (encS z1) ∧ w.cell? ⟨b, off + j * 3 + 2, none⟩ = some (encS z2) ∧
      SlI 0 w.heap.size w (encS z1) (c.getD j lt0).2.1 ∧ SlI 0 w.heap.size w (encS z2) (c.getD j lt0).2.2 := by
  obtain ⟨b, off, u1, u2, rfl, hb, c1, c2, c3, s1, s2⟩ := h.at (Bel.rfl' w) j hj
  obtain ⟨x1, y1, rfl⟩ := s1.form
  obtain ⟨x2, y2, rfl⟩ := s2.form
  exact ⟨b, off, (x1, _, y1), (x2, _, y2), rfl, hb, c1, c2, c3, s1.in', s2.in'⟩

set_option maxRecDepth 100000 in
set_option maxHeartbeats 400000 in
theorem termsIn_c (l h : Nat) (v : Value) (c : List Lt) (w : World) (hx : c.length ≤ 1048576) (hv : SlC l h w v c) :
    Calls Try.prog 65 #[v] w (RetRow w (flatC c)) := by
  obtain ⟨i1, hi1, hy0, hy1, hy2⟩ := info_parts Try.info24
  obtain ⟨ad, cap, rfl⟩ := hv.form
  go_enter Try.func65, Try.ntmps65
  go_wp2_with fail
  go_loopw [3, 8] (fun o i wr => ∃ k : Nat, k ≤ c.length ∧ i = .int .i64 k ∧ RowV w wr o (flatC (c.take k)) ∧ Bel w wr) (fun _ i _ => c.length - (intOf i).toNat)
  case atStart => exact ⟨0, Nat.zero_le _, rfl, ⟨[], World.ownsRow_nil _ _ _ _, Els.nil _⟩, Bel.rfl' _⟩
  case round =>
    obtain ⟨k, hk, rfl, hrow, hb⟩ := hrel
    by_cases hlt : k < c.length
    · obtain ⟨b, off, z1, z2, rfl, hbs, e1, e2, e3, s1, s2⟩ := hv.two k hlt
      have c1 := hb.at (World.block_lt_of_cell? _ ⟨_, _, none⟩ e1) e1
      have c2 := hb.at (World.block_lt_of_cell? _ ⟨_, _, none⟩ e2) e2
      have c3 := hb.at (World.block_lt_of_cell? _ ⟨_, _, none⟩ e3) e3
      have HF := Lib.hid (flatC_take c k hlt)
      have hfl := flatC_len (c.take k)
      have hkl : (c.take k).length = k := by rw [List.length_take]; omega
      obtain ⟨zs, ho, hE⟩ := hrow
      have hzl := hE.1
      have hE2 := Lib.hid ((hE.snoc s1).snoc s2)
      have hin1 : (k : Int) < c.length := by omega
      generalize (c.getD k lt0).1 = p at *
      obtain ⟨a1, n1, d1⟩ := z1
      obtain ⟨a2, n2, d2⟩ := z2
      simp only [encS] at c2 c3
      have hbz := hb.size
      clear hv s1 s2 hE e1 e2 e3
      go_wp2_with (at_builtin; refine wpList_append_own _ rfl _ _ 27 rfl w.heap.size 24 i1 (.slice none 0 0) 1 24 Try.underlying27 hi1 hy0 hy1 hy2 rfl (by decide) _ _ _ rfl ((ho.alloc _).alloc _) ⟨wr.heap.size + 1, 0, none⟩ 2 2 [.slice a1 n1 d1, .slice a2 n2 d2] rfl rfl (news_two_at _ _ _ _ _ (by simp)) (two_slice _ _ _ _ _ _) (by unfold maxLen; rw [hzl]; omega) (by rw [hzl]; omega) (by simp; omega) ?_; intro v' w1 hown' hgrow _)
      go_roundw
      case rel =>
        refine ⟨k+1, by omega, by go_num, ?_, ?_⟩
        · rw [HF.out]
          exact ⟨zs ++ [(a1, n1, d1)] ++ [(a2, n2, d2)], by simpa [encS] using hown', hE2.out⟩
        · exact ((hb.alloc _).alloc _).grown hgrow (fun q hq => own_base ho q hq)
      case measure => simp [intOf]; omega
    · rw [List.take_of_length_le (by omega)] at hrow
      obtain ⟨og, oc, rfl⟩ := hrow.form
      go_wp2_with fail
      go_ret
      exact ⟨_, _, _, rfl, hrow, hb⟩

end Go.Proofs.Ytlcjcihohclmhaa
end
section
/- Chapter 4: facts on the answers. No program. -/
namespace Go.Proofs.Ytlcjcihohclmhaa
open Go.RowKit

theorem flat_all (ar : List Int) (c : List Lt) : (flatC c).all (okTerm ar) = c.all (okLit ar) := by
  induction c with
  | nil => rfl
  | cons x r ih => rw [flatC_cons]; simp only [List.all_cons, ih, okLit, Bool.and_assoc]
theorem goodTerms_flat (ar : List Int) {c : List Lt} (h : c.length ≤ 8) : goodTerms ar (flatC c) 16 = goodClause ar c := by
  unfold goodTerms goodClause okLits
  rw [flat_all, flatC_len, decide_eq_true (show 2 * c.length ≤ 16 by omega), decide_eq_true h, Bool.and_true, Bool.true_and]
theorem goodClause_long (ar : List Int) {c : List Lt} (h : ¬ c.length ≤ 8) : goodClause ar c = false := by
  unfold goodClause okLits
  rw [decide_eq_false h]; simp
theorem flat_mem {c : List Lt} {t : List Int} (h : t ∈ flatC c) : ∃ x ∈ c, t = x.2.1 ∨ t = x.2.2 := by
  unfold flatC at h
  obtain ⟨x, hx, ht⟩ := List.mem_flatMap.1 h
  exact ⟨x, hx, by simpa using ht⟩
theorem flat_ok {ar : List Int} {c : List Lt} (h : ∀ x ∈ c, okLit ar x = true) {t : List Int} (ht : t ∈ flatC c) : okTerm ar t = true := by
  obtain ⟨x, hx, e⟩ := flat_mem ht
  have := okLit_iff.1 (h x hx)
  rcases e with rfl | rfl
  · exact this.1
  · exact this.2
theorem mem_getD {α : Type} (l : List α) (d : α) (j : Nat) (h : j < l.length) : l.getD j d ∈ l := by
  rw [List.getD_eq_getElem?_getD, List.getElem?_eq_getElem h]; exact List.getElem_mem h
theorem ok_litC {ar : List Int} {c : List Lt} (h : goodClause ar c = true) {j : Nat} (hj : j < c.length) : okTerm ar (c.getD j lt0).2.1 = true ∧ okTerm ar (c.getD j lt0).2.2 = true :=
  okLits_get (goodClause_iff.1 h).2.2 j hj

theorem low_memC {t : List Int} (h : ∀ n ∈ t, -12 ≤ n) : ∀ k, k < t.length → -12 ≤ t.getD k 0 := fun k hk => h _ (mem_getD t 0 k hk)
theorem ok_low {ar t : List Int} (h : okTerm ar t = true) {n : Int} (hn : n ∈ t) : -12 ≤ n := by
  obtain ⟨k, hk, rfl⟩ := List.getElem_of_mem hn
  have := good_sym ar t h k hk
  simp [okSym, inB, hk] at this
  exact this.1
theorem flat_low {ar : List Int} {c : List Lt} (h : goodClause ar c = true) : ∀ k, k < (flatC c).flatten.length → -12 ≤ (flatC c).flatten.getD k 0 := by
  refine low_memC fun n hn => ?_
  obtain ⟨t, ht, hnt⟩ := List.mem_flatten.1 hn
  exact ok_low (flat_ok (goodClause_iff.1 h).2.2 ht) hnt

/-- The signs of c, those terms. -/
theorem zipC_len (c : List Lt) : ∀ ts : List (List Int), ts.length = 2 * c.length → (zipC c ts).length = c.length := by
  induction c with
  | nil => intro ts _; rfl
  | cons x c ih =>
    intro ts h
    match ts, h with
    | l :: r :: ts, h => simp [zipC, ih ts (by simp at h; omega)]
theorem zipC_flat (c : List Lt) : ∀ ts : List (List Int), ts.length = 2 * c.length → flatC (zipC c ts) = ts := by
  induction c with
  | nil => intro ts h; simp at h; subst h; rfl
  | cons x c ih =>
    intro ts h
    match ts, h with
    | l :: r :: ts, h => simp only [zipC, flatC_cons]; rw [ih ts (by simp at h; omega)]
theorem zipC_signs (c : List Lt) : ∀ ts : List (List Int), ts.length = 2 * c.length → (zipC c ts).map (·.1) = c.map (·.1) := by
  induction c with
  | nil => intro ts _; rfl
  | cons x c ih =>
    intro ts h
    match ts, h with
    | l :: r :: ts, h => simp [zipC, ih ts (by simp at h; omega)]
theorem zipC_get (c : List Lt) : ∀ (ts : List (List Int)) (j : Nat), ts.length = 2 * c.length → j < c.length → (zipC c ts).getD j lt0 = ((c.getD j lt0).1, ts.getD (2*j) [], ts.getD (2*j+1) []) := by
  induction c with
  | nil => intro ts j _ h; simp at h
  | cons x c ih =>
    intro ts j h hj
    match ts, h with
    | l :: r :: ts, h =>
      cases j with
      | zero => simp [zipC]
      | succ j =>
        have := ih ts j (by simp at h; omega) (by simpa using hj)
        simpa [zipC, show 2 * (j + 1) = 2 * j + 1 + 1 from by omega] using this
theorem zipC_map (f : List Int → List Int) (c : List Lt) : zipC c ((flatC c).map f) = c.map fun x => (x.1, f x.2.1, f x.2.2) := by
  induction c with
  | nil => rfl
  | cons x c ih => rw [flatC_cons]; simp [zipC, ih]

def varsInAns (ar : List Int) (c : List Lt) : List Int := if goodClause ar c then natsI (varsTo (mk (flatC c).flatten) 12) else []
theorem varsInAns_len (ar : List Int) (c : List Lt) : (varsInAns ar c).length ≤ 1048576 := by
  unfold varsInAns
  split
  · rw [natsI_len]; exact Nat.le_trans (varsTo_len _ _) (by omega)
  · exact Nat.zero_le _

def applyC (b : List (List Int)) (c : List Lt) : List Lt := c.map fun x => (x.1, appT b x.2.1, appT b x.2.2)
def applyCok (ar : List Int) (b : List (List Int)) (c : List Lt) : Bool := (goodSubst ar b && okLits ar c) && okLits ar (applyC b c)
def applyCAns (ar : List Int) (b : List (List Int)) (c : List Lt) : List Lt := if applyCok ar b c then applyC b c else []
theorem applyC_flat (b : List (List Int)) (c : List Lt) : flatC (applyC b c) = (flatC c).map (appT b) := by
  induction c with
  | nil => rfl
  | cons x c ih => rw [flatC_cons, show applyC b (x :: c) = (x.1, appT b x.2.1, appT b x.2.2) :: applyC b c from rfl, flatC_cons, ih]; rfl
theorem applyC_ok {ar : List Int} {b : List (List Int)} {c : List Lt} (hb : goodSubst ar b = true) (hc : okLits ar c = true) : okLits ar (applyC b c) = (flatC c).all (app40ok b) := by
  obtain ⟨hl, h⟩ := okLits_iff.1 hc
  unfold okLits
  rw [← flat_all, applyC_flat, show (applyC b c).length = c.length from by simp [applyC], decide_eq_true hl, Bool.true_and, List.all_map]
  rw [Bool.eq_iff_iff, List.all_eq_true, List.all_eq_true]
  constructor
  · intro k t ht
    rw [← app_ok hb (flat_ok h ht)]; exact k t ht
  · intro k t ht
    show okTerm ar (appT b t) = true
    rw [app_ok hb (flat_ok h ht)]; exact k t ht

def renC (c : List Lt) : List Lt := zipC c (renS [] (flatC c))
def renCAns (ar : List Int) (c : List Lt) : List Lt := if goodClause ar c then renC c else []
end Go.Proofs.Ytlcjcihohclmhaa
end
section
/- Chapter 4, the program: GoodClause, WeightOf. -/
namespace Go.Proofs.Ytlcjcihohclmhaa
open Go.RowKit

theorem short_flat {c : List Lt} (h : sumC c ≤ 1048576) : sumL (flatC c) ≤ 1048576 ∧ ∀ j, j < (flatC c).length → ((flatC c).getD j []).length ≤ 1048576 := by
  have h1 : sumL (flatC c) ≤ 1048576 := by have := sumC_eq c; unfold lenC at this; omega
  exact ⟨h1, fun j hj => by have := sumL_get (flatC c) j hj; omega⟩
theorem short_flat8 {c : List Lt} (h : sumC c ≤ 1048576) (h8 : c.length ≤ 8) : short (flatC c) := ⟨by rw [flatC_len]; omega, (short_flat h).2⟩

theorem short_flat8s {c : List Lt} (h : shortC c) (h8 : c.length ≤ 8) : short (flatC c) := by
  refine ⟨by rw [flatC_len]; omega, fun j hj => ?_⟩
  obtain ⟨x, hx, e⟩ := flat_mem (mem_getD (flatC c) [] j hj)
  obtain ⟨i, hi, rfl⟩ := List.getElem_of_mem hx
  have := h.2 i hi
  rw [show c.getD i lt0 = c[i] from by simp [List.getD, hi]] at this
  rcases e with e | e <;> rw [e]
  · exact this.1
  · exact this.2

set_option maxRecDepth 100000 in
set_option maxHeartbeats 400000 in
theorem iGoodClause_sh {l h l' h' : Nat} {v u : Value} {ar : List Int} {c : List Lt} {w : World} (ha : ar.length ≤ 1048576) (hv : SlI l h w v ar) (hc : shortC c) (hu : SlC l' h' w u c) :
    Calls Try.prog 33 #[.agg #[v], u] w (RetV w (.bool (goodClause ar c))) := by
  obtain ⟨ad, cap, rfl⟩ := hu.form
  have hle := hc.1
  by_cases h8 : c.length ≤ 8
  · have hd : decide ((c.length : Int) ≤ 8) = true := by rw [decide_eq_true]; omega
    have HE := Lib.hid (goodTerms_flat ar h8)
    have hsh := short_flat8s hc h8
    have HT := Lib.hid (fun (w' : World) (hb : Bel w w') => termsIn_c l' h' _ c w' (by omega) (hu.below hb))
    have HD := Lib.hid (fun (w' : World) (x : Value) (hb : Bel w w') (hx : SlS 0 w'.heap.size w' x (flatC c)) => goodTerms_c l h _ _ v x ar (flatC c) 16 w' (by omega) ha (hv.below hb) hsh hx)
    rw [HE.out] at HD
    clear hsh hle hu hv HE h8
    have HB0 : Bel w (w.alloc (.cells #[v] 26)).drew := (Bel.alloc0 _ _).drew
    have hbox0 : (w.alloc (.cells #[v] 26)).drew.cell? ⟨w.heap.size, 0, none⟩ = some v := boxc ((Bel.rfl' _).drew) 0 _ rfl
    go_enter Try.func33, Try.ntmps33
    go_wp2_with fail
    go_region_held3 (fun w' => Bel w w' ∧ w'.cell? ⟨w.heap.size, 0, none⟩ = some v)
      (first | exact ⟨HB2, hbox2⟩ | exact ⟨HB1, hbox1⟩ | exact ⟨HB0, hbox0⟩ | fail)
      (first | (go_at_call 64; refine (HD.out _ _ HB1 hrow).mono ?_; rintro e w2 ⟨rfl, hb2⟩; have HB2 := HB1.step hb2; have hbox2 := hb2.at (World.block_lt_of_cell? _ ⟨_, _, none⟩ hbox1) hbox1) | (go_at_call 65; refine (HT.out _ HB0).mono ?_; rintro e w1 ⟨ad1, n1, c1, rfl, hrw, hb1⟩; have HB1 := HB0.step hb1; have hbox1 := hb1.at (World.block_lt_of_cell? _ ⟨_, _, none⟩ hbox0) hbox0; have hrow := hrw.sls hb1) | fail)
    go_wp2_with fail
    go_ret
    exact ⟨rfl, HB2⟩
  · have hd : decide ((c.length : Int) ≤ 8) = false := by rw [decide_eq_false]; omega
    have E := Lib.hid (goodClause_long ar h8)
    clear h8
    go_enter Try.func33, Try.ntmps33
    go_wp2_with fail
    have hbox0 : (w.alloc (.cells #[v] 26)).drew.cell? ⟨w.heap.size, 0, none⟩ = some v := boxc ((Bel.rfl' _).drew) 0 _ rfl
    go_region
    all_goals
      go_wp2_with fail
      go_ret
      exact ⟨by rw [E.out]; rfl, (Bel.alloc0 _ _).drew⟩
theorem iGoodClause_t {l h l' h' : Nat} {v u : Value} {ar : List Int} {c : List Lt} {w : World} (ha : ar.length ≤ 1048576) (hv : SlI l h w v ar) (hc : sumC c ≤ 1048576) (hu : SlC l' h' w u c) :
    Calls Try.prog 33 #[.agg #[v], u] w (RetV w (.bool (goodClause ar c))) := iGoodClause_sh ha hv (shortC_of_sum hc) hu
theorem iGoodClause_v {l h l' h' : Nat} {v u : Value} {ar : List Int} {c : List Lt} {w : World} {q : Bool} (he : goodClause ar c = q) (ha : ar.length ≤ 1048576) (hv : SlI l h w v ar) (hc : sumC c ≤ 1048576) (hu : SlC l' h' w u c) :
    Calls Try.prog 33 #[.agg #[v], u] w (RetV w (.bool q)) := by subst he; exact iGoodClause_t ha hv hc hu

end Go.Proofs.Ytlcjcihohclmhaa
end
section
/- Chapter 4, the program: VarsIn. -/
namespace Go.Proofs.Ytlcjcihohclmhaa
open Go.RowKit

set_option maxRecDepth 100000 in
set_option maxHeartbeats 400000 in
theorem concat_nil (w : World) : Calls Try.prog 77 #[.slice none 0 0] w (RetI w []) := by
  go_enter Try.func77, Try.ntmps77
  go_wp2_with fail
  go_loop [3, 11] (fun n i => n = .int .i64 0 ∧ i = .int .i64 0) (fun _ _ => 0)
  case atStart => exact ⟨rfl, rfl⟩
  case round =>
    obtain ⟨rfl, rfl⟩ := hrel
    go_wp2_with fail
    refine (grow_c 0 _ (by omega)).mono ?_; rintro e w1 ⟨ad, m, c1, rfl, hown, hb⟩
    go_wp2_with fail
    go_loopw [6, 27] (fun v i wr => i = .int .i64 0 ∧ v = .slice ad m c1 ∧ wr = w1) (fun _ _ _ => 0)
    case atStart => exact ⟨rfl, rfl, rfl⟩
    case round =>
      obtain ⟨rfl, rfl, rfl⟩ := hrel
      go_wp2_with fail
      go_ret
      exact ⟨_, _, _, rfl, OwnI.of_row hown, hb⟩
theorem concatV_c (W : World) (v : Value) (L : List (List Int)) (w : World) (hb : Bel W w) (hL : L.length ≤ 1048576) (hs : sumLen L ≤ 1099511627776) (hv : RowV W w v L) :
    Calls Try.prog 77 #[v] w (RetI w L.flatten) := by
  have hsl := hv.sls hb
  obtain ⟨zs, h1, h2⟩ := hv
  rcases h1.2 with ⟨rfl, hn⟩ | ⟨g, cap, cur, rfl, _⟩
  · have : L = [] := List.length_eq_zero_iff.1 (by rw [← h2.1]; exact hn)
    subst this
    exact concat_nil w
  · obtain ⟨ad, cap', e, hc, hm, hr⟩ := hsl
    simp only [Value.slice.injEq] at e
    obtain ⟨rfl, e2, rfl⟩ := e
    rw [e2]
    refine concat_c 0 w.heap.size g 0 cap L w hL hs (fun j hj => ?_)
    obtain ⟨b, off, e3, _, _, hx⟩ := hr (by omega)
    simp only [Option.some.injEq, Addr.mk.injEq, and_true] at e3
    obtain ⟨rfl, rfl⟩ := e3
    obtain ⟨u, h1, h2⟩ := hx j hj
    obtain ⟨y, z, rfl⟩ := h2.form
    exact ⟨y, z, h1, h2⟩

set_option maxRecDepth 100000 in
set_option maxHeartbeats 400000 in
theorem clauseVars_c {l' h' : Nat} {u : Value} {c : List Lt} {w : World} (hsum : sumL (flatC c) ≤ 1048576) (h8 : c.length ≤ 8) (hlow : ∀ k, k < (flatC c).flatten.length → -12 ≤ (flatC c).flatten.getD k 0) (hu : SlC l' h' w u c) :
    Calls Try.prog 59 #[u] w (RetI w (natsI (varsTo (mk (flatC c).flatten) 12))) := by
  have hfl := flatC_len c
  have HC := Lib.hid (termsIn_c l' h' u c w (by omega) hu)
  have hcl : c.length ≤ 1048576 := by omega
  clear hu
  go_enter Try.func59, Try.ntmps59
  go_wp2_with fail
  refine HC.out.mono ?_; rintro e w2 ⟨a2, n2, c2, rfl, hrow, hb2⟩
  have hsl : sumLen (flatC c) = sumL (flatC c) := rfl
  have hfn := flat_len (flatC c)
  generalize flatC c = L at *
  go_wp2_with fail
  refine (concatV_c w _ L w2 hb2 (by omega) (by omega) hrow).mono ?_; rintro e w3 ⟨a3, n3, c3, rfl, ho3, hb3⟩
  go_wp2_with fail
  refine (marksOf_c _ _ _ L.flatten w3 (by omega) hlow ho3.sl).mono ?_; rintro e w4 ⟨rfl, hb4⟩
  go_wp2_with fail
  refine (mvars_c _ w4).mono ?_; rintro e w5 ⟨a5, n5, c5, rfl, ho5, hb5⟩
  have HB4 := (hb2.step hb3).step hb4
  go_wp2_with fail
  go_ret
  exact ⟨_, _, _, rfl, ho5.mono HB4.size (Nat.le_refl _), HB4.step hb5⟩

set_option maxRecDepth 100000 in
set_option maxHeartbeats 400000 in
theorem iVarsIn_t {l h l' h' : Nat} {v u : Value} {ar : List Int} {c : List Lt} {w : World} (ha : ar.length ≤ 1048576) (hv : SlI l h w v ar) (hc : sumC c ≤ 1048576) (hu : SlC l' h' w u c) :
    Calls Try.prog 55 #[.agg #[v], u] w (RetIB w (varsInAns ar c) (goodClause ar c)) := by
  unfold varsInAns
  cases hg : goodClause ar c with
  | false =>
    rw [if_neg (by simp)]
    have HG := Lib.hid hg; clear hg
    go_enter Try.func55, Try.ntmps55
    go_wp2_with fail
    refine (iGoodClause_v HG.out ha (hv.alloc _) hc (hu.alloc _)).mono ?_; rintro e w1 ⟨rfl, hb1⟩
    go_wp2_with fail
    go_ret2
    exact ⟨_, _, _, rfl, OwnI.nil _ _ _, hb1.of_alloc⟩
  | true =>
    rw [if_pos rfl]
    have hsum := (short_flat hc).1
    have hlow := flat_low hg
    have h8 := (goodClause_iff.1 hg).2.1
    have HG := Lib.hid hg; clear hg
    have HC := Lib.hid (fun (w' : World) (hb : Bel w w') => clauseVars_c hsum h8 hlow (hu.below hb))
    go_enter Try.func55, Try.ntmps55
    go_wp2_with fail
    refine (iGoodClause_v HG.out ha (hv.alloc _) hc (hu.alloc _)).mono ?_; rintro e w1 ⟨rfl, hb1⟩
    clear hc hu hv hlow
    go_wp2_with fail
    refine (HC.out _ hb1.of_alloc).mono ?_; rintro e w5 ⟨a5, n5, c5, rfl, ho5, hb5⟩
    go_wp2_with fail
    go_ret2
    exact ⟨_, _, _, rfl, ho5.mono hb1.of_alloc.size (Nat.le_refl _), hb1.of_alloc.step hb5⟩
end Go.Proofs.Ytlcjcihohclmhaa
end
section
/- Chapter 5: the value of a term; of an instance. No program. -/
namespace Go.Proofs.Ytlcjcihohclmhaa
open Go.RowKit

/-- The entry of symbol n's table for the values vs. -/
def noOf (sz : Int) (vs : List Int) : Int := vs.foldl (fun no v => no * sz + v) 0
def entry (sz : Int) (tb : List (List Int)) (n : Int) (vs : List Int) : Int := (tb.getD n.toNat []).getD (noOf sz vs).toNat 0
def evF (ar t : List Int) (sz : Int) (tb : List (List Int)) (env : List Int) : Nat → Nat → Int
  | 0, _ => 0
  | f + 1, i => if t.getD i 0 < 0 then env.getD (-1 - t.getD i 0).toNat 0 else entry sz tb (t.getD i 0) ((argsOf ar t i).map (evF ar t sz tb env f))
def evT (ar : List Int) (sz : Int) (tb : List (List Int)) (env t : List Int) : Int := evF ar t sz tb env t.length 0

/-- The terms y have the values vs; none: one term; some m: m terms. -/
inductive Ev (ar : List Int) (sz : Int) (tb : List (List Int)) (env : List Int) : Option Nat → List Int → List Int → Prop
  | var (n : Int) : okSym ar n = true → n < 0 → Ev ar sz tb env none [n] [env.getD (-1 - n).toNat 0]
  | node (n : Int) (ys vs : List Int) : okSym ar n = true → 0 ≤ n → Ev ar sz tb env (some (arOf ar n)) ys vs → Ev ar sz tb env none (n :: ys) [entry sz tb n vs]
  | nil : Ev ar sz tb env (some 0) [] []
  | cons (m : Nat) (y ys : List Int) (v : Int) (vs : List Int) : Ev ar sz tb env none y [v] → Ev ar sz tb env (some m) ys vs → Ev ar sz tb env (some (m + 1)) (y ++ ys) (v :: vs)
section
variable {ar : List Int} {sz : Int} {tb : List (List Int)} {env : List Int}
theorem Ev.seq {s : Option Nat} {y vs : List Int} (h : Ev ar sz tb env s y vs) : seqT ar (match s with | none => 1 | some m => m) y := by
  induction h with
  | var n h1 h2 => exact seqT_cons.2 ⟨h1, by rw [arOf_neg h2]; rfl⟩
  | node n ys vs h1 h2 _ ih => exact seqT_cons.2 ⟨h1, by rw [Nat.zero_add]; exact ih⟩
  | nil => rfl
  | cons m y ys v vs _ _ ih1 ih2 =>
    have := seqT_append ih1 ih2
    rwa [Nat.add_comm] at this
theorem Ev.det {s : Option Nat} {y vs : List Int} (h : Ev ar sz tb env s y vs) : ∀ {z us : List Int}, Ev ar sz tb env s z us → z = y → us = vs := by
  induction h with
  | var n h1 h2 =>
    intro z us h' e
    cases h' with
    | var n' _ _ => simp at e; rw [e]
    | node n' ys' vs' _ h3 _ => simp at e; omega
  | node n ys vs h1 h2 _ ih =>
    intro z us h' e
    cases h' with
    | var n' _ h3 => simp at e; omega
    | node n' ys' vs' _ _ h4 =>
      simp at e
      obtain ⟨rfl, rfl⟩ := e
      rw [ih h4 rfl]
  | nil =>
    intro z us h' e
    cases h' with
    | nil => rfl
  | cons m y ys v vs hy hys ih1 ih2 =>
    intro z us h' e
    cases h' with
    | cons _ y' ys' v' vs' h3 h4 =>
      have e1 : y' = y := seq_prefix (show seqT ar 1 y' from h3.seq) (show seqT ar 1 y from hy.seq) e
      subst e1
      have e2 := List.append_cancel_left e
      subst e2
      have e3 := ih1 h3 rfl
      simp at e3
      rw [e3, ih2 h4 rfl]
theorem args_ev {t : List Int} {g : Nat → Int} : ∀ (k p e : Nat), endGo ar (t.drop p) k p = some e → (∀ a ∈ argsGo ar t k p, ∀ q, endOf ar t a = some q → Ev ar sz tb env none (partOf t a q) [g a]) → Ev ar sz tb env (some k) (partOf t p e) ((argsGo ar t k p).map g) := by
  intro k
  induction k with
  | zero =>
    intro p e h _
    rw [endGo_zero] at h
    simp at h
    subst h
    have : partOf t p p = [] := by simp [partOf]
    rw [this]
    exact Ev.nil
  | succ k ih =>
    intro p e h hp
    obtain ⟨q, hq, hr, h1, h2⟩ := ends_step ar t p k e h
    have hgo : argsGo ar t (k+1) p = p :: argsGo ar t k q := by rw [argsGo]; simp [hq]
    rw [hgo] at hp ⊢
    rw [part_split (Nat.le_of_lt h1) h2, List.map_cons]
    exact Ev.cons k _ _ _ _ (hp p List.mem_cons_self q hq) (ih q e hr (fun a ha => hp a (List.mem_cons_of_mem _ ha)))
theorem ev_at {t : List Int} (h : okTerm ar t = true) : ∀ (n i e : Nat), t.length - i ≤ n → i < t.length → endOf ar t i = some e → Ev ar sz tb env none (partOf t i e) [evF ar t sz tb env n i] := by
  intro n
  induction n with
  | zero => intro i e hn hi; omega
  | succ n ih =>
    intro i e hn hi he
    have hs := good_sym ar t h i hi
    have hend : endGo ar (t.drop (i+1)) (arOf ar (t.getD i 0)) (i+1) = some e := by
      have h1 := he
      unfold endOf at h1
      rw [drop_cons t i hi, endGo_cons, if_pos hs, Nat.zero_add] at h1
      exact h1
    have hge := endGo_ge _ _ _ _ _ hend
    have hpart : partOf t i e = t.getD i 0 :: partOf t (i+1) e := by
      unfold partOf
      rw [drop_cons t i hi, show e - i = (e - (i+1)) + 1 by omega, List.take_succ_cons]
    rw [hpart, evF]
    by_cases h0 : t.getD i 0 < 0
    · rw [if_pos h0]
      rw [arOf_neg h0, endGo_zero] at hend
      simp at hend
      subst hend
      have : partOf t (i+1) (i+1) = [] := by simp [partOf]
      rw [this]
      exact Ev.var _ hs h0
    · rw [if_neg h0]
      exact Ev.node _ _ _ hs (by omega) (args_ev _ (i+1) e hend (fun a ha q hq => by
        have hb := argsOf_bd ar t h i hi a ha
        exact ih a q (by omega) hb.2 hq))
/-- A valid term has its value. -/
theorem ev_whole {t : List Int} (h : okTerm ar t = true) : Ev ar sz tb env none t [evT ar sz tb env t] := by
  obtain ⟨h1, _, h3⟩ := (okTerm_iff ar t).1 h
  have := ev_at (sz := sz) (tb := tb) (env := env) h t.length 0 t.length (by omega) (by omega) h3
  rwa [show partOf t 0 t.length = t from by simp [partOf]] at this
theorem ev_eq {t : List Int} {n : Int} (h : okTerm ar t = true) (hv : Ev ar sz tb env none t [n]) : evT ar sz tb env t = n := by
  have := hv.det (ev_whole h) rfl
  simpa using this
/-- More fuel changes nothing. -/
theorem evF_fuel {t : List Int} (h : okTerm ar t = true) (n i : Nat) (hn : t.length - i ≤ n) (hi : i < t.length) : evF ar t sz tb env n i = evF ar t sz tb env (t.length - i) i := by
  obtain ⟨e, he, _⟩ := good_end ar t h i hi
  have h1 := ev_at (sz := sz) (tb := tb) (env := env) h n i e hn hi he
  have h2 := ev_at (sz := sz) (tb := tb) (env := env) h (t.length - i) i e (Nat.le_refl _) hi he
  have := h2.det h1 rfl
  simpa using this
/-- The value of an instance is the value under the values of the substitution. -/
theorem Ev.sub {env' : List Int} {b : List (List Int)} (hb : ∀ n : Int, okSym ar n = true → n < 0 → Ev ar sz tb env none (one1 b n) [env'.getD (-1 - n).toNat 0]) {s : Option Nat} {y vs : List Int} (h : Ev ar sz tb env' s y vs) : Ev ar sz tb env s (appT b y) vs := by
  induction h with
  | var n h1 h2 => rw [appT_one]; exact hb n h1 h2
  | node n ys vs h1 h2 _ ih =>
    have e : appT b (n :: ys) = n :: appT b ys := by
      show one1 b n ++ appT b ys = _
      rw [one1_sym (by omega)]; rfl
    rw [e]
    exact Ev.node n _ vs h1 h2 ih
  | nil => exact Ev.nil
  | cons m y ys v vs _ _ ih1 ih2 => rw [appT_append]; exact Ev.cons m _ _ v vs ih1 ih2
/-- The values that an assignment gives to a substitution. -/
def subEnv (ar : List Int) (sz : Int) (tb : List (List Int)) (env : List Int) (b : List (List Int)) : List Int := (List.range 12).map fun v => if 0 < (b.getD v []).length then evT ar sz tb env (b.getD v []) else env.getD v 0
theorem sub_value {b : List (List Int)} {t : List Int} (ht : okTerm ar t = true) (hb : ∀ v, v < 12 → 0 < (b.getD v []).length → okTerm ar (b.getD v []) = true) (hi : okTerm ar (appT b t) = true) :
    evT ar sz tb env (appT b t) = evT ar sz tb (subEnv ar sz tb env b) t := by
  refine ev_eq hi (Ev.sub (env' := subEnv ar sz tb env b) (fun n h1 h2 => ?_) (ev_whole ht))
  have hlt : (-1 - n).toNat < 12 := by unfold okSym inB at h1; simp at h1; omega
  have hg : (subEnv ar sz tb env b).getD (-1 - n).toNat 0 = if 0 < (b.getD (-1 - n).toNat []).length then evT ar sz tb env (b.getD (-1 - n).toNat []) else env.getD (-1 - n).toNat 0 := by
    unfold subEnv
    rw [List.getD_eq_getElem?_getD, List.getElem?_map, List.getElem?_range hlt]
    rfl
  rw [hg]
  by_cases hp : 0 < (b.getD (-1 - n).toNat []).length
  · rw [if_pos hp, one1_var h2 hp]
    exact ev_whole (hb _ hlt hp)
  · rw [if_neg hp, one1_free hp]
    exact Ev.var n h1 h2
end
end Go.Proofs.Ytlcjcihohclmhaa
end
