/- RenameOf: both functions. -/
import Derived.Test.YtkbgglejhdodoaaRen3
import Derived.Test.YtkbgglejhdodoaaApply3
import Derived.Test.YtkbgglejhdodoaaGoods
namespace Go.Proofs.Ytkbgglejhdodoaa
open Go.RowKit

def renameOk (ar : List Int) (b : List (List Int)) : Bool := goodSign ar && decide (b.length ≤ 20) && b.all (okTerm ar)
def renameAns (ar : List Int) (b : List (List Int)) : List (List Int) := if renameOk ar b then renS [] b else []
theorem renameAns_no {ar : List Int} {b : List (List Int)} (h : renameOk ar b = false) : renameAns ar b = [] := by simp [renameAns, h]
theorem renameAns_yes {ar : List Int} {b : List (List Int)} (h : renameOk ar b = true) : renameAns ar b = renS [] b := by simp [renameAns, h]
theorem renameOk_iff {ar : List Int} {b : List (List Int)} : renameOk ar b = true ↔ goodSign ar = true ∧ b.length ≤ 20 ∧ ∀ t ∈ b, okTerm ar t = true := by
  simp only [renameOk, Bool.and_eq_true, decide_eq_true_eq, List.all_eq_true]
  constructor
  · rintro ⟨⟨h1, h2⟩, h3⟩; exact ⟨h1, h2, h3⟩
  · rintro ⟨h1, h2, h3⟩; exact ⟨⟨h1, h2⟩, h3⟩
theorem renameOk_rows {ar : List Int} {b : List (List Int)} (h : renameOk ar b = true) : rows40 b := by
  obtain ⟨_, h2, h3⟩ := renameOk_iff.1 h
  refine ⟨h2, fun j hj => ?_⟩
  have ho := h3 (b.getD j []) (by simp [List.getD, hj])
  exact ⟨((okTerm_iff _ _).1 ho).2.1, okTerm_low ho⟩
theorem sumL_le40 (l : List (List Int)) (h : ∀ t ∈ l, t.length ≤ 40) : sumL l ≤ 40 * l.length := by
  unfold sumL
  induction l with
  | nil => simp
  | cons x r ih =>
    have h1 := ih (fun t ht => h t (List.mem_cons_of_mem _ ht))
    have h2 := h x List.mem_cons_self
    simp only [List.map_cons, List.sum_cons, List.length_cons]
    omega
theorem renS_lens (met : List Int) (l : List (List Int)) (h : ∀ t ∈ l, t.length ≤ 40) : ∀ t ∈ renS met l, t.length ≤ 40 := by
  induction l generalizing met with
  | nil => intro t ht; simp [renS] at ht
  | cons x r ih =>
    intro t ht
    simp only [renS, List.mem_cons] at ht
    rcases ht with rfl | ht
    · rw [renT_len]; exact h x List.mem_cons_self
    · exact ih _ (fun t ht => h t (List.mem_cons_of_mem _ ht)) t ht
theorem renameAns_len (ar : List Int) (b : List (List Int)) : tot (renameAns ar b) ≤ 1048576 := by
  unfold renameAns
  split
  · rename_i h
    have hr := renameOk_rows h
    have h1 := sumL_le40 _ (renS_lens [] b hr.mem)
    have h2 := hr.1
    unfold tot
    rw [renS_len] at h1 ⊢
    omega
  · simp [tot, sumL]

set_option maxRecDepth 100000 in
set_option maxHeartbeats 400000 in
theorem sRenameOf_t {l h l' h' : Nat} {v u : Value} {ar : List Int} {b : List (List Int)} {w : World} (ha : ar.length ≤ 1048576) (hv : SlI l h w v ar) (hb : short b) (hu : SlS l' h' w u b) :
    Calls Try.prog 20 #[.agg #[v], u] w (RetSSB w (renameAns ar b) (renameOk ar b)) := by
  obtain ⟨ad', cap', rfl⟩ := hu.form
  obtain ⟨-, hm⟩ := hb
  cases hs : goodSign ar with
  | false =>
    have E := Lib.hid (renameAns_no (show renameOk ar b = false by simp [renameOk, hs]))
    have E2 : Hid (renameOk ar b = false) := by show _ = _; simp [renameOk, hs]
    have HS := Lib.hid hs; clear hs
    go_enter Try.func20, Try.ntmps20
    go_wp2_with fail
    refine (sGoodSign_v _ _ _ _ _ _ HS.out ha (hv.alloc _)).mono ?_; rintro e w' ⟨rfl, hb1⟩
    go_wp2_with fail
    go_ret2
    exact ⟨_, _, _, by rw [E2.out]; rfl, by rw [E.out]; exact OwnS.nil _ _ _, hb1.of_alloc⟩
  | true =>
    by_cases hl : b.length ≤ 20
    · have hG : Hid (renameOk ar b = b.all (okTerm ar)) := by show _ = _; simp [renameOk, hs, hl]
      have hg := hs
      have HS := Lib.hid hs; clear hs
      have hl2 : decide ((20 : Int) < b.length) = false := by simp; omega
      go_enter Try.func20, Try.ntmps20
      go_wp2_with fail
      refine (sGoodSign_v _ _ _ _ _ _ HS.out ha (hv.alloc _)).mono ?_; rintro e w1 ⟨rfl, hb1⟩
      have hbox := boxc hb1 0 _ rfl
      go_wp2_with fail
      go_loopw [18] (fun i wr => ∃ k : Nat, k ≤ b.length ∧ i = .int .i64 k ∧ (b.take k).all (okTerm ar) = true ∧ Bel (w.alloc (.cells #[v] 28)) wr) (fun i _ => b.length - (intOf i).toNat)
      case atStart => exact ⟨0, Nat.zero_le _, rfl, rfl, hb1⟩
      case round =>
        obtain ⟨k, hk, rfl, hall, hb2⟩ := hrel
        have hbox2 := boxc hb2 0 _ rfl
        by_cases hlt : k < b.length
        · obtain ⟨bb, off, p, rfl, -, hc, hp⟩ := hu.at hb2.of_alloc k hlt
          have hmk := hm k hlt
          have hsp := all_splitS b (okTerm ar) k hlt hall
          have hfs := all_falseS b (okTerm ar) k hlt
          clear hm hu hbox hall
          generalize b.getD k [] = t at *
          obtain ⟨ap, cp, rfl⟩ := hp.form
          cases ht : okTerm ar t with
          | false =>
            have e0 : renameOk ar b = false := by rw [hG.out]; exact hfs ht
            have E := Lib.hid (renameAns_no e0)
            have E2 := Lib.hid e0
            have HT := Lib.hid ht
            clear ht hsp hfs e0
            go_wp2_with fail
            refine (l1Term_v _ _ _ _ _ _ _ _ _ _ HT.out hg (by omega) (hv.below hb2.of_alloc) hp).mono ?_; rintro e w2 ⟨rfl, hb3⟩
            go_wp2_with fail
            go_ret2
            exact ⟨_, _, _, by rw [E2.out]; rfl, by rw [E.out]; exact OwnS.nil _ _ _, hb2.of_alloc.step hb3⟩
          | true =>
            have HA := Lib.hid (hsp.trans ht)
            have HT := Lib.hid ht
            clear ht hsp hfs
            go_wp2_with fail
            refine (l1Term_v _ _ _ _ _ _ _ _ _ _ HT.out hg (by omega) (hv.below hb2.of_alloc) hp).mono ?_; rintro e w2 ⟨rfl, hb3⟩
            go_wp2_with fail
            go_roundw
            case rel => exact ⟨k+1, by omega, by go_num, HA.out, hb2.step hb3⟩
            case measure => simp [intOf]; omega
        · have e0 : renameOk ar b = true := by rw [hG.out]; exact all_doneS b _ k hk hlt hall
          have E := Lib.hid (renameAns_yes e0)
          have E2 := Lib.hid e0
          have hr := renameOk_rows e0
          have HC := Lib.hid (l2Rename_c _ _ _ b wr hr (hu.below hb2.of_alloc))
          clear hall e0 hr
          go_wp2_with fail
          refine HC.out.mono ?_; rintro e w2 ⟨ao, no, co, rfl, ho, hb3⟩
          go_wp2_with fail
          go_ret2
          exact ⟨_, _, _, by rw [E2.out]; rfl, by rw [E.out]; exact ho.mono (by have := hb2.size; simp at this; omega) (Nat.le_refl _), hb2.of_alloc.step hb3⟩
    · have hl' : ¬ b.length ≤ 20 := hl
      have E := Lib.hid (renameAns_no (show renameOk ar b = false by simp [renameOk, hl']))
      have E2 : Hid (renameOk ar b = false) := by show _ = _; simp [renameOk, hl']
      have HS := Lib.hid hs; clear hs
      have hl2 : decide ((20 : Int) < b.length) = true := by simp; omega
      go_enter Try.func20, Try.ntmps20
      go_wp2_with fail
      refine (sGoodSign_v _ _ _ _ _ _ HS.out ha (hv.alloc _)).mono ?_; rintro e w' ⟨rfl, hb1⟩
      go_wp2_with fail
      go_ret2
      exact ⟨_, _, _, by rw [E2.out]; rfl, by rw [E.out]; exact OwnS.nil _ _ _, hb1.of_alloc⟩

set_option maxRecDepth 100000 in
set_option maxHeartbeats 400000 in
theorem iRenameOf_t {l h l' h' : Nat} {v u : Value} {ar : List Int} {b : List (List Int)} {w : World} (ha : ar.length ≤ 1048576) (hv : SlI l h w v ar) (hb : short b) (hu : SlS l' h' w u b) :
    Calls Try.prog 19 #[.agg #[v], u] w (RetSSB w (renameAns ar b) (renameOk ar b)) := by
  cases hs : renameOk ar b with
  | false =>
    have E := Lib.hid (renameAns_no hs)
    have HC := Lib.hid (fun (w' : World) (hq : Bel w w') => goodTerms_v l h l' h' v u ar b 20 false w' hs (by omega) ha (hv.below hq) hb (hu.below hq))
    clear hs
    obtain ⟨ad', cap', rfl⟩ := hu.form
    go_enter Try.func19, Try.ntmps19
    go_wp2_with fail
    refine (HC.out _ (Bel.alloc0 _ _)).mono ?_; rintro e w' ⟨rfl, hb1⟩
    go_wp2_with fail
    go_ret2
    exact ⟨_, _, _, rfl, by rw [E.out]; exact OwnS.nil _ _ _, hb1.of_alloc⟩
  | true =>
    have E := Lib.hid (renameAns_yes hs)
    have hr := renameOk_rows hs
    have HC := Lib.hid (fun (w' : World) (hq : Bel w w') => goodTerms_v l h l' h' v u ar b 20 true w' hs (by omega) ha (hv.below hq) hb (hu.below hq))
    have HD := Lib.hid (fun (w' : World) (hq : Bel w w') => renamed_c _ _ _ b w' hr (hu.below hq))
    clear hs hr
    obtain ⟨ad', cap', rfl⟩ := hu.form
    go_enter Try.func19, Try.ntmps19
    go_wp2_with fail
    refine (HC.out _ (Bel.alloc0 _ _)).mono ?_; rintro e w1 ⟨rfl, hb1⟩
    go_wp2_with fail
    refine (HD.out _ hb1.of_alloc).mono ?_; rintro e w2 ⟨ao, no, co, rfl, ho, hb3⟩
    go_wp2_with fail
    go_ret2
    exact ⟨_, _, _, rfl, by rw [E.out]; exact ho.mono (by have := hb1.of_alloc.size; omega) (Nat.le_refl _), hb1.of_alloc.step hb3⟩
end Go.Proofs.Ytkbgglejhdodoaa
