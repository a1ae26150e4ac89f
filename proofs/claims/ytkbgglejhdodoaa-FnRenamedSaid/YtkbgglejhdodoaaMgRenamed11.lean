/- Texts merged, part 11. -/
import Derived.Test.YtkbgglejhdodoaaMgRenamed10
section
/- RenameOf: both functions. -/
namespace Go.Proofs.Ytkbgglejhdodoaa
open Go.RowKit

def renameOk (ar : List Int) (b : List (List Int)) : Bool := goodSign ar && decide (b.length ≤ 20) && b.all (okTerm ar)
def renameAns (ar : List Int) (b : List (List Int)) : List (List Int) := if renameOk ar b then renS [] b else []
theorem renameAns_no {ar : List Int} {b : List (List Int)} (h : renameOk ar b = false) : renameAns ar b = [] := by simp [renameAns, h]
theorem renameAns_yes {ar : List Int} {b : List (List Int)} (h : renameOk ar b = true) : renameAns ar b = renS [] b := by simp [renameAns, h]
theorem renameOk_iff {ar : List Int} {b : List (List Int)} : renameOk ar b = true ↔ goodSign ar = true ∧ b.length ≤ 20 ∧ ∀ t ∈ b, okTerm ar t = true := by
  simp only [renameOk, Bool.and_eq_true, decide_eq_true_eq, List.all_eq_true]
  constructor
  · rintro ⟨⟨h1, h2⟩, h3⟩; exact ⟨h1, h2, h3⟩
  · rintro ⟨h1, h2, h3⟩; exact ⟨⟨h1, h2⟩, h3⟩
theorem renameOk_rows {ar : List Int} {b : List (List Int)} (h : renameOk ar b = true) : rows40 b := by
  obtain ⟨_, h2, h3⟩ := renameOk_iff.1 h
  refine ⟨h2, fun j hj => ?_⟩
  have ho := h3 (b.getD j []) (by simp [List.getD, hj])
  exact ⟨((okTerm_iff _ _).1 ho).2.1, okTerm_low ho⟩
theorem sumL_le40 (l : List (List Int)) (h : ∀ t ∈ l, t.length ≤ 40) : sumL l ≤ 40 * l.length := by
  unfold sumL
  induction l with
  | nil => simp
  | cons x r ih =>
    have h1 := ih (fun t ht => h t (List.mem_cons_of_mem _ ht))
    have h2 := h x List.mem_cons_self
    simp only [List.map_cons, List.sum_cons, List.length_cons]
    omega
theorem renS_lens (met : List Int) (l : List (List Int)) (h : ∀ t ∈ l, t.length ≤ 40) : ∀ t ∈ renS met l, t.length ≤ 40 := by
  induction l generalizing met with
  | nil => intro t ht; simp [renS] at ht
  | cons x r ih =>
    intro t ht
    simp only [renS, List.mem_cons] at ht
    rcases ht with rfl | ht
    · rw [renT_len]; exact h x List.mem_cons_self
    · exact ih _ (fun t ht => h t (List.mem_cons_of_mem _ ht)) t ht
theorem renameAns_len (ar : List Int) (b : List (List Int)) : tot (renameAns ar b) ≤ 1048576 := by
  unfold renameAns
  split
  · rename_i h
    have hr := renameOk_rows h
    have h1 := sumL_le40 _ (renS_lens [] b hr.mem)
    have h2 := hr.1
    unfold tot
    rw [renS_len] at h1 ⊢
    omega
  · simp [tot, sumL]

set_option maxRecDepth 100000 in
set_option maxHeartbeats 400000 in
theorem sRenameOf_t {l h l' h' : Nat} {v u : Value} {ar : List Int} {b : List (List Int)} {w : World} (ha : ar.length ≤ 1048576) (hv : SlI l h w v ar) (hb : short b) (hu : SlS l' h' w u b) :
    Calls Try.prog 20 #[.agg #[v], u] w (RetSSB w (renameAns ar b) (renameOk ar b)) := by
  obtain ⟨ad', cap', rfl⟩ := hu.form
  obtain ⟨-, hm⟩ := hb
  cases hs : goodSign ar with
  | false =>
    have E := Lib.hid (renameAns_no (show renameOk ar b = false by simp [renameOk, hs]))
    have E2 : Hid (renameOk ar b = false) := by show _ = _; simp [renameOk, hs]
    have HS := Lib.hid hs; clear hs
    go_enter Try.func20, Try.ntmps20
    go_wp2_with fail
    refine (sGoodSign_v _ _ _ _ _ _ HS.out ha (hv.alloc _)).mono ?_; rintro e w' ⟨rfl, hb1⟩
    go_wp2_with fail
    go_ret2
    exact ⟨_, _, _, by rw [E2.out]; rfl, by rw [E.out]; exact OwnS.nil _ _ _, hb1.of_alloc⟩
  | true =>
    by_cases hl : b.length ≤ 20
    · have hG : Hid (renameOk ar b = b.all (okTerm ar)) := by show _ = _; simp [renameOk, hs, hl]
      have hg := hs
      have HS := Lib.hid hs; clear hs
      have hl2 : decide ((20 : Int) < b.length) = false := by simp; omega
      go_enter Try.func20, Try.ntmps20
      go_wp2_with fail
      refine (sGoodSign_v _ _ _ _ _ _ HS.out ha (hv.alloc _)).mono ?_; rintro e w1 ⟨rfl, hb1⟩
      have hbox := boxc hb1 0 _ rfl
      go_wp2_with fail
      go_loopw [18] (fun i wr => ∃ k : Nat, k ≤ b.length ∧ i = .int .i64 k ∧ (b.take k).all (okTerm ar) = true ∧ Bel (w.alloc (.cells #[v] 28)) wr) (fun i _ => b.length - (intOf i).toNat)
      case atStart => exact ⟨0, Nat.zero_le _, rfl, rfl, hb1⟩
      case round =>
        obtain ⟨k, hk, rfl, hall, hb2⟩ := hrel
        have hbox2 := boxc hb2 0 _ rfl
        by_cases hlt : k < b.length
        · obtain ⟨bb, off, p, rfl, -, hc, hp⟩ := hu.at hb2.of_alloc k hlt
          have hmk := hm k hlt
          have hsp := all_splitS b (okTerm ar) k hlt hall
          have hfs := all_falseS b (okTerm ar) k hlt
          clear hm hu hbox hall
          generalize b.getD k [] = t at *
          obtain ⟨ap, cp, rfl⟩ := hp.form
          cases ht : okTerm ar t with
          | false =>
            have e0 : renameOk ar b = false := by rw [hG.out]; exact hfs ht
            have E := Lib.hid (renameAns_no e0)
            have E2 := Lib.hid e0
            have HT := Lib.hid ht
            clear ht hsp hfs e0
            go_wp2_with fail
            refine (l1Term_v _ _ _ _ _ _ _ _ _ _ HT.out hg (by omega) (hv.below hb2.of_alloc) hp).mono ?_; rintro e w2 ⟨rfl, hb3⟩
            go_wp2_with fail
            go_ret2
            exact ⟨_, _, _, by rw [E2.out]; rfl, by rw [E.out]; exact OwnS.nil _ _ _, hb2.of_alloc.step hb3⟩
          | true =>
            have HA := Lib.hid (hsp.trans ht)
            have HT := Lib.hid ht
            clear ht hsp hfs
            go_wp2_with fail
            refine (l1Term_v _ _ _ _ _ _ _ _ _ _ HT.out hg (by omega) (hv.below hb2.of_alloc) hp).mono ?_; rintro e w2 ⟨rfl, hb3⟩
            go_wp2_with fail
            go_roundw
            case rel => exact ⟨k+1, by omega, by go_num, HA.out, hb2.step hb3⟩
            case measure => simp [intOf]; omega
        · have e0 : renameOk ar b = true := by rw [hG.out]; exact all_doneS b _ k hk hlt hall
          have E := Lib.hid (renameAns_yes e0)
          have E2 := Lib.hid e0
          have hr := renameOk_rows e0
          have HC := Lib.hid (l2Rename_c _ _ _ b wr hr (hu.below hb2.of_alloc))
          clear hall e0 hr
          go_wp2_with fail
          refine HC.out.mono ?_; rintro e w2 ⟨ao, no, co, rfl, ho, hb3⟩
          go_wp2_with fail
          go_ret2
          exact ⟨_, _, _, by rw [E2.out]; rfl, by rw [E.out]; exact ho.mono (by have := hb2.size; simp at this; omega) (Nat.le_refl _), hb2.of_alloc.step hb3⟩
    · have hl' : ¬ b.length ≤ 20 := hl
      have E := Lib.hid (renameAns_no (show renameOk ar b = false by simp [renameOk, hl']))
      have E2 : Hid (renameOk ar b = false) := by show _ = _; simp [renameOk, hl']
      have HS := Lib.hid hs; clear hs
      have hl2 : decide ((20 : Int) < b.length) = true := by simp; omega
      go_enter Try.func20, Try.ntmps20
      go_wp2_with fail
      refine (sGoodSign_v _ _ _ _ _ _ HS.out ha (hv.alloc _)).mono ?_; rintro e w' ⟨rfl, hb1⟩
      go_wp2_with fail
      go_ret2
      exact ⟨_, _, _, by rw [E2.out]; rfl, by rw [E.out]; exact OwnS.nil _ _ _, hb1.of_alloc⟩

set_option maxRecDepth 100000 in
set_option maxHeartbeats 400000 in
theorem iRenameOf_t {l h l' h' : Nat} {v u : Value} {ar : List Int} {b : List (List Int)} {w : World} (ha : ar.length ≤ 1048576) (hv : SlI l h w v ar) (hb : short b) (hu : SlS l' h' w u b) :
    Calls Try.prog 19 #[.agg #[v], u] w (RetSSB w (renameAns ar b) (renameOk ar b)) := by
  cases hs : renameOk ar b with
  | false =>
    have E := Lib.hid (renameAns_no hs)
    have HC := Lib.hid (fun (w' : World) (hq : Bel w w') => goodTerms_v l h l' h' v u ar b 20 false w' hs (by omega) ha (hv.below hq) hb (hu.below hq))
    clear hs
    obtain ⟨ad', cap', rfl⟩ := hu.form
    go_enter Try.func19, Try.ntmps19
    go_wp2_with fail
    refine (HC.out _ (Bel.alloc0 _ _)).mono ?_; rintro e w' ⟨rfl, hb1⟩
    go_wp2_with fail
    go_ret2
    exact ⟨_, _, _, rfl, by rw [E.out]; exact OwnS.nil _ _ _, hb1.of_alloc⟩
  | true =>
    have E := Lib.hid (renameAns_yes hs)
    have hr := renameOk_rows hs
    have HC := Lib.hid (fun (w' : World) (hq : Bel w w') => goodTerms_v l h l' h' v u ar b 20 true w' hs (by omega) ha (hv.below hq) hb (hu.below hq))
    have HD := Lib.hid (fun (w' : World) (hq : Bel w w') => renamed_c _ _ _ b w' hr (hu.below hq))
    clear hs hr
    obtain ⟨ad', cap', rfl⟩ := hu.form
    go_enter Try.func19, Try.ntmps19
    go_wp2_with fail
    refine (HC.out _ (Bel.alloc0 _ _)).mono ?_; rintro e w1 ⟨rfl, hb1⟩
    go_wp2_with fail
    refine (HD.out _ hb1.of_alloc).mono ?_; rintro e w2 ⟨ao, no, co, rfl, ho, hb3⟩
    go_wp2_with fail
    go_ret2
    exact ⟨_, _, _, rfl, by rw [E.out]; exact ho.mono (by have := hb1.of_alloc.size; omega) (Nat.le_refl _), hb1.of_alloc.step hb3⟩
end Go.Proofs.Ytkbgglejhdodoaa
end
section
/- SameUpTo: the program's. -/
namespace Go.Proofs.Ytkbgglejhdodoaa
open Go.RowKit

theorem SlS.one {w : World} {va : Value} {a : List Int} {lo hi : Nat} (h : SlI lo hi w va a) (T : TypeId) : SlS 0 (w.alloc (.cells #[va] T)).heap.size (w.alloc (.cells #[va] T)) (.slice (some ⟨w.heap.size, 0, none⟩) 1 1) [a] := by
  refine ⟨_, 1, rfl, Nat.le_refl _, ⟨by unfold maxLen; omega, fun h => by simp at h⟩, fun _ => ⟨w.heap.size, 0, rfl, Nat.zero_le _, by simp, fun j hj => ?_⟩⟩
  obtain rfl : j = 0 := by simp at hj; omega
  refine ⟨va, ?_, ?_⟩
  · rw [World.cell?_alloc_new w]; rfl
  · have := (h.in').alloc (.cells #[va] T)
    exact this.mono (Nat.le_refl _) (by simp)
theorem SlS.one' {w : World} {va : Value} {a : List Int} {lo hi B : Nat} (h : SlI lo hi w va a) (T : TypeId) (hB : B = w.heap.size) : SlS 0 (w.alloc (.cells #[va] T)).heap.size (w.alloc (.cells #[va] T)) (.slice (some ⟨B, 0, none⟩) 1 1) [a] := hB ▸ SlS.one h T
theorem short_one {a : List Int} (h : a.length ≤ 1048576) : short [a] := by
  refine ⟨by simp, fun j hj => ?_⟩
  obtain rfl : j = 0 := by simp at hj; omega
  simpa [List.getD] using h
def sameOk (ar a b : List Int) : Bool := renameOk ar [a] && renameOk ar [b]
def sameAns (ar a b : List Int) : Bool := sameOk ar a b && decide (renT [] a = renT [] b)
theorem rename_one {ar a : List Int} (h : renameOk ar [a] = true) : renameAns ar [a] = [renT [] a] := by rw [renameAns_yes h]; simp [renS]
theorem renameOk_one {ar a : List Int} : renameOk ar [a] = goodTerm ar a := by simp [renameOk, goodTerm]

set_option maxRecDepth 100000 in
set_option maxHeartbeats 400000 in
theorem iSameUpTo_t {l h l' h' l2 h2 : Nat} {v x y : Value} {ar a b : List Int} {w : World} (ha : ar.length ≤ 1048576) (hv : SlI l h w v ar) (hal : a.length ≤ 1048576) (hx : SlI l' h' w x a) (hbl : b.length ≤ 1048576) (hy : SlI l2 h2 w y b) :
    Calls Try.prog 22 #[.agg #[v], x, y] w (RetV w (.tuple #[.bool (sameAns ar a b), .bool (sameOk ar a b)])) := by
  obtain ⟨xa, xc, rfl⟩ := hx.form
  obtain ⟨ya, yc, rfl⟩ := hy.form
  have HA := Lib.hid (fun (w' : World) (la ha2 lb hb2 : Nat) (u : Value) (t : List Int) (h1 : SlI la ha2 w' v ar) (h2 : t.length ≤ 1048576) (h3 : SlS lb hb2 w' u [t]) => iRenameOf_t ha h1 (short_one h2) h3)
  cases h1 : renameOk ar [a] with
  | false =>
    have E : Hid (sameAns ar a b = false) := by show _ = _; simp [sameAns, sameOk, h1]
    have E2 : Hid (sameOk ar a b = false) := by show _ = _; simp [sameOk, h1]
    simp only [E.out, E2.out]
    generalize hq2 : renameOk ar [b] = q2
    have H1 := Lib.hid (And.intro h1 hq2)
    clear h1 hq2
    go_enter Try.func22, Try.ntmps22
    go_wp2_with fail
    refine (HA.out _ _ _ _ _ _ a ((hv.alloc _).alloc _) hal (SlS.one' (hx.alloc _) _ (by simp))).mono ?_; rintro e w1 ⟨a1, n1, c1, rfl, ho1, hb1⟩
    have hx1 := boxc hb1.of_alloc 0 _ rfl
    go_wp2_with fail
    refine (HA.out _ _ _ _ _ _ b (((hv.alloc _).below hb1.of_alloc).alloc _) hbl (SlS.one' ((hy.alloc _).below hb1.of_alloc) _ (by simp))).mono ?_; rintro e w2 ⟨a2, n2, c2, rfl, ho2, hb2⟩
    rw [H1.out.1]
    rw [H1.out.2]
    go_wp2_with fail
    go_ret2
    exact ⟨rfl, (hb1.of_alloc.of_alloc).step hb2.of_alloc⟩
  | true =>
    have e1 := rename_one h1
    cases h2 : renameOk ar [b] with
    | false =>
      have E : Hid (sameAns ar a b = false) := by show _ = _; simp [sameAns, sameOk, h2]
      have E2 : Hid (sameOk ar a b = false) := by show _ = _; simp [sameOk, h2]
      simp only [E.out, E2.out]
      have H1 := Lib.hid (And.intro h1 h2)
      clear h1 h2 e1
      go_enter Try.func22, Try.ntmps22
      go_wp2_with fail
      refine (HA.out _ _ _ _ _ _ a ((hv.alloc _).alloc _) hal (SlS.one' (hx.alloc _) _ (by simp))).mono ?_; rintro e w1 ⟨a1, n1, c1, rfl, ho1, hb1⟩
      have hx1 := boxc hb1.of_alloc 0 _ rfl
      go_wp2_with fail
      refine (HA.out _ _ _ _ _ _ b (((hv.alloc _).below hb1.of_alloc).alloc _) hbl (SlS.one' ((hy.alloc _).below hb1.of_alloc) _ (by simp))).mono ?_; rintro e w2 ⟨a2, n2, c2, rfl, ho2, hb2⟩
      rw [H1.out.1]
      rw [H1.out.2]
      go_wp2_with fail
      go_ret2
      exact ⟨rfl, (hb1.of_alloc.of_alloc).step hb2.of_alloc⟩
    | true =>
      have e2 := rename_one h2
      have E : Hid (sameAns ar a b = decide (renT [] a = renT [] b)) := by show _ = _; simp [sameAns, sameOk, h1, h2]
      have E2 : Hid (sameOk ar a b = true) := by show _ = _; simp [sameOk, h1, h2]
      simp only [E.out, E2.out]
      have hl1 : (renT [] a).length ≤ 1048576 := by rw [renT_len]; exact hal
      have hl2 : (renT [] b).length ≤ 1048576 := by rw [renT_len]; exact hbl
      have H1 := Lib.hid (And.intro (And.intro h1 e1) (And.intro h2 e2))
      clear h1 h2 e1 e2
      go_enter Try.func22, Try.ntmps22
      go_wp2_with fail
      refine (HA.out _ _ _ _ _ _ a ((hv.alloc _).alloc _) hal (SlS.one' (hx.alloc _) _ (by simp))).mono ?_; rintro e w1 ⟨a1, n1, c1, rfl, ho1, hb1⟩
      have hx1 := boxc hb1.of_alloc 0 _ rfl
      go_wp2_with fail
      refine (HA.out _ _ _ _ _ _ b (((hv.alloc _).below hb1.of_alloc).alloc _) hbl (SlS.one' ((hy.alloc _).below hb1.of_alloc) _ (by simp))).mono ?_; rintro e w2 ⟨a2, n2, c2, rfl, ho2, hb2⟩
      rw [H1.out.1.1]
      rw [H1.out.2.1]
      rw [H1.out.1.2] at ho1
      rw [H1.out.2.2] at ho2
      obtain ⟨b1, o1, p1, rfl, hz1, hc1, hp1⟩ := (ho1.sl.below hb2.of_alloc).at (Bel.rfl' _) 0 (by simp)
      obtain ⟨b2, o2, p2, rfl, hz2, hc2, hp2⟩ := ho2.sl.at (Bel.rfl' _) 0 (by simp)
      have hn1 := ho1.sl.len
      have hn2 := ho2.sl.len
      simp at hn1 hn2
      subst hn1 hn2
      simp only [List.getD, List.getElem?_cons_zero, Option.getD_some] at hp1 hp2
      rw [Nat.add_zero] at hc1 hc2
      have HC := Lib.hid (fun w' (h : Bel w2 w') => slEqual_c _ _ _ _ _ _ _ _ _ hl1 hl2 (hp1.below h) (hp2.below h))
      have hbb := (hb1.of_alloc.of_alloc).step hb2.of_alloc
      clear hp1 hp2 ho1 ho2 hb1 hb2 hl1 hl2
      go_wp2_with fail
      go_region_held3 (fun w' => Bel w2 w' ∧ w'.cell? ⟨b1, o1, none⟩ = some p1 ∧ w'.cell? ⟨b2, o2, none⟩ = some p2)
        (first | exact ⟨Bel.drew0 _, hc1, hc2⟩ | exact ⟨hb3.of_drew, hb3.of_drew.at hz1 hc1, hb3.of_drew.at hz2 hc2⟩)
        (first | (go_at_call 56; refine (HC.out _ (Bel.drew0 _)).mono ?_; rintro e w3 ⟨rfl, hb3⟩))
      go_wp2_with fail
      go_ret2
      exact ⟨rfl, hbb.step hb3.of_drew⟩
end Go.Proofs.Ytkbgglejhdodoaa
end
section
/- SameUpTo: the reference's. -/
namespace Go.Proofs.Ytkbgglejhdodoaa
open Go.RowKit

/-- A slice of slices somewhere. -/
def ExS (w : World) (v : Value) (xss : List (List Int)) : Prop := ∃ lo hi, SlS lo hi w v xss
theorem ExS.below {w w' : World} {v : Value} {xss : List (List Int)} (h : ExS w v xss) (hb : Bel w w') : ExS w' v xss := h.elim fun lo h => h.elim fun hi h => ⟨lo, hi, h.below hb⟩
theorem ExS.alloc {w : World} {v : Value} {xss : List (List Int)} (h : ExS w v xss) (o : Obj) : ExS (w.alloc o) v xss := h.below (Bel.alloc0 w o)
theorem ExS.one {w : World} {va : Value} {a : List Int} {lo hi B : Nat} (h : SlI lo hi w va a) (T : TypeId) (hB : B = w.heap.size) : ExS (w.alloc (.cells #[va] T)) (.slice (some ⟨B, 0, none⟩) 1 1) [a] := ⟨_, _, SlS.one' h T hB⟩
theorem rows_one {ar a : List Int} (h : okTerm ar a = true) : rows40 [a] := by
  refine ⟨by simp, fun j hj => ?_⟩
  obtain rfl : j = 0 := by simp at hj; omega
  exact ⟨((okTerm_iff _ _).1 h).2.1, okTerm_low h⟩
set_option maxRecDepth 100000 in
set_option maxHeartbeats 4000000 in
theorem sSameUpTo_t {l h l' h' l2 h2 : Nat} {v x y : Value} {ar a b : List Int} {w : World} (ha : ar.length ≤ 1048576) (hv : SlI l h w v ar) (hal : a.length ≤ 1048576) (hx : SlI l' h' w x a) (hbl : b.length ≤ 1048576) (hy : SlI l2 h2 w y b) :
    Calls Try.prog 24 #[.agg #[v], x, y] w (RetV w (.tuple #[.bool (sameAns ar a b), .bool (sameOk ar a b)])) := by
  obtain ⟨xa, xc, rfl⟩ := hx.form
  obtain ⟨ya, yc, rfl⟩ := hy.form
  cases h1 : goodTerm ar a with
  | false =>
    have e0 : sameOk ar a b = false := by simp [sameOk, renameOk_one, h1]
    have E2 := Lib.hid e0
    have E : Hid (sameAns ar a b = false) := by show _ = _; simp [sameAns, e0]
    have H1 := Lib.hid h1
    clear h1 e0
    simp only [E.out, E2.out]
    go_enter Try.func24, Try.ntmps24
    go_wp2_with fail
    refine (sGoodTerm_v _ _ _ _ _ _ _ _ _ _ H1.out ha hal (hv.alloc _) (hx.alloc _)).mono ?_; rintro e w1 ⟨rfl, hb1⟩
    go_wp2_with fail
    go_ret2
    exact ⟨rfl, hb1.of_alloc⟩
  | true =>
    obtain ⟨hg, hoa⟩ := goodTerm_iff.1 h1
    cases h2 : okTerm ar b with
    | false =>
      have e0 : sameOk ar a b = false := by simp [sameOk, renameOk_one, goodTerm, h2]
      have E2 := Lib.hid e0
      have E : Hid (sameAns ar a b = false) := by show _ = _; simp [sameAns, e0]
      have H1 := Lib.hid (And.intro h1 h2)
      clear h1 h2 e0 hoa
      simp only [E.out, E2.out]
      go_enter Try.func24, Try.ntmps24
      go_wp2_with fail
      refine (sGoodTerm_v _ _ _ _ _ _ _ _ _ _ H1.out.1 ha hal (hv.alloc _) (hx.alloc _)).mono ?_; rintro e w1 ⟨rfl, hb1⟩
      have hx1 := boxc hb1 0 _ rfl
      go_wp2_with fail
      refine (l1Term_v _ _ _ _ _ _ _ _ _ _ H1.out.2 hg hbl (hv.below hb1.of_alloc) (hy.below hb1.of_alloc)).mono ?_; rintro e w2 ⟨rfl, hb2⟩
      go_wp2_with fail
      go_ret2
      exact ⟨rfl, (hb1.step hb2).of_alloc⟩
    | true =>
      have e0 : sameOk ar a b = true := by simp [sameOk, renameOk_one, goodTerm, h2, hg, hoa]
      have E2 := Lib.hid e0
      have E : Hid (sameAns ar a b = decide (renT [] a = renT [] b)) := by show _ = _; simp [sameAns, e0]
      have hl1 : (renT [] a).length ≤ 1048576 := by rw [renT_len]; exact hal
      have hl2 : (renT [] b).length ≤ 1048576 := by rw [renT_len]; exact hbl
      have hrA := rows_one hoa
      have hrB := rows_one h2
      have H1 := Lib.hid (And.intro h1 h2)
      clear h1 h2 e0 hoa
      simp only [E.out, E2.out]
      go_enter Try.func24, Try.ntmps24
      go_wp2_with fail
      refine (sGoodTerm_v _ _ _ _ _ _ _ _ _ _ H1.out.1 ha hal (hv.alloc _) (hx.alloc _)).mono ?_; rintro e w1 ⟨rfl, hb1⟩
      have hx1 := boxc hb1 0 _ rfl
      go_wp2_with fail
      refine (l1Term_v _ _ _ _ _ _ _ _ _ _ H1.out.2 hg hbl (hv.below hb1.of_alloc) (hy.below hb1.of_alloc)).mono ?_; rintro e w2 ⟨rfl, hb2⟩
      have hbb := (hb1.step hb2).of_alloc
      have HX := Lib.hid (fun w' (h : Bel w2 w') => hx.below (hbb.step h))
      have HY := Lib.hid (fun w' (h : Bel w2 w') => hy.below (hbb.step h))
      have HL := Lib.hid (fun (w' : World) (v : Value) (t : List Int) (h1 : rows40 [t]) (h2 : ExS w' v [t]) => show Calls Try.prog 54 #[v] w' (RetSS w' [renT [] t]) from h2.elim fun lo h3 => h3.elim fun hi h4 => l2Rename_c lo hi v [t] w' h1 h4)
      clear hx hy hv hb1 hb2 hx1
      go_wp2_with fail
      go_region_with (first | (go_at_call 54; have hchk := hA2; clear hchk; refine Calls.mono (HL.out _ _ b hrB (by (repeat (first | exact ExS.one (HY.out _ (by (repeat (first | exact Bel.rfl' _ | exact hA2 | exact hB2 | refine Bel.drew ?_ | refine Bel.alloc ?_ _)))) _ (by first | rfl | simp) | refine ExS.below ?_ (Bel.drew0 _) | refine ExS.alloc ?_ _ | refine ExS.below ?_ hbA | refine ExS.below ?_ hbB)))) ?_; rintro e wB ⟨aB, nB, cB, rfl, hoB, hbB⟩; obtain ⟨bB, oB, pB, rfl, hzB, hcB, hpB⟩ := hoB.sl.at (Bel.rfl' _) 0 (by simp); have hnB := hoB.sl.len; simp at hnB; subst hnB; simp only [List.getD, List.getElem?_cons_zero, Option.getD_some] at hpB; rw [Nat.add_zero] at hcB; have hB2 : Bel w2 wB := Bel.step (by (repeat (first | exact Bel.rfl' _ | exact hA2 | exact hB2 | refine Bel.drew ?_ | refine Bel.alloc ?_ _))) hbB; have hcB1 := fun o => (Bel.alloc0 wB o).at hzB hcB; try (have hxA : Bel wA wB := (by repeat (first | exact hbB | exact Bel.of_drew (by first | exact hbB | exact hbB.of_alloc | exact hbB.of_drew) | exact Bel.of_alloc (by first | exact hbB | exact hbB.of_drew | exact hbB.of_alloc))); have hcA3 := hxA.at hzA hcA)) | (go_at_call 54; refine Calls.mono (HL.out _ _ a hrA (by (repeat (first | exact ExS.one (HX.out _ (by (repeat (first | exact Bel.rfl' _ | exact hA2 | exact hB2 | refine Bel.drew ?_ | refine Bel.alloc ?_ _)))) _ (by first | rfl | simp) | refine ExS.below ?_ (Bel.drew0 _) | refine ExS.alloc ?_ _ | refine ExS.below ?_ hbA | refine ExS.below ?_ hbB)))) ?_; rintro e wA ⟨aA, nA, cA, rfl, hoA, hbA⟩; obtain ⟨bA, oA, pA, rfl, hzA, hcA, hpA⟩ := hoA.sl.at (Bel.rfl' _) 0 (by simp); have hnA := hoA.sl.len; simp at hnA; subst hnA; simp only [List.getD, List.getElem?_cons_zero, Option.getD_some] at hpA; rw [Nat.add_zero] at hcA; have hA2 : Bel w2 wA := Bel.step (by (repeat (first | exact Bel.rfl' _ | exact hA2 | exact hB2 | refine Bel.drew ?_ | refine Bel.alloc ?_ _))) hbA; have hcA1 := fun o => (Bel.alloc0 wA o).at hzA hcA; try (have hxB : Bel wB wA := (by repeat (first | exact hbA | exact Bel.of_drew (by first | exact hbA | exact hbA.of_alloc | exact hbA.of_drew) | exact Bel.of_alloc (by first | exact hbA | exact hbA.of_drew | exact hbA.of_alloc))); have hcB3 := hxB.at hzB hcB)) | (go_at_call 59; refine Calls.mono (l1Same_c _ _ _ _ _ _ (renT [] a) (renT [] b) _ hl1 hl2 (by first | exact hpA | exact hpA.below hxA) (by first | exact hpB | exact hpB.below hxB)) ?_; rintro e wS ⟨rfl, hbS⟩))
      all_goals
        go_wp2_with fail
        go_ret2
        exact ⟨rfl, hbb.step (by first | exact hA2.step hbS | exact hB2.step hbS)⟩
end Go.Proofs.Ytkbgglejhdodoaa
end
section
/- Renaming: again is the same, and each list alone. -/
namespace Go.Proofs.Ytkbgglejhdodoaa
open Go.RowKit

theorem stepM_sub {met : List Int} {n x : Int} (h : x ∈ met) : x ∈ stepM met n := by unfold stepM; split; exact List.mem_append_left _ h; exact h
theorem metT_sub {x : Int} : ∀ (t met : List Int), x ∈ met → x ∈ metT met t
  | [], _, h => h
  | n :: t, met, h => metT_sub t (stepM met n) (stepM_sub h)
theorem metS_sub {x : Int} : ∀ (l : List (List Int)) (met : List Int), x ∈ met → x ∈ metS met l
  | [], _, h => h
  | t :: l, met, h => metS_sub l (metT met t) (metT_sub t met h)
theorem metT_has {x : Int} (hx : x < 0) : ∀ (t met : List Int), x ∈ t → x ∈ metT met t
  | n :: t, met, h => by
    rcases List.mem_cons.1 h with rfl | h
    · exact metT_sub t _ (stepM_mem met x hx)
    · exact metT_has hx t _ h
theorem metS_has {x : Int} (hx : x < 0) : ∀ (l : List (List Int)) (met : List Int) (t : List Int), t ∈ l → x ∈ t → x ∈ metS met l
  | s :: l, met, t, h, ht => by
    rcases List.mem_cons.1 h with rfl | h
    · exact metS_sub l _ (metT_has hx t met ht)
    · exact metS_has hx l _ t h ht
/-- More that is met turns no earlier place. -/
def Ext (a b : List Int) : Prop := ∃ c, b = a ++ c
theorem Ext.rfl' (a : List Int) : Ext a a := ⟨[], by simp⟩
theorem Ext.trans {a b c : List Int} (h : Ext a b) (k : Ext b c) : Ext a c := by obtain ⟨x, rfl⟩ := h; obtain ⟨y, rfl⟩ := k; exact ⟨x ++ y, by simp⟩
theorem stepM_ext (met : List Int) (n : Int) : Ext met (stepM met n) := by unfold stepM; split; exact ⟨[n], rfl⟩; exact Ext.rfl' _
theorem metT_ext : ∀ (t met : List Int), Ext met (metT met t)
  | [], met => Ext.rfl' met
  | n :: t, met => (stepM_ext met n).trans (metT_ext t _)
theorem metS_ext : ∀ (l : List (List Int)) (met : List Int), Ext met (metS met l)
  | [], met => Ext.rfl' met
  | t :: l, met => (metT_ext t met).trans (metS_ext l _)
theorem valM_ext {a b : List Int} {n : Int} (h : Ext a b) (hn : n < 0 → n ∈ a) : valM b n = valM a n := by
  obtain ⟨c, rfl⟩ := h
  unfold valM
  split
  · rename_i h0
    rw [List.idxOf_append, if_pos (hn h0)]
  · rfl
theorem renT_map {M : List Int} : ∀ (t met : List Int), Ext (metT met t) M → renT met t = t.map (valM M)
  | [], _, _ => rfl
  | n :: t, met, h => by
    have h1 : Ext (stepM met n) M := (metT_ext t _).trans h
    rw [renT, List.map_cons, renT_map t _ h, ← valM_ext h1 (fun hn => stepM_mem met n hn)]
theorem renS_map {M : List Int} : ∀ (l : List (List Int)) (met : List Int), Ext (metS met l) M → renS met l = l.map (fun t => t.map (valM M))
  | [], _, _ => rfl
  | t :: l, met, h => by
    rw [renS, List.map_cons, renS_map l _ h, renT_map t met ((metS_ext l _).trans h)]
/-- A renaming that is one to one on what is met. -/
structure Inj1 (σ : Int → Int) (S : List Int) : Prop where
  pos : ∀ n, ¬ n < 0 → σ n = n
  neg : ∀ n ∈ S, n < 0 → σ n < 0
  inj : ∀ m ∈ S, ∀ n ∈ S, σ m = σ n → m = n
theorem mem_map_inj {σ : Int → Int} {S : List Int} (h : Inj1 σ S) {met : List Int} (hm : ∀ x ∈ met, x ∈ S) {n : Int} (hn : n ∈ S) : σ n ∈ met.map σ ↔ n ∈ met := by
  rw [List.mem_map]
  constructor
  · rintro ⟨m, h1, h2⟩
    rw [h.inj n hn m (hm m h1) h2.symm]; exact h1
  · exact fun h1 => ⟨n, h1, rfl⟩
theorem idx_map_inj {σ : Int → Int} {S : List Int} (h : Inj1 σ S) : ∀ {met : List Int}, (∀ x ∈ met, x ∈ S) → ∀ {n : Int}, n ∈ S → (met.map σ).idxOf (σ n) = met.idxOf n
  | [], _, _, _ => rfl
  | m :: met, hm, n, hn => by
    rw [List.map_cons, List.idxOf_cons, List.idxOf_cons]
    by_cases e : m = n
    · subst e; simp
    · have e2 : σ m ≠ σ n := fun h2 => e (h.inj m (hm m List.mem_cons_self) n hn h2)
      have e3 : (σ m == σ n) = false := by simpa using e2
      have e4 : (m == n) = false := by simpa using e
      rw [e3, e4, idx_map_inj h (fun x hx => hm x (List.mem_cons_of_mem _ hx)) hn]
theorem stepM_map {σ : Int → Int} {S : List Int} (h : Inj1 σ S) {met : List Int} (hm : ∀ x ∈ met, x ∈ S) {n : Int} (hn : n < 0 → n ∈ S) : stepM (met.map σ) (σ n) = (stepM met n).map σ ∧ ∀ x ∈ stepM met n, x ∈ S := by
  by_cases h0 : n < 0
  · have hs := hn h0
    have h1 := h.neg n hs h0
    by_cases h2 : n ∈ met
    · rw [stepM_old h2, stepM_old ((mem_map_inj h hm hs).2 h2)]; exact ⟨rfl, hm⟩
    · rw [stepM_new h0 h2, stepM_new h1 (fun h3 => h2 ((mem_map_inj h hm hs).1 h3)), List.map_append]
      refine ⟨rfl, fun x hx => ?_⟩
      rcases List.mem_append.1 hx with h3 | h3
      · exact hm x h3
      · simp at h3; rw [h3]; exact hs
  · rw [h.pos n h0, stepM_sym h0, stepM_sym h0]; exact ⟨rfl, hm⟩
theorem renT_inj {σ : Int → Int} {S : List Int} (h : Inj1 σ S) : ∀ {t met : List Int}, (∀ x ∈ met, x ∈ S) → (∀ x ∈ t, x < 0 → x ∈ S) → renT (met.map σ) (t.map σ) = renT met t ∧ metT (met.map σ) (t.map σ) = (metT met t).map σ ∧ ∀ x ∈ metT met t, x ∈ S
  | [], met, hm, _ => ⟨rfl, rfl, hm⟩
  | n :: t, met, hm, ht => by
    obtain ⟨h1, h2⟩ := stepM_map h hm (ht n List.mem_cons_self)
    obtain ⟨a1, a2, a3⟩ := renT_inj h (t := t) h2 (fun x hx => ht x (List.mem_cons_of_mem _ hx))
    have hv : valM ((stepM met n).map σ) (σ n) = valM (stepM met n) n := by
      unfold valM
      by_cases h0 : n < 0
      · have hs := ht n List.mem_cons_self h0
        rw [if_pos h0, if_pos (h.neg n hs h0), idx_map_inj h h2 hs]
      · rw [h.pos n h0]
        rw [if_neg h0, if_neg h0]
    refine ⟨?_, ?_, a3⟩
    · rw [List.map_cons, renT, renT, h1, hv, a1]
    · show metT (stepM (met.map σ) (σ n)) (t.map σ) = _
      rw [h1, a2]; rfl
theorem renS_inj {σ : Int → Int} {S : List Int} (h : Inj1 σ S) : ∀ {l : List (List Int)} {met : List Int}, (∀ x ∈ met, x ∈ S) → (∀ t ∈ l, ∀ x ∈ t, x < 0 → x ∈ S) → renS (met.map σ) (l.map fun t => t.map σ) = renS met l
  | [], _, _, _ => rfl
  | t :: l, met, hm, hl => by
    obtain ⟨a1, a2, a3⟩ := renT_inj h (t := t) hm (hl t List.mem_cons_self)
    rw [List.map_cons, renS, renS, a1, a2, renS_inj h a3 (fun s hs => hl s (List.mem_cons_of_mem _ hs))]
theorem metT_nodup : ∀ (t met : List Int), met.Nodup → (metT met t).Nodup
  | [], _, h => h
  | n :: t, met, h => metT_nodup t _ (by
      unfold stepM
      split
      · rename_i h0
        rw [List.nodup_append]
        exact ⟨h, by simp, fun a ha b hb => by simp at hb; subst hb; intro e; subst e; exact h0.2 ha⟩
      · exact h)
theorem metS_nodup : ∀ (l : List (List Int)) (met : List Int), met.Nodup → (metS met l).Nodup
  | [], _, h => h
  | t :: l, met, h => metS_nodup l _ (metT_nodup t met h)
theorem metT_of {x : Int} : ∀ (t met : List Int), x ∈ metT met t → x ∈ met ∨ (x ∈ t ∧ x < 0)
  | [], _, h => .inl h
  | n :: t, met, h => by
    rcases metT_of t _ h with h1 | ⟨h1, h2⟩
    · unfold stepM at h1
      split at h1
      · rename_i h0
        rcases List.mem_append.1 h1 with h3 | h3
        · exact .inl h3
        · simp at h3; rw [h3]; exact .inr ⟨List.mem_cons_self, h0.1⟩
      · exact .inl h1
    · exact .inr ⟨List.mem_cons_of_mem _ h1, h2⟩
theorem metS_of {x : Int} : ∀ (l : List (List Int)) (met : List Int), x ∈ metS met l → x ∈ met ∨ ∃ t ∈ l, x ∈ t ∧ x < 0
  | [], _, h => .inl h
  | t :: l, met, h => by
    rcases metS_of l _ h with h1 | ⟨s, h1, h2⟩
    · rcases metT_of t met h1 with h3 | h3
      · exact .inl h3
      · exact .inr ⟨t, List.mem_cons_self, h3⟩
    · exact .inr ⟨s, List.mem_cons_of_mem _ h1, h2⟩
theorem low_mem {ar t : List Int} (h : okTerm ar t = true) {x : Int} (hx : x ∈ t) : -12 ≤ x := by
  obtain ⟨i, hi, e⟩ := List.getElem_of_mem hx
  have := okTerm_low h i hi
  rwa [show t.getD i 0 = x from by simp [List.getD, hi, e]] at this
theorem met12 {ar : List Int} {l : List (List Int)} (h : ∀ t ∈ l, okTerm ar t = true) : (metS [] l).length ≤ 12 := by
  have hm : ∀ x ∈ metS [] l, -12 ≤ x ∧ x < 0 := fun x hx => by
    rcases metS_of l [] hx with h1 | ⟨t, h1, h2, h3⟩
    · simp at h1
    · exact ⟨low_mem (h t h1) h2, h3⟩
  have hn := metS_nodup l [] List.nodup_nil
  have h2 : ((metS [] l).map fun x => (-1 - x).toNat).Nodup := by
    show List.Pairwise (· ≠ ·) _
    rw [List.pairwise_map]
    refine List.Pairwise.imp_of_mem (fun {a b} ha hb hab e => hab ?_) hn
    have h1 := hm a ha
    have h2 := hm b hb
    omega
  have := lenN 12 _ h2 (fun v hv => by obtain ⟨x, hx, rfl⟩ := List.mem_map.1 hv; have := hm x hx; omega)
  simpa using this
theorem valM_inj {M S : List Int} (h : ∀ x ∈ S, x ∈ M) (hs : ∀ x ∈ S, x < 0) : Inj1 (valM M) S := by
  refine ⟨fun n hn => val_sym hn, fun n _ hn => ?_, fun m hm n hn e => ?_⟩
  · unfold valM; rw [if_pos hn]; omega
  · unfold valM at e
    rw [if_pos (hs m hm), if_pos (hs n hn)] at e
    have e2 : M.idxOf m = M.idxOf n := by omega
    have h1 := List.idxOf_lt_length_iff.2 (h m hm)
    have h3 := List.getElem_idxOf h1
    have h4 := List.getElem_idxOf (List.idxOf_lt_length_iff.2 (h n hn))
    rw [← h3, ← h4]
    simp only [e2]
theorem map_seq {ar : List Int} {σ : Int → Int} (hp : ∀ n, ¬ n < 0 → σ n = n) : ∀ {t : List Int} {k : Nat}, (∀ x ∈ t, x < 0 → -12 ≤ σ x ∧ σ x < 0) → seqT ar k t → seqT ar k (t.map σ)
  | [], _, _, h => h
  | n :: t, k, hb, h => by
    cases k with
    | zero => have := seqT_zero h; simp at this
    | succ k =>
      obtain ⟨h1, h2⟩ := seqT_cons.1 h
      rw [List.map_cons]
      by_cases h0 : n < 0
      · obtain ⟨b1, b2⟩ := hb n List.mem_cons_self h0
        have ih := map_seq hp (t := t) (fun x hx => hb x (List.mem_cons_of_mem _ hx)) h2
        refine seqT_cons.2 ⟨?_, by rw [arOf_neg b2]; rw [arOf_neg h0] at ih; exact ih⟩
        unfold okSym inB at h1 ⊢
        simp at h1 ⊢
        omega
      · rw [hp n h0]
        exact seqT_cons.2 ⟨h1, map_seq hp (t := t) (fun x hx => hb x (List.mem_cons_of_mem _ hx)) h2⟩
theorem rename_again {ar : List Int} {l : List (List Int)} (h : renameOk ar l = true) :
    renameOk ar (renameAns ar l) = true ∧ renameAns ar (renameAns ar l) = renameAns ar l ∧ (renameAns ar l).length = l.length ∧ ∀ k, k < l.length → sameOk ar (l.getD k []) ((renameAns ar l).getD k []) = true ∧ sameAns ar (l.getD k []) ((renameAns ar l).getD k []) = true := by
  obtain ⟨hg, hl, hok⟩ := renameOk_iff.1 h
  have h12 := met12 hok
  have hmap := renS_map l [] (Ext.rfl' (metS [] l))
  have hneg : ∀ x ∈ metS [] l, x < 0 := fun x hx => by
    rcases metS_of l [] hx with h1 | ⟨t, _, _, h3⟩
    · simp at h1
    · exact h3
  have hI := valM_inj (M := metS [] l) (S := metS [] l) (fun _ h => h) hneg
  have hin : ∀ t ∈ l, ∀ x ∈ t, x < 0 → x ∈ metS [] l := fun t ht x hx h0 => metS_has h0 l [] t ht hx
  have hans := renameAns_yes h
  have hr : ∀ t ∈ l, okTerm ar (t.map (valM (metS [] l))) = true := fun t ht => by
    obtain ⟨a1, a2⟩ := okTerm_seq.1 (hok t ht)
    refine okTerm_seq.2 ⟨by simpa using a1, map_seq hI.pos (fun x hx h0 => ?_) a2⟩
    have h1 := List.idxOf_lt_length_iff.2 (hin t ht x hx h0)
    unfold valM
    rw [if_pos h0]
    omega
  have hok2 : renameOk ar (renameAns ar l) = true := by
    rw [hans, hmap]
    refine renameOk_iff.2 ⟨hg, by simpa using hl, fun t ht => ?_⟩
    obtain ⟨s, hs, rfl⟩ := List.mem_map.1 ht
    exact hr s hs
  have hsame : renS [] (renS [] l) = renS [] l := by
    conv => lhs; rw [hmap]
    exact renS_inj hI (met := []) (fun x hx => by simp at hx) hin
  refine ⟨hok2, by rw [renameAns_yes hok2, hans, hsame], by rw [hans, renS_len], fun k hk => ?_⟩
  have hmem : l.getD k [] ∈ l := by rw [show l.getD k [] = l[k] from by simp [List.getD, hk]]; exact List.getElem_mem hk
  have hget : (renameAns ar l).getD k [] = (l.getD k []).map (valM (metS [] l)) := by
    rw [hans, hmap]
    simp [List.getD, hk]
  have hso : sameOk ar (l.getD k []) ((renameAns ar l).getD k []) = true := by
    unfold sameOk
    rw [renameOk_one, renameOk_one, hget]
    unfold goodTerm
    rw [hg, hok _ hmem, hr _ hmem]
    rfl
  refine ⟨hso, ?_⟩
  unfold sameAns
  rw [hso, hget]
  have := (renT_inj hI (t := l.getD k []) (met := []) (fun x hx => by simp at hx) (hin _ hmem)).1
  rw [List.map_nil] at this
  rw [this]
  simp
end Go.Proofs.Ytkbgglejhdodoaa
end
section
/- Contracts of renaming with the answers named. -/
namespace Go.Proofs.Ytkbgglejhdodoaa
open Go.RowKit

theorem iRenameOf_v {l h l' h' : Nat} {v u : Value} {ar : List Int} {b : List (List Int)} {w : World} (ha : ar.length ≤ 1048576) (hv : SlI l h w v ar) (hb : short b) (hu : SlS l' h' w u b) {xs : List (List Int)} {k : Bool} (e1 : renameAns ar b = xs) (e2 : renameOk ar b = k) :
    Calls Try.prog 19 #[.agg #[v], u] w (RetSSB w xs k) := by subst e1 e2; exact iRenameOf_t ha hv hb hu
theorem iSameUpTo_vv {l h l' h' l2 h2 : Nat} {v x y : Value} {ar a b : List Int} {w : World} (ha : ar.length ≤ 1048576) (hv : SlI l h w v ar) (hal : a.length ≤ 1048576) (hx : SlI l' h' w x a) (hbl : b.length ≤ 1048576) (hy : SlI l2 h2 w y b) {q k : Bool} (e1 : sameAns ar a b = q) (e2 : sameOk ar a b = k) :
    Calls Try.prog 22 #[.agg #[v], x, y] w (RetV w (.tuple #[.bool q, .bool k])) := by subst e1 e2; exact iSameUpTo_t ha hv hal hx hbl hy
theorem sRenameOf_v {l h l' h' : Nat} {v u : Value} {ar : List Int} {b : List (List Int)} {w : World} (ha : ar.length ≤ 1048576) (hv : SlI l h w v ar) (hb : short b) (hu : SlS l' h' w u b) {xs : List (List Int)} {k : Bool} (e1 : renameAns ar b = xs) (e2 : renameOk ar b = k) :
    Calls Try.prog 20 #[.agg #[v], u] w (RetSSB w xs k) := by subst e1 e2; exact sRenameOf_t ha hv hb hu
theorem sSameUpTo_vv {l h l' h' l2 h2 : Nat} {v x y : Value} {ar a b : List Int} {w : World} (ha : ar.length ≤ 1048576) (hv : SlI l h w v ar) (hal : a.length ≤ 1048576) (hx : SlI l' h' w x a) (hbl : b.length ≤ 1048576) (hy : SlI l2 h2 w y b) {q k : Bool} (e1 : sameAns ar a b = q) (e2 : sameOk ar a b = k) :
    Calls Try.prog 24 #[.agg #[v], x, y] w (RetV w (.tuple #[.bool q, .bool k])) := by subst e1 e2; exact sSameUpTo_t ha hv hal hx hbl hy
end Go.Proofs.Ytkbgglejhdodoaa
end
