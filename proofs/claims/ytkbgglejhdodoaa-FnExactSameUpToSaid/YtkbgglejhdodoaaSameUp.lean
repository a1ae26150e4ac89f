/- SameUpTo: the program's. -/
import Derived.Test.YtkbgglejhdodoaaRename
namespace Go.Proofs.Ytkbgglejhdodoaa
open Go.RowKit

theorem SlS.one {w : World} {va : Value} {a : List Int} {lo hi : Nat} (h : SlI lo hi w va a) (T : TypeId) : SlS 0 (w.alloc (.cells #[va] T)).heap.size (w.alloc (.cells #[va] T)) (.slice (some ⟨w.heap.size, 0, none⟩) 1 1) [a] := by
  refine ⟨_, 1, rfl, Nat.le_refl _, ⟨by unfold maxLen; omega, fun h => by simp at h⟩, fun _ => ⟨w.heap.size, 0, rfl, Nat.zero_le _, by simp, fun j hj => ?_⟩⟩
  obtain rfl : j = 0 := by simp at hj; omega
  refine ⟨va, ?_, ?_⟩
  · rw [World.cell?_alloc_new w]; rfl
  · have := (h.in').alloc (.cells #[va] T)
    exact this.mono (Nat.le_refl _) (by simp)
theorem SlS.one' {w : World} {va : Value} {a : List Int} {lo hi B : Nat} (h : SlI lo hi w va a) (T : TypeId) (hB : B = w.heap.size) : SlS 0 (w.alloc (.cells #[va] T)).heap.size (w.alloc (.cells #[va] T)) (.slice (some ⟨B, 0, none⟩) 1 1) [a] := hB ▸ SlS.one h T
theorem short_one {a : List Int} (h : a.length ≤ 1048576) : short [a] := by
  refine ⟨by simp, fun j hj => ?_⟩
  obtain rfl : j = 0 := by simp at hj; omega
  simpa [List.getD] using h
def sameOk (ar a b : List Int) : Bool := renameOk ar [a] && renameOk ar [b]
def sameAns (ar a b : List Int) : Bool := sameOk ar a b && decide (renT [] a = renT [] b)
theorem rename_one {ar a : List Int} (h : renameOk ar [a] = true) : renameAns ar [a] = [renT [] a] := by rw [renameAns_yes h]; simp [renS]
theorem renameOk_one {ar a : List Int} : renameOk ar [a] = goodTerm ar a := by simp [renameOk, goodTerm]

set_option maxRecDepth 100000 in
set_option maxHeartbeats 400000 in
theorem iSameUpTo_t {l h l' h' l2 h2 : Nat} {v x y : Value} {ar a b : List Int} {w : World} (ha : ar.length ≤ 1048576) (hv : SlI l h w v ar) (hal : a.length ≤ 1048576) (hx : SlI l' h' w x a) (hbl : b.length ≤ 1048576) (hy : SlI l2 h2 w y b) :
    Calls Try.prog 22 #[.agg #[v], x, y] w (RetV w (.tuple #[.bool (sameAns ar a b), .bool (sameOk ar a b)])) := by
  obtain ⟨xa, xc, rfl⟩ := hx.form
  obtain ⟨ya, yc, rfl⟩ := hy.form
  have HA := Lib.hid (fun (w' : World) (la ha2 lb hb2 : Nat) (u : Value) (t : List Int) (h1 : SlI la ha2 w' v ar) (h2 : t.length ≤ 1048576) (h3 : SlS lb hb2 w' u [t]) => iRenameOf_t ha h1 (short_one h2) h3)
  cases h1 : renameOk ar [a] with
  | false =>
    have E : Hid (sameAns ar a b = false) := by show _ = _; simp [sameAns, sameOk, h1]
    have E2 : Hid (sameOk ar a b = false) := by show _ = _; simp [sameOk, h1]
    simp only [E.out, E2.out]
    generalize hq2 : renameOk ar [b] = q2
    have H1 := Lib.hid (And.intro h1 hq2)
    clear h1 hq2
    go_enter Try.func22, Try.ntmps22
    go_wp2_with fail
    refine (HA.out _ _ _ _ _ _ a ((hv.alloc _).alloc _) hal (SlS.one' (hx.alloc _) _ (by simp))).mono ?_; rintro e w1 ⟨a1, n1, c1, rfl, ho1, hb1⟩
    have hx1 := boxc hb1.of_alloc 0 _ rfl
    go_wp2_with fail
    refine (HA.out _ _ _ _ _ _ b (((hv.alloc _).below hb1.of_alloc).alloc _) hbl (SlS.one' ((hy.alloc _).below hb1.of_alloc) _ (by simp))).mono ?_; rintro e w2 ⟨a2, n2, c2, rfl, ho2, hb2⟩
    rw [H1.out.1]
    rw [H1.out.2]
    go_wp2_with fail
    go_ret2
    exact ⟨rfl, (hb1.of_alloc.of_alloc).step hb2.of_alloc⟩
  | true =>
    have e1 := rename_one h1
    cases h2 : renameOk ar [b] with
    | false =>
      have E : Hid (sameAns ar a b = false) := by show _ = _; simp [sameAns, sameOk, h2]
      have E2 : Hid (sameOk ar a b = false) := by show _ = _; simp [sameOk, h2]
      simp only [E.out, E2.out]
      have H1 := Lib.hid (And.intro h1 h2)
      clear h1 h2 e1
      go_enter Try.func22, Try.ntmps22
      go_wp2_with fail
      refine (HA.out _ _ _ _ _ _ a ((hv.alloc _).alloc _) hal (SlS.one' (hx.alloc _) _ (by simp))).mono ?_; rintro e w1 ⟨a1, n1, c1, rfl, ho1, hb1⟩
      have hx1 := boxc hb1.of_alloc 0 _ rfl
      go_wp2_with fail
      refine (HA.out _ _ _ _ _ _ b (((hv.alloc _).below hb1.of_alloc).alloc _) hbl (SlS.one' ((hy.alloc _).below hb1.of_alloc) _ (by simp))).mono ?_; rintro e w2 ⟨a2, n2, c2, rfl, ho2, hb2⟩
      rw [H1.out.1]
      rw [H1.out.2]
      go_wp2_with fail
      go_ret2
      exact ⟨rfl, (hb1.of_alloc.of_alloc).step hb2.of_alloc⟩
    | true =>
      have e2 := rename_one h2
      have E : Hid (sameAns ar a b = decide (renT [] a = renT [] b)) := by show _ = _; simp [sameAns, sameOk, h1, h2]
      have E2 : Hid (sameOk ar a b = true) := by show _ = _; simp [sameOk, h1, h2]
      simp only [E.out, E2.out]
      have hl1 : (renT [] a).length ≤ 1048576 := by rw [renT_len]; exact hal
      have hl2 : (renT [] b).length ≤ 1048576 := by rw [renT_len]; exact hbl
      have H1 := Lib.hid (And.intro (And.intro h1 e1) (And.intro h2 e2))
      clear h1 h2 e1 e2
      go_enter Try.func22, Try.ntmps22
      go_wp2_with fail
      refine (HA.out _ _ _ _ _ _ a ((hv.alloc _).alloc _) hal (SlS.one' (hx.alloc _) _ (by simp))).mono ?_; rintro e w1 ⟨a1, n1, c1, rfl, ho1, hb1⟩
      have hx1 := boxc hb1.of_alloc 0 _ rfl
      go_wp2_with fail
      refine (HA.out _ _ _ _ _ _ b (((hv.alloc _).below hb1.of_alloc).alloc _) hbl (SlS.one' ((hy.alloc _).below hb1.of_alloc) _ (by simp))).mono ?_; rintro e w2 ⟨a2, n2, c2, rfl, ho2, hb2⟩
      rw [H1.out.1.1]
      rw [H1.out.2.1]
      rw [H1.out.1.2] at ho1
      rw [H1.out.2.2] at ho2
      obtain ⟨b1, o1, p1, rfl, hz1, hc1, hp1⟩ := (ho1.sl.below hb2.of_alloc).at (Bel.rfl' _) 0 (by simp)
      obtain ⟨b2, o2, p2, rfl, hz2, hc2, hp2⟩ := ho2.sl.at (Bel.rfl' _) 0 (by simp)
      have hn1 := ho1.sl.len
      have hn2 := ho2.sl.len
      simp at hn1 hn2
      subst hn1 hn2
      simp only [List.getD, List.getElem?_cons_zero, Option.getD_some] at hp1 hp2
      rw [Nat.add_zero] at hc1 hc2
      have HC := Lib.hid (fun w' (h : Bel w2 w') => slEqual_c _ _ _ _ _ _ _ _ _ hl1 hl2 (hp1.below h) (hp2.below h))
      have hbb := (hb1.of_alloc.of_alloc).step hb2.of_alloc
      clear hp1 hp2 ho1 ho2 hb1 hb2 hl1 hl2
      go_wp2_with fail
      go_region_held3 (fun w' => Bel w2 w' ∧ w'.cell? ⟨b1, o1, none⟩ = some p1 ∧ w'.cell? ⟨b2, o2, none⟩ = some p2)
        (first | exact ⟨Bel.drew0 _, hc1, hc2⟩ | exact ⟨hb3.of_drew, hb3.of_drew.at hz1 hc1, hb3.of_drew.at hz2 hc2⟩)
        (first | (go_at_call 56; refine (HC.out _ (Bel.drew0 _)).mono ?_; rintro e w3 ⟨rfl, hb3⟩))
      go_wp2_with fail
      go_ret2
      exact ⟨rfl, hbb.step hb3.of_drew⟩
end Go.Proofs.Ytkbgglejhdodoaa
