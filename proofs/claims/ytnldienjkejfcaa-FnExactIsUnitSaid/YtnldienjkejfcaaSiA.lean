/- Chapter 7: IsUnit, both sides. -/
import Derived.Test.YtnldienjkejfcaaClI1
import Derived.Test.YtnldienjkejfcaaClS3
namespace Go.Proofs.Ytnldienjkejfcaa
open Go.RowKit

def unitC (c : List Lt) : Bool := decide (c.length = 1) && (c.getD 0 lt0).1
def unitAns (ar : List Int) (c : List Lt) : Bool := goodClause ar c && unitC c

set_option maxRecDepth 100000 in
set_option maxHeartbeats 400000 in
theorem isUnit_c (l' h' : Nat) (u : Value) (c : List Lt) (w : World) (hu : SlC l' h' w u c) :
    Calls Try.prog 34 #[u] w (RetV w (.bool (unitC c))) := by
  obtain ⟨ad, cap, rfl⟩ := hu.form
  by_cases h1 : c.length = 1
  · have HU : Hid (unitC c = (c.getD 0 lt0).1) := by show _ = _; unfold unitC; rw [decide_eq_true h1]; rfl
    obtain ⟨b, off, u1, u2, rfl, -, c1, -, -, -, -⟩ := hu.at (Bel.rfl' w) 0 (by omega)
    simp only [Nat.zero_mul, Nat.add_zero] at c1
    clear hu
    generalize (c.getD 0 lt0).1 = q at *
    generalize unitC c = q2 at *
    generalize c.length = n at *
    subst h1
    go_enter Try.func34, Try.ntmps34
    go_wp2_with fail
    go_ret
    exact ⟨by rw [HU.out]; rfl, Bel.rfl' _⟩
  · have HU : Hid (unitC c = false) := by show _ = _; unfold unitC; rw [decide_eq_false h1]; rfl
    have hq : ((c.length : Int) == 1) = false := by simp; omega
    clear hu
    generalize unitC c = q2 at *
    generalize c.length = n at *
    go_enter Try.func34, Try.ntmps34
    go_wp2_with fail
    go_ret
    exact ⟨by rw [HU.out]; rfl, Bel.rfl' _⟩
theorem isUnit_v {l' h' : Nat} {u : Value} {c : List Lt} {q : Bool} {w : World} (he : unitC c = q) (hu : SlC l' h' w u c) :
    Calls Try.prog 34 #[u] w (RetV w (.bool q)) := by subst he; exact isUnit_c l' h' u c w hu

set_option maxRecDepth 100000 in
set_option maxHeartbeats 400000 in
theorem iIsUnit_t {l h l' h' : Nat} {v u : Value} {ar : List Int} {c : List Lt} {w : World} (ha : ar.length ≤ 1048576) (hv : SlI l h w v ar) (hc : sumC c ≤ 1048576) (hu : SlC l' h' w u c) :
    Calls Try.prog 13 #[.agg #[v], u] w (RetV w (.tuple #[.bool (unitAns ar c), .bool (goodClause ar c)])) := by
  unfold unitAns
  cases hg : goodClause ar c with
  | false =>
    rw [Bool.false_and]
    have HG := Lib.hid hg; clear hg
    go_enter Try.func13, Try.ntmps13
    go_wp2_with fail
    refine (iGoodClause_v HG.out ha (hv.alloc _) hc (hu.alloc _)).mono ?_; rintro e w1 ⟨rfl, hb1⟩
    go_wp2_with fail
    go_ret2
    exact ⟨rfl, hb1.of_alloc⟩
  | true =>
    rw [Bool.true_and]
    have HG := Lib.hid hg; clear hg
    go_enter Try.func13, Try.ntmps13
    go_wp2_with fail
    refine (iGoodClause_v HG.out ha (hv.alloc _) hc (hu.alloc _)).mono ?_; rintro e w1 ⟨rfl, hb1⟩
    have HC := Lib.hid (isUnit_c _ _ u c w1 ((hu.alloc _).below hb1))
    clear hu hv
    generalize unitC c = q at *
    go_wp2_with fail
    refine HC.out.mono ?_; rintro e w2 ⟨rfl, hb2⟩
    go_wp2_with fail
    go_ret2
    exact ⟨rfl, (hb1.step hb2).of_alloc⟩

set_option maxRecDepth 100000 in
set_option maxHeartbeats 400000 in
theorem sIsUnit_t {l h l' h' : Nat} {v u : Value} {ar : List Int} {c : List Lt} {w : World} (ha : ar.length ≤ 1048576) (hv : SlI l h w v ar) (hc : sumC c ≤ 1048576) (hu : SlC l' h' w u c) :
    Calls Try.prog 10 #[.agg #[v], u] w (RetV w (.tuple #[.bool (unitAns ar c), .bool (goodClause ar c)])) := by
  unfold unitAns
  cases hg : goodClause ar c with
  | false =>
    rw [Bool.false_and]
    have HG := Lib.hid hg; clear hg
    go_enter Try.func10, Try.ntmps10
    go_wp2_with fail
    refine (sGoodClause_v HG.out ha (hv.alloc _) hc (hu.alloc _)).mono ?_; rintro e w1 ⟨rfl, hb1⟩
    go_wp2_with fail
    go_ret2
    exact ⟨rfl, hb1.of_alloc⟩
  | true =>
    rw [Bool.true_and]
    have HG := Lib.hid hg; clear hg
    obtain ⟨ad, cap, rfl⟩ := hu.form
    have HGC := Lib.hid (fun (w' : World) (hb : Bel w w') => sGoodClause_v HG.out ha (hv.below hb) hc (hu.below hb))
    by_cases h1 : c.length = 1
    · have HU : Hid (unitC c = (c.getD 0 lt0).1) := by show _ = _; unfold unitC; rw [decide_eq_true h1]; rfl
      have HC : Hid (∀ w', Bel w w' → ∃ b off, ad = some ⟨b, off, none⟩ ∧ w'.cell? ⟨b, off, none⟩ = some (.bool (c.getD 0 lt0).1)) := Lib.hid (fun w' hb => by
        obtain ⟨b, off, u1, u2, e, -, c1, -, -, -, -⟩ := hu.at hb 0 (by omega)
        exact ⟨b, off, e, by simpa using c1⟩)
      clear hu hc ha hv HG
      generalize (c.getD 0 lt0).1 = q at *
      generalize unitC c = q2 at *
      generalize c.length = n at *
      subst h1
      go_enter Try.func10, Try.ntmps10
      go_wp2_with fail
      refine (HGC.out _ (Bel.alloc0 _ _)).mono ?_; rintro e w1 ⟨rfl, hb1⟩
      obtain ⟨b, off, rfl, c1⟩ := HC.out w1 hb1.of_alloc
      go_wp2_with fail
      go_ret2
      exact ⟨by rw [HU.out]; rfl, hb1.of_alloc⟩
    · have HU : Hid (unitC c = false) := by show _ = _; unfold unitC; rw [decide_eq_false h1]; rfl
      have hq : ((c.length : Int) == 1) = false := by simp; omega
      clear hu hc ha hv HG
      generalize unitC c = q2 at *
      generalize c.length = n at *
      go_enter Try.func10, Try.ntmps10
      go_wp2_with fail
      refine (HGC.out _ (Bel.alloc0 _ _)).mono ?_; rintro e w1 ⟨rfl, hb1⟩
      go_wp2_with fail
      go_ret2
      exact ⟨by rw [HU.out]; rfl, hb1.of_alloc⟩

end Go.Proofs.Ytnldienjkejfcaa
