/- Chapter 5, the program: EvalIn. -/
import Derived.Test.YtfhljkjcjnfjfaaEvU
import Derived.Test.YtfhljkjcjnfjfaaEvW
import Derived.Test.YtfhljkjcjnfjfaaWoJ
import Derived.Test.YtfhljkjcjnfjfaaSubst
namespace Go.Proofs.Ytfhljkjcjnfjfaa
open Go.RowKit

set_option maxRecDepth 100000 in
set_option maxHeartbeats 400000 in
theorem goodEnv_c (l h : Nat) (u v : Value) (sz : Int) (env : List Int) (w : World) (h1 : 1 ≤ sz) (h3 : sz ≤ 3) (hx : env.length ≤ 1048576) (hv : SlI l h w v env) :
    Calls Try.prog 92 #[.agg #[.int .i64 sz, u], v] w (RetV w (.bool (okEnv sz env))) := by
  unfold okEnv
  have hv0 := hv
  obtain ⟨ad, cap, rfl⟩ := hv.form
  by_cases h12 : env.length = 12
  · rw [decide_eq_true h12, Bool.true_and]
    have he : ((env.length : Int) == 12) = true := by rw [h12]; rfl
    cases hq : env.all (fun x => inB x 0 (sz - 1)) with
    | false =>
      have HA := Lib.hid (fun (w' : World) (hb : Bel w w') => areElements_v _ _ _ env sz false w' hq hx (hv0.below hb))
      clear hq hv hv0 h12
      go_enter Try.func92, Try.ntmps92
      go_wp2_with fail
      refine (HA.out _ (Bel.alloc0 _ _)).mono ?_; rintro e w1 ⟨rfl, hb1⟩
      go_wp2_with fail
      go_ret
      exact ⟨rfl, hb1.of_alloc⟩
    | true =>
      have HA := Lib.hid (fun (w' : World) (hb : Bel w w') => areElements_v _ _ _ env sz true w' hq hx (hv0.below hb))
      clear hq hv hv0 h12
      go_enter Try.func92, Try.ntmps92
      go_wp2_with fail
      refine (HA.out _ (Bel.alloc0 _ _)).mono ?_; rintro e w1 ⟨rfl, hb1⟩
      go_wp2_with fail
      go_ret
      exact ⟨rfl, hb1.of_alloc⟩
  · rw [decide_eq_false h12, Bool.false_and]
    have he : ((env.length : Int) == 12) = false := beq_eq_false_iff_ne.2 (by omega)
    clear h12
    go_enter Try.func92, Try.ntmps92
    go_wp2_with fail
    go_ret
    exact ⟨rfl, Bel.alloc0 _ _⟩
theorem goodEnv_v (l h : Nat) (u v : Value) (sz : Int) (env : List Int) (q : Bool) (w : World) (he : okEnv sz env = q) (h1 : 1 ≤ sz) (h3 : sz ≤ 3) (hx : env.length ≤ 1048576) (hv : SlI l h w v env) :
    Calls Try.prog 92 #[.agg #[.int .i64 sz, u], v] w (RetV w (.bool q)) := by subst he; exact goodEnv_c l h u v sz env w h1 h3 hx hv

set_option maxRecDepth 100000 in
set_option maxHeartbeats 1000000 in
theorem iEvalIn_t {l h l' h' l2 h2 l3 h3 : Nat} {v u vt ve : Value} {ar : List Int} {sz : Int} {tb : List (List Int)} {t env : List Int} {w : World} (ha : ar.length ≤ 1048576) (hv : SlI l h w v ar) (hx : short tb) (hu : SlS l' h' w u tb) (htl : t.length ≤ 1048576) (ht : SlI l2 h2 w vt t) (hel : env.length ≤ 1048576) (he : SlI l3 h3 w ve env) :
    Calls Try.prog 41 #[.agg #[v], .agg #[.int .i64 sz, u], vt, ve] w (RetV w (.tuple #[.int .i64 (evalAns ar sz tb t env), .bool (evalOk ar sz tb t env)])) := by
  unfold evalAns evalOk
  have HB : Bel w ((w.alloc (.cells #[v] 30)).alloc (.cells #[.int .i64 sz, u] 46)) := Bel.alloc2 _ _ _
  have HK : Hid (∀ w', Bel ((w.alloc (.cells #[v] 30)).alloc (.cells #[.int .i64 sz, u] 46)) w' → w'.cell? ⟨w.heap.size, 0, none⟩ = some v ∧ w'.cell? ⟨w.heap.size + 1, 0, none⟩ = some (.int .i64 sz) ∧ w'.cell? ⟨w.heap.size + 1, 1, none⟩ = some u) := fun w' hb =>
    ⟨hb.at (by simp; omega) (by simp [go_sem]), hb.at (by simp) (by simp [go_sem]), hb.at (by simp) (by simp [go_sem])⟩
  cases hg : goodWorld ar sz tb with
  | false =>
    rw [Bool.false_and, if_neg (by simp)]
    have HC := Lib.hid (fun (w' : World) (hb : Bel w w') => iGoodWorld_v hg ha (hv.below hb) hx (hu.below hb)); clear hg
    go_enter Try.func41, Try.ntmps41
    go_wp2_with fail
    refine (HC.out _ HB).mono ?_; rintro e w1 ⟨rfl, hb1⟩
    go_wp2_with fail
    go_ret2
    exact ⟨rfl, HB.step hb1⟩
  | true =>
    rw [Bool.true_and]
    obtain ⟨hgs, hiw⟩ := goodWorld_iff.1 hg
    obtain ⟨z1, z3, _, _⟩ := isWorld_iff.1 hiw
    have HC := Lib.hid (fun (w' : World) (hb : Bel w w') => iGoodWorld_v hg ha (hv.below hb) hx (hu.below hb)); clear hg
    cases hq : okTerm ar t with
    | false =>
      rw [Bool.false_and, if_neg (by simp)]
      have HT := Lib.hid (fun (w' : World) (hb : Bel w w') => iGoodTerm_vv l h l2 h2 v vt ar t false w' hq hgs ha htl (hv.below hb) (ht.below hb)); clear hq
      go_enter Try.func41, Try.ntmps41
      go_wp2_with fail
      refine (HC.out _ HB).mono ?_; rintro e w1 ⟨rfl, hb1⟩
      obtain ⟨x0, x1, x2⟩ := HK.out _ hb1
      go_wp2_with fail
      refine (HT.out _ (HB.step hb1)).mono ?_; rintro e w2 ⟨rfl, hb2⟩
      go_wp2_with fail
      go_ret2
      exact ⟨rfl, (HB.step hb1).step hb2⟩
    | true =>
      rw [Bool.true_and]
      have HT := Lib.hid (fun (w' : World) (hb : Bel w w') => iGoodTerm_vv l h l2 h2 v vt ar t true w' hq hgs ha htl (hv.below hb) (ht.below hb))
      cases hp : okEnv sz env with
      | false =>
        rw [if_neg (by simp)]
        have HE := Lib.hid (fun (w' : World) (hb : Bel w w') => goodEnv_v l3 h3 u ve sz env false w' hp z1 z3 hel (he.below hb))
        clear hq hp
        go_enter Try.func41, Try.ntmps41
        go_wp2_with fail
        refine (HC.out _ HB).mono ?_; rintro e w1 ⟨rfl, hb1⟩
        obtain ⟨x0, x1, x2⟩ := HK.out _ hb1
        go_wp2_with fail
        refine (HT.out _ (HB.step hb1)).mono ?_; rintro e w2 ⟨rfl, hb2⟩
        obtain ⟨y0, y1, y2⟩ := HK.out _ (hb1.step hb2)
        go_wp2_with fail
        refine (HE.out _ ((HB.step hb1).step hb2)).mono ?_; rintro e w3 ⟨rfl, hb3⟩
        go_wp2_with fail
        go_ret2
        exact ⟨rfl, ((HB.step hb1).step hb2).step hb3⟩
      | true =>
        rw [if_pos rfl]
        have HE := Lib.hid (fun (w' : World) (hb : Bel w w') => goodEnv_v l3 h3 u ve sz env true w' hp z1 z3 hel (he.below hb))
        have HV := Lib.hid (fun (w' : World) (hb : Bel w w') => valueIn_c l h l' h' l2 h2 l3 h3 v u vt ve ar sz tb t env w' hgs hiw hp hq (hv.below hb) (hu.below hb) (ht.below hb) (he.below hb))
        clear hq hp
        generalize evT ar sz tb env t = val at *
        go_enter Try.func41, Try.ntmps41
        go_wp2_with fail
        refine (HC.out _ HB).mono ?_; rintro e w1 ⟨rfl, hb1⟩
        obtain ⟨x0, x1, x2⟩ := HK.out _ hb1
        go_wp2_with fail
        refine (HT.out _ (HB.step hb1)).mono ?_; rintro e w2 ⟨rfl, hb2⟩
        obtain ⟨y0, y1, y2⟩ := HK.out _ (hb1.step hb2)
        go_wp2_with fail
        refine (HE.out _ ((HB.step hb1).step hb2)).mono ?_; rintro e w3 ⟨rfl, hb3⟩
        obtain ⟨v0, v1, v2⟩ := HK.out _ ((hb1.step hb2).step hb3)
        go_wp2_with fail
        refine (HV.out _ (((HB.step hb1).step hb2).step hb3)).mono ?_; rintro e w4 ⟨rfl, hb4⟩
        go_wp2_with fail
        go_ret2
        exact ⟨rfl, (((HB.step hb1).step hb2).step hb3).step hb4⟩
end Go.Proofs.Ytfhljkjcjnfjfaa
