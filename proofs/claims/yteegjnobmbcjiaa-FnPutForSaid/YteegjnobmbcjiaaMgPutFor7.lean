/- Texts merged, part 7. -/
import Derived.Test.YteegjnobmbcjiaaMgPutFor6
section
/- Chapter 5, the reference: EvalIn, HoldsAt. -/
namespace Go.Proofs.Yteegjnobmbcjiaa
open Go.RowKit

def evalOk (ar : List Int) (sz : Int) (tb : List (List Int)) (t env : List Int) : Bool := goodWorld ar sz tb && (okTerm ar t && okEnv sz env)
def evalAns (ar : List Int) (sz : Int) (tb : List (List Int)) (t env : List Int) : Int := if evalOk ar sz tb t env then evT ar sz tb env t else 0

set_option maxRecDepth 100000 in
set_option maxHeartbeats 400000 in
theorem l5Env_c (l h : Nat) (u v : Value) (sz : Int) (env : List Int) (w : World) (h1 : 1 ≤ sz) (h3 : sz ≤ 3) (hx : env.length ≤ 1048576) (hv : SlI l h w v env) :
    Calls Try.prog 96 #[.agg #[.int .i64 sz, u], v] w (RetV w (.bool (okEnv sz env))) := by
  unfold okEnv
  have hv0 := hv
  obtain ⟨ad, cap, rfl⟩ := hv.form
  by_cases h12 : env.length = 12
  · rw [decide_eq_true h12, Bool.true_and]
    have he : ((env.length : Int) == 12) = true := by rw [h12]; rfl
    have hw1 := IntWalk.i64_in (sz - 1) (by omega)
    cases hq : env.all (fun x => inB x 0 (sz - 1)) with
    | false =>
      have HA := Lib.hid (fun (w' : World) (hb : Bel w w') => l1All_v _ _ _ env 0 (sz - 1) w' false hq hx (hv0.below hb))
      clear hq hv hv0 h12
      go_enter Try.func96, Try.ntmps96
      go_wp2_with fail
      refine (HA.out _ (Bel.alloc0 _ _)).mono ?_; rintro e w1 ⟨rfl, hb1⟩
      go_wp2_with fail
      go_ret
      exact ⟨rfl, hb1.of_alloc⟩
    | true =>
      have HA := Lib.hid (fun (w' : World) (hb : Bel w w') => l1All_v _ _ _ env 0 (sz - 1) w' true hq hx (hv0.below hb))
      clear hq hv hv0 h12
      go_enter Try.func96, Try.ntmps96
      go_wp2_with fail
      refine (HA.out _ (Bel.alloc0 _ _)).mono ?_; rintro e w1 ⟨rfl, hb1⟩
      go_wp2_with fail
      go_ret
      exact ⟨rfl, hb1.of_alloc⟩
  · rw [decide_eq_false h12, Bool.false_and]
    have he : ((env.length : Int) == 12) = false := beq_eq_false_iff_ne.2 (by omega)
    clear h12
    go_enter Try.func96, Try.ntmps96
    go_wp2_with fail
    go_ret
    exact ⟨rfl, Bel.alloc0 _ _⟩
theorem l5Env_v (l h : Nat) (u v : Value) (sz : Int) (env : List Int) (q : Bool) (w : World) (he : okEnv sz env = q) (h1 : 1 ≤ sz) (h3 : sz ≤ 3) (hx : env.length ≤ 1048576) (hv : SlI l h w v env) :
    Calls Try.prog 96 #[.agg #[.int .i64 sz, u], v] w (RetV w (.bool q)) := by subst he; exact l5Env_c l h u v sz env w h1 h3 hx hv

set_option maxRecDepth 100000 in
set_option maxHeartbeats 1000000 in
theorem sEvalIn_t {l h l' h' l2 h2 l3 h3 : Nat} {v u vt ve : Value} {ar : List Int} {sz : Int} {tb : List (List Int)} {t env : List Int} {w : World} (ha : ar.length ≤ 1048576) (hv : SlI l h w v ar) (hx : short tb) (hu : SlS l' h' w u tb) (htl : t.length ≤ 1048576) (ht : SlI l2 h2 w vt t) (hel : env.length ≤ 1048576) (he : SlI l3 h3 w ve env) :
    Calls Try.prog 48 #[.agg #[v], .agg #[.int .i64 sz, u], vt, ve] w (RetV w (.tuple #[.int .i64 (evalAns ar sz tb t env), .bool (evalOk ar sz tb t env)])) := by
  unfold evalAns evalOk
  have HB : Bel w ((w.alloc (.cells #[v] 30)).alloc (.cells #[.int .i64 sz, u] 58)) := Bel.alloc2 _ _ _
  have HK : Hid (∀ w', Bel ((w.alloc (.cells #[v] 30)).alloc (.cells #[.int .i64 sz, u] 58)) w' → w'.cell? ⟨w.heap.size, 0, none⟩ = some v ∧ w'.cell? ⟨w.heap.size + 1, 0, none⟩ = some (.int .i64 sz) ∧ w'.cell? ⟨w.heap.size + 1, 1, none⟩ = some u) := fun w' hb =>
    ⟨hb.at (by simp; omega) (by simp [go_sem]), hb.at (by simp) (by simp [go_sem]), hb.at (by simp) (by simp [go_sem])⟩
  cases hg : goodWorld ar sz tb with
  | false =>
    rw [Bool.false_and, if_neg (by simp)]
    have HC := Lib.hid (fun (w' : World) (hb : Bel w w') => sGoodWorld_v hg ha (hv.below hb) hx (hu.below hb)); clear hg
    go_enter Try.func48, Try.ntmps48
    go_wp2_with fail
    refine (HC.out _ HB).mono ?_; rintro e w1 ⟨rfl, hb1⟩
    go_wp2_with fail
    go_ret2
    exact ⟨rfl, HB.step hb1⟩
  | true =>
    rw [Bool.true_and]
    obtain ⟨hgs, hiw⟩ := goodWorld_iff.1 hg
    obtain ⟨z1, z3, _, _⟩ := isWorld_iff.1 hiw
    have HC := Lib.hid (fun (w' : World) (hb : Bel w w') => sGoodWorld_v hg ha (hv.below hb) hx (hu.below hb)); clear hg
    cases hq : okTerm ar t with
    | false =>
      rw [Bool.false_and, if_neg (by simp)]
      have HT := Lib.hid (fun (w' : World) (hb : Bel w w') => l1Term_v l h l2 h2 v vt ar t false w' hq hgs htl (hv.below hb) (ht.below hb)); clear hq
      go_enter Try.func48, Try.ntmps48
      go_wp2_with fail
      refine (HC.out _ HB).mono ?_; rintro e w1 ⟨rfl, hb1⟩
      obtain ⟨x0, x1, x2⟩ := HK.out _ hb1
      go_wp2_with fail
      refine (HT.out _ (HB.step hb1)).mono ?_; rintro e w2 ⟨rfl, hb2⟩
      go_wp2_with fail
      go_ret2
      exact ⟨rfl, (HB.step hb1).step hb2⟩
    | true =>
      rw [Bool.true_and]
      have HT := Lib.hid (fun (w' : World) (hb : Bel w w') => l1Term_v l h l2 h2 v vt ar t true w' hq hgs htl (hv.below hb) (ht.below hb))
      cases hp : okEnv sz env with
      | false =>
        rw [if_neg (by simp)]
        have HE := Lib.hid (fun (w' : World) (hb : Bel w w') => l5Env_v l3 h3 u ve sz env false w' hp z1 z3 hel (he.below hb))
        clear hq hp
        go_enter Try.func48, Try.ntmps48
        go_wp2_with fail
        refine (HC.out _ HB).mono ?_; rintro e w1 ⟨rfl, hb1⟩
        obtain ⟨x0, x1, x2⟩ := HK.out _ hb1
        go_wp2_with fail
        refine (HT.out _ (HB.step hb1)).mono ?_; rintro e w2 ⟨rfl, hb2⟩
        obtain ⟨y0, y1, y2⟩ := HK.out _ (hb1.step hb2)
        go_wp2_with fail
        refine (HE.out _ ((HB.step hb1).step hb2)).mono ?_; rintro e w3 ⟨rfl, hb3⟩
        go_wp2_with fail
        go_ret2
        exact ⟨rfl, ((HB.step hb1).step hb2).step hb3⟩
      | true =>
        rw [if_pos rfl]
        have HE := Lib.hid (fun (w' : World) (hb : Bel w w') => l5Env_v l3 h3 u ve sz env true w' hp z1 z3 hel (he.below hb))
        have HV := Lib.hid (fun (w' : World) (hb : Bel w w') => l5Eval_c l h l' h' l2 h2 l3 h3 v u vt ve ar sz tb t env hgs hiw hp hq t.length 0 w' (by omega) (((okTerm_iff ar t).1 hq).1) (hv.below hb) (hu.below hb) (ht.below hb) (he.below hb))
        have HV : Hid (∀ (w' : World), Bel w w' → Calls Try.prog 97 #[.agg #[v], .agg #[.int .i64 sz, u], vt, .int .i64 0, ve] w' (RetV w' (.int .i64 (evT ar sz tb env t)))) := HV
        clear hq hp
        generalize evT ar sz tb env t = val at *
        go_enter Try.func48, Try.ntmps48
        go_wp2_with fail
        refine (HC.out _ HB).mono ?_; rintro e w1 ⟨rfl, hb1⟩
        obtain ⟨x0, x1, x2⟩ := HK.out _ hb1
        go_wp2_with fail
        refine (HT.out _ (HB.step hb1)).mono ?_; rintro e w2 ⟨rfl, hb2⟩
        obtain ⟨y0, y1, y2⟩ := HK.out _ (hb1.step hb2)
        go_wp2_with fail
        refine (HE.out _ ((HB.step hb1).step hb2)).mono ?_; rintro e w3 ⟨rfl, hb3⟩
        obtain ⟨v0, v1, v2⟩ := HK.out _ ((hb1.step hb2).step hb3)
        go_wp2_with fail
        refine (HV.out _ (((HB.step hb1).step hb2).step hb3)).mono ?_; rintro e w4 ⟨rfl, hb4⟩
        go_wp2_with fail
        go_ret2
        exact ⟨rfl, (((HB.step hb1).step hb2).step hb3).step hb4⟩
end Go.Proofs.Yteegjnobmbcjiaa
end
section
/- Chapter 4, the reference: literals and clauses that are valid, weights. -/
namespace Go.Proofs.Yteegjnobmbcjiaa
open Go.RowKit

set_option maxRecDepth 100000 in
set_option maxHeartbeats 400000 in
theorem l4Lit_c (l h l' h' : Nat) (v u1 u2 : Value) (ar xl xr : List Int) (p : Bool) (w : World) (hg : goodSign ar = true) (hl : xl.length ≤ 1048576) (hr : xr.length ≤ 1048576) (hv : SlI l h w v ar) (h1 : SlI l' h' w u1 xl) (h2 : SlI l' h' w u2 xr) :
    Calls Try.prog 126 #[.agg #[v], .agg #[.bool p, u1, u2]] w (RetV w (.bool (okTerm ar xl && okTerm ar xr))) := by
  have HB : Bel w ((w.alloc (.cells #[v] 30)).alloc (.cells #[.bool p, u1, u2] 91)) := Bel.alloc2 _ _ _
  cases e1 : okTerm ar xl with
  | false =>
    have HC := Lib.hid (fun (w' : World) (hb : Bel w w') => l1Term_v l h l' h' v u1 ar xl false w' e1 hg hl (hv.below hb) (h1.below hb))
    clear hv h1 h2 e1
    go_enter Try.func126, Try.ntmps126
    go_wp2_with fail
    refine (HC.out _ HB).mono ?_; rintro e w1 ⟨rfl, hb1⟩
    go_wp2_with fail
    go_ret
    exact ⟨rfl, HB.step hb1⟩
  | true =>
    rw [Bool.true_and]
    have HC := Lib.hid (fun (w' : World) (hb : Bel w w') => l1Term_v l h l' h' v u1 ar xl true w' e1 hg hl (hv.below hb) (h1.below hb))
    have HD := Lib.hid (fun (w' : World) (hb : Bel w w') => l1Term_c l h l' h' v u2 ar xr w' hg hr (hv.below hb) (h2.below hb))
    clear hv h1 h2 e1
    go_enter Try.func126, Try.ntmps126
    go_wp2_with fail
    refine (HC.out _ HB).mono ?_; rintro e w1 ⟨rfl, hb1⟩
    have k0 := hb1.at (b := w.heap.size) (off := 0) (by simp; omega) (show World.cell? _ _ = some v by simp [go_sem])
    have k2 := hb1.at (b := w.heap.size + 1) (off := 2) (by simp) (show World.cell? _ _ = some u2 by simp [go_sem])
    go_wp2_with fail
    refine (HD.out _ (HB.step hb1)).mono ?_; rintro e w2 ⟨rfl, hb2⟩
    go_wp2_with fail
    go_ret
    exact ⟨rfl, (HB.step hb1).step hb2⟩
end Go.Proofs.Yteegjnobmbcjiaa
end
section
/- Chapter 4, the reference: valid clauses, weights. -/
namespace Go.Proofs.Yteegjnobmbcjiaa
open Go.RowKit

theorem okTerm_len {ar t : List Int} (h : okTerm ar t = true) : 1 ≤ t.length ∧ t.length ≤ 40 := ⟨((okTerm_iff ar t).1 h).1, ((okTerm_iff ar t).1 h).2.1⟩
theorem l4Lit_v (l h l' h' : Nat) (v u1 u2 : Value) (ar xl xr : List Int) (p q : Bool) (w : World) (hq : (okTerm ar xl && okTerm ar xr) = q) (hg : goodSign ar = true) (hl : xl.length ≤ 1048576) (hr : xr.length ≤ 1048576) (hv : SlI l h w v ar) (h1 : SlI l' h' w u1 xl) (h2 : SlI l' h' w u2 xr) :
    Calls Try.prog 126 #[.agg #[v], .agg #[.bool p, u1, u2]] w (RetV w (.bool q)) := by subst hq; exact l4Lit_c l h l' h' v u1 u2 ar xl xr p w hg hl hr hv h1 h2

set_option maxRecDepth 100000 in
set_option maxHeartbeats 400000 in
theorem l4Clause_c (l h l' h' : Nat) (v u : Value) (ar : List Int) (c : List Lt) (w : World) (hg : goodSign ar = true) (hx : shortC c) (hv : SlI l h w v ar) (hu : SlC l' h' w u c) :
    Calls Try.prog 77 #[.agg #[v], u] w (RetV w (.bool (okLits ar c))) := by
  obtain ⟨ad, cap, rfl⟩ := hu.form
  obtain ⟨hxl, hxj⟩ := hx
  go_enter Try.func77, Try.ntmps77
  go_wp2_with fail
  go_loopw [9] (fun i wr => ∃ k : Nat, k ≤ c.length ∧ i = .int .i64 k ∧ okTo ar c k ∧ Bel (w.alloc (.cells #[v] 30)) wr) (fun i _ => c.length - (intOf i).toNat)
  case atStart => exact ⟨0, Nat.zero_le _, rfl, fun j hj => absurd hj (by omega), Bel.rfl' _⟩
  case round =>
    obtain ⟨k, hk, rfl, hto, hb⟩ := hrel
    have hbox := boxc hb 0 _ rfl
    by_cases hlt : k < c.length
    · obtain ⟨b, off, u1, u2, rfl, hbs, c1, c2, c3, s1, s2⟩ := hu.at hb.of_alloc k hlt
      obtain ⟨hm1, hm2⟩ := hxj k hlt
      have hstep := hto.step (k := k)
      have hbad := okLits_bad (ar := ar) hlt
      have hin1 : (k : Int) < c.length := by omega
      have hvr := hv.below hb.of_alloc
      clear hu hv hxj hto
      unfold okLit at hstep hbad
      generalize c.getD k lt0 = x at *
      obtain ⟨p, xl, xr⟩ := x
      simp only at *
      obtain ⟨a1, d1, rfl⟩ := s1.form
      obtain ⟨a2, d2, rfl⟩ := s2.form
      have hbox2 := boxc (hb.alloc (.cells #[.bool p, .slice a1 xl.length d1, .slice a2 xr.length d2] 91)) 0 _ rfl
      cases hq : (okTerm ar xl && okTerm ar xr) with
      | false =>
        have E := Lib.hid (hbad hq)
        have HQ := Lib.hid hq
        clear hstep hbad hq
        go_wp2_with fail
        refine (l4Lit_v l h l' h' v _ _ ar xl xr p false _ HQ.out hg hm1 hm2 (hvr.alloc _) (s1.alloc _) (s2.alloc _)).mono ?_; rintro e w1 ⟨rfl, hb1⟩
        go_wp2_with fail
        go_ret
        exact ⟨by rw [E.out]; rfl, hb.of_alloc.step ((Bel.alloc0 _ _).step hb1)⟩
      | true =>
        have E := Lib.hid (hstep hq)
        have HQ := Lib.hid hq
        clear hstep hbad hq
        go_wp2_with fail
        refine (l4Lit_v l h l' h' v _ _ ar xl xr p true _ HQ.out hg hm1 hm2 (hvr.alloc _) (s1.alloc _) (s2.alloc _)).mono ?_; rintro e w1 ⟨rfl, hb1⟩
        go_wp2_with fail
        go_roundw
        case rel => exact ⟨k+1, by omega, by go_num, E.out, hb.step ((Bel.alloc0 _ _).step hb1)⟩
        case measure => simp [intOf]; omega
    · obtain rfl : k = c.length := by omega
      have E := Lib.hid hto.done
      have hd : decide ((c.length : Int) ≤ 8) = decide (c.length ≤ 8) := by rw [decide_eq_decide]; omega
      go_wp2_with fail
      go_ret
      exact ⟨by rw [E.out, ← hd]; rfl, hb.of_alloc⟩

set_option maxRecDepth 100000 in
set_option maxHeartbeats 400000 in
theorem l4Weight_c (l h : Nat) (v : Value) (c : List Lt) (w : World) (hx : sumC c ≤ 1048576) (hv : SlC l h w v c) :
    Calls Try.prog 83 #[v] w (RetV w (.int .i64 (lenC c : Nat))) := by
  obtain ⟨ad, cap, rfl⟩ := hv.form
  have hse := sumC_eq c
  go_enter Try.func83, Try.ntmps83
  go_wp2_with fail
  go_loopw [3, 8] (fun m i wr => ∃ k : Nat, k ≤ c.length ∧ i = .int .i64 k ∧ m = .int .i64 (lenC (c.take k) : Nat) ∧ Bel w wr) (fun _ i _ => c.length - (intOf i).toNat)
  case atStart => exact ⟨0, Nat.zero_le _, rfl, by simp [lenC, flatC, sumL], Bel.rfl' _⟩
  case round =>
    obtain ⟨k, hk, rfl, rfl, hb⟩ := hrel
    by_cases hlt : k < c.length
    · obtain ⟨b, off, u1, u2, rfl, hbs, c1, c2, c3, s1, s2⟩ := hv.at hb k hlt
      have hst := lenC_take c k hlt
      have hsl := lenC_get c k hlt
      have hin1 : (k : Int) < c.length := by omega
      clear hv
      generalize c.getD k lt0 = x at *
      obtain ⟨p, xl, xr⟩ := x
      simp only at *
      obtain ⟨a1, d1, rfl⟩ := s1.form
      obtain ⟨a2, d2, rfl⟩ := s2.form
      have HE : Hid (((lenC (c.take k) : Nat) : Int) + ((xl.length : Int) + xr.length) = (lenC (c.take (k+1)) : Nat)) := by show _ = _; omega
      have i1 := IntWalk.i64_in ((xl.length : Int) + xr.length) (by omega)
      have i2 := IntWalk.i64_in (((lenC (c.take k) : Nat) : Int) + ((xl.length : Int) + xr.length)) (by omega)
      clear s1 s2 hst hsl
      go_wp2_with fail
      go_roundw
      case rel => exact ⟨k+1, by omega, by go_num, by rw [← HE.out], hb.alloc _⟩
      case measure => simp [intOf]; omega
    · rw [lenC_all c k hlt]
      go_wp2_with fail
      go_ret
      exact ⟨rfl, hb⟩
end Go.Proofs.Yteegjnobmbcjiaa
end
section
/- Chapter 4, the reference: GoodClause, WeightOf. -/
namespace Go.Proofs.Yteegjnobmbcjiaa
open Go.RowKit

set_option maxRecDepth 100000 in
set_option maxHeartbeats 400000 in
theorem sGoodClause_t {l h l' h' : Nat} {v u : Value} {ar : List Int} {c : List Lt} {w : World} (ha : ar.length ≤ 1048576) (hv : SlI l h w v ar) (hc : sumC c ≤ 1048576) (hu : SlC l' h' w u c) :
    Calls Try.prog 33 #[.agg #[v], u] w (RetV w (.bool (goodClause ar c))) := by
  unfold goodClause
  cases hg : goodSign ar with
  | false =>
    rw [Bool.false_and]
    have HG := Lib.hid hg; clear hg
    go_enter Try.func33, Try.ntmps33
    go_wp2_with fail
    refine (sGoodSign_v _ _ _ _ _ _ HG.out ha (hv.alloc _)).mono ?_; rintro e w1 ⟨rfl, hb1⟩
    go_wp2_with fail
    go_ret
    exact ⟨rfl, hb1.of_alloc⟩
  | true =>
    rw [Bool.true_and]
    have HG := Lib.hid hg
    have HC := Lib.hid (fun (w' : World) (hb : Bel w w') => l4Clause_c l h l' h' v u ar c w' hg (shortC_of_sum hc) (hv.below hb) (hu.below hb))
    clear hg hc
    go_enter Try.func33, Try.ntmps33
    go_wp2_with fail
    refine (sGoodSign_v _ _ _ _ _ _ HG.out ha (hv.alloc _)).mono ?_; rintro e w1 ⟨rfl, hb1⟩
    have hbox := boxc hb1 0 _ rfl
    go_wp2_with fail
    refine (HC.out _ hb1.of_alloc).mono ?_; rintro e w2 ⟨rfl, hb2⟩
    go_wp2_with fail
    go_ret
    exact ⟨rfl, hb1.of_alloc.step hb2⟩
theorem sGoodClause_v {l h l' h' : Nat} {v u : Value} {ar : List Int} {c : List Lt} {w : World} {q : Bool} (he : goodClause ar c = q) (ha : ar.length ≤ 1048576) (hv : SlI l h w v ar) (hc : sumC c ≤ 1048576) (hu : SlC l' h' w u c) :
    Calls Try.prog 33 #[.agg #[v], u] w (RetV w (.bool q)) := by subst he; exact sGoodClause_t ha hv hc hu

set_option maxRecDepth 100000 in
set_option maxHeartbeats 400000 in
theorem sWeightOf_t {l h l' h' : Nat} {v u : Value} {ar : List Int} {c : List Lt} {w : World} (ha : ar.length ≤ 1048576) (hv : SlI l h w v ar) (hc : sumC c ≤ 1048576) (hu : SlC l' h' w u c) :
    Calls Try.prog 40 #[.agg #[v], u] w (RetV w (.tuple #[.int .i64 (weightAns ar c), .bool (goodClause ar c)])) := by
  unfold weightAns
  cases hg : goodClause ar c with
  | false =>
    rw [if_neg (by simp)]
    have HG := Lib.hid hg; clear hg
    go_enter Try.func40, Try.ntmps40
    go_wp2_with fail
    refine (sGoodClause_v HG.out ha (hv.alloc _) hc (hu.alloc _)).mono ?_; rintro e w1 ⟨rfl, hb1⟩
    go_wp2_with fail
    go_ret2
    exact ⟨rfl, hb1.of_alloc⟩
  | true =>
    rw [if_pos rfl]
    have HG := Lib.hid hg; clear hg
    have HC := Lib.hid (fun (w' : World) (hb : Bel w w') => l4Weight_c l' h' u c w' hc (hu.below hb))
    go_enter Try.func40, Try.ntmps40
    go_wp2_with fail
    refine (sGoodClause_v HG.out ha (hv.alloc _) hc (hu.alloc _)).mono ?_; rintro e w1 ⟨rfl, hb1⟩
    clear hc
    go_wp2_with fail
    refine (HC.out _ hb1.of_alloc).mono ?_; rintro e w2 ⟨rfl, hb2⟩
    go_wp2_with fail
    go_ret2
    exact ⟨rfl, hb1.of_alloc.step hb2⟩
end Go.Proofs.Yteegjnobmbcjiaa
end
section
/- Chapter 5, the reference: HoldsAt. -/
namespace Go.Proofs.Yteegjnobmbcjiaa
open Go.RowKit

/-- A literal, a clause holds at an assignment. -/
def litH (ar : List Int) (sz : Int) (tb : List (List Int)) (env : List Int) (x : Lt) : Bool := (evT ar sz tb env x.2.1 == evT ar sz tb env x.2.2) == x.1
def clH (ar : List Int) (sz : Int) (tb : List (List Int)) (env : List Int) (c : List Lt) : Bool := c.any (litH ar sz tb env)
theorem any_split (c : List Lt) (p : Lt → Bool) (k : Nat) (hk : k < c.length) (h : (c.take k).any p = false) : (c.take (k+1)).any p = p (c.getD k lt0) := by
  rw [List.take_succ_eq_append_getElem hk, List.any_append, h]
  simp [List.getD, hk]
theorem any_true (c : List Lt) (p : Lt → Bool) (k : Nat) (hk : k < c.length) (h : p (c.getD k lt0) = true) : c.any p = true := by
  rw [List.any_eq_true]
  exact ⟨c[k], List.getElem_mem hk, by simpa [List.getD, hk] using h⟩
theorem beq_eval (a b : Int) : ((a : Int) == b) = decide (a = b) := by
  rw [Bool.eq_iff_iff]; simp

set_option maxRecDepth 100000 in
set_option maxHeartbeats 2000000 in
theorem l5At_c (l h l' h' l2 h2 l3 h3 : Nat) (v u vc ve : Value) (ar : List Int) (sz : Int) (tb : List (List Int)) (c : List Lt) (env : List Int) (w : World) (hg : goodSign ar = true) (hw : isWorld ar sz tb = true) (he : okEnv sz env = true) (hok : okLits ar c = true)
    (hv : SlI l h w v ar) (hu : SlS l' h' w u tb) (hc : SlC l2 h2 w vc c) (hve : SlI l3 h3 w ve env) :
    Calls Try.prog 99 #[.agg #[v], .agg #[.int .i64 sz, u], vc, ve] w (RetV w (.bool (clH ar sz tb env c))) := by
  obtain ⟨ac, kc, rfl⟩ := hc.form
  have h8 := (okLits_iff.1 hok).1
  have HE := Lib.hid (fun (t : List Int) (vt : Value) (a b : Nat) (w' : World) (hq : okTerm ar t = true) (hb : Bel w w') (ht : SlI a b w' vt t) => l5Eval_c l h l' h' a b l3 h3 v u vt ve ar sz tb t env hg hw he hq t.length 0 w' (by omega) (((okTerm_iff ar t).1 hq).1) (hv.below hb) (hu.below hb) ht (hve.below hb))
  have HE : Hid (∀ (t : List Int) (vt : Value) (a b : Nat) (w' : World), okTerm ar t = true → Bel w w' → SlI a b w' vt t → Calls Try.prog 97 #[.agg #[v], .agg #[.int .i64 sz, u], vt, .int .i64 0, ve] w' (RetV w' (.int .i64 (evT ar sz tb env t)))) := HE
  have HOK := Lib.hid (fun k hk => okLits_get (okLits_iff.1 hok).2 k hk)
  clear hv hu hve hg hw he hok
  have HS1 := Lib.hid (fun k hk h => any_split c (litH ar sz tb env) k hk h)
  have HS2 := Lib.hid (fun k hk h => any_true c (litH ar sz tb env) k hk h)
  unfold clH
  have HL : Hid (∀ x : Lt, litH ar sz tb env x = ((evT ar sz tb env x.2.1 == evT ar sz tb env x.2.2) == x.1)) := fun _ => rfl
  generalize litH ar sz tb env = LH at *
  generalize evT ar sz tb env = EV at *
  go_enter Try.func99, Try.ntmps99
  go_wp2_with fail
  obtain ⟨W, hW⟩ : ∃ W, W = (w.alloc (.cells #[v] 30)).alloc (.cells #[.int .i64 sz, u] 58) := ⟨_, rfl⟩
  have hB : Bel w W := by rw [hW]; exact Bel.alloc2 _ _ _
  have zW : w.heap.size + 1 < W.heap.size := by rw [hW]; simp
  have k0 : W.cell? ⟨w.heap.size, 0, none⟩ = some v := by rw [hW]; simp [go_sem]
  have k1 : W.cell? ⟨w.heap.size + 1, 0, none⟩ = some (.int .i64 sz) := by rw [hW]; simp [go_sem]
  have k2 : W.cell? ⟨w.heap.size + 1, 1, none⟩ = some u := by rw [hW]; simp [go_sem]
  rw [← hW]
  clear hW
  go_loopw [13] (fun i wr => ∃ k : Nat, k ≤ c.length ∧ i = .int .i64 k ∧ (c.take k).any LH = false ∧ Bel W wr) (fun i _ => c.length - (intOf i).toNat)
  case atStart => exact ⟨0, Nat.zero_le _, rfl, by simp, Bel.rfl' _⟩
  case round =>
    obtain ⟨k, hk, rfl, hany, hb⟩ := hrel
    by_cases hlt : k < c.length
    · obtain ⟨b, off, u1, u2, rfl, hbs, c1, c2, c3, s1, s2⟩ := hc.at (hB.step hb) k hlt
      obtain ⟨o1, o2⟩ := HOK.out k hlt
      have hin1 : (k : Int) < c.length := by omega
      have HS := HS1.out k hlt hany
      have HT := HS2.out k hlt
      rw [HL.out] at HS HT
      clear HS1 HS2 HOK hany hc
      generalize c.getD k lt0 = x at *
      obtain ⟨p, xl, xr⟩ := x
      simp only at *
      obtain ⟨a1, d1, rfl⟩ := s1.form
      obtain ⟨a2, d2, rfl⟩ := s2.form
      have hBx := hb.alloc (.cells #[.bool p, .slice a1 xl.length d1, .slice a2 xr.length d2] 91)
      have zl1 : w.heap.size + 1 < wr.heap.size := Nat.lt_of_lt_of_le zW hb.size
      have KX : Hid (∀ w', Bel (wr.alloc (.cells #[.bool p, .slice a1 xl.length d1, .slice a2 xr.length d2] 91)) w' → w'.cell? ⟨w.heap.size, 0, none⟩ = some v ∧ w'.cell? ⟨w.heap.size + 1, 0, none⟩ = some (.int .i64 sz) ∧ w'.cell? ⟨w.heap.size + 1, 1, none⟩ = some u ∧ w'.cell? ⟨wr.heap.size, 0, none⟩ = some (.bool p) ∧ w'.cell? ⟨wr.heap.size, 1, none⟩ = some (.slice a1 xl.length d1) ∧ w'.cell? ⟨wr.heap.size, 2, none⟩ = some (.slice a2 xr.length d2)) := fun w' hq =>
        ⟨(hBx.step hq).at (by omega) k0, (hBx.step hq).at zW k1, (hBx.step hq).at zW k2, boxc hq 0 _ rfl, boxc hq 1 _ rfl, boxc hq 2 _ rfl⟩
      have HC1 := Lib.hid (fun (w' : World) (hq : Bel (wr.alloc (.cells #[.bool p, .slice a1 xl.length d1, .slice a2 xr.length d2] 91)) w') => HE.out xl _ _ _ w' o1 ((hB.step hBx).step hq) ((s1.alloc _).below hq))
      have HC2 := Lib.hid (fun (w' : World) (hq : Bel (wr.alloc (.cells #[.bool p, .slice a1 xl.length d1, .slice a2 xr.length d2] 91)) w') => HE.out xr _ _ _ w' o2 ((hB.step hBx).step hq) ((s2.alloc _).below hq))
      clear s1 s2 o1 o2 HE HL
      generalize EV xl = e1 at *
      generalize EV xr = e2 at *
      have KR := KX.out _ (Bel.drew0 _)
      cases hq : ((e1 : Int) == e2) with
      | false =>
        rw [hq] at HS HT
        cases p with
        | false =>
          go_wp2_with fail
          go_region_held3 (fun w' => Bel (wr.alloc (.cells #[.bool false, .slice a1 xl.length d1, .slice a2 xr.length d2] 91)) w' ∧ w'.cell? ⟨w.heap.size, 0, none⟩ = some v ∧ w'.cell? ⟨w.heap.size + 1, 0, none⟩ = some (.int .i64 sz) ∧ w'.cell? ⟨w.heap.size + 1, 1, none⟩ = some u ∧ w'.cell? ⟨wr.heap.size, 0, none⟩ = some (.bool false) ∧ w'.cell? ⟨wr.heap.size, 1, none⟩ = some (.slice a1 xl.length d1) ∧ w'.cell? ⟨wr.heap.size, 2, none⟩ = some (.slice a2 xr.length d2))
            (first | exact ⟨Bel.drew0 _, KX.out _ (Bel.drew0 _)⟩ | exact ⟨B8, KX.out _ B8⟩ | exact ⟨B8.step hb9, KX.out _ (B8.step hb9)⟩ | fail)
            (first | (go_at_call 97; refine (HC2.out _ B8).mono ?_; rintro e w9 ⟨rfl, hb9⟩) | (go_at_call 97; refine (HC1.out _ (Bel.drew0 _)).mono ?_; rintro e w8 ⟨rfl, hb8⟩; have B8 := (Bel.drew0 _).step hb8) | fail)
          go_wp2_with fail
          go_ret
          exact ⟨by rw [HT rfl]; rfl, (hB.step hBx).step (B8.step hb9)⟩
        | true =>
          go_wp2_with fail
          go_region_held3 (fun w' => Bel (wr.alloc (.cells #[.bool true, .slice a1 xl.length d1, .slice a2 xr.length d2] 91)) w' ∧ w'.cell? ⟨w.heap.size, 0, none⟩ = some v ∧ w'.cell? ⟨w.heap.size + 1, 0, none⟩ = some (.int .i64 sz) ∧ w'.cell? ⟨w.heap.size + 1, 1, none⟩ = some u ∧ w'.cell? ⟨wr.heap.size, 0, none⟩ = some (.bool true) ∧ w'.cell? ⟨wr.heap.size, 1, none⟩ = some (.slice a1 xl.length d1) ∧ w'.cell? ⟨wr.heap.size, 2, none⟩ = some (.slice a2 xr.length d2))
            (first | exact ⟨Bel.drew0 _, KX.out _ (Bel.drew0 _)⟩ | exact ⟨B8, KX.out _ B8⟩ | exact ⟨B8.step hb9, KX.out _ (B8.step hb9)⟩ | fail)
            (first | (go_at_call 97; refine (HC2.out _ B8).mono ?_; rintro e w9 ⟨rfl, hb9⟩) | (go_at_call 97; refine (HC1.out _ (Bel.drew0 _)).mono ?_; rintro e w8 ⟨rfl, hb8⟩; have B8 := (Bel.drew0 _).step hb8) | fail)
          go_wp2_with fail
          go_roundw
          case rel => exact ⟨k+1, by omega, by go_num, HS, hBx.step (B8.step hb9)⟩
          case measure => simp [intOf]; omega
      | true =>
        rw [hq] at HS HT
        cases p with
        | false =>
          go_wp2_with fail
          go_region_held3 (fun w' => Bel (wr.alloc (.cells #[.bool false, .slice a1 xl.length d1, .slice a2 xr.length d2] 91)) w' ∧ w'.cell? ⟨w.heap.size, 0, none⟩ = some v ∧ w'.cell? ⟨w.heap.size + 1, 0, none⟩ = some (.int .i64 sz) ∧ w'.cell? ⟨w.heap.size + 1, 1, none⟩ = some u ∧ w'.cell? ⟨wr.heap.size, 0, none⟩ = some (.bool false) ∧ w'.cell? ⟨wr.heap.size, 1, none⟩ = some (.slice a1 xl.length d1) ∧ w'.cell? ⟨wr.heap.size, 2, none⟩ = some (.slice a2 xr.length d2))
            (first | exact ⟨Bel.drew0 _, KX.out _ (Bel.drew0 _)⟩ | exact ⟨B8, KX.out _ B8⟩ | exact ⟨B8.step hb9, KX.out _ (B8.step hb9)⟩ | fail)
            (first | (go_at_call 97; refine (HC2.out _ B8).mono ?_; rintro e w9 ⟨rfl, hb9⟩) | (go_at_call 97; refine (HC1.out _ (Bel.drew0 _)).mono ?_; rintro e w8 ⟨rfl, hb8⟩; have B8 := (Bel.drew0 _).step hb8) | fail)
          go_wp2_with fail
          go_roundw
          case rel => exact ⟨k+1, by omega, by go_num, HS, hBx.step (B8.step hb9)⟩
          case measure => simp [intOf]; omega
        | true =>
          go_wp2_with fail
          go_region_held3 (fun w' => Bel (wr.alloc (.cells #[.bool true, .slice a1 xl.length d1, .slice a2 xr.length d2] 91)) w' ∧ w'.cell? ⟨w.heap.size, 0, none⟩ = some v ∧ w'.cell? ⟨w.heap.size + 1, 0, none⟩ = some (.int .i64 sz) ∧ w'.cell? ⟨w.heap.size + 1, 1, none⟩ = some u ∧ w'.cell? ⟨wr.heap.size, 0, none⟩ = some (.bool true) ∧ w'.cell? ⟨wr.heap.size, 1, none⟩ = some (.slice a1 xl.length d1) ∧ w'.cell? ⟨wr.heap.size, 2, none⟩ = some (.slice a2 xr.length d2))
            (first | exact ⟨Bel.drew0 _, KX.out _ (Bel.drew0 _)⟩ | exact ⟨B8, KX.out _ B8⟩ | exact ⟨B8.step hb9, KX.out _ (B8.step hb9)⟩ | fail)
            (first | (go_at_call 97; refine (HC2.out _ B8).mono ?_; rintro e w9 ⟨rfl, hb9⟩) | (go_at_call 97; refine (HC1.out _ (Bel.drew0 _)).mono ?_; rintro e w8 ⟨rfl, hb8⟩; have B8 := (Bel.drew0 _).step hb8) | fail)
          go_wp2_with fail
          go_ret
          exact ⟨by rw [HT rfl]; rfl, (hB.step hBx).step (B8.step hb9)⟩
    · obtain rfl : k = c.length := by omega
      rw [List.take_length] at hany
      have HY := Lib.hid hany
      clear hany
      go_wp2_with fail
      go_ret
      exact ⟨by rw [HY.out]; rfl, hB.step hb⟩
end Go.Proofs.Yteegjnobmbcjiaa
end
section
/- Chapter 5: the least assignment that makes something false. No program. -/
namespace Go.Proofs.Yteegjnobmbcjiaa
open Go.RowKit

/-- The first of g k, g (k+1), .. that is something. -/
def tryW (g : Nat → Option (List Int)) : Nat → Nat → Option (List Int)
  | _, 0 => none
  | k, m + 1 => match g k with
    | some e => some e
    | none => tryW g (k + 1) m
theorem tryW_some {g : Nat → Option (List Int)} {k m : Nat} {e : List Int} (h : g k = some e) : tryW g k (m+1) = some e := by rw [tryW, h]
theorem tryW_none {g : Nat → Option (List Int)} {k m : Nat} (h : g k = none) : tryW g k (m+1) = tryW g (k+1) m := by rw [tryW, h]
/-- The least values of these variables for which P is false. -/
def lw (Z : Nat) (P : List Int → Bool) : List Nat → List Int → Option (List Int)
  | [], e => if P e then none else some e
  | v :: r, e => tryW (fun n => lw Z P r (e.set v (n : Int))) 0 Z
/-- The same but for these. -/
def Off (vs : List Nat) (e e' : List Int) : Prop := e'.length = e.length ∧ ∀ j, j ∉ vs → e'.getD j 0 = e.getD j 0
theorem Off.refl (vs : List Nat) (e : List Int) : Off vs e e := ⟨rfl, fun _ _ => rfl⟩
theorem Off.trans {vs : List Nat} {a b c : List Int} (h : Off vs a b) (k : Off vs b c) : Off vs a c := ⟨k.1.trans h.1, fun j hj => (k.2 j hj).trans (h.2 j hj)⟩
theorem Off.symm {vs : List Nat} {a b : List Int} (h : Off vs a b) : Off vs b a := ⟨h.1.symm, fun j hj => (h.2 j hj).symm⟩
theorem Off.wider {vs us : List Nat} {a b : List Int} (h : Off vs a b) (k : ∀ v ∈ vs, v ∈ us) : Off us a b := ⟨h.1, fun j hj => h.2 j fun hm => hj (k j hm)⟩
theorem set_getD (e : List Int) (v : Nat) (x : Int) (j : Nat) : (e.set v x).getD j 0 = if v = j ∧ v < e.length then x else e.getD j 0 := by
  rw [List.getD_eq_getElem?_getD, List.getElem?_set]
  by_cases h : v = j
  · subst h
    by_cases hl : v < e.length
    · simp [hl]
    · simp [hl, List.getD]
  · rw [if_neg h, if_neg (fun k => h k.1), List.getD_eq_getElem?_getD]
theorem Off.set {v : Nat} {r : List Nat} {e e' : List Int} (h : Off (v :: r) e e') (x : Int) : Off r (e.set v x) (e'.set v x) := by
  refine ⟨by simp [h.1], fun j hj => ?_⟩
  rw [set_getD, set_getD, h.1]
  by_cases hv : v = j ∧ v < e.length
  · rw [if_pos hv, if_pos hv]
  · rw [if_neg hv, if_neg hv]
    by_cases e1 : j = v
    · subst e1
      have hl : e.length ≤ j := by omega
      rw [List.getD_eq_getElem?_getD, List.getD_eq_getElem?_getD, List.getElem?_eq_none (by rw [h.1]; exact hl), List.getElem?_eq_none hl]
    · exact h.2 j (by simp [e1, hj])
theorem Off.one (v : Nat) (r : List Nat) (e : List Int) (x : Int) : Off (v :: r) e (e.set v x) := by
  refine ⟨by simp, fun j hj => ?_⟩
  rw [set_getD, if_neg]
  rintro ⟨h, _⟩
  exact hj (by simp [h])
theorem Off.nil {a b : List Int} (h : Off [] a b) : b = a := by
  refine List.ext_getElem h.1 fun j h1 h2 => ?_
  have := h.2 j (by simp)
  simpa [List.getD, h1, h2] using this
/-- What the variables are at first does not count. -/
theorem lw_off (Z : Nat) (P : List Int → Bool) : ∀ (vs : List Nat) (e e' : List Int), Off vs e e' → lw Z P vs e' = lw Z P vs e := by
  intro vs
  induction vs with
  | nil => intro e e' h; rw [h.nil]
  | cons v r ih =>
    intro e e' h
    show tryW _ 0 Z = tryW _ 0 Z
    congr 1
    funext n
    exact ih _ _ (h.set _)
theorem tryW_mem {g : Nat → Option (List Int)} : ∀ (m k : Nat) (e : List Int), tryW g k m = some e → ∃ n, k ≤ n ∧ n < k + m ∧ g n = some e := by
  intro m
  induction m with
  | zero => intro k e h; simp [tryW] at h
  | succ m ih =>
    intro k e h
    rw [tryW] at h
    cases hg : g k with
    | some x => rw [hg] at h; simp at h; subst h; exact ⟨k, Nat.le_refl _, by omega, hg⟩
    | none =>
      rw [hg] at h
      obtain ⟨n, h1, h2, h3⟩ := ih _ _ h
      exact ⟨n, by omega, by omega, h3⟩
theorem okEnv_set {sz : Int} {e : List Int} (h : okEnv sz e = true) (v : Nat) {x : Int} (h0 : 0 ≤ x) (h1 : x ≤ sz - 1) : okEnv sz (e.set v x) = true := by
  obtain ⟨a, b⟩ := okEnv_iff.1 h
  refine okEnv_iff.2 ⟨by simp [a], fun j hj => ?_⟩
  rw [set_getD]
  split
  · exact ⟨h0, h1⟩
  · exact b j hj
theorem lw_ok {Z : Nat} {P : List Int → Bool} : ∀ (vs : List Nat) (e r : List Int), okEnv Z e = true → lw Z P vs e = some r → okEnv Z r = true ∧ Off vs e r := by
  intro vs
  induction vs with
  | nil =>
    intro e r h hl
    unfold lw at hl
    split at hl
    · simp at hl
    · simp at hl; subst hl; exact ⟨h, Off.refl _ _⟩
  | cons v vs ih =>
    intro e r h hl
    obtain ⟨n, _, hn, hg⟩ := tryW_mem _ _ _ hl
    obtain ⟨k1, k2⟩ := ih _ _ (okEnv_set h v (x := (n : Int)) (by omega) (by omega)) hg
    exact ⟨k1, (Off.one v vs e n).trans (k2.wider (by simp +contextual))⟩
def zeros12 : List Int := List.replicate 12 0
theorem zeros_ok {Z : Nat} (h : 1 ≤ Z) : okEnv Z zeros12 = true := by
  refine okEnv_iff.2 ⟨rfl, fun j hj => ?_⟩
  have : zeros12.getD j 0 = 0 := by
    unfold zeros12
    rw [List.getD_eq_getElem?_getD, List.getElem?_replicate]
    simp [hj]
  rw [this]; omega

/-- The answers. -/
def varsC (c : List Lt) : List Nat := varsTo (mk (flatC c).flatten) 12
def fewC (c : List Lt) : Bool := decide ((varsC c).length ≤ 6)
def falseOk (ar : List Int) (sz : Int) (tb : List (List Int)) (c : List Lt) : Bool := goodWorld ar sz tb && (okLits ar c && fewC c)
def lwC (ar : List Int) (sz : Int) (tb : List (List Int)) (c : List Lt) : Option (List Int) := lw sz.toNat (fun e => clH ar sz tb e c) (varsC c) zeros12
def falseAns (ar : List Int) (sz : Int) (tb : List (List Int)) (c : List Lt) : List Int := if falseOk ar sz tb c then (lwC ar sz tb c).getD [] else []
def falseIs (ar : List Int) (sz : Int) (tb : List (List Int)) (c : List Lt) : Bool := falseOk ar sz tb c && (lwC ar sz tb c).isSome
theorem lwC_ok {ar : List Int} {sz : Int} {tb : List (List Int)} {c : List Lt} (h1 : 1 ≤ sz) {r : List Int} (h : lwC ar sz tb c = some r) : okEnv sz r = true := by
  obtain ⟨Z, rfl⟩ : ∃ Z : Nat, sz = (Z : Int) := ⟨sz.toNat, by omega⟩
  exact (lw_ok _ _ _ (zeros_ok (by omega)) h).1
theorem falseAns_len (ar : List Int) (sz : Int) (tb : List (List Int)) (c : List Lt) : (falseAns ar sz tb c).length ≤ 1048576 := by
  unfold falseAns
  split
  · rename_i h
    unfold falseOk at h
    rw [Bool.and_eq_true] at h
    obtain ⟨w1, _⟩ := isWorld_iff.1 (goodWorld_iff.1 h.1).2
    cases hl : lwC ar sz tb c with
    | none => simp
    | some r => have := (okEnv_iff.1 (lwC_ok w1 hl)).1; simp; omega
  · simp
end Go.Proofs.Yteegjnobmbcjiaa
end
section
/- Chapter 5, the program: areTriable. -/
namespace Go.Proofs.Yteegjnobmbcjiaa
open Go.RowKit

/-- The slice value v holds the clauses cs. -/
def SlCs (lo hi : Nat) (w : World) (v : Value) (cs : List (List Lt)) : Prop :=
  ∃ ad cap, v = .slice ad cs.length cap ∧ cs.length ≤ cap ∧ (cap ≤ maxLen ∧ (ad = none → cap = 0)) ∧
    (0 < cs.length → ∃ b off, ad = some ⟨b, off, none⟩ ∧ lo ≤ b ∧ b < hi ∧ ∀ j, j < cs.length → ∃ u, w.cell? ⟨b, off + j, none⟩ = some u ∧ SlC lo hi w u (cs.getD j []))
theorem SlCs.form {lo hi w v cs} (h : SlCs lo hi w v cs) : ∃ ad k, v = .slice ad cs.length k := by obtain ⟨ad, k, h, _⟩ := h; exact ⟨ad, k, h⟩
theorem SlCs.below {lo hi w w' v cs} (h : SlCs lo hi w v cs) (hb : Bel w w') : SlCs lo hi w' v cs := by
  obtain ⟨ad, cap, rfl, hc, hm, hr⟩ := h
  refine ⟨ad, cap, rfl, hc, hm, fun hp => ?_⟩
  obtain ⟨b, off, e, a1, a2, a3⟩ := hr hp
  refine ⟨b, off, e, a1, a2, fun j hj => ?_⟩
  obtain ⟨u, h1, h2⟩ := a3 j hj
  exact ⟨u, hb.at (World.block_lt_of_cell? w ⟨b, off + j, none⟩ h1) h1, h2.below hb⟩
theorem SlCs.at {lo hi : Nat} {w wr : World} {ad : Option Addr} {k n : Nat} {cs : List (List Lt)} (h : SlCs lo hi w (.slice ad n k) cs) (hb : Bel w wr) (j : Nat) (hj : j < cs.length) :
    ∃ b off u, ad = some ⟨b, off, none⟩ ∧ b < w.heap.size ∧ wr.cell? ⟨b, off + j, none⟩ = some u ∧ SlC lo hi wr u (cs.getD j []) := by
  obtain ⟨ad', cap, e, _, _, hr⟩ := h
  obtain ⟨b, off, e2, _, _, hc⟩ := hr (by omega)
  obtain ⟨u, c1, s1⟩ := hc j hj
  have h1 := World.block_lt_of_cell? w ⟨b, off + j, none⟩ c1
  simp only [Value.slice.injEq] at e
  exact ⟨b, off, u, e.1.trans e2, h1, hb.at h1 c1, s1.below hb⟩
/-- One clause in a block of its own. -/
theorem slcs_one {w : World} {c : List Lt} {u : Value} {t : TypeId} (g : Nat) (hg : g = w.heap.size) (h : SlC 0 w.heap.size w u c) :
    SlCs 0 (w.alloc (.cells #[u] t)).heap.size (w.alloc (.cells #[u] t)) (.slice (some ⟨g, 0, none⟩) 1 1) [c] := by
  subst hg
  have hb := Bel.alloc0 w (.cells #[u] t)
  refine ⟨_, 1, rfl, Nat.le_refl _, ⟨by unfold maxLen; omega, fun h => by simp at h⟩, fun _ => ⟨w.heap.size, 0, rfl, Nat.zero_le _, by simp, fun j hj => ?_⟩⟩
  obtain rfl : j = 0 := by simp at hj; omega
  exact ⟨u, by rw [World.cell?_alloc_new w]; rfl, (h.below hb).mono (Nat.le_refl _) hb.size⟩

def triable (ar : List Int) (cs : List (List Lt)) : Bool := decide (cs.length ≤ 40) && cs.all (fun c => goodClause ar c && fewC c)
theorem allg_split {α : Type} (c : List α) (d : α) (p : α → Bool) (k : Nat) (hk : k < c.length) (h : (c.take k).all p = true) : (c.take (k+1)).all p = p (c.getD k d) := by
  rw [List.take_succ_eq_append_getElem hk, List.all_append, h]
  simp [List.getD, hk]
theorem allg_false {α : Type} (c : List α) (d : α) (p : α → Bool) (k : Nat) (hk : k < c.length) (h : p (c.getD k d) = false) : c.all p = false := by
  rw [List.all_eq_false]
  exact ⟨c[k], List.getElem_mem hk, by simp [List.getD, hk] at h; simp [h]⟩

def RetVI (w : World) (g : Bool) (n : Nat) (e : Ending) (w' : World) : Prop := ∃ ad m k, e = .returned (.tuple #[.slice ad m k, .bool g]) ∧ (g = true → m = n) ∧ Bel w w'
theorem iVarsIn_n {l h l' h' : Nat} {v u : Value} {ar : List Int} {c : List Lt} {w : World} (ha : ar.length ≤ 1048576) (hv : SlI l h w v ar) (hc : sumC c ≤ 1048576) (hu : SlC l' h' w u c) :
    Calls Try.prog 41 #[.agg #[v], u] w (RetVI w (goodClause ar c) (varsC c).length) := by
  refine (iVarsIn_t ha hv hc hu).mono ?_
  rintro e w' ⟨ad, n, k, rfl, o, hb⟩
  refine ⟨ad, n, k, rfl, fun hg => ?_, hb⟩
  obtain ⟨_, _, e, _⟩ := o.sl
  simp only [Value.slice.injEq] at e
  rw [e.2.1]
  unfold varsInAns
  rw [hg, if_pos rfl]
  simp [natsI]; rfl

set_option maxRecDepth 100000 in
set_option maxHeartbeats 1000000 in
theorem areTriable_c (l h l' h' : Nat) (v vc : Value) (ar : List Int) (cs : List (List Lt)) (w : World) (ha : ar.length ≤ 1048576) (hv : SlI l h w v ar) (hs : ∀ k, k < cs.length → sumC (cs.getD k []) ≤ 1048576) (hc : SlCs l' h' w vc cs) :
    Calls Try.prog 127 #[.agg #[v], vc] w (RetV w (.bool (triable ar cs))) := by
  obtain ⟨ac, kc, rfl⟩ := hc.form
  have hcl : cs.length ≤ 9223372036854775807 := by
    obtain ⟨_, cap, e, h1, h2, _⟩ := hc
    unfold maxLen at h2; omega
  unfold triable
  by_cases h40 : cs.length ≤ 40
  · rw [decide_eq_true h40, Bool.true_and]
    have HS1 := Lib.hid (fun k hk h => allg_split cs [] (fun c => goodClause ar c && fewC c) k hk h)
    have HS2 := Lib.hid (fun k hk h => allg_false cs [] (fun c => goodClause ar c && fewC c) k hk h)
    have HV := Lib.hid (fun (c : List Lt) (u : Value) (a b : Nat) (w' : World) (hb : Bel w w') (h1 : sumC c ≤ 1048576) (h2 : SlC a b w' u c) => iVarsIn_n ha (hv.below hb) h1 h2)
    have hd : decide ((cs.length : Int) > 40) = false := decide_eq_false (by omega)
    have HSM := Lib.hid hs
    have HB := Bel.alloc0 w (.cells #[v] 30)
    clear hv hs
    go_enter Try.func127, Try.ntmps127
    go_wp2_with fail
    go_loopw [14] (fun i wr => ∃ k : Nat, k ≤ cs.length ∧ i = .int .i64 k ∧ (cs.take k).all (fun c => goodClause ar c && fewC c) = true ∧ Bel (w.alloc (.cells #[v] 30)) wr) (fun i _ => cs.length - (intOf i).toNat)
    case atStart => exact ⟨0, Nat.zero_le _, rfl, rfl, Bel.rfl' _⟩
    case round =>
      obtain ⟨k, hk, rfl, hall, hb⟩ := hrel
      have x0 : wr.cell? ⟨w.heap.size, 0, none⟩ = some v := hb.at (by simp) (by simp [go_sem])
      by_cases hlt : k < cs.length
      · obtain ⟨bc, offc, uc, rfl, hbc, c1, s1⟩ := hc.at hb.of_alloc k hlt
        obtain ⟨a1, d1, rfl⟩ := s1.form
        have HC := Lib.hid (HV.out _ _ _ _ _ hb.of_alloc (HSM.out k hlt) s1)
        have HA := Lib.hid (HS1.out k hlt hall)
        have HF := Lib.hid (HS2.out k hlt)
        have hlk : (k : Int) < cs.length := by omega
        generalize hcc : (cs.getD k []) = c at *
        have hfe : fewC c = decide ((varsC c).length ≤ 6) := rfl
        have hvl : (varsC c).length ≤ 12 := varsTo_len _ _
        rw [hfe] at HA HF
        generalize (varsC c).length = n at *
        generalize c.length = m at *
        clear hc s1 hall HS1 HS2 HV HSM hcc hfe
        generalize goodClause ar c = g at *
        cases g with
        | false =>
          go_wp2_with fail
          refine HC.out.mono ?_; rintro e w3 ⟨a3, m3, k3, rfl, -, hb3⟩
          go_wp2_with fail
          go_ret
          exact ⟨by rw [HF.out rfl]; rfl, (HB.step hb).step hb3⟩
        | true =>
          by_cases h6 : n ≤ 6
          · have hA := HA.out
            rw [decide_eq_true h6] at hA
            have HA2 := Lib.hid hA
            clear hA HA HF
            have hd6 : decide ((n : Int) > 6) = false := decide_eq_false (by omega)
            go_wp2_with fail
            refine HC.out.mono ?_; rintro e w3 ⟨a3, m3, k3, rfl, hm3, hb3⟩
            obtain rfl := hm3 rfl
            go_wp2_with fail
            go_roundw
            case rel => exact ⟨k+1, by omega, by go_num, HA2.out, hb.step hb3⟩
            case measure => simp [intOf]; omega
          · have hF := Lib.hid (HF.out (by rw [decide_eq_false h6]; rfl))
            clear HA HF
            have hd6 : decide ((n : Int) > 6) = true := decide_eq_true (by omega)
            go_wp2_with fail
            refine HC.out.mono ?_; rintro e w3 ⟨a3, m3, k3, rfl, hm3, hb3⟩
            obtain rfl := hm3 rfl
            go_wp2_with fail
            go_ret
            exact ⟨by rw [hF.out]; rfl, (HB.step hb).step hb3⟩
      · obtain rfl : k = cs.length := by omega
        rw [List.take_length] at hall
        have HALL := Lib.hid hall
        clear hall
        go_wp2_with fail
        go_ret
        exact ⟨by rw [HALL.out]; rfl, HB.step hb⟩
  · rw [decide_eq_false h40, Bool.false_and]
    have hd : decide ((cs.length : Int) > 40) = true := decide_eq_true (by omega)
    go_enter Try.func127, Try.ntmps127
    go_wp2_with fail
    go_ret
    exact ⟨rfl, Bel.alloc0 _ _⟩
end Go.Proofs.Yteegjnobmbcjiaa
end
section
/- The laws' helpers over slices of clauses: the size. -/
namespace Go.Proofs.Yteegjnobmbcjiaa
open Go.RowKit

def sumCs (cs : List (List Lt)) : Nat := (cs.map sumC).sum
def totCs (cs : List (List Lt)) : Nat := cs.length + sumCs cs
def szCs (cs : List (List Lt)) (left : Int) : Int := if left - (totCs cs : Nat) < 0 then -1 else left - (totCs cs : Nat)
theorem sumCs_take (cs : List (List Lt)) (k : Nat) (h : k < cs.length) : sumCs (cs.take (k+1)) = sumCs (cs.take k) + sumC (cs.getD k []) := by
  unfold sumCs
  rw [List.take_succ_eq_append_getElem h, List.map_append, List.sum_append]
  simp [List.getD, h]
theorem sumCs_get (cs : List (List Lt)) (k : Nat) (h : k < cs.length) : sumCs (cs.take k) + sumC (cs.getD k []) ≤ sumCs cs := by
  rw [← sumCs_take cs k h]
  conv => rhs; rw [← List.take_append_drop (k+1) cs]
  unfold sumCs
  rw [List.map_append, List.sum_append]; omega
theorem totCs_each {cs : List (List Lt)} {n : Nat} (h : totCs cs ≤ n) : cs.length ≤ n ∧ ∀ k, k < cs.length → sumC (cs.getD k []) ≤ n := by
  unfold totCs at h
  exact ⟨by omega, fun k hk => by have := sumCs_get cs k hk; omega⟩
theorem SlCs.max {lo hi w v cs} (h : SlCs lo hi w v cs) : cs.length ≤ 9223372036854775807 := by
  obtain ⟨_, cap, e, h1, h2, _⟩ := h
  unfold maxLen at h2; omega

end Go.Proofs.Yteegjnobmbcjiaa
end
section
/- Chapter 5: a literal's truth hangs on its own variables; what a test remembers. No program. -/
namespace Go.Proofs.Yteegjnobmbcjiaa
open Go.RowKit

section
variable {ar : List Int} {sz : Int} {tb : List (List Int)}
theorem Ev.congr {env env' : List Int} {s : Option Nat} {y vs : List Int} (h : Ev ar sz tb env s y vs) (hq : ∀ n ∈ y, n < 0 → env.getD (-1 - n).toNat 0 = env'.getD (-1 - n).toNat 0) : Ev ar sz tb env' s y vs := by
  induction h with
  | var n h1 h2 => rw [hq n (by simp) h2]; exact Ev.var n h1 h2
  | node n ys vs h1 h2 _ ih => exact Ev.node n ys vs h1 h2 (ih fun m hm => hq m (List.mem_cons_of_mem _ hm))
  | nil => exact Ev.nil
  | cons m y ys v vs _ _ ih1 ih2 => exact Ev.cons m y ys v vs (ih1 fun k hk => hq k (List.mem_append_left _ hk)) (ih2 fun k hk => hq k (List.mem_append_right _ hk))
theorem evT_congr {env env' t : List Int} (ht : okTerm ar t = true) (hq : ∀ n ∈ t, n < 0 → env.getD (-1 - n).toNat 0 = env'.getD (-1 - n).toNat 0) : evT ar sz tb env t = evT ar sz tb env' t :=
  (ev_eq ht ((ev_whole ht).congr hq)).symm
end
theorem varsC_mem {c : List Lt} {x : Lt} (hx : x ∈ c) {n : Int} (hn : n ∈ x.2.1 ∨ n ∈ x.2.2) (h0 : n < 0) (h12 : -12 ≤ n) : (-1 - n).toNat ∈ varsC c := by
  unfold varsC varsTo
  rw [List.mem_filter, List.mem_range]
  refine ⟨by omega, ?_⟩
  unfold mk
  rw [decide_eq_true_eq, show (-1 - (((-1 - n).toNat : Nat) : Int)) = n by omega, List.mem_flatten]
  rcases hn with h | h
  · exact ⟨x.2.1, List.mem_flatMap.2 ⟨x, hx, by simp⟩, h⟩
  · exact ⟨x.2.2, List.mem_flatMap.2 ⟨x, hx, by simp⟩, h⟩
theorem litH_congr {ar : List Int} {sz : Int} {tb : List (List Int)} {x : Lt} {e e' : List Int} (o1 : okTerm ar x.2.1 = true) (o2 : okTerm ar x.2.2 = true) (h : ∀ v ∈ varsC [x], e.getD v 0 = e'.getD v 0) : litH ar sz tb e x = litH ar sz tb e' x := by
  unfold litH
  rw [evT_congr (env' := e') o1 (fun n hn h0 => h _ (varsC_mem (by simp) (.inl hn) h0 (ok_low o1 hn))), evT_congr (env' := e') o2 (fun n hn h0 => h _ (varsC_mem (by simp) (.inr hn) h0 (ok_low o2 hn)))]
/-- The index of an assignment among those of these variables. -/
def idxW (sz : Int) (vs : List Nat) (e : List Int) : Int := noOf sz (vs.map fun v => e.getD v 0)
theorem fold_inj {sz : Int} (hs : 1 ≤ sz) : ∀ (xs ys : List Int) (a b : Int), xs.length = ys.length → (∀ x ∈ xs, 0 ≤ x ∧ x ≤ sz - 1) → (∀ y ∈ ys, 0 ≤ y ∧ y ≤ sz - 1) → xs.foldl (fun no v => no * sz + v) a = ys.foldl (fun no v => no * sz + v) b → a = b ∧ xs = ys := by
  intro xs
  induction xs with
  | nil =>
    intro ys a b hl _ _ h
    obtain rfl : ys = [] := List.length_eq_zero_iff.1 hl.symm
    exact ⟨h, rfl⟩
  | cons x xs ih =>
    intro ys a b hl hx hy h
    match ys, hl with
    | y :: ys, hl =>
      obtain ⟨h1, h2⟩ := ih ys (a * sz + x) (b * sz + y) (by simpa using hl) (fun z hz => hx z (by simp [hz])) (fun z hz => hy z (by simp [hz])) h
      obtain ⟨x0, x1⟩ := hx x (by simp)
      obtain ⟨y0, y1⟩ := hy y (by simp)
      have e1 : (a * sz + x) % sz = x := by rw [Int.add_comm, Int.add_mul_emod_self_right]; exact Int.emod_eq_of_lt x0 (by omega)
      have e2 : (b * sz + y) % sz = y := by rw [Int.add_comm, Int.add_mul_emod_self_right]; exact Int.emod_eq_of_lt y0 (by omega)
      have hxy : x = y := by rw [← e1, ← e2, h1]
      subst hxy
      have h3 : a * sz = b * sz := by omega
      exact ⟨Int.eq_of_mul_eq_mul_right (by omega) h3, by rw [h2]⟩
theorem idx_inj {sz : Int} (hs : 1 ≤ sz) {vs : List Nat} {e e' : List Int} (hv : ∀ v ∈ vs, v < 12) (h : okEnv sz e = true) (h' : okEnv sz e' = true) (hi : idxW sz vs e = idxW sz vs e') : ∀ v ∈ vs, e.getD v 0 = e'.getD v 0 := by
  have hb : ∀ (f : List Int), okEnv sz f = true → ∀ x ∈ vs.map (fun v => f.getD v 0), 0 ≤ x ∧ x ≤ sz - 1 := fun f hf x hx => by
    obtain ⟨v, hv', rfl⟩ := List.mem_map.1 hx
    exact (okEnv_iff.1 hf).2 v (hv v hv')
  have := (fold_inj hs _ _ 0 0 (by simp) (hb e h) (hb e' h') hi).2
  intro v hm
  have h2 := List.map_inj_left.1 this v hm
  exact h2
theorem idx_bd {sz : Int} (hs : 1 ≤ sz) {vs : List Nat} {e : List Int} (hv : ∀ v ∈ vs, v < 12) (h : okEnv sz e = true) : 0 ≤ idxW sz vs e ∧ idxW sz vs e < ((sz.toNat ^ vs.length : Nat) : Int) := by
  have := noOf_bd hs (vs.map fun v => e.getD v 0) (fun x hx => by
    obtain ⟨v, hv', rfl⟩ := List.mem_map.1 hx
    exact (okEnv_iff.1 h).2 v (hv v hv'))
  unfold longW at this
  rw [List.length_map, Int.toNat_natCast] at this
  exact this
/-- What has been remembered is right. -/
def Known (ar : List Int) (sz : Int) (tb : List (List Int)) (x : Lt) (ks : List Int) : Prop :=
  ks.length = sz.toNat ^ (varsC [x]).length ∧ ∀ e, okEnv sz e = true → (ks.getD (idxW sz (varsC [x]) e).toNat 0 = 0 ∨ ks.getD (idxW sz (varsC [x]) e).toNat 0 = if litH ar sz tb e x then 2 else 1)
theorem Known.new (ar : List Int) (sz : Int) (tb : List (List Int)) (x : Lt) : Known ar sz tb x (List.replicate (sz.toNat ^ (varsC [x]).length) 0) := by
  refine ⟨by simp, fun e _ => .inl ?_⟩
  rw [List.getD_eq_getElem?_getD, List.getElem?_replicate]
  split <;> rfl
theorem varsC_lt {c : List Lt} : ∀ v ∈ varsC c, v < 12 := fun v hv => by
  unfold varsC varsTo at hv
  rw [List.mem_filter, List.mem_range] at hv
  exact hv.1
theorem Known.put {ar : List Int} {sz : Int} {tb : List (List Int)} {x : Lt} {ks : List Int} (h : Known ar sz tb x ks) (hs : 1 ≤ sz) (o1 : okTerm ar x.2.1 = true) (o2 : okTerm ar x.2.2 = true) {e : List Int} (he : okEnv sz e = true) (y : Int) (hy : y = if litH ar sz tb e x then 2 else 1) :
    Known ar sz tb x (ks.set (idxW sz (varsC [x]) e).toNat y) := by
  refine ⟨by simp [h.1], fun e' he' => ?_⟩
  rw [set_getD]
  by_cases hc : (idxW sz (varsC [x]) e).toNat = (idxW sz (varsC [x]) e').toNat ∧ (idxW sz (varsC [x]) e).toNat < ks.length
  · rw [if_pos hc]
    have h1 := idx_bd hs (varsC_lt (c := [x])) he
    have h2 := idx_bd hs (varsC_lt (c := [x])) he'
    have h3 := idx_inj hs (varsC_lt (c := [x])) he he' (by omega)
    refine .inr ?_
    rw [hy, litH_congr o1 o2 h3]
  · rw [if_neg hc]
    exact h.2 e' he'
end Go.Proofs.Yteegjnobmbcjiaa
end
section
/- Chapter 5, the reference: HoldsAt. -/
namespace Go.Proofs.Yteegjnobmbcjiaa
open Go.RowKit

theorem l4Clause_w (l h l' h' : Nat) (v u : Value) (ar : List Int) (c : List Lt) (q : Bool) (w : World) (he : okLits ar c = q) (hg : goodSign ar = true) (hx : shortC c) (hv : SlI l h w v ar) (hu : SlC l' h' w u c) :
    Calls Try.prog 77 #[.agg #[v], u] w (RetV w (.bool q)) := by subst he; exact l4Clause_c l h l' h' v u ar c w hg hx hv hu
def holdsOk (ar : List Int) (sz : Int) (tb : List (List Int)) (c : List Lt) (env : List Int) : Bool := goodWorld ar sz tb && (okLits ar c && okEnv sz env)
def holdsAns (ar : List Int) (sz : Int) (tb : List (List Int)) (c : List Lt) (env : List Int) : Bool := if holdsOk ar sz tb c env then clH ar sz tb env c else false

set_option maxRecDepth 100000 in
set_option maxHeartbeats 1000000 in
theorem sHoldsAt_t {l h l' h' l2 h2 l3 h3 : Nat} {v u vc ve : Value} {ar : List Int} {sz : Int} {tb : List (List Int)} {c : List Lt} {env : List Int} {w : World} (ha : ar.length ≤ 1048576) (hv : SlI l h w v ar) (hx : short tb) (hu : SlS l' h' w u tb) (hcs : sumC c ≤ 1048576) (hc : SlC l2 h2 w vc c) (hel : env.length ≤ 1048576) (he : SlI l3 h3 w ve env) :
    Calls Try.prog 50 #[.agg #[v], .agg #[.int .i64 sz, u], vc, ve] w (RetV w (.tuple #[.bool (holdsAns ar sz tb c env), .bool (holdsOk ar sz tb c env)])) := by
  unfold holdsAns holdsOk
  have HB : Bel w ((w.alloc (.cells #[v] 30)).alloc (.cells #[.int .i64 sz, u] 58)) := Bel.alloc2 _ _ _
  have HK : Hid (∀ w', Bel ((w.alloc (.cells #[v] 30)).alloc (.cells #[.int .i64 sz, u] 58)) w' → w'.cell? ⟨w.heap.size, 0, none⟩ = some v ∧ w'.cell? ⟨w.heap.size + 1, 0, none⟩ = some (.int .i64 sz) ∧ w'.cell? ⟨w.heap.size + 1, 1, none⟩ = some u) := fun w' hb =>
    ⟨hb.at (by simp; omega) (by simp [go_sem]), hb.at (by simp) (by simp [go_sem]), hb.at (by simp) (by simp [go_sem])⟩
  cases hg : goodWorld ar sz tb with
  | false =>
    rw [Bool.false_and, if_neg (by simp)]
    have HC := Lib.hid (fun (w' : World) (hb : Bel w w') => sGoodWorld_v hg ha (hv.below hb) hx (hu.below hb)); clear hg
    go_enter Try.func50, Try.ntmps50
    go_wp2_with fail
    refine (HC.out _ HB).mono ?_; rintro e w1 ⟨rfl, hb1⟩
    go_wp2_with fail
    go_ret2
    exact ⟨rfl, HB.step hb1⟩
  | true =>
    rw [Bool.true_and]
    obtain ⟨hgs, hiw⟩ := goodWorld_iff.1 hg
    obtain ⟨z1, z3, _, _⟩ := isWorld_iff.1 hiw
    have HC := Lib.hid (fun (w' : World) (hb : Bel w w') => sGoodWorld_v hg ha (hv.below hb) hx (hu.below hb)); clear hg
    cases hq : okLits ar c with
    | false =>
      rw [Bool.false_and, if_neg (by simp)]
      have HT := Lib.hid (fun (w' : World) (hb : Bel w w') => l4Clause_w l h l2 h2 v vc ar c false w' hq hgs (shortC_of_sum hcs) (hv.below hb) (hc.below hb)); clear hq
      go_enter Try.func50, Try.ntmps50
      go_wp2_with fail
      refine (HC.out _ HB).mono ?_; rintro e w1 ⟨rfl, hb1⟩
      obtain ⟨x0, x1, x2⟩ := HK.out _ hb1
      go_wp2_with fail
      refine (HT.out _ (HB.step hb1)).mono ?_; rintro e w2 ⟨rfl, hb2⟩
      go_wp2_with fail
      go_ret2
      exact ⟨rfl, (HB.step hb1).step hb2⟩
    | true =>
      rw [Bool.true_and]
      have HT := Lib.hid (fun (w' : World) (hb : Bel w w') => l4Clause_w l h l2 h2 v vc ar c true w' hq hgs (shortC_of_sum hcs) (hv.below hb) (hc.below hb))
      cases hp : okEnv sz env with
      | false =>
        rw [if_neg (by simp)]
        have HE := Lib.hid (fun (w' : World) (hb : Bel w w') => l5Env_v l3 h3 u ve sz env false w' hp z1 z3 hel (he.below hb))
        clear hq hp
        go_enter Try.func50, Try.ntmps50
        go_wp2_with fail
        refine (HC.out _ HB).mono ?_; rintro e w1 ⟨rfl, hb1⟩
        obtain ⟨x0, x1, x2⟩ := HK.out _ hb1
        go_wp2_with fail
        refine (HT.out _ (HB.step hb1)).mono ?_; rintro e w2 ⟨rfl, hb2⟩
        obtain ⟨y0, y1, y2⟩ := HK.out _ (hb1.step hb2)
        go_wp2_with fail
        refine (HE.out _ ((HB.step hb1).step hb2)).mono ?_; rintro e w3 ⟨rfl, hb3⟩
        go_wp2_with fail
        go_ret2
        exact ⟨rfl, ((HB.step hb1).step hb2).step hb3⟩
      | true =>
        rw [if_pos rfl]
        have HE := Lib.hid (fun (w' : World) (hb : Bel w w') => l5Env_v l3 h3 u ve sz env true w' hp z1 z3 hel (he.below hb))
        have HV := Lib.hid (fun (w' : World) (hb : Bel w w') => l5At_c l h l' h' l2 h2 l3 h3 v u vc ve ar sz tb c env w' hgs hiw hp hq (hv.below hb) (hu.below hb) (hc.below hb) (he.below hb))
        clear hq hp
        generalize clH ar sz tb env c = val at *
        go_enter Try.func50, Try.ntmps50
        go_wp2_with fail
        refine (HC.out _ HB).mono ?_; rintro e w1 ⟨rfl, hb1⟩
        obtain ⟨x0, x1, x2⟩ := HK.out _ hb1
        go_wp2_with fail
        refine (HT.out _ (HB.step hb1)).mono ?_; rintro e w2 ⟨rfl, hb2⟩
        obtain ⟨y0, y1, y2⟩ := HK.out _ (hb1.step hb2)
        go_wp2_with fail
        refine (HE.out _ ((HB.step hb1).step hb2)).mono ?_; rintro e w3 ⟨rfl, hb3⟩
        obtain ⟨v0, v1, v2⟩ := HK.out _ ((hb1.step hb2).step hb3)
        go_wp2_with fail
        refine (HV.out _ (((HB.step hb1).step hb2).step hb3)).mono ?_; rintro e w4 ⟨rfl, hb4⟩
        go_wp2_with fail
        go_ret2
        exact ⟨rfl, (((HB.step hb1).step hb2).step hb3).step hb4⟩
end Go.Proofs.Yteegjnobmbcjiaa
end
section
/- Chapter 5, the program: the value of a term. -/
namespace Go.Proofs.Yteegjnobmbcjiaa
open Go.RowKit

theorem noOf_tk {sz : Int} (l : List Int) (k : Nat) (hk : k < l.length) : noOf sz (l.take (k+1)) = noOf sz (l.take k) * sz + l.getD k 0 := by
  rw [List.take_succ_eq_append_getElem hk, noOf_snoc]
  simp [List.getD, hk]
theorem stk_at {w : World} {B : Nat} {vs : List Int} (h : Stk w B vs) (q : Nat) (hq : q < vs.length) : w.cell? ⟨B, vs.length - (q + 1), none⟩ = some (.int .i64 (vs.getD q 0)) := by
  have := h.2.2 q hq
  rwa [show vs.length - 1 - q = vs.length - (q + 1) by omega] at this

set_option maxRecDepth 100000 in
set_option maxHeartbeats 2000000 in
theorem valueIn_c (l h l' h' l2 h2 l3 h3 : Nat) (v u vt ve : Value) (ar : List Int) (sz : Int) (tb : List (List Int)) (t env : List Int) (w : World) (hg : goodSign ar = true) (hw : isWorld ar sz tb = true) (he : okEnv sz env = true) (hok : okTerm ar t = true)
    (hv : SlI l h w v ar) (hu : SlS l' h' w u tb) (ht : SlI l2 h2 w vt t) (hve : SlI l3 h3 w ve env) :
    Calls Try.prog 92 #[.agg #[v], .agg #[.int .i64 sz, u], vt, ve] w (RetV w (.int .i64 (evT ar sz tb env t))) := by
  obtain ⟨w1, w2, w3, w4⟩ := isWorld_iff.1 hw
  obtain ⟨e1, e2⟩ := okEnv_iff.1 he
  have htl := ((okTerm_iff ar t).1 hok).2.1
  have ht1 := ((okTerm_iff ar t).1 hok).1
  have HM : Hid (∀ m : Nat, okSym ar (m : Int) = true → m < tb.length) := fun m hm => by have := okSym_lt hm; omega
  have HALL := Lib.hid (suf_all (sz := sz) (tb := tb) (env := env) hok)
  have HBD := Lib.hid (fun i hi => suf_bd (tb := tb) (env := env) hg hw he hok i hi)
  have HARG := Lib.hid (fun i hi hn => suf_args (sz := sz) (tb := tb) (env := env) hok i hi hn)
  have HLEN := Lib.hid (fun y => sufV_len (ar := ar) (sz := sz) (tb := tb) (env := env) y)
  have HSYM := Lib.hid (good_sym ar t hok)
  have HTB := Lib.hid w4
  clear w3 w4 hok hw he
  obtain ⟨av, cv, rfl, -, -, hrv⟩ := hv
  obtain ⟨at', ct, rfl, -, -, hrt⟩ := ht
  obtain ⟨ae, ce, rfl, -, -, hre⟩ := hve
  obtain ⟨au, cu, rfl⟩ := hu.form
  go_enter Try.func92, Try.ntmps92
  go_wp2_with fail
  obtain ⟨W, hW⟩ : ∃ W, W = (w.alloc (.cells #[.slice av ar.length cv] 30)).alloc (.cells #[.int .i64 sz, .slice au tb.length cu] 58) := ⟨_, rfl⟩
  have hB : Bel w W := by rw [hW]; exact Bel.alloc2 _ _ _
  have zW : W.heap.size = w.heap.size + 1 + 1 := by rw [hW]; simp
  have k0 : W.cell? ⟨w.heap.size, 0, none⟩ = some (.slice av ar.length cv) := by rw [hW]; simp [go_sem]
  have k1 : W.cell? ⟨w.heap.size + 1, 0, none⟩ = some (.int .i64 sz) := by rw [hW]; simp [go_sem]
  have k2 : W.cell? ⟨w.heap.size + 1, 1, none⟩ = some (.slice au tb.length cu) := by rw [hW]; simp [go_sem]
  rw [← hW, ← zW]
  replace zW : w.heap.size + 1 < W.heap.size := by omega
  clear hW
  go_loopw [10, 11] (fun top i wr => ∃ k : Nat, k ≤ t.length ∧ i = .int .i64 ((k : Int) - 1) ∧ top = .int .i64 (((sufV ar sz tb env (t.drop k)).length : Nat) : Int) ∧ Stk wr W.heap.size (sufV ar sz tb env (t.drop k)) ∧ Bel W wr) (fun _ i _ => (intOf i + 1).toNat)
  case atStart =>
    refine ⟨t.length, Nat.le_refl _, rfl, ?_, ?_, Bel.alloc0 _ _⟩
    · rw [List.drop_length]; rfl
    · rw [List.drop_length]; exact Stk.new W _ _ rfl
  case round =>
    obtain ⟨k, hk, rfl, rfl, hst, hb⟩ := hrel
    have q0 := hb.at (by omega) k0
    have q1 := hb.at (by omega) k1
    have q2 := hb.at (by omega) k2
    cases k with
    | zero =>
      rw [List.drop_zero, HALL.out] at hst
      have hc0 : wr.cell? ⟨W.heap.size, 0, none⟩ = some (.int .i64 (evT ar sz tb env t)) := hst.2.2 0 (by simp)
      have hz : decide (((0 : Nat) : Int) - 1 ≥ 0) = false := by simp
      clear hst HALL HBD HARG
      go_wp2_with fail
      go_ret
      exact ⟨rfl, hB.step hb⟩
    | succ k =>
      rw [show ((k + 1 : Nat) : Int) - 1 = (k : Int) from by omega]
      obtain ⟨bt, offt, rfl, hbtl, hct⟩ := rd hrt (hB.step hb) k (by omega)
      have hsym := HSYM.out k (by omega)
      have hvl := HLEN.out (t.drop (k+1))
      rw [List.length_drop] at hvl
      have hbd := Lib.hid (HBD.out (k+1) (by omega))
      have harg := Lib.hid (HARG.out k (by omega))
      have hdrop : Hid (sufV ar sz tb env (t.drop k) = sufV ar sz tb env (t.getD k 0 :: t.drop (k+1))) := by show _ = _; rw [drop_cons t k (by omega)]
      have hkt : (k : Int) < t.length := by omega
      by_cases hneg : t.getD k 0 < 0
      · have E := Lib.hid (hdrop.out.trans (sufV_neg hneg))
        obtain ⟨j, hj⟩ : ∃ j : Nat, t.getD k 0 = -1 - (j : Int) := ⟨(-1 - t.getD k 0).toNat, by omega⟩
        have hj12 : j < 12 := by rw [hj] at hsym; unfold okSym inB at hsym; simp at hsym; omega
        rw [hj] at hct E
        obtain ⟨be, offe, rfl, hbel, hce⟩ := rd hre (hB.step hb) j (by omega)
        have hw1 := IntWalk.i64_in (-1 - (-1 - (j : Int))) (by omega)
        have hjj : -1 - (-1 - (j : Int)) = (j : Int) := by omega
        rw [hjj] at hw1
        have hjE : (-1 - (-1 - (j : Int))).toNat = j := by omega
        rw [hjE] at E
        have hneg2 : decide ((-1 - (j : Int)) < 0) = true := by simp; omega
        have hjl : (j : Int) < 12 := by omega
        clear harg hbd hdrop hneg hj hsym hjE hrt hre HALL HBD HARG HLEN HSYM HTB
        generalize env.getD j 0 = val at *
        generalize sufV ar sz tb env (t.drop (k+1)) = vs at *
        have hst2 := Lib.hid (hst.push val (by omega))
        obtain ⟨x, hcx, hfx⟩ := hst.2.1 vs.length (by omega)
        have hl40 : ((vs.length : Nat) : Int) < 40 := by omega
        have hbs := Lib.hid (hb.set (p := ⟨W.heap.size, vs.length, none⟩) (Nat.le_refl _) (.int .i64 val))
        clear hst hvl
        go_wp2_with fail
        go_roundw
        case rel => exact ⟨k, by omega, by go_num, by rw [E.out]; simp, by rw [E.out]; exact hst2.out, hbs.out⟩
        case measure => simp [intOf]
      · have E := Lib.hid (hdrop.out.trans (sufV_sym hneg))
        have hal := harg.out (by omega)
        obtain ⟨m, hm⟩ : ∃ m : Nat, t.getD k 0 = (m : Int) := ⟨(t.getD k 0).toNat, by omega⟩
        rw [hm] at hct E hal hsym
        have hma := okSym_lt hsym
        have hmt := HM.out m hsym
        obtain ⟨ba, offa, rfl, hbal, hca⟩ := rd hrv (hB.step hb) m hma
        have h03 := ar_nonneg ar hg m
        obtain ⟨A, hA⟩ : ∃ A : Nat, ar.getD m 0 = (A : Int) := ⟨(ar.getD m 0).toNat, by omega⟩
        have hTT := HTB.out m hmt
        have hAA : arOf ar (m : Int) = A := by rw [arOf_nat, hA]; simp
        rw [hAA] at E hal
        rw [hA] at hca h03 hTT
        have hA3 : A ≤ 3 := by omega
        have hneg2 : decide ((m : Int) < 0) = false := by simp
        have hmal : (m : Int) < ar.length := by omega
        have hmtl : (m : Int) < tb.length := by omega
        unfold entry at E
        rw [Int.toNat_natCast] at E
        obtain ⟨bb, off, u1, rfl, hbs, c1, s1⟩ := hu.at (hB.step hb) m hmt
        obtain ⟨x1, x2, rfl, -, -, hrx⟩ := s1
        clear harg hdrop hneg hm hsym hA hAA hrt hre hrv HALL HBD HARG HLEN HSYM HTB HM
        generalize sufV ar sz tb env (t.drop (k+1)) = vs at *
        have HNO : Hid (∀ q, q ≤ A → 0 ≤ noOf sz (vs.take q) ∧ noOf sz (vs.take q) ≤ 26) := fun q hq => noOf_le w1 w2 _ (fun x hx => hbd.out x (List.mem_of_mem_take hx)) (by rw [List.length_take]; omega)
        have HNL : Hid (noOf sz (vs.take A) < ((tb.getD m []).length : Nat)) := by
          show _ < _
          have := noOf_bd w1 (vs.take A) (fun x hx => hbd.out x (List.mem_of_mem_take hx))
          rw [hTT.1]
          rw [List.length_take, show min A vs.length = A by omega] at this
          exact this.2
        have HVB : Hid (∀ q, q < vs.length → 0 ≤ vs.getD q 0 ∧ vs.getD q 0 ≤ sz - 1) := fun q hq => hbd.out _ (mem_gd vs 0 q hq)
        have hvl40 : vs.length < 40 := by omega
        clear hTT hbd hvl
        go_wp2_with fail
        obtain ⟨wo, hwo⟩ : ∃ wo, wo = wr := ⟨_, rfl⟩
        subst hwo
        have zB : W.heap.size < wo.heap.size := hst.1
        go_loopw [10, 13, 41] (fun top no j w2' => ∃ q : Nat, q ≤ A ∧ j = .int .i64 q ∧ no = .int .i64 (noOf sz (vs.take q)) ∧ top = .int .i64 ((vs.length - q : Nat) : Int) ∧ Bel wo w2') (fun _ _ j _ => A - (intOf j).toNat)
        case atStart => exact ⟨0, Nat.zero_le _, rfl, by simp [noOf], rfl, Bel.rfl' _⟩
        case round =>
          obtain ⟨q, hq, rfl, rfl, rfl, hbq⟩ := hrel
          have hn0 := HNO.out q hq
          by_cases hqA : q < A
          · have hv0 := HVB.out q (by omega)
            have hs1 := hbq.at zB (stk_at hst q (by omega))
            have HS := Lib.hid (noOf_tk (sz := sz) vs q (by omega))
            have r1 := hbq.at (by omega) q1
            have hsub : ((vs.length - q : Nat) : Int) - 1 = ((vs.length - (q + 1) : Nat) : Int) := by omega
            have hs40 : ((vs.length - (q + 1) : Nat) : Int) < 40 := by omega
            have hs41 : ((vs.length - q : Nat) : Int) ≤ 40 := by omega
            have hs42 : (1 : Int) ≤ ((vs.length - q : Nat) : Int) := by omega
            have hmul : noOf sz (vs.take q) * sz ≤ noOf sz (vs.take q) * 3 := Int.mul_le_mul_of_nonneg_left w2 hn0.1
            have hmul0 := Int.mul_nonneg hn0.1 (show 0 ≤ sz by omega)
            generalize vs.getD q 0 = x at *
            generalize noOf sz (vs.take q) = no at *
            have i1 := IntWalk.i64_in (no * sz) (by omega)
            have i2 := IntWalk.i64_in (no * sz + x) (by omega)
            have i3 := IntWalk.i64_in (((vs.length - q : Nat) : Int) - 1) (by omega)
            rw [hsub] at i3
            have HSUB := Lib.hid hsub
            have hsz := Lib.hid hst
            clear hmul hmul0 HNO HNL HVB hst hrx hsub
            generalize hP : vs.length - (q + 1) = P at *
            generalize hQ : vs.length - q = Q at *
            have HP := Lib.hid hP
            have hPQ : (Q : Int) - 1 = (P : Int) := HSUB.out
            clear hP hQ
            go_wp2_with fail
            go_region_held3 (fun w' => Bel wr w' ∧ w'.cell? ⟨w.heap.size + 1, 0, none⟩ = some (.int .i64 sz) ∧ w'.cell? ⟨W.heap.size, P, none⟩ = some (.int .i64 x))
              (first | exact ⟨Bel.drew0 _, r1, hs1⟩ | fail)
              (first | fail)
            go_wp2_with fail
            go_roundw
            case rel => exact ⟨q+1, by omega, by go_num, by rw [HS.out], by rw [HP.out], hbq.step (Bel.drew0 _)⟩
            case measure => simp [intOf]; omega
          · obtain rfl : q = A := by omega
            obtain ⟨N, hN⟩ : ∃ N : Nat, noOf sz (vs.take q) = (N : Int) := ⟨(noOf sz (vs.take q)).toNat, by omega⟩
            have hnl := HNL.out
            rw [hN] at hnl hn0 E ⊢
            rw [Int.toNat_natCast] at E
            have hNL : N < (tb.getD m []).length := by omega
            obtain ⟨bx, ofx, rfl, hxl, hcx⟩ := rd hrx hbq N hNL
            have r2 := hbq.at (by omega) q2
            have c2 := hbq.at (World.block_lt_of_cell? _ ⟨_, _, none⟩ c1) c1
            have hst2 := (hst.below hbq).drop q hal
            have hdl : (vs.drop q).length = vs.length - q := List.length_drop
            obtain ⟨y, hcy, hfy⟩ := hst2.2.1 (vs.length - q) (by omega)
            have hl40 : ((vs.length - q : Nat) : Int) < 40 := by omega
            generalize (tb.getD m []).getD N 0 = val at *
            have hst3 := Lib.hid (hst2.push val (by omega))
            have hbs2 := Lib.hid ((hb.step hbq).set (p := ⟨W.heap.size, vs.length - q, none⟩) (Nat.le_refl _) (.int .i64 val))
            have HDL := Lib.hid hdl
            clear HNO HNL HVB hst hst2 hrx hN hnl hdl
            generalize (tb.getD m []).length = xl at *
            generalize hQ : vs.length - q = Q at *
            clear hQ
            go_wp2_with fail
            go_roundw
            case rel => exact ⟨k, by omega, by go_num, by rw [E.out, List.length_cons, HDL.out]; simp, by have h9 := hst3.out; rw [HDL.out] at h9; rw [E.out]; exact h9, hbs2.out⟩
            case measure => simp [intOf]
end Go.Proofs.Yteegjnobmbcjiaa
end
section
/- Chapter 5, the program: tables and their elements, GoodWorld. -/
namespace Go.Proofs.Yteegjnobmbcjiaa
open Go.RowKit

set_option maxRecDepth 100000 in
set_option maxHeartbeats 400000 in
theorem tableLength_c (Z A : Nat) (w : World) (h2 : Z ≤ 3) (h3 : A ≤ 3) :
    Calls Try.prog 101 #[.int .i64 (A : Int), .int .i64 (Z : Int)] w (RetV w (.int .i64 ((Z ^ A : Nat) : Int))) := by
  go_enter Try.func101, Try.ntmps101
  go_wp2_with fail
  go_loop [5, 7] (fun n a => ∃ k : Nat, k ≤ A ∧ a = .int .i64 k ∧ n = .int .i64 ((Z ^ k : Nat) : Int)) (fun _ a => A - (intOf a).toNat)
  case atStart => exact ⟨0, Nat.zero_le _, rfl, rfl⟩
  case round =>
    obtain ⟨k, hk, rfl, rfl⟩ := hrel
    by_cases hlt : k < A
    · have E := Lib.hid (pw_succ Z k)
      have hb := pw_le h2 (show k + 1 ≤ 3 by omega)
      have hw : -9223372036854775808 ≤ ((Z ^ k : Nat) : Int) * (Z : Int) ∧ ((Z ^ k : Nat) : Int) * (Z : Int) ≤ 9223372036854775807 := by rw [E.out]; omega
      have hw1 := IntWalk.i64_in (((Z ^ k : Nat) : Int) * (Z : Int)) hw
      clear hw hb
      generalize ((Z ^ k : Nat) : Int) = y at *
      go_wp2_with fail
      go_round
      case rel => exact ⟨k+1, by omega, by go_num, by rw [← E.out]⟩
      case measure => simp [intOf]; omega
    · obtain rfl : k = A := by omega
      generalize ((Z ^ k : Nat) : Int) = y at *
      go_wp2_with fail
      go_ret
      exact ⟨rfl, Bel.rfl' _⟩

theorem elem_in (x sz : Int) : inB x 0 (sz - 1) = (decide (0 ≤ x) && decide (x < sz)) := by
  unfold inB
  rw [show decide (x ≤ sz - 1) = decide (x < sz) from by rw [Bool.eq_iff_iff]; simp; omega]

set_option maxRecDepth 100000 in
set_option maxHeartbeats 400000 in
theorem areElements_c (l h : Nat) (v : Value) (xs : List Int) (sz : Int) (w : World) (hx : xs.length ≤ 1048576) (hv : SlI l h w v xs) :
    Calls Try.prog 60 #[v, .int .i64 sz] w (RetV w (.bool (xs.all (fun x => inB x 0 (sz - 1))))) := by
  obtain ⟨ad, cap, rfl, -, -, hr⟩ := hv
  go_enter Try.func60, Try.ntmps60
  go_wp2_with fail
  go_loop [9] (fun i => ∃ k : Nat, k ≤ xs.length ∧ i = .int .i64 k ∧ (xs.take k).all (fun x => inB x 0 (sz - 1)) = true) (fun i => xs.length - (intOf i).toNat)
  case atStart => exact ⟨0, Nat.zero_le _, rfl, by simp⟩
  case round =>
    obtain ⟨k, hk, rfl, hall⟩ := hrel
    by_cases hlt : k < xs.length
    · obtain ⟨b, off, rfl, hbl, hc⟩ := rd hr (Bel.rfl' w) k hlt
      have ES : (xs.take (k+1)).all (fun x => inB x 0 (sz - 1)) = (decide (0 ≤ xs.getD k 0) && decide (xs.getD k 0 < sz)) := (all_split xs (fun x => inB x 0 (sz - 1)) k hlt hall).trans (elem_in _ _)
      have EF : (decide (0 ≤ xs.getD k 0) && decide (xs.getD k 0 < sz)) = false → xs.all (fun x => inB x 0 (sz - 1)) = false := fun h => all_false xs (fun x => inB x 0 (sz - 1)) k hlt ((elem_in _ _).trans h)
      generalize xs.getD k 0 = x at *
      by_cases h0 : x < 0
      · have E := Lib.hid (EF (by rw [decide_eq_false (show ¬ 0 ≤ x by omega)]; rfl))
        clear ES EF hall hr
        go_wp2_with fail
        go_ret
        exact ⟨by rw [E.out]; rfl, Bel.rfl' _⟩
      · by_cases h1 : x < sz
        · have E := Lib.hid (ES.trans (by rw [decide_eq_true (show 0 ≤ x by omega), decide_eq_true h1, Bool.true_and]))
          clear ES EF hall hr
          go_wp2_with fail
          go_round
          case rel => exact ⟨k+1, by omega, by go_num, E.out⟩
          case measure => simp [intOf]; omega
        · have E := Lib.hid (EF (by rw [decide_eq_false h1, Bool.and_false]))
          clear ES EF hall hr
          go_wp2_with fail
          go_ret
          exact ⟨by rw [E.out]; rfl, Bel.rfl' _⟩
    · have E := Lib.hid (all_done xs _ k hk hlt hall)
      clear hall hr
      go_wp2_with fail
      go_ret
      exact ⟨by rw [E.out]; rfl, Bel.rfl' _⟩
theorem areElements_v (l h : Nat) (v : Value) (xs : List Int) (sz : Int) (q : Bool) (w : World) (he : xs.all (fun x => inB x 0 (sz - 1)) = q) (hx : xs.length ≤ 1048576) (hv : SlI l h w v xs) :
    Calls Try.prog 60 #[v, .int .i64 sz] w (RetV w (.bool q)) := by subst he; exact areElements_c l h v xs sz w hx hv

set_option maxRecDepth 100000 in
set_option maxHeartbeats 400000 in
theorem hasWorlds_c (l h : Nat) (v : Value) (ar : List Int) (sz : Int) (w : World) (ha : ar.length ≤ 1048576) (hv : SlI l h w v ar) :
    Calls Try.prog 100 #[.agg #[v], .int .i64 sz] w (RetV w (.bool (goodSign ar && inB sz 1 3))) := by
  cases hg : goodSign ar with
  | false =>
    have HC := Lib.hid (fun (w' : World) (hb : Bel w w') => iGoodSign_v l h v ar false w' hg ha (hv.below hb)); clear hg
    go_enter Try.func100, Try.ntmps100
    go_wp2_with fail
    refine (HC.out _ (Bel.alloc0 _ _)).mono ?_; rintro e w1 ⟨rfl, hb1⟩
    go_wp2_with fail
    go_ret
    exact ⟨rfl, hb1.of_alloc⟩
  | true =>
    rw [Bool.true_and]
    have HC := Lib.hid (fun (w' : World) (hb : Bel w w') => iGoodSign_v l h v ar true w' hg ha (hv.below hb)); clear hg
    by_cases h1 : 1 ≤ sz
    · by_cases h2 : sz ≤ 3
      · have E : Hid (inB sz 1 3 = true) := by show _ = _; unfold inB; simp [h1, h2]
        go_enter Try.func100, Try.ntmps100
        go_wp2_with fail
        refine (HC.out _ (Bel.alloc0 _ _)).mono ?_; rintro e w1 ⟨rfl, hb1⟩
        go_wp2_with fail
        go_ret
        exact ⟨by rw [E.out]; rfl, hb1.of_alloc⟩
      · have E : Hid (inB sz 1 3 = decide (sz ≤ 3)) := by show _ = _; unfold inB; rw [decide_eq_true h1, Bool.true_and]
        go_enter Try.func100, Try.ntmps100
        go_wp2_with fail
        refine (HC.out _ (Bel.alloc0 _ _)).mono ?_; rintro e w1 ⟨rfl, hb1⟩
        go_wp2_with fail
        go_ret
        exact ⟨by rw [E.out]; rfl, hb1.of_alloc⟩
    · have E : Hid (inB sz 1 3 = false) := by show _ = _; unfold inB; simp; omega
      go_enter Try.func100, Try.ntmps100
      go_wp2_with fail
      refine (HC.out _ (Bel.alloc0 _ _)).mono ?_; rintro e w1 ⟨rfl, hb1⟩
      go_wp2_with fail
      go_ret
      exact ⟨by rw [E.out]; rfl, hb1.of_alloc⟩
theorem hasWorlds_v (l h : Nat) (v : Value) (ar : List Int) (sz : Int) (q : Bool) (w : World) (he : (goodSign ar && inB sz 1 3) = q) (ha : ar.length ≤ 1048576) (hv : SlI l h w v ar) :
    Calls Try.prog 100 #[.agg #[v], .int .i64 sz] w (RetV w (.bool q)) := by subst he; exact hasWorlds_c l h v ar sz w ha hv
end Go.Proofs.Yteegjnobmbcjiaa
end
section
/- Chapter 5, the program: GoodWorld. -/
namespace Go.Proofs.Yteegjnobmbcjiaa
open Go.RowKit

set_option maxRecDepth 100000 in
set_option maxHeartbeats 1000000 in
theorem iGoodWorld_t {l h l' h' : Nat} {v u : Value} {ar : List Int} {sz : Int} {tb : List (List Int)} {w : World} (ha : ar.length ≤ 1048576) (hv : SlI l h w v ar) (hx : short tb) (hu : SlS l' h' w u tb) :
    Calls Try.prog 51 #[.agg #[v], .agg #[.int .i64 sz, u]] w (RetV w (.bool (goodWorld ar sz tb))) := by
  have hv0 := hv
  obtain ⟨ad, cap, rfl, -, -, hr⟩ := hv
  obtain ⟨au, cu, rfl⟩ := hu.form
  by_cases h1 : (goodSign ar && inB sz 1 3) = true
  · have hg : goodSign ar = true := by revert h1; cases goodSign ar <;> simp
    have h1b : inB sz 1 3 = true := by revert h1; cases inB sz 1 3 <;> simp
    have hlen := (sign_len ar hg).2
    have HH := Lib.hid (fun (w' : World) (hb : Bel w w') => hasWorlds_v l h _ ar sz true w' h1 ha (hv0.below hb))
    by_cases h2 : tb.length = ar.length
    · have hn := Lib.hid (ne_len h2)
      have E0 : goodWorld ar sz tb = okTabs ar sz tb tb.length := by unfold goodWorld isWorld; rw [hg, h1b, decide_eq_true h2, Bool.true_and, Bool.true_and, Bool.true_and]
      obtain ⟨z1, z3⟩ : 1 ≤ sz ∧ sz ≤ 3 := by unfold inB at h1b; simpa using h1b
      obtain ⟨Z, rfl⟩ : ∃ Z : Nat, sz = (Z : Int) := ⟨sz.toNat, by omega⟩
      have H2 := Lib.hid h2
      rw [E0]
      have hnn := hn.out
      clear h1 h1b h2 E0 hn hv0
      go_enter Try.func51, Try.ntmps51
      go_wp2_with fail
      refine (HH.out _ (Bel.alloc2 _ _ _)).mono ?_; rintro e W ⟨rfl, hb0⟩
      have hB : Bel w W := (Bel.alloc2 w _ _).step hb0
      have zW : w.heap.size + 1 < W.heap.size := by have := hb0.size; simp at this; omega
      have k0 := hb0.at (b := w.heap.size) (off := 0) (by simp; omega) (show World.cell? _ _ = some (.slice ad ar.length cap) by simp [go_sem])
      have k1 := hb0.at (b := w.heap.size + 1) (off := 0) (by simp) (show World.cell? _ _ = some (.int .i64 (Z : Int)) by simp [go_sem])
      have k2 := hb0.at (b := w.heap.size + 1) (off := 1) (by simp) (show World.cell? _ _ = some (.slice au tb.length cu) by simp [go_sem])
      clear HH hb0
      go_wp2_with fail
      go_loopw [24] (fun j wr => ∃ k : Nat, k ≤ tb.length ∧ j = .int .i64 k ∧ okTabs ar Z tb k = true ∧ Bel W wr) (fun j _ => tb.length - (intOf j).toNat)
      case atStart => exact ⟨0, Nat.zero_le _, rfl, okTabs_zero _ _ _, Bel.rfl' _⟩
      case round =>
        obtain ⟨k, hk, rfl, hall, hb⟩ := hrel
        have q0 := hb.at (b := w.heap.size) (by omega) k0
        have q1 := hb.at zW k1
        have q2 := hb.at zW k2
        by_cases hlt : k < tb.length
        · obtain ⟨b, off, u1, rfl, hbs, c1, s1⟩ := hu.at (hB.step hb) k hlt
          obtain ⟨b2, off2, rfl, hb2l, hc2⟩ := rd hr (hB.step hb) k (by rw [← H2.out]; exact hlt)
          have h03 := ar_nonneg ar hg k
          obtain ⟨A, hA⟩ : ∃ A : Nat, ar.getD k 0 = (A : Int) := ⟨(ar.getD k 0).toNat, by omega⟩
          have hxl := hx.2 k hlt
          have zl1 : w.heap.size + 1 < wr.heap.size := Nat.lt_of_lt_of_le zW hb.size
          have zl0 : w.heap.size < wr.heap.size := by omega
          have zlc : b2 < wr.heap.size := World.block_lt_of_cell? _ ⟨_, _, none⟩ hc2
          have hkl : (k : Int) < ar.length := by rw [← H2.out]; omega
          have EO : okTab Z (ar.getD k 0) (tb.getD k []) = (decide ((tb.getD k []).length = Z ^ A) && (tb.getD k []).all (fun x => inB x 0 ((Z : Int) - 1))) := by rw [hA]; rfl
          have ES := okTabs_succ ar Z tb k
          have EF := fun (h : okTab Z (ar.getD k 0) (tb.getD k []) = false) => okTabs_false (tb := tb) (n := tb.length) h hlt
          rw [EO] at ES EF
          rw [hall, Bool.true_and] at ES
          rw [hA] at hc2 h03
          have hA3 : A ≤ 3 := by omega
          obtain ⟨d1, e1, rfl⟩ := s1.form
          have HL := Lib.hid (fun (w' : World) => tableLength_c Z A w' (by omega) hA3)
          clear hA EO hall h03
          generalize tb.getD k [] = x at *
          by_cases hxz : x.length = Z ^ A
          · have hne := ne_len hxz
            have HA := Lib.hid (fun (q : Bool) (w' : World) (hq : x.all (fun x => inB x 0 ((Z : Int) - 1)) = q) (hb' : Bel wr w') => areElements_v _ _ _ x Z q w' hq hxl (s1.below hb'))
            rw [decide_eq_true hxz, Bool.true_and] at ES EF
            clear s1 hxl hxz
            generalize hyy : Z ^ A = y at *
            clear hyy
            cases hq : x.all (fun x => inB x 0 ((Z : Int) - 1)) with
            | true =>
              have HQ := Lib.hid hq
              have ES2 := Lib.hid (ES.trans hq)
              clear hq ES EF
              go_wp2_with fail
              go_region_held3 (fun w' => Bel wr w' ∧ w'.cell? ⟨w.heap.size + 1, 0, none⟩ = some (.int .i64 (Z : Int)) ∧ w'.cell? ⟨w.heap.size, 0, none⟩ = some (.slice (some ⟨b2, off2, none⟩) ar.length cap) ∧ w'.cell? ⟨b2, off2 + k, none⟩ = some (.int .i64 (A : Int)))
                (first | exact ⟨Bel.drew0 _, q1, q0, hc2⟩ | exact ⟨HB8, p1, p0, pc⟩ | exact ⟨HB8.step hb9, hb9.at pl1 p1, hb9.at pl0 p0, hb9.at plc pc⟩ | fail)
                (first | (go_at_call 60; refine (HA.out _ _ HQ.out HB8).mono ?_; rintro e w9 ⟨rfl, hb9⟩) | (go_at_call 101; refine (HL.out _).mono ?_; rintro e w8 ⟨rfl, hb8⟩; have HB8 := hb8.of_drew; have hz8 := HB8.size; have p1 := HB8.at zl1 q1; have p0 := HB8.at zl0 q0; have pc := HB8.at zlc hc2; have pl1 : w.heap.size + 1 < w8.heap.size := Nat.lt_of_lt_of_le zl1 hz8; have pl0 : w.heap.size < w8.heap.size := Nat.lt_of_lt_of_le zl0 hz8; have plc : b2 < w8.heap.size := Nat.lt_of_lt_of_le zlc hz8) | fail)
              go_wp2_with fail
              go_roundw
              case rel => exact ⟨k+1, by omega, by go_num, ES2.out, (hb.step HB8).step hb9⟩
              case measure => simp [intOf]; omega
            | false =>
              have HQ := Lib.hid hq
              have EF2 := Lib.hid (EF hq)
              clear hq ES EF
              go_wp2_with fail
              go_region_held3 (fun w' => Bel wr w' ∧ w'.cell? ⟨w.heap.size + 1, 0, none⟩ = some (.int .i64 (Z : Int)) ∧ w'.cell? ⟨w.heap.size, 0, none⟩ = some (.slice (some ⟨b2, off2, none⟩) ar.length cap) ∧ w'.cell? ⟨b2, off2 + k, none⟩ = some (.int .i64 (A : Int)))
                (first | exact ⟨Bel.drew0 _, q1, q0, hc2⟩ | exact ⟨HB8, p1, p0, pc⟩ | exact ⟨HB8.step hb9, hb9.at pl1 p1, hb9.at pl0 p0, hb9.at plc pc⟩ | fail)
                (first | (go_at_call 60; refine (HA.out _ _ HQ.out HB8).mono ?_; rintro e w9 ⟨rfl, hb9⟩) | (go_at_call 101; refine (HL.out _).mono ?_; rintro e w8 ⟨rfl, hb8⟩; have HB8 := hb8.of_drew; have hz8 := HB8.size; have p1 := HB8.at zl1 q1; have p0 := HB8.at zl0 q0; have pc := HB8.at zlc hc2; have pl1 : w.heap.size + 1 < w8.heap.size := Nat.lt_of_lt_of_le zl1 hz8; have pl0 : w.heap.size < w8.heap.size := Nat.lt_of_lt_of_le zl0 hz8; have plc : b2 < w8.heap.size := Nat.lt_of_lt_of_le zlc hz8) | fail)
              go_wp2_with fail
              go_ret
              exact ⟨by rw [EF2.out]; rfl, (hB.step hb).step (HB8.step hb9)⟩
          · have hne := ne_len' hxz
            have EF2 := Lib.hid (EF (by rw [decide_eq_false hxz]; rfl))
            clear s1 hxl EF ES
            generalize hyy : Z ^ A = y at *
            clear hyy hxz
            go_wp2_with fail
            first | (go_region_with (first | (go_at_call 101; refine (HL.out _).mono ?_; rintro e w8 ⟨rfl, hb8⟩) | fail)) | fail
            all_goals
              have HB8 := hb8.of_drew
              go_wp2_with fail
              go_ret
              exact ⟨by rw [EF2.out]; rfl, (hB.step hb).step HB8⟩
        · obtain rfl : k = tb.length := by omega
          have HALL := Lib.hid hall
          clear hall hlt
          go_wp2_with fail
          go_ret
          exact ⟨by rw [HALL.out]; rfl, hB.step hb⟩
    · have E0 : Hid (goodWorld ar sz tb = false) := by show _ = _; unfold goodWorld isWorld; rw [decide_eq_false h2]; simp
      have hnn := ne_len' h2
      clear h1 h1b h2 hv0
      go_enter Try.func51, Try.ntmps51
      go_wp2_with fail
      refine (HH.out _ (Bel.alloc2 _ _ _)).mono ?_; rintro e W ⟨rfl, hb0⟩
      have k0 := hb0.at (b := w.heap.size) (off := 0) (by simp; omega) (show World.cell? _ _ = some (.slice ad ar.length cap) by simp [go_sem])
      have k2 := hb0.at (b := w.heap.size + 1) (off := 1) (by simp) (show World.cell? _ _ = some (.slice au tb.length cu) by simp [go_sem])
      go_wp2_with fail
      go_ret
      exact ⟨by rw [E0.out]; rfl, (Bel.alloc2 w _ _).step hb0⟩
  · have h1' : (goodSign ar && inB sz 1 3) = false := by simpa using h1
    have HH := Lib.hid (fun (w' : World) (hb : Bel w w') => hasWorlds_v l h _ ar sz false w' h1' ha (hv0.below hb))
    have E0 : Hid (goodWorld ar sz tb = false) := by show _ = _; unfold goodWorld isWorld; rw [← Bool.and_assoc, h1']; rfl
    clear h1 h1' hv0
    go_enter Try.func51, Try.ntmps51
    go_wp2_with fail
    refine (HH.out _ (Bel.alloc2 _ _ _)).mono ?_; rintro e W ⟨rfl, hb0⟩
    go_wp2_with fail
    go_ret
    exact ⟨by rw [E0.out]; rfl, (Bel.alloc2 w _ _).step hb0⟩
theorem iGoodWorld_v {l h l' h' : Nat} {v u : Value} {ar : List Int} {sz : Int} {tb : List (List Int)} {w : World} {q : Bool} (he : goodWorld ar sz tb = q) (ha : ar.length ≤ 1048576) (hv : SlI l h w v ar) (hx : short tb) (hu : SlS l' h' w u tb) :
    Calls Try.prog 51 #[.agg #[v], .agg #[.int .i64 sz, u]] w (RetV w (.bool q)) := by subst he; exact iGoodWorld_t ha hv hx hu
end Go.Proofs.Yteegjnobmbcjiaa
end
section
/- Chapter 5, the program: EvalIn. -/
namespace Go.Proofs.Yteegjnobmbcjiaa
open Go.RowKit

set_option maxRecDepth 100000 in
set_option maxHeartbeats 400000 in
theorem goodEnv_c (l h : Nat) (u v : Value) (sz : Int) (env : List Int) (w : World) (_ : 1 ≤ sz) (_ : sz ≤ 3) (hx : env.length ≤ 1048576) (hv : SlI l h w v env) :
    Calls Try.prog 79 #[.agg #[.int .i64 sz, u], v] w (RetV w (.bool (okEnv sz env))) := by
  unfold okEnv
  have hv0 := hv
  obtain ⟨ad, cap, rfl⟩ := hv.form
  by_cases h12 : env.length = 12
  · rw [decide_eq_true h12, Bool.true_and]
    have he : ((env.length : Int) == 12) = true := by rw [h12]; rfl
    cases hq : env.all (fun x => inB x 0 (sz - 1)) with
    | false =>
      have HA := Lib.hid (fun (w' : World) (hb : Bel w w') => areElements_v _ _ _ env sz false w' hq hx (hv0.below hb))
      clear hq hv hv0 h12
      go_enter Try.func79, Try.ntmps79
      go_wp2_with fail
      refine (HA.out _ (Bel.alloc0 _ _)).mono ?_; rintro e w1 ⟨rfl, hb1⟩
      go_wp2_with fail
      go_ret
      exact ⟨rfl, hb1.of_alloc⟩
    | true =>
      have HA := Lib.hid (fun (w' : World) (hb : Bel w w') => areElements_v _ _ _ env sz true w' hq hx (hv0.below hb))
      clear hq hv hv0 h12
      go_enter Try.func79, Try.ntmps79
      go_wp2_with fail
      refine (HA.out _ (Bel.alloc0 _ _)).mono ?_; rintro e w1 ⟨rfl, hb1⟩
      go_wp2_with fail
      go_ret
      exact ⟨rfl, hb1.of_alloc⟩
  · rw [decide_eq_false h12, Bool.false_and]
    have he : ((env.length : Int) == 12) = false := beq_eq_false_iff_ne.2 (by omega)
    clear h12
    go_enter Try.func79, Try.ntmps79
    go_wp2_with fail
    go_ret
    exact ⟨rfl, Bel.alloc0 _ _⟩
theorem goodEnv_v (l h : Nat) (u v : Value) (sz : Int) (env : List Int) (q : Bool) (w : World) (he : okEnv sz env = q) (h1 : 1 ≤ sz) (h3 : sz ≤ 3) (hx : env.length ≤ 1048576) (hv : SlI l h w v env) :
    Calls Try.prog 79 #[.agg #[.int .i64 sz, u], v] w (RetV w (.bool q)) := by subst he; exact goodEnv_c l h u v sz env w h1 h3 hx hv

set_option maxRecDepth 100000 in
set_option maxHeartbeats 1000000 in
theorem iEvalIn_t {l h l' h' l2 h2 l3 h3 : Nat} {v u vt ve : Value} {ar : List Int} {sz : Int} {tb : List (List Int)} {t env : List Int} {w : World} (ha : ar.length ≤ 1048576) (hv : SlI l h w v ar) (hx : short tb) (hu : SlS l' h' w u tb) (htl : t.length ≤ 1048576) (ht : SlI l2 h2 w vt t) (hel : env.length ≤ 1048576) (he : SlI l3 h3 w ve env) :
    Calls Try.prog 46 #[.agg #[v], .agg #[.int .i64 sz, u], vt, ve] w (RetV w (.tuple #[.int .i64 (evalAns ar sz tb t env), .bool (evalOk ar sz tb t env)])) := by
  unfold evalAns evalOk
  have HB : Bel w ((w.alloc (.cells #[v] 30)).alloc (.cells #[.int .i64 sz, u] 58)) := Bel.alloc2 _ _ _
  have HK : Hid (∀ w', Bel ((w.alloc (.cells #[v] 30)).alloc (.cells #[.int .i64 sz, u] 58)) w' → w'.cell? ⟨w.heap.size, 0, none⟩ = some v ∧ w'.cell? ⟨w.heap.size + 1, 0, none⟩ = some (.int .i64 sz) ∧ w'.cell? ⟨w.heap.size + 1, 1, none⟩ = some u) := fun w' hb =>
    ⟨hb.at (by simp; omega) (by simp [go_sem]), hb.at (by simp) (by simp [go_sem]), hb.at (by simp) (by simp [go_sem])⟩
  cases hg : goodWorld ar sz tb with
  | false =>
    rw [Bool.false_and, if_neg (by simp)]
    have HC := Lib.hid (fun (w' : World) (hb : Bel w w') => iGoodWorld_v hg ha (hv.below hb) hx (hu.below hb)); clear hg
    go_enter Try.func46, Try.ntmps46
    go_wp2_with fail
    refine (HC.out _ HB).mono ?_; rintro e w1 ⟨rfl, hb1⟩
    go_wp2_with fail
    go_ret2
    exact ⟨rfl, HB.step hb1⟩
  | true =>
    rw [Bool.true_and]
    obtain ⟨hgs, hiw⟩ := goodWorld_iff.1 hg
    obtain ⟨z1, z3, _, _⟩ := isWorld_iff.1 hiw
    have HC := Lib.hid (fun (w' : World) (hb : Bel w w') => iGoodWorld_v hg ha (hv.below hb) hx (hu.below hb)); clear hg
    cases hq : okTerm ar t with
    | false =>
      rw [Bool.false_and, if_neg (by simp)]
      have HT := Lib.hid (fun (w' : World) (hb : Bel w w') => iGoodTerm_vv l h l2 h2 v vt ar t false w' hq hgs ha htl (hv.below hb) (ht.below hb)); clear hq
      go_enter Try.func46, Try.ntmps46
      go_wp2_with fail
      refine (HC.out _ HB).mono ?_; rintro e w1 ⟨rfl, hb1⟩
      obtain ⟨x0, x1, x2⟩ := HK.out _ hb1
      go_wp2_with fail
      refine (HT.out _ (HB.step hb1)).mono ?_; rintro e w2 ⟨rfl, hb2⟩
      go_wp2_with fail
      go_ret2
      exact ⟨rfl, (HB.step hb1).step hb2⟩
    | true =>
      rw [Bool.true_and]
      have HT := Lib.hid (fun (w' : World) (hb : Bel w w') => iGoodTerm_vv l h l2 h2 v vt ar t true w' hq hgs ha htl (hv.below hb) (ht.below hb))
      cases hp : okEnv sz env with
      | false =>
        rw [if_neg (by simp)]
        have HE := Lib.hid (fun (w' : World) (hb : Bel w w') => goodEnv_v l3 h3 u ve sz env false w' hp z1 z3 hel (he.below hb))
        clear hq hp
        go_enter Try.func46, Try.ntmps46
        go_wp2_with fail
        refine (HC.out _ HB).mono ?_; rintro e w1 ⟨rfl, hb1⟩
        obtain ⟨x0, x1, x2⟩ := HK.out _ hb1
        go_wp2_with fail
        refine (HT.out _ (HB.step hb1)).mono ?_; rintro e w2 ⟨rfl, hb2⟩
        obtain ⟨y0, y1, y2⟩ := HK.out _ (hb1.step hb2)
        go_wp2_with fail
        refine (HE.out _ ((HB.step hb1).step hb2)).mono ?_; rintro e w3 ⟨rfl, hb3⟩
        go_wp2_with fail
        go_ret2
        exact ⟨rfl, ((HB.step hb1).step hb2).step hb3⟩
      | true =>
        rw [if_pos rfl]
        have HE := Lib.hid (fun (w' : World) (hb : Bel w w') => goodEnv_v l3 h3 u ve sz env true w' hp z1 z3 hel (he.below hb))
        have HV := Lib.hid (fun (w' : World) (hb : Bel w w') => valueIn_c l h l' h' l2 h2 l3 h3 v u vt ve ar sz tb t env w' hgs hiw hp hq (hv.below hb) (hu.below hb) (ht.below hb) (he.below hb))
        clear hq hp
        generalize evT ar sz tb env t = val at *
        go_enter Try.func46, Try.ntmps46
        go_wp2_with fail
        refine (HC.out _ HB).mono ?_; rintro e w1 ⟨rfl, hb1⟩
        obtain ⟨x0, x1, x2⟩ := HK.out _ hb1
        go_wp2_with fail
        refine (HT.out _ (HB.step hb1)).mono ?_; rintro e w2 ⟨rfl, hb2⟩
        obtain ⟨y0, y1, y2⟩ := HK.out _ (hb1.step hb2)
        go_wp2_with fail
        refine (HE.out _ ((HB.step hb1).step hb2)).mono ?_; rintro e w3 ⟨rfl, hb3⟩
        obtain ⟨v0, v1, v2⟩ := HK.out _ ((hb1.step hb2).step hb3)
        go_wp2_with fail
        refine (HV.out _ (((HB.step hb1).step hb2).step hb3)).mono ?_; rintro e w4 ⟨rfl, hb4⟩
        go_wp2_with fail
        go_ret2
        exact ⟨rfl, (((HB.step hb1).step hb2).step hb3).step hb4⟩
end Go.Proofs.Yteegjnobmbcjiaa
end
section
/- Chapter 5, the program: HoldsAt. -/
namespace Go.Proofs.Yteegjnobmbcjiaa
open Go.RowKit

set_option maxRecDepth 100000 in
set_option maxHeartbeats 2000000 in
theorem litHolds_c (l h l' h' l2 h2 l3 h3 : Nat) (v u u1 u2 ve : Value) (ar : List Int) (sz : Int) (tb : List (List Int)) (p : Bool) (xl xr : List Int) (env : List Int) (w : World) (hg : goodSign ar = true) (hw : isWorld ar sz tb = true) (he : okEnv sz env = true) (o1 : okTerm ar xl = true) (o2 : okTerm ar xr = true)
    (hv : SlI l h w v ar) (hu : SlS l' h' w u tb) (s1 : SlI l2 h2 w u1 xl) (s2 : SlI l2 h2 w u2 xr) (hve : SlI l3 h3 w ve env) :
    Calls Try.prog 80 #[.agg #[v], .agg #[.int .i64 sz, u], .agg #[.bool p, u1, u2], ve] w (RetV w (.bool (litH ar sz tb env (p, xl, xr)))) := by
  have HB : Bel w (((w.alloc (.cells #[v] 30)).alloc (.cells #[.int .i64 sz, u] 58)).alloc (.cells #[.bool p, u1, u2] 91)) := Bel.alloc3 _ _ _ _
  have HC1 := Lib.hid (fun (w' : World) (hq : Bel w w') => valueIn_c l h l' h' l2 h2 l3 h3 v u u1 ve ar sz tb xl env w' hg hw he o1 (hv.below hq) (hu.below hq) (s1.below hq) (hve.below hq))
  have HC2 := Lib.hid (fun (w' : World) (hq : Bel w w') => valueIn_c l h l' h' l2 h2 l3 h3 v u u2 ve ar sz tb xr env w' hg hw he o2 (hv.below hq) (hu.below hq) (s2.below hq) (hve.below hq))
  have KX : Hid (∀ w', Bel (((w.alloc (.cells #[v] 30)).alloc (.cells #[.int .i64 sz, u] 58)).alloc (.cells #[.bool p, u1, u2] 91)) w' → w'.cell? ⟨w.heap.size, 0, none⟩ = some v ∧ w'.cell? ⟨w.heap.size + 1, 0, none⟩ = some (.int .i64 sz) ∧ w'.cell? ⟨w.heap.size + 1, 1, none⟩ = some u ∧ w'.cell? ⟨w.heap.size + 1 + 1, 0, none⟩ = some (.bool p) ∧ w'.cell? ⟨w.heap.size + 1 + 1, 1, none⟩ = some u1 ∧ w'.cell? ⟨w.heap.size + 1 + 1, 2, none⟩ = some u2) := fun w' hq =>
    ⟨hq.at (by simp; omega) (by simp [go_sem]), hq.at (by simp) (by simp [go_sem]), hq.at (by simp) (by simp [go_sem]), hq.at (by simp) (by simp [go_sem]), hq.at (by simp) (by simp [go_sem]), hq.at (by simp) (by simp [go_sem])⟩
  clear hv hu s1 s2 hve hg hw he o1 o2
  unfold litH
  generalize evT ar sz tb env xl = e1 at *
  generalize evT ar sz tb env xr = e2 at *
  cases p with
  | false =>
    cases hq : ((e1 : Int) == e2)
    all_goals
      go_enter Try.func80, Try.ntmps80
      go_wp2_with fail
      go_region_held3 (fun w' => Bel w w' ∧ w'.cell? ⟨w.heap.size, 0, none⟩ = some v ∧ w'.cell? ⟨w.heap.size + 1, 0, none⟩ = some (.int .i64 sz) ∧ w'.cell? ⟨w.heap.size + 1, 1, none⟩ = some u ∧ w'.cell? ⟨w.heap.size + 1 + 1, 0, none⟩ = some (.bool false) ∧ w'.cell? ⟨w.heap.size + 1 + 1, 1, none⟩ = some u1 ∧ w'.cell? ⟨w.heap.size + 1 + 1, 2, none⟩ = some u2)
        (first | exact ⟨HB.drew, KX.out _ (Bel.drew0 _)⟩ | exact ⟨HB.step B8, KX.out _ B8⟩ | exact ⟨HB.step B9, KX.out _ B9⟩ | fail)
        (first | (go_at_call 92; refine (HC2.out _ (HB.step B8)).mono ?_; rintro e w9 ⟨rfl, hb9⟩; have B9 := B8.step hb9) | (go_at_call 92; refine (HC1.out _ HB.drew).mono ?_; rintro e w8 ⟨rfl, hb8⟩; have B8 := (Bel.drew0 _).step hb8) | fail)
      go_wp2_with fail
      go_ret
      exact ⟨rfl, HB.step B9⟩
  | true =>
    cases hq : ((e1 : Int) == e2)
    all_goals
      go_enter Try.func80, Try.ntmps80
      go_wp2_with fail
      go_region_held3 (fun w' => Bel w w' ∧ w'.cell? ⟨w.heap.size, 0, none⟩ = some v ∧ w'.cell? ⟨w.heap.size + 1, 0, none⟩ = some (.int .i64 sz) ∧ w'.cell? ⟨w.heap.size + 1, 1, none⟩ = some u ∧ w'.cell? ⟨w.heap.size + 1 + 1, 0, none⟩ = some (.bool true) ∧ w'.cell? ⟨w.heap.size + 1 + 1, 1, none⟩ = some u1 ∧ w'.cell? ⟨w.heap.size + 1 + 1, 2, none⟩ = some u2)
        (first | exact ⟨HB.drew, KX.out _ (Bel.drew0 _)⟩ | exact ⟨HB.step B8, KX.out _ B8⟩ | exact ⟨HB.step B9, KX.out _ B9⟩ | fail)
        (first | (go_at_call 92; refine (HC2.out _ (HB.step B8)).mono ?_; rintro e w9 ⟨rfl, hb9⟩; have B9 := B8.step hb9) | (go_at_call 92; refine (HC1.out _ HB.drew).mono ?_; rintro e w8 ⟨rfl, hb8⟩; have B8 := (Bel.drew0 _).step hb8) | fail)
      go_wp2_with fail
      go_ret
      exact ⟨rfl, HB.step B9⟩
end Go.Proofs.Yteegjnobmbcjiaa
end
section
/- Chapter 5, the program: the test of a literal, which remembers. -/
namespace Go.Proofs.Yteegjnobmbcjiaa
open Go.RowKit

theorem pw_le12 {Z k : Nat} (h1 : Z ≤ 3) (h2 : k ≤ 12) : Z ^ k ≤ 531441 :=
  Nat.le_trans (Nat.pow_le_pow_left h1 _) (Nat.pow_le_pow_right (n := 3) (by omega) h2)
set_option maxRecDepth 100000 in
set_option maxHeartbeats 400000 in
theorem tableLength_g (Z A : Nat) (w : World) (h2 : Z ≤ 3) (h3 : A ≤ 12) :
    Calls Try.prog 101 #[.int .i64 (A : Int), .int .i64 (Z : Int)] w (RetV w (.int .i64 ((Z ^ A : Nat) : Int))) := by
  go_enter Try.func101, Try.ntmps101
  go_wp2_with fail
  go_loop [5, 7] (fun n a => ∃ k : Nat, k ≤ A ∧ a = .int .i64 k ∧ n = .int .i64 ((Z ^ k : Nat) : Int)) (fun _ a => A - (intOf a).toNat)
  case atStart => exact ⟨0, Nat.zero_le _, rfl, rfl⟩
  case round =>
    obtain ⟨k, hk, rfl, rfl⟩ := hrel
    by_cases hlt : k < A
    · have E := Lib.hid (pw_succ Z k)
      have hb := pw_le12 h2 (show k + 1 ≤ 12 by omega)
      have hw : -9223372036854775808 ≤ ((Z ^ k : Nat) : Int) * (Z : Int) ∧ ((Z ^ k : Nat) : Int) * (Z : Int) ≤ 9223372036854775807 := by rw [E.out]; omega
      have hw1 := IntWalk.i64_in (((Z ^ k : Nat) : Int) * (Z : Int)) hw
      clear hw hb
      generalize ((Z ^ k : Nat) : Int) = y at *
      go_wp2_with fail
      go_round
      case rel => exact ⟨k+1, by omega, by go_num, by rw [← E.out]⟩
      case measure => simp [intOf]; omega
    · obtain rfl : k = A := by omega
      generalize ((Z ^ k : Nat) : Int) = y at *
      go_wp2_with fail
      go_ret
      exact ⟨rfl, Bel.rfl' _⟩

/-- The test of the literal x at these blocks. -/
structure Tst (ar : List Int) (sz : Int) (tb : List (List Int)) (L H lo hi : Nat) (x : Lt) (p7 p4 p8 p3 p5 bk : Nat) (a7 : Option Addr) (c7 : Nat) (v u u1 u2 : Value) (ks : List Int) (w : World) : Prop where
  b3 : lo ≤ p3 ∧ p3 < p7
  b4 : lo ≤ p4 ∧ p4 < p7
  b5 : lo ≤ p5 ∧ p5 < p7
  b7 : lo ≤ p7 ∧ p7 < bk
  b8 : bk < p8 ∧ p8 < hi
  old : H ≤ lo
  cur : hi ≤ w.heap.size
  s7 : w.cell? ⟨p7, 0, none⟩ = some (.slice a7 (varsC [x]).length c7)
  v7 : SlI lo p7 w (.slice a7 (varsC [x]).length c7) (natsI (varsC [x]))
  s40 : w.cell? ⟨p4, 0, none⟩ = some (.int .i64 sz)
  s41 : w.cell? ⟨p4, 1, none⟩ = some u
  v4 : SlS L H w u tb
  s3 : w.cell? ⟨p3, 0, none⟩ = some v
  v3 : SlI L H w v ar
  s50 : w.cell? ⟨p5, 0, none⟩ = some (.bool x.1)
  s51 : w.cell? ⟨p5, 1, none⟩ = some u1
  s52 : w.cell? ⟨p5, 2, none⟩ = some u2
  v51 : SlI L H w u1 x.2.1
  v52 : SlI L H w u2 x.2.2
  s8 : w.cell? ⟨p8, 0, none⟩ = some (.slice (some ⟨bk, 0, none⟩) ks.length ks.length)
  v8 : OwnI bk (bk + 1) w (.slice (some ⟨bk, 0, none⟩) ks.length ks.length) ks
  kn : Known ar sz tb x ks
theorem Tst.chg {ar : List Int} {sz : Int} {tb : List (List Int)} {L H lo hi : Nat} {x : Lt} {p7 p4 p8 p3 p5 bk : Nat} {a7 : Option Addr} {c7 : Nat} {v u u1 u2 : Value} {ks : List Int} {w w' : World} {l' h' : Nat}
    (t : Tst ar sz tb L H lo hi x p7 p4 p8 p3 p5 bk a7 c7 v u u1 u2 ks w) (k : Chg l' h' w w') (d1 : h' ≤ lo ∨ hi ≤ l') (d2 : h' ≤ L ∨ H ≤ l') : Tst ar sz tb L H lo hi x p7 p4 p8 p3 p5 bk a7 c7 v u u1 u2 ks w' := by
  obtain ⟨b3, b4, b5, b7, b8, old, cur, s7, v7, s40, s41, v4, s3, v3, s50, s51, s52, v51, v52, s8, v8, kn⟩ := t
  have hz := k.size
  exact ⟨b3, b4, b5, b7, b8, old, by omega, k.cell (by omega) (by omega) s7, v7.chg k (by omega), k.cell (by omega) (by omega) s40, k.cell (by omega) (by omega) s41, v4.chg k (by omega), k.cell (by omega) (by omega) s3, v3.chg k (by omega),
    k.cell (by omega) (by omega) s50, k.cell (by omega) (by omega) s51, k.cell (by omega) (by omega) s52, v51.chg k (by omega), v52.chg k (by omega), k.cell (by omega) (by omega) s8, v8.chg k (by omega), kn⟩
/-- What is remembered has turned, the rest not. -/
theorem Tst.put {ar : List Int} {sz : Int} {tb : List (List Int)} {L H lo hi : Nat} {x : Lt} {p7 p4 p8 p3 p5 bk : Nat} {a7 : Option Addr} {c7 : Nat} {v u u1 u2 : Value} {ks ks' : List Int} {w w' : World}
    (t : Tst ar sz tb L H lo hi x p7 p4 p8 p3 p5 bk a7 c7 v u u1 u2 ks w) (k : Chg bk (bk+1) w w') (hl : ks'.length = ks.length) (ho : OwnI bk (bk + 1) w' (.slice (some ⟨bk, 0, none⟩) ks.length ks.length) ks') (hk : Known ar sz tb x ks') : Tst ar sz tb L H lo hi x p7 p4 p8 p3 p5 bk a7 c7 v u u1 u2 ks' w' := by
  obtain ⟨b3, b4, b5, b7, b8, old, cur, s7, v7, s40, s41, v4, s3, v3, s50, s51, s52, v51, v52, s8, v8, kn⟩ := t
  have hz := k.size
  exact ⟨b3, b4, b5, b7, b8, old, by omega, k.cell (by omega) (by omega) s7, v7.chg k (by omega), k.cell (by omega) (by omega) s40, k.cell (by omega) (by omega) s41, v4.chg k (by omega), k.cell (by omega) (by omega) s3, v3.chg k (by omega),
    k.cell (by omega) (by omega) s50, k.cell (by omega) (by omega) s51, k.cell (by omega) (by omega) s52, v51.chg k (by omega), v52.chg k (by omega), by rw [hl]; exact k.cell (by omega) (by omega) s8, by rw [hl]; exact ho, hk⟩
end Go.Proofs.Yteegjnobmbcjiaa
end
section
/- Chapter 5, the program: a literal's test, called. -/
namespace Go.Proofs.Yteegjnobmbcjiaa
open Go.RowKit

def RetTst (ar : List Int) (sz : Int) (tb : List (List Int)) (L H lo hi : Nat) (x : Lt) (p7 p4 p8 p3 p5 bk : Nat) (a7 : Option Addr) (c7 : Nat) (v u u1 u2 : Value) (w : World) (b : Bool) (e : Ending) (w' : World) : Prop :=
  e = .returned (.bool b) ∧ ∃ ks, Tst ar sz tb L H lo hi x p7 p4 p8 p3 p5 bk a7 c7 v u u1 u2 ks w' ∧ Chg bk (bk+1) w w'

theorem idx_take {sz : Int} (vs : List Nat) (e : List Int) (q : Nat) (hq : q < vs.length) : noOf sz ((vs.map fun v => e.getD v 0).take (q+1)) = noOf sz ((vs.map fun v => e.getD v 0).take q) * sz + e.getD (vs.getD q 0) 0 := by
  rw [noOf_tk _ _ (by simpa using hq)]
  congr 1
  simp [List.getD, hq]

set_option maxRecDepth 100000 in
set_option maxHeartbeats 2000000 in
theorem litTest1_c {ar : List Int} {sz : Int} {tb : List (List Int)} {L H lo hi : Nat} {x : Lt} {p7 p4 p8 p3 p5 bk : Nat} {a7 : Option Addr} {c7 : Nat} {v u u1 u2 : Value} {ks : List Int} {w : World}
    (t : Tst ar sz tb L H lo hi x p7 p4 p8 p3 p5 bk a7 c7 v u u1 u2 ks w) (hg : goodSign ar = true) (hw : isWorld ar sz tb = true) (o1 : okTerm ar x.2.1 = true) (o2 : okTerm ar x.2.2 = true)
    (l3 h3 : Nat) (ve : Value) (env : List Int) (he : okEnv sz env = true) (hve : SlI l3 h3 w ve env) (hd : h3 ≤ bk ∨ bk + 1 ≤ l3) :
    Calls Try.prog 158 #[ve, .pointer (some ⟨p7, 0, none⟩), .pointer (some ⟨p4, 0, none⟩), .pointer (some ⟨p8, 0, none⟩), .pointer (some ⟨p3, 0, none⟩), .pointer (some ⟨p5, 0, none⟩)] w
      (RetTst ar sz tb L H lo hi x p7 p4 p8 p3 p5 bk a7 c7 v u u1 u2 w (litH ar sz tb env x)) := by
  obtain ⟨z1, z3, _, _⟩ := isWorld_iff.1 hw
  have hel := (okEnv_iff.1 he).1
  have hNB := idx_bd z1 (varsC_lt (c := [x])) he
  have hkl := t.kn.1
  have hvl : (varsC [x]).length ≤ 12 := varsTo_len _ _
  have hP := pw_le12 (Z := sz.toNat) (by omega) hvl
  have HK := Lib.hid (t.kn.2 env he)
  have HPUT : Hid (∀ y : Int, y = (if litH ar sz tb env x then 2 else 1) → Known ar sz tb x (ks.set (idxW sz (varsC [x]) env).toNat y)) := fun y hy => t.kn.put z1 o1 o2 he y hy
  have HT := Lib.hid t
  have HBD : Hid (∀ q, q ≤ (varsC [x]).length → 0 ≤ noOf sz (((varsC [x]).map fun v => env.getD v 0).take q) ∧ noOf sz (((varsC [x]).map fun v => env.getD v 0).take q) ≤ 531440) := fun q hq => by
    have h := noOf_bd z1 (((varsC [x]).map fun v => env.getD v 0).take q) (fun y hy => by
      obtain ⟨j, hj, rfl⟩ := List.mem_map.1 (List.mem_of_mem_take hy)
      exact (okEnv_iff.1 he).2 j (varsC_lt j hj))
    have h2 : longW sz (((varsC [x]).map fun v => env.getD v 0).take q).length ≤ 531441 := by
      unfold longW
      rw [Int.toNat_natCast]
      exact pw_le12 (by omega) (by rw [List.length_take]; omega)
    omega
  have HEV : Hid (∀ q, q < (varsC [x]).length → (varsC [x]).getD q 0 < 12 ∧ 0 ≤ env.getD ((varsC [x]).getD q 0) 0 ∧ env.getD ((varsC [x]).getD q 0) 0 ≤ sz - 1) := fun q hq => by
    have h := varsC_lt (c := [x]) ((varsC [x]).getD q 0) (mem_gd _ 0 q hq)
    exact ⟨h, (okEnv_iff.1 he).2 _ h⟩
  have HTK : Hid (∀ q, q < (varsC [x]).length → noOf sz (((varsC [x]).map fun v => env.getD v 0).take (q+1)) = noOf sz (((varsC [x]).map fun v => env.getD v 0).take q) * sz + env.getD ((varsC [x]).getD q 0) 0) := fun q hq => idx_take _ _ q hq
  have HIX : Hid (noOf sz (((varsC [x]).map fun v => env.getD v 0).take (varsC [x]).length) = idxW sz (varsC [x]) env) := by
    show _ = _
    unfold idxW; rw [List.take_of_length_le (by simp)]
  have HNT : Hid (∀ q, q < (varsC [x]).length → (natsI (varsC [x])).getD q 0 = (((varsC [x]).getD q 0 : Nat) : Int)) := fun q hq => by simp [natsI, List.getD, hq]
  have HLIT := Lib.hid (fun (w' : World) (s3 : SlI L H w' v ar) (s4 : SlS L H w' u tb) (s51 : SlI L H w' u1 x.2.1) (s52 : SlI L H w' u2 x.2.2) (se : SlI l3 h3 w' ve env) => litHolds_c L H L H L H l3 h3 v u u1 u2 ve ar sz tb x.1 x.2.1 x.2.2 env w' hg hw he o1 o2 s3 s4 s51 s52 se)
  have HLE : Hid (litH ar sz tb env (x.1, x.2.1, x.2.2) = litH ar sz tb env x) := rfl
  rw [HLE.out] at HLIT
  obtain ⟨b3, b4, b5, b7, b8, old, cur, s7, v7, s40, s41, v4, s3, v3, s50, s51, s52, v51, v52, s8, v8, -⟩ := t
  have HVE := Lib.hid hve
  obtain ⟨a7v, c7v, e7, -, -, hr7⟩ := v7
  have hnl : (natsI (varsC [x])).length = (varsC [x]).length := by simp [natsI]
  rw [hnl] at e7
  have HNL := Lib.hid hnl
  obtain ⟨ae, ce, rfl, -, -, hre⟩ := hve
  rw [hel] at HLIT HVE ⊢
  simp only [Value.slice.injEq] at e7
  obtain ⟨rfl, -, rfl⟩ := e7
  obtain ⟨N, hN⟩ : ∃ N : Nat, idxW sz (varsC [x]) env = (N : Int) := ⟨(idxW sz (varsC [x]) env).toNat, by omega⟩
  rw [hN, Int.toNat_natCast] at HK HPUT
  rw [hN] at HIX hNB
  have hNl : N < ks.length := by omega
  have hks : ks.length ≤ 531441 := by omega
  clear hN hNB hkl hP he hw hg o1 o2 hnl
  generalize hn : (varsC [x]).length = n at *
  generalize litH ar sz tb env x = B at *
  generalize hvs : varsC [x] = vs at *
  go_enter Try.func158, Try.ntmps158
  go_wp2_with fail
  go_loopw [8, 13] (fun no i wr => ∃ q : Nat, q ≤ n ∧ i = .int .i64 q ∧ no = .int .i64 (noOf sz ((vs.map fun v => env.getD v 0).take q)) ∧ Bel w wr) (fun _ i _ => n - (intOf i).toNat)
  case atStart => exact ⟨0, Nat.zero_le _, rfl, rfl, Bel.rfl' _⟩
  case round =>
    obtain ⟨q, hq, rfl, rfl, hb⟩ := hrel
    have hn0 := HBD.out q hq
    by_cases hqn : q < n
    · obtain ⟨hv12, hx0, hx1⟩ := HEV.out q hqn
      have HS := Lib.hid (HTK.out q hqn)
      obtain ⟨b7', off7, rfl, hbl7, hc7⟩ := rd hr7 hb q (by have := HNL.out; omega)
      rw [HNT.out q hqn] at hc7
      obtain ⟨be, offe, rfl, hble, hce⟩ := rd hre hb (vs.getD q 0) (by omega)
      have r40 := hb.at (by omega) s40
      have hmul : noOf sz ((vs.map fun v => env.getD v 0).take q) * sz ≤ noOf sz ((vs.map fun v => env.getD v 0).take q) * 3 := Int.mul_le_mul_of_nonneg_left z3 hn0.1
      have hmul0 := Int.mul_nonneg hn0.1 (show 0 ≤ sz by omega)
      generalize vs.getD q 0 = m at *
      generalize env.getD m 0 = y at *
      generalize noOf sz ((vs.map fun v => env.getD v 0).take q) = no at *
      have i1 := IntWalk.i64_in (no * sz) (by omega)
      have i2 := IntWalk.i64_in (no * sz + y) (by omega)
      have hm12 : (m : Int) < 12 := by omega
      clear hmul hmul0 HT HPUT HBD HEV HTK HIX HNT HLIT HVE HK
      go_wp2_with fail
      go_region_held3 (fun w' => Bel wr w' ∧ w'.cell? ⟨p4, 0, none⟩ = some (.int .i64 sz) ∧ w'.cell? ⟨be, offe + m, none⟩ = some (.int .i64 y))
        (first | exact ⟨Bel.drew0 _, r40, hce⟩ | fail)
        (first | fail)
      go_wp2_with fail
      go_roundw
      case rel => exact ⟨q+1, by omega, by go_num, by rw [HS.out], hb.step (Bel.drew0 _)⟩
      case measure => simp [intOf]; omega
    · obtain rfl : q = n := by omega
      rw [HIX.out] at hn0 ⊢
      have hT := Lib.hid (HT.out.chg (Chg.of_bel (lo := 0) (hi := 0) hb) (.inl (Nat.zero_le _)) (.inl (Nat.zero_le _)))
      have HP2 : Hid (∀ (w' : World) (y : Int), Chg bk (bk+1) wr w' → (y = if B then 2 else 1) → OwnI bk (bk + 1) w' (.slice (some ⟨bk, 0, none⟩) ks.length ks.length) (ks.set N y) → Tst ar sz tb L H lo hi x p7 p4 p8 p3 p5 bk a7 c7 v u u1 u2 (ks.set N y) w') := fun w' y k hy ho =>
        hT.out.put k (by simp) ho (HPUT.out y hy)
      obtain ⟨bb, oo, hbb, -, -, hcN, hfN, hst⟩ := (v8.below hb).at N hNl
      simp only [Option.some.injEq, Addr.mk.injEq, and_true] at hbb
      obtain ⟨rfl, rfl⟩ := hbb
      rw [Nat.zero_add] at hcN hfN hst
      have hNk : (N : Int) < ks.length := by omega
      have r8 := hb.at (by omega) s8
      have hSE := Lib.hid (HVE.out.below hb)
      have hLIT := Lib.hid (fun (w' : World) (k : Chg bk (bk+1) wr w') => HLIT.out w' ((v3.below hb).chg k (by omega)) ((v4.below hb).chg k (by omega)) ((v51.below hb).chg k (by omega)) ((v52.below hb).chg k (by omega)) (hSE.out.chg k hd))
      have r3 := hb.at (by omega) s3
      have r40 := hb.at (by omega) s40
      have r41 := hb.at (by omega) s41
      have r50 := hb.at (by omega) s50
      have r51 := hb.at (by omega) s51
      have r52 := hb.at (by omega) s52
      have hz := hb.size
      have hCH := Lib.hid (Chg.of_bel (lo := bk) (hi := bk+1) hb)
      clear HT HPUT HBD HEV HTK HIX HNT HLIT HVE hr7 hre s7 s40 s41 v4 s3 v3 s50 s51 s52 v51 v52 s8 v8 HNL
      generalize ks.getD N 0 = k0 at *
      rcases HK.out with rfl | hk0
      · have k3 := Chg.set (lo := bk) (hi := bk+1) wr (p := ⟨bk, N, none⟩) (Nat.le_refl _) (Nat.lt_succ_self _) (.int .i64 1)
        have g3 := k3.cell (by omega) (by omega) r3
        have g40 := k3.cell (by omega) (by omega) r40
        have g41 := k3.cell (by omega) (by omega) r41
        have g50 := k3.cell (by omega) (by omega) r50
        have g51 := k3.cell (by omega) (by omega) r51
        have g52 := k3.cell (by omega) (by omega) r52
        have g8 := k3.cell (by omega) (by omega) r8
        have gN := World.cell?_setCell_same wr ⟨bk, N, none⟩ (.int .i64 1) hcN
        have gf : (wr.setCell ⟨bk, N, none⟩ (.int .i64 1)).frozen? ⟨bk, N, none⟩ = false := by rw [World.frozen?_setCell]; exact hfN
        have HL := Lib.hid (hLIT.out _ k3)
        have HO := Lib.hid (hst 1)
        have hz3 := k3.size
        have K3 := Lib.hid k3
        clear hLIT hst k3
        go_wp2_with fail
        refine HL.out.mono ?_; rintro e w4 ⟨rfl, hb4⟩
        have d8 := hb4.at (by omega) g8
        have dN := hb4.at (World.block_lt_of_cell? _ ⟨_, _, none⟩ gN) gN
        have df := (hb4.frozen (p := ⟨bk, N, none⟩) (World.block_lt_of_cell? _ ⟨_, _, none⟩ gN)).trans gf
        have HO4 := HO.out.below hb4
        have K4 := K3.out.trans (Chg.of_bel hb4)
        cases B with
        | false =>
          have hT4 := HP2.out w4 1 K4 rfl HO4
          go_wp2_with fail
          go_ret
          exact ⟨rfl, _, hT4, hCH.out.trans K4⟩
        | true =>
          obtain ⟨b5', o5', e5, -, -, -, -, hst5⟩ := HO4.at N (by simpa using hNl)
          simp only [Option.some.injEq, Addr.mk.injEq, and_true] at e5
          obtain ⟨rfl, rfl⟩ := e5
          rw [Nat.zero_add] at hst5
          have HO5 := hst5 2
          rw [List.set_set] at HO5
          have k5 := Chg.set (lo := bk) (hi := bk+1) w4 (p := ⟨bk, N, none⟩) (Nat.le_refl _) (Nat.lt_succ_self _) (.int .i64 2)
          have hz4 := hb4.size
          have f8 := k5.cell (by omega) (by omega) d8
          have fN := World.cell?_setCell_same w4 ⟨bk, N, none⟩ (.int .i64 2) dN
          have hT5 := HP2.out _ 2 (K4.trans k5) rfl HO5
          have K5 := hCH.out.trans (K4.trans k5)
          go_wp2_with fail
          go_ret
          exact ⟨rfl, _, hT5, K5⟩
      · cases B with
        | false =>
          obtain rfl : k0 = 1 := hk0
          go_wp2_with fail
          go_ret
          exact ⟨rfl, _, hT.out, hCH.out⟩
        | true =>
          obtain rfl : k0 = 2 := hk0
          go_wp2_with fail
          go_ret
          exact ⟨rfl, _, hT.out, hCH.out⟩
end Go.Proofs.Yteegjnobmbcjiaa
end
section
/- Chapter 5, the program: a literal's test, made. -/
namespace Go.Proofs.Yteegjnobmbcjiaa
open Go.RowKit

/-- The function that tests. -/
def tstF (p7 p4 p8 p3 p5 : Nat) : Value := .func (.func 158) #[] #[.pointer (some ⟨p7, 0, none⟩), .pointer (some ⟨p4, 0, none⟩), .pointer (some ⟨p8, 0, none⟩), .pointer (some ⟨p3, 0, none⟩), .pointer (some ⟨p5, 0, none⟩)]
def RetT1 (ar : List Int) (sz : Int) (tb : List (List Int)) (L H : Nat) (x : Lt) (v u u1 u2 : Value) (w : World) (e : Ending) (w' : World) : Prop :=
  ∃ (p7 p4 p8 p3 p5 bk : Nat) (a7 : Option Addr) (c7 : Nat) (ks : List Int), e = .returned (tstF p7 p4 p8 p3 p5) ∧ Tst ar sz tb L H w.heap.size w'.heap.size x p7 p4 p8 p3 p5 bk a7 c7 v u u1 u2 ks w' ∧ Bel w w'

/-- One literal in a block of its own. -/
theorem slc_one {w : World} {x : Lt} {u1 u2 : Value} {t : TypeId} (g : Nat) (hg : g = w.heap.size) (h1 : SlI 0 w.heap.size w u1 x.2.1) (h2 : SlI 0 w.heap.size w u2 x.2.2) :
    SlC 0 (w.alloc (.cells #[.bool x.1, u1, u2] t)).heap.size (w.alloc (.cells #[.bool x.1, u1, u2] t)) (.slice (some ⟨g, 0, none⟩) 1 1) [x] := by
  subst hg
  have hb := Bel.alloc0 w (.cells #[.bool x.1, u1, u2] t)
  have hc : ∀ i v, (#[Value.bool x.1, u1, u2])[i]? = some v → (w.alloc (.cells #[.bool x.1, u1, u2] t)).cell? ⟨w.heap.size, i, none⟩ = some v := fun i v h => by rw [World.cell?_alloc_new w]; exact h
  refine ⟨_, 1, rfl, Nat.le_refl _, ⟨by unfold maxLen; omega, fun h => by simp at h⟩, fun _ => ⟨w.heap.size, 0, rfl, Nat.zero_le _, by simp, fun j hj => ?_⟩⟩
  match j, hj with
  | 0, _ => exact ⟨u1, u2, hc 0 _ rfl, hc 1 _ rfl, hc 2 _ rfl, (h1.below hb).mono (Nat.le_refl _) hb.size, (h2.below hb).mono (Nat.le_refl _) hb.size⟩

set_option maxRecDepth 100000 in
set_option maxHeartbeats 2000000 in
theorem litTest_c (ar : List Int) (Z : Nat) (tb : List (List Int)) (L H : Nat) (x : Lt) (v u u1 u2 : Value) (w : World) (z1 : 1 ≤ Z) (z3 : Z ≤ 3) (hH : H ≤ w.heap.size)
    (o1 : okTerm ar x.2.1 = true) (o2 : okTerm ar x.2.2 = true)
    (hv : SlI L H w v ar) (hu : SlS L H w u tb) (s1 : SlI L H w u1 x.2.1) (s2 : SlI L H w u2 x.2.2) :
    Calls Try.prog 155 #[.agg #[v], .agg #[.int .i64 (Z : Int), u], .agg #[.bool x.1, u1, u2]] w (RetT1 ar Z tb L H x v u u1 u2 w) := by
  obtain ⟨i0, hi0, hz0, hz1, hz2⟩ := info_parts Try.info3
  have hx1 := ((okTerm_iff ar x.2.1).1 o1).2.1
  have hx2 := ((okTerm_iff ar x.2.2).1 o2).2.1
  have HB : Bel w ((((w.alloc (.cells #[v] 30)).alloc (.cells #[.int .i64 (Z : Int), u] 58)).alloc (.cells #[.bool x.1, u1, u2] 91)).alloc (.cells #[.bool x.1, u1, u2] 91)) := (Bel.alloc3 _ _ _ _).alloc _
  have hsl := slc_one (w := ((w.alloc (.cells #[v] 30)).alloc (.cells #[.int .i64 (Z : Int), u] 58)).alloc (.cells #[.bool x.1, u1, u2] 91)) (t := 91) (w.heap.size + 1 + 1 + 1) (by simp) (s1.below (Bel.alloc3 _ _ _ _)).in' (s2.below (Bel.alloc3 _ _ _ _)).in'
  have hfc : flatC [x] = [x.2.1, x.2.2] := rfl
  have HV := Lib.hid (clauseVars_c (by rw [hfc]; simp [sumL]; omega) (by simp) (fun k hk => by
    have hm := mem_gd _ 0 k hk
    rw [hfc] at hm ⊢
    simp only [List.flatten_cons, List.flatten_nil, List.append_nil, List.mem_append] at hm ⊢
    rcases hm with h | h
    · exact ok_low o1 h
    · exact ok_low o2 h) hsl)
  have KX : Hid (∀ w', Bel ((((w.alloc (.cells #[v] 30)).alloc (.cells #[.int .i64 (Z : Int), u] 58)).alloc (.cells #[.bool x.1, u1, u2] 91)).alloc (.cells #[.bool x.1, u1, u2] 91)) w' → (w'.cell? ⟨w.heap.size, 0, none⟩ = some v ∧ w'.cell? ⟨w.heap.size + 1, 0, none⟩ = some (.int .i64 (Z : Int)) ∧ w'.cell? ⟨w.heap.size + 1, 1, none⟩ = some u) ∧ w'.cell? ⟨w.heap.size + 1 + 1, 0, none⟩ = some (.bool x.1) ∧ w'.cell? ⟨w.heap.size + 1 + 1, 1, none⟩ = some u1 ∧ w'.cell? ⟨w.heap.size + 1 + 1, 2, none⟩ = some u2) := fun w' hq =>
    ⟨⟨hq.at (by simp; omega) (by simp [go_sem]), hq.at (by simp) (by simp [go_sem]), hq.at (by simp) (by simp [go_sem])⟩, hq.at (by simp) (by simp [go_sem]), hq.at (by simp) (by simp [go_sem]), hq.at (by simp) (by simp [go_sem])⟩
  have HL := Lib.hid (fun (w' : World) => tableLength_g Z (varsC [x]).length w' z3 (varsTo_len _ _))
  have hpw := pw_le12 z3 (varsTo_len (mk (flatC [x]).flatten) 12)
  have hpos : 0 < Z ^ (varsC [x]).length := Nat.pow_pos (by omega)
  have hvl : (varsC [x]).length ≤ 12 := varsTo_len _ _
  have HKN := Lib.hid (Known.new ar Z tb x)
  have HVC : Hid (varsTo (mk (flatC [x]).flatten) 12 = varsC [x]) := rfl
  rw [show varsTo (mk (flatC [x]).flatten) 12 = varsC [x] from rfl] at hpw HV
  go_enter Try.func155, Try.ntmps155
  go_wp2_with fail
  refine HV.out.mono ?_; rintro e w2 ⟨a2, n2, c2, rfl, o2', hb2⟩
  have hn2 : n2 = (varsC [x]).length := by
    obtain ⟨_, _, e, _⟩ := o2'.sl
    simp only [Value.slice.injEq] at e
    rw [e.2.1]; simp [natsI]
  subst hn2
  have k0 := (KX.out _ (hb2.alloc (.cells #[.slice a2 (varsC [x]).length c2] 22))).1.2.1
  generalize hLL : Z ^ (varsC [x]).length = LL at *
  have HVL := Lib.hid hLL
  clear hLL hsl
  go_wp2_with fail
  refine (HL.out _).mono ?_; rintro e w3 ⟨rfl, hb3⟩
  go_wp2_with (at_make; refine wpList_make_full _ rfl _ _ 22 rfl w3.heap.size 3 i0 (.int .i64 0) 1 Try.underlying22 hi0 hz0 hz1 _ _ _ _ LL rfl rfl rfl rfl (by rw [hz2]; omega) (by unfold maxLen; omega) (Nat.le_refl _) ?_; intro w4 hown hg4)
  go_ret
  have hbf : Bel w3 (w4.alloc (.cells #[.slice (some ⟨w3.heap.size, 0, none⟩) LL LL] 22)) := ((Bel.rfl' w3).grown hg4 (by simp)).alloc _
  have hb2f : Bel w2 (w4.alloc (.cells #[.slice (some ⟨w3.heap.size, 0, none⟩) LL LL] 22)) := ((Bel.alloc0 w2 (.cells #[.slice a2 (varsC [x]).length c2] 22)).step hb3).step hbf
  have hwf := HB.step (hb2.step hb2f)
  have hk := KX.out _ (hb2.step hb2f)
  have z2 := hb2.size
  have z3' := hb3.size
  have z4 := ((Bel.rfl' w3).grown hg4 (by simp)).size
  simp only [World.size_alloc] at z2 z3'
  have hown' : w4.ownsRow w3.heap.size 3 1 (.slice (some ⟨w3.heap.size, 0, none⟩) LL LL) (List.replicate LL (0 : Int)).length ((List.replicate LL (0 : Int)).map (Value.int .i64)) := by
    have h := madeI_0 (List.replicate LL (0 : Int))
    rw [List.length_replicate] at h ⊢
    have h2 : madeI (List.replicate LL (0 : Int)) 0 = List.replicate LL 0 := by simp [madeI]
    rw [h2] at h
    rw [← h]; exact hown
  have ho8 := row_oneCell hown' rfl (by rw [List.length_replicate]; exact hpos)
  have hk4 : w3.heap.size < w4.heap.size := by
    obtain ⟨b, off, e, -, -, hc, -, -⟩ := ho8.at 0 (by rw [List.length_replicate]; exact hpos)
    simp only [Option.some.injEq, Addr.mk.injEq, and_true] at e
    obtain ⟨rfl, rfl⟩ := e
    exact World.block_lt_of_cell? _ ⟨_, _, none⟩ hc
  refine ⟨w2.heap.size, w.heap.size + 1, w4.heap.size, w.heap.size, w.heap.size + 1 + 1, w3.heap.size, a2, c2, List.replicate LL 0, rfl, ?_, hwf⟩
  refine ⟨by omega, by omega, by omega, by omega, by simp; omega, hH, Nat.le_refl _, ?_, ?_, hk.1.2.1, hk.1.2.2, hu.below hwf, hk.1.1, hv.below hwf, hk.2.1, hk.2.2.1, hk.2.2.2, s1.below hwf, s2.below hwf, ?_, ?_, ?_⟩
  · exact (hb3.step hbf).at (by simp) (by simp [go_sem])
  · exact (o2'.sl.mono (by simp; omega) (Nat.le_refl _)).below hb2f
  · rw [List.length_replicate]; simp [go_sem]
  · rw [List.length_replicate]; exact ho8.alloc _
  · rw [← HVL.out] ; have h := HKN.out; rwa [Int.toNat_natCast] at h
end Go.Proofs.Yteegjnobmbcjiaa
end
section
/- Chapter 5, the program: the tests of a clause's literals. -/
namespace Go.Proofs.Yteegjnobmbcjiaa
open Go.RowKit

/-- Where a test lies. -/
structure TR where
  (lo hi p7 p4 p8 p3 p5 bk c7 : Nat)
  (a7 : Option Addr)
  (u1 u2 : Value)
def TR.f (r : TR) : Value := tstF r.p7 r.p4 r.p8 r.p3 r.p5
def TR.ok (ar : List Int) (sz : Int) (tb : List (List Int)) (L H : Nat) (v u : Value) (x : Lt) (r : TR) (w : World) : Prop :=
  ∃ ks, Tst ar sz tb L H r.lo r.hi x r.p7 r.p4 r.p8 r.p3 r.p5 r.bk r.a7 r.c7 v u r.u1 r.u2 ks w
theorem TR.ok.chg {ar : List Int} {sz : Int} {tb : List (List Int)} {L H : Nat} {v u : Value} {x : Lt} {r : TR} {w w' : World} {l' h' : Nat} (t : TR.ok ar sz tb L H v u x r w) (k : Chg l' h' w w') (d1 : h' ≤ r.lo ∨ r.hi ≤ l') (d2 : h' ≤ L ∨ H ≤ l') : TR.ok ar sz tb L H v u x r w' := by
  obtain ⟨ks, h⟩ := t
  exact ⟨ks, h.chg k d1 d2⟩
def Tests (ar : List Int) (sz : Int) (tb : List (List Int)) (L H : Nat) (v u : Value) (base : Nat) (c : List Lt) (rs : List TR) (w : World) : Prop :=
  rs.length = c.length ∧ ∀ (j : Nat) (x : Lt) (r : TR), c[j]? = some x → rs[j]? = some r → base ≤ r.lo ∧ TR.ok ar sz tb L H v u x r w ∧ ∀ (i : Nat) (r' : TR), i < j → rs[i]? = some r' → r'.hi ≤ r.lo
section
variable {ar : List Int} {sz : Int} {tb : List (List Int)} {L H : Nat} {v u : Value} {base : Nat} {c : List Lt} {rs : List TR} {w w' : World}
theorem Tests.nil : Tests ar sz tb L H v u base [] [] w := ⟨rfl, fun j x r h => by simp at h⟩
theorem Tests.get (t : Tests ar sz tb L H v u base c rs w) {r : TR} (hr : r ∈ rs) : ∃ (j : Nat) (x : Lt), c[j]? = some x ∧ rs[j]? = some r := by
  obtain ⟨j, hj, e⟩ := List.mem_iff_getElem.1 hr
  exact ⟨j, c[j]'(by have := t.1; omega), by rw [List.getElem?_eq_getElem (by have := t.1; omega)], by rw [List.getElem?_eq_getElem hj, e]⟩
theorem Tests.cur (t : Tests ar sz tb L H v u base c rs w) {r : TR} (hr : r ∈ rs) : base ≤ r.lo ∧ r.lo ≤ r.p7 ∧ r.p7 < r.bk ∧ r.bk < r.hi ∧ r.hi ≤ w.heap.size ∧ H ≤ r.lo := by
  obtain ⟨j, x, h1, h2⟩ := t.get hr
  obtain ⟨a, ⟨ks, k⟩, _⟩ := t.2 j x r h1 h2
  have := k.b7; have := k.b8; have := k.cur; have := k.old
  omega
theorem Tests.chg (t : Tests ar sz tb L H v u base c rs w) {l' h' : Nat} (k : Chg l' h' w w') (d1 : ∀ r ∈ rs, h' ≤ r.lo ∨ r.hi ≤ l') (d2 : h' ≤ L ∨ H ≤ l') : Tests ar sz tb L H v u base c rs w' :=
  ⟨t.1, fun j x r h1 h2 => by
    obtain ⟨a, b, d⟩ := t.2 j x r h1 h2
    exact ⟨a, b.chg k (d1 r (List.mem_of_getElem? h2)) d2, d⟩⟩
theorem Tests.bel (t : Tests ar sz tb L H v u base c rs w) (k : Bel w w') : Tests ar sz tb L H v u base c rs w' :=
  t.chg (Chg.of_bel (lo := 0) (hi := 0) k) (fun _ _ => .inl (Nat.zero_le _)) (.inl (Nat.zero_le _))
/-- One test remembers. -/
theorem Tests.put (t : Tests ar sz tb L H v u base c rs w) {j : Nat} {x : Lt} {r : TR} (h1 : c[j]? = some x) (h2 : rs[j]? = some r) (k : Chg r.bk (r.bk+1) w w') (ho : TR.ok ar sz tb L H v u x r w') : Tests ar sz tb L H v u base c rs w' :=
  ⟨t.1, fun i y s g1 g2 => by
    obtain ⟨a, b, d⟩ := t.2 i y s g1 g2
    refine ⟨a, ?_, d⟩
    have hc := t.cur (List.mem_of_getElem? h2)
    by_cases e : i = j
    · subst e
      rw [h1] at g1; rw [h2] at g2
      simp only [Option.some.injEq] at g1 g2
      subst g1; subst g2
      exact ho
    · refine b.chg k ?_ (.inr (by omega))
      rcases Nat.lt_or_gt_of_ne e with h | h
      · have := (t.2 j x r h1 h2).2.2 i s h g2
        right; omega
      · have := d j r h h2
        left; omega⟩
theorem Tests.snoc (t : Tests ar sz tb L H v u base c rs w) {x : Lt} {r : TR} (hb : base ≤ r.lo) (ho : TR.ok ar sz tb L H v u x r w) (hl : ∀ r' ∈ rs, r'.hi ≤ r.lo) : Tests ar sz tb L H v u base (c ++ [x]) (rs ++ [r]) w := by
  refine ⟨by simp [t.1], fun j y s h1 h2 => ?_⟩
  by_cases hj : j < rs.length
  · have hjc : j < c.length := by have := t.1; omega
    rw [List.getElem?_append_left hjc] at h1
    rw [List.getElem?_append_left hj] at h2
    obtain ⟨a, b, d⟩ := t.2 j y s h1 h2
    exact ⟨a, b, fun i r' hi h3 => d i r' hi (by rwa [List.getElem?_append_left (by omega)] at h3)⟩
  · have hjl : j = rs.length := by
      have := (List.getElem?_eq_some_iff.1 h2).1
      simp at this
      omega
    subst hjl
    rw [List.getElem?_append_right (Nat.le_refl _), Nat.sub_self] at h2
    rw [List.getElem?_append_right (by have := t.1; omega), show rs.length - c.length = 0 by have := t.1; omega] at h1
    simp only [List.getElem?_cons_zero, Option.some.injEq] at h1 h2
    subst h1; subst h2
    exact ⟨hb, ho, fun i r' hi h3 => hl r' (List.mem_of_getElem? (by rwa [List.getElem?_append_left hi] at h3))⟩
end
/-- The tests, the variable that holds them and their array. -/
structure TS (ar : List Int) (sz : Int) (tb : List (List Int)) (L H : Nat) (v u : Value) (base top pT : Nat) (ad : Option Addr) (cap : Nat) (c : List Lt) (rs : List TR) (w : World) : Prop where
  tests : Tests ar sz tb L H v u base c rs w
  pt : pT < base
  tops : ∀ r ∈ rs, r.hi ≤ top
  cur : base ≤ top ∧ top ≤ w.heap.size
  cell : w.cell? ⟨pT, 0, none⟩ = some (.slice ad rs.length cap)
  fn : 0 < rs.length → ∃ bT, ad = some ⟨bT, 0, none⟩ ∧ (∀ r ∈ rs, bT < r.lo ∨ r.hi ≤ bT) ∧ ∀ j r, rs[j]? = some r → w.cell? ⟨bT, j, none⟩ = some r.f
section
variable {ar : List Int} {sz : Int} {tb : List (List Int)} {L H : Nat} {v u : Value} {base top pT : Nat} {ad : Option Addr} {cap : Nat} {c : List Lt} {rs : List TR} {w w' : World}
theorem TS.put (t : TS ar sz tb L H v u base top pT ad cap c rs w) {j : Nat} {x : Lt} {r : TR} (h1 : c[j]? = some x) (h2 : rs[j]? = some r) (k : Chg r.bk (r.bk+1) w w') (ho : TR.ok ar sz tb L H v u x r w') : TS ar sz tb L H v u base top pT ad cap c rs w' := by
  have hm := List.mem_of_getElem? h2
  have hc := t.tests.cur hm
  refine ⟨t.tests.put h1 h2 k ho, t.pt, t.tops, ⟨t.cur.1, Nat.le_trans t.cur.2 k.size⟩, k.cell (World.block_lt_of_cell? _ ⟨_, _, none⟩ t.cell) (.inl (by have := t.pt; omega)) t.cell, fun hp => ?_⟩
  obtain ⟨bT, e, d, f⟩ := t.fn hp
  refine ⟨bT, e, d, fun i s hs => k.cell (World.block_lt_of_cell? _ ⟨_, _, none⟩ (f i s hs)) ?_ (f i s hs)⟩
  have := d r hm
  omega
theorem TS.chg (t : TS ar sz tb L H v u base top pT ad cap c rs w) {l' h' : Nat} (k : Chg l' h' w w') (d1 : top ≤ l') (d2 : H ≤ l') (hT : ∀ bT, ad = some ⟨bT, 0, none⟩ → bT < l' ∨ h' ≤ bT) : TS ar sz tb L H v u base top pT ad cap c rs w' := by
  refine ⟨t.tests.chg k (fun r hr => .inr (by have := t.tops r hr; omega)) (.inr d2), t.pt, t.tops, ⟨t.cur.1, Nat.le_trans t.cur.2 k.size⟩, k.cell (World.block_lt_of_cell? _ ⟨_, _, none⟩ t.cell) (.inl (by have := t.pt; have := t.cur.1; omega)) t.cell, fun hp => ?_⟩
  obtain ⟨bT, e, d, f⟩ := t.fn hp
  exact ⟨bT, e, d, fun i s hs => k.cell (World.block_lt_of_cell? _ ⟨_, _, none⟩ (f i s hs)) (hT bT e) (f i s hs)⟩
end
end Go.Proofs.Yteegjnobmbcjiaa
end
section
/- Chapter 5, the program: what makes all literals false. -/
namespace Go.Proofs.Yteegjnobmbcjiaa
open Go.RowKit

def RetTS (ar : List Int) (sz : Int) (tb : List (List Int)) (L H : Nat) (v u : Value) (base top pT : Nat) (ad : Option Addr) (cap : Nat) (c : List Lt) (rs : List TR) (w : World) (b : Bool) (e : Ending) (w' : World) : Prop :=
  e = .returned (.bool b) ∧ TS ar sz tb L H v u base top pT ad cap c rs w' ∧ Chg base top w w'

set_option maxRecDepth 100000 in
set_option maxHeartbeats 2000000 in
theorem falseAt1_c {ar : List Int} {sz : Int} {tb : List (List Int)} {L H : Nat} {v u : Value} {base top pT : Nat} {ad : Option Addr} {cap : Nat} {c : List Lt} {rs : List TR} {w : World}
    (t : TS ar sz tb L H v u base top pT ad cap c rs w) (hg : goodSign ar = true) (hw : isWorld ar sz tb = true) (hok : okLits ar c = true)
    (l3 h3 : Nat) (ve : Value) (env : List Int) (he : okEnv sz env = true) (hve : SlI l3 h3 w ve env) (hd : top ≤ l3 ∨ h3 ≤ base) :
    Calls Try.prog 156 #[ve, .pointer (some ⟨pT, 0, none⟩)] w (RetTS ar sz tb L H v u base top pT ad cap c rs w (!clH ar sz tb env c)) := by
  have hcl : rs.length = c.length := t.tests.1
  have h8 := (okLits_iff.1 hok).1
  have HOK := Lib.hid (fun k hk => okLits_get (okLits_iff.1 hok).2 k hk)
  have HT := Lib.hid t
  have hcell := t.cell
  have HS1 := Lib.hid (fun k hk h => any_split c (litH ar sz tb env) k hk h)
  have HS2 := Lib.hid (fun k hk h => any_true c (litH ar sz tb env) k hk h)
  have HCL := Lib.hid hcl
  rw [hcl] at hcell
  clear t hok hcl
  go_enter Try.func156, Try.ntmps156
  go_wp2_with fail
  go_loopw [8] (fun i wr => ∃ k : Nat, k ≤ c.length ∧ i = .int .i64 k ∧ (c.take k).any (litH ar sz tb env) = false ∧ TS ar sz tb L H v u base top pT ad cap c rs wr ∧ Chg base top w wr) (fun i _ => c.length - (intOf i).toNat)
  case atStart => exact ⟨0, Nat.zero_le _, rfl, rfl, HT.out, Chg.refl _ _ _⟩
  case round =>
    obtain ⟨k, hk, rfl, hf, ht, hc⟩ := hrel
    by_cases hlt : k < c.length
    · obtain ⟨bT, rfl, hbT, hfn⟩ := ht.fn (by have := HCL.out; omega)
      obtain ⟨r, hr⟩ : ∃ r, rs[k]? = some r := ⟨_, List.getElem?_eq_getElem (by have := HCL.out; omega)⟩
      have hx : c[k]? = some (c.getD k lt0) := by simp [List.getD, hlt]
      have hfk := hfn k r hr
      obtain ⟨hb0, ⟨ks, htst⟩, -⟩ := ht.tests.2 k _ r hx hr
      have hcu := ht.tests.cur (List.mem_of_getElem? hr)
      have htop := ht.tops r (List.mem_of_getElem? hr)
      have hox := HOK.out k hlt
      have HL := Lib.hid (litTest1_c htst hg hw hox.1 hox.2 l3 h3 ve env he (hve.chg hc (by omega)) (by omega))
      have hw0 : wr.cell? ⟨pT, 0, none⟩ = some (.slice (some ⟨bT, 0, none⟩) c.length cap) := by have := ht.cell; rwa [HCL.out] at this
      unfold TR.f tstF at hfk
      have HTS := Lib.hid (HS1.out k hlt hf)
      have HTR := Lib.hid (HS2.out k hlt)
      generalize litH ar sz tb env (c.getD k lt0) = B at *
      have HPUT : Hid (∀ w', TR.ok ar sz tb L H v u (c.getD k lt0) r w' → Chg r.bk (r.bk+1) wr w' → TS ar sz tb L H v u base top pT (some ⟨bT, 0, none⟩) cap c rs w' ∧ Chg base top w w') := fun w' o q => ⟨ht.put hx hr q o, hc.trans (q.mono (by omega) (by omega))⟩
      clear hfn hr hx hbT ht htst hcu htop hox hc hcell HT HOK HS1 HS2
      cases B with
      | false =>
        go_wp2_with fail
        refine HL.out.mono ?_; rintro e w4 ⟨rfl, ks', T, q⟩
        obtain ⟨P1, P2⟩ := HPUT.out w4 ⟨ks', T⟩ q
        go_wp2_with fail
        go_roundw
        case rel => exact ⟨k+1, by omega, by go_num, HTS.out, P1, P2⟩
        case measure => simp [intOf]; omega
      | true =>
        have hcf : clH ar sz tb env c = true := HTR.out rfl
        rw [hcf]
        go_wp2_with fail
        refine HL.out.mono ?_; rintro e w4 ⟨rfl, ks', T, q⟩
        obtain ⟨P1, P2⟩ := HPUT.out w4 ⟨ks', T⟩ q
        go_wp2_with fail
        go_ret
        exact ⟨rfl, P1, P2⟩
    · obtain rfl : k = c.length := by omega
      rw [List.take_length] at hf
      have hcf : clH ar sz tb env c = false := hf
      go_wp2_with fail
      go_ret
      exact ⟨by rw [hcf]; rfl, ht, hc⟩
end Go.Proofs.Yteegjnobmbcjiaa
end
