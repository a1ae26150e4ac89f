/- Chapter 4, the reference: valid clauses, weights. -/
import Derived.Test.YtikllmdmifecpacClS1
import Derived.Test.YtikllmdmifecpacClA
import Derived.Test.YtikllmdmifecpacLwC
namespace Go.Proofs.Ytikllmdmifecpac
open Go.RowKit

theorem okTerm_len {ar t : List Int} (h : okTerm ar t = true) : 1 ≤ t.length ∧ t.length ≤ 40 := ⟨((okTerm_iff ar t).1 h).1, ((okTerm_iff ar t).1 h).2.1⟩
theorem l4Lit_v (l h l' h' : Nat) (v u1 u2 : Value) (ar xl xr : List Int) (p q : Bool) (w : World) (hq : (okTerm ar xl && okTerm ar xr) = q) (hg : goodSign ar = true) (hl : xl.length ≤ 1048576) (hr : xr.length ≤ 1048576) (hv : SlI l h w v ar) (h1 : SlI l' h' w u1 xl) (h2 : SlI l' h' w u2 xr) :
    Calls Try.prog 26 #[.agg #[v], .agg #[.bool p, u1, u2]] w (RetV w (.bool q)) := by subst hq; exact l4Lit_c l h l' h' v u1 u2 ar xl xr p w hg hl hr hv h1 h2

set_option maxRecDepth 100000 in
set_option maxHeartbeats 400000 in
theorem l4Clause_c (l h l' h' : Nat) (v u : Value) (ar : List Int) (c : List Lt) (w : World) (hg : goodSign ar = true) (hx : shortC c) (hv : SlI l h w v ar) (hu : SlC l' h' w u c) :
    Calls Try.prog 15 #[.agg #[v], u] w (RetV w (.bool (okLits ar c))) := by
  obtain ⟨ad, cap, rfl⟩ := hu.form
  obtain ⟨hxl, hxj⟩ := hx
  go_enter Try.func15, Try.ntmps15
  go_wp2_with fail
  go_loopw [9] (fun i wr => ∃ k : Nat, k ≤ c.length ∧ i = .int .i64 k ∧ okTo ar c k ∧ Bel (w.alloc (.cells #[v] 30)) wr) (fun i _ => c.length - (intOf i).toNat)
  case atStart => exact ⟨0, Nat.zero_le _, rfl, fun j hj => absurd hj (by omega), Bel.rfl' _⟩
  case round =>
    obtain ⟨k, hk, rfl, hto, hb⟩ := hrel
    have hbox := boxc hb 0 _ rfl
    by_cases hlt : k < c.length
    · obtain ⟨b, off, u1, u2, rfl, hbs, c1, c2, c3, s1, s2⟩ := hu.at hb.of_alloc k hlt
      obtain ⟨hm1, hm2⟩ := hxj k hlt
      have hstep := hto.step (k := k)
      have hbad := okLits_bad (ar := ar) hlt
      have hin1 : (k : Int) < c.length := by omega
      have hvr := hv.below hb.of_alloc
      clear hu hv hxj hto
      unfold okLit at hstep hbad
      generalize c.getD k lt0 = x at *
      obtain ⟨p, xl, xr⟩ := x
      simp only at *
      obtain ⟨a1, d1, rfl⟩ := s1.form
      obtain ⟨a2, d2, rfl⟩ := s2.form
      have hbox2 := boxc (hb.alloc (.cells #[.bool p, .slice a1 xl.length d1, .slice a2 xr.length d2] 43)) 0 _ rfl
      cases hq : (okTerm ar xl && okTerm ar xr) with
      | false =>
        have E := Lib.hid (hbad hq)
        have HQ := Lib.hid hq
        clear hstep hbad hq
        go_wp2_with fail
        refine (l4Lit_v l h l' h' v _ _ ar xl xr p false _ HQ.out hg hm1 hm2 (hvr.alloc _) (s1.alloc _) (s2.alloc _)).mono ?_; rintro e w1 ⟨rfl, hb1⟩
        go_wp2_with fail
        go_ret
        exact ⟨by rw [E.out]; rfl, hb.of_alloc.step ((Bel.alloc0 _ _).step hb1)⟩
      | true =>
        have E := Lib.hid (hstep hq)
        have HQ := Lib.hid hq
        clear hstep hbad hq
        go_wp2_with fail
        refine (l4Lit_v l h l' h' v _ _ ar xl xr p true _ HQ.out hg hm1 hm2 (hvr.alloc _) (s1.alloc _) (s2.alloc _)).mono ?_; rintro e w1 ⟨rfl, hb1⟩
        go_wp2_with fail
        go_roundw
        case rel => exact ⟨k+1, by omega, by go_num, E.out, hb.step ((Bel.alloc0 _ _).step hb1)⟩
        case measure => simp [intOf]; omega
    · obtain rfl : k = c.length := by omega
      have E := Lib.hid hto.done
      have hd : decide ((c.length : Int) ≤ 8) = decide (c.length ≤ 8) := by rw [decide_eq_decide]; omega
      go_wp2_with fail
      go_ret
      exact ⟨by rw [E.out, ← hd]; rfl, hb.of_alloc⟩

end Go.Proofs.Ytikllmdmifecpac
