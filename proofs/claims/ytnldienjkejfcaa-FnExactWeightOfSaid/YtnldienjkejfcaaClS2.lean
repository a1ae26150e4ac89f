/- Chapter 4, the reference: valid clauses, weights. -/
import Derived.Test.YtnldienjkejfcaaClS1
import Derived.Test.YtnldienjkejfcaaClA
import Derived.Test.YtnldienjkejfcaaLwC
namespace Go.Proofs.Ytnldienjkejfcaa
open Go.RowKit

theorem okTerm_len {ar t : List Int} (h : okTerm ar t = true) : 1 ≤ t.length ∧ t.length ≤ 40 := ⟨((okTerm_iff ar t).1 h).1, ((okTerm_iff ar t).1 h).2.1⟩
theorem l4Lit_v (l h l' h' : Nat) (v u1 u2 : Value) (ar xl xr : List Int) (p q : Bool) (w : World) (hq : (okTerm ar xl && okTerm ar xr) = q) (hg : goodSign ar = true) (hl : xl.length ≤ 1048576) (hr : xr.length ≤ 1048576) (hv : SlI l h w v ar) (h1 : SlI l' h' w u1 xl) (h2 : SlI l' h' w u2 xr) :
    Calls Try.prog 60 #[.agg #[v], .agg #[.bool p, u1, u2]] w (RetV w (.bool q)) := by subst hq; exact l4Lit_c l h l' h' v u1 u2 ar xl xr p w hg hl hr hv h1 h2

set_option maxRecDepth 100000 in
set_option maxHeartbeats 400000 in
theorem l4Clause_c (l h l' h' : Nat) (v u : Value) (ar : List Int) (c : List Lt) (w : World) (hg : goodSign ar = true) (hx : shortC c) (hv : SlI l h w v ar) (hu : SlC l' h' w u c) :
    Calls Try.prog 46 #[.agg #[v], u] w (RetV w (.bool (okLits ar c))) := by
  obtain ⟨ad, cap, rfl⟩ := hu.form
  obtain ⟨hxl, hxj⟩ := hx
  go_enter Try.func46, Try.ntmps46
  go_wp2_with fail
  go_loopw [9] (fun i wr => ∃ k : Nat, k ≤ c.length ∧ i = .int .i64 k ∧ okTo ar c k ∧ Bel (w.alloc (.cells #[v] 30)) wr) (fun i _ => c.length - (intOf i).toNat)
  case atStart => exact ⟨0, Nat.zero_le _, rfl, fun j hj => absurd hj (by omega), Bel.rfl' _⟩
  case round =>
    obtain ⟨k, hk, rfl, hto, hb⟩ := hrel
    have hbox := boxc hb 0 _ rfl
    by_cases hlt : k < c.length
    · obtain ⟨b, off, u1, u2, rfl, hbs, c1, c2, c3, s1, s2⟩ := hu.at hb.of_alloc k hlt
      obtain ⟨hm1, hm2⟩ := hxj k hlt
      have hstep := hto.step (k := k)
      have hbad := okLits_bad (ar := ar) hlt
      have hin1 : (k : Int) < c.length := by omega
      have hvr := hv.below hb.of_alloc
      clear hu hv hxj hto
      unfold okLit at hstep hbad
      generalize c.getD k lt0 = x at *
      obtain ⟨p, xl, xr⟩ := x
      simp only at *
      obtain ⟨a1, d1, rfl⟩ := s1.form
      obtain ⟨a2, d2, rfl⟩ := s2.form
      have hbox2 := boxc (hb.alloc (.cells #[.bool p, .slice a1 xl.length d1, .slice a2 xr.length d2] 59)) 0 _ rfl
      cases hq : (okTerm ar xl && okTerm ar xr) with
      | false =>
        have E := Lib.hid (hbad hq)
        have HQ := Lib.hid hq
        clear hstep hbad hq
        go_wp2_with fail
        refine (l4Lit_v l h l' h' v _ _ ar xl xr p false _ HQ.out hg hm1 hm2 (hvr.alloc _) (s1.alloc _) (s2.alloc _)).mono ?_; rintro e w1 ⟨rfl, hb1⟩
        go_wp2_with fail
        go_ret
        exact ⟨by rw [E.out]; rfl, hb.of_alloc.step ((Bel.alloc0 _ _).step hb1)⟩
      | true =>
        have E := Lib.hid (hstep hq)
        have HQ := Lib.hid hq
        clear hstep hbad hq
        go_wp2_with fail
        refine (l4Lit_v l h l' h' v _ _ ar xl xr p true _ HQ.out hg hm1 hm2 (hvr.alloc _) (s1.alloc _) (s2.alloc _)).mono ?_; rintro e w1 ⟨rfl, hb1⟩
        go_wp2_with fail
        go_roundw
        case rel => exact ⟨k+1, by omega, by go_num, E.out, hb.step ((Bel.alloc0 _ _).step hb1)⟩
        case measure => simp [intOf]; omega
    · obtain rfl : k = c.length := by omega
      have E := Lib.hid hto.done
      have hd : decide ((c.length : Int) ≤ 8) = decide (c.length ≤ 8) := by rw [decide_eq_decide]; omega
      go_wp2_with fail
      go_ret
      exact ⟨by rw [E.out, ← hd]; rfl, hb.of_alloc⟩

set_option maxRecDepth 100000 in
set_option maxHeartbeats 400000 in
theorem l4Weight_c (l h : Nat) (v : Value) (c : List Lt) (w : World) (hx : sumC c ≤ 1048576) (hv : SlC l h w v c) :
    Calls Try.prog 36 #[v] w (RetV w (.int .i64 (lenC c : Nat))) := by
  obtain ⟨ad, cap, rfl⟩ := hv.form
  have hse := sumC_eq c
  go_enter Try.func36, Try.ntmps36
  go_wp2_with fail
  go_loopw [3, 8] (fun m i wr => ∃ k : Nat, k ≤ c.length ∧ i = .int .i64 k ∧ m = .int .i64 (lenC (c.take k) : Nat) ∧ Bel w wr) (fun _ i _ => c.length - (intOf i).toNat)
  case atStart => exact ⟨0, Nat.zero_le _, rfl, by simp [lenC, flatC, sumL], Bel.rfl' _⟩
  case round =>
    obtain ⟨k, hk, rfl, rfl, hb⟩ := hrel
    by_cases hlt : k < c.length
    · obtain ⟨b, off, u1, u2, rfl, hbs, c1, c2, c3, s1, s2⟩ := hv.at hb k hlt
      have hst := lenC_take c k hlt
      have hsl := lenC_get c k hlt
      have hin1 : (k : Int) < c.length := by omega
      clear hv
      generalize c.getD k lt0 = x at *
      obtain ⟨p, xl, xr⟩ := x
      simp only at *
      obtain ⟨a1, d1, rfl⟩ := s1.form
      obtain ⟨a2, d2, rfl⟩ := s2.form
      have HE : Hid (((lenC (c.take k) : Nat) : Int) + ((xl.length : Int) + xr.length) = (lenC (c.take (k+1)) : Nat)) := by show _ = _; omega
      have i1 := IntWalk.i64_in ((xl.length : Int) + xr.length) (by omega)
      have i2 := IntWalk.i64_in (((lenC (c.take k) : Nat) : Int) + ((xl.length : Int) + xr.length)) (by omega)
      clear s1 s2 hst hsl
      go_wp2_with fail
      go_roundw
      case rel => exact ⟨k+1, by omega, by go_num, by rw [← HE.out], hb.alloc _⟩
      case measure => simp [intOf]; omega
    · rw [lenC_all c k hlt]
      go_wp2_with fail
      go_ret
      exact ⟨rfl, hb⟩
end Go.Proofs.Ytnldienjkejfcaa
