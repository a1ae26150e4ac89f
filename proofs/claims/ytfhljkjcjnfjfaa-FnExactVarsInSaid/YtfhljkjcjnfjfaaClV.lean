/- Chapter 4, the program: VarsIn. -/
import Derived.Test.YtfhljkjcjnfjfaaClI1
import Derived.Test.YtfhljkjcjnfjfaaSlice
namespace Go.Proofs.Ytfhljkjcjnfjfaa
open Go.RowKit

set_option maxRecDepth 100000 in
set_option maxHeartbeats 400000 in
theorem concat_nil (w : World) : Calls Try.prog 122 #[.slice none 0 0] w (RetI w []) := by
  go_enter Try.func122, Try.ntmps122
  go_wp2_with fail
  go_loop [3, 11] (fun n i => n = .int .i64 0 ∧ i = .int .i64 0) (fun _ _ => 0)
  case atStart => exact ⟨rfl, rfl⟩
  case round =>
    obtain ⟨rfl, rfl⟩ := hrel
    go_wp2_with fail
    refine (grow_c 0 _ (by omega)).mono ?_; rintro e w1 ⟨ad, m, c1, rfl, hown, hb⟩
    go_wp2_with fail
    go_loopw [6, 27] (fun v i wr => i = .int .i64 0 ∧ v = .slice ad m c1 ∧ wr = w1) (fun _ _ _ => 0)
    case atStart => exact ⟨rfl, rfl, rfl⟩
    case round =>
      obtain ⟨rfl, rfl, rfl⟩ := hrel
      go_wp2_with fail
      go_ret
      exact ⟨_, _, _, rfl, OwnI.of_row hown, hb⟩
theorem concatV_c (W : World) (v : Value) (L : List (List Int)) (w : World) (hb : Bel W w) (hL : L.length ≤ 1048576) (hs : sumLen L ≤ 1099511627776) (hv : RowV W w v L) :
    Calls Try.prog 122 #[v] w (RetI w L.flatten) := by
  have hsl := hv.sls hb
  obtain ⟨zs, h1, h2⟩ := hv
  rcases h1.2 with ⟨rfl, hn⟩ | ⟨g, cap, cur, rfl, _⟩
  · have : L = [] := List.length_eq_zero_iff.1 (by rw [← h2.1]; exact hn)
    subst this
    exact concat_nil w
  · obtain ⟨ad, cap', e, hc, hm, hr⟩ := hsl
    simp only [Value.slice.injEq] at e
    obtain ⟨rfl, e2, rfl⟩ := e
    rw [e2]
    refine concat_c 0 w.heap.size g 0 cap L w hL hs (fun j hj => ?_)
    obtain ⟨b, off, e3, _, _, hx⟩ := hr (by omega)
    simp only [Option.some.injEq, Addr.mk.injEq, and_true] at e3
    obtain ⟨rfl, rfl⟩ := e3
    obtain ⟨u, h1, h2⟩ := hx j hj
    obtain ⟨y, z, rfl⟩ := h2.form
    exact ⟨y, z, h1, h2⟩

set_option maxRecDepth 100000 in
set_option maxHeartbeats 400000 in
theorem clauseVars_c {l' h' : Nat} {u : Value} {c : List Lt} {w : World} (hsum : sumL (flatC c) ≤ 1048576) (h8 : c.length ≤ 8) (hlow : ∀ k, k < (flatC c).flatten.length → -12 ≤ (flatC c).flatten.getD k 0) (hu : SlC l' h' w u c) :
    Calls Try.prog 72 #[u] w (RetI w (natsI (varsTo (mk (flatC c).flatten) 12))) := by
  have hfl := flatC_len c
  have HC := Lib.hid (termsIn_c l' h' u c w (by omega) hu)
  have hcl : c.length ≤ 1048576 := by omega
  clear hu
  go_enter Try.func72, Try.ntmps72
  go_wp2_with fail
  refine HC.out.mono ?_; rintro e w2 ⟨a2, n2, c2, rfl, hrow, hb2⟩
  have hsl : sumLen (flatC c) = sumL (flatC c) := rfl
  have hfn := flat_len (flatC c)
  generalize flatC c = L at *
  go_wp2_with fail
  refine (concatV_c w _ L w2 hb2 (by omega) (by omega) hrow).mono ?_; rintro e w3 ⟨a3, n3, c3, rfl, ho3, hb3⟩
  go_wp2_with fail
  refine (marksOf_c _ _ _ L.flatten w3 (by omega) hlow ho3.sl).mono ?_; rintro e w4 ⟨rfl, hb4⟩
  go_wp2_with fail
  refine (mvars_c _ w4).mono ?_; rintro e w5 ⟨a5, n5, c5, rfl, ho5, hb5⟩
  have HB4 := (hb2.step hb3).step hb4
  go_wp2_with fail
  go_ret
  exact ⟨_, _, _, rfl, ho5.mono HB4.size (Nat.le_refl _), HB4.step hb5⟩

set_option maxRecDepth 100000 in
set_option maxHeartbeats 400000 in
theorem iVarsIn_t {l h l' h' : Nat} {v u : Value} {ar : List Int} {c : List Lt} {w : World} (ha : ar.length ≤ 1048576) (hv : SlI l h w v ar) (hc : sumC c ≤ 1048576) (hu : SlC l' h' w u c) :
    Calls Try.prog 20 #[.agg #[v], u] w (RetIB w (varsInAns ar c) (goodClause ar c)) := by
  unfold varsInAns
  cases hg : goodClause ar c with
  | false =>
    rw [if_neg (by simp)]
    have HG := Lib.hid hg; clear hg
    go_enter Try.func20, Try.ntmps20
    go_wp2_with fail
    refine (iGoodClause_v HG.out ha (hv.alloc _) hc (hu.alloc _)).mono ?_; rintro e w1 ⟨rfl, hb1⟩
    go_wp2_with fail
    go_ret2
    exact ⟨_, _, _, rfl, OwnI.nil _ _ _, hb1.of_alloc⟩
  | true =>
    rw [if_pos rfl]
    have hsum := (short_flat hc).1
    have hlow := flat_low hg
    have h8 := (goodClause_iff.1 hg).2.1
    have HG := Lib.hid hg; clear hg
    have HC := Lib.hid (fun (w' : World) (hb : Bel w w') => clauseVars_c hsum h8 hlow (hu.below hb))
    go_enter Try.func20, Try.ntmps20
    go_wp2_with fail
    refine (iGoodClause_v HG.out ha (hv.alloc _) hc (hu.alloc _)).mono ?_; rintro e w1 ⟨rfl, hb1⟩
    clear hc hu hv hlow
    go_wp2_with fail
    refine (HC.out _ hb1.of_alloc).mono ?_; rintro e w5 ⟨a5, n5, c5, rfl, ho5, hb5⟩
    go_wp2_with fail
    go_ret2
    exact ⟨_, _, _, rfl, ho5.mono hb1.of_alloc.size (Nat.le_refl _), hb1.of_alloc.step hb5⟩
end Go.Proofs.Ytfhljkjcjnfjfaa
