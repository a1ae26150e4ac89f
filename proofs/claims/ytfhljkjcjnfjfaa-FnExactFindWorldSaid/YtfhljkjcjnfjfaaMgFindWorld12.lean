/- Texts merged, part 12. -/
import Derived.ChangeSame
import Derived.Test.YtfhljkjcjnfjfaaMgFindWorld11
section
/- The laws' helpers over slices of clauses: marks. -/
namespace Go.Proofs.Ytfhljkjcjnfjfaa
open Go.RowKit

theorem SlCs.chg {lo hi lo' hi' w w' v cs} (h : SlCs lo hi w v cs) (k : Chg lo' hi' w w') (hd : hi ≤ lo' ∨ hi' ≤ lo) : SlCs lo hi w' v cs := by
  obtain ⟨ad, cap, rfl, hc, hm, hr⟩ := h
  refine ⟨ad, cap, rfl, hc, hm, fun hp => ?_⟩
  obtain ⟨b, off, e, a1, a2, a3⟩ := hr hp
  refine ⟨b, off, e, a1, a2, fun j hj => ?_⟩
  obtain ⟨u, h1, h2⟩ := a3 j hj
  exact ⟨u, k.cell (World.block_lt_of_cell? w ⟨b, off + j, none⟩ h1) (by omega) h1, h2.chg k hd⟩
def RetMCs (lo hi : Nat) (w : World) (cs : List (List Lt)) (k : Nat) (e : Ending) (w' : World) : Prop := e = .returned (.int .i64 ((k + sumCs cs : Nat) : Int)) ∧ Chg lo hi w w' ∧ True
theorem ownsRow_far {w w' : World} {base e s n : Nat} {v : Value} {xs : List Value} (h : w.ownsRow base e s v n xs) {l' h' : Nat} (k : Chg l' h' w w') (hd : ∀ g, v.ownBlock = some g → g < l' ∨ h' ≤ g) : w'.ownsRow base e s v n xs := by
  have h0 := h
  obtain ⟨q1, q0 | ⟨g, cap, cur, e1, e2, hh, r⟩⟩ := h
  · exact ⟨q1, .inl q0⟩
  · have hb : v.ownBlock = some g := by rw [e1]; rfl
    exact ⟨q1, .inr ⟨g, cap, cur, e1, e2, by rw [k.block g (own_lt h0 hb).2 (hd g hb)]; exact hh, r⟩⟩

set_option maxRecDepth 100000 in
set_option maxHeartbeats 1000000 in
theorem markLitSS_c (lo hi : Nat) (v : Value) (cs : List (List Lt)) (k : Nat) (w : World) (hx : totCs cs ≤ 1048576) (hk : k ≤ 1000000000) (hv : OwnCs lo hi w v cs) :
    Calls Try.prog 65 #[v, .int .i64 k] w (RetMCs lo hi w cs k) := by
  obtain ⟨ad, cap, rfl⟩ := hv.sl.form
  obtain ⟨hxl, hmax⟩ := totCs_each hx
  obtain ⟨us, bs, hrow, hin, hoff⟩ := hv
  have hul := hin.1
  have hsum : sumCs cs ≤ 1048576 := by unfold totCs at hx; omega
  go_enter Try.func65, Try.ntmps65
  go_wp2_with fail
  go_loopw [1, 5] (fun m i wr => ∃ j : Nat, j ≤ cs.length ∧ i = .int .i64 j ∧ m = .int .i64 ((k + sumCs (cs.take j) : Nat) : Int) ∧ wr.ownsRow lo 32 1 (.slice ad cs.length cap) cs.length us ∧ (∀ i u, j ≤ i → us[i]? = some u → OwnC (bs i).1 (bs i).2 wr u (cs.getD i [])) ∧ Chg lo hi w wr) (fun _ i _ => cs.length - (intOf i).toNat)
  case atStart => exact ⟨0, Nat.zero_le _, rfl, by simp [sumCs], hrow, fun i u _ h => (hin.2 i u h).2.2.2.1, Chg.refl _ _ _⟩
  case round =>
    obtain ⟨j, hj, rfl, rfl, hr, hown, hb⟩ := hrel
    by_cases hlt : j < cs.length
    · have hst := sumCs_take cs j hlt
      have hsl := sumCs_get cs j hlt
      have hju : us[j]? = some us[j] := List.getElem?_eq_getElem (by omega)
      obtain ⟨g, rfl⟩ : ∃ g, ad = some ⟨g, 0, none⟩ := by
        obtain ⟨_, h0 | ⟨g, _, _, e1, _⟩⟩ := hrow
        · omega
        · simp only [Value.slice.injEq] at e1; exact ⟨g, e1.1⟩
      have hcell := hr.cellAt j (by omega)
      rw [hju] at hcell
      have ho := hown j _ (Nat.le_refl _) hju
      obtain ⟨p1, p2, p3, -, p5⟩ := hin.2 j _ hju
      have hg := hoff g rfl
      have hgj := hg.2 j _ hju
      have HC := Lib.hid (markLitS_c _ _ us[j] (cs.getD j []) (k + sumCs (cs.take j)) wr (hmax j hlt) (by omega) ho)
      obtain ⟨a1, d1, hu⟩ := ho.sl.form
      rw [hu] at hcell HC
      have HN : Hid (∀ w', Chg (bs j).1 (bs j).2 wr w' → w'.ownsRow lo 32 1 (.slice (some ⟨g, 0, none⟩) cs.length cap) cs.length us ∧ (∀ i u, j + 1 ≤ i → us[i]? = some u → OwnC (bs i).1 (bs i).2 w' u (cs.getD i [])) ∧ Chg lo hi w w') := fun w' q => by
        refine ⟨ownsRow_far hr q (fun g' e => ?_), fun i u hi he => ?_, hb.trans (q.mono p1 p3)⟩
        · simp only [Value.ownBlock, Option.some.injEq] at e
          subst e
          exact hgj
        · exact (hown i u (by omega) he).chg q (.inr ((hin.2 i u he).2.2.2.2 j (by omega)))
      have HS : Hid (k + sumCs (cs.take j) + sumC (cs.getD j []) = k + sumCs (cs.take (j+1))) := by show _ = _; omega
      have hbd : sumC (cs.getD j []) ≤ 1048576 := hmax j hlt
      have hin1 : (j : Int) < cs.length := by omega
      generalize cs.getD j [] = c at *
      generalize c.length = m at *
      generalize k + sumCs (cs.take j) = K at *
      clear hrow hin hoff hr hown hju ho hg hgj p5 hmax
      go_wp2_with fail
      refine HC.out.mono ?_; rintro e w3 ⟨rfl, q, -⟩
      obtain ⟨n1, n2, n3⟩ := HN.out w3 q
      go_wp2_with fail
      go_roundw
      case rel => exact ⟨j+1, by omega, by go_num, by rw [← HS.out]; go_num, n1, n2, n3⟩
      case measure => simp [intOf]; omega
    · obtain rfl : j = cs.length := by omega
      have HS : Hid (sumCs (cs.take cs.length) = sumCs cs) := by show _ = _; rw [List.take_length]
      clear hrow hin hoff hr hown
      go_wp2_with fail
      go_ret
      exact ⟨by rw [HS.out]; rfl, hb, trivial⟩
end Go.Proofs.Ytfhljkjcjnfjfaa
end
section
/- A world that came in, opened. -/
namespace Go.Proofs.Ytfhljkjcjnfjfaa
open Go.ChangeShapes Go.WideShapes Go.ChangeAt Go.RowKit
set_option linter.unusedVariables false
set_option maxRecDepth 100000

theorem op_slS {H : Type} {enc : TypeId × Value → H} {W : World} {fuel : Nat} {v : Value} {x : DataW H × List MemPlace}
    (h : DataW.trod enc Try.prog W 0 (fun _ => true) true fuel 41 [v] = some x) : ∃ xss : List (List Int), SlS 0 W.heap.size W v xss := by
  rcases Go.Deep.open_slice1 Try.underlying41 (by kernel_rfl) h with ⟨hcs, _⟩ | ⟨ad, n, cap, m, n', V, D, Pl, hcs, _, hl, hm, hmm, _, hx⟩
  · simp at hcs
    subst hcs
    exact ⟨[], SlS.nil _ _ _⟩
  · simp at hcs
    subst hcs
    simp at hmm
    subst hmm
    have each : ∀ i, i < n → ∃ xs : List Int, SlI 0 W.heap.size W (V i) xs := fun i hi => by
      obtain ⟨xs, _, h2, _⟩ := op_slI (hx i (by omega)).2
      exact ⟨xs, h2⟩
    obtain ⟨Z, hZ⟩ := Go.Deep.choose_lt each
    have hlen : ((List.range n).map Z).length = n := by simp
    refine ⟨(List.range n).map Z, some ad, _, by rw [hlen], by rw [hlen]; exact hl, ⟨hm, fun h => by simp at h⟩, fun hp => ?_⟩
    rw [hlen] at hp
    obtain ⟨b, off, spot⟩ := ad
    have h0 := (hx 0 (by omega)).1
    have hspot : spot = none := by simpa [Addr.add] using World.cell?_spot h0
    subst hspot
    refine ⟨b, off, rfl, Nat.zero_le _, World.block_lt_of_cell? W ⟨b, off + 0, none⟩ h0, fun j hj => ?_⟩
    rw [hlen] at hj
    refine ⟨V j, ?_, ?_⟩
    · rw [← add_plain]; exact (hx j (by omega)).1
    · have := hZ j hj
      simpa [List.getD, hj] using this

theorem op_world {H : Type} {enc : TypeId × Value → H} {W : World} {v : Value} {d : DataW H} {p : List MemPlace} {base : Nat} (hv : Value.okWide Try.prog W .any base 43 v)
    (h : DataW.Trod enc Try.prog W 0 (fun _ => true) true 43 v d p) : ∃ (z : Int) (u : Value), v = .agg #[.int .i64 z, u] ∧ ∃ tb : List (List Int), SlS 0 W.heap.size W u tb := by
  obtain ⟨cs, rfl, hsz⟩ := okWide_struct Try.underlying43 hv
  have hC : Try.prog.cellsOf 43 = 2 := by kernel_rfl
  rw [hC] at hsz
  obtain ⟨v0, v1, rfl⟩ : ∃ a b, cs = #[a, b] := by
    match cs, hsz with
    | ⟨[a, b]⟩, _ => exact ⟨a, b, rfl⟩
  obtain ⟨fuel, hf⟩ := h
  obtain ⟨y0, y1, n, _, hl, h0, h1⟩ := trod_struct2 Try.underlying43 hf
  have c0 : Try.prog.cellsOf 3 = 1 := by kernel_rfl
  have c1 : Try.prog.cellsOf 41 = 1 := by kernel_rfl
  simp only [c0, c1] at h0 h1
  obtain ⟨z, e0, _⟩ := DataW.trod_int Try.underlying3 (by simpa [Value.cells] using h0)
  simp at e0
  subst e0
  exact ⟨z, v1, rfl, op_slS (by simpa [Value.cells] using h1)⟩
end Go.Proofs.Ytfhljkjcjnfjfaa
end
