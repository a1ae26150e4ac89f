/- Texts merged, part 12. -/
import Derived.ChangeSame
import Derived.Test.YtnldienjkejfcaaMgHoldsIn11
section
/- A world that came in, opened. -/
namespace Go.Proofs.Ytnldienjkejfcaa
open Go.ChangeShapes Go.WideShapes Go.ChangeAt Go.RowKit
set_option linter.unusedVariables false
set_option maxRecDepth 100000

theorem op_slS {H : Type} {enc : TypeId × Value → H} {W : World} {fuel : Nat} {v : Value} {x : DataW H × List MemPlace}
    (h : DataW.trod enc Try.prog W 0 (fun _ => true) true fuel 39 [v] = some x) : ∃ xss : List (List Int), SlS 0 W.heap.size W v xss := by
  rcases Go.Deep.open_slice1 Try.underlying39 (by kernel_rfl) h with ⟨hcs, _⟩ | ⟨ad, n, cap, m, n', V, D, Pl, hcs, _, hl, hm, hmm, _, hx⟩
  · simp at hcs
    subst hcs
    exact ⟨[], SlS.nil _ _ _⟩
  · simp at hcs
    subst hcs
    simp at hmm
    subst hmm
    have each : ∀ i, i < n → ∃ xs : List Int, SlI 0 W.heap.size W (V i) xs := fun i hi => by
      obtain ⟨xs, _, h2, _⟩ := op_slI (hx i (by omega)).2
      exact ⟨xs, h2⟩
    obtain ⟨Z, hZ⟩ := Go.Deep.choose_lt each
    have hlen : ((List.range n).map Z).length = n := by simp
    refine ⟨(List.range n).map Z, some ad, _, by rw [hlen], by rw [hlen]; exact hl, ⟨hm, fun h => by simp at h⟩, fun hp => ?_⟩
    rw [hlen] at hp
    obtain ⟨b, off, spot⟩ := ad
    have h0 := (hx 0 (by omega)).1
    have hspot : spot = none := by simpa [Addr.add] using World.cell?_spot h0
    subst hspot
    refine ⟨b, off, rfl, Nat.zero_le _, World.block_lt_of_cell? W ⟨b, off + 0, none⟩ h0, fun j hj => ?_⟩
    rw [hlen] at hj
    refine ⟨V j, ?_, ?_⟩
    · rw [← add_plain]; exact (hx j (by omega)).1
    · have := hZ j hj
      simpa [List.getD, hj] using this

theorem op_world {H : Type} {enc : TypeId × Value → H} {W : World} {v : Value} {d : DataW H} {p : List MemPlace} {base : Nat} (hv : Value.okWide Try.prog W .any base 41 v)
    (h : DataW.Trod enc Try.prog W 0 (fun _ => true) true 41 v d p) : ∃ (z : Int) (u : Value), v = .agg #[.int .i64 z, u] ∧ ∃ tb : List (List Int), SlS 0 W.heap.size W u tb := by
  obtain ⟨cs, rfl, hsz⟩ := okWide_struct Try.underlying41 hv
  have hC : Try.prog.cellsOf 41 = 2 := by kernel_rfl
  rw [hC] at hsz
  obtain ⟨v0, v1, rfl⟩ : ∃ a b, cs = #[a, b] := by
    match cs, hsz with
    | ⟨[a, b]⟩, _ => exact ⟨a, b, rfl⟩
  obtain ⟨fuel, hf⟩ := h
  obtain ⟨y0, y1, n, _, hl, h0, h1⟩ := trod_struct2 Try.underlying41 hf
  have c0 : Try.prog.cellsOf 3 = 1 := by kernel_rfl
  have c1 : Try.prog.cellsOf 39 = 1 := by kernel_rfl
  simp only [c0, c1] at h0 h1
  obtain ⟨z, e0, _⟩ := DataW.trod_int Try.underlying3 (by simpa [Value.cells] using h0)
  simp at e0
  subst e0
  exact ⟨z, v1, rfl, op_slS (by simpa [Value.cells] using h1)⟩
end Go.Proofs.Ytnldienjkejfcaa
end
