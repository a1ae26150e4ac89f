/- A literal that came in, and a slice of literals, opened. -/
import Derived.Test.YtnldienjkejfcaaOpen
import Derived.Test.YtnldienjkejfcaaSC
import Derived.Deep.Slices
import Derived.Deep.Strs
namespace Go.Proofs.Ytnldienjkejfcaa
open Go.ChangeShapes Go.WideShapes Go.ChangeAt Go.RowKit
set_option linter.unusedVariables false
set_option maxRecDepth 100000

theorem op_litcells {H : Type} {enc : TypeId × Value → H} {W : World} {fuel : Nat} {cs : List Value} {x : DataW H × List MemPlace}
    (h : DataW.trod enc Try.prog W 0 (fun _ => true) true fuel 57 cs = some x) :
    ∃ (p : Bool) (u1 u2 : Value) (l r : List Int), cs = [.bool p, u1, u2] ∧ SlI 0 W.heap.size W u1 l ∧ l.length ≤ 9223372036854775807 ∧ SlI 0 W.heap.size W u2 r ∧ r.length ≤ 9223372036854775807 := by
  have hC : Try.prog.cellsOf 57 = 3 := by kernel_rfl
  obtain ⟨y0, y1, y2, n, _, hl, h0, h1, h2⟩ := Go.Deep.trod_struct3 Try.underlying57 h
  rw [hC] at hl
  match cs, hl with
  | [v0, v1, v2], _ =>
    have c0 : Try.prog.cellsOf 4 = 1 := by kernel_rfl
    have c1 : Try.prog.cellsOf 22 = 1 := by kernel_rfl
    simp only [c0, c1] at h0 h1 h2
    obtain ⟨p, e0, _⟩ := DataW.trod_bool Try.underlying4 (by simpa using h0)
    obtain ⟨l, hl, s1, _⟩ := op_slI (v := v1) (by simpa using h1)
    obtain ⟨r, hr, s2, _⟩ := op_slI (v := v2) (by simpa using h2)
    refine ⟨p, v1, v2, l, r, ?_, s1, hl, s2, hr⟩
    simp at e0
    rw [e0]

theorem op_lit {H : Type} {enc : TypeId × Value → H} {W : World} {v : Value} {d : DataW H} {p : List MemPlace} {base : Nat} (hv : Value.okWide Try.prog W .any base 57 v)
    (h : DataW.Trod enc Try.prog W 0 (fun _ => true) true 57 v d p) : ∃ (p : Bool) (u1 u2 : Value) (l r : List Int), v = .agg #[.bool p, u1, u2] ∧ SlI 0 W.heap.size W u1 l ∧ l.length ≤ 9223372036854775807 ∧ SlI 0 W.heap.size W u2 r ∧ r.length ≤ 9223372036854775807 := by
  obtain ⟨cs, rfl, hsz⟩ := okWide_struct Try.underlying57 hv
  obtain ⟨fuel, hf⟩ := h
  obtain ⟨p, u1, u2, l, r, e, s1, hl, s2, hr⟩ := op_litcells (x := (d, p)) (cs := cs.toList) (by simpa [Value.cells] using hf)
  exact ⟨p, u1, u2, l, r, by rw [← e], s1, hl, s2, hr⟩

theorem op_lits {H : Type} {enc : TypeId × Value → H} {W : World} {v : Value} {d : DataW H} {p : List MemPlace} {base : Nat} (hv : Value.okWide Try.prog W .any base 25 v)
    (h : DataW.Trod enc Try.prog W 0 (fun _ => true) true 25 v d p) : ∃ c : List Lt, SlC 0 W.heap.size W v c := by
  obtain ⟨a, n, k, rfl⟩ := okWide_slice Try.underlying25 hv
  have hC : Try.prog.cellsOf 57 = 3 := by kernel_rfl
  obtain ⟨fuel, hf⟩ := h
  rcases Go.Deep.open_slice Try.underlying25 (by simpa [Value.cells] using hf) with ⟨hcs, _⟩ | ⟨ad, len, cap, m, n', D, Pl, hcs, _, hl, hm, hmm, _, hx⟩
  · simp at hcs
    obtain ⟨rfl, rfl, rfl⟩ := hcs
    exact ⟨[], SlC.nil _ _ _⟩
  · simp at hcs
    obtain ⟨rfl, rfl, rfl⟩ := hcs
    simp at hmm
    subst hmm
    have each : ∀ i, i < n → ∃ q : Bool × Value × Value × List Int × List Int, W.cell? (ad.add (i * 3)) = some (.bool q.1) ∧ W.cell? (ad.add (i * 3 + 1)) = some q.2.1 ∧ W.cell? (ad.add (i * 3 + 2)) = some q.2.2.1 ∧ SlI 0 W.heap.size W q.2.1 q.2.2.2.1 ∧ SlI 0 W.heap.size W q.2.2.1 q.2.2.2.2 := fun i hi => by
      obtain ⟨cs', h1, h2⟩ := hx i (by omega)
      rw [hC] at h1
      obtain ⟨_, hlen, hcell⟩ := World.cells?_some h1
      obtain ⟨p, u1, u2, l, r, rfl, s1, _, s2, _⟩ := op_litcells h2
      have e0 := hcell 0 (by omega)
      have e1 := hcell 1 (by omega)
      have e2 := hcell 2 (by omega)
      rw [Go.Deep.add_add] at e0 e1 e2
      exact ⟨(p, u1, u2, l, r), by simpa using e0, by simpa using e1, by simpa using e2, s1, s2⟩
    obtain ⟨Z, hZ⟩ := Go.Deep.choose_lt each
    have hlen : ((List.range n).map fun i => ((Z i).1, (Z i).2.2.2.1, (Z i).2.2.2.2)).length = n := by simp
    refine ⟨(List.range n).map fun i => ((Z i).1, (Z i).2.2.2.1, (Z i).2.2.2.2), some ad, _, by rw [hlen], by rw [hlen]; exact hl, ⟨hm, fun h => by simp at h⟩, fun hp => ?_⟩
    rw [hlen] at hp
    obtain ⟨b, off, spot⟩ := ad
    have h0 := (hZ 0 (by omega)).1
    have hspot : spot = none := by simpa [Addr.add] using World.cell?_spot h0
    subst hspot
    refine ⟨b, off, rfl, Nat.zero_le _, World.block_lt_of_cell? W ⟨b, off + 0 * 3, none⟩ (by rw [← add_plain]; exact h0), fun j hj => ?_⟩
    rw [hlen] at hj
    obtain ⟨z0, z1, z2, z3, z4⟩ := hZ j hj
    refine ⟨(Z j).2.1, (Z j).2.2.1, ?_, ?_, ?_, ?_, ?_⟩
    · rw [← add_plain]; simpa [List.getD, hj] using z0
    · rw [Nat.add_assoc, ← add_plain]; exact z1
    · rw [Nat.add_assoc, ← add_plain]; exact z2
    · simpa [List.getD, hj] using z3
    · simpa [List.getD, hj] using z4
end Go.Proofs.Ytnldienjkejfcaa
