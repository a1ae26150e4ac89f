/- Copies and joins of slices of ints. -/
import Derived.Test.YtikllmdmifecpacLaw1
import Derived.Laws.AppendOwnNone
import Derived.Lib.AppendZeros
namespace Go.Proofs.Ytikllmdmifecpac
open Go.RowKit

theorem news_of_sl {lo hi : Nat} {w : World} {a : Addr} {n c : Nat} {xs : List Int} (h : SlI lo hi w (.slice (some a) n c) xs) : ∀ j u, (xs.map (Value.int .i64))[j]? = some u → w.cell? (a.add j) = some u := by
  intro j u hj
  obtain ⟨ad, cap, e, _, _, hr⟩ := h
  simp only [Value.slice.injEq] at e
  have hlt : j < xs.length := by
    have := List.getElem?_eq_some_iff.1 hj
    simpa using this.1
  obtain ⟨b, off, e2, _, _, hc⟩ := hr (by omega)
  rw [← e.1] at e2
  simp only [Option.some.injEq] at e2
  subst e2
  rw [addr_add, hc j hlt]
  simp [hlt] at hj
  simp [List.getD, hlt, hj]
theorem ones_int (xs : List Int) : ∀ u ∈ xs.map (Value.int .i64), u.oneCell' = true := by
  intro u hu; simp at hu; obtain ⟨n, _, rfl⟩ := hu; rfl

/-- A slice of ints that the call itself made, as a row that may grow. -/
def RetR (w : World) (xs : List Int) (e : Ending) (w' : World) : Prop := ∃ ad n c, e = .returned (.slice ad n c) ∧ w'.ownsRow w.heap.size 3 1 (.slice ad n c) xs.length (xs.map (Value.int .i64)) ∧ Bel w w'
theorem RetR.i {w : World} {xs : List Int} {e : Ending} {w' : World} (h : RetR w xs e w') : RetI w xs e w' := by
  obtain ⟨ad, n, c, h1, h2, h3⟩ := h
  exact ⟨ad, n, c, h1, OwnI.of_row h2, h3⟩

set_option maxRecDepth 100000 in
theorem clone_c (l h : Nat) (v : Value) (xs : List Int) (w : World) (hx : xs.length ≤ 1048576) (hv : SlI l h w v xs) :
    Calls Try.prog 41 #[v] w (RetI w xs) := by
  obtain ⟨i0, hi0, hz0, hz1, hz2⟩ := info_parts Try.info3
  have hv0 := hv
  obtain ⟨ad, cap, rfl, -, hm, hr⟩ := hv
  have hown : (w.alloc (.cells #[] 3)).ownsRow w.heap.size 3 1 (.slice (some ⟨w.heap.size, 0, none⟩) 0 0) ([] : List Int).length (([] : List Int).map (Value.int .i64)) :=
    World.ownsRow_lit w #[] 0 (Nat.le_refl _) (Nat.zero_le _) rfl
  cases ad with
  | none =>
    obtain rfl : xs = [] := by
      rcases Nat.eq_zero_or_pos xs.length with h0 | h0
      · exact List.length_eq_zero_iff.1 h0
      · obtain ⟨_, _, e, _⟩ := hr h0; simp at e
    obtain rfl : cap = 0 := hm.2 rfl
    clear hr hm hv0
    have hk := fun (w : World) (a : Option Addr) (n c : Nat) => Lib.run_eql_slice_nil (P := Try.prog) w 22 3 a n c 0 0 Try.underlying22
    go_enter Try.func41, Try.ntmps41
    go_wp2_with fail
    go_ret
    exact ⟨_, _, _, rfl, OwnI.nil _ _ _, Bel.rfl' _⟩
  | some a =>
    have hn := news_of_sl (hv0.alloc (.cells #[] 3))
    clear hr hm
    have hk := fun (w : World) (a : Option Addr) (n c : Nat) => Lib.run_eql_slice_nil (P := Try.prog) w 22 3 a n c 0 0 Try.underlying22
    go_enter Try.func41, Try.ntmps41
    go_wp2_with (at_builtin; refine wpList_append_own _ rfl _ _ 22 rfl w.heap.size 3 i0 (.int .i64 0) 1 8 Try.underlying22 hi0 hz0 hz1 hz2 rfl (by decide) _ _ _ rfl hown a xs.length cap (xs.map (Value.int .i64)) rfl (by simp) hn (ones_int _) (by unfold maxLen; simp; omega) (by simp; omega) (by simp) ?_; intro v' w1 hown' hgrow _)
    have hb1 := (Bel.alloc0 w (.cells #[] 3)).grown hgrow (fun k hk => own_base hown k hk)
    have hown2 : w1.ownsRow w.heap.size 3 1 v' xs.length (xs.map (Value.int .i64)) := by simpa using hown'
    obtain ⟨g, n, c, rfl⟩ := own_form hown2
    go_ret
    exact ⟨_, _, _, rfl, OwnI.of_row hown2, hb1⟩

/-- A cut of a slice. -/
theorem SlI.cut {lo hi : Nat} {w : World} {b off n c : Nat} {xs : List Int} (h : SlI lo hi w (.slice (some ⟨b, off, none⟩) n c) xs) (i j : Nat) (hij : i ≤ j) (hj : j ≤ xs.length) :
    SlI lo hi w (.slice (some ⟨b, off + i, none⟩) (j - i) (c - i)) ((xs.drop i).take (j - i)) := by
  obtain ⟨ad, cap, e, hc, hm, hr⟩ := h
  simp only [Value.slice.injEq] at e
  obtain ⟨rfl, rfl, rfl⟩ := e
  have hl : ((xs.drop i).take (j - i)).length = j - i := by simp; omega
  refine ⟨_, c - i, by rw [hl], by rw [hl]; omega, ⟨by have := hm.1; omega, fun h => by simp at h⟩, fun hp => ?_⟩
  rw [hl] at hp
  obtain ⟨b', off', e2, a1, a2, a3⟩ := hr (by omega)
  simp only [Option.some.injEq, Addr.mk.injEq, and_true] at e2
  obtain ⟨rfl, rfl⟩ := e2
  refine ⟨b, off + i, rfl, a1, a2, fun k hk => ?_⟩
  rw [hl] at hk
  rw [show off + i + k = off + (i + k) from by omega, a3 (i + k) (by omega)]
  simp [List.getD, hk, List.getElem?_drop]

/-- The head of a slice that is not nil lies at a plain address. -/
theorem SlI.plain {lo hi : Nat} {w : World} {v : Value} {xs : List Int} (h : SlI lo hi w v xs) (hp : 0 < xs.length) : ∃ b off c, v = .slice (some ⟨b, off, none⟩) xs.length c ∧ xs.length ≤ c := by
  obtain ⟨ad, cap, rfl, hc, hm, hr⟩ := h
  obtain ⟨b, off, rfl, _⟩ := hr hp
  exact ⟨b, off, cap, rfl, hc⟩

/-- A slice of slices of ints, as Concat reads it. -/
def PartsAt (lo hi : Nat) (w : World) (B o : Nat) (L : List (List Int)) : Prop :=
  ∀ j, j < L.length → ∃ ad c, w.cell? ⟨B, o + j, none⟩ = some (.slice ad (L.getD j []).length c) ∧ SlI lo hi w (.slice ad (L.getD j []).length c) (L.getD j [])
theorem PartsAt.below {lo hi : Nat} {w w' : World} {B o : Nat} {L : List (List Int)} (h : PartsAt lo hi w B o L) (hb : Bel w w') : PartsAt lo hi w' B o L := fun j hj => by
  obtain ⟨ad, c, h1, h2⟩ := h j hj
  exact ⟨ad, c, hb.at (World.block_lt_of_cell? w ⟨B, o + j, none⟩ h1) h1, h2.below hb⟩
def sumLen (L : List (List Int)) : Nat := (L.map List.length).sum
theorem sumLen_take (L : List (List Int)) (j : Nat) (h : j < L.length) : sumLen (L.take (j+1)) = sumLen (L.take j) + (L.getD j []).length := by
  unfold sumLen
  rw [List.take_succ_eq_append_getElem h, List.map_append, List.sum_append]
  simp only [List.map_cons, List.map_nil, List.sum_cons, List.sum_nil, Nat.add_zero]
  simp [List.getD, h]
theorem sumLen_le (L : List (List Int)) (j : Nat) : sumLen (L.take j) ≤ sumLen L := by
  unfold sumLen
  conv => rhs; rw [← List.take_append_drop j L]
  rw [List.map_append, List.sum_append]
  exact Nat.le_add_right _ _
theorem flat_take (L : List (List Int)) (j : Nat) (h : j < L.length) : (L.take (j+1)).flatten = (L.take j).flatten ++ L.getD j [] := by
  rw [List.take_succ_eq_append_getElem h, List.flatten_append]
  simp only [List.flatten_cons, List.flatten_nil, List.append_nil]
  simp [List.getD, h]
theorem flat_len (L : List (List Int)) : L.flatten.length = sumLen L := by simp [sumLen, List.length_flatten]

end Go.Proofs.Ytikllmdmifecpac
