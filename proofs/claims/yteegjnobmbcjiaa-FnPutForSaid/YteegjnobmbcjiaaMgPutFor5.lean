/- Texts merged, part 5. -/
import Derived.Deep.RegionHeldLaw
import Derived.Test.YteegjnobmbcjiaaMgPutFor4
section
/- Slices of literals (a sign and two slices of ints): read (SlC), or of the call's own (OwnC); marks. No program. -/
namespace Go.Proofs.Yteegjnobmbcjiaa
open Go.RowKit

/-- A literal: its sign, its two terms. -/
abbrev Lt := Bool × List Int × List Int
def lt0 : Lt := (false, [], [])
def wC (x : Lt) : Nat := 1 + x.2.1.length + x.2.2.length
def sumC (c : List Lt) : Nat := (c.map wC).sum
theorem sumC_take (c : List Lt) (k : Nat) (h : k < c.length) : sumC (c.take (k+1)) = sumC (c.take k) + wC (c.getD k lt0) := by
  unfold sumC
  rw [List.take_succ_eq_append_getElem h, List.map_append, List.sum_append]
  simp [List.getD, h]
theorem sumC_all (c : List Lt) (k : Nat) (h : ¬ k < c.length) : sumC (c.take k) = sumC c := by rw [List.take_of_length_le (by omega)]
theorem sumC_le (c : List Lt) (k : Nat) : sumC (c.take k) ≤ sumC c := by
  conv => rhs; rw [← List.take_append_drop k c]
  unfold sumC
  rw [List.map_append, List.sum_append]
  omega
theorem sumC_get (c : List Lt) (k : Nat) (h : k < c.length) : sumC (c.take k) + wC (c.getD k lt0) ≤ sumC c := by
  rw [← sumC_take c k h]; exact sumC_le _ _
theorem sumC_len (c : List Lt) : c.length ≤ sumC c := by
  induction c with
  | nil => simp [sumC]
  | cons x r ih => simp only [sumC, List.map_cons, List.sum_cons, List.length_cons, wC] at *; omega
def shortC (c : List Lt) : Prop := c.length ≤ 1048576 ∧ ∀ j, j < c.length → (c.getD j lt0).2.1.length ≤ 1048576 ∧ (c.getD j lt0).2.2.length ≤ 1048576
theorem shortC_of_sum {c : List Lt} (h : sumC c ≤ 1048576) : shortC c := by
  have := sumC_len c
  refine ⟨by omega, fun j hj => ?_⟩
  have := sumC_get c j hj
  unfold wC at this
  omega
/-- Its terms, literal by literal. -/
def flatC (c : List Lt) : List (List Int) := c.flatMap fun x => [x.2.1, x.2.2]
theorem flatC_nil : flatC [] = [] := rfl
theorem flatC_cons (x : Lt) (c : List Lt) : flatC (x :: c) = x.2.1 :: x.2.2 :: flatC c := rfl
theorem flatC_len (c : List Lt) : (flatC c).length = 2 * c.length := by
  induction c with
  | nil => rfl
  | cons x r ih => rw [flatC_cons]; simp [ih]; omega
theorem flatC_app (c d : List Lt) : flatC (c ++ d) = flatC c ++ flatC d := by simp [flatC]
theorem flatC_get (c : List Lt) (j : Nat) : (flatC c).getD (2*j) [] = (c.getD j lt0).2.1 ∧ (flatC c).getD (2*j+1) [] = (c.getD j lt0).2.2 := by
  induction c generalizing j with
  | nil => simp [flatC, lt0]
  | cons x r ih =>
    cases j with
    | zero => simp [flatC_cons]
    | succ j =>
      rw [flatC_cons, show 2 * (j+1) = (2*j+1) + 1 from by omega]
      simpa [List.getD] using ih j

def marksC (k : Nat) : List Lt → List Lt
  | [] => []
  | x :: r => (decide (k % 3 = 0), marks (k+1) x.2.1.length, marks (k+1+x.2.1.length) x.2.2.length) :: marksC (k + wC x) r
theorem marksC_len (k : Nat) (c : List Lt) : (marksC k c).length = c.length := by
  induction c generalizing k with
  | nil => rfl
  | cons x r ih => simp [marksC, ih]
theorem marksC_app (k : Nat) (c d : List Lt) : marksC k (c ++ d) = marksC k c ++ marksC (k + sumC c) d := by
  induction c generalizing k with
  | nil => simp [marksC, sumC]
  | cons x r ih => simp [marksC, ih, sumC, Nat.add_assoc]
def mark1 (k : Nat) (x : Lt) : Lt := (decide (k % 3 = 0), marks (k+1) x.2.1.length, marks (k+1+x.2.1.length) x.2.2.length)
theorem marksC_get (k : Nat) (c : List Lt) (j : Nat) (h : j < c.length) : (marksC k c).getD j lt0 = mark1 (k + sumC (c.take j)) (c.getD j lt0) := by
  conv => lhs; rw [← List.take_append_drop j c, marksC_app, List.drop_eq_getElem_cons h]
  have hl : (marksC k (c.take j)).length = j := by rw [marksC_len, List.length_take]; omega
  simp only [List.getD]
  rw [List.getElem?_append_right (by omega), hl, Nat.sub_self]
  simp [marksC, mark1, h]
/-- The first j are marked. -/
def markedC (c : List Lt) (k j : Nat) : List Lt := marksC k (c.take j) ++ c.drop j
theorem markedC_zero (c : List Lt) (k : Nat) : markedC c k 0 = c := by simp [markedC, marksC]
theorem markedC_len (c : List Lt) (k j : Nat) (h : j ≤ c.length) : (markedC c k j).length = c.length := by simp [markedC, marksC_len]; omega
theorem markedC_all (c : List Lt) (k j : Nat) (h : ¬ j < c.length) : markedC c k j = marksC k c := by
  unfold markedC
  rw [List.take_of_length_le (by omega), List.drop_eq_nil_of_le (by omega), List.append_nil]
theorem markedC_get (c : List Lt) (k j : Nat) (h : j < c.length) : (markedC c k j).getD j lt0 = c.getD j lt0 := by
  have hl : (marksC k (c.take j)).length = j := by rw [marksC_len, List.length_take]; omega
  unfold markedC
  simp only [List.getD]
  rw [List.getElem?_append_right (by omega), hl, Nat.sub_self]
  simp
theorem markedC_succ (c : List Lt) (k j : Nat) (h : j < c.length) : (markedC c k j).set j (mark1 (k + sumC (c.take j)) (c.getD j lt0)) = markedC c k (j+1) := by
  have hl : (marksC k (c.take j)).length = j := by rw [marksC_len, List.length_take]; omega
  unfold markedC
  rw [List.set_append_right _ _ (by omega), hl, Nat.sub_self, List.drop_eq_getElem_cons h, List.set_cons_zero, List.take_succ_eq_append_getElem h, marksC_app]
  simp [marksC, mark1, List.getD, h]

/-- The slice value v holds literals. -/
def SlC (lo hi : Nat) (w : World) (v : Value) (c : List Lt) : Prop :=
  ∃ ad cap, v = .slice ad c.length cap ∧ c.length ≤ cap ∧ (cap ≤ maxLen ∧ (ad = none → cap = 0)) ∧
    (0 < c.length → ∃ b off, ad = some ⟨b, off, none⟩ ∧ lo ≤ b ∧ b < hi ∧ ∀ j, j < c.length → ∃ u1 u2, w.cell? ⟨b, off + j * 3, none⟩ = some (.bool (c.getD j lt0).1) ∧ w.cell? ⟨b, off + j * 3 + 1, none⟩ = some u1 ∧ w.cell? ⟨b, off + j * 3 + 2, none⟩ = some u2 ∧ SlI lo hi w u1 (c.getD j lt0).2.1 ∧ SlI lo hi w u2 (c.getD j lt0).2.2)
theorem SlC.form {lo hi w v c} (h : SlC lo hi w v c) : ∃ ad k, v = .slice ad c.length k := by obtain ⟨ad, k, h, _⟩ := h; exact ⟨ad, k, h⟩
theorem SlC.mono {lo hi lo' hi' w v c} (h : SlC lo hi w v c) (h1 : lo' ≤ lo) (h2 : hi ≤ hi') : SlC lo' hi' w v c := by
  obtain ⟨ad, cap, rfl, hc, hm, hr⟩ := h
  refine ⟨ad, cap, rfl, hc, hm, fun hp => ?_⟩
  obtain ⟨b, off, e, a1, a2, a3⟩ := hr hp
  refine ⟨b, off, e, by omega, by omega, fun j hj => ?_⟩
  obtain ⟨u1, u2, c1, c2, c3, s1, s2⟩ := a3 j hj
  exact ⟨u1, u2, c1, c2, c3, s1.mono h1 h2, s2.mono h1 h2⟩
theorem cell_same {w w' : World} {a : Addr} {v : Value} (hs : a.block < w.heap.size → w'.heap[a.block]? = w.heap[a.block]?) (h : w.cell? a = some v) : w'.cell? a = some v := by
  rw [World.cell?_of_block (w := w) (a := a) (hs (World.block_lt_of_cell? w a h))]; exact h
theorem SlC.same {lo hi w w' v c} (h : SlC lo hi w v c) (hs : ∀ b, lo ≤ b → b < hi → b < w.heap.size → w'.heap[b]? = w.heap[b]?) : SlC lo hi w' v c := by
  obtain ⟨ad, cap, rfl, hc, hm, hr⟩ := h
  refine ⟨ad, cap, rfl, hc, hm, fun hp => ?_⟩
  obtain ⟨b, off, e, a1, a2, a3⟩ := hr hp
  refine ⟨b, off, e, a1, a2, fun j hj => ?_⟩
  obtain ⟨u1, u2, c1, c2, c3, s1, s2⟩ := a3 j hj
  exact ⟨u1, u2, cell_same (hs b a1 a2) c1, cell_same (hs b a1 a2) c2, cell_same (hs b a1 a2) c3, s1.same hs, s2.same hs⟩
theorem SlC.below {lo hi w w' v c} (h : SlC lo hi w v c) (hb : Bel w w') : SlC lo hi w' v c := h.same fun b _ _ h3 => hb.block b h3
theorem SlC.alloc {lo hi w v c} (h : SlC lo hi w v c) (o : Obj) : SlC lo hi (w.alloc o) v c := h.below (Bel.alloc0 w o)
theorem SlC.k {lo hi w v c} (h : SlC lo hi w v c) : K (fun w => SlC lo hi w v c) w := fun _ hb => h.below hb
theorem SlC.chg {lo hi lo' hi' w w' v c} (h : SlC lo hi w v c) (k : Chg lo' hi' w w') (hd : hi ≤ lo' ∨ hi' ≤ lo) : SlC lo hi w' v c :=
  h.same fun b h1 h2 h3 => k.block b h3 (by omega)
theorem SlC.nil (lo hi : Nat) (w : World) : SlC lo hi w (.slice none 0 0) [] := ⟨none, 0, rfl, Nat.le_refl _, ⟨Nat.zero_le _, fun _ => rfl⟩, fun h => absurd h (by simp)⟩
theorem SlC.len {lo hi : Nat} {w : World} {ad : Option Addr} {k n : Nat} {c : List Lt} (h : SlC lo hi w (.slice ad n k) c) : n = c.length := by
  obtain ⟨ad', cap, e, _⟩ := h
  simp only [Value.slice.injEq] at e
  exact e.2.1
/-- Reading the j-th. -/
theorem SlC.at {lo hi : Nat} {w wr : World} {ad : Option Addr} {k n : Nat} {c : List Lt} (h : SlC lo hi w (.slice ad n k) c) (hb : Bel w wr) (j : Nat) (hj : j < c.length) :
    ∃ b off u1 u2, ad = some ⟨b, off, none⟩ ∧ b < w.heap.size ∧ wr.cell? ⟨b, off + j * 3, none⟩ = some (.bool (c.getD j lt0).1) ∧ wr.cell? ⟨b, off + j * 3 + 1, none⟩ = some u1 ∧ wr.cell? ⟨b, off + j * 3 + 2, none⟩ = some u2 ∧ SlI lo hi wr u1 (c.getD j lt0).2.1 ∧ SlI lo hi wr u2 (c.getD j lt0).2.2 := by
  obtain ⟨ad', cap, e, _, _, hr⟩ := h
  obtain ⟨b, off, e2, _, _, hc⟩ := hr (by omega)
  obtain ⟨u1, u2, c1, c2, c3, s1, s2⟩ := hc j hj
  have h1 := World.block_lt_of_cell? w ⟨b, off + j * 3, none⟩ c1
  simp only [Value.slice.injEq] at e
  exact ⟨b, off, u1, u2, e.1.trans e2, h1, cell_same (fun h => hb.block b h) c1, cell_same (fun h => hb.block b h) c2, cell_same (fun h => hb.block b h) c3, s1.below hb, s2.below hb⟩

/-- A literal's three cells. -/
abbrev LV := Bool × Value × Value
def cellsC (zs : List LV) : List Value := zs.flatMap fun z => [.bool z.1, z.2.1, z.2.2]
def rowsC (zs : List LV) : List Value := zs.flatMap fun z => [z.2.1, z.2.2]
theorem cellsC_len (zs : List LV) : (cellsC zs).length = zs.length * 3 := by
  induction zs with
  | nil => rfl
  | cons x r ih => show (_ :: _ :: _ :: cellsC r).length = _; simp [ih]; omega
theorem rowsC_len (zs : List LV) : (rowsC zs).length = 2 * zs.length := by
  induction zs with
  | nil => rfl
  | cons x r ih => show (_ :: _ :: rowsC r).length = _; simp [ih]; omega
theorem cellsC_get (zs : List LV) (j : Nat) (z : LV) (h : zs[j]? = some z) : (cellsC zs)[j * 3]? = some (.bool z.1) ∧ (cellsC zs)[j * 3 + 1]? = some z.2.1 ∧ (cellsC zs)[j * 3 + 2]? = some z.2.2 := by
  induction zs generalizing j with
  | nil => simp at h
  | cons x r ih =>
    have e : cellsC (x :: r) = .bool x.1 :: x.2.1 :: x.2.2 :: cellsC r := rfl
    cases j with
    | zero => simp at h; subst h; rw [e]; simp
    | succ j =>
      rw [e, show (j + 1) * 3 = j * 3 + 1 + 1 + 1 from by omega]
      simpa using ih j (by simpa using h)
theorem rowsC_get (zs : List LV) (j : Nat) (z : LV) (h : zs[j]? = some z) : (rowsC zs)[2 * j]? = some z.2.1 ∧ (rowsC zs)[2 * j + 1]? = some z.2.2 := by
  induction zs generalizing j with
  | nil => simp at h
  | cons x r ih =>
    have e : rowsC (x :: r) = x.2.1 :: x.2.2 :: rowsC r := rfl
    cases j with
    | zero => simp at h; subst h; rw [e]; simp
    | succ j =>
      rw [e, show 2 * (j + 1) = 2 * j + 1 + 1 from by omega]
      simpa using ih j (by simpa using h)
theorem rowsC_app (zs ys : List LV) : rowsC (zs ++ ys) = rowsC zs ++ rowsC ys := by simp [rowsC]
theorem cellsC_app (zs ys : List LV) : cellsC (zs ++ ys) = cellsC zs ++ cellsC ys := by simp [cellsC]
theorem cellsC_one (zs : List LV) (h : ∀ z ∈ zs, z.2.1.oneCell' = true ∧ z.2.2.oneCell' = true) : ∀ u ∈ cellsC zs, u.oneCell' = true := by
  intro u hu
  obtain ⟨z, hz, hm⟩ := List.mem_flatMap.1 hu
  have := h z hz
  simp at hm
  rcases hm with rfl | rfl | rfl
  · rfl
  · exact this.1
  · exact this.2

/-- Literals of the call's own, each term in a block of its own. -/
def OwnC (lo hi : Nat) (w : World) (v : Value) (c : List Lt) : Prop :=
  ∃ ad cap, v = .slice ad c.length cap ∧ c.length ≤ cap ∧ (cap ≤ maxLen ∧ (ad = none → cap = 0)) ∧
    (0 < c.length → ∃ b off zs bs, ad = some ⟨b, off, none⟩ ∧ lo ≤ b ∧ b < hi ∧ zs.length = c.length ∧
      (∀ j z, zs[j]? = some z → z.1 = (c.getD j lt0).1 ∧ w.cell? ⟨b, off + j * 3, none⟩ = some (.bool z.1) ∧ w.cell? ⟨b, off + j * 3 + 1, none⟩ = some z.2.1 ∧ w.cell? ⟨b, off + j * 3 + 2, none⟩ = some z.2.2) ∧
      (∀ i, w.frozen? ⟨b, i, none⟩ = false) ∧ Ins lo hi b w (rowsC zs) (flatC c) bs)
theorem OwnC.sl {lo hi w v c} (h : OwnC lo hi w v c) : SlC lo hi w v c := by
  obtain ⟨ad, cap, rfl, hc, hm, hr⟩ := h
  refine ⟨ad, cap, rfl, hc, hm, fun hp => ?_⟩
  obtain ⟨b, off, zs, bs, e, a1, a2, hl, a3, _, hi⟩ := hr hp
  refine ⟨b, off, e, a1, a2, fun j hj => ?_⟩
  have hz : zs[j]? = some zs[j] := List.getElem?_eq_getElem (by omega)
  obtain ⟨e1, c1, c2, c3⟩ := a3 j _ hz
  obtain ⟨r1, r2⟩ := rowsC_get zs j _ hz
  have s1 := hi.sl _ _ r1
  have s2 := hi.sl _ _ r2
  rw [(flatC_get c j).1] at s1
  rw [(flatC_get c j).2] at s2
  exact ⟨_, _, by rw [← e1]; exact c1, c2, c3, s1, s2⟩
theorem OwnC.same {lo hi w w' v c} (h : OwnC lo hi w v c) (hs : ∀ b, lo ≤ b → b < hi → b < w.heap.size → w'.heap[b]? = w.heap[b]?) : OwnC lo hi w' v c := by
  obtain ⟨ad, cap, rfl, hc, hm, hr⟩ := h
  refine ⟨ad, cap, rfl, hc, hm, fun hp => ?_⟩
  obtain ⟨b, off, zs, bs, e, a1, a2, hl, a3, hf, hi⟩ := hr hp
  have hb : b < w.heap.size := by
    have hz : zs[0]? = some zs[0] := List.getElem?_eq_getElem (by omega)
    exact World.block_lt_of_cell? w ⟨b, off + 0 * 3, none⟩ (a3 0 _ hz).2.1
  refine ⟨b, off, zs, bs, e, a1, a2, hl, fun j z hz => ?_, fun i => ?_, hi.same hs⟩
  · obtain ⟨e1, c1, c2, c3⟩ := a3 j z hz
    exact ⟨e1, cell_same (hs b a1 a2) c1, cell_same (hs b a1 a2) c2, cell_same (hs b a1 a2) c3⟩
  · rw [World.frozen?_of_block (w := w) (a := ⟨b, i, none⟩) (hs b a1 a2 hb)]; exact hf i
theorem OwnC.below {lo hi w w' v c} (h : OwnC lo hi w v c) (hb : Bel w w') : OwnC lo hi w' v c := h.same fun b _ _ h3 => hb.block b h3
theorem OwnC.alloc {lo hi w v c} (h : OwnC lo hi w v c) (o : Obj) : OwnC lo hi (w.alloc o) v c := h.below (Bel.alloc0 w o)
theorem OwnC.k {lo hi w v c} (h : OwnC lo hi w v c) : K (fun w => OwnC lo hi w v c) w := fun _ hb => h.below hb
theorem OwnC.chg {lo hi lo' hi' w w' v c} (h : OwnC lo hi w v c) (k : Chg lo' hi' w w') (hd : hi ≤ lo' ∨ hi' ≤ lo) : OwnC lo hi w' v c :=
  h.same fun b h1 h2 h3 => k.block b h3 (by omega)
theorem OwnC.mono {lo hi lo' hi' w v c} (h : OwnC lo hi w v c) (h1 : lo' ≤ lo) (h2 : hi ≤ hi') : OwnC lo' hi' w v c := by
  obtain ⟨ad, cap, rfl, hc, hm, hr⟩ := h
  refine ⟨ad, cap, rfl, hc, hm, fun hp => ?_⟩
  obtain ⟨b, off, zs, bs, e, a1, a2, hl, a3, hf, hi⟩ := hr hp
  exact ⟨b, off, zs, bs, e, by omega, by omega, hl, a3, hf, hi.mono h1 h2⟩
theorem OwnC.nil (lo hi : Nat) (w : World) : OwnC lo hi w (.slice none 0 0) [] := ⟨none, 0, rfl, Nat.le_refl _, ⟨Nat.zero_le _, fun _ => rfl⟩, fun h => absurd h (by simp)⟩
/-- A row that the call itself made, as a slice of literals. -/
theorem OwnC.of_row {w : World} {base e hi : Nat} {v : Value} {zs : List LV} {c : List Lt} {bs : Nat → Nat} (h : w.ownsRow base e 3 v c.length (cellsC zs)) (hi' : w.heap.size ≤ hi)
    (hp : zs.map (·.1) = c.map (·.1)) (hin : ∀ g, v.ownBlock = some g → Ins base hi g w (rowsC zs) (flatC c) bs) : OwnC base hi w v c := by
  have h0 := h
  have hzl : zs.length = c.length := by simpa using congrArg List.length hp
  obtain ⟨h1, h2⟩ := h
  rcases h2 with ⟨rfl, hn⟩ | ⟨g, cap, cur, rfl, hg, hh, hn, hc, hs, ht⟩
  · obtain rfl : c = [] := List.length_eq_zero_iff.1 hn
    exact OwnC.nil _ _ _
  · have hgs : g < w.heap.size := (Array.getElem?_eq_some_iff.1 hh).1
    refine ⟨_, cap, rfl, hn, ⟨hc, fun h => by simp at h⟩, fun _ => ⟨g, 0, zs, bs, rfl, hg, by omega, hzl, fun j z hz => ?_, fun i => ?_, hin g rfl⟩⟩
    · have hj : j < zs.length := (List.getElem?_eq_some_iff.1 hz).1
      obtain ⟨c1, c2, c3⟩ := cellsC_get zs j z hz
      have hcell : ∀ i, i < c.length * 3 → w.cell? ⟨g, 0 + i, none⟩ = (cellsC zs)[i]? := fun i hi => by rw [Nat.zero_add]; exact h0.cellAt i hi
      refine ⟨?_, by rw [hcell _ (by omega)]; exact c1, by rw [Nat.add_assoc, hcell _ (by omega)]; exact c2, by rw [Nat.add_assoc, hcell _ (by omega)]; exact c3⟩
      have := congrArg (fun l => l[j]?) hp
      simp only [List.getElem?_map, hz, Option.map_some] at this
      rw [List.getD_eq_getElem?_getD]
      cases hcj : c[j]? with
      | none => rw [hcj] at this; simp at this
      | some y => rw [hcj] at this; simpa using this
    · simp [World.frozen?, hh]
def RetC (w : World) (c : List Lt) (e : Ending) (w' : World) : Prop := ∃ ad n k, e = .returned (.slice ad n k) ∧ OwnC w.heap.size w'.heap.size w' (.slice ad n k) c ∧ Bel w w'
def RetCB (w : World) (c : List Lt) (ok : Bool) (e : Ending) (w' : World) : Prop := ∃ ad n k, e = .returned (.tuple #[.slice ad n k, .bool ok]) ∧ OwnC w.heap.size w'.heap.size w' (.slice ad n k) c ∧ Bel w w'
end Go.Proofs.Yteegjnobmbcjiaa
end
section
/- Lists of terms that are valid: both functions; the reference's also at signs that are not. -/
namespace Go.Proofs.Yteegjnobmbcjiaa
open Go.RowKit

def goodTerms (ar : List Int) (b : List (List Int)) (m : Nat) : Bool := goodSign ar && decide (b.length ≤ m) && b.all (okTerm ar)
theorem goodTerms_iff {ar : List Int} {b : List (List Int)} {m : Nat} : goodTerms ar b m = true ↔ goodSign ar = true ∧ b.length ≤ m ∧ ∀ t ∈ b, okTerm ar t = true := by
  simp only [goodTerms, Bool.and_eq_true, decide_eq_true_eq, List.all_eq_true]
  constructor
  · rintro ⟨⟨h1, h2⟩, h3⟩; exact ⟨h1, h2, h3⟩
  · rintro ⟨h1, h2, h3⟩; exact ⟨⟨h1, h2⟩, h3⟩

set_option maxRecDepth 100000 in
set_option maxHeartbeats 400000 in
theorem goodTerms_c (l h l' h' : Nat) (v u : Value) (ar : List Int) (b : List (List Int)) (m : Nat) (w : World) (hmm : m ≤ 1000) (ha : ar.length ≤ 1048576) (hv : SlI l h w v ar) (hb : short b) (hu : SlS l' h' w u b) :
    Calls Try.prog 74 #[.agg #[v], u, .int .i64 m] w (RetV w (.bool (goodTerms ar b m))) := by
  obtain ⟨ad', cap', rfl⟩ := hu.form
  obtain ⟨-, hm⟩ := hb
  by_cases hl : b.length ≤ m
  · have hl2 : decide (m < b.length) = false := by simp; omega
    cases hs : goodSign ar with
    | false =>
      have E : Hid (goodTerms ar b m = false) := by show _ = _; simp [goodTerms, hs]
      have HS := Lib.hid hs; clear hs
      go_enter Try.func74, Try.ntmps74
      go_wp2_with fail
      refine (iGoodSign_v _ _ _ _ _ _ HS.out ha (hv.alloc _)).mono ?_; rintro e w' ⟨rfl, hb1⟩
      go_wp2_with fail
      go_ret
      exact ⟨by rw [E.out]; rfl, hb1.of_alloc⟩
    | true =>
      have hG : Hid (goodTerms ar b m = b.all (okTerm ar)) := by show _ = _; simp [goodTerms, hs, hl]
      have hg := hs
      have HS := Lib.hid hs; clear hs
      go_enter Try.func74, Try.ntmps74
      go_wp2_with fail
      refine (iGoodSign_v _ _ _ _ _ _ HS.out ha (hv.alloc _)).mono ?_; rintro e w1 ⟨rfl, hb1⟩
      have hbox := boxc hb1 0 _ rfl
      go_wp2_with fail
      go_loopw [20] (fun i wr => ∃ k : Nat, k ≤ b.length ∧ i = .int .i64 k ∧ (b.take k).all (okTerm ar) = true ∧ Bel (w.alloc (.cells #[v] 30)) wr) (fun i _ => b.length - (intOf i).toNat)
      case atStart => exact ⟨0, Nat.zero_le _, rfl, rfl, hb1⟩
      case round =>
        obtain ⟨k, hk, rfl, hall, hb2⟩ := hrel
        have hbox2 := boxc hb2 0 _ rfl
        by_cases hlt : k < b.length
        · obtain ⟨bb, off, p, rfl, -, hc, hp⟩ := hu.at hb2.of_alloc k hlt
          have hmk := hm k hlt
          have hsp := all_splitS b (okTerm ar) k hlt hall
          have hfs := all_falseS b (okTerm ar) k hlt
          clear hm hu hbox hall
          generalize b.getD k [] = t at *
          obtain ⟨ap, cp, rfl⟩ := hp.form
          cases ht : okTerm ar t with
          | false =>
            have E : Hid (goodTerms ar b m = false) := by show _ = _; rw [hG.out]; exact hfs ht
            have HT := Lib.hid ht
            clear ht hsp hfs
            go_wp2_with fail
            refine (iGoodTerm_vv _ _ _ _ _ _ _ _ _ _ HT.out hg ha (by omega) (hv.below hb2.of_alloc) hp).mono ?_; rintro e w2 ⟨rfl, hb3⟩
            go_wp2_with fail
            go_ret
            exact ⟨by rw [E.out]; rfl, hb2.of_alloc.step hb3⟩
          | true =>
            have HA := Lib.hid (hsp.trans ht)
            have HT := Lib.hid ht
            clear ht hsp hfs
            go_wp2_with fail
            refine (iGoodTerm_vv _ _ _ _ _ _ _ _ _ _ HT.out hg ha (by omega) (hv.below hb2.of_alloc) hp).mono ?_; rintro e w2 ⟨rfl, hb3⟩
            go_wp2_with fail
            go_roundw
            case rel => exact ⟨k+1, by omega, by go_num, HA.out, hb2.step hb3⟩
            case measure => simp [intOf]; omega
        · have E : Hid (goodTerms ar b m = true) := by show _ = _; rw [hG.out]; exact all_doneS b _ k hk hlt hall
          clear hall
          go_wp2_with fail
          go_ret
          exact ⟨by rw [E.out]; rfl, hb2.of_alloc⟩
  · have E : Hid (goodTerms ar b m = false) := by show _ = _; simp [goodTerms, hl]
    have hl2 : decide (m < b.length) = true := by simp; omega
    go_enter Try.func74, Try.ntmps74
    go_wp2_with fail
    go_ret
    exact ⟨by rw [E.out]; rfl, Bel.alloc0 _ _⟩
theorem goodTerms_v (l h l' h' : Nat) (v u : Value) (ar : List Int) (b : List (List Int)) (m : Nat) (q : Bool) (w : World) (he : goodTerms ar b m = q) (hmm : m ≤ 1000) (ha : ar.length ≤ 1048576) (hv : SlI l h w v ar) (hb : short b) (hu : SlS l' h' w u b) :
    Calls Try.prog 74 #[.agg #[v], u, .int .i64 m] w (RetV w (.bool q)) := he ▸ goodTerms_c l h l' h' v u ar b m w hmm ha hv hb hu

/-- Whatever the sign: an answer comes. -/
def RetN (w : World) (e : Ending) (w' : World) : Prop := ∃ x : Int, e = .returned (.int .i64 x) ∧ Bel w w'
def RetB (w : World) (e : Ending) (w' : World) : Prop := ∃ b, e = .returned (.bool b) ∧ Bel w w'
theorem l1End_any (l h l' h' : Nat) (v u : Value) (ar t : List Int) (w : World) (ha : ar.length ≤ 1048576) (ht : t.length ≤ 1048576) (hv : SlI l h w v ar) (hu : SlI l' h' w u t) :
    Calls Try.prog 141 #[.agg #[v], u, .int .i64 0] w (RetN w) := by
  obtain ⟨ad, cap, rfl, -, -, hr⟩ := hv
  obtain ⟨ad', cap', rfl, -, -, hr'⟩ := hu
  go_enter Try.func141, Try.ntmps141
  go_wp2_with fail
  go_loopw [2, 7] (fun a n wr => ∃ (p : Nat) (m : Int), p ≤ t.length ∧ a = .int .i64 p ∧ n = .int .i64 m ∧ Bel (w.alloc (.cells #[.slice ad ar.length cap] 30)) wr) (fun a _ _ => t.length + 1 - (intOf a).toNat)
  case atStart => exact ⟨0, 1, Nat.zero_le _, rfl, rfl, Bel.rfl' _⟩
  case round =>
    obtain ⟨p, m, hp, rfl, rfl, hb⟩ := hrel
    have hbox := boxc hb 0 _ rfl
    by_cases hm : 0 < m
    · have hm1 : decide (m > 0) = true := by simpa using hm
      by_cases hlt : p < t.length
      · obtain ⟨b', off', rfl, -, hcell'⟩ := rd hr' hb.of_alloc p hlt
        clear hr'
        generalize t.getD p 0 = x at *
        have hw1 := IntWalk.i64_in ((ar.length : Int) - 1) (by omega)
        cases hs : inB x (-12) ((ar.length : Int) - 1) with
        | false =>
          have HS := Lib.hid hs; clear hs
          go_wp2_with fail
          go_quiet ((go_at_call 104; exact Calls.quiet_of_same (l1In_qv _ _ _ _ HS.out _)))
          go_wp2
          go_ret
          exact ⟨_, rfl, hb.of_alloc.drewN _⟩
        | true =>
          have HS := Lib.hid hs
          by_cases hx : x < 0
          · clear hs
            have hx' : decide (x ≥ 0) = false := by simp; omega
            go_wp2_with fail
            go_quiet ((go_at_call 104; exact Calls.quiet_of_same (l1In_qv _ _ _ _ HS.out _)))
            go_wp2
            go_roundw
            case rel => exact ⟨p+1, _, by omega, by go_num, rfl, hb.drewN _⟩
            case measure => simp [intOf]; omega
          · obtain ⟨k, rfl⟩ : ∃ k : Nat, x = k := ⟨x.toNat, by omega⟩
            have hk : k < ar.length := by simp [inB] at hs; omega
            clear hs
            obtain ⟨b, off, rfl, -, hcell⟩ := rd hr hb.of_alloc k hk
            clear hr
            generalize ar.getD k 0 = q at *
            have hk2 : (k : Int) < ar.length := by omega
            go_wp2_with fail
            go_quiet ((go_at_call 104; exact Calls.quiet_of_same (l1In_qv _ _ _ _ HS.out _)))
            go_wp2
            go_quiet (fail)
            go_wp2
            go_roundw
            case rel => exact ⟨p+1, _, by omega, by go_num, rfl, hb.drewN _⟩
            case measure => simp [intOf]; omega
      · have hge : decide ((p : Int) ≥ t.length) = true := by simp; omega
        go_wp2_with fail
        go_quiet (fail)
        go_wp2
        go_ret
        exact ⟨_, rfl, hb.of_alloc.drewN _⟩
    · have hm1 : decide (m > 0) = false := by simpa using hm
      go_wp2_with fail
      go_ret
      exact ⟨_, rfl, hb.of_alloc⟩
theorem l1Term_any (l h l' h' : Nat) (v u : Value) (ar t : List Int) (w : World) (ha : ar.length ≤ 1048576) (ht : t.length ≤ 1048576) (hv : SlI l h w v ar) (hu : SlI l' h' w u t) :
    Calls Try.prog 95 #[.agg #[v], u] w (RetB w) := by
  have hu0 := hu
  obtain ⟨ad', cap', rfl⟩ := hu.form
  cases hs : inB t.length 1 40 with
  | false =>
    have HS := Lib.hid hs; clear hs
    go_enter Try.func95, Try.ntmps95
    go_wp2_with (go_at_call 104; refine (l1In_f _ _ _ _ HS.out).mono ?_; rintro e w' ⟨rfl, hb1⟩)
    go_ret
    exact ⟨_, rfl, hb1.of_alloc⟩
  | true =>
    have HS := Lib.hid hs; clear hs
    go_enter Try.func95, Try.ntmps95
    go_wp2_with fail
    refine (l1In_t _ _ _ _ HS.out).mono ?_; rintro e w' ⟨rfl, hb1⟩
    have hx1 := boxc hb1 0 _ rfl
    go_wp2_with fail
    refine (l1End_any _ _ _ _ _ _ ar t _ ha ht (hv.below hb1.of_alloc) (hu0.below hb1.of_alloc)).mono ?_; rintro e w2 ⟨x, rfl, hb2⟩
    go_wp2_with fail
    go_ret
    exact ⟨_, rfl, hb1.of_alloc.step hb2⟩

end Go.Proofs.Yteegjnobmbcjiaa
end
section
/- Apply, IsUnifier: both functions. -/
namespace Go.Proofs.Yteegjnobmbcjiaa
open Go.RowKit

def unifAns (ar : List Int) (b : List (List Int)) (t r : List Int) : Bool := applyOk ar b t && applyOk ar b r && decide (applyAns ar b t = applyAns ar b r)

set_option maxRecDepth 100000 in
set_option maxHeartbeats 400000 in
theorem iApply_t {l h l' h' l2 h2 : Nat} {v u x : Value} {ar : List Int} {b : List (List Int)} {t : List Int} {w : World} (ha : ar.length ≤ 1048576) (hv : SlI l h w v ar) (hb : short b) (hu : SlS l' h' w u b) (ht : t.length ≤ 1048576) (hx : SlI l2 h2 w x t) :
    Calls Try.prog 45 #[.agg #[v], u, x] w (RetIB w (applyAns ar b t) (applyOk ar b t)) := by
  cases hs : goodSubst ar b with
  | false =>
    have E := Lib.hid (applyAns_no (show applyOk ar b t = false by simp [applyOk, hs]))
    have E2 : Hid (applyOk ar b t = false) := by show _ = _; simp [applyOk, hs]
    have HS := Lib.hid hs; clear hs
    go_enter Try.func45, Try.ntmps45
    go_wp2_with fail
    refine (iGoodSubst_v _ _ _ _ _ _ _ _ _ _ HS.out ha (hv.alloc _) hb (hu.alloc _)).mono ?_; rintro e w1 ⟨rfl, hb1⟩
    go_wp2_with fail
    go_ret2
    exact ⟨_, _, _, by rw [E2.out]; rfl, by rw [E.out]; exact OwnI.nil _ _ _, hb1.of_alloc⟩
  | true =>
    have hg := (goodSubst_iff.1 hs).1
    cases htt : okTerm ar t with
    | false =>
      have E := Lib.hid (applyAns_no (show applyOk ar b t = false by simp [applyOk, htt]))
      have E2 : Hid (applyOk ar b t = false) := by show _ = _; simp [applyOk, htt]
      have HS := Lib.hid hs
      have HT := Lib.hid htt
      clear hs htt
      go_enter Try.func45, Try.ntmps45
      go_wp2_with fail
      refine (iGoodSubst_v _ _ _ _ _ _ _ _ _ _ HS.out ha (hv.alloc _) hb (hu.alloc _)).mono ?_; rintro e w1 ⟨rfl, hb1⟩
      have hx1 := boxc hb1 0 _ rfl
      go_wp2_with fail
      refine (iGoodTerm_vv _ _ _ _ _ _ _ _ _ _ HT.out hg ha ht (hv.below hb1.of_alloc) (hx.below hb1.of_alloc)).mono ?_; rintro e w2 ⟨rfl, hb2⟩
      go_wp2_with fail
      go_ret2
      exact ⟨_, _, _, by rw [E2.out]; rfl, by rw [E.out]; exact OwnI.nil _ _ _, (hb1.step hb2).of_alloc⟩
    | true =>
      have hlow := okTerm_low htt
      have ht40 := ((okTerm_iff _ _).1 htt).2.1
      have h40 := goodSubst_len40 hs
      have h12 := (goodSubst_iff.1 hs).2.1
      have E2 : Hid (applyOk ar b t = app40ok b t) := by show _ = _; simp [applyOk, hs, htt]
      have E : Hid (applyAns ar b t = app40 b t) := by
        show _ = _
        have := E2.out
        unfold applyAns
        rw [this]
        unfold app40 app40ok
        by_cases h : 40 < (appT b t).length <;> simp [h]
      have HS := Lib.hid hs
      have HT := Lib.hid htt
      clear hs htt
      go_enter Try.func45, Try.ntmps45
      go_wp2_with fail
      refine (iGoodSubst_v _ _ _ _ _ _ _ _ _ _ HS.out ha (hv.alloc _) hb (hu.alloc _)).mono ?_; rintro e w1 ⟨rfl, hb1⟩
      have hx1 := boxc hb1 0 _ rfl
      go_wp2_with fail
      refine (iGoodTerm_vv _ _ _ _ _ _ _ _ _ _ HT.out hg ha ht (hv.below hb1.of_alloc) (hx.below hb1.of_alloc)).mono ?_; rintro e w2 ⟨rfl, hb2⟩
      have hb12 := hb1.step hb2
      go_wp2_with fail
      refine (applied_c _ _ _ _ _ _ b t _ h12 h40 (by omega) hlow (hu.below hb12.of_alloc) (hx.below hb12.of_alloc)).mono ?_; rintro e w3 ⟨ao, no, co, rfl, ho, hb3⟩
      go_wp2_with fail
      go_ret2
      exact ⟨_, _, _, by rw [E2.out]; rfl, by rw [E.out]; exact ho.mono (by have := hb12.size; simp at this; omega) (Nat.le_refl _), (hb12.step hb3).of_alloc⟩

end Go.Proofs.Yteegjnobmbcjiaa
end
section
/- RenameOf: both functions. -/
namespace Go.Proofs.Yteegjnobmbcjiaa
open Go.RowKit

def renameOk (ar : List Int) (b : List (List Int)) : Bool := goodSign ar && decide (b.length ≤ 20) && b.all (okTerm ar)
def renameAns (ar : List Int) (b : List (List Int)) : List (List Int) := if renameOk ar b then renS [] b else []
theorem renameAns_no {ar : List Int} {b : List (List Int)} (h : renameOk ar b = false) : renameAns ar b = [] := by simp [renameAns, h]
theorem renameAns_yes {ar : List Int} {b : List (List Int)} (h : renameOk ar b = true) : renameAns ar b = renS [] b := by simp [renameAns, h]
theorem renameOk_iff {ar : List Int} {b : List (List Int)} : renameOk ar b = true ↔ goodSign ar = true ∧ b.length ≤ 20 ∧ ∀ t ∈ b, okTerm ar t = true := by
  simp only [renameOk, Bool.and_eq_true, decide_eq_true_eq, List.all_eq_true]
  constructor
  · rintro ⟨⟨h1, h2⟩, h3⟩; exact ⟨h1, h2, h3⟩
  · rintro ⟨h1, h2, h3⟩; exact ⟨⟨h1, h2⟩, h3⟩
theorem renameOk_rows {ar : List Int} {b : List (List Int)} (h : renameOk ar b = true) : rows40 b := by
  obtain ⟨_, h2, h3⟩ := renameOk_iff.1 h
  refine ⟨h2, fun j hj => ?_⟩
  have ho := h3 (b.getD j []) (by simp [List.getD, hj])
  exact ⟨((okTerm_iff _ _).1 ho).2.1, okTerm_low ho⟩
theorem sumL_le40 (l : List (List Int)) (h : ∀ t ∈ l, t.length ≤ 40) : sumL l ≤ 40 * l.length := by
  unfold sumL
  induction l with
  | nil => simp
  | cons x r ih =>
    have h1 := ih (fun t ht => h t (List.mem_cons_of_mem _ ht))
    have h2 := h x List.mem_cons_self
    simp only [List.map_cons, List.sum_cons, List.length_cons]
    omega
theorem renS_lens (met : List Int) (l : List (List Int)) (h : ∀ t ∈ l, t.length ≤ 40) : ∀ t ∈ renS met l, t.length ≤ 40 := by
  induction l generalizing met with
  | nil => intro t ht; simp [renS] at ht
  | cons x r ih =>
    intro t ht
    simp only [renS, List.mem_cons] at ht
    rcases ht with rfl | ht
    · rw [renT_len]; exact h x List.mem_cons_self
    · exact ih _ (fun t ht => h t (List.mem_cons_of_mem _ ht)) t ht
theorem renameAns_len (ar : List Int) (b : List (List Int)) : tot (renameAns ar b) ≤ 1048576 := by
  unfold renameAns
  split
  · rename_i h
    have hr := renameOk_rows h
    have h1 := sumL_le40 _ (renS_lens [] b hr.mem)
    have h2 := hr.1
    unfold tot
    rw [renS_len] at h1 ⊢
    omega
  · simp [tot, sumL]

end Go.Proofs.Yteegjnobmbcjiaa
end
section
/- The ordering, plainly. No program. -/
namespace Go.Proofs.Yteegjnobmbcjiaa
open Go.RowKit

theorem cntI_count (t : List Int) (n : Int) : cntI t n = t.count n := by unfold cntI; rw [List.count_eq_countP, List.countP_eq_length_filter]
/-- Every variable occurs in a at least as often. -/
def covers (a b : List Int) : Bool := b.all fun n => decide (0 ≤ n) || decide (cntI b n ≤ cntI a n)
theorem covers_iff {a b : List Int} : covers a b = true ↔ ∀ n, n < 0 → b.count n ≤ a.count n := by
  unfold covers
  rw [List.all_eq_true]
  constructor
  · intro h n hn
    by_cases hm : n ∈ b
    · have := h n hm
      simp only [Bool.or_eq_true, decide_eq_true_eq, cntI_count] at this
      omega
    · rw [List.count_eq_zero_of_not_mem hm]; omega
  · intro h n _
    by_cases hn : 0 ≤ n
    · simp [hn]
    · have := h n (by omega)
      simp only [Bool.or_eq_true, decide_eq_true_eq, cntI_count]
      omega
/-- At the first difference both have symbols, and the first's is the greater one. -/
def winF : List Int → List Int → Bool
  | x :: a, y :: b => if x = y then winF a b else decide (0 ≤ y) && decide (y < x)
  | _, _ => false
theorem winF_irrefl (a : List Int) : winF a a = false := by
  induction a with
  | nil => rfl
  | cons x a ih => simp [winF, ih]
theorem winF_asymm (a b : List Int) (h : winF a b = true) : winF b a = false := by
  induction a generalizing b with
  | nil => simp [winF] at h
  | cons x a ih =>
    cases b with
    | nil => simp [winF] at h
    | cons y b =>
      unfold winF at h ⊢
      by_cases e : x = y
      · rw [if_pos e] at h; rw [if_pos e.symm]; exact ih b h
      · rw [if_neg e] at h; rw [if_neg (Ne.symm e)]
        simp only [Bool.and_eq_true, decide_eq_true_eq] at h
        simp; omega
theorem winF_trans (a b c : List Int) (h : winF a b = true) (k : winF b c = true) : winF a c = true := by
  induction a generalizing b c with
  | nil => simp [winF] at h
  | cons x a ih =>
    cases b with
    | nil => simp [winF] at h
    | cons y b =>
      cases c with
      | nil => simp [winF] at k
      | cons z c =>
        unfold winF at h k ⊢
        by_cases e : x = y
        · rw [if_pos e] at h
          by_cases e2 : y = z
          · rw [if_pos e2] at k; rw [if_pos (e.trans e2)]; exact ih b c h k
          · rw [if_neg e2] at k; rw [if_neg (by rw [e]; exact e2), e]; exact k
        · rw [if_neg e] at h
          simp only [Bool.and_eq_true, decide_eq_true_eq] at h
          by_cases e2 : y = z
          · rw [if_neg (by omega)]; simp; omega
          · rw [if_neg e2] at k
            simp only [Bool.and_eq_true, decide_eq_true_eq] at k
            rw [if_neg (by omega)]; simp; omega
theorem winF_left (p a b : List Int) : winF (p ++ a) (p ++ b) = winF a b := by
  induction p with
  | nil => rfl
  | cons x p ih => simp [winF, ih]
theorem winF_right (a b q r : List Int) (h : winF a b = true) : winF (a ++ q) (b ++ r) = true := by
  induction a generalizing b with
  | nil => simp [winF] at h
  | cons x a ih =>
    cases b with
    | nil => simp [winF] at h
    | cons y b =>
      simp only [List.cons_append]
      unfold winF at h ⊢
      by_cases e : x = y
      · rw [if_pos e] at h ⊢; exact ih b h
      · rw [if_neg e] at h ⊢; exact h
theorem winF_total (a b : List Int) (hl : a.length = b.length) (ha : ∀ n ∈ a, 0 ≤ n) (hb : ∀ n ∈ b, 0 ≤ n) (hne : a ≠ b) : winF a b = true ∨ winF b a = true := by
  induction a generalizing b with
  | nil => cases b with
    | nil => exact absurd rfl hne
    | cons y b => simp at hl
  | cons x a ih =>
    cases b with
    | nil => simp at hl
    | cons y b =>
      unfold winF
      by_cases e : x = y
      · rw [if_pos e, if_pos e.symm]
        exact ih b (by simpa using hl) (fun n h => ha n (List.mem_cons_of_mem _ h)) (fun n h => hb n (List.mem_cons_of_mem _ h)) (by rintro rfl; exact hne (by rw [e]))
      · rw [if_neg e, if_neg (Ne.symm e)]
        have h1 := ha x List.mem_cons_self
        have h2 := hb y List.mem_cons_self
        simp only [Bool.and_eq_true, decide_eq_true_eq]
        omega
theorem one1_sym0 {s : List (List Int)} {n : Int} (h : 0 ≤ n) : one1 s n = [n] := by unfold one1; rw [if_neg (by omega)]
theorem one1_posK (s : List (List Int)) (n : Int) : 1 ≤ (one1 s n).length := by
  unfold one1; split
  · rename_i h; exact h.2
  · simp
theorem winF_app (s : List (List Int)) (a b : List Int) (h : winF a b = true) : winF (appT s a) (appT s b) = true := by
  induction a generalizing b with
  | nil => simp [winF] at h
  | cons x a ih =>
    cases b with
    | nil => simp [winF] at h
    | cons y b =>
      unfold winF at h
      by_cases e : x = y
      · rw [if_pos e] at h
        have := ih b h
        unfold appT at this ⊢
        rw [List.flatMap_cons, List.flatMap_cons, e, winF_left]; exact this
      · rw [if_neg e] at h
        simp only [Bool.and_eq_true, decide_eq_true_eq] at h
        unfold appT
        rw [List.flatMap_cons, List.flatMap_cons, one1_sym0 (s := s) h.1, one1_sym0 (s := s) (n := x) (by omega)]
        simp only [List.cons_append, List.nil_append]
        unfold winF
        rw [if_neg e]; simp; omega

/-- a is greater than b. -/
def above (a b : List Int) : Bool := covers a b && (decide (b.length < a.length) || (decide (a.length = b.length) && winF a b))
theorem above_iff {a b : List Int} : above a b = true ↔ (∀ n, n < 0 → b.count n ≤ a.count n) ∧ (b.length < a.length ∨ (a.length = b.length ∧ winF a b = true)) := by
  unfold above
  simp only [Bool.and_eq_true, Bool.or_eq_true, decide_eq_true_eq, covers_iff]
theorem above_irrefl (a : List Int) : above a a = false := by
  rw [Bool.eq_false_iff]; intro h
  obtain ⟨_, h | h⟩ := above_iff.1 h
  · omega
  · rw [winF_irrefl] at h; simp at h
theorem above_asymm {a b : List Int} (h : above a b = true) : above b a = false := by
  rw [Bool.eq_false_iff]; intro k
  obtain ⟨_, h⟩ := above_iff.1 h
  obtain ⟨_, k⟩ := above_iff.1 k
  rcases h with h | ⟨h, hw⟩ <;> rcases k with k | ⟨k, kw⟩
  · omega
  · omega
  · omega
  · rw [winF_asymm _ _ hw] at kw; simp at kw
theorem above_trans {a b c : List Int} (h : above a b = true) (k : above b c = true) : above a c = true := by
  obtain ⟨h1, h⟩ := above_iff.1 h
  obtain ⟨k1, k⟩ := above_iff.1 k
  refine above_iff.2 ⟨fun n hn => Nat.le_trans (k1 n hn) (h1 n hn), ?_⟩
  rcases h with h | ⟨h, hw⟩ <;> rcases k with k | ⟨k, kw⟩
  · left; omega
  · left; omega
  · left; omega
  · exact .inr ⟨by omega, winF_trans _ _ _ hw kw⟩
theorem above_total {a b : List Int} (ha : ∀ n ∈ a, 0 ≤ n) (hb : ∀ n ∈ b, 0 ≤ n) (hne : a ≠ b) : above a b = true ∨ above b a = true := by
  have z : ∀ (l : List Int), (∀ n ∈ l, 0 ≤ n) → ∀ n, n < 0 → l.count n = 0 := fun l hl n hn => List.count_eq_zero_of_not_mem fun hm => by have := hl n hm; omega
  have c1 : ∀ n, n < 0 → b.count n ≤ a.count n := fun n hn => by rw [z b hb n hn]; omega
  have c2 : ∀ n, n < 0 → a.count n ≤ b.count n := fun n hn => by rw [z a ha n hn]; omega
  rcases Nat.lt_trichotomy a.length b.length with h | h | h
  · exact .inr (above_iff.2 ⟨c2, .inl h⟩)
  · rcases winF_total a b h ha hb hne with k | k
    · exact .inl (above_iff.2 ⟨c1, .inr ⟨h, k⟩⟩)
    · exact .inr (above_iff.2 ⟨c2, .inr ⟨h.symm, k⟩⟩)
  · exact .inl (above_iff.2 ⟨c1, .inl h⟩)
theorem above_ctx {a b : List Int} (p q : List Int) (h : above a b = true) : above (p ++ a ++ q) (p ++ b ++ q) = true := by
  obtain ⟨h1, h⟩ := above_iff.1 h
  refine above_iff.2 ⟨fun n hn => ?_, ?_⟩
  · have := h1 n hn; simp only [List.count_append]; omega
  · rcases h with h | ⟨h, hw⟩
    · left; simp only [List.length_append]; omega
    · refine .inr ⟨by simp only [List.length_append]; omega, ?_⟩
      rw [List.append_assoc, List.append_assoc, winF_left]; exact winF_right _ _ _ _ hw
theorem above_part (p u q : List Int) (h : 0 < p.length + q.length) : above (p ++ u ++ q) u = true := by
  refine above_iff.2 ⟨fun n _ => ?_, .inl ?_⟩
  · simp only [List.count_append]; omega
  · simp only [List.length_append]; omega
theorem sum_perm {a b : List Int} (g : Int → Nat) (h : a.Perm b) : (a.map g).sum = (b.map g).sum := by
  induction h with
  | nil => rfl
  | cons x _ ih => simp [ih]
  | swap x y l => simp; omega
  | trans _ _ h1 h2 => exact h1.trans h2
theorem sum_mono (g : Int → Nat) (hg : ∀ n, 0 ≤ n → g n = 0) (a b : List Int) (h : ∀ n, n < 0 → b.count n ≤ a.count n) : (b.map g).sum ≤ (a.map g).sum := by
  induction b generalizing a with
  | nil => simp
  | cons n b ih =>
    by_cases hn : 0 ≤ n
    · have := ih a (fun m hm => by have h2 := h m hm; rw [List.count_cons] at h2; omega)
      simp [hg n hn]; exact this
    · have h1 := h n (by omega)
      rw [List.count_cons_self] at h1
      have hm : n ∈ a := List.count_pos_iff.1 (by omega)
      have hp := List.perm_cons_erase hm
      rw [sum_perm g hp]
      have := ih (a.erase n) (fun m hm => by
        have h2 := h m hm
        have h3 := hp.count_eq m
        rw [List.count_cons] at h2 h3
        omega)
      simp; exact this
theorem count_app (s : List (List Int)) (a : List Int) (n : Int) (hn : n < 0) : (appT s a).count n = (a.map fun m => if m < 0 then (one1 s m).count n else 0).sum := by
  unfold appT
  induction a with
  | nil => rfl
  | cons m a ih =>
    rw [List.flatMap_cons, List.count_append, ih, List.map_cons, List.sum_cons]
    congr 1
    by_cases hm : m < 0
    · rw [if_pos hm]
    · rw [if_neg hm, one1_sym0 (by omega)]
      exact List.count_eq_zero_of_not_mem (by simp; omega)
theorem len_app (s : List (List Int)) (a : List Int) : (appT s a).length = a.length + (a.map fun m => if m < 0 then (one1 s m).length - 1 else 0).sum := by
  unfold appT
  induction a with
  | nil => rfl
  | cons m a ih =>
    rw [List.flatMap_cons, List.length_append, ih, List.map_cons, List.sum_cons, List.length_cons]
    have := one1_posK s m
    by_cases hm : m < 0
    · rw [if_pos hm]; omega
    · rw [if_neg hm, one1_sym0 (by omega)]; simp; omega
theorem above_app {a b : List Int} (s : List (List Int)) (h : above a b = true) : above (appT s a) (appT s b) = true := by
  obtain ⟨h1, h⟩ := above_iff.1 h
  have hl := sum_mono (fun m => if m < 0 then (one1 s m).length - 1 else 0) (fun n hn => by show (if _ then _ else _) = 0; rw [if_neg (by omega)]) a b h1
  have e1 := len_app s a
  have e2 := len_app s b
  refine above_iff.2 ⟨fun n hn => ?_, ?_⟩
  · rw [count_app s a n hn, count_app s b n hn]
    exact sum_mono _ (fun m hm => by show (if _ then _ else _) = 0; rw [if_neg (by omega)]) a b h1
  · by_cases hlt : (appT s b).length < (appT s a).length
    · exact .inl hlt
    · rcases h with h | ⟨h, hw⟩
      · omega
      · exact .inr ⟨by omega, winF_app s a b hw⟩

/-- How two terms compare. -/
def cmpT (a b : List Int) : Int := if a = b then 0 else if above a b then 1 else if above b a then -1 else 2
theorem cmpT_one {a b : List Int} : cmpT a b = 1 ↔ above a b = true := by
  unfold cmpT
  by_cases e : a = b
  · rw [if_pos e, e, above_irrefl]; simp
  · rw [if_neg e]
    cases h : above a b
    · cases h2 : above b a <;> simp
    · simp
theorem cmpT_zero {a b : List Int} : cmpT a b = 0 ↔ a = b := by
  unfold cmpT
  by_cases e : a = b
  · simp [e]
  · rw [if_neg e]
    cases h : above a b
    · cases h2 : above b a <;> simp [e]
    · simp [e]
theorem cmpT_neg {a b : List Int} : cmpT a b = -1 ↔ above b a = true := by
  unfold cmpT
  by_cases e : a = b
  · rw [if_pos e, e, above_irrefl]; simp
  · rw [if_neg e]
    cases h : above a b
    · cases h2 : above b a <;> simp
    · have := above_asymm h; simp [this]
theorem cmpT_two {a b : List Int} : cmpT a b = 2 ↔ a ≠ b ∧ above a b = false ∧ above b a = false := by
  unfold cmpT
  by_cases e : a = b
  · simp [e]
  · rw [if_neg e]
    cases h : above a b
    · cases h2 : above b a <;> simp [e]
    · simp
theorem cmpT_flip {a b : List Int} : (cmpT a b = 1 → cmpT b a = -1) ∧ (cmpT a b = 0 → cmpT b a = 0) ∧ (cmpT a b = 2 → cmpT b a = 2) := by
  refine ⟨fun h => cmpT_neg.2 (cmpT_one.1 h), fun h => cmpT_zero.2 (cmpT_zero.1 h).symm, fun h => ?_⟩
  obtain ⟨h1, h2, h3⟩ := cmpT_two.1 h
  exact cmpT_two.2 ⟨Ne.symm h1, h3, h2⟩

/-- What remains of a. -/
def minus (a b : List (List Int)) : List (List Int) := b.foldl List.erase a
theorem minus_nil (a : List (List Int)) : minus a [] = a := rfl
theorem minus_cons (a : List (List Int)) (t : List Int) (b : List (List Int)) : minus a (t :: b) = minus (a.erase t) b := rfl
theorem minus_count (a b : List (List Int)) (t : List Int) : (minus a b).count t = a.count t - b.count t := by
  induction b generalizing a with
  | nil => simp [minus]
  | cons y b ih =>
    rw [minus_cons, ih, List.count_erase, List.count_cons]
    by_cases e : y = t
    · simp [e]; omega
    · simp [e]
theorem minus_mem {a b : List (List Int)} {t : List Int} : t ∈ minus a b ↔ b.count t < a.count t := by
  rw [← List.count_pos_iff, minus_count]; omega
theorem minus_len (a b : List (List Int)) : (minus a b).length ≤ a.length := by
  induction b generalizing a with
  | nil => exact Nat.le_refl _
  | cons y b ih => rw [minus_cons]; exact Nat.le_trans (ih _) (List.length_erase_le)
theorem minus_sub {a b : List (List Int)} {t : List Int} (h : t ∈ minus a b) : t ∈ a := List.count_pos_iff.1 (by have := minus_mem.1 h; omega)
/-- From the front of a: what b has is left out. -/
theorem minus_front (x : List Int) (a b : List (List Int)) : minus (x :: a) b = if x ∈ b then minus a (b.erase x) else x :: minus a b := by
  induction b generalizing a with
  | nil => simp [minus]
  | cons y b ih =>
    rw [minus_cons]
    by_cases e : x = y
    · subst e; simp
    · rw [List.erase_cons_tail (by simpa using e), ih]
      have h1 : (x ∈ y :: b) ↔ x ∈ b := by simp [e]
      have h2 : (y :: b).erase x = y :: b.erase x := List.erase_cons_tail (by simpa using Ne.symm e)
      by_cases h : x ∈ b
      · rw [if_pos h, if_pos (h1.2 h), h2, minus_cons]
      · rw [if_neg h, if_neg (fun k => h (h1.1 k)), minus_cons]
theorem minus_perm {b c : List (List Int)} (h : b.Perm c) (a : List (List Int)) : minus a b = minus a c := by
  induction h generalizing a with
  | nil => rfl
  | cons x _ ih => rw [minus_cons, minus_cons, ih]
  | swap x y l => rw [minus_cons, minus_cons, minus_cons, minus_cons, List.erase_comm]
  | trans _ _ h1 h2 => exact (h1 a).trans (h2 a)

def dom (a b : List (List Int)) : Bool := b.all fun t => a.any fun u => above u t
theorem dom_iff {a b : List (List Int)} : dom a b = true ↔ ∀ t ∈ b, ∃ u ∈ a, above u t = true := by
  unfold dom; simp only [List.all_eq_true, List.any_eq_true]
/-- Some element is below none. -/
theorem top_of (l : List (List Int)) (h : l ≠ []) : ∃ m ∈ l, ∀ x ∈ l, above x m = false := by
  induction l with
  | nil => exact absurd rfl h
  | cons y l ih =>
    by_cases hl : l = []
    · subst hl
      exact ⟨y, List.mem_cons_self, fun x hx => by simp at hx; subst hx; exact above_irrefl _⟩
    · obtain ⟨m, hm, hmax⟩ := ih hl
      cases hy : above y m with
      | false => exact ⟨m, List.mem_cons_of_mem _ hm, fun x hx => by rcases List.mem_cons.1 hx with rfl | hx; exact hy; exact hmax x hx⟩
      | true =>
        refine ⟨y, List.mem_cons_self, fun x hx => ?_⟩
        rcases List.mem_cons.1 hx with rfl | hx
        · exact above_irrefl _
        · rw [Bool.eq_false_iff]; intro hxy
          have := hmax x hx
          rw [above_trans hxy hy] at this; simp at this
theorem dom_asymm {a b : List (List Int)} (ha : a ≠ []) (h : dom a b = true) : dom b a = false := by
  rw [Bool.eq_false_iff]; intro k
  obtain ⟨m, hm, hmax⟩ := top_of a ha
  obtain ⟨u, hu, h1⟩ := dom_iff.1 k m hm
  obtain ⟨x, hx, h2⟩ := dom_iff.1 h u hu
  have := hmax x hx
  rw [above_trans h2 h1] at this; simp at this
/-- How two lists compare. -/
def cmpL (a b : List (List Int)) : Int := if minus a b = [] ∧ minus b a = [] then 0 else if dom (minus a b) (minus b a) then 1 else if dom (minus b a) (minus a b) then -1 else 2
theorem cmpL_zero {a b : List (List Int)} : cmpL a b = 0 ↔ minus a b = [] ∧ minus b a = [] := by
  unfold cmpL
  by_cases e : minus a b = [] ∧ minus b a = []
  · simp [e]
  · rw [if_neg e]; simp only [e, iff_false]; split
    · omega
    · split <;> omega
theorem cmpL_one {a b : List (List Int)} : cmpL a b = 1 ↔ minus a b ≠ [] ∧ dom (minus a b) (minus b a) = true := by
  unfold cmpL
  by_cases e : minus a b = [] ∧ minus b a = []
  · rw [if_pos e]; simp [e.1]
  · rw [if_neg e]
    cases h : dom (minus a b) (minus b a)
    · simp; split <;> omega
    · simp
      intro h0
      refine e ⟨h0, ?_⟩
      rw [h0] at h
      cases h2 : minus b a with
      | nil => rfl
      | cons t r => obtain ⟨u, hu, _⟩ := dom_iff.1 h t (by rw [h2]; exact List.mem_cons_self); simp at hu
theorem cmpL_neg {a b : List (List Int)} : cmpL a b = -1 ↔ minus b a ≠ [] ∧ dom (minus b a) (minus a b) = true := by
  constructor
  · intro h
    have h1 : cmpL a b ≠ 1 := by omega
    have h0 : cmpL a b ≠ 0 := by omega
    unfold cmpL at h
    by_cases e : minus a b = [] ∧ minus b a = []
    · rw [if_pos e] at h; omega
    · rw [if_neg e] at h
      cases hd : dom (minus a b) (minus b a)
      · rw [hd] at h
        cases hd2 : dom (minus b a) (minus a b)
        · rw [hd2] at h; simp at h
        · refine ⟨fun hb => e ⟨?_, hb⟩, rfl⟩
          rw [hb] at hd2
          cases h2 : minus a b with
          | nil => rfl
          | cons t r => obtain ⟨u, hu, _⟩ := dom_iff.1 hd2 t (by rw [h2]; exact List.mem_cons_self); simp at hu
      · rw [hd] at h; simp at h
  · rintro ⟨h1, h2⟩
    have h3 := dom_asymm h1 h2
    unfold cmpL
    rw [if_neg (fun e => h1 e.2), h3, h2]; simp
theorem cmpL_flip (a b : List (List Int)) : (cmpL a b = 1 ↔ cmpL b a = -1) ∧ (cmpL a b = 0 ↔ cmpL b a = 0) := by
  refine ⟨by rw [cmpL_one, cmpL_neg], by rw [cmpL_zero, cmpL_zero]; exact And.comm⟩
theorem nil_iff {l : List (List Int)} : l = [] ↔ ∀ t, t ∉ l := List.eq_nil_iff_forall_not_mem
theorem dom_congr {a b a' b' : List (List Int)} (h1 : ∀ t, t ∈ a ↔ t ∈ a') (h2 : ∀ t, t ∈ b ↔ t ∈ b') : dom a b = dom a' b' := by
  rw [Bool.eq_iff_iff, dom_iff, dom_iff]
  constructor
  · intro h t ht; obtain ⟨u, hu, k⟩ := h t ((h2 t).2 ht); exact ⟨u, (h1 u).1 hu, k⟩
  · intro h t ht; obtain ⟨u, hu, k⟩ := h t ((h2 t).1 ht); exact ⟨u, (h1 u).2 hu, k⟩
/-- What is put behind both changes nothing. -/
theorem cmpL_snoc (a b : List (List Int)) (g : List Int) : cmpL (a ++ [g]) (b ++ [g]) = cmpL a b := by
  have h1 : ∀ (a b : List (List Int)) t, t ∈ minus (a ++ [g]) (b ++ [g]) ↔ t ∈ minus a b := fun a b t => by
    rw [minus_mem, minus_mem, List.count_append, List.count_append]; omega
  unfold cmpL
  rw [dom_congr (h1 a b) (h1 b a), dom_congr (h1 b a) (h1 a b)]
  have h2 : ∀ a b : List (List Int), minus (a ++ [g]) (b ++ [g]) = [] ↔ minus a b = [] := fun a b => by
    rw [nil_iff, nil_iff]; exact forall_congr' fun t => not_congr (h1 a b t)
  simp only [h2]
def falls (l : List (List Int)) : Bool := (List.range (l.length - 1)).all fun i => above (l.getD i []) (l.getD (i+1) [])
theorem falls_pair {l : List (List Int)} (h : falls l = true) : ∀ (i j : Nat), j < i → i < l.length → above (l.getD j []) (l.getD i []) = true := by
  unfold falls at h
  rw [List.all_eq_true] at h
  intro i
  induction i with
  | zero => intro j hj; omega
  | succ i ih =>
    intro j hj hi
    have h1 := h i (by rw [List.mem_range]; omega)
    by_cases e : j = i
    · rw [e]; exact h1
    · exact above_trans (ih j (by omega) (by omega)) h1
end Go.Proofs.Yteegjnobmbcjiaa
end
section
/- Lists of terms, plainly: what remains, who dominates, how they compare. No program. -/
namespace Go.Proofs.Yteegjnobmbcjiaa
open Go.RowKit

theorem minus_nil_left (b : List (List Int)) : minus [] b = [] := by
  induction b with
  | nil => rfl
  | cons y b ih => rw [minus_cons]; simpa using ih
theorem take_snoc {α : Type} (l : List α) (k : Nat) (d : α) (hk : k < l.length) : l.take (k+1) = l.take k ++ [l.getD k d] := by
  rw [List.take_succ_eq_append_getElem hk]; simp [List.getD, hk]
theorem drop_get {α : Type} (l : List α) (k : Nat) (d : α) (hk : k < l.length) : l.drop k = l.getD k d :: l.drop (k+1) := by
  rw [List.drop_eq_getElem_cons hk]; simp [List.getD, hk]
theorem minus_take (a b : List (List Int)) (k : Nat) (hk : k < b.length) : minus a (b.take (k+1)) = (minus a (b.take k)).erase (b.getD k []) := by
  rw [take_snoc b k [] hk]; simp [minus, List.foldl_append]
theorem erase_at {X : List (List Int)} {t : List Int} {j : Nat} (hj : j < X.length) (hn : t ∉ X.take j) (he : X.getD j [] = t) : X.erase t = X.eraseIdx j := by
  induction X generalizing j with
  | nil => simp at hj
  | cons x X ih =>
    cases j with
    | zero =>
      have he : x = t := by simpa using he
      subst he; simp
    | succ j =>
      simp only [List.take_succ_cons, List.mem_cons, not_or] at hn
      rw [List.erase_cons_tail (by simpa using fun h => hn.1 h.symm), List.eraseIdx_cons_succ, ih (by simpa using hj) hn.2 (by simpa using he)]
theorem erase_none {X : List (List Int)} {t : List Int} {j : Nat} (hj : ¬ j < X.length) (hn : t ∉ X.take j) : X.erase t = X := by
  rw [List.take_of_length_le (by omega)] at hn
  exact List.erase_of_not_mem hn
theorem not_take {X : List (List Int)} {t : List Int} {j : Nat} (hj : j < X.length) (hn : t ∉ X.take j) (he : X.getD j [] ≠ t) : t ∉ X.take (j+1) := by
  rw [take_snoc X j [] hj, List.mem_append, List.mem_singleton, not_or]
  exact ⟨hn, fun h => he h.symm⟩
theorem eraseIdx_perm {l : List (List Int)} {i : Nat} (hi : i < l.length) : (l.getD i [] :: l.eraseIdx i).Perm l := by
  induction l generalizing i with
  | nil => simp at hi
  | cons x l ih =>
    cases i with
    | zero => simp
    | succ i =>
      have := ih (i := i) (by simpa using hi)
      rw [show (x :: l).getD (i+1) [] = l.getD i [] from by simp [List.getD], List.eraseIdx_cons_succ]
      exact (List.Perm.swap _ _ _).trans (this.cons x)
/-- The reference's loop: what is out, what is left. -/
theorem left_in {a b out left : List (List Int)} {k i : Nat} (h : minus a b = out ++ minus (a.drop k) left) (hk : k < a.length) (hi : i < left.length) (he : left.getD i [] = a.getD k []) :
    minus a b = out ++ minus (a.drop (k+1)) (left.eraseIdx i) := by
  rw [h, drop_get a k [] hk, minus_front]
  generalize a.getD k [] = t at *
  have hx : left[i] = t := by rw [← he]; simp [List.getD, hi]
  have hm : t ∈ left := by rw [← hx]; exact List.getElem_mem hi
  rw [if_pos hm]
  have hp : (left.erase t).Perm (left.eraseIdx i) := by
    have h1 := eraseIdx_perm hi
    rw [he] at h1
    exact (List.perm_cons t).1 ((List.perm_cons_erase hm).symm.trans h1.symm)
  rw [minus_perm hp]
theorem left_out {a b out left : List (List Int)} {k : Nat} (h : minus a b = out ++ minus (a.drop k) left) (hk : k < a.length) (hn : a.getD k [] ∉ left) :
    minus a b = (out ++ [a.getD k []]) ++ minus (a.drop (k+1)) left := by
  rw [h, drop_get a k [] hk, minus_front, if_neg hn, List.append_assoc]; rfl
theorem left_end {a b out left : List (List Int)} {k : Nat} (h : minus a b = out ++ minus (a.drop k) left) (hk : ¬ k < a.length) : minus a b = out := by
  rw [h, List.drop_eq_nil_of_le (by omega), minus_nil_left, List.append_nil]
theorem minus_get {a b : List (List Int)} {P : List Int → Prop} (h : ∀ t ∈ a, P t) : ∀ t ∈ minus a b, P t := fun t ht => h t (minus_sub ht)

theorem dom_no {a b : List (List Int)} {k : Nat} (hk : k < b.length) (h : (a.any fun u => above u (b.getD k [])) = false) : dom a b = false := by
  rw [Bool.eq_false_iff]
  intro hd
  unfold dom at hd
  rw [List.all_eq_true] at hd
  have := hd (b.getD k []) (by simp [List.getD, hk])
  rw [h] at this; simp at this
theorem dom_take {a b : List (List Int)} {k : Nat} (hk : k < b.length) (h : dom a (b.take k) = true) (h2 : (a.any fun u => above u (b.getD k [])) = true) : dom a (b.take (k+1)) = true := by
  unfold dom at *
  rw [take_snoc b k [] hk, List.all_append, h]
  simpa using h2
theorem dom_all {a b : List (List Int)} {k : Nat} (hk : ¬ k < b.length) (h : dom a (b.take k) = true) : dom a b = true := by
  rwa [List.take_of_length_le (by omega)] at h
theorem any_take {a : List (List Int)} {t : List Int} {i : Nat} (hi : i < a.length) (h : ((a.take i).any fun u => above u t) = false) : ((a.take (i+1)).any fun u => above u t) = above (a.getD i []) t := by
  rw [take_snoc a i [] hi, List.any_append, h]; simp
theorem any_yes {a : List (List Int)} {t : List Int} {i : Nat} (hi : i < a.length) (h : above (a.getD i []) t = true) : (a.any fun u => above u t) = true := by
  rw [List.any_eq_true]; exact ⟨_, by simp [List.getD, hi], h⟩
theorem any_end {a : List (List Int)} {t : List Int} {i : Nat} {q : Bool} (hi : ¬ i < a.length) (h : ((a.take i).any fun u => above u t) = q) : (a.any fun u => above u t) = q := by
  rwa [List.take_of_length_le (by omega)] at h
theorem cmpL_0 {a b : List (List Int)} (h1 : minus a b = []) (h2 : minus b a = []) : cmpL a b = 0 := cmpL_zero.2 ⟨h1, h2⟩
theorem cmpL_1 {a b : List (List Int)} (h0 : ¬ (minus a b = [] ∧ minus b a = [])) (h : dom (minus a b) (minus b a) = true) : cmpL a b = 1 := by unfold cmpL; rw [if_neg h0, if_pos h]
theorem cmpL_m {a b : List (List Int)} (h0 : ¬ (minus a b = [] ∧ minus b a = [])) (h : dom (minus a b) (minus b a) = false) (k : dom (minus b a) (minus a b) = true) : cmpL a b = -1 := by
  unfold cmpL; rw [if_neg h0, if_neg (by rw [h]; simp), if_pos k]
theorem cmpL_2 {a b : List (List Int)} (h0 : ¬ (minus a b = [] ∧ minus b a = [])) (h : dom (minus a b) (minus b a) = false) (k : dom (minus b a) (minus a b) = false) : cmpL a b = 2 := by
  unfold cmpL; rw [if_neg h0, if_neg (by rw [h]; simp), if_neg (by rw [k]; simp)]
/-- The reference asks also that something is there. -/
theorem dom_some {x y : List (List Int)} (h0 : ¬ (x = [] ∧ y = [])) (h : dom x y = true) : 0 < x.length := by
  cases x with
  | nil =>
    cases y with
    | nil => exact absurd ⟨rfl, rfl⟩ h0
    | cons t r => obtain ⟨u, hu, _⟩ := dom_iff.1 h t List.mem_cons_self; simp at hu
  | cons u r => simp
/-- Falling. -/
theorem falls_no {l : List (List Int)} {i : Nat} (h1 : 0 < i) (hi : i < l.length) (h : above (l.getD (i-1) []) (l.getD i []) = false) : falls l = false := by
  rw [Bool.eq_false_iff]; intro hf
  have := falls_pair hf i (i-1) (by omega) hi
  rw [h] at this; simp at this
def fallTo (l : List (List Int)) (i : Nat) : Prop := ∀ j, 0 < j → j < i → above (l.getD (j-1) []) (l.getD j []) = true
theorem fallTo.step {l : List (List Int)} {i : Nat} (h : fallTo l i) (hi : 0 < i → above (l.getD (i-1) []) (l.getD i []) = true) : fallTo l (i+1) := fun j h1 h2 => by
  by_cases e : j = i
  · subst e; exact hi h1
  · exact h j h1 (by omega)
theorem fallTo.done {l : List (List Int)} {i : Nat} (h : fallTo l i) (hi : ¬ i < l.length) : falls l = true := by
  unfold falls
  rw [List.all_eq_true]
  intro j hj
  rw [List.mem_range] at hj
  exact h (j+1) (by omega) (by omega)

def lisOk (ar : List Int) (a b : List (List Int)) : Bool := goodTerms ar a 8 && goodTerms ar b 8
def lisAns (ar : List Int) (a b : List (List Int)) : Int := if lisOk ar a b then cmpL a b else 0
theorem lisOk_iff {ar : List Int} {a b : List (List Int)} : lisOk ar a b = true ↔ goodTerms ar a 8 = true ∧ goodTerms ar b 8 = true := by simp [lisOk]
theorem lis_no {ar : List Int} {a b : List (List Int)} (h : lisOk ar a b = false) : lisAns ar a b = 0 := by simp [lisAns, h]
theorem lis_yes {ar : List Int} {a b : List (List Int)} (h : lisOk ar a b = true) : lisAns ar a b = cmpL a b := by simp [lisAns, h]
def falAns (ar : List Int) (l : List (List Int)) : Bool := goodTerms ar l 8 && falls l
theorem fal_no {ar : List Int} {l : List (List Int)} (h : goodTerms ar l 8 = false) : falAns ar l = false := by simp [falAns, h]
theorem fal_yes {ar : List Int} {l : List (List Int)} (h : goodTerms ar l 8 = true) : falAns ar l = falls l := by simp [falAns, h]
theorem goodTerms_get {ar : List Int} {b : List (List Int)} {m : Nat} (h : goodTerms ar b m = true) (j : Nat) (hj : j < b.length) : okTerm ar (b.getD j []) = true :=
  (goodTerms_iff.1 h).2.2 _ (by simp [List.getD, hj])
end Go.Proofs.Yteegjnobmbcjiaa
end
section
/- Chapter 4: the answers, as plain functions. No program. -/
namespace Go.Proofs.Yteegjnobmbcjiaa
open Go.RowKit

def okLit (ar : List Int) (x : Lt) : Bool := okTerm ar x.2.1 && okTerm ar x.2.2
def okLits (ar : List Int) (c : List Lt) : Bool := decide (c.length ≤ 8) && c.all (okLit ar)
def goodClause (ar : List Int) (c : List Lt) : Bool := goodSign ar && okLits ar c
theorem okLit_iff {ar : List Int} {x : Lt} : okLit ar x = true ↔ okTerm ar x.2.1 = true ∧ okTerm ar x.2.2 = true := by simp [okLit]
theorem okLits_iff {ar : List Int} {c : List Lt} : okLits ar c = true ↔ c.length ≤ 8 ∧ ∀ x ∈ c, okLit ar x = true := by simp [okLits]
theorem goodClause_iff {ar : List Int} {c : List Lt} : goodClause ar c = true ↔ goodSign ar = true ∧ c.length ≤ 8 ∧ ∀ x ∈ c, okLit ar x = true := by simp [goodClause, okLits]
theorem okLits_get {ar : List Int} {c : List Lt} (h : ∀ x ∈ c, okLit ar x = true) (j : Nat) (hj : j < c.length) : okTerm ar (c.getD j lt0).2.1 = true ∧ okTerm ar (c.getD j lt0).2.2 = true :=
  okLit_iff.1 (h _ (by simp [List.getD, hj]))
theorem okLits_bad {ar : List Int} {c : List Lt} {j : Nat} (hj : j < c.length) (h : okLit ar (c.getD j lt0) = false) : okLits ar c = false := by
  rw [Bool.eq_false_iff]; intro k
  have := (okLits_iff.1 k).2 (c.getD j lt0) (by simp [List.getD, hj])
  rw [h] at this; simp at this
/-- The first k literals are valid. -/
def okTo (ar : List Int) (c : List Lt) (k : Nat) : Prop := ∀ j, j < k → okLit ar (c.getD j lt0) = true
theorem okTo.step {ar : List Int} {c : List Lt} {k : Nat} (h : okTo ar c k) (hk : okLit ar (c.getD k lt0) = true) : okTo ar c (k+1) := fun j hj => by
  by_cases e : j = k
  · subst e; exact hk
  · exact h j (by omega)
theorem okTo.done {ar : List Int} {c : List Lt} (h : okTo ar c c.length) : okLits ar c = decide (c.length ≤ 8) := by
  unfold okLits
  have : c.all (okLit ar) = true := by
    rw [List.all_eq_true]
    intro x hx
    obtain ⟨j, hj, rfl⟩ := List.getElem_of_mem hx
    have := h j hj
    simpa [List.getD, hj] using this
  rw [this, Bool.and_true]

/-- The same two terms, perhaps exchanged. -/
def sameTs (x y : Lt) : Bool := (decide (x.2.1 = y.2.1) && decide (x.2.2 = y.2.2)) || (decide (x.2.1 = y.2.2) && decide (x.2.2 = y.2.1))
def eqvL (x y : Lt) : Bool := (x.1 == y.1) && sameTs x y
def tidyStep (out : List Lt) (x : Lt) : List Lt := if !x.1 && decide (x.2.1 = x.2.2) then out else if out.any (eqvL x) then out else out ++ [x]
def tidyC (c : List Lt) : List Lt := c.foldl tidyStep []
theorem tidyC_snoc (c : List Lt) (k : Nat) (h : k < c.length) : tidyC (c.take (k+1)) = tidyStep (tidyC (c.take k)) (c.getD k lt0) := by
  unfold tidyC
  rw [List.take_succ_eq_append_getElem h, List.foldl_append]
  simp [List.getD, h]
def tidyAns (ar : List Int) (c : List Lt) : List Lt := if goodClause ar c then tidyC c else []

/-- A tautology's place: the literal k alone, or with an earlier one. -/
def tautAt (c : List Lt) (k : Nat) : Bool := ((c.getD k lt0).1 && decide ((c.getD k lt0).2.1 = (c.getD k lt0).2.2)) || (c.take k).any fun y => ((c.getD k lt0).1 != y.1) && sameTs (c.getD k lt0) y
def tautC (c : List Lt) : Bool := (List.range c.length).any (tautAt c)
def tautAns (ar : List Int) (c : List Lt) : Bool := goodClause ar c && tautC c

def weightAns (ar : List Int) (c : List Lt) : Int := if goodClause ar c then (sumL (flatC c) : Int) else 0

def listL (x : Lt) : List (List Int) := if x.1 then [x.2.1, x.2.2] else [x.2.1, x.2.2, x.2.1, x.2.2]
def litsOk (ar : List Int) (x y : Lt) : Bool := goodSign ar && (okLit ar x && okLit ar y)
def litsAns (ar : List Int) (x y : Lt) : Int := if litsOk ar x y then cmpL (listL x) (listL y) else 0
def maxAt (c : List Lt) (k : Nat) : Bool := (List.range c.length).all fun i => decide (i = k) || !decide (cmpL (listL (c.getD i lt0)) (listL (c.getD k lt0)) = 1)
def maxC (c : List Lt) : List Nat := (List.range c.length).filter (maxAt c)

/-- The signs of one, the terms of another list. -/
def zipC : List Lt → List (List Int) → List Lt
  | x :: c, l :: r :: ts => (x.1, l, r) :: zipC c ts
  | _, _ => []
end Go.Proofs.Yteegjnobmbcjiaa
end
section
/- A literal of the draws: its three fields are drawn in a row, its box is laid whenever it is: whatever the order. -/
namespace Go.Proofs.Yteegjnobmbcjiaa.Rl
open Go.RowKit

/-- A literal's box, as it is laid; as it is filled. -/
def Lb (w : World) (g : Nat) (p s1 s2 : Value) : Prop := (w.cell? ⟨g, 0, none⟩ = some p ∧ w.cell? ⟨g, 1, none⟩ = some s1 ∧ w.cell? ⟨g, 2, none⟩ = some s2) ∧ ∀ i, w.frozen? ⟨g, i, none⟩ = false
abbrev Zb (w : World) (g : Nat) : Prop := Lb w g (.bool false) (.slice none 0 0) (.slice none 0 0)
theorem Lb.lt {w : World} {g : Nat} {p s1 s2 : Value} (h : Lb w g p s1 s2) : g < w.heap.size := World.block_lt_of_cell? w ⟨g, 0, none⟩ h.1.1
theorem Lb.bel {w w' : World} {g : Nat} {p s1 s2 : Value} (h : Lb w g p s1 s2) (hb : Bel w w') : Lb w' g p s1 s2 :=
  ⟨⟨hb.at h.lt h.1.1, hb.at h.lt h.1.2.1, hb.at h.lt h.1.2.2⟩, fun i => (hb.frozen (p := ⟨g, i, none⟩) h.lt).trans (h.2 i)⟩
theorem Lb.chg {w w' : World} {g b : Nat} {p s1 s2 : Value} (h : Lb w g p s1 s2) (k : Chg b (b+1) w w') (hg : b < g) : Lb w' g p s1 s2 :=
  ⟨⟨k.cell h.lt (.inr hg) h.1.1, k.cell h.lt (.inr hg) h.1.2.1, k.cell h.lt (.inr hg) h.1.2.2⟩, fun i => (World.frozen?_of_block (w := w) (w' := w') (a := ⟨g, i, none⟩) (k.block g h.lt (.inr hg))).trans (h.2 i)⟩
theorem Lb.new (w : World) (t : TypeId) : Zb (w.alloc (.cells #[.bool false, .slice none 0 0, .slice none 0 0] t)) w.heap.size := ⟨⟨by simp [go_sem], by simp [go_sem], by simp [go_sem]⟩, fun i => by simp [go_sem]⟩
theorem Lb.put {w : World} {g : Nat} {p s1 s2 : Value} (h : Lb w g p s1 s2) (p' t1 t2 : Value) : Lb (((w.setCell ⟨g, 0, none⟩ p').setCell ⟨g, 1, none⟩ t1).setCell ⟨g, 2, none⟩ t2) g p' t1 t2 := by
  obtain ⟨⟨q0, q1, q2⟩, q3⟩ := h
  exact ⟨⟨by simp [go_sem, q0], by simp [go_sem, q1], by simp [go_sem, q2]⟩, fun i => by simp [go_sem, q3]⟩
theorem Lb.put2 {w : World} {g : Nat} {p s1 s2 : Value} (h : Lb w g p s1 s2) (t2 : Value) : Lb (w.setCell ⟨g, 2, none⟩ t2) g p s1 t2 := by
  obtain ⟨⟨q0, q1, q2⟩, q3⟩ := h
  exact ⟨⟨by simp [go_sem, q0], by simp [go_sem, q1], by simp [go_sem, q2]⟩, fun i => by simp [go_sem, q3]⟩
theorem Lb.far {w : World} {g k : Nat} {p s1 s2 : Value} (h : Lb w g p s1 s2) (hk : g ≠ k) (j : Nat) (u : Value) : Lb (w.setCell ⟨k, j, none⟩ u) g p s1 s2 := by
  obtain ⟨⟨q0, q1, q2⟩, q3⟩ := h
  have hk' := Ne.symm hk
  exact ⟨⟨by simp [go_sem, q0], by simp [go_sem, q1], by simp [go_sem, q2]⟩, fun i => by simp [go_sem, q3]⟩
def pt (g : Nat) : Value := .pointer (some ⟨g, 0, none⟩)

/-- The cursor has gone on, and nothing else has turned. -/
def LF (b n k d : Nat) (w0 w : World) : Prop := ∃ k', k ≤ k' ∧ k' ≤ k + d ∧ Cur b n k' w ∧ Chg b (b+1) w0 w
theorem LF.alloc {b n k d : Nat} {w0 w : World} (h : LF b n k d w0 w) (o : Obj) : LF b n k d w0 (w.alloc o) := by
  obtain ⟨k', h1, h2, h3, h4⟩ := h
  exact ⟨k', h1, h2, h3.below (Bel.alloc0 w o), h4.trans (Chg.of_bel (Bel.alloc0 w o))⟩
theorem LF.size {b n k d : Nat} {w0 w : World} (h : LF b n k d w0 w) : w0.heap.size ≤ w.heap.size := by obtain ⟨k', _, _, _, h4⟩ := h; exact h4.size
/-- A term of the draws, in a block of its own that was laid since w0. -/
def TF (w0 w : World) (v : Value) (t : List Int) : Prop := (∃ c, w0.heap.size ≤ c ∧ c < w.heap.size ∧ SlI c (c+1) w v t) ∧ 1 ≤ t.length ∧ t.length ≤ 400
theorem TF.alloc {w0 w : World} {v : Value} {t : List Int} (h : TF w0 w v t) (o : Obj) : TF w0 (w.alloc o) v t := by
  obtain ⟨⟨c, h1, h2, h3⟩, h4⟩ := h
  exact ⟨⟨c, h1, by simp; omega, h3.alloc o⟩, h4⟩
theorem TF.chg {b : Nat} {w0 w w' : World} {v : Value} {t : List Int} (h : TF w0 w v t) (k : Chg b (b+1) w w') (hb : b < w0.heap.size) : TF w0 w' v t := by
  obtain ⟨⟨c, h1, h2, h3⟩, h4⟩ := h
  have := k.size
  exact ⟨⟨c, h1, by omega, h3.chg k (by omega)⟩, h4⟩

theorem TF.form {w0 w : World} {v : Value} {t : List Int} (h : TF w0 w v t) : ∃ a c, v = .slice a t.length c := by
  obtain ⟨⟨c, _, _, h3⟩, _⟩ := h
  exact h3.form
def R1 (b n k d : Nat) (w0 w : World) (e : Ending) (w' : World) : Prop := ∃ x : Bool, e = .returned (.bool x) ∧ LF b n k (d+2) w0 w' ∧ Chg b (b+1) w w'
def R2 (m b n k d : Nat) (w0 w : World) (e : Ending) (w' : World) : Prop := ∃ x : Nat, x < m ∧ e = .returned (.int .i64 x) ∧ LF b n k (d+2) w0 w' ∧ Chg b (b+1) w w'
def R3 (b n k d : Nat) (w0 w : World) (e : Ending) (w' : World) : Prop := ∃ v t, e = .returned v ∧ TF w0 w' v t ∧ LF b n k (d+4000) w0 w' ∧ Chg b (b+1) w w'
set_option maxRecDepth 100000 in
theorem one_l {b n k d : Nat} {w0 w : World} (hn : n ≤ 1099511627776) (hk : k + d ≤ 400000000000) (h : LF b n k d w0 w) : Calls Try.prog 136 #[pt b, .int .i64 3] w (R1 b n k d w0 w) := by
  obtain ⟨k', h1, h2, h3, h4⟩ := h
  refine (one_c b n k' 3 3 w rfl hn (by omega) (by omega) h3).mono ?_
  rintro e w' ⟨q, k2, rfl, g1, g2, g3, g4⟩
  exact ⟨q, rfl, ⟨k2, by omega, by omega, g3, h4.trans g4⟩, g4⟩
set_option maxRecDepth 100000 in
theorem pick_l (m : Nat) (z : Int) (hz : z = m) {b n k d : Nat} {w0 w : World} (hm : 1 ≤ m) (hm2 : m ≤ 1000) (hn : n ≤ 1099511627776) (hk : k + d ≤ 400000000000) (h : LF b n k d w0 w) : Calls Try.prog 134 #[pt b, .int .i64 z] w (R2 m b n k d w0 w) := by
  obtain ⟨k', h1, h2, h3, h4⟩ := h
  refine (pick_c b n k' z m w hz hn (by omega) (by omega) h3).mono ?_
  rintro e w' ⟨q, k2, rfl, gm, g1, g2, g3, g4⟩
  exact ⟨q, by omega, rfl, ⟨k2, by omega, by omega, g3, h4.trans g4⟩, g4⟩
set_option maxRecDepth 100000 in
theorem term_l (x : Nat) (hx : x < 3) {b n k d lo hi : Nat} {v : Value} {ar : List Int} {w0 w : World} (hn : n ≤ 1099511627776) (hk : k + d ≤ 400000000000) (hdr : drawn ar) (hblo : b < lo) (hv : SlI lo hi w0 v ar) (h : LF b n k d w0 w) :
    Calls Try.prog 135 #[pt b, .agg #[v], .int .i64 (1 + (x : Int)), .int .i64 3] w (R3 b n k d w0 w) := by
  obtain ⟨k', h1, h2, h3, h4⟩ := h
  refine (term_z b n (1 + x) 3 k' lo hi _ 3 v ar w (by omega) rfl hn (by omega) (by omega) hdr hblo (by omega) (by omega) h3 (hv.chg h4 (by omega))).mono ?_
  rintro e w' ⟨ad, m, c, t, k2, rfl, hrow, g1, g2, g3, g4, g5, g6, g7⟩
  have hl := tl_le (1 + x) (by omega)
  obtain ⟨c2, o1, o2⟩ := (OwnI.of_row hrow).block
  obtain ⟨o3, o4⟩ := o2 (by omega)
  have hs := h4.size
  exact ⟨_, t, rfl, ⟨⟨c2, by omega, o4, o1.sl⟩, g1, by omega⟩, ⟨k2, by omega, by omega, g6, h4.trans g7⟩, g7⟩

theorem wanted_plain {o : Oper} {ops : Array Oper} {a : Act} (hgd : o.guard = none) : Region.wanted o (yielded ops a.tmps) = true := by simp [Region.wanted, hgd]
theorem lt_box {ops : Array Oper} {o : Oper} {a : Act} {K : Act → World → Prop} {Q : Exit → Act → World → Prop} {E : Prop} {w : World} (hgd : o.guard = none) (ho : o.op = .alloc 91)
    (h : K (a.put o.dst (pt w.heap.size)) (w.alloc (.cells #[.bool false, .slice none 0 0, .slice none 0 0] 91))) : if Region.wanted o (yielded ops a.tmps) = true then Oper.wp Try.prog o a w K Q else E := by
  rw [if_pos (wanted_plain hgd)]
  obtain ⟨dst, op, type, pos, after, guard⟩ := o
  simp only at ho
  subst ho
  go_simp
  exact h
theorem lt_one {ops : Array Oper} {o : Oper} {a : Act} {K : Act → World → Prop} {Q : Exit → Act → World → Prop} {E : Prop} {w : World} {R : Ending → World → Prop} {x : Nat} {tys : Array TypeId} (hgd : o.guard = none)
    (ho : o.op = .call { callee := .value (.func 136), args := #[.tmp x, .const (.int .i64 3)], argTypes := tys })
    (hc : Calls Try.prog 136 #[a.eval (.tmp x), (.int .i64 3)] w R)
    (h : ∀ e w', R e w' → ∃ v, e = .returned v ∧ K (a.put o.dst v) w') : if Region.wanted o (yielded ops a.tmps) = true then Oper.wp Try.prog o a w K Q else E := by
  rw [if_pos (wanted_plain hgd)]
  obtain ⟨dst, op, type, pos, after, guard⟩ := o
  simp only at ho
  subst ho
  unfold Oper.wp execOp
  simp only [resolve, invoke, Sem.run_bind, List.map_toArray, List.map_cons, List.map_nil]
  have hc2 : Calls Try.prog 136 #[a.tmps[x]?.getD undef, (.int .i64 3)] w R := by simpa [Act.eval] using hc
  go_simp
  refine Calls.mono hc2 ?_
  intro e w' hr
  obtain ⟨v, rfl, hk⟩ := h e w' hr
  exact hk
theorem lt_pick (z : Int) {ops : Array Oper} {o : Oper} {a : Act} {K : Act → World → Prop} {Q : Exit → Act → World → Prop} {E : Prop} {w : World} {R : Ending → World → Prop} {x : Nat} {tys : Array TypeId} (hgd : o.guard = none)
    (ho : o.op = .call { callee := .value (.func 134), args := #[.tmp x, .const (.int .i64 z)], argTypes := tys })
    (hc : Calls Try.prog 134 #[a.eval (.tmp x), (.int .i64 z)] w R)
    (h : ∀ e w', R e w' → ∃ v, e = .returned v ∧ K (a.put o.dst v) w') : if Region.wanted o (yielded ops a.tmps) = true then Oper.wp Try.prog o a w K Q else E := by
  rw [if_pos (wanted_plain hgd)]
  obtain ⟨dst, op, type, pos, after, guard⟩ := o
  simp only at ho
  subst ho
  unfold Oper.wp execOp
  simp only [resolve, invoke, Sem.run_bind, List.map_toArray, List.map_cons, List.map_nil]
  have hc2 : Calls Try.prog 134 #[a.tmps[x]?.getD undef, (.int .i64 z)] w R := by simpa [Act.eval] using hc
  go_simp
  refine Calls.mono hc2 ?_
  intro e w' hr
  obtain ⟨v, rfl, hk⟩ := h e w' hr
  exact hk
theorem lt_term {ops : Array Oper} {o : Oper} {a : Act} {K : Act → World → Prop} {Q : Exit → Act → World → Prop} {E : Prop} {w : World} {R : Ending → World → Prop} {x y y2 : Nat} {tys : Array TypeId} (hgd : o.guard = none)
    (ho : o.op = .call { callee := .value (.func 135), args := #[.tmp x, .tmp y, .tmp y2, .const (.int .i64 3)], argTypes := tys })
    (hc : Calls Try.prog 135 #[a.eval (.tmp x), a.eval (.tmp y), a.eval (.tmp y2), (.int .i64 3)] w R)
    (h : ∀ e w', R e w' → ∃ v, e = .returned v ∧ K (a.put o.dst v) w') : if Region.wanted o (yielded ops a.tmps) = true then Oper.wp Try.prog o a w K Q else E := by
  rw [if_pos (wanted_plain hgd)]
  obtain ⟨dst, op, type, pos, after, guard⟩ := o
  simp only at ho
  subst ho
  unfold Oper.wp execOp
  simp only [resolve, invoke, Sem.run_bind, List.map_toArray, List.map_cons, List.map_nil]
  have hc2 : Calls Try.prog 135 #[a.tmps[x]?.getD undef, a.tmps[y]?.getD undef, a.tmps[y2]?.getD undef, (.int .i64 3)] w R := by simpa [Act.eval] using hc
  go_simp
  refine Calls.mono hc2 ?_
  intro e w' hr
  obtain ⟨v, rfl, hk⟩ := h e w' hr
  exact hk
def ltTable : List (Array Bool × List Nat) := [
  (#[true, false, false, true, true, true, false, false, false, true, true, true, false, false, false, false, false, false], [1, 16]),
  (#[true, false, false, true, true, true, false, false, false, true, true, true, false, false, false, false, true, false], [1]),
  (#[true, true, true, true, true, true, false, false, false, true, true, true, false, false, false, false, false, false], [6, 16]),
  (#[true, true, true, true, true, true, false, false, false, true, true, true, false, false, false, false, true, false], [6]),
  (#[true, true, true, true, true, true, true, true, false, true, true, true, false, false, false, false, false, false], [8, 16]),
  (#[true, true, true, true, true, true, true, true, false, true, true, true, false, false, false, false, true, false], [8]),
  (#[true, true, true, true, true, true, true, true, true, true, true, true, false, false, false, false, false, false], [12, 16]),
  (#[true, true, true, true, true, true, true, true, true, true, true, true, false, false, false, false, true, false], [12]),
  (#[true, true, true, true, true, true, true, true, true, true, true, true, true, true, false, false, false, false], [14, 16]),
  (#[true, true, true, true, true, true, true, true, true, true, true, true, true, true, false, false, true, false], [14]),
  (#[true, true, true, true, true, true, true, true, true, true, true, true, true, true, true, true, false, false], [16]),
  (#[true, true, true, true, true, true, true, true, true, true, true, true, true, true, true, true, true, false], [17])]
def ltTakes : List (Array Bool × Nat) := [
  (#[true, true, false, true, true, true, false, false, false, true, true, true, false, false, false, false, false, false], 2),
  (#[true, true, false, true, true, true, false, false, false, true, true, true, false, false, false, false, true, false], 2),
  (#[true, true, true, true, true, true, true, false, false, true, true, true, false, false, false, false, false, false], 7),
  (#[true, true, true, true, true, true, true, false, false, true, true, true, false, false, false, false, true, false], 7),
  (#[true, true, true, true, true, true, true, true, true, true, true, true, true, false, false, false, false, false], 13),
  (#[true, true, true, true, true, true, true, true, true, true, true, true, true, false, false, false, true, false], 13),
  (#[true, true, true, true, true, true, true, true, true, true, true, true, true, true, true, false, false, false], 15),
  (#[true, true, true, true, true, true, true, true, true, true, true, true, true, true, true, false, true, false], 15)]
structure LtReg (ops : Array Oper) : Prop where
  s : Region.noSelect ops = true
  h1 : ∃ o tys, ops[1]? = some o ∧ o.guard = none ∧ o.dst = some 7 ∧ o.op = .call { callee := .value (.func 136), args := #[.tmp 6, .const (.int .i64 3)], argTypes := tys }
  h2 : ∃ o ty, ops[2]? = some o ∧ o.guard = none ∧ o.dst = some 8 ∧ o.op = .unOp .not ty (.tmp 7)
  h6 : ∃ o tys, ops[6]? = some o ∧ o.guard = none ∧ o.dst = some 12 ∧ o.op = .call { callee := .value (.func 134), args := #[.tmp 11, .const (.int .i64 3)], argTypes := tys }
  h7 : ∃ o, ops[7]? = some o ∧ o.guard = none ∧ o.dst = some 13 ∧ o.op = .binOp .add 3 (.const (.int .i64 1)) (.tmp 12) 3
  h8 : ∃ o tys, ops[8]? = some o ∧ o.guard = none ∧ o.dst = some 14 ∧ o.op = .call { callee := .value (.func 135), args := #[.tmp 9, .tmp 10, .tmp 13, .const (.int .i64 3)], argTypes := tys }
  h12 : ∃ o tys, ops[12]? = some o ∧ o.guard = none ∧ o.dst = some 18 ∧ o.op = .call { callee := .value (.func 134), args := #[.tmp 17, .const (.int .i64 2)], argTypes := tys }
  h13 : ∃ o, ops[13]? = some o ∧ o.guard = none ∧ o.dst = some 19 ∧ o.op = .binOp .add 3 (.const (.int .i64 1)) (.tmp 18) 3
  h14 : ∃ o tys, ops[14]? = some o ∧ o.guard = none ∧ o.dst = some 20 ∧ o.op = .call { callee := .value (.func 135), args := #[.tmp 15, .tmp 16, .tmp 19, .const (.int .i64 3)], argTypes := tys }
  h15 : ∃ o, ops[15]? = some o ∧ o.guard = none ∧ o.dst = some 21 ∧ o.op = .build 91 #[(0, .tmp 8), (1, .tmp 14), (2, .tmp 20)]
  h16 : ∃ o, ops[16]? = some o ∧ o.guard = none ∧ o.dst = some 5 ∧ o.op = .alloc 91
  rd : (ltTable.all fun c => Region.ready .any ops c.1 == c.2) = true
  tk : (ltTakes.all fun c => Region.free .any ops c.1 c.2 && (Region.ready .any ops c.1).contains c.2) = true
theorem LtReg.row {ops} (H : LtReg ops) (i : Nat) {c : Array Bool × List Nat} (h : ltTable[i]? = some c) : Region.ready .any ops c.1 = c.2 :=
  eq_of_beq (List.all_eq_true.1 H.rd c (List.mem_of_getElem? h))
theorem LtReg.take {ops} (H : LtReg ops) (i : Nat) {c : Array Bool × Nat} (h : ltTakes[i]? = some c) : Region.free .any ops c.1 c.2 = true ∧ (Region.ready .any ops c.1).contains c.2 = true :=
  Bool.and_eq_true_iff.1 (List.all_eq_true.1 H.tk c (List.mem_of_getElem? h))

def LtTail (ops : Array Oper) (Q : Exit → Act → World → Prop) (S : World → Prop) (b n k : Nat) (w0 : World) (df : List Deferred) (sv u1 u2 u3 u4 u22 u23 u24 u25 u26 : Value) : Prop :=
  ∀ (x1 : Bool) (x2 : Nat) (y1 : Value) (s1 : List Int) (x3 : Nat) (y2 : Value) (s2 : List Int) (g : Nat) (w : World), Zb w g → w0.heap.size ≤ g → LF b n k 8006 w0 w → TF w0 w y1 s1 → TF w0 w y2 s2 → wpAnyH Try.prog .any ops Q S 1 #[true, true, true, true, true, true, true, true, true, true, true, true, true, true, true, true, true, false] ⟨#[(pt b), u1, u2, u3, u4, (pt g), (pt b), (.bool x1), (.bool (!x1)), (pt b), (.agg #[sv]), (pt b), (.int .i64 (x2 : Nat)), (.int .i64 (1 + (x2 : Int))), y1, (pt b), (.agg #[sv]), (pt b), (.int .i64 (x3 : Nat)), (.int .i64 (1 + (x3 : Int))), y2, (.agg #[.bool (!x1), y1, y2]), u22, u23, u24, u25, u26], df⟩ w
theorem lt5_1 {ops : Array Oper} {Q : Exit → Act → World → Prop} {S : World → Prop} {b n k lo hi : Nat} {sv : Value} {ar : List Int} {w0 : World} {df : List Deferred} {u1 u2 u3 u4 u22 u23 u24 u25 u26 : Value} (_H : LtReg ops) (HK : LtTail ops Q S b n k w0 df sv u1 u2 u3 u4 u22 u23 u24 u25 u26) (_hQ : ∀ c a d v w, Q (.panic c) (Act.put a d v) w → Q (.panic c) a w) (_hS : ∀ w, Chg b (b+1) w0 w → S w) (_hb : b < w0.heap.size) (_hn : n ≤ 1099511627776) (_hk : k ≤ 300000000000) (_hdr : drawn ar) (_hblo : b < lo) (_hsv : SlI lo hi w0 sv ar) (x1 : Bool) (x2 : Nat) (y1 : Value) (s1 : List Int) (x3 : Nat) (y2 : Value) (s2 : List Int) (g : Nat) (w : World) (z : Zb w g) (lg : w0.heap.size ≤ g) (hl : LF b n k 8006 w0 w) (_hx2 : x2 < 3) (t1 : TF w0 w y1 s1) (_hx3 : x3 < 2) (t2 : TF w0 w y2 s2) : wpAnyH Try.prog .any ops Q S 1 #[true, true, true, true, true, true, true, true, true, true, true, true, true, true, true, true, true, false] ⟨#[(pt b), u1, u2, u3, u4, (pt g), (pt b), (.bool x1), (.bool (!x1)), (pt b), (.agg #[sv]), (pt b), (.int .i64 (x2 : Nat)), (.int .i64 (1 + (x2 : Int))), y1, (pt b), (.agg #[sv]), (pt b), (.int .i64 (x3 : Nat)), (.int .i64 (1 + (x3 : Int))), y2, (.agg #[.bool (!x1), y1, y2]), u22, u23, u24, u25, u26], df⟩ w := by
  exact HK x1 x2 y1 s1 x3 y2 s2 g w z lg hl t1 t2
theorem lt5_0 {ops : Array Oper} {Q : Exit → Act → World → Prop} {S : World → Prop} {b n k lo hi : Nat} {sv : Value} {ar : List Int} {w0 : World} {df : List Deferred} {u1 u2 u3 u4 u22 u23 u24 u25 u26 : Value} (H : LtReg ops) (HK : LtTail ops Q S b n k w0 df sv u1 u2 u3 u4 u22 u23 u24 u25 u26) (hQ : ∀ c a d v w, Q (.panic c) (Act.put a d v) w → Q (.panic c) a w) (hS : ∀ w, Chg b (b+1) w0 w → S w) (hb : b < w0.heap.size) (hn : n ≤ 1099511627776) (hk : k ≤ 300000000000) (hdr : drawn ar) (hblo : b < lo) (hsv : SlI lo hi w0 sv ar) (u5 : Value) (x1 : Bool) (x2 : Nat) (y1 : Value) (s1 : List Int) (x3 : Nat) (y2 : Value) (s2 : List Int) (w : World) (hl : LF b n k 8006 w0 w) (hx2 : x2 < 3) (t1 : TF w0 w y1 s1) (hx3 : x3 < 2) (t2 : TF w0 w y2 s2) : wpAnyH Try.prog .any ops Q S 2 #[true, true, true, true, true, true, true, true, true, true, true, true, true, true, true, true, false, false] ⟨#[(pt b), u1, u2, u3, u4, u5, (pt b), (.bool x1), (.bool (!x1)), (pt b), (.agg #[sv]), (pt b), (.int .i64 (x2 : Nat)), (.int .i64 (1 + (x2 : Int))), y1, (pt b), (.agg #[sv]), (pt b), (.int .i64 (x3 : Nat)), (.int .i64 (1 + (x3 : Int))), y2, (.agg #[.bool (!x1), y1, y2]), u22, u23, u24, u25, u26], df⟩ w := by
  refine wpAnyH_ready (H.row 10 rfl) (by simp) ?_
  obtain ⟨o, a1, a2, a3, a4⟩ := H.h16
  refine AllReadyH.cons a1 (fun K hK => ?_) ?_
  · refine lt_box a2 a4 ?_
    have hl' := hl.alloc (.cells #[.bool false, .slice none 0 0, .slice none 0 0] 91)
    rw [a3]
    simp only [Act.put, List.setIfInBounds_toArray, List.set_cons_zero, List.set_cons_succ]
    refine hK.out _ _ (hS _ (by obtain ⟨_, _, _, _, h4⟩ := hl'; exact h4)) (fun _ => ?_)
    exact lt5_1 H HK hQ hS hb hn hk hdr hblo hsv  x1 x2 y1 s1 x3 y2 s2 w.heap.size _ (Lb.new w _) hl.size hl' hx2 (t1.alloc _) hx3 (t2.alloc _)
  exact AllReadyH.nil
theorem lt4_1 {ops : Array Oper} {Q : Exit → Act → World → Prop} {S : World → Prop} {b n k lo hi : Nat} {sv : Value} {ar : List Int} {w0 : World} {df : List Deferred} {u1 u2 u3 u4 u22 u23 u24 u25 u26 : Value} (H : LtReg ops) (HK : LtTail ops Q S b n k w0 df sv u1 u2 u3 u4 u22 u23 u24 u25 u26) (hQ : ∀ c a d v w, Q (.panic c) (Act.put a d v) w → Q (.panic c) a w) (hS : ∀ w, Chg b (b+1) w0 w → S w) (hb : b < w0.heap.size) (hn : n ≤ 1099511627776) (hk : k ≤ 300000000000) (hdr : drawn ar) (hblo : b < lo) (hsv : SlI lo hi w0 sv ar) (u20 u21 : Value) (x1 : Bool) (x2 : Nat) (y1 : Value) (s1 : List Int) (x3 : Nat) (g : Nat) (w : World) (z : Zb w g) (lg : w0.heap.size ≤ g) (hl : LF b n k 4006 w0 w) (hx2 : x2 < 3) (t1 : TF w0 w y1 s1) (hx3 : x3 < 2) : wpAnyH Try.prog .any ops Q S 3 #[true, true, true, true, true, true, true, true, true, true, true, true, true, true, false, false, true, false] ⟨#[(pt b), u1, u2, u3, u4, (pt g), (pt b), (.bool x1), (.bool (!x1)), (pt b), (.agg #[sv]), (pt b), (.int .i64 (x2 : Nat)), (.int .i64 (1 + (x2 : Int))), y1, (pt b), (.agg #[sv]), (pt b), (.int .i64 (x3 : Nat)), (.int .i64 (1 + (x3 : Int))), u20, u21, u22, u23, u24, u25, u26], df⟩ w := by
  refine wpAnyH_ready (H.row 9 rfl) (by simp) ?_
  obtain ⟨o, tys, a1, a2, a3, a4⟩ := H.h14
  refine AllReadyH.cons a1 (fun K hK => ?_) ?_
  · refine lt_term a2 a4 (by simpa [Act.eval] using (term_l x3 (by omega) hn (by omega) hdr hblo hsv hl)) ?_
    rintro e w' ⟨y2, s2, rfl, t2, hl', hg'⟩
    have hc' : Chg b (b+1) w0 w' := by obtain ⟨_, _, _, _, h4⟩ := hl'; exact h4
    refine ⟨_, rfl, ?_⟩
    rw [a3]
    simp only [Act.put, List.setIfInBounds_toArray, List.set_cons_zero, List.set_cons_succ]
    refine hK.out _ _ (hS _ hc') (fun _ => ?_)
    have z' := z.chg hg' (by omega)
    have t1' := t1.chg hg' hb
    obtain ⟨oq, b1, b2, b3, b4⟩ := H.h15
    refine wpAnyH_take (v := (.agg #[.bool (!x1), y1, y2])) b1 H.s (H.take 7 rfl).1 (H.take 7 rfl).2 (fun c a w => hQ c a _ _ w) (Or.inl ⟨wanted_plain b2, fun w2 _ => ?_⟩) (hS _ hc') ?_
    · obtain ⟨_, _, e1⟩ := TF.form t1
      obtain ⟨_, _, e2⟩ := TF.form t2
      subst e1 e2
      obtain ⟨dst, op, type, pos, after, guard⟩ := oq
      simp only at b4
      subst b4
      go_simp
      try rfl
    rw [b3]
    simp only [Act.put, List.setIfInBounds_toArray, List.set_cons_zero, List.set_cons_succ]
    exact lt5_1 H HK hQ hS hb hn hk hdr hblo hsv  x1 x2 y1 s1 x3 y2 s2 g _ z' lg hl' hx2 t1' hx3 t2
  exact AllReadyH.nil
theorem lt4_0 {ops : Array Oper} {Q : Exit → Act → World → Prop} {S : World → Prop} {b n k lo hi : Nat} {sv : Value} {ar : List Int} {w0 : World} {df : List Deferred} {u1 u2 u3 u4 u22 u23 u24 u25 u26 : Value} (H : LtReg ops) (HK : LtTail ops Q S b n k w0 df sv u1 u2 u3 u4 u22 u23 u24 u25 u26) (hQ : ∀ c a d v w, Q (.panic c) (Act.put a d v) w → Q (.panic c) a w) (hS : ∀ w, Chg b (b+1) w0 w → S w) (hb : b < w0.heap.size) (hn : n ≤ 1099511627776) (hk : k ≤ 300000000000) (hdr : drawn ar) (hblo : b < lo) (hsv : SlI lo hi w0 sv ar) (u5 u20 u21 : Value) (x1 : Bool) (x2 : Nat) (y1 : Value) (s1 : List Int) (x3 : Nat) (w : World) (hl : LF b n k 4006 w0 w) (hx2 : x2 < 3) (t1 : TF w0 w y1 s1) (hx3 : x3 < 2) : wpAnyH Try.prog .any ops Q S 4 #[true, true, true, true, true, true, true, true, true, true, true, true, true, true, false, false, false, false] ⟨#[(pt b), u1, u2, u3, u4, u5, (pt b), (.bool x1), (.bool (!x1)), (pt b), (.agg #[sv]), (pt b), (.int .i64 (x2 : Nat)), (.int .i64 (1 + (x2 : Int))), y1, (pt b), (.agg #[sv]), (pt b), (.int .i64 (x3 : Nat)), (.int .i64 (1 + (x3 : Int))), u20, u21, u22, u23, u24, u25, u26], df⟩ w := by
  refine wpAnyH_ready (H.row 8 rfl) (by simp) ?_
  obtain ⟨o, tys, a1, a2, a3, a4⟩ := H.h14
  refine AllReadyH.cons a1 (fun K hK => ?_) ?_
  · refine lt_term a2 a4 (by simpa [Act.eval] using (term_l x3 (by omega) hn (by omega) hdr hblo hsv hl)) ?_
    rintro e w' ⟨y2, s2, rfl, t2, hl', hg'⟩
    have hc' : Chg b (b+1) w0 w' := by obtain ⟨_, _, _, _, h4⟩ := hl'; exact h4
    refine ⟨_, rfl, ?_⟩
    rw [a3]
    simp only [Act.put, List.setIfInBounds_toArray, List.set_cons_zero, List.set_cons_succ]
    refine hK.out _ _ (hS _ hc') (fun _ => ?_)
    have t1' := t1.chg hg' hb
    obtain ⟨oq, b1, b2, b3, b4⟩ := H.h15
    refine wpAnyH_take (v := (.agg #[.bool (!x1), y1, y2])) b1 H.s (H.take 6 rfl).1 (H.take 6 rfl).2 (fun c a w => hQ c a _ _ w) (Or.inl ⟨wanted_plain b2, fun w2 _ => ?_⟩) (hS _ hc') ?_
    · obtain ⟨_, _, e1⟩ := TF.form t1
      obtain ⟨_, _, e2⟩ := TF.form t2
      subst e1 e2
      obtain ⟨dst, op, type, pos, after, guard⟩ := oq
      simp only at b4
      subst b4
      go_simp
      try rfl
    rw [b3]
    simp only [Act.put, List.setIfInBounds_toArray, List.set_cons_zero, List.set_cons_succ]
    exact lt5_0 H HK hQ hS hb hn hk hdr hblo hsv u5 x1 x2 y1 s1 x3 y2 s2 _ hl' hx2 t1' hx3 t2
  obtain ⟨o, a1, a2, a3, a4⟩ := H.h16
  refine AllReadyH.cons a1 (fun K hK => ?_) ?_
  · refine lt_box a2 a4 ?_
    have hl' := hl.alloc (.cells #[.bool false, .slice none 0 0, .slice none 0 0] 91)
    rw [a3]
    simp only [Act.put, List.setIfInBounds_toArray, List.set_cons_zero, List.set_cons_succ]
    refine hK.out _ _ (hS _ (by obtain ⟨_, _, _, _, h4⟩ := hl'; exact h4)) (fun _ => ?_)
    exact lt4_1 H HK hQ hS hb hn hk hdr hblo hsv u20 u21 x1 x2 y1 s1 x3 w.heap.size _ (Lb.new w _) hl.size hl' hx2 (t1.alloc _) hx3
  exact AllReadyH.nil
theorem lt3_1 {ops : Array Oper} {Q : Exit → Act → World → Prop} {S : World → Prop} {b n k lo hi : Nat} {sv : Value} {ar : List Int} {w0 : World} {df : List Deferred} {u1 u2 u3 u4 u22 u23 u24 u25 u26 : Value} (H : LtReg ops) (HK : LtTail ops Q S b n k w0 df sv u1 u2 u3 u4 u22 u23 u24 u25 u26) (hQ : ∀ c a d v w, Q (.panic c) (Act.put a d v) w → Q (.panic c) a w) (hS : ∀ w, Chg b (b+1) w0 w → S w) (hb : b < w0.heap.size) (hn : n ≤ 1099511627776) (hk : k ≤ 300000000000) (hdr : drawn ar) (hblo : b < lo) (hsv : SlI lo hi w0 sv ar) (u18 u19 u20 u21 : Value) (x1 : Bool) (x2 : Nat) (y1 : Value) (s1 : List Int) (g : Nat) (w : World) (z : Zb w g) (lg : w0.heap.size ≤ g) (hl : LF b n k 4004 w0 w) (hx2 : x2 < 3) (t1 : TF w0 w y1 s1) : wpAnyH Try.prog .any ops Q S 5 #[true, true, true, true, true, true, true, true, true, true, true, true, false, false, false, false, true, false] ⟨#[(pt b), u1, u2, u3, u4, (pt g), (pt b), (.bool x1), (.bool (!x1)), (pt b), (.agg #[sv]), (pt b), (.int .i64 (x2 : Nat)), (.int .i64 (1 + (x2 : Int))), y1, (pt b), (.agg #[sv]), (pt b), u18, u19, u20, u21, u22, u23, u24, u25, u26], df⟩ w := by
  refine wpAnyH_ready (H.row 7 rfl) (by simp) ?_
  obtain ⟨o, tys, a1, a2, a3, a4⟩ := H.h12
  refine AllReadyH.cons a1 (fun K hK => ?_) ?_
  · refine lt_pick _ a2 a4 (by simpa [Act.eval] using (pick_l 2 2 rfl (by omega) (by omega) hn (by omega) hl)) ?_
    rintro e w' ⟨x3, hx3, rfl, hl', hg'⟩
    have hc' : Chg b (b+1) w0 w' := by obtain ⟨_, _, _, _, h4⟩ := hl'; exact h4
    refine ⟨_, rfl, ?_⟩
    rw [a3]
    simp only [Act.put, List.setIfInBounds_toArray, List.set_cons_zero, List.set_cons_succ]
    refine hK.out _ _ (hS _ hc') (fun _ => ?_)
    have z' := z.chg hg' (by omega)
    have t1' := t1.chg hg' hb
    obtain ⟨oq, b1, b2, b3, b4⟩ := H.h13
    refine wpAnyH_take (v := (.int .i64 (1 + (x3 : Int)))) b1 H.s (H.take 5 rfl).1 (H.take 5 rfl).2 (fun c a w => hQ c a _ _ w) (Or.inl ⟨wanted_plain b2, fun w2 _ => ?_⟩) (hS _ hc') ?_
    · have hw := IntWalk.i64_in (1 + (x3 : Int)) (by omega)
      obtain ⟨dst, op, type, pos, after, guard⟩ := oq
      simp only at b4
      subst b4
      go_simp
      try rfl
    rw [b3]
    simp only [Act.put, List.setIfInBounds_toArray, List.set_cons_zero, List.set_cons_succ]
    exact lt4_1 H HK hQ hS hb hn hk hdr hblo hsv u20 u21 x1 x2 y1 s1 x3 g _ z' lg hl' hx2 t1' hx3
  exact AllReadyH.nil
theorem lt3_0 {ops : Array Oper} {Q : Exit → Act → World → Prop} {S : World → Prop} {b n k lo hi : Nat} {sv : Value} {ar : List Int} {w0 : World} {df : List Deferred} {u1 u2 u3 u4 u22 u23 u24 u25 u26 : Value} (H : LtReg ops) (HK : LtTail ops Q S b n k w0 df sv u1 u2 u3 u4 u22 u23 u24 u25 u26) (hQ : ∀ c a d v w, Q (.panic c) (Act.put a d v) w → Q (.panic c) a w) (hS : ∀ w, Chg b (b+1) w0 w → S w) (hb : b < w0.heap.size) (hn : n ≤ 1099511627776) (hk : k ≤ 300000000000) (hdr : drawn ar) (hblo : b < lo) (hsv : SlI lo hi w0 sv ar) (u5 u18 u19 u20 u21 : Value) (x1 : Bool) (x2 : Nat) (y1 : Value) (s1 : List Int) (w : World) (hl : LF b n k 4004 w0 w) (hx2 : x2 < 3) (t1 : TF w0 w y1 s1) : wpAnyH Try.prog .any ops Q S 6 #[true, true, true, true, true, true, true, true, true, true, true, true, false, false, false, false, false, false] ⟨#[(pt b), u1, u2, u3, u4, u5, (pt b), (.bool x1), (.bool (!x1)), (pt b), (.agg #[sv]), (pt b), (.int .i64 (x2 : Nat)), (.int .i64 (1 + (x2 : Int))), y1, (pt b), (.agg #[sv]), (pt b), u18, u19, u20, u21, u22, u23, u24, u25, u26], df⟩ w := by
  refine wpAnyH_ready (H.row 6 rfl) (by simp) ?_
  obtain ⟨o, tys, a1, a2, a3, a4⟩ := H.h12
  refine AllReadyH.cons a1 (fun K hK => ?_) ?_
  · refine lt_pick _ a2 a4 (by simpa [Act.eval] using (pick_l 2 2 rfl (by omega) (by omega) hn (by omega) hl)) ?_
    rintro e w' ⟨x3, hx3, rfl, hl', hg'⟩
    have hc' : Chg b (b+1) w0 w' := by obtain ⟨_, _, _, _, h4⟩ := hl'; exact h4
    refine ⟨_, rfl, ?_⟩
    rw [a3]
    simp only [Act.put, List.setIfInBounds_toArray, List.set_cons_zero, List.set_cons_succ]
    refine hK.out _ _ (hS _ hc') (fun _ => ?_)
    have t1' := t1.chg hg' hb
    obtain ⟨oq, b1, b2, b3, b4⟩ := H.h13
    refine wpAnyH_take (v := (.int .i64 (1 + (x3 : Int)))) b1 H.s (H.take 4 rfl).1 (H.take 4 rfl).2 (fun c a w => hQ c a _ _ w) (Or.inl ⟨wanted_plain b2, fun w2 _ => ?_⟩) (hS _ hc') ?_
    · have hw := IntWalk.i64_in (1 + (x3 : Int)) (by omega)
      obtain ⟨dst, op, type, pos, after, guard⟩ := oq
      simp only at b4
      subst b4
      go_simp
      try rfl
    rw [b3]
    simp only [Act.put, List.setIfInBounds_toArray, List.set_cons_zero, List.set_cons_succ]
    exact lt4_0 H HK hQ hS hb hn hk hdr hblo hsv u5 u20 u21 x1 x2 y1 s1 x3 _ hl' hx2 t1' hx3
  obtain ⟨o, a1, a2, a3, a4⟩ := H.h16
  refine AllReadyH.cons a1 (fun K hK => ?_) ?_
  · refine lt_box a2 a4 ?_
    have hl' := hl.alloc (.cells #[.bool false, .slice none 0 0, .slice none 0 0] 91)
    rw [a3]
    simp only [Act.put, List.setIfInBounds_toArray, List.set_cons_zero, List.set_cons_succ]
    refine hK.out _ _ (hS _ (by obtain ⟨_, _, _, _, h4⟩ := hl'; exact h4)) (fun _ => ?_)
    exact lt3_1 H HK hQ hS hb hn hk hdr hblo hsv u18 u19 u20 u21 x1 x2 y1 s1 w.heap.size _ (Lb.new w _) hl.size hl' hx2 (t1.alloc _)
  exact AllReadyH.nil
theorem lt2_1 {ops : Array Oper} {Q : Exit → Act → World → Prop} {S : World → Prop} {b n k lo hi : Nat} {sv : Value} {ar : List Int} {w0 : World} {df : List Deferred} {u1 u2 u3 u4 u22 u23 u24 u25 u26 : Value} (H : LtReg ops) (HK : LtTail ops Q S b n k w0 df sv u1 u2 u3 u4 u22 u23 u24 u25 u26) (hQ : ∀ c a d v w, Q (.panic c) (Act.put a d v) w → Q (.panic c) a w) (hS : ∀ w, Chg b (b+1) w0 w → S w) (hb : b < w0.heap.size) (hn : n ≤ 1099511627776) (hk : k ≤ 300000000000) (hdr : drawn ar) (hblo : b < lo) (hsv : SlI lo hi w0 sv ar) (u14 u18 u19 u20 u21 : Value) (x1 : Bool) (x2 : Nat) (g : Nat) (w : World) (z : Zb w g) (lg : w0.heap.size ≤ g) (hl : LF b n k 4 w0 w) (hx2 : x2 < 3) : wpAnyH Try.prog .any ops Q S 6 #[true, true, true, true, true, true, true, true, false, true, true, true, false, false, false, false, true, false] ⟨#[(pt b), u1, u2, u3, u4, (pt g), (pt b), (.bool x1), (.bool (!x1)), (pt b), (.agg #[sv]), (pt b), (.int .i64 (x2 : Nat)), (.int .i64 (1 + (x2 : Int))), u14, (pt b), (.agg #[sv]), (pt b), u18, u19, u20, u21, u22, u23, u24, u25, u26], df⟩ w := by
  refine wpAnyH_ready (H.row 5 rfl) (by simp) ?_
  obtain ⟨o, tys, a1, a2, a3, a4⟩ := H.h8
  refine AllReadyH.cons a1 (fun K hK => ?_) ?_
  · refine lt_term a2 a4 (by simpa [Act.eval] using (term_l x2 hx2 hn (by omega) hdr hblo hsv hl)) ?_
    rintro e w' ⟨y1, s1, rfl, t1, hl', hg'⟩
    have hc' : Chg b (b+1) w0 w' := by obtain ⟨_, _, _, _, h4⟩ := hl'; exact h4
    refine ⟨_, rfl, ?_⟩
    rw [a3]
    simp only [Act.put, List.setIfInBounds_toArray, List.set_cons_zero, List.set_cons_succ]
    refine hK.out _ _ (hS _ hc') (fun _ => ?_)
    have z' := z.chg hg' (by omega)
    exact lt3_1 H HK hQ hS hb hn hk hdr hblo hsv u18 u19 u20 u21 x1 x2 y1 s1 g _ z' lg hl' hx2 t1
  exact AllReadyH.nil
theorem lt2_0 {ops : Array Oper} {Q : Exit → Act → World → Prop} {S : World → Prop} {b n k lo hi : Nat} {sv : Value} {ar : List Int} {w0 : World} {df : List Deferred} {u1 u2 u3 u4 u22 u23 u24 u25 u26 : Value} (H : LtReg ops) (HK : LtTail ops Q S b n k w0 df sv u1 u2 u3 u4 u22 u23 u24 u25 u26) (hQ : ∀ c a d v w, Q (.panic c) (Act.put a d v) w → Q (.panic c) a w) (hS : ∀ w, Chg b (b+1) w0 w → S w) (hb : b < w0.heap.size) (hn : n ≤ 1099511627776) (hk : k ≤ 300000000000) (hdr : drawn ar) (hblo : b < lo) (hsv : SlI lo hi w0 sv ar) (u5 u14 u18 u19 u20 u21 : Value) (x1 : Bool) (x2 : Nat) (w : World) (hl : LF b n k 4 w0 w) (hx2 : x2 < 3) : wpAnyH Try.prog .any ops Q S 7 #[true, true, true, true, true, true, true, true, false, true, true, true, false, false, false, false, false, false] ⟨#[(pt b), u1, u2, u3, u4, u5, (pt b), (.bool x1), (.bool (!x1)), (pt b), (.agg #[sv]), (pt b), (.int .i64 (x2 : Nat)), (.int .i64 (1 + (x2 : Int))), u14, (pt b), (.agg #[sv]), (pt b), u18, u19, u20, u21, u22, u23, u24, u25, u26], df⟩ w := by
  refine wpAnyH_ready (H.row 4 rfl) (by simp) ?_
  obtain ⟨o, tys, a1, a2, a3, a4⟩ := H.h8
  refine AllReadyH.cons a1 (fun K hK => ?_) ?_
  · refine lt_term a2 a4 (by simpa [Act.eval] using (term_l x2 hx2 hn (by omega) hdr hblo hsv hl)) ?_
    rintro e w' ⟨y1, s1, rfl, t1, hl', hg'⟩
    have hc' : Chg b (b+1) w0 w' := by obtain ⟨_, _, _, _, h4⟩ := hl'; exact h4
    refine ⟨_, rfl, ?_⟩
    rw [a3]
    simp only [Act.put, List.setIfInBounds_toArray, List.set_cons_zero, List.set_cons_succ]
    refine hK.out _ _ (hS _ hc') (fun _ => ?_)
    exact lt3_0 H HK hQ hS hb hn hk hdr hblo hsv u5 u18 u19 u20 u21 x1 x2 y1 s1 _ hl' hx2 t1
  obtain ⟨o, a1, a2, a3, a4⟩ := H.h16
  refine AllReadyH.cons a1 (fun K hK => ?_) ?_
  · refine lt_box a2 a4 ?_
    have hl' := hl.alloc (.cells #[.bool false, .slice none 0 0, .slice none 0 0] 91)
    rw [a3]
    simp only [Act.put, List.setIfInBounds_toArray, List.set_cons_zero, List.set_cons_succ]
    refine hK.out _ _ (hS _ (by obtain ⟨_, _, _, _, h4⟩ := hl'; exact h4)) (fun _ => ?_)
    exact lt2_1 H HK hQ hS hb hn hk hdr hblo hsv u14 u18 u19 u20 u21 x1 x2 w.heap.size _ (Lb.new w _) hl.size hl' hx2
  exact AllReadyH.nil
theorem lt1_1 {ops : Array Oper} {Q : Exit → Act → World → Prop} {S : World → Prop} {b n k lo hi : Nat} {sv : Value} {ar : List Int} {w0 : World} {df : List Deferred} {u1 u2 u3 u4 u22 u23 u24 u25 u26 : Value} (H : LtReg ops) (HK : LtTail ops Q S b n k w0 df sv u1 u2 u3 u4 u22 u23 u24 u25 u26) (hQ : ∀ c a d v w, Q (.panic c) (Act.put a d v) w → Q (.panic c) a w) (hS : ∀ w, Chg b (b+1) w0 w → S w) (hb : b < w0.heap.size) (hn : n ≤ 1099511627776) (hk : k ≤ 300000000000) (hdr : drawn ar) (hblo : b < lo) (hsv : SlI lo hi w0 sv ar) (u12 u13 u14 u18 u19 u20 u21 : Value) (x1 : Bool) (g : Nat) (w : World) (z : Zb w g) (lg : w0.heap.size ≤ g) (hl : LF b n k 2 w0 w) : wpAnyH Try.prog .any ops Q S 8 #[true, true, true, true, true, true, false, false, false, true, true, true, false, false, false, false, true, false] ⟨#[(pt b), u1, u2, u3, u4, (pt g), (pt b), (.bool x1), (.bool (!x1)), (pt b), (.agg #[sv]), (pt b), u12, u13, u14, (pt b), (.agg #[sv]), (pt b), u18, u19, u20, u21, u22, u23, u24, u25, u26], df⟩ w := by
  refine wpAnyH_ready (H.row 3 rfl) (by simp) ?_
  obtain ⟨o, tys, a1, a2, a3, a4⟩ := H.h6
  refine AllReadyH.cons a1 (fun K hK => ?_) ?_
  · refine lt_pick _ a2 a4 (by simpa [Act.eval] using (pick_l 3 3 rfl (by omega) (by omega) hn (by omega) hl)) ?_
    rintro e w' ⟨x2, hx2, rfl, hl', hg'⟩
    have hc' : Chg b (b+1) w0 w' := by obtain ⟨_, _, _, _, h4⟩ := hl'; exact h4
    refine ⟨_, rfl, ?_⟩
    rw [a3]
    simp only [Act.put, List.setIfInBounds_toArray, List.set_cons_zero, List.set_cons_succ]
    refine hK.out _ _ (hS _ hc') (fun _ => ?_)
    have z' := z.chg hg' (by omega)
    obtain ⟨oq, b1, b2, b3, b4⟩ := H.h7
    refine wpAnyH_take (v := (.int .i64 (1 + (x2 : Int)))) b1 H.s (H.take 3 rfl).1 (H.take 3 rfl).2 (fun c a w => hQ c a _ _ w) (Or.inl ⟨wanted_plain b2, fun w2 _ => ?_⟩) (hS _ hc') ?_
    · have hw := IntWalk.i64_in (1 + (x2 : Int)) (by omega)
      obtain ⟨dst, op, type, pos, after, guard⟩ := oq
      simp only at b4
      subst b4
      go_simp
      try rfl
    rw [b3]
    simp only [Act.put, List.setIfInBounds_toArray, List.set_cons_zero, List.set_cons_succ]
    exact lt2_1 H HK hQ hS hb hn hk hdr hblo hsv u14 u18 u19 u20 u21 x1 x2 g _ z' lg hl' hx2
  exact AllReadyH.nil
theorem lt1_0 {ops : Array Oper} {Q : Exit → Act → World → Prop} {S : World → Prop} {b n k lo hi : Nat} {sv : Value} {ar : List Int} {w0 : World} {df : List Deferred} {u1 u2 u3 u4 u22 u23 u24 u25 u26 : Value} (H : LtReg ops) (HK : LtTail ops Q S b n k w0 df sv u1 u2 u3 u4 u22 u23 u24 u25 u26) (hQ : ∀ c a d v w, Q (.panic c) (Act.put a d v) w → Q (.panic c) a w) (hS : ∀ w, Chg b (b+1) w0 w → S w) (hb : b < w0.heap.size) (hn : n ≤ 1099511627776) (hk : k ≤ 300000000000) (hdr : drawn ar) (hblo : b < lo) (hsv : SlI lo hi w0 sv ar) (u5 u12 u13 u14 u18 u19 u20 u21 : Value) (x1 : Bool) (w : World) (hl : LF b n k 2 w0 w) : wpAnyH Try.prog .any ops Q S 9 #[true, true, true, true, true, true, false, false, false, true, true, true, false, false, false, false, false, false] ⟨#[(pt b), u1, u2, u3, u4, u5, (pt b), (.bool x1), (.bool (!x1)), (pt b), (.agg #[sv]), (pt b), u12, u13, u14, (pt b), (.agg #[sv]), (pt b), u18, u19, u20, u21, u22, u23, u24, u25, u26], df⟩ w := by
  refine wpAnyH_ready (H.row 2 rfl) (by simp) ?_
  obtain ⟨o, tys, a1, a2, a3, a4⟩ := H.h6
  refine AllReadyH.cons a1 (fun K hK => ?_) ?_
  · refine lt_pick _ a2 a4 (by simpa [Act.eval] using (pick_l 3 3 rfl (by omega) (by omega) hn (by omega) hl)) ?_
    rintro e w' ⟨x2, hx2, rfl, hl', hg'⟩
    have hc' : Chg b (b+1) w0 w' := by obtain ⟨_, _, _, _, h4⟩ := hl'; exact h4
    refine ⟨_, rfl, ?_⟩
    rw [a3]
    simp only [Act.put, List.setIfInBounds_toArray, List.set_cons_zero, List.set_cons_succ]
    refine hK.out _ _ (hS _ hc') (fun _ => ?_)
    obtain ⟨oq, b1, b2, b3, b4⟩ := H.h7
    refine wpAnyH_take (v := (.int .i64 (1 + (x2 : Int)))) b1 H.s (H.take 2 rfl).1 (H.take 2 rfl).2 (fun c a w => hQ c a _ _ w) (Or.inl ⟨wanted_plain b2, fun w2 _ => ?_⟩) (hS _ hc') ?_
    · have hw := IntWalk.i64_in (1 + (x2 : Int)) (by omega)
      obtain ⟨dst, op, type, pos, after, guard⟩ := oq
      simp only at b4
      subst b4
      go_simp
      try rfl
    rw [b3]
    simp only [Act.put, List.setIfInBounds_toArray, List.set_cons_zero, List.set_cons_succ]
    exact lt2_0 H HK hQ hS hb hn hk hdr hblo hsv u5 u14 u18 u19 u20 u21 x1 x2 _ hl' hx2
  obtain ⟨o, a1, a2, a3, a4⟩ := H.h16
  refine AllReadyH.cons a1 (fun K hK => ?_) ?_
  · refine lt_box a2 a4 ?_
    have hl' := hl.alloc (.cells #[.bool false, .slice none 0 0, .slice none 0 0] 91)
    rw [a3]
    simp only [Act.put, List.setIfInBounds_toArray, List.set_cons_zero, List.set_cons_succ]
    refine hK.out _ _ (hS _ (by obtain ⟨_, _, _, _, h4⟩ := hl'; exact h4)) (fun _ => ?_)
    exact lt1_1 H HK hQ hS hb hn hk hdr hblo hsv u12 u13 u14 u18 u19 u20 u21 x1 w.heap.size _ (Lb.new w _) hl.size hl'
  exact AllReadyH.nil
theorem lt0_1 {ops : Array Oper} {Q : Exit → Act → World → Prop} {S : World → Prop} {b n k lo hi : Nat} {sv : Value} {ar : List Int} {w0 : World} {df : List Deferred} {u1 u2 u3 u4 u22 u23 u24 u25 u26 : Value} (H : LtReg ops) (HK : LtTail ops Q S b n k w0 df sv u1 u2 u3 u4 u22 u23 u24 u25 u26) (hQ : ∀ c a d v w, Q (.panic c) (Act.put a d v) w → Q (.panic c) a w) (hS : ∀ w, Chg b (b+1) w0 w → S w) (hb : b < w0.heap.size) (hn : n ≤ 1099511627776) (hk : k ≤ 300000000000) (hdr : drawn ar) (hblo : b < lo) (hsv : SlI lo hi w0 sv ar) (u7 u8 u12 u13 u14 u18 u19 u20 u21 : Value) (g : Nat) (w : World) (z : Zb w g) (lg : w0.heap.size ≤ g) (hl : LF b n k 0 w0 w) : wpAnyH Try.prog .any ops Q S 10 #[true, false, false, true, true, true, false, false, false, true, true, true, false, false, false, false, true, false] ⟨#[(pt b), u1, u2, u3, u4, (pt g), (pt b), u7, u8, (pt b), (.agg #[sv]), (pt b), u12, u13, u14, (pt b), (.agg #[sv]), (pt b), u18, u19, u20, u21, u22, u23, u24, u25, u26], df⟩ w := by
  refine wpAnyH_ready (H.row 1 rfl) (by simp) ?_
  obtain ⟨o, tys, a1, a2, a3, a4⟩ := H.h1
  refine AllReadyH.cons a1 (fun K hK => ?_) ?_
  · refine lt_one a2 a4 (by simpa [Act.eval] using (one_l hn (by omega) hl)) ?_
    rintro e w' ⟨x1, rfl, hl', hg'⟩
    have hc' : Chg b (b+1) w0 w' := by obtain ⟨_, _, _, _, h4⟩ := hl'; exact h4
    refine ⟨_, rfl, ?_⟩
    rw [a3]
    simp only [Act.put, List.setIfInBounds_toArray, List.set_cons_zero, List.set_cons_succ]
    refine hK.out _ _ (hS _ hc') (fun _ => ?_)
    have z' := z.chg hg' (by omega)
    obtain ⟨oq, tq, b1, b2, b3, b4⟩ := H.h2
    refine wpAnyH_take (v := (.bool (!x1))) b1 H.s (H.take 1 rfl).1 (H.take 1 rfl).2 (fun c a w => hQ c a _ _ w) (Or.inl ⟨wanted_plain b2, fun w2 _ => ?_⟩) (hS _ hc') ?_
    · obtain ⟨dst, op, type, pos, after, guard⟩ := oq
      simp only at b4
      subst b4
      go_simp
      try rfl
    rw [b3]
    simp only [Act.put, List.setIfInBounds_toArray, List.set_cons_zero, List.set_cons_succ]
    exact lt1_1 H HK hQ hS hb hn hk hdr hblo hsv u12 u13 u14 u18 u19 u20 u21 x1 g _ z' lg hl'
  exact AllReadyH.nil
theorem lt0_0 {ops : Array Oper} {Q : Exit → Act → World → Prop} {S : World → Prop} {b n k lo hi : Nat} {sv : Value} {ar : List Int} {w0 : World} {df : List Deferred} {u1 u2 u3 u4 u22 u23 u24 u25 u26 : Value} (H : LtReg ops) (HK : LtTail ops Q S b n k w0 df sv u1 u2 u3 u4 u22 u23 u24 u25 u26) (hQ : ∀ c a d v w, Q (.panic c) (Act.put a d v) w → Q (.panic c) a w) (hS : ∀ w, Chg b (b+1) w0 w → S w) (hb : b < w0.heap.size) (hn : n ≤ 1099511627776) (hk : k ≤ 300000000000) (hdr : drawn ar) (hblo : b < lo) (hsv : SlI lo hi w0 sv ar) (u5 u7 u8 u12 u13 u14 u18 u19 u20 u21 : Value) (w : World) (hl : LF b n k 0 w0 w) : wpAnyH Try.prog .any ops Q S 11 #[true, false, false, true, true, true, false, false, false, true, true, true, false, false, false, false, false, false] ⟨#[(pt b), u1, u2, u3, u4, u5, (pt b), u7, u8, (pt b), (.agg #[sv]), (pt b), u12, u13, u14, (pt b), (.agg #[sv]), (pt b), u18, u19, u20, u21, u22, u23, u24, u25, u26], df⟩ w := by
  refine wpAnyH_ready (H.row 0 rfl) (by simp) ?_
  obtain ⟨o, tys, a1, a2, a3, a4⟩ := H.h1
  refine AllReadyH.cons a1 (fun K hK => ?_) ?_
  · refine lt_one a2 a4 (by simpa [Act.eval] using (one_l hn (by omega) hl)) ?_
    rintro e w' ⟨x1, rfl, hl', hg'⟩
    have hc' : Chg b (b+1) w0 w' := by obtain ⟨_, _, _, _, h4⟩ := hl'; exact h4
    refine ⟨_, rfl, ?_⟩
    rw [a3]
    simp only [Act.put, List.setIfInBounds_toArray, List.set_cons_zero, List.set_cons_succ]
    refine hK.out _ _ (hS _ hc') (fun _ => ?_)
    obtain ⟨oq, tq, b1, b2, b3, b4⟩ := H.h2
    refine wpAnyH_take (v := (.bool (!x1))) b1 H.s (H.take 0 rfl).1 (H.take 0 rfl).2 (fun c a w => hQ c a _ _ w) (Or.inl ⟨wanted_plain b2, fun w2 _ => ?_⟩) (hS _ hc') ?_
    · obtain ⟨dst, op, type, pos, after, guard⟩ := oq
      simp only at b4
      subst b4
      go_simp
      try rfl
    rw [b3]
    simp only [Act.put, List.setIfInBounds_toArray, List.set_cons_zero, List.set_cons_succ]
    exact lt1_0 H HK hQ hS hb hn hk hdr hblo hsv u5 u12 u13 u14 u18 u19 u20 u21 x1 _ hl'
  obtain ⟨o, a1, a2, a3, a4⟩ := H.h16
  refine AllReadyH.cons a1 (fun K hK => ?_) ?_
  · refine lt_box a2 a4 ?_
    have hl' := hl.alloc (.cells #[.bool false, .slice none 0 0, .slice none 0 0] 91)
    rw [a3]
    simp only [Act.put, List.setIfInBounds_toArray, List.set_cons_zero, List.set_cons_succ]
    refine hK.out _ _ (hS _ (by obtain ⟨_, _, _, _, h4⟩ := hl'; exact h4)) (fun _ => ?_)
    exact lt0_1 H HK hQ hS hb hn hk hdr hblo hsv u7 u8 u12 u13 u14 u18 u19 u20 u21  w.heap.size _ (Lb.new w _) hl.size hl'
  exact AllReadyH.nil
end Go.Proofs.Yteegjnobmbcjiaa.Rl
end
section
/- The laws' helpers over literals and slices of literals, by contracts: sizes and copies. -/
namespace Go.Proofs.Yteegjnobmbcjiaa
open Go.RowKit

set_option maxRecDepth 100000 in
set_option maxHeartbeats 400000 in
theorem szLit_c (l h : Nat) (p : Bool) (u1 u2 : Value) (xl xr : List Int) (left : Int) (w : World) (hl : xl.length ≤ 9223372036854775807) (hr : xr.length ≤ 9223372036854775807) (h0 : 0 ≤ left) (h1 : left ≤ 1048576) (hv1 : SlI l h w u1 xl) (hv2 : SlI l h w u2 xr) :
    Calls Try.prog 144 #[.agg #[.bool p, u1, u2], .int .i64 left] w (RetV w (.int .i64 (szI (xl.length + xr.length) left))) := by
  have HB := Bel.alloc0 w (.cells #[.bool p, u1, u2] 155)
  by_cases hs : left - xl.length < 0
  · have E : Hid (szI (xl.length + xr.length) left = -1) := by show szI _ _ = _; unfold szI; rw [if_pos (by omega)]
    have e1 : szI xl.length left = -1 := by unfold szI; rw [if_pos hs]
    have HC := Lib.hid (szIntS_c l h u1 xl left _ hl h0 h1 (hv1.below HB))
    rw [e1] at HC
    clear hv1 hv2 hs e1
    go_enter Try.func144, Try.ntmps144
    go_wp2_with (go_at_call 53; refine HC.out.mono ?_; rintro e w' ⟨rfl, hb1⟩)
    go_ret
    exact ⟨by rw [E.out]; rfl, HB.step hb1⟩
  · have e1 : szI xl.length left = left - xl.length := by unfold szI; rw [if_neg hs]
    have HC := Lib.hid (szIntS_c l h u1 xl left _ hl h0 h1 (hv1.below HB))
    rw [e1] at HC
    have hz0 : 0 ≤ left - (xl.length : Int) := by omega
    have hz1 : left - (xl.length : Int) ≤ 1048576 := by omega
    by_cases hs2 : left - xl.length - xr.length < 0
    · have E : Hid (szI (xl.length + xr.length) left = -1) := by show szI _ _ = _; unfold szI; rw [if_pos (by omega)]
      have e2 : szI xr.length (left - xl.length) = -1 := by unfold szI; rw [if_pos hs2]
      have HD := Lib.hid (fun (w' : World) (hb : Bel (w.alloc (.cells #[.bool p, u1, u2] 155)) w') => szIntS_c l h u2 xr (left - xl.length) w' hr hz0 hz1 ((hv2.below HB).below hb))
      rw [e2] at HD
      clear hv1 hv2 hs e1 hs2 e2
      generalize left - (xl.length : Int) = z at *
      go_enter Try.func144, Try.ntmps144
      go_wp2_with fail
      refine HC.out.mono ?_; rintro e w1 ⟨rfl, hb1⟩
      have hbx := hb1.at (b := w.heap.size) (off := 2) (by simp) (show (w.alloc (.cells #[.bool p, u1, u2] 155)).cell? ⟨w.heap.size, 2, none⟩ = some u2 by simp)
      go_wp2_with fail
      refine (HD.out _ hb1).mono ?_; rintro e w2 ⟨rfl, hb2⟩
      go_wp2_with fail
      go_ret
      exact ⟨by rw [E.out]; rfl, (HB.step hb1).step hb2⟩
    · have E : Hid (szI (xl.length + xr.length) left = left - xl.length - xr.length) := by show szI _ _ = _; unfold szI; rw [if_neg (by omega)]; omega
      have e2 : szI xr.length (left - xl.length) = left - xl.length - xr.length := by unfold szI; rw [if_neg hs2]
      have HD := Lib.hid (fun (w' : World) (hb : Bel (w.alloc (.cells #[.bool p, u1, u2] 155)) w') => szIntS_c l h u2 xr (left - xl.length) w' hr hz0 hz1 ((hv2.below HB).below hb))
      rw [e2] at HD
      have hy0 : 0 ≤ left - (xl.length : Int) - xr.length := by omega
      clear hv1 hv2 hs e1 hs2 e2
      generalize left - (xl.length : Int) - (xr.length : Int) = y at *
      generalize left - (xl.length : Int) = z at *
      go_enter Try.func144, Try.ntmps144
      go_wp2_with fail
      refine HC.out.mono ?_; rintro e w1 ⟨rfl, hb1⟩
      have hbx := hb1.at (b := w.heap.size) (off := 2) (by simp) (show (w.alloc (.cells #[.bool p, u1, u2] 155)).cell? ⟨w.heap.size, 2, none⟩ = some u2 by simp)
      go_wp2_with fail
      refine (HD.out _ hb1).mono ?_; rintro e w2 ⟨rfl, hb2⟩
      go_wp2_with fail
      go_ret
      exact ⟨by rw [E.out]; rfl, (HB.step hb1).step hb2⟩

def szC (c : List Lt) (left : Int) : Int := if left - (sumC c : Nat) < 0 then -1 else left - (sumC c : Nat)
def lenC (c : List Lt) : Nat := sumL (flatC c)
theorem sumC_eq (c : List Lt) : sumC c = c.length + lenC c := by
  unfold lenC
  induction c with
  | nil => rfl
  | cons x r ih => rw [flatC_cons]; simp only [sumC, sumL, List.map_cons, List.sum_cons, List.length_cons, wC] at *; omega
theorem lenC_take (c : List Lt) (k : Nat) (h : k < c.length) : lenC (c.take (k+1)) = lenC (c.take k) + ((c.getD k lt0).2.1.length + (c.getD k lt0).2.2.length) := by
  have h1 := sumC_take c k h
  rw [sumC_eq, sumC_eq] at h1
  have e1 : (c.take (k+1)).length = k + 1 := by rw [List.length_take]; omega
  have e2 : (c.take k).length = k := by rw [List.length_take]; omega
  unfold wC at h1
  omega
theorem lenC_all (c : List Lt) (k : Nat) (h : ¬ k < c.length) : lenC (c.take k) = lenC c := by rw [List.take_of_length_le (by omega)]
theorem lenC_get (c : List Lt) (k : Nat) (h : k < c.length) : lenC (c.take k) + ((c.getD k lt0).2.1.length + (c.getD k lt0).2.2.length) ≤ lenC c := by
  rw [← lenC_take c k h]
  conv => rhs; rw [← List.take_append_drop (k+1) c]
  unfold lenC
  rw [flatC_app]; unfold sumL; rw [List.map_append, List.sum_append]; omega
theorem SlC.max {lo hi w v c} (h : SlC lo hi w v c) : c.length ≤ 9223372036854775807 ∧ ∀ j, j < c.length → (c.getD j lt0).2.1.length ≤ 9223372036854775807 ∧ (c.getD j lt0).2.2.length ≤ 9223372036854775807 := by
  obtain ⟨ad, cap, e, hc, hm, hr⟩ := h
  have hml : maxLen = 9223372036854775807 := rfl
  refine ⟨by omega, fun j hj => ?_⟩
  obtain ⟨b, off, _, _, _, hx⟩ := hr (by omega)
  obtain ⟨u1, u2, _, _, _, ⟨ad2, cap2, _, hc2, hm2, _⟩, ⟨ad3, cap3, _, hc3, hm3, _⟩⟩ := hx j hj
  omega

set_option maxRecDepth 100000 in
set_option maxHeartbeats 400000 in
theorem szLitS_c (l h : Nat) (v : Value) (c : List Lt) (left : Int) (w : World) (h0 : 0 ≤ left) (h1 : left ≤ 1048576) (hv : SlC l h w v c) :
    Calls Try.prog 103 #[v, .int .i64 left] w (RetV w (.int .i64 (szC c left))) := by
  obtain ⟨ad, cap, rfl⟩ := hv.form
  obtain ⟨hx, hmax⟩ := hv.max
  have hse := sumC_eq c
  by_cases hs : left - c.length < 0
  · have E : Hid (szC c left = -1) := by show szC _ _ = _; unfold szC; rw [if_pos (by omega)]
    go_enter Try.func103, Try.ntmps103
    go_wp2_with fail
    go_ret
    exact ⟨by rw [E.out]; rfl, Bel.rfl' _⟩
  · have hw1 := IntWalk.i64_in (left - c.length) (by omega)
    go_enter Try.func103, Try.ntmps103
    go_wp2_with fail
    go_loopw [1, 5] (fun m i wr => ∃ (k : Nat) (z : Int), k ≤ c.length ∧ i = .int .i64 k ∧ m = .int .i64 z ∧ 0 ≤ z ∧ z = left - c.length - (lenC (c.take k) : Nat) ∧ Bel w wr) (fun _ i _ => c.length - (intOf i).toNat)
    case atStart => exact ⟨0, _, Nat.zero_le _, rfl, by go_num, by omega, by simp [lenC, flatC, sumL], Bel.rfl' _⟩
    case round =>
      obtain ⟨k, z, hk, rfl, rfl, hz0, hz, hb⟩ := hrel
      by_cases hlt : k < c.length
      · obtain ⟨b, off, u1, u2, rfl, -, c1, c2, c3, s1, s2⟩ := hv.at hb k hlt
        obtain ⟨hm1, hm2⟩ := hmax k hlt
        have hst := lenC_take c k hlt
        have hsl := lenC_get c k hlt
        have hcall := szLit_c l h (c.getD k lt0).1 u1 u2 (c.getD k lt0).2.1 (c.getD k lt0).2.2 z wr hm1 hm2 hz0 (by omega) s1 s2
        have hin0 : (0 : Int) ≤ k := by omega
        have hin1 : (k : Int) < c.length := by omega
        generalize hp : (c.getD k lt0).1 = p at *
        generalize hxl : (c.getD k lt0).2.1 = xl at *
        generalize hxr : (c.getD k lt0).2.2 = xr at *
        by_cases hneg : z - (xl.length + xr.length : Int) < 0
        · have e1 : szI (xl.length + xr.length) z = -1 := by unfold szI; rw [if_pos hneg]
          have E : Hid (szC c left = -1) := by show szC _ _ = _; unfold szC; rw [if_pos (by omega)]
          rw [e1] at hcall
          have HC := Lib.hid hcall
          clear hcall hv s1 s2 hmax hst hsl e1 hneg hz hse hxl hxr hp
          go_wp2_with (go_at_call 144; refine HC.out.mono ?_; rintro e w' ⟨rfl, hb1⟩)
          go_ret
          exact ⟨by rw [E.out]; rfl, hb.step hb1⟩
        · have e1 : szI (xl.length + xr.length) z = z - (xl.length + xr.length) := by unfold szI; rw [if_neg hneg]
          have hz' : z - ((xl.length : Int) + xr.length) = left - c.length - (lenC (c.take (k+1)) : Nat) := by omega
          rw [e1] at hcall
          have HC := Lib.hid hcall
          have HZ := Lib.hid hz'
          have hz2 : 0 ≤ z - ((xl.length : Int) + xr.length) := by omega
          clear hcall hv s1 s2 hmax hst hsl e1 hneg hz hz' hse hxl hxr hp
          generalize z - ((xl.length : Int) + xr.length) = z2 at *
          go_wp2_with (go_at_call 144; refine HC.out.mono ?_; rintro e w' ⟨rfl, hb1⟩)
          go_roundw
          case rel => exact ⟨k+1, z2, by omega, by go_num, rfl, hz2, HZ.out, hb.step hb1⟩
          case measure => simp [intOf]; omega
      · have E : Hid (szC c left = z) := by
          show szC _ _ = _
          rw [lenC_all c k hlt] at hz
          unfold szC; rw [if_neg (by omega)]; omega
        clear hz
        go_wp2_with fail
        go_ret
        exact ⟨by rw [E.out]; rfl, hb⟩
end Go.Proofs.Yteegjnobmbcjiaa
end
