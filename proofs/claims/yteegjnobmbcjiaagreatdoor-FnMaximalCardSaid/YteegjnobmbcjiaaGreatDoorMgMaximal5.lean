/- Texts merged, part 5. -/
import Derived.Deep.RegionHeldLaw
import Derived.Maps.AppendAt
import Derived.Shelf.SlicesE.Delete
import Derived.Lib.OwnBridge
import Derived.Deep.AppendLies
import Derived.Laws.BytesString
import Derived.Deep.OwnRows
import Derived.Test.YteegjnobmbcjiaaGreatDoorMgMaximal4
section
/- Chapter 4: the answers, as plain functions. No program. -/
namespace Go.Proofs.YteegjnobmbcjiaaGreatDoor
open Go.RowKit

def okLit (ar : List Int) (x : Lt) : Bool := okTerm ar x.2.1 && okTerm ar x.2.2
def okLits (ar : List Int) (c : List Lt) : Bool := decide (c.length ≤ 8) && c.all (okLit ar)
def goodClause (ar : List Int) (c : List Lt) : Bool := goodSign ar && okLits ar c
theorem okLit_iff {ar : List Int} {x : Lt} : okLit ar x = true ↔ okTerm ar x.2.1 = true ∧ okTerm ar x.2.2 = true := by simp [okLit]
theorem okLits_iff {ar : List Int} {c : List Lt} : okLits ar c = true ↔ c.length ≤ 8 ∧ ∀ x ∈ c, okLit ar x = true := by simp [okLits]
theorem goodClause_iff {ar : List Int} {c : List Lt} : goodClause ar c = true ↔ goodSign ar = true ∧ c.length ≤ 8 ∧ ∀ x ∈ c, okLit ar x = true := by simp [goodClause, okLits]
theorem okLits_get {ar : List Int} {c : List Lt} (h : ∀ x ∈ c, okLit ar x = true) (j : Nat) (hj : j < c.length) : okTerm ar (c.getD j lt0).2.1 = true ∧ okTerm ar (c.getD j lt0).2.2 = true :=
  okLit_iff.1 (h _ (by simp [List.getD, hj]))
theorem okLits_bad {ar : List Int} {c : List Lt} {j : Nat} (hj : j < c.length) (h : okLit ar (c.getD j lt0) = false) : okLits ar c = false := by
  rw [Bool.eq_false_iff]; intro k
  have := (okLits_iff.1 k).2 (c.getD j lt0) (by simp [List.getD, hj])
  rw [h] at this; simp at this
/-- The first k literals are valid. -/
def okTo (ar : List Int) (c : List Lt) (k : Nat) : Prop := ∀ j, j < k → okLit ar (c.getD j lt0) = true
theorem okTo.step {ar : List Int} {c : List Lt} {k : Nat} (h : okTo ar c k) (hk : okLit ar (c.getD k lt0) = true) : okTo ar c (k+1) := fun j hj => by
  by_cases e : j = k
  · subst e; exact hk
  · exact h j (by omega)
theorem okTo.done {ar : List Int} {c : List Lt} (h : okTo ar c c.length) : okLits ar c = decide (c.length ≤ 8) := by
  unfold okLits
  have : c.all (okLit ar) = true := by
    rw [List.all_eq_true]
    intro x hx
    obtain ⟨j, hj, rfl⟩ := List.getElem_of_mem hx
    have := h j hj
    simpa [List.getD, hj] using this
  rw [this, Bool.and_true]

/-- The same two terms, perhaps exchanged. -/
def sameTs (x y : Lt) : Bool := (decide (x.2.1 = y.2.1) && decide (x.2.2 = y.2.2)) || (decide (x.2.1 = y.2.2) && decide (x.2.2 = y.2.1))
def eqvL (x y : Lt) : Bool := (x.1 == y.1) && sameTs x y
def tidyStep (out : List Lt) (x : Lt) : List Lt := if !x.1 && decide (x.2.1 = x.2.2) then out else if out.any (eqvL x) then out else out ++ [x]
def tidyC (c : List Lt) : List Lt := c.foldl tidyStep []
theorem tidyC_snoc (c : List Lt) (k : Nat) (h : k < c.length) : tidyC (c.take (k+1)) = tidyStep (tidyC (c.take k)) (c.getD k lt0) := by
  unfold tidyC
  rw [List.take_succ_eq_append_getElem h, List.foldl_append]
  simp [List.getD, h]
def tidyAns (ar : List Int) (c : List Lt) : List Lt := if goodClause ar c then tidyC c else []

/-- A tautology's place: the literal k alone, or with an earlier one. -/
def tautAt (c : List Lt) (k : Nat) : Bool := ((c.getD k lt0).1 && decide ((c.getD k lt0).2.1 = (c.getD k lt0).2.2)) || (c.take k).any fun y => ((c.getD k lt0).1 != y.1) && sameTs (c.getD k lt0) y
def tautC (c : List Lt) : Bool := (List.range c.length).any (tautAt c)
def tautAns (ar : List Int) (c : List Lt) : Bool := goodClause ar c && tautC c

def weightAns (ar : List Int) (c : List Lt) : Int := if goodClause ar c then (sumL (flatC c) : Int) else 0

def listL (x : Lt) : List (List Int) := if x.1 then [x.2.1, x.2.2] else [x.2.1, x.2.2, x.2.1, x.2.2]
def litsOk (ar : List Int) (x y : Lt) : Bool := goodSign ar && (okLit ar x && okLit ar y)
def litsAns (ar : List Int) (x y : Lt) : Int := if litsOk ar x y then cmpL (listL x) (listL y) else 0
def maxAt (c : List Lt) (k : Nat) : Bool := (List.range c.length).all fun i => decide (i = k) || !decide (cmpL (listL (c.getD i lt0)) (listL (c.getD k lt0)) = 1)
def maxC (c : List Lt) : List Nat := (List.range c.length).filter (maxAt c)

/-- The signs of one, the terms of another list. -/
def zipC : List Lt → List (List Int) → List Lt
  | x :: c, l :: r :: ts => (x.1, l, r) :: zipC c ts
  | _, _ => []
end Go.Proofs.YteegjnobmbcjiaaGreatDoor
end
section
/- A literal of the draws: its three fields are drawn in a row, its box is laid whenever it is: whatever the order. -/
namespace Go.Proofs.YteegjnobmbcjiaaGreatDoor.Rl
open Go.RowKit

/-- A literal's box, as it is laid; as it is filled. -/
def Lb (w : World) (g : Nat) (p s1 s2 : Value) : Prop := (w.cell? ⟨g, 0, none⟩ = some p ∧ w.cell? ⟨g, 1, none⟩ = some s1 ∧ w.cell? ⟨g, 2, none⟩ = some s2) ∧ ∀ i, w.frozen? ⟨g, i, none⟩ = false
abbrev Zb (w : World) (g : Nat) : Prop := Lb w g (.bool false) (.slice none 0 0) (.slice none 0 0)
theorem Lb.lt {w : World} {g : Nat} {p s1 s2 : Value} (h : Lb w g p s1 s2) : g < w.heap.size := World.block_lt_of_cell? w ⟨g, 0, none⟩ h.1.1
theorem Lb.bel {w w' : World} {g : Nat} {p s1 s2 : Value} (h : Lb w g p s1 s2) (hb : Bel w w') : Lb w' g p s1 s2 :=
  ⟨⟨hb.at h.lt h.1.1, hb.at h.lt h.1.2.1, hb.at h.lt h.1.2.2⟩, fun i => (hb.frozen (p := ⟨g, i, none⟩) h.lt).trans (h.2 i)⟩
theorem Lb.chg {w w' : World} {g b : Nat} {p s1 s2 : Value} (h : Lb w g p s1 s2) (k : Chg b (b+1) w w') (hg : b < g) : Lb w' g p s1 s2 :=
  ⟨⟨k.cell h.lt (.inr hg) h.1.1, k.cell h.lt (.inr hg) h.1.2.1, k.cell h.lt (.inr hg) h.1.2.2⟩, fun i => (World.frozen?_of_block (w := w) (w' := w') (a := ⟨g, i, none⟩) (k.block g h.lt (.inr hg))).trans (h.2 i)⟩
theorem Lb.new (w : World) (t : TypeId) : Zb (w.alloc (.cells #[.bool false, .slice none 0 0, .slice none 0 0] t)) w.heap.size := ⟨⟨by simp [go_sem], by simp [go_sem], by simp [go_sem]⟩, fun i => by simp [go_sem]⟩
theorem Lb.put {w : World} {g : Nat} {p s1 s2 : Value} (h : Lb w g p s1 s2) (p' t1 t2 : Value) : Lb (((w.setCell ⟨g, 0, none⟩ p').setCell ⟨g, 1, none⟩ t1).setCell ⟨g, 2, none⟩ t2) g p' t1 t2 := by
  obtain ⟨⟨q0, q1, q2⟩, q3⟩ := h
  exact ⟨⟨by simp [go_sem, q0], by simp [go_sem, q1], by simp [go_sem, q2]⟩, fun i => by simp [go_sem, q3]⟩
theorem Lb.put2 {w : World} {g : Nat} {p s1 s2 : Value} (h : Lb w g p s1 s2) (t2 : Value) : Lb (w.setCell ⟨g, 2, none⟩ t2) g p s1 t2 := by
  obtain ⟨⟨q0, q1, q2⟩, q3⟩ := h
  exact ⟨⟨by simp [go_sem, q0], by simp [go_sem, q1], by simp [go_sem, q2]⟩, fun i => by simp [go_sem, q3]⟩
theorem Lb.far {w : World} {g k : Nat} {p s1 s2 : Value} (h : Lb w g p s1 s2) (hk : g ≠ k) (j : Nat) (u : Value) : Lb (w.setCell ⟨k, j, none⟩ u) g p s1 s2 := by
  obtain ⟨⟨q0, q1, q2⟩, q3⟩ := h
  have hk' := Ne.symm hk
  exact ⟨⟨by simp [go_sem, q0], by simp [go_sem, q1], by simp [go_sem, q2]⟩, fun i => by simp [go_sem, q3]⟩
def pt (g : Nat) : Value := .pointer (some ⟨g, 0, none⟩)

/-- The cursor has gone on, and nothing else has turned. -/
def LF (b n k d : Nat) (w0 w : World) : Prop := ∃ k', k ≤ k' ∧ k' ≤ k + d ∧ Cur b n k' w ∧ Chg b (b+1) w0 w
theorem LF.alloc {b n k d : Nat} {w0 w : World} (h : LF b n k d w0 w) (o : Obj) : LF b n k d w0 (w.alloc o) := by
  obtain ⟨k', h1, h2, h3, h4⟩ := h
  exact ⟨k', h1, h2, h3.below (Bel.alloc0 w o), h4.trans (Chg.of_bel (Bel.alloc0 w o))⟩
theorem LF.size {b n k d : Nat} {w0 w : World} (h : LF b n k d w0 w) : w0.heap.size ≤ w.heap.size := by obtain ⟨k', _, _, _, h4⟩ := h; exact h4.size
/-- A term of the draws, in a block of its own that was laid since w0. -/
def TF (w0 w : World) (v : Value) (t : List Int) : Prop := (∃ c, w0.heap.size ≤ c ∧ c < w.heap.size ∧ SlI c (c+1) w v t) ∧ 1 ≤ t.length ∧ t.length ≤ 400
theorem TF.alloc {w0 w : World} {v : Value} {t : List Int} (h : TF w0 w v t) (o : Obj) : TF w0 (w.alloc o) v t := by
  obtain ⟨⟨c, h1, h2, h3⟩, h4⟩ := h
  exact ⟨⟨c, h1, by simp; omega, h3.alloc o⟩, h4⟩
theorem TF.chg {b : Nat} {w0 w w' : World} {v : Value} {t : List Int} (h : TF w0 w v t) (k : Chg b (b+1) w w') (hb : b < w0.heap.size) : TF w0 w' v t := by
  obtain ⟨⟨c, h1, h2, h3⟩, h4⟩ := h
  have := k.size
  exact ⟨⟨c, h1, by omega, h3.chg k (by omega)⟩, h4⟩

theorem TF.form {w0 w : World} {v : Value} {t : List Int} (h : TF w0 w v t) : ∃ a c, v = .slice a t.length c := by
  obtain ⟨⟨c, _, _, h3⟩, _⟩ := h
  exact h3.form
def R1 (b n k d : Nat) (w0 w : World) (e : Ending) (w' : World) : Prop := ∃ x : Bool, e = .returned (.bool x) ∧ LF b n k (d+2) w0 w' ∧ Chg b (b+1) w w'
def R2 (m b n k d : Nat) (w0 w : World) (e : Ending) (w' : World) : Prop := ∃ x : Nat, x < m ∧ e = .returned (.int .i64 x) ∧ LF b n k (d+2) w0 w' ∧ Chg b (b+1) w w'
def R3 (b n k d : Nat) (w0 w : World) (e : Ending) (w' : World) : Prop := ∃ v t, e = .returned v ∧ TF w0 w' v t ∧ LF b n k (d+4000) w0 w' ∧ Chg b (b+1) w w'
set_option maxRecDepth 100000 in
theorem one_l {b n k d : Nat} {w0 w : World} (hn : n ≤ 1099511627776) (hk : k + d ≤ 400000000000) (h : LF b n k d w0 w) : Calls Tryz.prog 50 #[pt b, .int .i64 3] w (R1 b n k d w0 w) := by
  obtain ⟨k', h1, h2, h3, h4⟩ := h
  refine (one_c b n k' 3 3 w rfl hn (by omega) (by omega) h3).mono ?_
  rintro e w' ⟨q, k2, rfl, g1, g2, g3, g4⟩
  exact ⟨q, rfl, ⟨k2, by omega, by omega, g3, h4.trans g4⟩, g4⟩
set_option maxRecDepth 100000 in
theorem pick_l (m : Nat) (z : Int) (hz : z = m) {b n k d : Nat} {w0 w : World} (hm : 1 ≤ m) (hm2 : m ≤ 1000) (hn : n ≤ 1099511627776) (hk : k + d ≤ 400000000000) (h : LF b n k d w0 w) : Calls Tryz.prog 86 #[pt b, .int .i64 z] w (R2 m b n k d w0 w) := by
  obtain ⟨k', h1, h2, h3, h4⟩ := h
  refine (pick_c b n k' z m w hz hn (by omega) (by omega) h3).mono ?_
  rintro e w' ⟨q, k2, rfl, gm, g1, g2, g3, g4⟩
  exact ⟨q, by omega, rfl, ⟨k2, by omega, by omega, g3, h4.trans g4⟩, g4⟩
set_option maxRecDepth 100000 in
theorem term_l (x : Nat) (hx : x < 3) {b n k d lo hi : Nat} {v : Value} {ar : List Int} {w0 w : World} (hn : n ≤ 1099511627776) (hk : k + d ≤ 400000000000) (hdr : drawn ar) (hblo : b < lo) (hv : SlI lo hi w0 v ar) (h : LF b n k d w0 w) :
    Calls Tryz.prog 87 #[pt b, .agg #[v], .int .i64 (1 + (x : Int)), .int .i64 3] w (R3 b n k d w0 w) := by
  obtain ⟨k', h1, h2, h3, h4⟩ := h
  refine (term_z b n (1 + x) 3 k' lo hi _ 3 v ar w (by omega) rfl hn (by omega) (by omega) hdr hblo (by omega) (by omega) h3 (hv.chg h4 (by omega))).mono ?_
  rintro e w' ⟨ad, m, c, t, k2, rfl, hrow, g1, g2, g3, g4, g5, g6, g7⟩
  have hl := tl_le (1 + x) (by omega)
  obtain ⟨c2, o1, o2⟩ := (OwnI.of_row hrow).block
  obtain ⟨o3, o4⟩ := o2 (by omega)
  have hs := h4.size
  exact ⟨_, t, rfl, ⟨⟨c2, by omega, o4, o1.sl⟩, g1, by omega⟩, ⟨k2, by omega, by omega, g6, h4.trans g7⟩, g7⟩

theorem wanted_plain {o : Oper} {ops : Array Oper} {a : Act} (hgd : o.guard = none) : Region.wanted o (yielded ops a.tmps) = true := by simp [Region.wanted, hgd]
theorem lt_box {ops : Array Oper} {o : Oper} {a : Act} {K : Act → World → Prop} {Q : Exit → Act → World → Prop} {E : Prop} {w : World} (hgd : o.guard = none) (ho : o.op = .alloc 53)
    (h : K (a.put o.dst (pt w.heap.size)) (w.alloc (.cells #[.bool false, .slice none 0 0, .slice none 0 0] 53))) : if Region.wanted o (yielded ops a.tmps) = true then Oper.wp Tryz.prog o a w K Q else E := by
  rw [if_pos (wanted_plain hgd)]
  obtain ⟨dst, op, type, pos, after, guard⟩ := o
  simp only at ho
  subst ho
  go_simp
  exact h
theorem lt_one {ops : Array Oper} {o : Oper} {a : Act} {K : Act → World → Prop} {Q : Exit → Act → World → Prop} {E : Prop} {w : World} {R : Ending → World → Prop} {x : Nat} {tys : Array TypeId} (hgd : o.guard = none)
    (ho : o.op = .call { callee := .value (.func 50), args := #[.tmp x, .const (.int .i64 3)], argTypes := tys })
    (hc : Calls Tryz.prog 50 #[a.eval (.tmp x), (.int .i64 3)] w R)
    (h : ∀ e w', R e w' → ∃ v, e = .returned v ∧ K (a.put o.dst v) w') : if Region.wanted o (yielded ops a.tmps) = true then Oper.wp Tryz.prog o a w K Q else E := by
  rw [if_pos (wanted_plain hgd)]
  obtain ⟨dst, op, type, pos, after, guard⟩ := o
  simp only at ho
  subst ho
  unfold Oper.wp execOp
  simp only [resolve, invoke, Sem.run_bind, List.map_toArray, List.map_cons, List.map_nil]
  have hc2 : Calls Tryz.prog 50 #[a.tmps[x]?.getD undef, (.int .i64 3)] w R := by simpa [Act.eval] using hc
  go_simp
  refine Calls.mono hc2 ?_
  intro e w' hr
  obtain ⟨v, rfl, hk⟩ := h e w' hr
  exact hk
theorem lt_pick (z : Int) {ops : Array Oper} {o : Oper} {a : Act} {K : Act → World → Prop} {Q : Exit → Act → World → Prop} {E : Prop} {w : World} {R : Ending → World → Prop} {x : Nat} {tys : Array TypeId} (hgd : o.guard = none)
    (ho : o.op = .call { callee := .value (.func 86), args := #[.tmp x, .const (.int .i64 z)], argTypes := tys })
    (hc : Calls Tryz.prog 86 #[a.eval (.tmp x), (.int .i64 z)] w R)
    (h : ∀ e w', R e w' → ∃ v, e = .returned v ∧ K (a.put o.dst v) w') : if Region.wanted o (yielded ops a.tmps) = true then Oper.wp Tryz.prog o a w K Q else E := by
  rw [if_pos (wanted_plain hgd)]
  obtain ⟨dst, op, type, pos, after, guard⟩ := o
  simp only at ho
  subst ho
  unfold Oper.wp execOp
  simp only [resolve, invoke, Sem.run_bind, List.map_toArray, List.map_cons, List.map_nil]
  have hc2 : Calls Tryz.prog 86 #[a.tmps[x]?.getD undef, (.int .i64 z)] w R := by simpa [Act.eval] using hc
  go_simp
  refine Calls.mono hc2 ?_
  intro e w' hr
  obtain ⟨v, rfl, hk⟩ := h e w' hr
  exact hk
theorem lt_term {ops : Array Oper} {o : Oper} {a : Act} {K : Act → World → Prop} {Q : Exit → Act → World → Prop} {E : Prop} {w : World} {R : Ending → World → Prop} {x y y2 : Nat} {tys : Array TypeId} (hgd : o.guard = none)
    (ho : o.op = .call { callee := .value (.func 87), args := #[.tmp x, .tmp y, .tmp y2, .const (.int .i64 3)], argTypes := tys })
    (hc : Calls Tryz.prog 87 #[a.eval (.tmp x), a.eval (.tmp y), a.eval (.tmp y2), (.int .i64 3)] w R)
    (h : ∀ e w', R e w' → ∃ v, e = .returned v ∧ K (a.put o.dst v) w') : if Region.wanted o (yielded ops a.tmps) = true then Oper.wp Tryz.prog o a w K Q else E := by
  rw [if_pos (wanted_plain hgd)]
  obtain ⟨dst, op, type, pos, after, guard⟩ := o
  simp only at ho
  subst ho
  unfold Oper.wp execOp
  simp only [resolve, invoke, Sem.run_bind, List.map_toArray, List.map_cons, List.map_nil]
  have hc2 : Calls Tryz.prog 87 #[a.tmps[x]?.getD undef, a.tmps[y]?.getD undef, a.tmps[y2]?.getD undef, (.int .i64 3)] w R := by simpa [Act.eval] using hc
  go_simp
  refine Calls.mono hc2 ?_
  intro e w' hr
  obtain ⟨v, rfl, hk⟩ := h e w' hr
  exact hk
def ltTable : List (Array Bool × List Nat) := [
  (#[true, false, false, true, true, true, false, false, false, true, true, true, false, false, false, false, false, false], [1, 16]),
  (#[true, false, false, true, true, true, false, false, false, true, true, true, false, false, false, false, true, false], [1]),
  (#[true, true, true, true, true, true, false, false, false, true, true, true, false, false, false, false, false, false], [6, 16]),
  (#[true, true, true, true, true, true, false, false, false, true, true, true, false, false, false, false, true, false], [6]),
  (#[true, true, true, true, true, true, true, true, false, true, true, true, false, false, false, false, false, false], [8, 16]),
  (#[true, true, true, true, true, true, true, true, false, true, true, true, false, false, false, false, true, false], [8]),
  (#[true, true, true, true, true, true, true, true, true, true, true, true, false, false, false, false, false, false], [12, 16]),
  (#[true, true, true, true, true, true, true, true, true, true, true, true, false, false, false, false, true, false], [12]),
  (#[true, true, true, true, true, true, true, true, true, true, true, true, true, true, false, false, false, false], [14, 16]),
  (#[true, true, true, true, true, true, true, true, true, true, true, true, true, true, false, false, true, false], [14]),
  (#[true, true, true, true, true, true, true, true, true, true, true, true, true, true, true, true, false, false], [16]),
  (#[true, true, true, true, true, true, true, true, true, true, true, true, true, true, true, true, true, false], [17])]
def ltTakes : List (Array Bool × Nat) := [
  (#[true, true, false, true, true, true, false, false, false, true, true, true, false, false, false, false, false, false], 2),
  (#[true, true, false, true, true, true, false, false, false, true, true, true, false, false, false, false, true, false], 2),
  (#[true, true, true, true, true, true, true, false, false, true, true, true, false, false, false, false, false, false], 7),
  (#[true, true, true, true, true, true, true, false, false, true, true, true, false, false, false, false, true, false], 7),
  (#[true, true, true, true, true, true, true, true, true, true, true, true, true, false, false, false, false, false], 13),
  (#[true, true, true, true, true, true, true, true, true, true, true, true, true, false, false, false, true, false], 13),
  (#[true, true, true, true, true, true, true, true, true, true, true, true, true, true, true, false, false, false], 15),
  (#[true, true, true, true, true, true, true, true, true, true, true, true, true, true, true, false, true, false], 15)]
structure LtReg (ops : Array Oper) : Prop where
  s : Region.noSelect ops = true
  h1 : ∃ o tys, ops[1]? = some o ∧ o.guard = none ∧ o.dst = some 7 ∧ o.op = .call { callee := .value (.func 50), args := #[.tmp 6, .const (.int .i64 3)], argTypes := tys }
  h2 : ∃ o ty, ops[2]? = some o ∧ o.guard = none ∧ o.dst = some 8 ∧ o.op = .unOp .not ty (.tmp 7)
  h6 : ∃ o tys, ops[6]? = some o ∧ o.guard = none ∧ o.dst = some 12 ∧ o.op = .call { callee := .value (.func 86), args := #[.tmp 11, .const (.int .i64 3)], argTypes := tys }
  h7 : ∃ o, ops[7]? = some o ∧ o.guard = none ∧ o.dst = some 13 ∧ o.op = .binOp .add 3 (.const (.int .i64 1)) (.tmp 12) 3
  h8 : ∃ o tys, ops[8]? = some o ∧ o.guard = none ∧ o.dst = some 14 ∧ o.op = .call { callee := .value (.func 87), args := #[.tmp 9, .tmp 10, .tmp 13, .const (.int .i64 3)], argTypes := tys }
  h12 : ∃ o tys, ops[12]? = some o ∧ o.guard = none ∧ o.dst = some 18 ∧ o.op = .call { callee := .value (.func 86), args := #[.tmp 17, .const (.int .i64 2)], argTypes := tys }
  h13 : ∃ o, ops[13]? = some o ∧ o.guard = none ∧ o.dst = some 19 ∧ o.op = .binOp .add 3 (.const (.int .i64 1)) (.tmp 18) 3
  h14 : ∃ o tys, ops[14]? = some o ∧ o.guard = none ∧ o.dst = some 20 ∧ o.op = .call { callee := .value (.func 87), args := #[.tmp 15, .tmp 16, .tmp 19, .const (.int .i64 3)], argTypes := tys }
  h15 : ∃ o, ops[15]? = some o ∧ o.guard = none ∧ o.dst = some 21 ∧ o.op = .build 53 #[(0, .tmp 8), (1, .tmp 14), (2, .tmp 20)]
  h16 : ∃ o, ops[16]? = some o ∧ o.guard = none ∧ o.dst = some 5 ∧ o.op = .alloc 53
  rd : (ltTable.all fun c => Region.ready .any ops c.1 == c.2) = true
  tk : (ltTakes.all fun c => Region.free .any ops c.1 c.2 && (Region.ready .any ops c.1).contains c.2) = true
theorem LtReg.row {ops} (H : LtReg ops) (i : Nat) {c : Array Bool × List Nat} (h : ltTable[i]? = some c) : Region.ready .any ops c.1 = c.2 :=
  eq_of_beq (List.all_eq_true.1 H.rd c (List.mem_of_getElem? h))
theorem LtReg.take {ops} (H : LtReg ops) (i : Nat) {c : Array Bool × Nat} (h : ltTakes[i]? = some c) : Region.free .any ops c.1 c.2 = true ∧ (Region.ready .any ops c.1).contains c.2 = true :=
  Bool.and_eq_true_iff.1 (List.all_eq_true.1 H.tk c (List.mem_of_getElem? h))

def LtTail (ops : Array Oper) (Q : Exit → Act → World → Prop) (S : World → Prop) (b n k : Nat) (w0 : World) (df : List Deferred) (sv u1 u2 u3 u4 u22 u23 u24 u25 u26 : Value) : Prop :=
  ∀ (x1 : Bool) (x2 : Nat) (y1 : Value) (s1 : List Int) (x3 : Nat) (y2 : Value) (s2 : List Int) (g : Nat) (w : World), Zb w g → w0.heap.size ≤ g → LF b n k 8006 w0 w → TF w0 w y1 s1 → TF w0 w y2 s2 → wpAnyH Tryz.prog .any ops Q S 1 #[true, true, true, true, true, true, true, true, true, true, true, true, true, true, true, true, true, false] ⟨#[(pt b), u1, u2, u3, u4, (pt g), (pt b), (.bool x1), (.bool (!x1)), (pt b), (.agg #[sv]), (pt b), (.int .i64 (x2 : Nat)), (.int .i64 (1 + (x2 : Int))), y1, (pt b), (.agg #[sv]), (pt b), (.int .i64 (x3 : Nat)), (.int .i64 (1 + (x3 : Int))), y2, (.agg #[.bool (!x1), y1, y2]), u22, u23, u24, u25, u26], df⟩ w
theorem lt5_1 {ops : Array Oper} {Q : Exit → Act → World → Prop} {S : World → Prop} {b n k lo hi : Nat} {sv : Value} {ar : List Int} {w0 : World} {df : List Deferred} {u1 u2 u3 u4 u22 u23 u24 u25 u26 : Value} (_H : LtReg ops) (HK : LtTail ops Q S b n k w0 df sv u1 u2 u3 u4 u22 u23 u24 u25 u26) (_hQ : ∀ c a d v w, Q (.panic c) (Act.put a d v) w → Q (.panic c) a w) (_hS : ∀ w, Chg b (b+1) w0 w → S w) (_hb : b < w0.heap.size) (_hn : n ≤ 1099511627776) (_hk : k ≤ 300000000000) (_hdr : drawn ar) (_hblo : b < lo) (_hsv : SlI lo hi w0 sv ar) (x1 : Bool) (x2 : Nat) (y1 : Value) (s1 : List Int) (x3 : Nat) (y2 : Value) (s2 : List Int) (g : Nat) (w : World) (z : Zb w g) (lg : w0.heap.size ≤ g) (hl : LF b n k 8006 w0 w) (_hx2 : x2 < 3) (t1 : TF w0 w y1 s1) (_hx3 : x3 < 2) (t2 : TF w0 w y2 s2) : wpAnyH Tryz.prog .any ops Q S 1 #[true, true, true, true, true, true, true, true, true, true, true, true, true, true, true, true, true, false] ⟨#[(pt b), u1, u2, u3, u4, (pt g), (pt b), (.bool x1), (.bool (!x1)), (pt b), (.agg #[sv]), (pt b), (.int .i64 (x2 : Nat)), (.int .i64 (1 + (x2 : Int))), y1, (pt b), (.agg #[sv]), (pt b), (.int .i64 (x3 : Nat)), (.int .i64 (1 + (x3 : Int))), y2, (.agg #[.bool (!x1), y1, y2]), u22, u23, u24, u25, u26], df⟩ w := by
  exact HK x1 x2 y1 s1 x3 y2 s2 g w z lg hl t1 t2
theorem lt5_0 {ops : Array Oper} {Q : Exit → Act → World → Prop} {S : World → Prop} {b n k lo hi : Nat} {sv : Value} {ar : List Int} {w0 : World} {df : List Deferred} {u1 u2 u3 u4 u22 u23 u24 u25 u26 : Value} (H : LtReg ops) (HK : LtTail ops Q S b n k w0 df sv u1 u2 u3 u4 u22 u23 u24 u25 u26) (hQ : ∀ c a d v w, Q (.panic c) (Act.put a d v) w → Q (.panic c) a w) (hS : ∀ w, Chg b (b+1) w0 w → S w) (hb : b < w0.heap.size) (hn : n ≤ 1099511627776) (hk : k ≤ 300000000000) (hdr : drawn ar) (hblo : b < lo) (hsv : SlI lo hi w0 sv ar) (u5 : Value) (x1 : Bool) (x2 : Nat) (y1 : Value) (s1 : List Int) (x3 : Nat) (y2 : Value) (s2 : List Int) (w : World) (hl : LF b n k 8006 w0 w) (hx2 : x2 < 3) (t1 : TF w0 w y1 s1) (hx3 : x3 < 2) (t2 : TF w0 w y2 s2) : wpAnyH Tryz.prog .any ops Q S 2 #[true, true, true, true, true, true, true, true, true, true, true, true, true, true, true, true, false, false] ⟨#[(pt b), u1, u2, u3, u4, u5, (pt b), (.bool x1), (.bool (!x1)), (pt b), (.agg #[sv]), (pt b), (.int .i64 (x2 : Nat)), (.int .i64 (1 + (x2 : Int))), y1, (pt b), (.agg #[sv]), (pt b), (.int .i64 (x3 : Nat)), (.int .i64 (1 + (x3 : Int))), y2, (.agg #[.bool (!x1), y1, y2]), u22, u23, u24, u25, u26], df⟩ w := by
  refine wpAnyH_ready (H.row 10 rfl) (by simp) ?_
  obtain ⟨o, a1, a2, a3, a4⟩ := H.h16
  refine AllReadyH.cons a1 (fun K hK => ?_) ?_
  · refine lt_box a2 a4 ?_
    have hl' := hl.alloc (.cells #[.bool false, .slice none 0 0, .slice none 0 0] 53)
    rw [a3]
    simp only [Act.put, List.setIfInBounds_toArray, List.set_cons_zero, List.set_cons_succ]
    refine hK.out _ _ (hS _ (by obtain ⟨_, _, _, _, h4⟩ := hl'; exact h4)) (fun _ => ?_)
    exact lt5_1 H HK hQ hS hb hn hk hdr hblo hsv  x1 x2 y1 s1 x3 y2 s2 w.heap.size _ (Lb.new w _) hl.size hl' hx2 (t1.alloc _) hx3 (t2.alloc _)
  exact AllReadyH.nil
theorem lt4_1 {ops : Array Oper} {Q : Exit → Act → World → Prop} {S : World → Prop} {b n k lo hi : Nat} {sv : Value} {ar : List Int} {w0 : World} {df : List Deferred} {u1 u2 u3 u4 u22 u23 u24 u25 u26 : Value} (H : LtReg ops) (HK : LtTail ops Q S b n k w0 df sv u1 u2 u3 u4 u22 u23 u24 u25 u26) (hQ : ∀ c a d v w, Q (.panic c) (Act.put a d v) w → Q (.panic c) a w) (hS : ∀ w, Chg b (b+1) w0 w → S w) (hb : b < w0.heap.size) (hn : n ≤ 1099511627776) (hk : k ≤ 300000000000) (hdr : drawn ar) (hblo : b < lo) (hsv : SlI lo hi w0 sv ar) (u20 u21 : Value) (x1 : Bool) (x2 : Nat) (y1 : Value) (s1 : List Int) (x3 : Nat) (g : Nat) (w : World) (z : Zb w g) (lg : w0.heap.size ≤ g) (hl : LF b n k 4006 w0 w) (hx2 : x2 < 3) (t1 : TF w0 w y1 s1) (hx3 : x3 < 2) : wpAnyH Tryz.prog .any ops Q S 3 #[true, true, true, true, true, true, true, true, true, true, true, true, true, true, false, false, true, false] ⟨#[(pt b), u1, u2, u3, u4, (pt g), (pt b), (.bool x1), (.bool (!x1)), (pt b), (.agg #[sv]), (pt b), (.int .i64 (x2 : Nat)), (.int .i64 (1 + (x2 : Int))), y1, (pt b), (.agg #[sv]), (pt b), (.int .i64 (x3 : Nat)), (.int .i64 (1 + (x3 : Int))), u20, u21, u22, u23, u24, u25, u26], df⟩ w := by
  refine wpAnyH_ready (H.row 9 rfl) (by simp) ?_
  obtain ⟨o, tys, a1, a2, a3, a4⟩ := H.h14
  refine AllReadyH.cons a1 (fun K hK => ?_) ?_
  · refine lt_term a2 a4 (by simpa [Act.eval] using (term_l x3 (by omega) hn (by omega) hdr hblo hsv hl)) ?_
    rintro e w' ⟨y2, s2, rfl, t2, hl', hg'⟩
    have hc' : Chg b (b+1) w0 w' := by obtain ⟨_, _, _, _, h4⟩ := hl'; exact h4
    refine ⟨_, rfl, ?_⟩
    rw [a3]
    simp only [Act.put, List.setIfInBounds_toArray, List.set_cons_zero, List.set_cons_succ]
    refine hK.out _ _ (hS _ hc') (fun _ => ?_)
    have z' := z.chg hg' (by omega)
    have t1' := t1.chg hg' hb
    obtain ⟨oq, b1, b2, b3, b4⟩ := H.h15
    refine wpAnyH_take (v := (.agg #[.bool (!x1), y1, y2])) b1 H.s (H.take 7 rfl).1 (H.take 7 rfl).2 (fun c a w => hQ c a _ _ w) (Or.inl ⟨wanted_plain b2, fun w2 _ => ?_⟩) (hS _ hc') ?_
    · obtain ⟨_, _, e1⟩ := TF.form t1
      obtain ⟨_, _, e2⟩ := TF.form t2
      subst e1 e2
      obtain ⟨dst, op, type, pos, after, guard⟩ := oq
      simp only at b4
      subst b4
      go_simp
      try rfl
    rw [b3]
    simp only [Act.put, List.setIfInBounds_toArray, List.set_cons_zero, List.set_cons_succ]
    exact lt5_1 H HK hQ hS hb hn hk hdr hblo hsv  x1 x2 y1 s1 x3 y2 s2 g _ z' lg hl' hx2 t1' hx3 t2
  exact AllReadyH.nil
theorem lt4_0 {ops : Array Oper} {Q : Exit → Act → World → Prop} {S : World → Prop} {b n k lo hi : Nat} {sv : Value} {ar : List Int} {w0 : World} {df : List Deferred} {u1 u2 u3 u4 u22 u23 u24 u25 u26 : Value} (H : LtReg ops) (HK : LtTail ops Q S b n k w0 df sv u1 u2 u3 u4 u22 u23 u24 u25 u26) (hQ : ∀ c a d v w, Q (.panic c) (Act.put a d v) w → Q (.panic c) a w) (hS : ∀ w, Chg b (b+1) w0 w → S w) (hb : b < w0.heap.size) (hn : n ≤ 1099511627776) (hk : k ≤ 300000000000) (hdr : drawn ar) (hblo : b < lo) (hsv : SlI lo hi w0 sv ar) (u5 u20 u21 : Value) (x1 : Bool) (x2 : Nat) (y1 : Value) (s1 : List Int) (x3 : Nat) (w : World) (hl : LF b n k 4006 w0 w) (hx2 : x2 < 3) (t1 : TF w0 w y1 s1) (hx3 : x3 < 2) : wpAnyH Tryz.prog .any ops Q S 4 #[true, true, true, true, true, true, true, true, true, true, true, true, true, true, false, false, false, false] ⟨#[(pt b), u1, u2, u3, u4, u5, (pt b), (.bool x1), (.bool (!x1)), (pt b), (.agg #[sv]), (pt b), (.int .i64 (x2 : Nat)), (.int .i64 (1 + (x2 : Int))), y1, (pt b), (.agg #[sv]), (pt b), (.int .i64 (x3 : Nat)), (.int .i64 (1 + (x3 : Int))), u20, u21, u22, u23, u24, u25, u26], df⟩ w := by
  refine wpAnyH_ready (H.row 8 rfl) (by simp) ?_
  obtain ⟨o, tys, a1, a2, a3, a4⟩ := H.h14
  refine AllReadyH.cons a1 (fun K hK => ?_) ?_
  · refine lt_term a2 a4 (by simpa [Act.eval] using (term_l x3 (by omega) hn (by omega) hdr hblo hsv hl)) ?_
    rintro e w' ⟨y2, s2, rfl, t2, hl', hg'⟩
    have hc' : Chg b (b+1) w0 w' := by obtain ⟨_, _, _, _, h4⟩ := hl'; exact h4
    refine ⟨_, rfl, ?_⟩
    rw [a3]
    simp only [Act.put, List.setIfInBounds_toArray, List.set_cons_zero, List.set_cons_succ]
    refine hK.out _ _ (hS _ hc') (fun _ => ?_)
    have t1' := t1.chg hg' hb
    obtain ⟨oq, b1, b2, b3, b4⟩ := H.h15
    refine wpAnyH_take (v := (.agg #[.bool (!x1), y1, y2])) b1 H.s (H.take 6 rfl).1 (H.take 6 rfl).2 (fun c a w => hQ c a _ _ w) (Or.inl ⟨wanted_plain b2, fun w2 _ => ?_⟩) (hS _ hc') ?_
    · obtain ⟨_, _, e1⟩ := TF.form t1
      obtain ⟨_, _, e2⟩ := TF.form t2
      subst e1 e2
      obtain ⟨dst, op, type, pos, after, guard⟩ := oq
      simp only at b4
      subst b4
      go_simp
      try rfl
    rw [b3]
    simp only [Act.put, List.setIfInBounds_toArray, List.set_cons_zero, List.set_cons_succ]
    exact lt5_0 H HK hQ hS hb hn hk hdr hblo hsv u5 x1 x2 y1 s1 x3 y2 s2 _ hl' hx2 t1' hx3 t2
  obtain ⟨o, a1, a2, a3, a4⟩ := H.h16
  refine AllReadyH.cons a1 (fun K hK => ?_) ?_
  · refine lt_box a2 a4 ?_
    have hl' := hl.alloc (.cells #[.bool false, .slice none 0 0, .slice none 0 0] 53)
    rw [a3]
    simp only [Act.put, List.setIfInBounds_toArray, List.set_cons_zero, List.set_cons_succ]
    refine hK.out _ _ (hS _ (by obtain ⟨_, _, _, _, h4⟩ := hl'; exact h4)) (fun _ => ?_)
    exact lt4_1 H HK hQ hS hb hn hk hdr hblo hsv u20 u21 x1 x2 y1 s1 x3 w.heap.size _ (Lb.new w _) hl.size hl' hx2 (t1.alloc _) hx3
  exact AllReadyH.nil
theorem lt3_1 {ops : Array Oper} {Q : Exit → Act → World → Prop} {S : World → Prop} {b n k lo hi : Nat} {sv : Value} {ar : List Int} {w0 : World} {df : List Deferred} {u1 u2 u3 u4 u22 u23 u24 u25 u26 : Value} (H : LtReg ops) (HK : LtTail ops Q S b n k w0 df sv u1 u2 u3 u4 u22 u23 u24 u25 u26) (hQ : ∀ c a d v w, Q (.panic c) (Act.put a d v) w → Q (.panic c) a w) (hS : ∀ w, Chg b (b+1) w0 w → S w) (hb : b < w0.heap.size) (hn : n ≤ 1099511627776) (hk : k ≤ 300000000000) (hdr : drawn ar) (hblo : b < lo) (hsv : SlI lo hi w0 sv ar) (u18 u19 u20 u21 : Value) (x1 : Bool) (x2 : Nat) (y1 : Value) (s1 : List Int) (g : Nat) (w : World) (z : Zb w g) (lg : w0.heap.size ≤ g) (hl : LF b n k 4004 w0 w) (hx2 : x2 < 3) (t1 : TF w0 w y1 s1) : wpAnyH Tryz.prog .any ops Q S 5 #[true, true, true, true, true, true, true, true, true, true, true, true, false, false, false, false, true, false] ⟨#[(pt b), u1, u2, u3, u4, (pt g), (pt b), (.bool x1), (.bool (!x1)), (pt b), (.agg #[sv]), (pt b), (.int .i64 (x2 : Nat)), (.int .i64 (1 + (x2 : Int))), y1, (pt b), (.agg #[sv]), (pt b), u18, u19, u20, u21, u22, u23, u24, u25, u26], df⟩ w := by
  refine wpAnyH_ready (H.row 7 rfl) (by simp) ?_
  obtain ⟨o, tys, a1, a2, a3, a4⟩ := H.h12
  refine AllReadyH.cons a1 (fun K hK => ?_) ?_
  · refine lt_pick _ a2 a4 (by simpa [Act.eval] using (pick_l 2 2 rfl (by omega) (by omega) hn (by omega) hl)) ?_
    rintro e w' ⟨x3, hx3, rfl, hl', hg'⟩
    have hc' : Chg b (b+1) w0 w' := by obtain ⟨_, _, _, _, h4⟩ := hl'; exact h4
    refine ⟨_, rfl, ?_⟩
    rw [a3]
    simp only [Act.put, List.setIfInBounds_toArray, List.set_cons_zero, List.set_cons_succ]
    refine hK.out _ _ (hS _ hc') (fun _ => ?_)
    have z' := z.chg hg' (by omega)
    have t1' := t1.chg hg' hb
    obtain ⟨oq, b1, b2, b3, b4⟩ := H.h13
    refine wpAnyH_take (v := (.int .i64 (1 + (x3 : Int)))) b1 H.s (H.take 5 rfl).1 (H.take 5 rfl).2 (fun c a w => hQ c a _ _ w) (Or.inl ⟨wanted_plain b2, fun w2 _ => ?_⟩) (hS _ hc') ?_
    · have hw := IntWalk.i64_in (1 + (x3 : Int)) (by omega)
      obtain ⟨dst, op, type, pos, after, guard⟩ := oq
      simp only at b4
      subst b4
      go_simp
      try rfl
    rw [b3]
    simp only [Act.put, List.setIfInBounds_toArray, List.set_cons_zero, List.set_cons_succ]
    exact lt4_1 H HK hQ hS hb hn hk hdr hblo hsv u20 u21 x1 x2 y1 s1 x3 g _ z' lg hl' hx2 t1' hx3
  exact AllReadyH.nil
theorem lt3_0 {ops : Array Oper} {Q : Exit → Act → World → Prop} {S : World → Prop} {b n k lo hi : Nat} {sv : Value} {ar : List Int} {w0 : World} {df : List Deferred} {u1 u2 u3 u4 u22 u23 u24 u25 u26 : Value} (H : LtReg ops) (HK : LtTail ops Q S b n k w0 df sv u1 u2 u3 u4 u22 u23 u24 u25 u26) (hQ : ∀ c a d v w, Q (.panic c) (Act.put a d v) w → Q (.panic c) a w) (hS : ∀ w, Chg b (b+1) w0 w → S w) (hb : b < w0.heap.size) (hn : n ≤ 1099511627776) (hk : k ≤ 300000000000) (hdr : drawn ar) (hblo : b < lo) (hsv : SlI lo hi w0 sv ar) (u5 u18 u19 u20 u21 : Value) (x1 : Bool) (x2 : Nat) (y1 : Value) (s1 : List Int) (w : World) (hl : LF b n k 4004 w0 w) (hx2 : x2 < 3) (t1 : TF w0 w y1 s1) : wpAnyH Tryz.prog .any ops Q S 6 #[true, true, true, true, true, true, true, true, true, true, true, true, false, false, false, false, false, false] ⟨#[(pt b), u1, u2, u3, u4, u5, (pt b), (.bool x1), (.bool (!x1)), (pt b), (.agg #[sv]), (pt b), (.int .i64 (x2 : Nat)), (.int .i64 (1 + (x2 : Int))), y1, (pt b), (.agg #[sv]), (pt b), u18, u19, u20, u21, u22, u23, u24, u25, u26], df⟩ w := by
  refine wpAnyH_ready (H.row 6 rfl) (by simp) ?_
  obtain ⟨o, tys, a1, a2, a3, a4⟩ := H.h12
  refine AllReadyH.cons a1 (fun K hK => ?_) ?_
  · refine lt_pick _ a2 a4 (by simpa [Act.eval] using (pick_l 2 2 rfl (by omega) (by omega) hn (by omega) hl)) ?_
    rintro e w' ⟨x3, hx3, rfl, hl', hg'⟩
    have hc' : Chg b (b+1) w0 w' := by obtain ⟨_, _, _, _, h4⟩ := hl'; exact h4
    refine ⟨_, rfl, ?_⟩
    rw [a3]
    simp only [Act.put, List.setIfInBounds_toArray, List.set_cons_zero, List.set_cons_succ]
    refine hK.out _ _ (hS _ hc') (fun _ => ?_)
    have t1' := t1.chg hg' hb
    obtain ⟨oq, b1, b2, b3, b4⟩ := H.h13
    refine wpAnyH_take (v := (.int .i64 (1 + (x3 : Int)))) b1 H.s (H.take 4 rfl).1 (H.take 4 rfl).2 (fun c a w => hQ c a _ _ w) (Or.inl ⟨wanted_plain b2, fun w2 _ => ?_⟩) (hS _ hc') ?_
    · have hw := IntWalk.i64_in (1 + (x3 : Int)) (by omega)
      obtain ⟨dst, op, type, pos, after, guard⟩ := oq
      simp only at b4
      subst b4
      go_simp
      try rfl
    rw [b3]
    simp only [Act.put, List.setIfInBounds_toArray, List.set_cons_zero, List.set_cons_succ]
    exact lt4_0 H HK hQ hS hb hn hk hdr hblo hsv u5 u20 u21 x1 x2 y1 s1 x3 _ hl' hx2 t1' hx3
  obtain ⟨o, a1, a2, a3, a4⟩ := H.h16
  refine AllReadyH.cons a1 (fun K hK => ?_) ?_
  · refine lt_box a2 a4 ?_
    have hl' := hl.alloc (.cells #[.bool false, .slice none 0 0, .slice none 0 0] 53)
    rw [a3]
    simp only [Act.put, List.setIfInBounds_toArray, List.set_cons_zero, List.set_cons_succ]
    refine hK.out _ _ (hS _ (by obtain ⟨_, _, _, _, h4⟩ := hl'; exact h4)) (fun _ => ?_)
    exact lt3_1 H HK hQ hS hb hn hk hdr hblo hsv u18 u19 u20 u21 x1 x2 y1 s1 w.heap.size _ (Lb.new w _) hl.size hl' hx2 (t1.alloc _)
  exact AllReadyH.nil
theorem lt2_1 {ops : Array Oper} {Q : Exit → Act → World → Prop} {S : World → Prop} {b n k lo hi : Nat} {sv : Value} {ar : List Int} {w0 : World} {df : List Deferred} {u1 u2 u3 u4 u22 u23 u24 u25 u26 : Value} (H : LtReg ops) (HK : LtTail ops Q S b n k w0 df sv u1 u2 u3 u4 u22 u23 u24 u25 u26) (hQ : ∀ c a d v w, Q (.panic c) (Act.put a d v) w → Q (.panic c) a w) (hS : ∀ w, Chg b (b+1) w0 w → S w) (hb : b < w0.heap.size) (hn : n ≤ 1099511627776) (hk : k ≤ 300000000000) (hdr : drawn ar) (hblo : b < lo) (hsv : SlI lo hi w0 sv ar) (u14 u18 u19 u20 u21 : Value) (x1 : Bool) (x2 : Nat) (g : Nat) (w : World) (z : Zb w g) (lg : w0.heap.size ≤ g) (hl : LF b n k 4 w0 w) (hx2 : x2 < 3) : wpAnyH Tryz.prog .any ops Q S 6 #[true, true, true, true, true, true, true, true, false, true, true, true, false, false, false, false, true, false] ⟨#[(pt b), u1, u2, u3, u4, (pt g), (pt b), (.bool x1), (.bool (!x1)), (pt b), (.agg #[sv]), (pt b), (.int .i64 (x2 : Nat)), (.int .i64 (1 + (x2 : Int))), u14, (pt b), (.agg #[sv]), (pt b), u18, u19, u20, u21, u22, u23, u24, u25, u26], df⟩ w := by
  refine wpAnyH_ready (H.row 5 rfl) (by simp) ?_
  obtain ⟨o, tys, a1, a2, a3, a4⟩ := H.h8
  refine AllReadyH.cons a1 (fun K hK => ?_) ?_
  · refine lt_term a2 a4 (by simpa [Act.eval] using (term_l x2 hx2 hn (by omega) hdr hblo hsv hl)) ?_
    rintro e w' ⟨y1, s1, rfl, t1, hl', hg'⟩
    have hc' : Chg b (b+1) w0 w' := by obtain ⟨_, _, _, _, h4⟩ := hl'; exact h4
    refine ⟨_, rfl, ?_⟩
    rw [a3]
    simp only [Act.put, List.setIfInBounds_toArray, List.set_cons_zero, List.set_cons_succ]
    refine hK.out _ _ (hS _ hc') (fun _ => ?_)
    have z' := z.chg hg' (by omega)
    exact lt3_1 H HK hQ hS hb hn hk hdr hblo hsv u18 u19 u20 u21 x1 x2 y1 s1 g _ z' lg hl' hx2 t1
  exact AllReadyH.nil
theorem lt2_0 {ops : Array Oper} {Q : Exit → Act → World → Prop} {S : World → Prop} {b n k lo hi : Nat} {sv : Value} {ar : List Int} {w0 : World} {df : List Deferred} {u1 u2 u3 u4 u22 u23 u24 u25 u26 : Value} (H : LtReg ops) (HK : LtTail ops Q S b n k w0 df sv u1 u2 u3 u4 u22 u23 u24 u25 u26) (hQ : ∀ c a d v w, Q (.panic c) (Act.put a d v) w → Q (.panic c) a w) (hS : ∀ w, Chg b (b+1) w0 w → S w) (hb : b < w0.heap.size) (hn : n ≤ 1099511627776) (hk : k ≤ 300000000000) (hdr : drawn ar) (hblo : b < lo) (hsv : SlI lo hi w0 sv ar) (u5 u14 u18 u19 u20 u21 : Value) (x1 : Bool) (x2 : Nat) (w : World) (hl : LF b n k 4 w0 w) (hx2 : x2 < 3) : wpAnyH Tryz.prog .any ops Q S 7 #[true, true, true, true, true, true, true, true, false, true, true, true, false, false, false, false, false, false] ⟨#[(pt b), u1, u2, u3, u4, u5, (pt b), (.bool x1), (.bool (!x1)), (pt b), (.agg #[sv]), (pt b), (.int .i64 (x2 : Nat)), (.int .i64 (1 + (x2 : Int))), u14, (pt b), (.agg #[sv]), (pt b), u18, u19, u20, u21, u22, u23, u24, u25, u26], df⟩ w := by
  refine wpAnyH_ready (H.row 4 rfl) (by simp) ?_
  obtain ⟨o, tys, a1, a2, a3, a4⟩ := H.h8
  refine AllReadyH.cons a1 (fun K hK => ?_) ?_
  · refine lt_term a2 a4 (by simpa [Act.eval] using (term_l x2 hx2 hn (by omega) hdr hblo hsv hl)) ?_
    rintro e w' ⟨y1, s1, rfl, t1, hl', hg'⟩
    have hc' : Chg b (b+1) w0 w' := by obtain ⟨_, _, _, _, h4⟩ := hl'; exact h4
    refine ⟨_, rfl, ?_⟩
    rw [a3]
    simp only [Act.put, List.setIfInBounds_toArray, List.set_cons_zero, List.set_cons_succ]
    refine hK.out _ _ (hS _ hc') (fun _ => ?_)
    exact lt3_0 H HK hQ hS hb hn hk hdr hblo hsv u5 u18 u19 u20 u21 x1 x2 y1 s1 _ hl' hx2 t1
  obtain ⟨o, a1, a2, a3, a4⟩ := H.h16
  refine AllReadyH.cons a1 (fun K hK => ?_) ?_
  · refine lt_box a2 a4 ?_
    have hl' := hl.alloc (.cells #[.bool false, .slice none 0 0, .slice none 0 0] 53)
    rw [a3]
    simp only [Act.put, List.setIfInBounds_toArray, List.set_cons_zero, List.set_cons_succ]
    refine hK.out _ _ (hS _ (by obtain ⟨_, _, _, _, h4⟩ := hl'; exact h4)) (fun _ => ?_)
    exact lt2_1 H HK hQ hS hb hn hk hdr hblo hsv u14 u18 u19 u20 u21 x1 x2 w.heap.size _ (Lb.new w _) hl.size hl' hx2
  exact AllReadyH.nil
theorem lt1_1 {ops : Array Oper} {Q : Exit → Act → World → Prop} {S : World → Prop} {b n k lo hi : Nat} {sv : Value} {ar : List Int} {w0 : World} {df : List Deferred} {u1 u2 u3 u4 u22 u23 u24 u25 u26 : Value} (H : LtReg ops) (HK : LtTail ops Q S b n k w0 df sv u1 u2 u3 u4 u22 u23 u24 u25 u26) (hQ : ∀ c a d v w, Q (.panic c) (Act.put a d v) w → Q (.panic c) a w) (hS : ∀ w, Chg b (b+1) w0 w → S w) (hb : b < w0.heap.size) (hn : n ≤ 1099511627776) (hk : k ≤ 300000000000) (hdr : drawn ar) (hblo : b < lo) (hsv : SlI lo hi w0 sv ar) (u12 u13 u14 u18 u19 u20 u21 : Value) (x1 : Bool) (g : Nat) (w : World) (z : Zb w g) (lg : w0.heap.size ≤ g) (hl : LF b n k 2 w0 w) : wpAnyH Tryz.prog .any ops Q S 8 #[true, true, true, true, true, true, false, false, false, true, true, true, false, false, false, false, true, false] ⟨#[(pt b), u1, u2, u3, u4, (pt g), (pt b), (.bool x1), (.bool (!x1)), (pt b), (.agg #[sv]), (pt b), u12, u13, u14, (pt b), (.agg #[sv]), (pt b), u18, u19, u20, u21, u22, u23, u24, u25, u26], df⟩ w := by
  refine wpAnyH_ready (H.row 3 rfl) (by simp) ?_
  obtain ⟨o, tys, a1, a2, a3, a4⟩ := H.h6
  refine AllReadyH.cons a1 (fun K hK => ?_) ?_
  · refine lt_pick _ a2 a4 (by simpa [Act.eval] using (pick_l 3 3 rfl (by omega) (by omega) hn (by omega) hl)) ?_
    rintro e w' ⟨x2, hx2, rfl, hl', hg'⟩
    have hc' : Chg b (b+1) w0 w' := by obtain ⟨_, _, _, _, h4⟩ := hl'; exact h4
    refine ⟨_, rfl, ?_⟩
    rw [a3]
    simp only [Act.put, List.setIfInBounds_toArray, List.set_cons_zero, List.set_cons_succ]
    refine hK.out _ _ (hS _ hc') (fun _ => ?_)
    have z' := z.chg hg' (by omega)
    obtain ⟨oq, b1, b2, b3, b4⟩ := H.h7
    refine wpAnyH_take (v := (.int .i64 (1 + (x2 : Int)))) b1 H.s (H.take 3 rfl).1 (H.take 3 rfl).2 (fun c a w => hQ c a _ _ w) (Or.inl ⟨wanted_plain b2, fun w2 _ => ?_⟩) (hS _ hc') ?_
    · have hw := IntWalk.i64_in (1 + (x2 : Int)) (by omega)
      obtain ⟨dst, op, type, pos, after, guard⟩ := oq
      simp only at b4
      subst b4
      go_simp
      try rfl
    rw [b3]
    simp only [Act.put, List.setIfInBounds_toArray, List.set_cons_zero, List.set_cons_succ]
    exact lt2_1 H HK hQ hS hb hn hk hdr hblo hsv u14 u18 u19 u20 u21 x1 x2 g _ z' lg hl' hx2
  exact AllReadyH.nil
theorem lt1_0 {ops : Array Oper} {Q : Exit → Act → World → Prop} {S : World → Prop} {b n k lo hi : Nat} {sv : Value} {ar : List Int} {w0 : World} {df : List Deferred} {u1 u2 u3 u4 u22 u23 u24 u25 u26 : Value} (H : LtReg ops) (HK : LtTail ops Q S b n k w0 df sv u1 u2 u3 u4 u22 u23 u24 u25 u26) (hQ : ∀ c a d v w, Q (.panic c) (Act.put a d v) w → Q (.panic c) a w) (hS : ∀ w, Chg b (b+1) w0 w → S w) (hb : b < w0.heap.size) (hn : n ≤ 1099511627776) (hk : k ≤ 300000000000) (hdr : drawn ar) (hblo : b < lo) (hsv : SlI lo hi w0 sv ar) (u5 u12 u13 u14 u18 u19 u20 u21 : Value) (x1 : Bool) (w : World) (hl : LF b n k 2 w0 w) : wpAnyH Tryz.prog .any ops Q S 9 #[true, true, true, true, true, true, false, false, false, true, true, true, false, false, false, false, false, false] ⟨#[(pt b), u1, u2, u3, u4, u5, (pt b), (.bool x1), (.bool (!x1)), (pt b), (.agg #[sv]), (pt b), u12, u13, u14, (pt b), (.agg #[sv]), (pt b), u18, u19, u20, u21, u22, u23, u24, u25, u26], df⟩ w := by
  refine wpAnyH_ready (H.row 2 rfl) (by simp) ?_
  obtain ⟨o, tys, a1, a2, a3, a4⟩ := H.h6
  refine AllReadyH.cons a1 (fun K hK => ?_) ?_
  · refine lt_pick _ a2 a4 (by simpa [Act.eval] using (pick_l 3 3 rfl (by omega) (by omega) hn (by omega) hl)) ?_
    rintro e w' ⟨x2, hx2, rfl, hl', hg'⟩
    have hc' : Chg b (b+1) w0 w' := by obtain ⟨_, _, _, _, h4⟩ := hl'; exact h4
    refine ⟨_, rfl, ?_⟩
    rw [a3]
    simp only [Act.put, List.setIfInBounds_toArray, List.set_cons_zero, List.set_cons_succ]
    refine hK.out _ _ (hS _ hc') (fun _ => ?_)
    obtain ⟨oq, b1, b2, b3, b4⟩ := H.h7
    refine wpAnyH_take (v := (.int .i64 (1 + (x2 : Int)))) b1 H.s (H.take 2 rfl).1 (H.take 2 rfl).2 (fun c a w => hQ c a _ _ w) (Or.inl ⟨wanted_plain b2, fun w2 _ => ?_⟩) (hS _ hc') ?_
    · have hw := IntWalk.i64_in (1 + (x2 : Int)) (by omega)
      obtain ⟨dst, op, type, pos, after, guard⟩ := oq
      simp only at b4
      subst b4
      go_simp
      try rfl
    rw [b3]
    simp only [Act.put, List.setIfInBounds_toArray, List.set_cons_zero, List.set_cons_succ]
    exact lt2_0 H HK hQ hS hb hn hk hdr hblo hsv u5 u14 u18 u19 u20 u21 x1 x2 _ hl' hx2
  obtain ⟨o, a1, a2, a3, a4⟩ := H.h16
  refine AllReadyH.cons a1 (fun K hK => ?_) ?_
  · refine lt_box a2 a4 ?_
    have hl' := hl.alloc (.cells #[.bool false, .slice none 0 0, .slice none 0 0] 53)
    rw [a3]
    simp only [Act.put, List.setIfInBounds_toArray, List.set_cons_zero, List.set_cons_succ]
    refine hK.out _ _ (hS _ (by obtain ⟨_, _, _, _, h4⟩ := hl'; exact h4)) (fun _ => ?_)
    exact lt1_1 H HK hQ hS hb hn hk hdr hblo hsv u12 u13 u14 u18 u19 u20 u21 x1 w.heap.size _ (Lb.new w _) hl.size hl'
  exact AllReadyH.nil
theorem lt0_1 {ops : Array Oper} {Q : Exit → Act → World → Prop} {S : World → Prop} {b n k lo hi : Nat} {sv : Value} {ar : List Int} {w0 : World} {df : List Deferred} {u1 u2 u3 u4 u22 u23 u24 u25 u26 : Value} (H : LtReg ops) (HK : LtTail ops Q S b n k w0 df sv u1 u2 u3 u4 u22 u23 u24 u25 u26) (hQ : ∀ c a d v w, Q (.panic c) (Act.put a d v) w → Q (.panic c) a w) (hS : ∀ w, Chg b (b+1) w0 w → S w) (hb : b < w0.heap.size) (hn : n ≤ 1099511627776) (hk : k ≤ 300000000000) (hdr : drawn ar) (hblo : b < lo) (hsv : SlI lo hi w0 sv ar) (u7 u8 u12 u13 u14 u18 u19 u20 u21 : Value) (g : Nat) (w : World) (z : Zb w g) (lg : w0.heap.size ≤ g) (hl : LF b n k 0 w0 w) : wpAnyH Tryz.prog .any ops Q S 10 #[true, false, false, true, true, true, false, false, false, true, true, true, false, false, false, false, true, false] ⟨#[(pt b), u1, u2, u3, u4, (pt g), (pt b), u7, u8, (pt b), (.agg #[sv]), (pt b), u12, u13, u14, (pt b), (.agg #[sv]), (pt b), u18, u19, u20, u21, u22, u23, u24, u25, u26], df⟩ w := by
  refine wpAnyH_ready (H.row 1 rfl) (by simp) ?_
  obtain ⟨o, tys, a1, a2, a3, a4⟩ := H.h1
  refine AllReadyH.cons a1 (fun K hK => ?_) ?_
  · refine lt_one a2 a4 (by simpa [Act.eval] using (one_l hn (by omega) hl)) ?_
    rintro e w' ⟨x1, rfl, hl', hg'⟩
    have hc' : Chg b (b+1) w0 w' := by obtain ⟨_, _, _, _, h4⟩ := hl'; exact h4
    refine ⟨_, rfl, ?_⟩
    rw [a3]
    simp only [Act.put, List.setIfInBounds_toArray, List.set_cons_zero, List.set_cons_succ]
    refine hK.out _ _ (hS _ hc') (fun _ => ?_)
    have z' := z.chg hg' (by omega)
    obtain ⟨oq, tq, b1, b2, b3, b4⟩ := H.h2
    refine wpAnyH_take (v := (.bool (!x1))) b1 H.s (H.take 1 rfl).1 (H.take 1 rfl).2 (fun c a w => hQ c a _ _ w) (Or.inl ⟨wanted_plain b2, fun w2 _ => ?_⟩) (hS _ hc') ?_
    · obtain ⟨dst, op, type, pos, after, guard⟩ := oq
      simp only at b4
      subst b4
      go_simp
      try rfl
    rw [b3]
    simp only [Act.put, List.setIfInBounds_toArray, List.set_cons_zero, List.set_cons_succ]
    exact lt1_1 H HK hQ hS hb hn hk hdr hblo hsv u12 u13 u14 u18 u19 u20 u21 x1 g _ z' lg hl'
  exact AllReadyH.nil
theorem lt0_0 {ops : Array Oper} {Q : Exit → Act → World → Prop} {S : World → Prop} {b n k lo hi : Nat} {sv : Value} {ar : List Int} {w0 : World} {df : List Deferred} {u1 u2 u3 u4 u22 u23 u24 u25 u26 : Value} (H : LtReg ops) (HK : LtTail ops Q S b n k w0 df sv u1 u2 u3 u4 u22 u23 u24 u25 u26) (hQ : ∀ c a d v w, Q (.panic c) (Act.put a d v) w → Q (.panic c) a w) (hS : ∀ w, Chg b (b+1) w0 w → S w) (hb : b < w0.heap.size) (hn : n ≤ 1099511627776) (hk : k ≤ 300000000000) (hdr : drawn ar) (hblo : b < lo) (hsv : SlI lo hi w0 sv ar) (u5 u7 u8 u12 u13 u14 u18 u19 u20 u21 : Value) (w : World) (hl : LF b n k 0 w0 w) : wpAnyH Tryz.prog .any ops Q S 11 #[true, false, false, true, true, true, false, false, false, true, true, true, false, false, false, false, false, false] ⟨#[(pt b), u1, u2, u3, u4, u5, (pt b), u7, u8, (pt b), (.agg #[sv]), (pt b), u12, u13, u14, (pt b), (.agg #[sv]), (pt b), u18, u19, u20, u21, u22, u23, u24, u25, u26], df⟩ w := by
  refine wpAnyH_ready (H.row 0 rfl) (by simp) ?_
  obtain ⟨o, tys, a1, a2, a3, a4⟩ := H.h1
  refine AllReadyH.cons a1 (fun K hK => ?_) ?_
  · refine lt_one a2 a4 (by simpa [Act.eval] using (one_l hn (by omega) hl)) ?_
    rintro e w' ⟨x1, rfl, hl', hg'⟩
    have hc' : Chg b (b+1) w0 w' := by obtain ⟨_, _, _, _, h4⟩ := hl'; exact h4
    refine ⟨_, rfl, ?_⟩
    rw [a3]
    simp only [Act.put, List.setIfInBounds_toArray, List.set_cons_zero, List.set_cons_succ]
    refine hK.out _ _ (hS _ hc') (fun _ => ?_)
    obtain ⟨oq, tq, b1, b2, b3, b4⟩ := H.h2
    refine wpAnyH_take (v := (.bool (!x1))) b1 H.s (H.take 0 rfl).1 (H.take 0 rfl).2 (fun c a w => hQ c a _ _ w) (Or.inl ⟨wanted_plain b2, fun w2 _ => ?_⟩) (hS _ hc') ?_
    · obtain ⟨dst, op, type, pos, after, guard⟩ := oq
      simp only at b4
      subst b4
      go_simp
      try rfl
    rw [b3]
    simp only [Act.put, List.setIfInBounds_toArray, List.set_cons_zero, List.set_cons_succ]
    exact lt1_0 H HK hQ hS hb hn hk hdr hblo hsv u5 u12 u13 u14 u18 u19 u20 u21 x1 _ hl'
  obtain ⟨o, a1, a2, a3, a4⟩ := H.h16
  refine AllReadyH.cons a1 (fun K hK => ?_) ?_
  · refine lt_box a2 a4 ?_
    have hl' := hl.alloc (.cells #[.bool false, .slice none 0 0, .slice none 0 0] 53)
    rw [a3]
    simp only [Act.put, List.setIfInBounds_toArray, List.set_cons_zero, List.set_cons_succ]
    refine hK.out _ _ (hS _ (by obtain ⟨_, _, _, _, h4⟩ := hl'; exact h4)) (fun _ => ?_)
    exact lt0_1 H HK hQ hS hb hn hk hdr hblo hsv u7 u8 u12 u13 u14 u18 u19 u20 u21  w.heap.size _ (Lb.new w _) hl.size hl'
  exact AllReadyH.nil
end Go.Proofs.YteegjnobmbcjiaaGreatDoor.Rl
end
section
/- A literal of the draws. -/
namespace Go.Proofs.YteegjnobmbcjiaaGreatDoor
open Go.RowKit

theorem Rl.slOther {lo hi : Nat} {w : World} {v : Value} {xs : List Int} (h : SlI lo hi w v xs) {p : Addr} {x : Value} (hp : w.cell? p = some x) (hx : ∀ n, x ≠ .int .i64 n) (u : Value) : SlI lo hi (w.setCell p u) v xs := by
  obtain ⟨ad, cap, rfl, hc, hm, hr⟩ := h
  refine ⟨ad, cap, rfl, hc, hm, fun hpos => ?_⟩
  obtain ⟨b, off, e, a1, a2, a3⟩ := hr hpos
  refine ⟨b, off, e, a1, a2, fun j hj => ?_⟩
  have hne : p ≠ ⟨b, off + j, none⟩ := fun h => by
    have := a3 j hj
    rw [← h, hp] at this
    exact hx _ (Option.some.inj this)
  rw [World.cell?_setCell_other (h := hne)]
  exact a3 j hj
theorem Rl.TF.other {w0 w : World} {v : Value} {t : List Int} (h : Rl.TF w0 w v t) {p : Addr} {x : Value} (hp : w.cell? p = some x) (hx : ∀ n, x ≠ .int .i64 n) (u : Value) : Rl.TF w0 (w.setCell p u) v t := by
  obtain ⟨⟨c, h1, h2, h3⟩, h4⟩ := h
  exact ⟨⟨c, h1, by rw [World.size_setCell]; exact h2, Rl.slOther h3 hp hx u⟩, h4⟩
theorem Rl.TF.box {w0 w : World} {v : Value} {t : List Int} (h : Rl.TF w0 w v t) {g : Nat} {p : Bool} {n1 n2 c1 c2 : Nat} {a1 a2 : Option Addr} (z : Rl.Lb w g (.bool p) (.slice a1 n1 c1) (.slice a2 n2 c2)) (q : Bool) (b1 b2 : Value) :
    Rl.TF w0 (((w.setCell ⟨g, 0, none⟩ (.bool q)).setCell ⟨g, 1, none⟩ b1).setCell ⟨g, 2, none⟩ b2) v t := by
  obtain ⟨⟨q0, q1, q2⟩, q3⟩ := z
  refine ((h.other q0 (fun n => by simp) _).other (p := ⟨g, 1, none⟩) (x := .slice a1 n1 c1) (by simp [go_sem, q1]) (fun n => by simp) _).other (p := ⟨g, 2, none⟩) (x := .slice a2 n2 c2) (by simp [go_sem, q2]) (fun n => by simp) _
theorem Rl.LF.set {b n k d : Nat} {w0 w : World} (h : Rl.LF b n k d w0 w) {p : Addr} (hp : w0.heap.size ≤ p.block) (hb : b < w0.heap.size) (u : Value) : Rl.LF b n k d w0 (w.setCell p u) := by
  obtain ⟨k', h1, h2, h3, h4⟩ := h
  exact ⟨k', h1, h2, h3.chg (Chg.set (lo := p.block) (hi := p.block + 1) w (Nat.le_refl _) (Nat.lt_succ_self _) u) (by omega), Chg.setNew h4 hp u⟩
theorem Rl.LF.trans {b n k d d' : Nat} {w0 w w' : World} (h : Rl.LF b n k d w0 w) (hc : ∀ k', k ≤ k' → k' ≤ k + d → Cur b n k' w → ∃ k2, k' ≤ k2 ∧ k2 ≤ k' + d' ∧ Cur b n k2 w') (hg : Chg b (b+1) w w') : Rl.LF b n k (d + d') w0 w' := by
  obtain ⟨k', h1, h2, h3, h4⟩ := h
  obtain ⟨k2, g1, g2, g3⟩ := hc k' h1 h2 h3
  exact ⟨k2, by omega, by omega, g3, h4.trans hg⟩
theorem Rl.LF.ofBel {b n k d : Nat} {w0 w1 w : World} (h : Rl.LF b n k d w1 w) (hb : Bel w0 w1) : Rl.LF b n k d w0 w := by
  obtain ⟨k', h1, h2, h3, h4⟩ := h
  exact ⟨k', h1, h2, h3, (Chg.of_bel hb).trans h4⟩
theorem Rl.TF.ofBel {w0 w1 w : World} {v : Value} {t : List Int} (h : Rl.TF w1 w v t) (hb : Bel w0 w1) : Rl.TF w0 w v t := by
  obtain ⟨⟨c, h1, h2⟩, h3⟩ := h
  have := hb.size
  exact ⟨⟨c, by omega, h2⟩, h3⟩
/-- A literal of the draws: two terms, each in a block of its own that is new. -/
def RetLt (b n k d : Nat) (w : World) (e : Ending) (w' : World) : Prop :=
  ∃ (p : Bool) (v1 v2 : Value) (t1 t2 : List Int), e = .returned (.agg #[.bool p, v1, v2]) ∧ Rl.TF w w' v1 t1 ∧ Rl.TF w w' v2 t2 ∧ Rl.LF b n k d w w'

set_option maxRecDepth 100000 in
set_option maxHeartbeats 1000000 in
theorem lit_c (b n k lo hi : Nat) (v : Value) (ar : List Int) (w : World) (hn : n ≤ 1099511627776) (hk : k ≤ 200000000000) (hdr : drawn ar) (hblo : b < lo) (hc : Cur b n k w) (hv : SlI lo hi w v ar) :
    Calls Tryz.prog 49 #[.pointer (some ⟨b, 0, none⟩), .agg #[v]] w (RetLt b n k 8100 w) := by
  have hbl := hc.lt
  have B2 : Bel w ((w.alloc (.cells #[v] 33)).alloc (.cells #[.bool false, .slice none 0 0, .slice none 0 0] 53)) := Bel.alloc2 _ _ _
  have BD : Bel w ((w.alloc (.cells #[v] 33)).alloc (.cells #[.bool false, .slice none 0 0, .slice none 0 0] 53)).drew := B2.drew
  have EZ : Hid (((w.alloc (.cells #[v] 33)).alloc (.cells #[.bool false, .slice none 0 0, .slice none 0 0] 53)).drew.heap.size = w.heap.size + 2) := by show _ = _; simp
  have hbx : ((w.alloc (.cells #[v] 33)).alloc (.cells #[.bool false, .slice none 0 0, .slice none 0 0] 53)).drew.cell? ⟨w.heap.size, 0, none⟩ = some v := (Bel.drew0 _).at (by simp; omega) ((Bel.alloc0 _ _).at (by simp) (by simp [go_sem]))
  have HS := Lib.hid (fun (w' : World) (hg : Chg b (b+1) ((w.alloc (.cells #[v] 33)).alloc (.cells #[.bool false, .slice none 0 0, .slice none 0 0] 53)).drew w') => hg.cell (by have := EZ.out; omega) (.inr (by omega)) hbx)
  have hres : Rl.Zb ((w.alloc (.cells #[v] 33)).alloc (.cells #[.bool false, .slice none 0 0, .slice none 0 0] 53)).drew (w.heap.size + 1) := (by have := Rl.Lb.new (w.alloc (.cells #[v] 33)) 53; rw [World.size_alloc] at this; exact this.bel (Bel.drew0 _))
  have hl0 : Rl.LF b n k 0 ((w.alloc (.cells #[v] 33)).alloc (.cells #[.bool false, .slice none 0 0, .slice none 0 0] 53)).drew ((w.alloc (.cells #[v] 33)).alloc (.cells #[.bool false, .slice none 0 0, .slice none 0 0] 53)).drew := ⟨k, Nat.le_refl _, by omega, hc.below BD, Chg.refl _ _ _⟩
  have hvD := hv.below BD
  have hbD : b < ((w.alloc (.cells #[v] 33)).alloc (.cells #[.bool false, .slice none 0 0, .slice none 0 0] 53)).drew.heap.size := by have := EZ.out; omega
  have HL := Lib.hid (And.intro (And.intro hres hl0) (And.intro hvD hbD))
  clear hres hl0 hvD hbD hv hc
  go_enter Tryz.func49, Tryz.ntmps49
  go_wp2_with fail
  refine wp_region_held_drew (S := fun w' => w'.cell? ⟨w.heap.size, 0, none⟩ = some v) (by kernel_rfl) hbx (fun _ => ?_)
  change wpAnyH _ _ _ _ _ 18 #[false, false, false, false, false, false, false, false, false, false, false, false, false, false, false, false, false, false] _ _
  refine wpAnyH_take (i := 0) (oi := ⟨_, _, _, _, _, _⟩) (v := ?v0) rfl (by kernel_rfl) (by kernel_rfl) (by kernel_rfl) (fun _ _ _ h => h) (Or.inl ⟨by rfl, ?hy0⟩) hbx ?rest0
  case hy0 =>
    intro w' hSw
    go_simp
    try with_reducible rfl
  try simp only [Act.put, List.setIfInBounds_toArray, List.set_cons_zero, List.set_cons_succ]
  refine wpAnyH_take (i := 3) (oi := ⟨_, _, _, _, _, _⟩) (v := ?v3) rfl (by kernel_rfl) (by kernel_rfl) (by kernel_rfl) (fun _ _ _ h => h) (Or.inl ⟨by rfl, ?hy3⟩) hbx ?rest3
  case hy3 =>
    intro w' hSw
    go_simp
    try with_reducible rfl
  try simp only [Act.put, List.setIfInBounds_toArray, List.set_cons_zero, List.set_cons_succ]
  refine wpAnyH_take (i := 4) (oi := ⟨_, _, _, _, _, _⟩) (v := ?v4) rfl (by kernel_rfl) (by kernel_rfl) (by kernel_rfl) (fun _ _ _ h => h) (Or.inl ⟨by rfl, ?hy4⟩) hbx ?rest4
  case hy4 =>
    intro w' hSw
    go_simp
    try with_reducible rfl
  try simp only [Act.put, List.setIfInBounds_toArray, List.set_cons_zero, List.set_cons_succ]
  refine wpAnyH_take (i := 5) (oi := ⟨_, _, _, _, _, _⟩) (v := ?v5) rfl (by kernel_rfl) (by kernel_rfl) (by kernel_rfl) (fun _ _ _ h => h) (Or.inl ⟨by rfl, ?hy5⟩) hbx ?rest5
  case hy5 =>
    intro w' hSw
    go_simp
    try with_reducible rfl
  try simp only [Act.put, List.setIfInBounds_toArray, List.set_cons_zero, List.set_cons_succ]
  refine wpAnyH_take (i := 9) (oi := ⟨_, _, _, _, _, _⟩) (v := ?v9) rfl (by kernel_rfl) (by kernel_rfl) (by kernel_rfl) (fun _ _ _ h => h) (Or.inl ⟨by rfl, ?hy9⟩) hbx ?rest9
  case hy9 =>
    intro w' hSw
    go_simp
    try with_reducible rfl
  try simp only [Act.put, List.setIfInBounds_toArray, List.set_cons_zero, List.set_cons_succ]
  refine wpAnyH_take (i := 10) (oi := ⟨_, _, _, _, _, _⟩) (v := ?v10) rfl (by kernel_rfl) (by kernel_rfl) (by kernel_rfl) (fun _ _ _ h => h) (Or.inl ⟨by rfl, ?hy10⟩) hbx ?rest10
  case hy10 =>
    intro w' hSw
    go_simp
    try with_reducible rfl
  try simp only [Act.put, List.setIfInBounds_toArray, List.set_cons_zero, List.set_cons_succ]
  refine wpAnyH_take (i := 11) (oi := ⟨_, _, _, _, _, _⟩) (v := ?v11) rfl (by kernel_rfl) (by kernel_rfl) (by kernel_rfl) (fun _ _ _ h => h) (Or.inl ⟨by rfl, ?hy11⟩) hbx ?rest11
  case hy11 =>
    intro w' hSw
    go_simp
    try with_reducible rfl
  try simp only [Act.put, List.setIfInBounds_toArray, List.set_cons_zero, List.set_cons_succ]
  refine Rl.lt0_0 (b := b) (n := n) (k := k) (ar := ar) (sv := v) (w0 := ((w.alloc (.cells #[v] 33)).alloc (.cells #[.bool false, .slice none 0 0, .slice none 0 0] 53)).drew) (Rl.LtReg.mk ?rs ?r1 ?r2 ?r6 ?r7 ?r8 ?r12 ?r13 ?r14 ?r15 ?r16 ?rrd ?rtk) ?rt (fun _ _ d _ _ h => by cases d <;> exact h) HS.out HL.out.2.2 hn (by omega) hdr hblo HL.out.2.1 _ _ _ _ _ _ _ _ _ _ _ HL.out.1.2
  case rs => kernel_rfl
  case r1 => exact ⟨_, _, rfl, rfl, rfl, rfl⟩
  case r2 => exact ⟨_, _, rfl, rfl, rfl, rfl⟩
  case r6 => exact ⟨_, _, rfl, rfl, rfl, rfl⟩
  case r7 => exact ⟨_, rfl, rfl, rfl, rfl⟩
  case r8 => exact ⟨_, _, rfl, rfl, rfl, rfl⟩
  case r12 => exact ⟨_, _, rfl, rfl, rfl, rfl⟩
  case r13 => exact ⟨_, rfl, rfl, rfl, rfl⟩
  case r14 => exact ⟨_, _, rfl, rfl, rfl, rfl⟩
  case r15 => exact ⟨_, rfl, rfl, rfl, rfl⟩
  case r16 => exact ⟨_, rfl, rfl, rfl, rfl⟩
  case rrd => kernel_rfl
  case rtk => kernel_rfl
  case rt =>
  intro x1 x2 y1 s1 x3 y2 s2 g wx z lg hl t1 t2
  have hgx : Chg b (b+1) ((w.alloc (.cells #[v] 33)).alloc (.cells #[.bool false, .slice none 0 0, .slice none 0 0] 53)).drew wx := by obtain ⟨_, _, _, _, h4⟩ := hl; exact h4
  have hres := HL.out.1.1.chg hgx (by omega)
  have hg1 : w.heap.size + 1 ≠ g := by have := EZ.out; omega
  obtain ⟨a1, c1, rfl⟩ := t1.form
  obtain ⟨a2, c2, rfl⟩ := t2.form
  have z0 := z
  obtain ⟨⟨q0, q1, q2⟩, q3⟩ := z
  refine wpAnyH_ready (rs := [17]) (by kernel_rfl) (by simp) ?_
  refine AllReadyH.cons rfl (fun K hK => ?_) AllReadyH.nil
  simp only [Rl.pt]
  go_simp
  have L1 := z0.put (.bool (!x1)) (.slice a1 s1.length c1) (.slice a2 s2.length c2)
  have T1 := t1.box z0 (!x1) (.slice a1 s1.length c1) (.slice a2 s2.length c2)
  have T2 := t2.box z0 (!x1) (.slice a1 s1.length c1) (.slice a2 s2.length c2)
  have F1 := ((hl.set (p := ⟨g, 0, none⟩) lg HL.out.2.2 (.bool (!x1))).set (p := ⟨g, 1, none⟩) lg HL.out.2.2 (.slice a1 s1.length c1)).set (p := ⟨g, 2, none⟩) lg HL.out.2.2 (.slice a2 s2.length c2)
  have Z1 := ((hres.far hg1 0 (.bool (!x1))).far hg1 1 (.slice a1 s1.length c1)).far hg1 2 (.slice a2 s2.length c2)
  clear z0 q0 q1 q2 q3 t1 t2 hl hres hgx
  generalize (((wx.setCell ⟨g, 0, none⟩ (.bool (!x1))).setCell ⟨g, 1, none⟩ (.slice a1 s1.length c1)).setCell ⟨g, 2, none⟩ (.slice a2 s2.length c2)) = wy at *
  refine hK.out _ _ (HS.out _ (by obtain ⟨_, _, _, _, h4⟩ := F1; exact h4)) (fun _ => ?_)
  clear hK K
  refine wpAnyH_done (by kernel_rfl) ?_ _
  have hbD := HL.out.2.2
  obtain ⟨k1, f1, f2, f3, f4⟩ := F1
  have hzy := f4.size
  have HO := Lib.hid (one_c b n k1 3 3 wy rfl hn (by omega) (by omega) f3)
  have HF4 := Lib.hid (And.intro f3 f4)
  clear HL HS f3 f4 hbx
  go_wp2_with fail
  refine HO.out.mono ?_; rintro e wz ⟨q, k2, rfl, g1, g2, g3, g4⟩
  have L2 := L1.chg g4 (by omega)
  have Z2 := Z1.chg g4 (by omega)
  have T3 := T1.chg g4 hbD
  have T4 := T2.chg g4 hbD
  have hbo := HF4.out.2.trans g4
  have F2 : Rl.LF b n k 8100 w wz := ⟨k2, by omega, by omega, g3, (Chg.of_bel BD).trans hbo⟩
  clear L1 Z1 T1 T2 HO HF4
  have hz2 := hbo.size
  cases q with
  | false =>
    obtain ⟨⟨q0, q1, q2⟩, q3⟩ := L2
    obtain ⟨⟨r0, r1, r2⟩, r3⟩ := Z2
    have HE := Lib.hid (And.intro (And.intro T3 T4) F2)
    have R2 := Lib.hid (And.intro (And.intro q0 (And.intro q1 q2)) (And.intro (And.intro r0 (And.intro r1 r2)) r3))
    clear T3 T4 F2 g3 g4 hbo
    go_wp2_with fail
    have Z3 : Rl.Lb wz (w.heap.size + 1) (.bool false) (.slice none 0 0) (.slice none 0 0) := ⟨R2.out.2.1, R2.out.2.2⟩
    have hb1 : w.heap.size ≤ w.heap.size + 1 := Nat.le_succ _
    obtain ⟨⟨y0, y1, y2⟩, -⟩ := Z3.put (.bool (!x1)) (.slice a1 s1.length c1) (.slice a2 s2.length c2)
    try simp only [Exit.inBlock, Exit.then]
    refine bodyPost_ret (v := .agg #[.bool (!x1), .slice a1 s1.length c1, .slice a2 s2.length c2]) (by simp [results, Tryz.results49, go_sem, y0, y1, y2]) rfl ⟨!x1, _, _, s1, s2, rfl, (HE.out.1.1.box Z3 _ _ _).ofBel BD, (HE.out.1.2.box Z3 _ _ _).ofBel BD, ((HE.out.2.set (p := ⟨w.heap.size + 1, 0, none⟩) hb1 hbl _).set (p := ⟨w.heap.size + 1, 1, none⟩) hb1 hbl _).set (p := ⟨w.heap.size + 1, 2, none⟩) hb1 hbl _⟩
  | true =>
    have hgz := L2.lt
    have ZA := (Z2.far hg1 2 (.slice (some ⟨wz.heap.size, 0, none⟩) 1 1)).bel (Bel.alloc0 _ (.cells #[.int .i64 0] 3))
    have LB := (L2.put2 (.slice (some ⟨wz.heap.size, 0, none⟩) 1 1)).bel (Bel.alloc0 _ (.cells #[.int .i64 0] 3))
    have T5 := (T3.other (p := ⟨g, 2, none⟩) L2.1.2.2 (fun n => by simp) (.slice (some ⟨wz.heap.size, 0, none⟩) 1 1)).alloc (.cells #[.int .i64 0] 3)
    have T6 : Rl.TF ((w.alloc (.cells #[v] 33)).alloc (.cells #[.bool false, .slice none 0 0, .slice none 0 0] 53)).drew ((wz.setCell ⟨g, 2, none⟩ (.slice (some ⟨wz.heap.size, 0, none⟩) 1 1)).alloc (.cells #[.int .i64 0] 3)) (.slice (some ⟨wz.heap.size, 0, none⟩) 1 1) [0] := ⟨⟨wz.heap.size, hz2, by simp, SlI.arr (xs := [0]) rfl (by simp) (by simp) (Nat.le_refl _) (Nat.lt_succ_self _)⟩, by simp, by simp⟩
    have F3 := (F2.set (p := ⟨g, 2, none⟩) (show w.heap.size ≤ g by have := EZ.out; omega) hbl (.slice (some ⟨wz.heap.size, 0, none⟩) 1 1)).alloc (.cells #[.int .i64 0] 3)
    have HE := Lib.hid (And.intro (And.intro T5 T6) F3)
    have HZ := Lib.hid ZA
    obtain ⟨⟨p0, p1, p2⟩, p3⟩ := L2
    obtain ⟨⟨q0, q1, q2⟩, q3⟩ := LB
    obtain ⟨⟨r0, r1, r2⟩, r3⟩ := ZA
    clear T3 T4 T5 T6 F2 F3 g3 g4 hbo Z2
    go_wp2_with fail
    have hb1 : w.heap.size ≤ w.heap.size + 1 := Nat.le_succ _
    obtain ⟨⟨y0, y1, y2⟩, -⟩ := HZ.out.put (.bool (!x1)) (.slice a1 s1.length c1) (.slice (some ⟨wz.heap.size, 0, none⟩) 1 1)
    try simp only [Exit.inBlock, Exit.then]
    refine bodyPost_ret (v := .agg #[.bool (!x1), .slice a1 s1.length c1, .slice (some ⟨wz.heap.size, 0, none⟩) 1 1]) (by simp [results, Tryz.results49, go_sem, y0, y1, y2]) rfl ⟨!x1, _, _, s1, [0], rfl, (HE.out.1.1.box HZ.out _ _ _).ofBel BD, (HE.out.1.2.box HZ.out _ _ _).ofBel BD, ((HE.out.2.set (p := ⟨w.heap.size + 1, 0, none⟩) hb1 hbl _).set (p := ⟨w.heap.size + 1, 1, none⟩) hb1 hbl _).set (p := ⟨w.heap.size + 1, 2, none⟩) hb1 hbl _⟩
end Go.Proofs.YteegjnobmbcjiaaGreatDoor
end
section
/- The laws' helpers over literals and slices of literals, by contracts: sizes and copies. -/
namespace Go.Proofs.YteegjnobmbcjiaaGreatDoor
open Go.RowKit

set_option maxRecDepth 100000 in
set_option maxHeartbeats 400000 in
theorem szLit_c (l h : Nat) (p : Bool) (u1 u2 : Value) (xl xr : List Int) (left : Int) (w : World) (hl : xl.length ≤ 9223372036854775807) (hr : xr.length ≤ 9223372036854775807) (h0 : 0 ≤ left) (h1 : left ≤ 1048576) (hv1 : SlI l h w u1 xl) (hv2 : SlI l h w u2 xr) :
    Calls Tryz.prog 32 #[.agg #[.bool p, u1, u2], .int .i64 left] w (RetV w (.int .i64 (szI (xl.length + xr.length) left))) := by
  have HB := Bel.alloc0 w (.cells #[.bool p, u1, u2] 68)
  by_cases hs : left - xl.length < 0
  · have E : Hid (szI (xl.length + xr.length) left = -1) := by show szI _ _ = _; unfold szI; rw [if_pos (by omega)]
    have e1 : szI xl.length left = -1 := by unfold szI; rw [if_pos hs]
    have HC := Lib.hid (szIntS_c l h u1 xl left _ hl h0 h1 (hv1.below HB))
    rw [e1] at HC
    clear hv1 hv2 hs e1
    go_enter Tryz.func32, Tryz.ntmps32
    go_wp2_with (go_at_call 31; refine HC.out.mono ?_; rintro e w' ⟨rfl, hb1⟩)
    go_ret
    exact ⟨by rw [E.out]; rfl, HB.step hb1⟩
  · have e1 : szI xl.length left = left - xl.length := by unfold szI; rw [if_neg hs]
    have HC := Lib.hid (szIntS_c l h u1 xl left _ hl h0 h1 (hv1.below HB))
    rw [e1] at HC
    have hz0 : 0 ≤ left - (xl.length : Int) := by omega
    have hz1 : left - (xl.length : Int) ≤ 1048576 := by omega
    by_cases hs2 : left - xl.length - xr.length < 0
    · have E : Hid (szI (xl.length + xr.length) left = -1) := by show szI _ _ = _; unfold szI; rw [if_pos (by omega)]
      have e2 : szI xr.length (left - xl.length) = -1 := by unfold szI; rw [if_pos hs2]
      have HD := Lib.hid (fun (w' : World) (hb : Bel (w.alloc (.cells #[.bool p, u1, u2] 68)) w') => szIntS_c l h u2 xr (left - xl.length) w' hr hz0 hz1 ((hv2.below HB).below hb))
      rw [e2] at HD
      clear hv1 hv2 hs e1 hs2 e2
      generalize left - (xl.length : Int) = z at *
      go_enter Tryz.func32, Tryz.ntmps32
      go_wp2_with fail
      refine HC.out.mono ?_; rintro e w1 ⟨rfl, hb1⟩
      have hbx := hb1.at (b := w.heap.size) (off := 2) (by simp) (show (w.alloc (.cells #[.bool p, u1, u2] 68)).cell? ⟨w.heap.size, 2, none⟩ = some u2 by simp)
      go_wp2_with fail
      refine (HD.out _ hb1).mono ?_; rintro e w2 ⟨rfl, hb2⟩
      go_wp2_with fail
      go_ret
      exact ⟨by rw [E.out]; rfl, (HB.step hb1).step hb2⟩
    · have E : Hid (szI (xl.length + xr.length) left = left - xl.length - xr.length) := by show szI _ _ = _; unfold szI; rw [if_neg (by omega)]; omega
      have e2 : szI xr.length (left - xl.length) = left - xl.length - xr.length := by unfold szI; rw [if_neg hs2]
      have HD := Lib.hid (fun (w' : World) (hb : Bel (w.alloc (.cells #[.bool p, u1, u2] 68)) w') => szIntS_c l h u2 xr (left - xl.length) w' hr hz0 hz1 ((hv2.below HB).below hb))
      rw [e2] at HD
      have hy0 : 0 ≤ left - (xl.length : Int) - xr.length := by omega
      clear hv1 hv2 hs e1 hs2 e2
      generalize left - (xl.length : Int) - (xr.length : Int) = y at *
      generalize left - (xl.length : Int) = z at *
      go_enter Tryz.func32, Tryz.ntmps32
      go_wp2_with fail
      refine HC.out.mono ?_; rintro e w1 ⟨rfl, hb1⟩
      have hbx := hb1.at (b := w.heap.size) (off := 2) (by simp) (show (w.alloc (.cells #[.bool p, u1, u2] 68)).cell? ⟨w.heap.size, 2, none⟩ = some u2 by simp)
      go_wp2_with fail
      refine (HD.out _ hb1).mono ?_; rintro e w2 ⟨rfl, hb2⟩
      go_wp2_with fail
      go_ret
      exact ⟨by rw [E.out]; rfl, (HB.step hb1).step hb2⟩

def szC (c : List Lt) (left : Int) : Int := if left - (sumC c : Nat) < 0 then -1 else left - (sumC c : Nat)
def lenC (c : List Lt) : Nat := sumL (flatC c)
theorem sumC_eq (c : List Lt) : sumC c = c.length + lenC c := by
  unfold lenC
  induction c with
  | nil => rfl
  | cons x r ih => rw [flatC_cons]; simp only [sumC, sumL, List.map_cons, List.sum_cons, List.length_cons, wC] at *; omega
theorem lenC_take (c : List Lt) (k : Nat) (h : k < c.length) : lenC (c.take (k+1)) = lenC (c.take k) + ((c.getD k lt0).2.1.length + (c.getD k lt0).2.2.length) := by
  have h1 := sumC_take c k h
  rw [sumC_eq, sumC_eq] at h1
  have e1 : (c.take (k+1)).length = k + 1 := by rw [List.length_take]; omega
  have e2 : (c.take k).length = k := by rw [List.length_take]; omega
  unfold wC at h1
  omega
theorem lenC_all (c : List Lt) (k : Nat) (h : ¬ k < c.length) : lenC (c.take k) = lenC c := by rw [List.take_of_length_le (by omega)]
theorem lenC_get (c : List Lt) (k : Nat) (h : k < c.length) : lenC (c.take k) + ((c.getD k lt0).2.1.length + (c.getD k lt0).2.2.length) ≤ lenC c := by
  rw [← lenC_take c k h]
  conv => rhs; rw [← List.take_append_drop (k+1) c]
  unfold lenC
  rw [flatC_app]; unfold sumL; rw [List.map_append, List.sum_append]; omega
theorem SlC.max {lo hi w v c} (h : SlC lo hi w v c) : c.length ≤ 9223372036854775807 ∧ ∀ j, j < c.length → (c.getD j lt0).2.1.length ≤ 9223372036854775807 ∧ (c.getD j lt0).2.2.length ≤ 9223372036854775807 := by
  obtain ⟨ad, cap, e, hc, hm, hr⟩ := h
  have hml : maxLen = 9223372036854775807 := rfl
  refine ⟨by omega, fun j hj => ?_⟩
  obtain ⟨b, off, _, _, _, hx⟩ := hr (by omega)
  obtain ⟨u1, u2, _, _, _, ⟨ad2, cap2, _, hc2, hm2, _⟩, ⟨ad3, cap3, _, hc3, hm3, _⟩⟩ := hx j hj
  omega

set_option maxRecDepth 100000 in
set_option maxHeartbeats 400000 in
theorem szLitS_c (l h : Nat) (v : Value) (c : List Lt) (left : Int) (w : World) (h0 : 0 ≤ left) (h1 : left ≤ 1048576) (hv : SlC l h w v c) :
    Calls Tryz.prog 6 #[v, .int .i64 left] w (RetV w (.int .i64 (szC c left))) := by
  obtain ⟨ad, cap, rfl⟩ := hv.form
  obtain ⟨hx, hmax⟩ := hv.max
  have hse := sumC_eq c
  by_cases hs : left - c.length < 0
  · have E : Hid (szC c left = -1) := by show szC _ _ = _; unfold szC; rw [if_pos (by omega)]
    go_enter Tryz.func6, Tryz.ntmps6
    go_wp2_with fail
    go_ret
    exact ⟨by rw [E.out]; rfl, Bel.rfl' _⟩
  · have hw1 := IntWalk.i64_in (left - c.length) (by omega)
    go_enter Tryz.func6, Tryz.ntmps6
    go_wp2_with fail
    go_loopw [1, 5] (fun m i wr => ∃ (k : Nat) (z : Int), k ≤ c.length ∧ i = .int .i64 k ∧ m = .int .i64 z ∧ 0 ≤ z ∧ z = left - c.length - (lenC (c.take k) : Nat) ∧ Bel w wr) (fun _ i _ => c.length - (intOf i).toNat)
    case atStart => exact ⟨0, _, Nat.zero_le _, rfl, by go_num, by omega, by simp [lenC, flatC, sumL], Bel.rfl' _⟩
    case round =>
      obtain ⟨k, z, hk, rfl, rfl, hz0, hz, hb⟩ := hrel
      by_cases hlt : k < c.length
      · obtain ⟨b, off, u1, u2, rfl, -, c1, c2, c3, s1, s2⟩ := hv.at hb k hlt
        obtain ⟨hm1, hm2⟩ := hmax k hlt
        have hst := lenC_take c k hlt
        have hsl := lenC_get c k hlt
        have hcall := szLit_c l h (c.getD k lt0).1 u1 u2 (c.getD k lt0).2.1 (c.getD k lt0).2.2 z wr hm1 hm2 hz0 (by omega) s1 s2
        have hin0 : (0 : Int) ≤ k := by omega
        have hin1 : (k : Int) < c.length := by omega
        generalize hp : (c.getD k lt0).1 = p at *
        generalize hxl : (c.getD k lt0).2.1 = xl at *
        generalize hxr : (c.getD k lt0).2.2 = xr at *
        by_cases hneg : z - (xl.length + xr.length : Int) < 0
        · have e1 : szI (xl.length + xr.length) z = -1 := by unfold szI; rw [if_pos hneg]
          have E : Hid (szC c left = -1) := by show szC _ _ = _; unfold szC; rw [if_pos (by omega)]
          rw [e1] at hcall
          have HC := Lib.hid hcall
          clear hcall hv s1 s2 hmax hst hsl e1 hneg hz hse hxl hxr hp
          go_wp2_with (go_at_call 32; refine HC.out.mono ?_; rintro e w' ⟨rfl, hb1⟩)
          go_ret
          exact ⟨by rw [E.out]; rfl, hb.step hb1⟩
        · have e1 : szI (xl.length + xr.length) z = z - (xl.length + xr.length) := by unfold szI; rw [if_neg hneg]
          have hz' : z - ((xl.length : Int) + xr.length) = left - c.length - (lenC (c.take (k+1)) : Nat) := by omega
          rw [e1] at hcall
          have HC := Lib.hid hcall
          have HZ := Lib.hid hz'
          have hz2 : 0 ≤ z - ((xl.length : Int) + xr.length) := by omega
          clear hcall hv s1 s2 hmax hst hsl e1 hneg hz hz' hse hxl hxr hp
          generalize z - ((xl.length : Int) + xr.length) = z2 at *
          go_wp2_with (go_at_call 32; refine HC.out.mono ?_; rintro e w' ⟨rfl, hb1⟩)
          go_roundw
          case rel => exact ⟨k+1, z2, by omega, by go_num, rfl, hz2, HZ.out, hb.step hb1⟩
          case measure => simp [intOf]; omega
      · have E : Hid (szC c left = z) := by
          show szC _ _ = _
          rw [lenC_all c k hlt] at hz
          unfold szC; rw [if_neg (by omega)]; omega
        clear hz
        go_wp2_with fail
        go_ret
        exact ⟨by rw [E.out]; rfl, hb⟩
end Go.Proofs.YteegjnobmbcjiaaGreatDoor
end
section
/- The laws' helpers over literals, by contracts: copies, comparisons. -/
namespace Go.Proofs.YteegjnobmbcjiaaGreatDoor
open Go.RowKit

/-- A literal of the call's own: its two terms in two ranges. -/
def RetL (w : World) (x : Lt) (e : Ending) (w' : World) : Prop :=
  ∃ a1 n1 c1 a2 n2 c2 m, e = .returned (.agg #[.bool x.1, .slice a1 n1 c1, .slice a2 n2 c2]) ∧ w.heap.size ≤ m ∧ m ≤ w'.heap.size ∧ OwnI w.heap.size m w' (.slice a1 n1 c1) x.2.1 ∧ OwnI m w'.heap.size w' (.slice a2 n2 c2) x.2.2 ∧ Bel w w'

set_option maxRecDepth 100000 in
set_option maxHeartbeats 400000 in
theorem eqLit_same (l h l' h' : Nat) (p : Bool) (u1 u2 q1 q2 : Value) (xl xr : List Int) (w : World) (hl : xl.length ≤ 1048576) (hr : xr.length ≤ 1048576) (a1 : SlI l h w u1 xl) (a2 : SlI l h w u2 xr) (b1 : SlI l' h' w q1 xl) (b2 : SlI l' h' w q2 xr) :
    Calls Tryz.prog 40 #[.agg #[.bool p, u1, u2], .agg #[.bool p, q1, q2]] w (RetV w (.bool true)) := by
  have HB : Bel w ((w.alloc (.cells #[.bool p, u1, u2] 53)).alloc (.cells #[.bool p, q1, q2] 53)) := Bel.alloc2 _ _ _
  have HC := Lib.hid (fun (w' : World) (hb : Bel w w') => eqIntS_same l h l' h' u1 q1 xl w' hl (a1.below hb) (b1.below hb))
  have HD := Lib.hid (fun (w' : World) (hb : Bel w w') => eqIntS_same l h l' h' u2 q2 xr w' hr (a2.below hb) (b2.below hb))
  clear a1 a2 b1 b2
  go_enter Tryz.func40, Tryz.ntmps40
  go_wp2_with fail
  refine (HC.out _ HB).mono ?_; rintro e w1 ⟨rfl, hb1⟩
  have ka := hb1.at (b := w.heap.size) (off := 2) (by simp; omega) (show World.cell? _ _ = some u2 by simp [go_sem])
  have kb := hb1.at (b := w.heap.size + 1) (off := 2) (by simp) (show World.cell? _ _ = some q2 by simp [go_sem])
  have HB1 := HB.step hb1
  go_wp2_with fail
  refine (HD.out _ HB1).mono ?_; rintro e w2 ⟨rfl, hb2⟩
  go_wp2_with fail
  go_ret
  exact ⟨rfl, HB1.step hb2⟩

set_option maxRecDepth 100000 in
set_option maxHeartbeats 400000 in
theorem toLit_c (l h : Nat) (p : Bool) (u1 u2 : Value) (xl xr : List Int) (w : World) (hl : xl.length ≤ 1048576) (hr : xr.length ≤ 1048576) (h1 : SlI l h w u1 xl) (h2 : SlI l h w u2 xr) :
    Calls Tryz.prog 36 #[.agg #[.bool p, u1, u2]] w (RetL w (p, xl, xr)) := by
  have HC := Lib.hid (fun (w' : World) (hb : Bel w w') => toIntS_c l h u1 xl w' hl (h1.below hb))
  have HD := Lib.hid (fun (w' : World) (hb : Bel w w') => toIntS_c l h u2 xr w' hr (h2.below hb))
  clear h1 h2
  go_enter Tryz.func36, Tryz.ntmps36
  go_wp2_with fail
  have HB : Bel w (((w.alloc (.cells #[.bool p, u1, u2] 68)).alloc (.cells #[.bool false, .slice none 0 0, .slice none 0 0] 53)).alloc (.cells #[.bool p, .slice none 0 0, .slice none 0 0] 53)) := Bel.alloc3 _ _ _ _
  refine (HC.out _ HB).mono ?_; rintro e w1 ⟨a1, n1, c1, rfl, o1, hb1⟩
  have hz1 := hb1.size
  simp only [World.size_alloc] at hz1 o1
  have e0 := hb1.at (b := w.heap.size) (off := 2) (by simp; omega) (show World.cell? _ _ = some u2 by simp [go_sem])
  have e1 := hb1.at (b := w.heap.size + 1) (off := 0) (by simp) (show World.cell? _ _ = some (.bool false) by simp [go_sem])
  have e2 := hb1.at (b := w.heap.size + 1) (off := 1) (by simp) (show World.cell? _ _ = some (.slice none 0 0) by simp [go_sem])
  have e3 := hb1.at (b := w.heap.size + 1) (off := 2) (by simp) (show World.cell? _ _ = some (.slice none 0 0) by simp [go_sem])
  have f0 := hb1.at (b := w.heap.size + 1 + 1) (off := 0) (by simp) (show World.cell? _ _ = some (.bool p) by simp [go_sem])
  have f1 := hb1.at (b := w.heap.size + 1 + 1) (off := 1) (by simp) (show World.cell? _ _ = some (.slice none 0 0) by simp [go_sem])
  have f2 := hb1.at (b := w.heap.size + 1 + 1) (off := 2) (by simp) (show World.cell? _ _ = some (.slice none 0 0) by simp [go_sem])
  have g1 : ∀ i, w1.frozen? ⟨w.heap.size + 1, i, none⟩ = false := fun i => (hb1.frozen (p := ⟨w.heap.size + 1, i, none⟩) (by simp)).trans (by simp [go_sem])
  have g2 : ∀ i, w1.frozen? ⟨w.heap.size + 1 + 1, i, none⟩ = false := fun i => (hb1.frozen (p := ⟨w.heap.size + 1 + 1, i, none⟩) (by simp)).trans (by simp [go_sem])
  have HB1 := HB.step hb1
  go_wp2_with fail
  have HS : Bel w (w1.setCell ⟨w.heap.size + 1 + 1, 1, none⟩ (.slice a1 n1 c1)) := HB1.set (by simp; omega) _
  refine (HD.out _ HS).mono ?_; rintro e w2 ⟨a2, n2, c2, rfl, o2, hb2⟩
  have hz2 := hb2.size
  simp only [World.size_setCell] at hz2 o2
  have far : ∀ {b o : Nat} {x : Value}, (b ≠ w.heap.size + 1 + 1 ∨ o ≠ 1) → w1.cell? ⟨b, o, none⟩ = some x → b < w1.heap.size → w2.cell? ⟨b, o, none⟩ = some x := fun hne hc hlt =>
    hb2.at (by simpa using hlt) (by rw [World.cell?_setCell_other (h := by intro h; simp at h; omega)]; exact hc)
  have e1' := far (.inl (by omega)) e1 (by omega)
  have e2' := far (.inl (by omega)) e2 (by omega)
  have e3' := far (.inl (by omega)) e3 (by omega)
  have f0' := far (.inr (by omega)) f0 (by omega)
  have f1' := hb2.at (b := w.heap.size + 1 + 1) (off := 1) (by simp; omega) (World.cell?_setCell_same w1 _ _ f1)
  have f2' := far (.inr (by omega)) f2 (by omega)
  have g1' : ∀ i, w2.frozen? ⟨w.heap.size + 1, i, none⟩ = false := fun i => (hb2.frozen (p := ⟨w.heap.size + 1, i, none⟩) (by simp; omega)).trans (by rw [World.frozen?_setCell]; exact g1 i)
  have g2' : ∀ i, w2.frozen? ⟨w.heap.size + 1 + 1, i, none⟩ = false := fun i => (hb2.frozen (p := ⟨w.heap.size + 1 + 1, i, none⟩) (by simp; omega)).trans (by rw [World.frozen?_setCell]; exact g2 i)
  have HB2 := HS.step hb2
  clear far
  go_wp2_with fail
  have o1' := ((((((o1.set (p := ⟨w.heap.size + 1 + 1, 1, none⟩) (.inl (by simp)) (.slice a1 n1 c1)).below hb2).set (p := ⟨w.heap.size + 1 + 1, 2, none⟩) (.inl (by simp)) (.slice a2 n2 c2)).set (p := ⟨w.heap.size + 1, 0, none⟩) (.inl (by simp)) (.bool p)).set (p := ⟨w.heap.size + 1, 1, none⟩) (.inl (by simp)) (.slice a1 n1 c1)).set (p := ⟨w.heap.size + 1, 2, none⟩) (.inl (by simp)) (.slice a2 n2 c2))
  have o2' := ((((o2.set (p := ⟨w.heap.size + 1 + 1, 2, none⟩) (.inl (by simp; omega)) (.slice a2 n2 c2)).set (p := ⟨w.heap.size + 1, 0, none⟩) (.inl (by simp; omega)) (.bool p)).set (p := ⟨w.heap.size + 1, 1, none⟩) (.inl (by simp; omega)) (.slice a1 n1 c1)).set (p := ⟨w.heap.size + 1, 2, none⟩) (.inl (by simp; omega)) (.slice a2 n2 c2))
  have HB3 := ((((HB2.set (p := ⟨w.heap.size + 1 + 1, 2, none⟩) (by simp; omega) (.slice a2 n2 c2)).set (p := ⟨w.heap.size + 1, 0, none⟩) (by simp) (.bool p)).set (p := ⟨w.heap.size + 1, 1, none⟩) (by simp) (.slice a1 n1 c1)).set (p := ⟨w.heap.size + 1, 2, none⟩) (by simp) (.slice a2 n2 c2))
  refine bodyPost_ret (v := .agg #[.bool p, .slice a1 n1 c1, .slice a2 n2 c2]) (by simp [results, Tryz.results36, go_sem, e1', e2', e3']) rfl ⟨_, _, _, _, _, _, w1.heap.size, rfl, by omega, by simp; omega, o1'.mono (by omega) (Nat.le_refl _), o2'.mono (Nat.le_refl _) (by simp), HB3⟩
end Go.Proofs.YteegjnobmbcjiaaGreatDoor
end
section
/- The laws' helpers over slices of literals: copies. -/
namespace Go.Proofs.YteegjnobmbcjiaaGreatDoor
open Go.RowKit

theorem Tryz.info53 : (Tryz.prog.info? 53).map (fun i => (i.zero, i.size, i.bytes)) = some (some (.agg #[.bool false, .slice none 0 0, .slice none 0 0]), 3, 56) := by kernel_rfl
theorem flatC_take' (c : List Lt) (k : Nat) (h : k < c.length) : flatC (c.take (k+1)) = flatC (c.take k) ++ [(c.getD k lt0).2.1] ++ [(c.getD k lt0).2.2] := by
  rw [List.take_succ_eq_append_getElem h, flatC_app]
  simp [flatC, List.getD, h]
def z0C : LV := (false, .slice none 0 0, .slice none 0 0)
theorem made3 (n : Nat) : (madeCells #[.bool false, .slice none 0 0, .slice none 0 0] (n * 3)).toList = cellsC (List.replicate n z0C) := by
  have e : ∀ m, (madeCells #[.bool false, .slice none 0 0, .slice none 0 0] m).toList = (List.range m).map (fun i => (#[Value.bool false, .slice none 0 0, .slice none 0 0] : Array Value)[i % 3]!) := by
    intro m; simp [madeCells, Array.toList_range]
  rw [e]
  induction n with
  | zero => rfl
  | succ n ih =>
    rw [List.replicate_succ', cellsC_app, ← ih, show (n + 1) * 3 = n * 3 + 1 + 1 + 1 from by omega, List.range_succ, List.range_succ, List.range_succ]
    simp only [List.map_append, List.map_cons, List.map_nil, List.append_assoc]
    congr 1
    have h0 : (n * 3) % 3 = 0 := by omega
    have h1 : (n * 3 + 1) % 3 = 1 := by omega
    have h2 : (n * 3 + 1 + 1) % 3 = 2 := by omega
    rw [h0, h1, h2]
    rfl
theorem cellsC_set (zs rest : List LV) (y : LV) (p : Bool) (a b : Value) :
    (((cellsC (zs ++ y :: rest)).set (zs.length * 3) (.bool p)).set (zs.length * 3 + 1) a).set (zs.length * 3 + 2) b = cellsC (zs ++ (p, a, b) :: rest) := by
  have hl := cellsC_len zs
  rw [cellsC_app, cellsC_app]
  rw [List.set_append_right _ _ (by omega), hl, Nat.sub_self, List.set_append_right _ _ (by omega), hl, Nat.add_sub_cancel_left, List.set_append_right _ _ (by omega), hl, Nat.add_sub_cancel_left]
  rfl

set_option maxRecDepth 100000 in
set_option maxHeartbeats 400000 in
theorem toLitS_c (l h : Nat) (v : Value) (c : List Lt) (w : World) (hx : sumC c ≤ 1048576) (hv : SlC l h w v c) :
    Calls Tryz.prog 9 #[v] w (RetC w c) := by
  obtain ⟨ad, cap, rfl⟩ := hv.form
  obtain ⟨hxl, hmax⟩ := shortC_of_sum hx
  obtain ⟨i0, hi, hz0, hz1, hz2⟩ := info_parts Tryz.info53
  go_enter Tryz.func9, Tryz.ntmps9
  go_wp2_with (at_make; refine wpList_make_full _ rfl _ _ 30 rfl w.heap.size 53 i0 (.agg #[.bool false, .slice none 0 0, .slice none 0 0]) 3 Tryz.underlying30 hi hz0 hz1 _ _ _ _ c.length rfl rfl rfl rfl (by rw [hz2]; omega) (by unfold maxLen; omega) (Nat.le_refl _) ?_; intro w1 hown hg)
  have hz3 : (madeCells (Value.agg #[.bool false, .slice none 0 0, .slice none 0 0]).cells (c.length * 3)).toList = cellsC ([] ++ List.replicate (c.length - 0) z0C) := by
    rw [show (Value.agg #[.bool false, .slice none 0 0, .slice none 0 0]).cells = #[.bool false, .slice none 0 0, .slice none 0 0] from rfl, made3]; simp
  rw [hz3] at hown
  have hb0 : Bel w w1 := (Bel.rfl' w).grown hg (by simp)
  have hs1 : w.heap.size + 1 ≤ w1.heap.size := by
    rcases hown.2 with ⟨e, _⟩ | ⟨g, c, cur, e, _, hh, _⟩
    · simp at e
    · simp at e; have := (Array.getElem?_eq_some_iff.1 hh).1; omega
  clear hg hz3
  go_loopw [4] (fun i wr => ∃ (k : Nat) (zs : List LV) (bs : Nat → Nat), k ≤ c.length ∧ i = .int .i64 k ∧ wr.ownsRow w.heap.size 53 3 (.slice (some ⟨w.heap.size, 0, none⟩) c.length c.length) c.length (cellsC (zs ++ List.replicate (c.length - k) z0C)) ∧
    zs.map (·.1) = (c.take k).map (·.1) ∧ Ins (w.heap.size + 1) wr.heap.size w.heap.size wr (rowsC zs) (flatC (c.take k)) bs ∧ w.heap.size + 1 ≤ wr.heap.size ∧ Bel w wr) (fun i _ => c.length - (intOf i).toNat)
  case atStart => exact ⟨0, [], _, Nat.zero_le _, rfl, hown, rfl, (Ins.none _ _ _ _), hs1, hb0⟩
  case round =>
    obtain ⟨k, zs, bs, hk, rfl, ho, hzp, hin, hs, hb⟩ := hrel
    have hzl : zs.length = k := by have := congrArg List.length hzp; simp at this; omega
    by_cases hlt : k < c.length
    · obtain ⟨b, off, u1, u2, rfl, hbs, c1, c2, c3, s1, s2⟩ := hv.at hb k hlt
      obtain ⟨hm1, hm2⟩ := hmax k hlt
      have HFT := Lib.hid (flatC_take' c k hlt)
      have HTK : Hid ((c.take (k+1)).map (·.1) = (c.take k).map (·.1) ++ [(c.getD k lt0).1]) := by show _ = _; rw [List.take_succ_eq_append_getElem hlt, List.map_append]; simp [List.getD, hlt]
      have hin1 : (k : Int) < c.length := by omega
      have hrep : List.replicate (c.length - k) z0C = z0C :: List.replicate (c.length - (k+1)) z0C := by rw [show c.length - k = (c.length - (k+1)) + 1 from by omega, List.replicate_succ]
      rw [hrep] at ho
      generalize c.getD k lt0 = x at *
      obtain ⟨p, xl, xr⟩ := x
      simp only at *
      obtain ⟨a1, d1, rfl⟩ := s1.form
      obtain ⟨a2, d2, rfl⟩ := s2.form
      have HG : Hid ((zs ++ z0C :: List.replicate (c.length - (k+1)) z0C)[k]? = some z0C) := by show _ = _; rw [List.getElem?_append_right (by omega), hzl, Nat.sub_self]; rfl
      have HC := Lib.hid (toLit_c l h p _ _ xl xr wr hm1 hm2 s1 s2)
      have HI := Lib.hid hin
      have HO := Lib.hid ho
      have HP := Lib.hid hzp
      clear hv s1 s2 hmax hown hin ho hzp
      go_wp2_with (go_at_call 36; refine HC.out.mono ?_; rintro e w' ⟨b1, m1, q1, b2, m2, q2, M, rfl, hM1, hM2, o1, o2, hb2⟩; have ho3 := ownsRow_bel HO.out hb2; obtain ⟨t0, t1, t2⟩ := cellsC_get _ k z0C (HG.out); have y0 := (ho3.cellAt (k * 3) (by omega)).trans t0; have y1 := (ho3.cellAt (k * 3 + 1) (by omega)).trans t1; have y2 := (ho3.cellAt (k * 3 + 2) (by omega)).trans t2; have x0 := ho3.frozenAt (k * 3); have x1 := ho3.frozenAt (k * 3 + 1); have x2 := ho3.frozenAt (k * 3 + 2))
      go_roundw
      case rel =>
        have hst := ((((ho3.stored (k * 3) (.bool p)).1).stored (k * 3 + 1) (.slice b1 m1 q1)).1.stored (k * 3 + 2) (.slice b2 m2 q2)).1
        have hst2 := cellsC_set zs (List.replicate (c.length - (k+1)) z0C) z0C p (.slice b1 m1 q1) (.slice b2 m2 q2)
        rw [hzl] at hst2
        rw [hst2] at hst
        obtain ⟨bs1, hin1⟩ := (HI.out.below hb2).snoc o1 (Nat.le_refl _) hs (.inl (by omega)) (hi2 := M) (Nat.le_refl _) hM1
        obtain ⟨bs2, hin2⟩ := hin1.snoc o2 (Nat.le_refl _) (by omega) (.inl (by omega)) (hi2 := w'.heap.size) (Nat.le_refl _) hM2
        rw [← HFT.out] at hin2
        have hin3 := hin2.same (w' := ((w'.setCell ⟨w.heap.size, k * 3, none⟩ (.bool p)).setCell ⟨w.heap.size, k * 3 + 1, none⟩ (.slice b1 m1 q1)).setCell ⟨w.heap.size, k * 3 + 2, none⟩ (.slice b2 m2 q2)) (fun b h1 h2 _ => by
          rw [Below.heap_setCell _ _ _ b (by simp; omega), Below.heap_setCell _ _ _ b (by simp; omega), Below.heap_setCell _ _ _ b (by simp; omega)])
        have hB := (((hb.step hb2).set (p := ⟨w.heap.size, k * 3, none⟩) (Nat.le_refl _) (.bool p)).set (p := ⟨w.heap.size, k * 3 + 1, none⟩) (Nat.le_refl _) (.slice b1 m1 q1)).set (p := ⟨w.heap.size, k * 3 + 2, none⟩) (Nat.le_refl _) (.slice b2 m2 q2)
        have hsz := hb2.size
        refine ⟨k+1, zs ++ [(p, .slice b1 m1 q1, .slice b2 m2 q2)], bs2, by omega, by go_num, by rw [List.append_assoc]; exact hst, by rw [List.map_append, HP.out, HTK.out]; rfl, ?_, by simp; omega, hB⟩
        rw [rowsC_app]
        simpa [rowsC] using hin3
      case measure => simp [intOf]; omega
    · rw [show c.length - k = 0 from by omega, List.replicate_zero, List.append_nil] at ho
      rw [List.take_of_length_le (by omega)] at hin hzp
      have HI := Lib.hid hin
      have HO := Lib.hid ho
      have HP := Lib.hid hzp
      clear hin ho hv hmax hown hzp
      go_wp2_with fail
      go_ret
      exact ⟨_, _, _, rfl, OwnC.of_row HO.out (Nat.le_refl _) HP.out (fun g hg => by simp [Value.ownBlock] at hg; subst hg; exact HI.out.mono (by omega) (Nat.le_refl _)), hb⟩
end Go.Proofs.YteegjnobmbcjiaaGreatDoor
end
section
/- The laws' helpers over slices of literals: comparisons, marks. -/
namespace Go.Proofs.YteegjnobmbcjiaaGreatDoor
open Go.RowKit

set_option maxRecDepth 100000 in
set_option maxHeartbeats 400000 in
theorem eqLitS_same (l h l' h' : Nat) (v u : Value) (c : List Lt) (w : World) (hx : sumC c ≤ 1048576) (hv : SlC l h w v c) (hu : SlC l' h' w u c) :
    Calls Tryz.prog 12 #[v, u] w (RetV w (.bool true)) := by
  obtain ⟨ad, cap, rfl⟩ := hv.form
  obtain ⟨ad', cap', rfl⟩ := hu.form
  obtain ⟨hxl, hmax⟩ := shortC_of_sum hx
  have hl' : ((c.length : Int) != c.length) = false := by simp
  go_enter Tryz.func12, Tryz.ntmps12
  go_wp2_with fail
  go_loopw [5] (fun i wr => ∃ k : Nat, k ≤ c.length ∧ i = .int .i64 k ∧ Bel w wr) (fun i _ => c.length - (intOf i).toNat)
  case atStart => exact ⟨0, Nat.zero_le _, rfl, Bel.rfl' _⟩
  case round =>
    obtain ⟨k, hk, rfl, hb⟩ := hrel
    by_cases hlt : k < c.length
    · obtain ⟨b, off, u1, u2, rfl, -, c1, c2, c3, s1, s2⟩ := hv.at hb k hlt
      obtain ⟨b', off', q1, q2, rfl, -, d1, d2, d3, t1, t2⟩ := hu.at hb k hlt
      obtain ⟨hm1, hm2⟩ := hmax k hlt
      have hin1 : (k : Int) < c.length := by omega
      clear hv hu hmax
      generalize c.getD k lt0 = x at *
      obtain ⟨p, xl, xr⟩ := x
      simp only at *
      have B1 := World.block_lt_of_cell? wr ⟨b, _, none⟩ c1
      have B2 := World.block_lt_of_cell? wr ⟨b', _, none⟩ d1
      have HC := Lib.hid (fun w' (h1 : Bel wr w') => eqLit_same _ _ _ _ p u1 u2 q1 q2 xl xr w' hm1 hm2 (s1.below h1) (s2.below h1) (t1.below h1) (t2.below h1))
      clear s1 s2 t1 t2
      go_wp2_with fail
      go_region_held3 (fun w' => Bel wr w' ∧ (w'.cell? ⟨b, off + k * 3, none⟩ = some (.bool p) ∧ w'.cell? ⟨b, off + k * 3 + 1, none⟩ = some u1 ∧ w'.cell? ⟨b, off + k * 3 + 2, none⟩ = some u2) ∧ (w'.cell? ⟨b', off' + k * 3, none⟩ = some (.bool p) ∧ w'.cell? ⟨b', off' + k * 3 + 1, none⟩ = some q1 ∧ w'.cell? ⟨b', off' + k * 3 + 2, none⟩ = some q2))
        (first | exact ⟨Bel.drew0 _, ⟨c1, c2, c3⟩, d1, d2, d3⟩ | exact ⟨hb2.of_drew, ⟨hb2.at B1 c1, hb2.at B1 c2, hb2.at B1 c3⟩, hb2.at B2 d1, hb2.at B2 d2, hb2.at B2 d3⟩ | fail)
        (first | (go_at_call 40; refine (HC.out _ (Bel.drew0 _)).mono ?_; rintro e w2 ⟨rfl, hb2⟩) | fail)
      go_wp2_with fail
      go_roundw
      case rel => exact ⟨k+1, by omega, by go_num, hb.step hb2.of_drew⟩
      case measure => simp [intOf]; omega
    · go_wp2_with fail
      go_ret
      exact ⟨rfl, hb⟩

theorem Ins.but {lo hi b w w' us xss bs} (h : Ins lo hi b w us xss bs) (hs : ∀ x, x ≠ b → lo ≤ x → x < hi → x < w.heap.size → w'.heap[x]? = w.heap[x]?) : Ins lo hi b w' us xss bs := by
  refine ⟨h.len, h.rng, h.inj, fun j u hj => ?_⟩
  have ho := h.own j u hj
  have hlt : j < xss.length := by rw [← h.len]; exact (List.getElem?_eq_some_iff.1 hj).1
  by_cases hp : 0 < (xss.getD j []).length
  · obtain ⟨a1, a2, a3⟩ := h.rng j hlt hp
    exact ho.same fun x h1 h2 h3 => hs x (by omega) (by omega) (by omega) h3
  · rw [len0 hp] at ho ⊢
    exact ho.empty
structure CRow (lo hi b off : Nat) (w : World) (zs : List LV) (c : List Lt) (bs : Nat → Nat) : Prop where
  hlo : lo ≤ b
  hhi : b < hi
  len : zs.length = c.length
  cell : ∀ j z, zs[j]? = some z → z.1 = (c.getD j lt0).1 ∧ w.cell? ⟨b, off + j * 3, none⟩ = some (.bool z.1) ∧ w.cell? ⟨b, off + j * 3 + 1, none⟩ = some z.2.1 ∧ w.cell? ⟨b, off + j * 3 + 2, none⟩ = some z.2.2
  free : ∀ i, w.frozen? ⟨b, i, none⟩ = false
  ins : Ins lo hi b w (rowsC zs) (flatC c) bs
theorem rowsC_set (zs : List LV) (j : Nat) (z : LV) (p : Bool) (h : zs[j]? = some z) : rowsC (zs.set j (p, z.2)) = rowsC zs := by
  induction zs generalizing j with
  | nil => simp
  | cons x r ih =>
    cases j with
    | zero => simp at h; subst h; rfl
    | succ j => simp only [List.set_cons_succ]; show _ :: _ :: rowsC _ = _ :: _ :: rowsC _; rw [ih j (by simpa using h)]
theorem flatC_set (c : List Lt) (j : Nat) (y : Lt) (h : j < c.length) : flatC (c.set j y) = ((flatC c).set (2 * j) y.2.1).set (2 * j + 1) y.2.2 := by
  induction c generalizing j with
  | nil => simp at h
  | cons x r ih =>
    cases j with
    | zero => rfl
    | succ j =>
      rw [List.set_cons_succ, flatC_cons, flatC_cons, ih j (by simpa using h), show 2 * (j + 1) = (2 * j) + 1 + 1 from by omega]
      simp
theorem CRow.sign {lo hi b off : Nat} {w : World} {zs : List LV} {c : List Lt} {bs : Nat → Nat} (h : CRow lo hi b off w zs c bs) (j : Nat) (z : LV) (hz : zs[j]? = some z) (p : Bool) :
    CRow lo hi b off (w.setCell ⟨b, off + j * 3, none⟩ (.bool p)) (zs.set j (p, z.2)) (c.set j (p, (c.getD j lt0).2)) bs := by
  have hj : j < zs.length := (List.getElem?_eq_some_iff.1 hz).1
  have hjc : j < c.length := by rw [← h.len]; exact hj
  have hflat : flatC (c.set j (p, (c.getD j lt0).2)) = flatC c := by
    rw [flatC_set c j _ hjc]
    have := flatC_get c j
    have hl := flatC_len c
    show ((flatC c).set (2 * j) (c.getD j lt0).2.1).set (2 * j + 1) (c.getD j lt0).2.2 = flatC c
    rw [← this.1, ← this.2]
    apply List.ext_getElem?
    intro i
    simp only [List.getElem?_set]
    split
    · rename_i e; subst e; simp [List.getD, show 2 * j + 1 < (flatC c).length by omega]
    · split
      · rename_i e; subst e; simp [List.getD, show 2 * j < (flatC c).length by omega]
      · rfl
  refine ⟨h.hlo, h.hhi, by simp [h.len], fun i y hy => ?_, fun i => by rw [World.frozen?_setCell]; exact h.free i, ?_⟩
  · rw [List.getElem?_set] at hy
    by_cases e : j = i
    · subst e
      rw [if_pos rfl, if_pos hj] at hy
      obtain rfl : (p, z.2) = y := by simpa using hy
      obtain ⟨_, c1, c2, c3⟩ := h.cell j z hz
      refine ⟨by simp [List.getD, hjc], World.cell?_setCell_same w _ _ c1, ?_, ?_⟩
      · rw [World.cell?_setCell_other (h := by intro h; simp at h <;> omega)]; exact c2
      · rw [World.cell?_setCell_other (h := by intro h; simp at h <;> omega)]; exact c3
    · rw [if_neg e] at hy
      obtain ⟨e1, c1, c2, c3⟩ := h.cell i y hy
      refine ⟨by rw [e1]; simp [List.getD, e], ?_, ?_, ?_⟩
      · rw [World.cell?_setCell_other (h := by intro h; simp at h <;> omega)]; exact c1
      · rw [World.cell?_setCell_other (h := by intro h; simp at h <;> omega)]; exact c2
      · rw [World.cell?_setCell_other (h := by intro h; simp at h <;> omega)]; exact c3
  · rw [rowsC_set zs j z p hz, hflat]
    exact h.ins.but fun x hx _ _ _ => Below.heap_setCell w _ _ x (by simpa using hx)
theorem CRow.terms {lo hi b off : Nat} {w w' : World} {zs : List LV} {c c' : List Lt} {bs : Nat → Nat} (h : CRow lo hi b off w zs c bs) (hb : w'.heap[b]? = w.heap[b]?) (hl : c'.length = c.length) (hp : ∀ j, (c'.getD j lt0).1 = (c.getD j lt0).1) (hi' : Ins lo hi b w' (rowsC zs) (flatC c') bs) :
    CRow lo hi b off w' zs c' bs :=
  ⟨h.hlo, h.hhi, by rw [h.len, hl], fun j z hz => by
    obtain ⟨e1, c1, c2, c3⟩ := h.cell j z hz
    exact ⟨by rw [hp]; exact e1, cell_same (fun _ => hb) c1, cell_same (fun _ => hb) c2, cell_same (fun _ => hb) c3⟩,
   fun i => by rw [World.frozen?_of_block (w := w) (a := ⟨b, i, none⟩) hb]; exact h.free i, hi'⟩
end Go.Proofs.YteegjnobmbcjiaaGreatDoor
end
section
/- A row of slices of ints, all of the call's own, grown by append. -/
namespace Go.Proofs.YteegjnobmbcjiaaGreatDoor
open Go.RowKit

def rowBlk (w : World) (v : Value) : Nat := v.ownBlock.getD w.heap.size
def RowO (base : Nat) (w : World) (v : Value) (xss : List (List Int)) : Prop :=
  ∃ (us : List Value) (bs : Nat → Nat), w.ownsRow base 22 1 v us.length us ∧ Ins base w.heap.size (rowBlk w v) w us xss bs
theorem RowO.nil (base : Nat) (w : World) : RowO base w (.slice none 0 0) [] := ⟨[], _, World.ownsRow_nil _ _ _ _, (Ins.none _ _ _ _).mono (Nat.le_refl _) (Nat.le_refl _)⟩
theorem Ins.blk {lo hi b b' w us xss bs} (h : Ins lo hi b w us xss bs) (hb : ∀ j, j < xss.length → 0 < (xss.getD j []).length → bs j ≠ b') : Ins lo hi b' w us xss bs :=
  ⟨h.len, fun j hj hp => ⟨(h.rng j hj hp).1, (h.rng j hj hp).2.1, hb j hj hp⟩, h.inj, h.own⟩
theorem RowO.form {base : Nat} {w : World} {v : Value} {xss : List (List Int)} (h : RowO base w v xss) : ∃ ad c, v = .slice ad xss.length c := by
  obtain ⟨us, bs, ho, hi⟩ := h
  obtain ⟨ad, n, c, rfl⟩ := own_form ho
  have := row_len ho
  exact ⟨ad, c, by rw [this, hi.len]⟩
theorem RowO.bel {base : Nat} {w w' : World} {v : Value} {xss : List (List Int)} (h : RowO base w v xss) (hb : Bel w w') : RowO base w' v xss := by
  obtain ⟨us, bs, ho, hi⟩ := h
  refine ⟨us, bs, ownsRow_bel ho hb, ((hi.below hb).mono (Nat.le_refl _) hb.size).blk fun j hj hp => ?_⟩
  have hr := hi.rng j hj hp
  unfold rowBlk at hr ⊢
  cases hv : v.ownBlock with
  | none => have := hb.size; simp only [Option.getD_none]; omega
  | some g => rw [hv] at hr; simp only [Option.getD_some] at hr ⊢; exact hr.2.2
theorem RowO.own {base : Nat} {w : World} {v : Value} {xss : List (List Int)} (h : RowO base w v xss) : OwnS base w.heap.size w v xss := by
  obtain ⟨us, bs, ho, hi⟩ := h
  refine OwnS.of_row (us := us) (bs := bs) (e := 22) (by rw [← hi.len]; exact ho) (Nat.le_refl _) (fun g hg => ?_)
  unfold rowBlk at hi
  rw [hg] at hi
  exact hi
theorem RowO.step {base : Nat} {w0 w1 w2 : World} {v u : Value} {xss : List (List Int)} {t : List Int} (h : RowO base w0 v xss) (h1 : Bel w0 w1) (h2 : Bel w1 w2) (ho : OwnI w0.heap.size w1.heap.size w1 u t) (hbase : base ≤ w0.heap.size) :
    ∃ us : List Value, w2.ownsRow base 22 1 v us.length us ∧ us.length = xss.length ∧ ∀ w3 v', w3.ownsRow base 22 1 v' (us.length + 1) (us ++ [u]) → w2.grownBy w3 v.ownBlock → (v'.ownBlock = v.ownBlock ∨ v'.ownBlock = some w2.heap.size) → RowO base w3 v' (xss ++ [t]) := by
  obtain ⟨us, bs, hw, hi⟩ := h
  have hlt := hw.lt
  have hz1 := h1.size
  have hz2 := h2.size
  refine ⟨us, ownsRow_bel hw (h1.step h2), hi.len, fun w3 v' hown hg hat => ?_⟩
  have hz3 := hg.size
  obtain ⟨b', hb'⟩ : ∃ b', v'.ownBlock = some b' := by
    rcases hown.2 with ⟨_, hn⟩ | ⟨g, cap, cur, rfl, _⟩
    · omega
    · exact ⟨g, by simp [Value.ownBlock]⟩
  have hrb : rowBlk w3 v' = b' := by unfold rowBlk; rw [hb']; rfl
  -- the elements, in the new world
  have hi2 := hi.below (h1.step h2)
  have hi3 : Ins base w0.heap.size (rowBlk w0 v) w3 us xss bs := by
    refine hi2.but fun x hx _ hxl hx2 => hg.block x hx2 fun e => hx ?_
    unfold rowBlk; rw [← e]; rfl
  have hbb : b' < w0.heap.size ∨ w2.heap.size ≤ b' := by
    rcases hat with e | e
    · rw [hb'] at e; exact .inl (hlt b' e.symm).2
    · rw [hb'] at e; simp at e; exact .inr (by omega)
  have hne : ∀ j, j < xss.length → 0 < (xss.getD j []).length → bs j ≠ b' := by
    intro j hj hp
    have hr := hi.rng j hj hp
    rcases hat with e | e
    · unfold rowBlk at hr; rw [← e, hb'] at hr; exact hr.2.2
    · rw [hb'] at e; simp at e; omega
  have ho3 : OwnI w0.heap.size w1.heap.size w3 u t := (ho.below h2).same fun x hx1 hx2 hx3 => hg.block x hx3 fun e => by have := (hlt x e.symm).2; omega
  obtain ⟨bs', hf⟩ := (hi3.blk hne).snoc ho3 (Nat.le_refl _) hbase (by omega) (hi2 := w3.heap.size) (by omega) (by omega)
  refine ⟨us ++ [u], bs', by simpa using hown, ?_⟩
  rw [hrb]
  exact hf
end Go.Proofs.YteegjnobmbcjiaaGreatDoor
end
section
/- Rows of slices whose elements lie in older memory: copies, deletion. -/
namespace Go.Proofs.YteegjnobmbcjiaaGreatDoor
open Go.RowKit

/-- A slice's three words. -/
abbrev SV := Option Addr × Nat × Nat
def encS (x : SV) : Value := .slice x.1 x.2.1 x.2.2
theorem encS_one (zs : List SV) : ∀ u ∈ zs.map encS, u.oneCell' = true := by
  intro u hu; obtain ⟨z, _, rfl⟩ := List.mem_map.1 hu; rfl
/-- The elements, read in the world W. -/
def Els (W : World) (zs : List SV) (xss : List (List Int)) : Prop := zs.length = xss.length ∧ ∀ j z, zs[j]? = some z → SlI 0 W.heap.size W (encS z) (xss.getD j [])
def RowV (W wr : World) (v : Value) (xss : List (List Int)) : Prop := ∃ zs : List SV, wr.ownsRow W.heap.size 22 1 v zs.length (zs.map encS) ∧ Els W zs xss
def RetRow (W : World) (xss : List (List Int)) (e : Ending) (w' : World) : Prop := ∃ ad n c, e = .returned (.slice ad n c) ∧ RowV W w' (.slice ad n c) xss ∧ Bel W w'
theorem Els.nil (W : World) : Els W [] [] := ⟨rfl, fun j z h => by simp at h⟩
theorem Els.at {W : World} {zs : List SV} {xss : List (List Int)} (h : Els W zs xss) {j : Nat} (hj : j < xss.length) : ∃ z, zs[j]? = some z ∧ SlI 0 W.heap.size W (encS z) (xss.getD j []) :=
  ⟨_, List.getElem?_eq_getElem (by rw [h.1]; exact hj), h.2 j _ (List.getElem?_eq_getElem (by rw [h.1]; exact hj))⟩
theorem Els.erase {W : World} {zs : List SV} {xss : List (List Int)} (h : Els W zs xss) (i : Nat) (_ : i < xss.length) : Els W (zs.eraseIdx i) (xss.eraseIdx i) := by
  refine ⟨by rw [List.length_eraseIdx, List.length_eraseIdx, h.1], fun j z hj => ?_⟩
  rw [List.getElem?_eraseIdx] at hj
  by_cases hlt : j < i
  · rw [if_pos hlt] at hj
    have := h.2 j z hj
    rwa [show (xss.eraseIdx i).getD j [] = xss.getD j [] from by simp [List.getD, List.getElem?_eraseIdx, hlt]]
  · rw [if_neg hlt] at hj
    have := h.2 (j+1) z hj
    rwa [show (xss.eraseIdx i).getD j [] = xss.getD (j+1) [] from by simp [List.getD, List.getElem?_eraseIdx, hlt]]
theorem Els.snoc {W : World} {zs : List SV} {xss : List (List Int)} (h : Els W zs xss) {z : SV} {t : List Int} (hz : SlI 0 W.heap.size W (encS z) t) : Els W (zs ++ [z]) (xss ++ [t]) := by
  refine ⟨by simp [h.1], fun j u hj => ?_⟩
  by_cases e : j < zs.length
  · rw [List.getElem?_append_left e] at hj
    have := h.2 j u hj
    rwa [show (xss ++ [t]).getD j [] = xss.getD j [] from by simp [List.getD, List.getElem?_append_left (show j < xss.length by rw [← h.1]; exact e)]]
  · have hlt := (List.getElem?_eq_some_iff.1 hj).1
    simp at hlt
    obtain rfl : j = zs.length := by omega
    rw [List.getElem?_append_right (Nat.le_refl _), Nat.sub_self] at hj
    simp at hj
    subst hj
    rwa [show (xss ++ [t]).getD zs.length [] = t from by rw [h.1]; simp [List.getD]]
theorem RowV.form {W wr : World} {v : Value} {xss : List (List Int)} (h : RowV W wr v xss) : ∃ ad c, v = .slice ad xss.length c := by
  obtain ⟨zs, ho, he⟩ := h
  obtain ⟨ad, n, c, rfl⟩ := own_form ho
  have := row_len ho
  rw [he.1] at this
  exact ⟨ad, c, by rw [this]⟩
theorem RowV.bel {W wr w2 : World} {v : Value} {xss : List (List Int)} (h : RowV W wr v xss) (hb : Bel wr w2) : RowV W w2 v xss := by
  obtain ⟨zs, ho, he⟩ := h
  exact ⟨zs, ownsRow_bel ho hb, he⟩
theorem RowV.sls {W wr : World} {v : Value} {xss : List (List Int)} (h : RowV W wr v xss) (hb : Bel W wr) : SlS 0 wr.heap.size wr v xss := by
  obtain ⟨zs, h1, h2, h3⟩ := h
  have h0 := h1
  rcases h1.2 with ⟨rfl, hn⟩ | ⟨g, cap, cur, rfl, hg, hh, hn, hc, hs, ht⟩
  · obtain rfl : xss = [] := List.length_eq_zero_iff.1 (by omega)
    exact SlS.nil _ _ _
  · have hgs : g < wr.heap.size := (Array.getElem?_eq_some_iff.1 hh).1
    refine ⟨_, cap, by rw [h2], by omega, ⟨hc, fun h => by simp at h⟩, fun hp => ⟨g, 0, rfl, Nat.zero_le _, hgs, fun j hj => ?_⟩⟩
    have hju : zs[j]? = some zs[j] := List.getElem?_eq_getElem (by omega)
    refine ⟨encS zs[j], by rw [Nat.zero_add, h0.cellAt j (by omega), List.getElem?_map, hju]; rfl, ?_⟩
    exact ((h3 j _ hju).below hb).mono (Nat.le_refl _) hb.size
/-- Reading the k-th. -/
theorem RowV.at {W wr : World} {ad : Option Addr} {n c : Nat} {xss : List (List Int)} (h : RowV W wr (.slice ad n c) xss) (k : Nat) (hk : k < xss.length) :
    ∃ g z, ad = some ⟨g, 0, none⟩ ∧ W.heap.size ≤ g ∧ wr.cell? ⟨g, k, none⟩ = some (encS z) ∧ SlI 0 W.heap.size W (encS z) (xss.getD k []) := by
  obtain ⟨zs, h1, h2⟩ := h
  have h0 := h1
  obtain ⟨z, hz, hs⟩ := h2.at hk
  rcases h1.2 with ⟨e, hn⟩ | ⟨g, cap, cur, e, hg, hh, _⟩
  · rw [h2.1] at hn; omega
  · simp only [Value.slice.injEq] at e
    obtain ⟨rfl, rfl, rfl⟩ := e
    exact ⟨g, z, rfl, hg, by rw [h0.cellAt k (by rw [h2.1]; omega), List.getElem?_map, hz]; rfl, hs⟩

theorem skolem_lt {α : Type} [Inhabited α] {n : Nat} {P : Nat → α → Prop} (H : ∀ j, j < n → ∃ z, P j z) : ∃ f : Nat → α, ∀ j, j < n → P j (f j) :=
  ⟨fun j => if h : j < n then Classical.choose (H j h) else default, fun j hj => by
    show P j (dite (j < n) (fun h => Classical.choose (H j h)) (fun _ => default))
    rw [dif_pos hj]; exact Classical.choose_spec (H j hj)⟩
/-- The three words of the elements of a slice of slices. -/
theorem SlS.vals {lo hi : Nat} {w : World} {ad : Option Addr} {n c : Nat} {xss : List (List Int)} (h : SlS lo hi w (.slice ad n c) xss) : ∃ zs : List SV, Els w zs xss ∧ ∀ a, ad = some a → ∀ j u, (zs.map encS)[j]? = some u → w.cell? (a.add j) = some u := by
  obtain ⟨ad', cap, e, hc, hm, hr⟩ := h
  simp only [Value.slice.injEq] at e
  obtain ⟨rfl, rfl, rfl⟩ := e
  by_cases hp : 0 < xss.length
  · obtain ⟨b, off, rfl, a1, a2, a3⟩ := hr hp
    have H : ∀ j, j < xss.length → ∃ z : SV, w.cell? ⟨b, off + j, none⟩ = some (encS z) ∧ SlI lo hi w (encS z) (xss.getD j []) := fun j hj => by
      obtain ⟨u, h1, h2⟩ := a3 j hj
      obtain ⟨x, y, rfl⟩ := h2.form
      exact ⟨(x, _, y), h1, h2⟩
    obtain ⟨f, hf⟩ := skolem_lt H
    refine ⟨(List.range xss.length).map f, ⟨by simp, fun j z hj => ?_⟩, fun a ha j u hj => ?_⟩
    · have hlt := (List.getElem?_eq_some_iff.1 hj).1
      simp at hlt
      rw [List.getElem?_map, List.getElem?_range hlt] at hj
      simp only [Option.map_some, Option.some.injEq] at hj
      subst hj
      exact (hf j hlt).2.in'
    · have hlt := (List.getElem?_eq_some_iff.1 hj).1
      simp at hlt
      rw [List.getElem?_map, List.getElem?_map, List.getElem?_range hlt] at hj
      simp only [Option.map_some, Option.some.injEq] at hj
      subst hj
      simp only [Option.some.injEq] at ha
      subst ha
      rw [addr_add]
      exact (hf j hlt).1
  · obtain rfl : xss = [] := List.length_eq_zero_iff.1 (by omega)
    exact ⟨[], Els.nil _, fun a _ j u hj => by simp at hj⟩

set_option maxRecDepth 100000 in
theorem cloneS_c (l h : Nat) (v : Value) (xss : List (List Int)) (w : World) (hx : xss.length ≤ 1048576) (hv : SlS l h w v xss) :
    Calls Tryz.prog 145 #[v] w (RetRow w xss) := by
  obtain ⟨i1, hi1, hy0, hy1, hy2⟩ := info_parts Tryz.info22
  obtain ⟨ad, cap, rfl⟩ := hv.form
  have hv0 := hv
  obtain ⟨zs, hE, hcell⟩ := hv.vals
  have hown : (w.alloc (.cells #[] 22)).ownsRow w.heap.size 22 1 (.slice (some ⟨w.heap.size, 0, none⟩) 0 0) ([] : List SV).length (([] : List SV).map encS) :=
    World.ownsRow_lit w #[] 0 (Nat.le_refl _) (Nat.zero_le _) rfl
  have hk := fun (w : World) (a : Option Addr) (n c : Nat) => Lib.run_eql_slice_nil (P := Tryz.prog) w 56 22 a n c 0 0 Tryz.underlying56
  cases ad with
  | none =>
    obtain ⟨ad', cap', e, -, hm, hr⟩ := hv0
    simp only [Value.slice.injEq] at e
    obtain ⟨rfl, -, rfl⟩ := e
    obtain rfl : xss = [] := by
      rcases Nat.eq_zero_or_pos xss.length with h0 | h0
      · exact List.length_eq_zero_iff.1 h0
      · obtain ⟨_, _, e, _⟩ := hr h0; simp at e
    obtain rfl : cap = 0 := hm.2 rfl
    clear hr hm hv hcell hE
    go_enter Tryz.func145, Tryz.ntmps145
    go_wp2_with fail
    go_ret
    exact ⟨_, _, _, rfl, ⟨[], World.ownsRow_nil _ _ _ _, Els.nil _⟩, Bel.rfl' _⟩
  | some a =>
    have hn : ∀ j u, (zs.map encS)[j]? = some u → (w.alloc (.cells #[] 22)).cell? (a.add j) = some u := fun j u hj => by
      have h1 := hcell a rfl j u hj
      have h2 := World.block_lt_of_cell? w (a.add j) h1
      exact ((Bel.alloc0 w (.cells #[] 22)).cell h2).trans h1
    have hzl := hE.1
    clear hcell hv hv0
    go_enter Tryz.func145, Tryz.ntmps145
    go_wp2_with (at_builtin; refine wpList_append_own _ rfl _ _ 56 rfl w.heap.size 22 i1 (.slice none 0 0) 1 24 Tryz.underlying56 hi1 hy0 hy1 hy2 rfl (by decide) _ _ _ rfl hown a xss.length cap (zs.map encS) rfl (by simp [hzl]) hn (encS_one _) (by unfold maxLen; simp; omega) (by simp; omega) (by simp) ?_; intro v' w1 hown' hgrow _)
    have hb1 := (Bel.alloc0 w (.cells #[] 22)).grown hgrow (fun k hk => own_base hown k hk)
    have hown2 : w1.ownsRow w.heap.size 22 1 v' zs.length (zs.map encS) := by rw [hzl]; simpa using hown'
    obtain ⟨g, n, c, rfl⟩ := own_form hown2
    go_ret
    exact ⟨_, _, _, rfl, ⟨zs, hown2, hE⟩, hb1⟩

/-- slices.Delete: the library's contract laid at this program. -/
def delRen : Go.Shelf.Ren := ⟨fun | 45 => 146 | n => n, fun | 0 => 0 | 3 => 3 | 4 => 4 | 22 => 56 | 23 => 22 | n => n, fun n => n⟩
set_option maxRecDepth 100000 in
theorem laysDel : SlLaysE.n45 Tryz.prog delRen := {
  mixed := by kernel_rfl
  f45 := ⟨Tryz.f146.name, by kernel_rfl, Tryz.func146.trans (congrArg some (by kernel_rfl))⟩
  t0 := Tryz.underlying0
  a0 := fun w => by kernel_rfl
  z0 := fun w => by kernel_rfl
  v0 := fun w => by kernel_rfl
  t3 := Tryz.underlying3
  a3 := fun w => by kernel_rfl
  z3 := fun w => by kernel_rfl
  v3 := fun w => by kernel_rfl
  t4 := Tryz.underlying4
  a4 := fun w => by kernel_rfl
  z4 := fun w => by kernel_rfl
  v4 := fun w => by kernel_rfl
  t22 := Tryz.underlying56
  a22 := fun w => by kernel_rfl
  z22 := fun w => by kernel_rfl
  v22 := fun w => by kernel_rfl
  a23 := fun w => by kernel_rfl
  z23 := fun w => by kernel_rfl }

theorem deleteS_c (W wr : World) (ad : Option Addr) (n cap i : Nat) (xss : List (List Int)) (hi : i < xss.length) (hx : xss.length ≤ 1048576) (hb : Bel W wr) (hR : RowV W wr (.slice ad n cap) xss) :
    Calls Tryz.prog 146 #[.slice ad n cap, .int .i64 i, .int .i64 ((i : Int) + 1)] wr (RetRow W (xss.eraseIdx i)) := by
  obtain ⟨i1, hi1, hy0, hy1, hy2⟩ := info_parts Tryz.info22
  obtain ⟨zs, hown, hE⟩ := hR
  have hzl := hE.1
  have hne : Value.slice ad n cap ≠ .slice none 0 0 := by
    intro e
    have := row_len hown
    simp only [Value.slice.injEq] at e
    omega
  obtain ⟨g, cap', e, hg, hlt, hnc, hcm, -, hH⟩ := Lib.holds_of_ownsRow hown hne
  simp only [Value.slice.injEq] at e
  obtain ⟨rfl, rfl, rfl⟩ := e
  have hc := AnyE.slices_Delete laysDel encS (fun _ => rfl) ((none, 0, 0) : SV) (fun w => by kernel_rfl) i1 hi1 hy1 g 0 cap i (i + 1) zs.toArray wr hH (by simpa using hnc) (by unfold maxLen at hcm; omega) (by omega) (by simp; omega)
  have hs : zs.toArray.size = zs.length := by simp
  rw [hs] at hc
  rw [show ((i + 1 : Nat) : Int) = (i : Int) + 1 from by omega] at hc
  refine Calls.mono hc ?_
  rintro e w' ⟨rfl, q, rfl⟩
  have hyl : (zs.take i ++ zs.drop (i + 1) ++ List.replicate (i + 1 - i) ((none, 0, 0) : SV)).length = zs.length := by simp; omega
  have hown2 := Lib.ownsRow_putRow (q := q) (k := zs.length - (i + 1 - i)) hown hyl (by omega)
  have hyt : (zs.take i ++ zs.drop (i + 1) ++ List.replicate (i + 1 - i) ((none, 0, 0) : SV)).take (zs.length - (i + 1 - i)) = zs.eraseIdx i := by
    rw [List.eraseIdx_eq_take_drop_succ, List.take_append_of_le_length (by simp; omega), List.take_of_length_le (by simp; omega)]
  rw [hyt] at hown2
  have hl2 : zs.length - (i + 1 - i) = (zs.eraseIdx i).length := by rw [List.length_eraseIdx_of_lt (by omega)]; omega
  refine ⟨_, _, _, rfl, ⟨zs.eraseIdx i, ?_, hE.erase i hi⟩, Lib.below_putRow hb hg⟩
  rw [hl2] at hown2 ⊢
  simpa using hown2
end Go.Proofs.YteegjnobmbcjiaaGreatDoor
end
section
/- append of one literal to a row of literals of the call's own: at a plain region, and at a step of a region that draws. -/
namespace Go.Proofs.YteegjnobmbcjiaaGreatDoor
open Go.RowKit

/-- A row of literals of the call's own. -/
abbrev RowC (lo : Nat) (w : World) (v : Value) (zs : List LV) : Prop := w.ownsRow lo 53 3 v zs.length (cellsC zs)
theorem RowC.nil (lo : Nat) (w : World) : RowC lo w (.slice none 0 0) [] := World.ownsRow_nil _ _ _ _
theorem news_lit (w : World) (x y z : Value) (t : TypeId) (g : Nat) (hg : g = w.heap.size) : ∀ j u, [x, y, z][j]? = some u → (w.alloc (.cells #[x, y, z] t)).cell? ((⟨g, 0, none⟩ : Addr).add j) = some u := by
  subst hg
  intro j u hj
  match j, hj with
  | 0, hj => simp at hj; subst hj; rw [show (⟨w.heap.size, 0, none⟩ : Addr).add 0 = ⟨w.heap.size, 0, none⟩ from rfl, World.cell?_alloc_new w]; rfl
  | 1, hj => simp at hj; subst hj; rw [addr_add, World.cell?_alloc_new w]; rfl
  | 2, hj => simp at hj; subst hj; rw [addr_add, World.cell?_alloc_new w]; rfl
theorem one_lit (p : Bool) (a b : Option Addr) (n m c d : Nat) : ∀ u ∈ [Value.bool p, Value.slice a n c, Value.slice b m d], u.oneCell' = true := by
  intro u hu; simp at hu; rcases hu with rfl | rfl | rfl <;> rfl

theorem step_append_lit {w : World} {ops : Array Oper} {o : Oper} {a : Act} {K : Act → World → Prop} {Q : Exit → Act → World → Prop} {E : Prop} (hgd : o.guard = none) (s x : Operand) (d : Nat) (hd : o.dst = some d)
    (ho : o.op = .call { callee := .builtin .append, args := #[s, x], argTypes := #[30, 30] })
    (base : Nat) (v : Value) (zs : List LV) (hs : a.eval s = v) (hown : RowC base w v zs) (g : Nat) (p : Bool) (z1 z2 : SV) (hx : a.eval x = .slice (some ⟨g, 0, none⟩) 1 1)
    (hnews : ∀ j u, [Value.bool p, encS z1, encS z2][j]? = some u → w.cell? ((⟨g, 0, none⟩ : Addr).add j) = some u)
    (hl : zs.length ≤ 1048576) (hbase : base ≤ w.heap.size)
    (h : ∀ ad n c w', RowC base w' (.slice ad n c) (zs ++ [(p, encS z1, encS z2)]) → w.grownBy w' v.ownBlock → K (a.put (some d) (.slice ad n c)) w') :
    if Region.wanted o (yielded ops a.tmps) = true then Oper.wp Tryz.prog o a w K Q else E := by
  obtain ⟨i0, hi0, hz0, hz1, hz2⟩ := info_parts Tryz.info53
  have hw : Region.wanted o (yielded ops a.tmps) = true := by simp [Region.wanted, hgd]
  rw [if_pos hw]
  rw [← hd] at h
  refine wp_append_own w s x 30 ho base 53 i0 (.agg #[.bool false, .slice none 0 0, .slice none 0 0]) 3 56 Tryz.underlying30 hi0 hz0 hz1 hz2 rfl (by decide) v zs.length (cellsC zs) hs hown
    ⟨g, 0, none⟩ 1 1 [.bool p, encS z1, encS z2] hx (by simp) hnews (one_lit _ _ _ _ _ _ _) (by unfold maxLen; omega) (by omega) hbase (fun v' w' h1 h2 _ => ?_)
  obtain ⟨ad, n, c, rfl⟩ := own_form h1
  refine h ad n c w' ?_ h2
  have e : cellsC (zs ++ [(p, encS z1, encS z2)]) = cellsC zs ++ [.bool p, encS z1, encS z2] := by rw [cellsC_app]; rfl
  show World.ownsRow _ _ _ _ _ _ _
  rw [e]
  simpa using h1
end Go.Proofs.YteegjnobmbcjiaaGreatDoor
end
section
/- A row of literals of the call's own, whose terms are the call's own too, grown by append. -/
namespace Go.Proofs.YteegjnobmbcjiaaGreatDoor
open Go.RowKit

/-- One more, in a block that none of the others has. -/
theorem Ins.snocG {lo hi b : Nat} {w : World} {us : List Value} {xss : List (List Int)} {bs : Nat → Nat} (h : Ins lo hi b w us xss bs) {l2 h2 : Nat} {u : Value} {xs : List Int} (ho : OwnI l2 h2 w u xs)
    (hne : ∀ j, j < xss.length → 0 < (xss.getD j []).length → bs j < l2 ∨ h2 ≤ bs j) (hlo : lo ≤ l2) (hbl : b < l2 ∨ h2 ≤ b) {hi2 : Nat} (h1 : h2 ≤ hi2) (h3 : hi ≤ hi2) :
    ∃ bs', Ins lo hi2 b w (us ++ [u]) (xss ++ [xs]) bs' ∧ (∀ j, j < xss.length → bs' j = bs j) ∧ (0 < xs.length → l2 ≤ bs' xss.length ∧ bs' xss.length < h2) := by
  obtain ⟨c, hc, hr⟩ := ho.block
  have hn := h.len
  refine ⟨fun j => if j = xss.length then c else bs j, ⟨by simp [hn], fun j hj hp => ?_, fun i j hij hj hpi hpj => ?_, fun j v hj => ?_⟩, fun j hj => by simp; omega, fun hp => by simpa using hr hp⟩
  · by_cases e : j = xss.length
    · subst e
      simp only [List.getD, List.getElem?_append_right (Nat.le_refl _), Nat.sub_self, List.getElem?_cons_zero, Option.getD_some] at hp
      have := hr hp
      simp only [if_true]
      omega
    · have hlt : j < xss.length := by simp at hj; omega
      simp only [List.getD, List.getElem?_append_left hlt] at hp
      have := h.rng j hlt hp
      simp only [e, if_false]
      omega
  · have hilt : i < xss.length := by simp at hj; omega
    simp only [List.getD, List.getElem?_append_left hilt] at hpi
    by_cases e : j = xss.length
    · subst e
      simp only [List.getD, List.getElem?_append_right (Nat.le_refl _), Nat.sub_self, List.getElem?_cons_zero, Option.getD_some] at hpj
      have h5 := hr hpj
      have h6 := hne i hilt hpi
      simp only [if_true]
      rw [if_neg (by omega)]
      omega
    · have hlt : j < xss.length := by simp at hj; omega
      simp only [List.getD, List.getElem?_append_left hlt] at hpj
      simp only [e, if_false]
      rw [if_neg (by omega)]
      exact h.inj i j hij hlt hpi hpj
  · by_cases e : j = xss.length
    · subst e
      rw [List.getElem?_append_right (by omega), hn, Nat.sub_self] at hj
      simp only [List.getElem?_cons_zero, Option.some.injEq] at hj
      subst hj
      simpa [List.getD] using hc
    · have hlt : j < us.length := by
        have := (List.getElem?_eq_some_iff.1 hj).1
        simp at this; omega
      rw [List.getElem?_append_left hlt] at hj
      have := h.own j v hj
      simp only [e, if_false]
      simpa [List.getD, List.getElem?_append_left (show j < xss.length by omega)] using this

def RowCO (base : Nat) (w : World) (v : Value) (c : List Lt) : Prop :=
  ∃ (zs : List LV) (bs : Nat → Nat), RowC base w v zs ∧ zs.map (·.1) = c.map (·.1) ∧ Ins base w.heap.size (rowBlk w v) w (rowsC zs) (flatC c) bs
theorem RowCO.nil (base : Nat) (w : World) : RowCO base w (.slice none 0 0) [] := ⟨[], _, RowC.nil _ _, rfl, (Ins.none _ _ _ _).mono (Nat.le_refl _) (Nat.le_refl _)⟩
theorem RowCO.len {base : Nat} {w : World} {v : Value} {c : List Lt} (h : RowCO base w v c) : ∃ zs : List LV, RowC base w v zs ∧ zs.length = c.length := by
  obtain ⟨zs, bs, h1, h2, _⟩ := h
  exact ⟨zs, h1, by simpa using congrArg List.length h2⟩
theorem RowCO.bel {base : Nat} {w w' : World} {v : Value} {c : List Lt} (h : RowCO base w v c) (hb : Bel w w') : RowCO base w' v c := by
  obtain ⟨zs, bs, ho, hp, hi⟩ := h
  refine ⟨zs, bs, ownsRow_bel ho hb, hp, ((hi.below hb).mono (Nat.le_refl _) hb.size).blk fun j hj hpos => ?_⟩
  have hr := hi.rng j hj hpos
  unfold rowBlk at hr ⊢
  cases hv : v.ownBlock with
  | none => have := hb.size; simp only [Option.getD_none]; omega
  | some g => rw [hv] at hr; simp only [Option.getD_some] at hr ⊢; exact hr.2.2
theorem RowCO.own {base : Nat} {w : World} {v : Value} {c : List Lt} (h : RowCO base w v c) : OwnC base w.heap.size w v c := by
  obtain ⟨zs, bs, ho, hp, hi⟩ := h
  have hzl : zs.length = c.length := by simpa using congrArg List.length hp
  refine OwnC.of_row (zs := zs) (bs := bs) (e := 53) (by rw [← hzl]; exact ho) (Nat.le_refl _) hp (fun g hg => ?_)
  unfold rowBlk at hi
  rw [hg] at hi
  exact hi
theorem RowCO.blk {base : Nat} {w : World} {v : Value} {c : List Lt} (h : RowCO base w v c) : ∀ g, v.ownBlock = some g → base ≤ g ∧ g < w.heap.size := by
  obtain ⟨zs, bs, ho, _⟩ := h
  exact ho.lt
theorem row_len3 {w : World} {base e n m c : Nat} {ad : Option Addr} {xs : List Value} (h : w.ownsRow base e 3 (.slice ad n c) m xs) : n = m := by
  rcases h.2 with ⟨e1, h2⟩ | ⟨g, cap, cur, e1, _⟩
  · simp only [Value.slice.injEq] at e1; omega
  · simp only [Value.slice.injEq] at e1; omega
theorem RowCO.form {base : Nat} {w : World} {v : Value} {c : List Lt} (h : RowCO base w v c) : ∃ ad k, v = .slice ad c.length k := h.own.sl.form
theorem RowCO.step {base l1 h1 l2 h2 : Nat} {w0 w1 w2 : World} {v u1 u2 : Value} {c : List Lt} {t1 t2 : List Int} (h : RowCO base w0 v c) (hb1 : Bel w0 w1) (hb2 : Bel w1 w2) (o1 : OwnI l1 h1 w1 u1 t1) (o2 : OwnI l2 h2 w1 u2 t2)
    (r1 : w0.heap.size ≤ l1) (r2 : w0.heap.size ≤ l2) (q1 : h1 ≤ w1.heap.size) (q2 : h2 ≤ w1.heap.size) (hd : h1 ≤ l2 ∨ h2 ≤ l1) (hbase : base ≤ w0.heap.size) (p : Bool) :
    ∃ zs : List LV, RowC base w2 v zs ∧ zs.length = c.length ∧ ∀ w3 v', RowC base w3 v' (zs ++ [(p, u1, u2)]) → w2.grownBy w3 v.ownBlock → (v'.ownBlock = v.ownBlock ∨ v'.ownBlock = some w2.heap.size) → RowCO base w3 v' (c ++ [(p, t1, t2)]) := by
  obtain ⟨zs, bs, hw, hp, hi⟩ := h
  have hlt := hw.lt
  have hz1 := hb1.size
  have hz2 := hb2.size
  have hzl : zs.length = c.length := by simpa using congrArg List.length hp
  refine ⟨zs, ownsRow_bel hw (hb1.step hb2), hzl, fun w3 v' hown hg hat => ?_⟩
  have hz3 := hg.size
  obtain ⟨b', hb'⟩ : ∃ b', v'.ownBlock = some b' := by
    rcases hown.2 with ⟨_, hn⟩ | ⟨g, cap, cur, rfl, _⟩
    · simp at hn
    · exact ⟨g, by simp [Value.ownBlock]⟩
  have hrb : rowBlk w3 v' = b' := by unfold rowBlk; rw [hb']; rfl
  have hi2 := hi.below (hb1.step hb2)
  have hi3 : Ins base w0.heap.size (rowBlk w0 v) w3 (rowsC zs) (flatC c) bs := by
    refine hi2.but fun x hx _ hxl hx2 => hg.block x hx2 fun e => hx ?_
    unfold rowBlk; rw [← e]; rfl
  have hbb : b' < w0.heap.size ∨ w2.heap.size ≤ b' := by
    rcases hat with e | e
    · rw [hb'] at e; exact .inl (hlt b' e.symm).2
    · rw [hb'] at e; simp at e; exact .inr (by omega)
  have hne : ∀ j, j < (flatC c).length → 0 < ((flatC c).getD j []).length → bs j ≠ b' := by
    intro j hj hpos
    have hr := hi.rng j hj hpos
    rcases hat with e | e
    · unfold rowBlk at hr; rw [← e, hb'] at hr; exact hr.2.2
    · rw [hb'] at e; simp at e; omega
  have ho1 : OwnI l1 h1 w3 u1 t1 := (o1.below hb2).same fun x hx1 hx2 hx3 => hg.block x hx3 fun e => by have := (hlt x e.symm).2; omega
  have ho2 : OwnI l2 h2 w3 u2 t2 := (o2.below hb2).same fun x hx1 hx2 hx3 => hg.block x hx3 fun e => by have := (hlt x e.symm).2; omega
  have hi4 := hi3.blk hne
  obtain ⟨bs1, hf1, hsame, hnew⟩ := hi4.snocG ho1 (fun j hj hpos => by have := hi4.rng j hj hpos; omega) (by omega) (by omega) (hi2 := w1.heap.size) (by omega) (by omega)
  obtain ⟨bs2, hf2, _, _⟩ := hf1.snocG ho2 (fun j hj hpos => by
    by_cases e : j = (flatC c).length
    · subst e
      have : 0 < t1.length := by simpa [List.getD] using hpos
      have := hnew this
      omega
    · have hjl : j < (flatC c).length := by simp at hj; omega
      have hp' : 0 < ((flatC c).getD j []).length := by simpa [List.getD, List.getElem?_append_left hjl] using hpos
      have := hi4.rng j hjl hp'
      rw [hsame j hjl]
      omega) (by omega) (by omega) (hi2 := w3.heap.size) (by omega) (by omega)
  refine ⟨zs ++ [(p, u1, u2)], bs2, hown, by rw [List.map_append, List.map_append, hp]; rfl, ?_⟩
  rw [hrb, rowsC_app, flatC_app]
  simpa [rowsC, flatC] using hf2

theorem step_append_litO {w : World} {ops : Array Oper} {o : Oper} {a : Act} {K : Act → World → Prop} {Q : Exit → Act → World → Prop} {E : Prop} (hgd : o.guard = none) (s x : Operand) (d : Nat) (hd : o.dst = some d)
    (ho : o.op = .call { callee := .builtin .append, args := #[s, x], argTypes := #[30, 30] })
    (base : Nat) (v : Value) (zs : List LV) (hs : a.eval s = v) (hown : RowC base w v zs) (g : Nat) (p : Bool) (z1 z2 : SV) (hx : a.eval x = .slice (some ⟨g, 0, none⟩) 1 1)
    (hnews : ∀ j u, [Value.bool p, encS z1, encS z2][j]? = some u → w.cell? ((⟨g, 0, none⟩ : Addr).add j) = some u)
    (hl : zs.length ≤ 1048576) (hbase : base ≤ w.heap.size)
    (h : ∀ b k w', RowC base w' (.slice (some ⟨b, 0, none⟩) (zs.length + 1) k) (zs ++ [(p, encS z1, encS z2)]) → w.grownBy w' v.ownBlock → ((Value.slice (some ⟨b, 0, none⟩) (zs.length + 1) k).ownBlock = v.ownBlock ∨ (Value.slice (some ⟨b, 0, none⟩) (zs.length + 1) k).ownBlock = some w.heap.size) → K (a.put (some d) (.slice (some ⟨b, 0, none⟩) (zs.length + 1) k)) w') :
    if Region.wanted o (yielded ops a.tmps) = true then Oper.wp Tryz.prog o a w K Q else E := by
  obtain ⟨i0, hi0, hz0, hz1, hz2⟩ := info_parts Tryz.info53
  rw [← hd] at h
  refine step_append_lies w hgd s x 30 ho base 53 i0 (.agg #[.bool false, .slice none 0 0, .slice none 0 0]) 3 56 Tryz.underlying30 hi0 hz0 hz1 hz2 rfl (by decide) v zs.length (cellsC zs) hs hown
    ⟨g, 0, none⟩ 1 1 [.bool p, encS z1, encS z2] hx (by simp) hnews (one_lit _ _ _ _ _ _ _) (by decide) (by unfold maxLen; omega) (by omega) hbase w.heap.size rfl (fun b k w' h1 h2 h3 _ => ?_)
  refine h b k w' ?_ h2 ?_
  · have e : cellsC (zs ++ [(p, encS z1, encS z2)]) = cellsC zs ++ [.bool p, encS z1, encS z2] := by rw [cellsC_app]; rfl
    show World.ownsRow _ _ _ _ _ _ _
    rw [e]
    simpa using h1
  · rcases h3 with h3 | h3
    · exact .inl (by rw [h3]; simp [Value.ownBlock])
    · exact .inr (by subst h3; simp [Value.ownBlock])
end Go.Proofs.YteegjnobmbcjiaaGreatDoor
end
section
/- A row of literals of the draws, whose terms may be shared. No program. -/
namespace Go.Proofs.YteegjnobmbcjiaaGreatDoor
open Go.RowKit

/-- A term of the draws, in a block that is not the row's. -/
def TD (B : Nat) (w : World) (o v : Value) (t : List Int) : Prop := (∃ g, B ≤ g ∧ g < w.heap.size ∧ o.ownBlock ≠ some g ∧ SlI g (g+1) w v t) ∧ t.length ≤ 400
theorem TD.of {B : Nat} {w0 w : World} {o v : Value} {t : List Int} (h : Rl.TF w0 w v t) (hB : B ≤ w0.heap.size) (ho : ∀ g, o.ownBlock = some g → g < w0.heap.size) : TD B w o v t := by
  obtain ⟨⟨c, h1, h2, h3⟩, h4⟩ := h
  exact ⟨⟨c, by omega, h2, fun e => by have := ho c e; omega, h3⟩, h4.2⟩
theorem TD.bel {B : Nat} {w w' : World} {o v : Value} {t : List Int} (h : TD B w o v t) (hb : Bel w w') : TD B w' o v t := by
  obtain ⟨⟨c, h1, h2, h3, h5⟩, h4⟩ := h
  exact ⟨⟨c, h1, Nat.lt_of_lt_of_le h2 hb.size, h3, h5.below hb⟩, h4⟩
theorem TD.chg {b B : Nat} {w w' : World} {o v : Value} {t : List Int} (h : TD B w o v t) (k : Chg b (b+1) w w') (hb : b < B) : TD B w' o v t := by
  obtain ⟨⟨c, h1, h2, h3, h5⟩, h4⟩ := h
  exact ⟨⟨c, h1, Nat.lt_of_lt_of_le h2 k.size, h3, h5.chg k (by omega)⟩, h4⟩
theorem TD.grown {B : Nat} {w w' : World} {o o' v : Value} {t : List Int} (h : TD B w o v t) (hg : w.grownBy w' o.ownBlock) (ho : o'.ownBlock = o.ownBlock ∨ o'.ownBlock = some w.heap.size) : TD B w' o' v t := by
  obtain ⟨⟨c, h1, h2, h3, h5⟩, h4⟩ := h
  refine ⟨⟨c, h1, Nat.lt_of_lt_of_le h2 hg.size, fun e => ?_, h5.same fun x hx1 hx2 hx3 => hg.block x hx3 fun e => ?_⟩, h4⟩
  · rcases ho with ho | ho
    · exact h3 (by rw [← ho]; exact e)
    · rw [ho] at e; simp at e; omega
  · exact h3 (by rw [← e]; congr 1; omega)
theorem TD.form {B : Nat} {w : World} {o v : Value} {t : List Int} (h : TD B w o v t) : ∃ a c, v = .slice a t.length c := by
  obtain ⟨⟨c, _, _, _, h3⟩, _⟩ := h
  exact h3.form

def RowD (B : Nat) (w : World) (o : Value) (c : List Lt) : Prop :=
  ∃ zs : List LV, RowC B w o zs ∧ zs.length = c.length ∧ ∀ j z, zs[j]? = some z → z.1 = (c.getD j lt0).1 ∧ TD B w o z.2.1 (c.getD j lt0).2.1 ∧ TD B w o z.2.2 (c.getD j lt0).2.2
theorem RowD.nil (B : Nat) (w : World) : RowD B w (.slice none 0 0) [] := ⟨[], RowC.nil _ _, rfl, fun j z h => by simp at h⟩
theorem RowD.form {B : Nat} {w : World} {o : Value} {c : List Lt} (h : RowD B w o c) : ∃ ad k, o = .slice ad c.length k := by
  obtain ⟨zs, ho, h1, h2⟩ := h
  obtain ⟨ad, n, k, rfl⟩ := own_form ho
  exact ⟨ad, k, by rw [row_len3 ho, h1]⟩
theorem RowD.bel {B : Nat} {w w' : World} {o : Value} {c : List Lt} (h : RowD B w o c) (hb : Bel w w') : RowD B w' o c := by
  obtain ⟨zs, ho, h1, h2⟩ := h
  exact ⟨zs, ownsRow_bel ho hb, h1, fun j z hz => ⟨(h2 j z hz).1, (h2 j z hz).2.1.bel hb, (h2 j z hz).2.2.bel hb⟩⟩
theorem row3_chg {w w' : World} {b base : Nat} {e : TypeId} {v : Value} {m : Nat} {xs : List Value} (h : w.ownsRow base e 3 v m xs) (hb : b < base) (k : Chg b (b+1) w w') : w'.ownsRow base e 3 v m xs := by
  refine ⟨h.1, ?_⟩
  rcases h.2 with h0 | ⟨g, cap, cur, e1, e2, hh, r⟩
  · exact .inl h0
  · exact .inr ⟨g, cap, cur, e1, e2, by rw [k.block g (Array.getElem?_eq_some_iff.1 hh).1 (by omega)]; exact hh, r⟩
theorem RowD.chg {b B : Nat} {w w' : World} {o : Value} {c : List Lt} (h : RowD B w o c) (k : Chg b (b+1) w w') (hb : b < B) : RowD B w' o c := by
  obtain ⟨zs, ho, h1, h2⟩ := h
  exact ⟨zs, row3_chg ho hb k, h1, fun j z hz => ⟨(h2 j z hz).1, (h2 j z hz).2.1.chg k hb, (h2 j z hz).2.2.chg k hb⟩⟩
theorem RowD.lt {B : Nat} {w : World} {o : Value} {c : List Lt} (h : RowD B w o c) : ∀ g, o.ownBlock = some g → B ≤ g ∧ g < w.heap.size := by
  obtain ⟨zs, ho, _⟩ := h
  exact ho.lt
/-- One literal more. -/
theorem RowD.snoc {B : Nat} {w w' : World} {o o' : Value} {c : List Lt} {zs : List LV} {z : LV} {x : Lt} (h1 : zs.length = c.length) (h2 : ∀ j z, zs[j]? = some z → z.1 = (c.getD j lt0).1 ∧ TD B w o z.2.1 (c.getD j lt0).2.1 ∧ TD B w o z.2.2 (c.getD j lt0).2.2)
    (hz : z.1 = x.1 ∧ TD B w o z.2.1 x.2.1 ∧ TD B w o z.2.2 x.2.2) (hn : RowC B w' o' (zs ++ [z])) (hg : w.grownBy w' o.ownBlock) (ho : o'.ownBlock = o.ownBlock ∨ o'.ownBlock = some w.heap.size) : RowD B w' o' (c ++ [x]) := by
  refine ⟨zs ++ [z], hn, by simp [h1], fun j y hj => ?_⟩
  by_cases e : j < zs.length
  · rw [List.getElem?_append_left e] at hj
    obtain ⟨a1, a2, a3⟩ := h2 j y hj
    have e2 : (c ++ [x]).getD j lt0 = c.getD j lt0 := by simp [List.getD, List.getElem?_append_left (show j < c.length by omega)]
    rw [e2]
    exact ⟨a1, a2.grown hg ho, a3.grown hg ho⟩
  · have hlt := (List.getElem?_eq_some_iff.1 hj).1
    simp at hlt
    obtain rfl : j = zs.length := by omega
    rw [List.getElem?_append_right (Nat.le_refl _), Nat.sub_self] at hj
    simp at hj
    subst hj
    have e2 : (c ++ [x]).getD zs.length lt0 = x := by rw [h1]; simp [List.getD]
    rw [e2]
    exact ⟨hz.1, hz.2.1.grown hg ho, hz.2.2.grown hg ho⟩
/-- As a slice of literals that may be read. -/
theorem RowD.slc {B : Nat} {w : World} {o : Value} {c : List Lt} (h : RowD B w o c) : SlC B w.heap.size w o c := by
  obtain ⟨zs, ho, h1, h2⟩ := h
  have h0 := ho
  rcases ho.2 with ⟨rfl, hn⟩ | ⟨g, cap, cur, rfl, hg, hh, hn, hc, hs, ht⟩
  · obtain rfl : c = [] := List.length_eq_zero_iff.1 (by omega)
    exact SlC.nil _ _ _
  · have hgs : g < w.heap.size := (Array.getElem?_eq_some_iff.1 hh).1
    refine ⟨_, cap, by rw [h1], by omega, ⟨hc, fun h => by simp at h⟩, fun hp => ⟨g, 0, rfl, hg, hgs, fun j hj => ?_⟩⟩
    have hz : zs[j]? = some zs[j] := List.getElem?_eq_getElem (by omega)
    obtain ⟨e1, ⟨⟨b1, p1, q1, _, s1⟩, _⟩, ⟨⟨b2, p2, q2, _, s2⟩, _⟩⟩ := h2 j _ hz
    obtain ⟨t0, t1, t2⟩ := cellsC_get zs j _ hz
    refine ⟨zs[j].2.1, zs[j].2.2, ?_, ?_, ?_, s1.mono p1 q1, s2.mono p2 q2⟩
    · rw [Nat.zero_add, h0.cellAt _ (by omega), t0, e1]
    · rw [Nat.zero_add, h0.cellAt _ (by omega), t1]
    · rw [Nat.zero_add, h0.cellAt _ (by omega), t2]
theorem RowD.short {B : Nat} {w : World} {o : Value} {c : List Lt} (h : RowD B w o c) : ∀ x ∈ c, x.2.1.length ≤ 400 ∧ x.2.2.length ≤ 400 := by
  obtain ⟨zs, ho, h1, h2⟩ := h
  intro x hx
  obtain ⟨j, hj, rfl⟩ := List.getElem_of_mem hx
  obtain ⟨_, ⟨_, a⟩, ⟨_, b⟩⟩ := h2 j zs[j] (List.getElem?_eq_getElem (by omega))
  rw [show c.getD j lt0 = c[j] from by simp [List.getD, hj]] at a b
  exact ⟨a, b⟩
theorem rows3_set (zs : List LV) (p : Bool) (u1 u2 v : Value) : (cellsC ((p, u1, u2) :: zs)).set 2 v = cellsC ((p, u1, v) :: zs) := rfl
/-- The first literal's left side becomes its right side too. -/
theorem RowD.first {B : Nat} {w : World} {g n k : Nat} {x : Lt} {c : List Lt} (h : RowD B w (.slice (some ⟨g, 0, none⟩) n k) (x :: c)) :
    ∃ u1 u2, w.cell? ⟨g, 0, none⟩ = some (.bool x.1) ∧ w.cell? ⟨g, 1, none⟩ = some u1 ∧ w.cell? ⟨g, 2, none⟩ = some u2 ∧ (∃ a m, u1 = .slice a x.2.1.length m) ∧ (∃ a m, u2 = .slice a x.2.2.length m) ∧ (∀ j, w.frozen? ⟨g, j, none⟩ = false) ∧
      RowD B (w.setCell ⟨g, 2, none⟩ u1) (.slice (some ⟨g, 0, none⟩) n k) ((x.1, x.2.1, x.2.1) :: c) := by
  obtain ⟨zs, ho, h1, h2⟩ := h
  obtain ⟨⟨p, u1, u2⟩, zs, rfl⟩ : ∃ z zs', zs = z :: zs' := by cases zs with | nil => simp at h1 | cons z zs => exact ⟨z, zs, rfl⟩
  obtain ⟨e1, t1, t2⟩ := h2 0 (p, u1, u2) rfl
  simp only [List.getD, List.getElem?_cons_zero, Option.getD_some] at e1 t1 t2
  obtain ⟨d0, d1, d2⟩ := cellsC_get ((p, u1, u2) :: zs) 0 _ rfl
  have hl3 : (0 : Nat) < ((p, u1, u2) :: zs).length := by simp
  have hn := row_len3 ho
  subst hn
  have k0 := ho.cellAt 0 (by simp only [List.length_cons]; omega)
  have k1 := ho.cellAt 1 (by simp only [List.length_cons]; omega)
  have k2 := ho.cellAt 2 (by simp only [List.length_cons]; omega)
  obtain ⟨a2, m2, f2⟩ := t2.form
  refine ⟨u1, u2, by rw [k0]; rw [← e1]; exact d0, by rw [k1]; exact d1, by rw [k2]; exact d2, t1.form, ⟨a2, m2, f2⟩, fun j => ho.frozenAt j, ?_⟩
  have hst := (ho.stored 2 u1).1
  rw [rows3_set] at hst
  have hs2 : w.cell? ⟨g, 2, none⟩ = some (.slice a2 x.2.2.length m2) := by rw [k2, ← f2]; exact d2
  have keep : ∀ v t, TD B w (.slice (some ⟨g, 0, none⟩) ((p, u1, u2) :: zs).length k) v t → TD B (w.setCell ⟨g, 2, none⟩ u1) (.slice (some ⟨g, 0, none⟩) ((p, u1, u2) :: zs).length k) v t := fun v t ht => by
    obtain ⟨⟨q, q1, q2, q3, q4⟩, q5⟩ := ht
    exact ⟨⟨q, q1, by rw [World.size_setCell]; exact q2, q3, Rl.slOther q4 hs2 (fun n => by simp) u1⟩, q5⟩
  refine ⟨(p, u1, u1) :: zs, hst, by simpa using h1, fun j z hz => ?_⟩
  cases j with
  | zero =>
    simp at hz; subst hz
    simp only [List.getD, List.getElem?_cons_zero, Option.getD_some]
    exact ⟨e1, keep _ _ t1, keep _ _ t1⟩
  | succ j =>
    obtain ⟨a1, a2, a3⟩ := h2 (j+1) z (by simpa using hz)
    simp only [List.getD, List.getElem?_cons_succ] at a1 a2 a3 ⊢
    exact ⟨a1, keep _ _ a2, keep _ _ a3⟩
end Go.Proofs.YteegjnobmbcjiaaGreatDoor
end
section
/- A clause of the draws: what is known between two of its steps. -/
namespace Go.Proofs.YteegjnobmbcjiaaGreatDoor
open Go.RowKit

theorem Rl.LF.mono {b n k d d' : Nat} {w0 w : World} (h : Rl.LF b n k d w0 w) (hd : d ≤ d') : Rl.LF b n k d' w0 w := by
  obtain ⟨k', h1, h2, h3⟩ := h
  exact ⟨k', h1, by omega, h3⟩
theorem Rl.LF.chg {b n k d : Nat} {w0 w : World} (h : Rl.LF b n k d w0 w) : Chg b (b+1) w0 w := by obtain ⟨_, _, _, _, h4⟩ := h; exact h4
/-- Between two steps: the row, the cursor, the signature's box. -/
structure CS (b n k d : Nat) (v : Value) (w w' : World) (o : Value) (c : List Lt) : Prop where
  row : RowD (w.heap.size + 1) w' o c
  cur : Rl.LF b n k d w w'
  box : w'.cell? ⟨w.heap.size, 0, none⟩ = some v
  big : w.heap.size + 1 ≤ w'.heap.size
  low : b < w.heap.size
theorem CS.start {b n k : Nat} {v : Value} {w : World} (hc : Cur b n k w) : CS b n k 0 v w (w.alloc (.cells #[v] 33)) (.slice none 0 0) [] :=
  ⟨RowD.nil _ _, ⟨k, Nat.le_refl _, by omega, hc.below (Bel.alloc0 _ _), Chg.of_bel (Bel.alloc0 _ _)⟩, by simp [go_sem], by simp, hc.lt⟩
theorem CS.mono {b n k d d' : Nat} {v : Value} {w w' : World} {o : Value} {c : List Lt} (h : CS b n k d v w w' o c) (hd : d ≤ d') : CS b n k d' v w w' o c := ⟨h.row, h.cur.mono hd, h.box, h.big, h.low⟩
/-- The cursor goes on. -/
theorem CS.step {b n k d d' : Nat} {v : Value} {w w1 w2 : World} {o : Value} {c : List Lt} (h : CS b n k d v w w1 o c) {k1 k2 : Nat} (a1 : k ≤ k1) (a2 : k1 ≤ k + d) (a3 : k1 ≤ k2) (a4 : k2 ≤ k1 + d') (hc : Cur b n k2 w2) (hg : Chg b (b+1) w1 w2) : CS b n k (d + d') v w w2 o c :=
  ⟨h.row.chg hg (by have := h.low; omega), ⟨k2, by omega, by omega, hc, h.cur.chg.trans hg⟩, hg.cell (by have := h.big; omega) (.inr (by have := h.low; omega)) h.box, Nat.le_trans h.big hg.size, h.low⟩
theorem CS.bel {b n k d : Nat} {v : Value} {w w1 w2 : World} {o : Value} {c : List Lt} (h : CS b n k d v w w1 o c) (hb : Bel w1 w2) : CS b n k d v w w2 o c := by
  refine ⟨h.row.bel hb, ?_, hb.at (by have := h.big; omega) h.box, Nat.le_trans h.big hb.size, h.low⟩
  obtain ⟨k', h1, h2, h3, h4⟩ := h.cur
  exact ⟨k', h1, h2, h3.below hb, h4.trans (Chg.of_bel hb)⟩
/-- One literal more: what the append asks for and what it gives. -/
theorem CS.append {b n k d : Nat} {v : Value} {w w1 : World} {o : Value} {c : List Lt} (h : CS b n k d v w w1 o c) (p : Bool) {v1 v2 : Value} {t1 t2 : List Int} (h1 : TD (w.heap.size + 1) w1 o v1 t1) (h2 : TD (w.heap.size + 1) w1 o v2 t2) (ob : Obj) :
    ∃ zs : List LV, RowC (w.heap.size + 1) (w1.alloc ob) o zs ∧ zs.length = c.length ∧ w.heap.size + 1 ≤ (w1.alloc ob).heap.size ∧
      ∀ w4 o', RowC (w.heap.size + 1) w4 o' (zs ++ [(p, v1, v2)]) → (w1.alloc ob).grownBy w4 o.ownBlock → (o'.ownBlock = o.ownBlock ∨ o'.ownBlock = some (w1.alloc ob).heap.size) → CS b n k d v w w4 o' (c ++ [(p, t1, t2)]) := by
  have hb := Bel.alloc0 w1 ob
  have hB := h.bel hb
  have hlt := hB.row.lt
  have hlow := h.low
  obtain ⟨zs, r1, r2, r3⟩ := hB.row
  refine ⟨zs, r1, r2, hB.big, fun w4 o' hn hg ho => ⟨?_, ?_, ?_, Nat.le_trans hB.big hg.size, h.low⟩⟩
  · exact RowD.snoc r2 r3 ⟨rfl, h1.bel hb, h2.bel hb⟩ hn hg ho
  · obtain ⟨k', a1, a2, a3, a4⟩ := hB.cur
    have hgg : Chg (w.heap.size + 1) (w4.heap.size + 1) (w1.alloc ob) w4 := ⟨hg.os, hg.tape, hg.output, hg.size, fun i hi hq => hg.block i hi (fun e => by have := hlt i e.symm; have := hg.size; omega)⟩
    exact ⟨k', a1, a2, a3.chg hgg (by omega), a4.news hgg (by omega)⟩
  · have hbg := hB.big
    exact (World.cell?_of_block (w := w1.alloc ob) (w' := w4) (a := ⟨w.heap.size, 0, none⟩) (hg.block w.heap.size (by omega) (fun e => by have := (hlt _ e.symm).1; omega))).trans hB.box
/-- A drawn literal's terms, beside the row. -/
theorem CS.lit {b n k d : Nat} {v : Value} {w w1 w2 : World} {o : Value} {c : List Lt} (h : CS b n k d v w w1 o c) {v1 : Value} {t1 : List Int} (h1 : Rl.TF w1 w2 v1 t1) : TD (w.heap.size + 1) w2 o v1 t1 :=
  TD.of h1 h.big (fun g e => (h.row.lt g e).2)
end Go.Proofs.YteegjnobmbcjiaaGreatDoor
end
section
/- A clause of the draws. -/
namespace Go.Proofs.YteegjnobmbcjiaaGreatDoor
open Go.RowKit

theorem row_lit {B : Nat} {w : World} {o' : Value} {zs : List LV} {p : Bool} {x y : Value} {n : Nat} (hn : n = zs.length) (h : w.ownsRow B 53 3 o' (n + 1) (cellsC zs ++ [.bool p, x, y])) : RowC B w o' (zs ++ [(p, x, y)]) := by
  subst hn
  have e : cellsC (zs ++ [(p, x, y)]) = cellsC zs ++ [.bool p, x, y] := by rw [cellsC_app]; rfl
  show World.ownsRow _ _ _ _ _ _ _
  rw [e]
  simpa using h
def lenV : Value → Nat
  | .slice _ n _ => n
  | _ => 0
/-- A clause of the draws, of new blocks. -/
def RetCl (b n k d : Nat) (w : World) (e : Ending) (w' : World) : Prop :=
  ∃ (o : Value) (c : List Lt), e = .returned o ∧ SlC (w.heap.size + 1) w'.heap.size w' o c ∧ c.length ≤ 9 ∧ (∀ x ∈ c, x.2.1.length ≤ 400 ∧ x.2.2.length ≤ 400) ∧ Rl.LF b n k d w w'

set_option maxRecDepth 100000 in
set_option maxHeartbeats 2000000 in
theorem clause_c (b n k lo hi : Nat) (v : Value) (ar : List Int) (w : World) (hn : n ≤ 1099511627776) (hk : k ≤ 100000000000) (hdr : drawn ar) (hblo : b < lo) (hc : Cur b n k w) (hv : SlI lo hi w v ar) :
    Calls Tryz.prog 56 #[.pointer (some ⟨b, 0, none⟩), .agg #[v]] w (RetCl b n k 200000 w) := by
  obtain ⟨i0, hi0, hz0, hz1, hz2⟩ := info_parts Tryz.info53
  have hbl := hc.lt
  have hB := Bel.alloc2 w (.cells #[v] 33) (.cells #[.int .i64 0, .int .i64 1, .int .i64 1, .int .i64 1, .int .i64 2, .int .i64 2, .int .i64 3] 3)
  have hc0 := hc.below hB
  have hS : SlI (w.heap.size + 1) (w.heap.size + 2) ((w.alloc (.cells #[v] 33)).alloc (.cells #[.int .i64 0, .int .i64 1, .int .i64 1, .int .i64 1, .int .i64 2, .int .i64 2, .int .i64 3] 3)) (.slice (some ⟨w.heap.size + 1, 0, none⟩) 7 7) [0, 1, 1, 1, 2, 2, 3] := SlI.arr (xs := [0, 1, 1, 1, 2, 2, 3]) rfl (by simp) (by simp) (Nat.le_refl _) (Nat.lt_succ_self _)
  have HA := Lib.hid (among_c b n k _ _ _ [0, 1, 1, 1, 2, 2, 3] _ hn (by omega) (by simp) (by simp) (by omega) hc0 hS)
  have hcs := (CS.start (b := b) (n := n) (k := k) (v := v) hc).bel (Bel.alloc0 _ (.cells #[.int .i64 0, .int .i64 1, .int .i64 1, .int .i64 1, .int .i64 2, .int .i64 2, .int .i64 3] 3))
  have HC0 := Lib.hid hcs
  clear hcs hS hc0 hc
  go_enter Tryz.func56, Tryz.ntmps56
  go_wp2_with fail
  refine HA.out.mono ?_; rintro e w1 ⟨z, k0, rfl, hz, g1, g2, g3, g4⟩
  have hz03 : 0 ≤ z ∧ z ≤ 3 := by simp at hz; omega
  clear hz HA
  have hcs1 := HC0.out.step (Nat.le_refl _) (Nat.le_refl _) g1 g2 g3 g4
  clear HC0 g3 g4
  obtain ⟨m0, rfl⟩ : ∃ m : Nat, z = (m : Int) := ⟨z.toNat, by omega⟩
  
  go_wp2_with fail
  go_loopw [5, 6] (fun o i wr => ∃ (j : Nat) (c : List Lt), i = .int .i64 j ∧ c.length + j ≤ 3 ∧ CS b n k (2 + 10000 * c.length) v w wr o c) (fun _ i _ => (intOf i).toNat)
  case atStart => exact ⟨m0, [], rfl, by simp; omega, hcs1.mono (by simp)⟩
  case round =>
    clear hcs1
    obtain ⟨j, c, rfl, hcj, hcs⟩ := hrel
    by_cases hj : 0 < j
    · have hd : decide ((0 : Int) < j) = true := by simpa using hj
      obtain ⟨k1, f1, f2, f3, f4⟩ := hcs.cur
      obtain ⟨ad, kk, rfl⟩ := hcs.row.form
      have hbxr := hcs.box
      have HL := Lib.hid (lit_c b n k1 lo hi v ar wr hn (by omega) hdr hblo f3 (hv.chg f4 (by omega)))
      have HCS := Lib.hid hcs
      clear hcs f3 f4 
      go_wp2_with fail
      refine HL.out.mono ?_; rintro e w2 ⟨p, v1, v2, t1, t2, rfl, T1, T2, k2, g1, g2, g3, g4⟩
      obtain ⟨a1, c1, rfl⟩ := Rl.TF.form T1
      obtain ⟨a2, c2, rfl⟩ := Rl.TF.form T2
      obtain ⟨zs, r1, r2, r3, hnext⟩ := (HCS.out.step f1 f2 g1 g2 g3 g4).append p (HCS.out.lit T1) (HCS.out.lit T2) (.cells #[.bool p, .slice a1 t1.length c1, .slice a2 t2.length c2] 53)
      have HN := Lib.hid hnext
      have HX := Lib.hid (And.intro T1 T2)
      clear hnext T1 T2 HL g3 g4 HCS
      have hzl : zs.length ≤ 20 := by omega
      go_wp2_with (at_builtin; refine wpList_append_own_at _ rfl _ _ 30 rfl (w.heap.size + 1) 53 i0 (.agg #[.bool false, .slice none 0 0, .slice none 0 0]) 3 56 Tryz.underlying30 hi0 hz0 hz1 hz2 rfl (by decide) _ _ _ rfl r1 _ _ _ [.bool p, .slice a1 t1.length c1, .slice a2 t2.length c2] rfl rfl (news_lit _ _ _ _ _ _ rfl) (one_lit _ _ _ _ _ _ _) (by unfold maxLen; omega) (by omega) r3 ?_; intro o' w4 hown' hgrow _ hat)
      have hcs4 := HN.out w4 o' (row_lit rfl hown') hgrow hat
      go_roundw
      case rel => exact ⟨j - 1, _, by simp; omega, by simp; omega, hcs4.mono (by simp; omega)⟩
      case measure => simp [intOf]; omega
    · have hd : decide ((0 : Int) < j) = false := by simp; omega
      clear hz03 hB
      have hc3 : c.length ≤ 3 := by omega
      obtain ⟨ad, kk, rfl⟩ := hcs.row.form
      go_upto_region 6 with fail
      go_cut [27] (fun s wx => ∃ q : Bool, s = .bool q ∧ (q = true → 0 < c.length) ∧ CS b n k 35000 v w wx (.slice ad c.length kk) c)
      case first =>
        by_cases hp : c.length = 0
        · have hd2 : decide ((0 : Int) < c.length) = false := decide_eq_false (by omega)
          go_wp2_with fail
          go_meet
          exact ⟨false, rfl, by simp, hcs.mono (by omega)⟩
        · have hd2 : decide ((0 : Int) < c.length) = true := decide_eq_true (by omega)
          obtain ⟨k1, f1, f2, f3, f4⟩ := hcs.cur
          have HO := Lib.hid (one_c b n k1 6 6 _ rfl hn (by omega) (by omega) f3)
          have HCS := Lib.hid hcs
          clear f3 f4
          go_wp2_with fail
          refine HO.out.mono ?_; rintro e w2 ⟨q, k2, rfl, g1, g2, g3, g4⟩
          have hcs2 := HCS.out.step f1 f2 g1 g2 g3 g4
          clear HO HCS g4
          go_wp2_with fail
          go_meet
          exact ⟨q, rfl, fun _ => by omega, hcs2.mono (by omega)⟩
      case rest =>
      obtain ⟨q, rfl, hq, hcs2⟩ := hcut
      clear hcs
      go_upto_if 27 with fail
      go_cut [5] (fun o wx => ∃ c2 : List Lt, c2.length ≤ 4 ∧ CS b n k 50000 v w wx o c2)
      case first =>
        cases q with
        | false =>
          go_wp2_with fail
          go_meet
          exact ⟨c, by omega, hcs2.mono (by omega)⟩
        | true =>
          have hpos := hq rfl
          obtain ⟨k2, f1, f2, f3, f4⟩ := hcs2.cur
          have HP := Lib.hid (pick_c b n k2 c.length c.length _ rfl hn (by omega) (by omega) f3)
          have HCS2 := Lib.hid hcs2
          clear f3 f4
          go_wp2_with fail
          refine HP.out.mono ?_; rintro e w3 ⟨x, k3, rfl, hx, g5, g6, g7, g8⟩
          have hx2 : x < c.length := by omega
          have hx3 : (x : Int) < c.length := by omega
          have hcs3 := HCS2.out.step f1 f2 g5 g6 g7 g8
          obtain ⟨zs0, r1, r2, r3⟩ := hcs3.row
          have hz0 : zs0[x]? = some (zs0[x]'(by omega)) := List.getElem?_eq_getElem (by omega)
          generalize zs0[x]'(by omega) = z0 at hz0
          obtain ⟨px, v1, v2⟩ := z0
          obtain ⟨e1, T1, T2⟩ := r3 x _ hz0
          obtain ⟨d0, d1, d2⟩ := cellsC_get zs0 x _ hz0
          obtain ⟨a1, m1, f5⟩ := T1.form
          obtain ⟨a2, m2, f6⟩ := T2.form
          simp only at e1 T1 T2 d0 d1 d2 f5 f6
          generalize hl1 : (c.getD x lt0).2.1 = l1 at *
          generalize hl2 : (c.getD x lt0).2.2 = l2 at *
          generalize hn1 : l1.length = n1 at *
          generalize hn2 : l2.length = n2 at *
          subst f5 f6
          obtain ⟨bb, rfl, q0, q1, q2⟩ : ∃ bb, ad = some ⟨bb, 0, none⟩ ∧ w3.cell? ⟨bb, x * 3, none⟩ = some (.bool px) ∧ w3.cell? ⟨bb, x * 3 + 1, none⟩ = some (.slice a1 n1 m1) ∧ w3.cell? ⟨bb, x * 3 + 2, none⟩ = some (.slice a2 n2 m2) := by
            rcases r1.2 with ⟨_, hn0⟩ | ⟨g, cap, cur, e2, _⟩
            · omega
            · simp only [Value.slice.injEq] at e2
              obtain ⟨rfl, -, rfl⟩ := e2
              refine ⟨g, rfl, ?_, ?_, ?_⟩
              · rw [r2.symm] at r1; rw [r1.cellAt _ (by omega)]; exact d0
              · rw [r2.symm] at r1; rw [r1.cellAt _ (by omega)]; exact d1
              · rw [r2.symm] at r1; rw [r1.cellAt _ (by omega)]; exact d2
          have BX := (Bel.alloc0 w3 (.cells #[.bool px, .slice a1 n1 m1, .slice a2 n2 m2] 53)).drew
          have hcsX := hcs3.bel BX
          have TX1 := T1.bel BX
          have TX2 := T2.bel BX
          have HFX := Lib.hid (fun (w' : World) (hg : Chg b (b+1) (w3.alloc (.cells #[.bool px, .slice a1 n1 m1, .slice a2 n2 m2] 53)).drew w') => (⟨hg.cell (by simp) (.inr (by have := hcs3.big; omega)) (boxc (Bel.drew0 _) 0 _ rfl), hg.cell (by simp) (.inr (by have := hcs3.big; omega)) (boxc (Bel.drew0 _) 1 _ rfl), hg.cell (by simp) (.inr (by have := hcs3.big; omega)) (boxc (Bel.drew0 _) 2 _ rfl)⟩ : (w'.cell? ⟨w3.heap.size, 0, none⟩ = some (.bool px) ∧ w'.cell? ⟨w3.heap.size, 1, none⟩ = some (.slice a1 n1 m1) ∧ w'.cell? ⟨w3.heap.size, 2, none⟩ = some (.slice a2 n2 m2))))
          have hX0 := HFX.out _ (Chg.refl _ _ _)
          obtain ⟨k4, f1', f2', f3', f4'⟩ := hcsX.cur
          have HO := Lib.hid (one_c b n k4 3 3 _ rfl hn (by omega) (by omega) f3')
          have HCX := Lib.hid (And.intro hcsX (And.intro TX1 TX2))
          have HNE : w3.heap.size ≠ bb := by have := (hcs3.row.lt bb rfl).2; omega
          have hb1 : b < w.heap.size + 1 := by omega
          clear e1
          have hc19 : c.length ≤ 19 := by omega
          clear hcsX TX1 TX2 f3' f4' T1 T2 hcs3 r1 r3 d0 d1 d2 hcs2 HCS2 HP hz0 g7 g8
          go_wp2_with fail
          go_region_held_law (fun w' => w'.cell? ⟨w3.heap.size, 0, none⟩ = some (.bool px) ∧ w'.cell? ⟨w3.heap.size, 1, none⟩ = some (.slice a1 n1 m1) ∧ w'.cell? ⟨w3.heap.size, 2, none⟩ = some (.slice a2 n2 m2))
            (first | exact hX7 | exact hX6 | exact hX5 | exact hX0 | fail)
            (first
              | (go_at_call 50; refine HO.out.mono ?_; rintro e w5 ⟨q2, k5, rfl, g5', g6', g7', g8'⟩; obtain ⟨zs, y1, y2, y3, hnx⟩ := (HCX.out.1.step f1' f2' g5' g6' g7' g8').append (px != q2) (HCX.out.2.2.chg g8' hb1) (HCX.out.2.1.chg g8' hb1) (.cells #[.bool (px != q2), .slice a2 n2 m2, .slice a1 n1 m1] 53); have HN := Lib.hid hnx; clear hnx; have hX5 := HFX.out _ g8'; have hX6 := (And.intro ((Bel.alloc0 w5 (.cells #[.bool (px != q2), .slice a2 n2 m2, .slice a1 n1 m1] 53)).at (World.block_lt_of_cell? _ ⟨_, _, none⟩ hX5.1) hX5.1) (And.intro ((Bel.alloc0 w5 (.cells #[.bool (px != q2), .slice a2 n2 m2, .slice a1 n1 m1] 53)).at (World.block_lt_of_cell? _ ⟨_, _, none⟩ hX5.1) hX5.2.1) ((Bel.alloc0 w5 (.cells #[.bool (px != q2), .slice a2 n2 m2, .slice a1 n1 m1] 53)).at (World.block_lt_of_cell? _ ⟨_, _, none⟩ hX5.1) hX5.2.2))))
              | (refine step_append_litO rfl (.tmp 35) (.tmp 46) 47 rfl rfl (w.heap.size + 1) _ zs rfl y1 w5.heap.size (px != q2) (a2, n2, m2) (a1, n1, m1) rfl (news_lit _ _ _ _ _ _ rfl) (by omega) y3 ?_; intro bo ko w6 R6 hg6 hat6; have hcs7 := HN.out w6 _ R6 hg6 hat6; have hX7 := And.intro (hg6.cell hX6.1 (fun e => HNE (Option.some.inj e))) (And.intro (hg6.cell hX6.2.1 (fun e => HNE (Option.some.inj e))) (hg6.cell hX6.2.2 (fun e => HNE (Option.some.inj e)))))
              | fail)
          all_goals
            go_wp2_with fail
            go_meet
            refine ⟨c ++ [(px != q2, l2, l1)], by simp; omega, ?_⟩
            rw [y2] at hcs7; exact hcs7.mono (by omega)
      case rest =>
      obtain ⟨c2, hc2, hcs4⟩ := hcut
      clear hcs2 hq hcj hj hd hc3
      obtain ⟨ad2, kk2, rfl⟩ := hcs4.row.form
      go_upto_region 9 with fail
      go_cut [54] (fun s wx => ∃ q : Bool, s = .bool q ∧ (q = true → 0 < c2.length) ∧ CS b n k 50010 v w wx (.slice ad2 c2.length kk2) c2)
      case first =>
        by_cases hp : c2.length = 0
        · have hd2 : decide ((0 : Int) < c2.length) = false := decide_eq_false (by omega)
          go_wp2_with fail
          go_meet
          exact ⟨false, rfl, by simp, hcs4.mono (by omega)⟩
        · have hd2 : decide ((0 : Int) < c2.length) = true := decide_eq_true (by omega)
          obtain ⟨k1, f1, f2, f3, f4⟩ := hcs4.cur
          have HO := Lib.hid (one_c b n k1 12 12 _ rfl hn (by omega) (by omega) f3)
          have HCS := Lib.hid hcs4
          clear f3 f4
          go_wp2_with fail
          refine HO.out.mono ?_; rintro e w2 ⟨q, k2, rfl, g1, g2, g3, g4⟩
          have hcs2 := HCS.out.step f1 f2 g1 g2 g3 g4
          clear HO HCS g4
          go_wp2_with fail
          go_meet
          exact ⟨q, rfl, fun _ => by omega, hcs2.mono (by omega)⟩
      case rest =>
      obtain ⟨q, rfl, hq, hcs5⟩ := hcut
      clear hcs4
      go_upto_if 54 with fail
      go_cut [] (fun wx => ∃ c3 : List Lt, c3.length = c2.length ∧ CS b n k 50010 v w wx (.slice ad2 c2.length kk2) c3)
      case first =>
        cases q with
        | false =>
          go_wp2_with fail
          go_meet
          exact ⟨c2, rfl, hcs5⟩
        | true =>
          have hpos := hq rfl
          clear hq
          cases c2 with
          | nil => simp at hpos
          | cons x c4 =>
            obtain ⟨bb, rfl⟩ : ∃ bb, ad2 = some ⟨bb, 0, none⟩ := by
              obtain ⟨zs0, r1, r2, r3⟩ := hcs5.row
              rcases r1.2 with ⟨_, hn0⟩ | ⟨g, cap, cur, e2, _⟩
              · simp at r2; omega
              · simp only [Value.slice.injEq] at e2
                exact ⟨g, e2.1⟩
            have hlt := hcs5.row.lt bb rfl
            obtain ⟨u1, u2, q0, q1, q2, ⟨a1, m1, rfl⟩, ⟨a2, m2, rfl⟩, hfz, hrow⟩ := hcs5.row.first
            have hlow := hcs5.low
            have hN : CS b n k 50010 v w _ _ _ := ⟨hrow, hcs5.cur.set (p := ⟨bb, 2, none⟩) (by show w.heap.size ≤ bb; omega) hlow _, by rw [World.cell?_setCell_other (h := by intro hh; simp at hh)]; exact hcs5.box, by rw [World.size_setCell]; exact hcs5.big, hlow⟩
            have HN := Lib.hid hN
            have hf2 := hfz 2
            have hp2 : (0 : Int) < (x :: c4).length := by omega
            clear hrow hN
            go_wp2_with fail
            go_meet
            exact ⟨(x.1, x.2.1, x.2.1) :: c4, by simp, HN.out⟩
      case rest =>
      obtain ⟨c3, hc3, hcs6⟩ := hcut
      have hc4 : c3.length ≤ 4 := by omega
      clear hcs5 hq
      obtain ⟨k1, f1, f2, f3, f4⟩ := hcs6.cur
      have HO := Lib.hid (pick_c b n k1 60 60 _ rfl hn (by omega) (by omega) f3)
      have HCS := Lib.hid hcs6
      clear f3 f4 hcs6
      go_wp2_with fail
      refine HO.out.mono ?_; rintro e w7 ⟨y, k2, rfl, hy, g1, g2, g3, g4⟩
      have hcs7 := HCS.out.step f1 f2 g1 g2 g3 g4
      clear HO HCS g3 g4 hy
      by_cases y0 : y = 0
      · subst y0
        go_wp2_with fail
        go_loopw [5] (fun o wr => ∃ c4 : List Lt, c4.length ≤ 9 ∧ CS b n k (60000 + 10000 * c4.length) v w wr o c4) (fun o _ => 9 - lenV o)
        case atStart => exact ⟨c3, by omega, hcs7.mono (by omega)⟩
        case round =>
          clear hcs7
          obtain ⟨c4, hc9, hcs8⟩ := hrel
          obtain ⟨ad4, kk4, rfl⟩ := hcs8.row.form
          obtain ⟨k3, f1, f2, f3, f4⟩ := hcs8.cur
          have HO := Lib.hid (pick_c b n k3 2 2 _ rfl hn (by omega) (by omega) f3)
          have HCS := Lib.hid hcs8
          clear f3 f4 hcs8
          go_wp2_with fail
          refine HO.out.mono ?_; rintro e w8 ⟨x2, k4, rfl, hx2, g1, g2, g3, g4⟩
          have hcs9 := HCS.out.step f1 f2 g1 g2 g3 g4
          clear HO HCS g3 g4
          have hw8 := IntWalk.i64_in (8 + (x2 : Int)) (by omega)
          by_cases hlt : c4.length < 8 + x2
          · have hd : decide ((c4.length : Int) < 8 + (x2 : Int)) = true := decide_eq_true (by omega)
            obtain ⟨k1, f1, f2, f3, f4⟩ := hcs9.cur
            skip
            have hbxr := hcs9.box
            have HL := Lib.hid (lit_c b n k1 lo hi v ar w8 hn (by omega) hdr hblo f3 (hv.chg f4 (by omega)))
            have HCS := Lib.hid hcs9
            clear hcs9 f3 f4 
            go_wp2_with fail
            refine HL.out.mono ?_; rintro e w2 ⟨p, v1, v2, t1, t2, rfl, T1, T2, k2, g1, g2, g3, g4⟩
            obtain ⟨a1, c1, rfl⟩ := Rl.TF.form T1
            obtain ⟨a2, c2, rfl⟩ := Rl.TF.form T2
            obtain ⟨zs, r1, r2, r3, hnext⟩ := (HCS.out.step f1 f2 g1 g2 g3 g4).append p (HCS.out.lit T1) (HCS.out.lit T2) (.cells #[.bool p, .slice a1 t1.length c1, .slice a2 t2.length c2] 53)
            have HN := Lib.hid hnext
            have HX := Lib.hid (And.intro T1 T2)
            clear hnext T1 T2 HL g3 g4 HCS
            have hzl : zs.length ≤ 20 := by omega
            go_wp2_with (at_builtin; refine wpList_append_own_at _ rfl _ _ 30 rfl (w.heap.size + 1) 53 i0 (.agg #[.bool false, .slice none 0 0, .slice none 0 0]) 3 56 Tryz.underlying30 hi0 hz0 hz1 hz2 rfl (by decide) _ _ _ rfl r1 _ _ _ [.bool p, .slice a1 t1.length c1, .slice a2 t2.length c2] rfl rfl (news_lit _ _ _ _ _ _ rfl) (one_lit _ _ _ _ _ _ _) (by unfold maxLen; omega) (by omega) r3 ?_; intro o' w4 hown' hgrow _ hat)
            have hcs4 := HN.out w4 o' (row_lit rfl hown') hgrow hat
            obtain ⟨ao, ko, eo⟩ := hcs4.row.form
            go_roundw
            case rel => exact ⟨_, by simp; omega, hcs4.mono (by simp; omega)⟩
            case measure => subst eo; simp [lenV]; omega
          · have hd : decide ((c4.length : Int) < 8 + (x2 : Int)) = false := decide_eq_false (by omega)
            go_wp2_with fail
            go_ret
            exact ⟨_, c4, rfl, hcs9.row.slc, hc9, hcs9.row.short, hcs9.cur.mono (by omega)⟩
      · by_cases y1 : y = 1
        · subst y1
          have hz7 := hcs7.big
          have BA := Bel.alloc0 w7 (.cells #[.int .i64 0] 3)
          have hcs8 := hcs7.bel BA
          have hltR := hcs7.row.lt
          have T0 : TD (w.heap.size + 1) (w7.alloc (.cells #[.int .i64 0] 3)) (.slice ad2 c2.length kk2) (.slice (some ⟨w7.heap.size, 0, none⟩) 1 1) [0] := ⟨⟨w7.heap.size, hz7, by simp, fun e => by have := (hltR _ e).2; omega, SlI.arr (xs := [0]) rfl rfl (by simp) (Nat.le_refl _) (Nat.lt_succ_self _)⟩, by simp⟩
          have T1 : TD (w.heap.size + 1) (w7.alloc (.cells #[.int .i64 0] 3)) (.slice ad2 c2.length kk2) (.slice none 0 0) [] := ⟨⟨w7.heap.size, hz7, by simp, fun e => by have := (hltR _ e).2; omega, SlI.nil _ _ _⟩, by simp⟩
          obtain ⟨zs, r1, r2, r3, hnext⟩ := hcs8.append false T0 T1 (.cells #[.bool false, .slice (some ⟨w7.heap.size, 0, none⟩) 1 1, .slice none 0 0] 53)
          have HN := Lib.hid hnext
          clear hnext T0 T1 hcs8 hcs7 hltR
          have hzl : zs.length ≤ 20 := by omega
          go_wp2_with (at_builtin; refine wpList_append_own_at _ rfl _ _ 30 rfl (w.heap.size + 1) 53 i0 (.agg #[.bool false, .slice none 0 0, .slice none 0 0]) 3 56 Tryz.underlying30 hi0 hz0 hz1 hz2 rfl (by decide) _ _ _ rfl r1 _ _ _ [.bool false, .slice (some ⟨w7.heap.size, 0, none⟩) 1 1, .slice none 0 0] rfl rfl (news_lit _ _ _ _ _ _ (by simp)) (one_lit _ _ _ _ _ _ _) (by unfold maxLen; omega) (by omega) r3 ?_; intro o' w4 hown' hgrow _ hat)
          have hcs9 := HN.out w4 o' (row_lit rfl hown') hgrow hat
          go_ret
          exact ⟨_, c3 ++ [(false, [0], [])], rfl, hcs9.row.slc, by simp; omega, hcs9.row.short, hcs9.cur.mono (by omega)⟩
        · have y0' : ¬ ((y : Int) = 0) := by omega
          have y1' : ¬ ((y : Int) = 1) := by omega
          go_wp2_with fail
          go_ret
          exact ⟨_, c3, rfl, hcs7.row.slc, by omega, hcs7.row.short, hcs7.cur.mono (by omega)⟩
end Go.Proofs.YteegjnobmbcjiaaGreatDoor
end
section
namespace Go.Proofs.YteegjnobmbcjiaaGreatDoor
open Go.RowKit
theorem conv1 (W : World) (m : Nat) (n : Int) (hm : m = W.heap.size) :
    (convert 43 9 (.slice (some ⟨m, 0, none⟩) 1 1)).run Tryz.prog (W.alloc (.cells #[.int .u8 n] 5)) = .ok (.string ⟨#[UInt8.ofNat n.toNat]⟩) (W.alloc (.cells #[.int .u8 n] 5)) := by
  subst hm
  rw [run_convert_bytes_string _ 43 9 5 _ _ _ Tryz.underlying43 Tryz.underlying5 Tryz.underlying9]
  rw [run_bytesToString _ _ 1 1 [n] ?_]
  · rfl
  · simp [loadCells, go_sem]
end Go.Proofs.YteegjnobmbcjiaaGreatDoor
end
section
/- TermText: both functions. -/
namespace Go.Proofs.YteegjnobmbcjiaaGreatDoor
open Go.RowKit

def letter (x : Int) : UInt8 := if x < 0 then (65 + (-1 - x)).toNat.toUInt8 else (97 + x).toNat.toUInt8
def bytesS (l : List UInt8) : Value := .string ⟨l.toArray⟩

theorem cut12 : ∀ k : Nat, k < 12 → (ByteArray.mk #[65, 66, 67, 68, 69, 70, 71, 72, 73, 74, 75, 76]).extract (-1 - (-1 - (k : Int))).toNat (-(-1 - (k : Int))).toNat = ⟨#[letter (-1 - (k : Int))]⟩ := by decide +kernel
theorem cut10 : ∀ k : Nat, k < 10 → (ByteArray.mk #[97, 98, 99, 100, 101, 102, 103, 104, 105, 106]).extract k (k + 1) = ⟨#[letter (k : Int)]⟩ := by decide +kernel

def sepB (k : Nat) : UInt8 := if k = 0 then 40 else 44
def accT (g : Nat → List UInt8) (l : List Nat) : Nat → List UInt8
  | 0 => []
  | k + 1 => accT g l k ++ (sepB k :: g (l.getD k 0))
def textF (ar t : List Int) : Nat → Nat → List UInt8
  | 0, _ => []
  | f + 1, i => letter (t.getD i 0) :: (accT (textF ar t f) (argsOf ar t i) (argsOf ar t i).length ++ (if (argsOf ar t i).length = 0 then [] else [41]))
def textAt (ar t : List Int) (i : Nat) : List UInt8 := textF ar t (t.length - i) i

theorem accT_congr (g g' : Nat → List UInt8) (l : List Nat) (h : ∀ a ∈ l, g a = g' a) : ∀ k, k ≤ l.length → accT g l k = accT g' l k := by
  intro k
  induction k with
  | zero => intro _; rfl
  | succ k ih =>
    intro hk
    rw [accT, accT, ih (by omega), h (l.getD k 0) (by simp [List.getD, show k < l.length from by omega])]
theorem textF_fuel (ar t : List Int) (h : okTerm ar t = true) : ∀ (n i : Nat), i < t.length → t.length - i ≤ n → ∀ f, t.length - i ≤ f → textF ar t f i = textAt ar t i := by
  intro n
  induction n with
  | zero => intro i hi hn; omega
  | succ n ih =>
    intro i hi hn f hf
    obtain ⟨f, rfl⟩ : ∃ f', f = f' + 1 := ⟨f - 1, by omega⟩
    unfold textAt
    obtain ⟨g, hg⟩ : ∃ g, t.length - i = g + 1 := ⟨t.length - i - 1, by omega⟩
    rw [hg, textF, textF]
    congr 2
    refine accT_congr _ _ _ (fun a ha => ?_) _ (Nat.le_refl _)
    have hb := argsOf_bd ar t h i hi a ha
    rw [ih a hb.2 (by omega) f (by omega), ih a hb.2 (by omega) g (by omega)]
theorem textAt_eq (ar t : List Int) (h : okTerm ar t = true) (i : Nat) (hi : i < t.length) :
    textAt ar t i = letter (t.getD i 0) :: (accT (textAt ar t) (argsOf ar t i) (argsOf ar t i).length ++ (if (argsOf ar t i).length = 0 then [] else [41])) := by
  conv => lhs; unfold textAt
  obtain ⟨g, hg⟩ : ∃ g, t.length - i = g + 1 := ⟨t.length - i - 1, by omega⟩
  rw [hg, textF]
  congr 2
  refine accT_congr _ _ _ (fun a ha => ?_) _ (Nat.le_refl _)
  have hb := argsOf_bd ar t h i hi a ha
  exact textF_fuel ar t h t.length a hb.2 (by omega) g (by omega)

theorem accT_len (g : Nat → List UInt8) (l : List Nat) : ∀ k, k ≤ l.length → (accT g l k).length = ((l.take k).map fun a => (g a).length + 1).sum := by
  intro k
  induction k with
  | zero => intro _; rfl
  | succ k ih =>
    intro hk
    rw [accT, List.length_append, ih (by omega), List.take_succ_eq_append_getElem (by omega), List.map_append, List.sum_append]
    simp [List.getD, show k < l.length from by omega]
theorem sum_take_le (l : List Nat) (k : Nat) : (l.take k).sum ≤ l.sum := by
  conv => rhs; rw [← List.take_append_drop k l]
  rw [List.sum_append]; omega
theorem args_sum (ar t : List Int) (g : Nat → List UInt8) : ∀ (k p e : Nat), endGo ar (t.drop p) k p = some e → (∀ a ∈ argsGo ar t k p, ∀ q, endOf ar t a = some q → (g a).length + 1 ≤ 3 * (q - a)) → ((argsGo ar t k p).map fun a => (g a).length + 1).sum ≤ 3 * (e - p) := by
  intro k
  induction k with
  | zero => intro p e _ _; simp [argsGo]
  | succ k ih =>
    intro p e h hg
    obtain ⟨q, hq, hr, hpq, hqe⟩ := ends_step ar t p k e h
    rw [argsGo_succ hq] at hg ⊢
    have h1 := hg p (by simp) q hq
    have h2 := ih q e hr (fun a ha => hg a (by simp [ha]))
    simp only [List.map_cons, List.sum_cons]
    omega
theorem textAt_len (ar t : List Int) (h : okTerm ar t = true) : ∀ (n i : Nat), t.length - i ≤ n → i < t.length → ∀ q, endOf ar t i = some q → (textAt ar t i).length + 1 ≤ 3 * (q - i) := by
  intro n
  induction n with
  | zero => intro i hn hi; omega
  | succ n ih =>
    intro i hn hi q hq
    obtain ⟨e, h1, h2⟩ := good_args ar t h i hi
    have hs := good_sym ar t h i hi
    have he : e = q := by
      unfold endOf at hq
      rw [drop_cons t i hi, endGo_cons, if_pos hs, Nat.zero_add, h1] at hq
      simpa using hq
    subst he
    have hsum := args_sum ar t (textAt ar t) _ _ _ h1 (fun a ha q hq => ih a (by have := argsOf_bd ar t h i hi a ha; omega) (argsOf_bd ar t h i hi a ha).2 q hq)
    have hge := endGo_ge _ _ _ _ _ h1
    rw [textAt_eq ar t h i hi]
    simp only [List.length_cons, List.length_append]
    rw [accT_len _ _ _ (Nat.le_refl _), List.take_length]
    have e2 : argsOf ar t i = argsGo ar t (arOf ar (t.getD i 0)) (i + 1) := rfl
    rw [← e2] at hsum
    split <;> simp <;> omega
theorem textAt_le (ar t : List Int) (h : okTerm ar t = true) (i : Nat) (hi : i < t.length) : (textAt ar t i).length ≤ 120 := by
  obtain ⟨e, he, h1, h2⟩ := good_end ar t h i hi
  have := textAt_len ar t h t.length i (by omega) hi e he
  have := ((okTerm_iff ar t).1 h).2.1
  omega
theorem accT_le (g : Nat → List UInt8) (l : List Nat) (k n : Nat) (hk : k ≤ l.length) (h : (accT g l l.length).length ≤ n) : (accT g l k).length ≤ n := by
  rw [accT_len g l k hk]
  rw [accT_len g l _ (Nat.le_refl _), List.take_length] at h
  refine Nat.le_trans ?_ h
  rw [List.map_take]
  exact sum_take_le _ _
theorem acc_le (ar t : List Int) (h : okTerm ar t = true) (i : Nat) (hi : i < t.length) (k : Nat) (hk : k ≤ (argsOf ar t i).length) : (accT (textAt ar t) (argsOf ar t i) k).length ≤ 119 := by
  refine accT_le _ _ _ _ hk ?_
  have := textAt_le ar t h i hi
  rw [textAt_eq ar t h i hi] at this
  simp only [List.length_cons, List.length_append] at this
  omega

/-- A text. -/
def RetT (w : World) (l : List UInt8) (e : Ending) (w' : World) : Prop := ∃ A : ByteArray, e = .returned (.string A) ∧ A.data.toList = l ∧ Bel w w'
theorem ba_app (A B : ByteArray) : (A ++ B).data.toList = A.data.toList ++ B.data.toList := by rw [ByteArray.data_append, Array.toList_append]
theorem ba_size (A : ByteArray) : A.size = A.data.toList.length := by rw [Array.length_toList]; rfl
end Go.Proofs.YteegjnobmbcjiaaGreatDoor
end
section
/- The draws: a spoilt text. -/
namespace Go.Proofs.YteegjnobmbcjiaaGreatDoor
open Go.RowKit

def RetSP (b n k d m : Nat) (w : World) (e : Ending) (w' : World) : Prop :=
  ∃ (s : ByteArray) (k' : Nat), e = .returned (.string s) ∧ s.size ≤ m ∧ k ≤ k' ∧ k' ≤ k + d ∧ Cur b n k' w' ∧ Chg b (b+1) w w'

end Go.Proofs.YteegjnobmbcjiaaGreatDoor
end
section
/- Match: the reference's. -/
namespace Go.Proofs.YteegjnobmbcjiaaGreatDoor
open Go.RowKit Go.Maps

/-- The first k have been taken back where they bind a variable to itself. -/
def mixF (F : Nat → List Int) (k : Nat) : Nat → List Int := fun v => if v < k then stayF F v else F v
theorem mixF_zero (F : Nat → List Int) : mixF F 0 = F := by funext v; simp [mixF]
theorem mixF_succ (F : Nat → List Int) (k : Nat) : upd (mixF F k) k (stayF F k) = mixF F (k+1) := by
  funext v
  unfold upd mixF
  by_cases e : v = k
  · subst e; simp
  · by_cases h : v < k
    · rw [if_neg e, if_pos h, if_pos (by omega)]
    · rw [if_neg e, if_neg h, if_neg (by omega)]
theorem mixF_at (F : Nat → List Int) (k : Nat) : mixF F k k = F k := by simp [mixF]
theorem rawL_mix (F : Nat → List Int) : rawL (mixF F 12) = substL F := by
  unfold rawL substL
  apply List.map_congr_left
  intro v hv
  rw [List.mem_range] at hv
  simp [mixF, hv]
theorem made12 (w : World) : (Instr.makeSlice 56 (.int .i64 12) (.int .i64 12)).run Tryz.prog w = .ok (.slice (some ⟨w.heap.size, 0, none⟩) 12 12) (w.alloc (.cells (madeCells #[.slice none 0 0] 12) 22)) :=
  Go.run_make_row' 56 22 (.slice none 0 0) 24 Tryz.underlying56 Tryz.info22 rfl .i64 .i64 12 (by omega) (by omega) w
theorem rep12 (w : World) : (w.alloc (.cells (madeCells #[.slice none 0 0] 12) 22)).ownsRow w.heap.size 22 1 (.slice (some ⟨w.heap.size, 0, none⟩) 12 12) 12 (List.replicate 12 (Value.slice none 0 0)) := by
  have h := World.ownsRow_lit (e := 22) (base := w.heap.size) (size := 1) w (madeCells #[.slice none 0 0] 12) 12 (Nat.le_refl _) (by unfold maxLen; omega) (by rw [← Array.length_toList, toList_madeCells_one]; simp)
  rw [toList_madeCells_one] at h
  exact h
theorem arr12 {w w' : World} {base B : Nat} (hb : base ≤ w.heap.size) (hB : B = w.heap.size) (hw : Bel (w.alloc (.cells (madeCells #[.slice none 0 0] 12) 22)) w') :
    Arr base B (fun _ => 2) w' (List.replicate 12 (Value.slice none 0 0)) (fun _ => []) := by
  subst hB
  exact Arr.fresh ((show OwnT base (fun _ => 2) 2 22 (w.alloc (.cells (madeCells #[.slice none 0 0] 12) 22)) (.slice (some ⟨w.heap.size, 0, none⟩) 12 12) (List.replicate 12 (Value.slice none 0 0)) from ⟨by simpa using row_mono (rep12 w) hb, fun _ _ => rfl⟩).bel hw)

end Go.Proofs.YteegjnobmbcjiaaGreatDoor
end
section
/- The least number of a loop's relation, as its measure. -/
namespace Go.Proofs.YteegjnobmbcjiaaGreatDoor

theorem least_ex (P : Nat → Prop) : ∀ k, P k → ∃ j, P j ∧ ∀ i, P i → j ≤ i := by
  intro k
  induction k using Nat.strongRecOn with
  | ind k ih =>
    intro h
    rcases Classical.em (∃ i, i < k ∧ P i) with ⟨i, hi, hp⟩ | hn
    · exact ih i hi hp
    · refine ⟨k, h, fun i hp => ?_⟩
      rcases Nat.lt_or_ge i k with h1 | h1
      · exact absurd ⟨i, h1, hp⟩ hn
      · exact h1
noncomputable def leastOf (P : Nat → Prop) : Nat := by
  classical exact if h : ∃ k, P k then Classical.choose (least_ex P h.choose h.choose_spec) else 0
theorem leastOf_spec {P : Nat → Prop} (h : ∃ k, P k) : P (leastOf P) ∧ ∀ i, P i → leastOf P ≤ i := by
  unfold leastOf
  rw [dif_pos h]
  exact Classical.choose_spec (least_ex P h.choose h.choose_spec)
theorem least_at {P : Nat → Prop} (h : ∃ k, P k) : ∃ k, P k ∧ leastOf P = k := ⟨_, (leastOf_spec h).1, rfl⟩
theorem least_lt {P Q : Nat → Prop} {j k : Nat} (hq : Q j) (hj : j < k) (hk : leastOf P = k) : leastOf Q < leastOf P := by
  have := (leastOf_spec ⟨j, hq⟩).2 j hq
  omega
end Go.Proofs.YteegjnobmbcjiaaGreatDoor
end
section
/- The draws: a substitution. -/
namespace Go.Proofs.YteegjnobmbcjiaaGreatDoor
open Go.RowKit Go.Maps

theorem SlS.cut1 {lo hi : Nat} {w : World} {b off n c : Nat} {xss : List (List Int)} (h : SlS lo hi w (.slice (some ⟨b, off, none⟩) n c) xss) (hp : 0 < xss.length) :
    SlS lo hi w (.slice (some ⟨b, off + 1, none⟩) (n - 1) (c - 1)) (xss.drop 1) := by
  obtain ⟨ad, cap, e, hc, hm, hr⟩ := h
  simp only [Value.slice.injEq] at e
  obtain ⟨rfl, rfl, rfl⟩ := e
  have hdl : (xss.drop 1).length = xss.length - 1 := by simp
  refine ⟨some ⟨b, off + 1, none⟩, c - 1, by rw [hdl], by rw [hdl]; omega, ⟨by have := hm.1; omega, fun h => by simp at h⟩, fun hp2 => ?_⟩
  obtain ⟨b', off', e2, a1, a2, a3⟩ := hr hp
  simp only [Option.some.injEq, Addr.mk.injEq, and_true] at e2
  obtain ⟨rfl, rfl⟩ := e2
  refine ⟨b, off + 1, rfl, a1, a2, fun j hj => ?_⟩
  simp at hj
  obtain ⟨u, h1, h2⟩ := a3 (j + 1) (by omega)
  refine ⟨u, by rw [show off + 1 + j = off + (j + 1) by omega]; exact h1, ?_⟩
  rw [show (xss.drop 1).getD j [] = xss.getD (j+1) [] from by simp only [List.getD, List.getElem?_drop]; rw [Nat.add_comm 1 j]]
  exact h2
theorem Arr.cur {base B b : Nat} {tag : Nat → Nat} {w w' : World} {us : List Value} {F : Nat → List Int} (h : Arr base B tag w us F) (hb : b < base) (k : Chg b (b+1) w w') : Arr base B tag w' us F :=
  h.all fun _ _ _ _ ho => ho.chgMap hb k
theorem tag_newC {base tag e w w1 v xs b} (t : Nat) (hown : w1.ownsRow w.heap.size e 1 v xs.length xs) (hb : Chg b (b+1) w w1) (hbb : b < base) (hbase : base ≤ w.heap.size) :
    ∃ tag', OwnT base tag' t e w1 v xs ∧ ∀ t' e' u zs, OwnT base tag t' e' w u zs → OwnT base tag' t' e' w1 u zs := by
  refine ⟨fun g => if w.heap.size ≤ g then t else tag g, ⟨row_mono hown hbase, fun g hg => ?_⟩, fun t' e' u zs ho => ⟨(ho.chgMap hbb hb).1, fun g hg => ?_⟩⟩
  · have := own_base hown g hg
    simp [this]
  · have := ho.lt hg
    show (if w.heap.size ≤ g then t else tag g) = t'
    rw [if_neg (by omega)]; exact ho.2 g hg
theorem arr_row {base B b : Nat} {tag : Nat → Nat} {w w5 w6 : World} {us : List Value} {F : Nat → List Int} {v : Value} {t : List Int} (h : Arr base B tag w us F) (hbb : b < base) (k5 : Chg b (b+1) w w5) (k6 : Chg b (b+1) w5 w6) (hbase : base ≤ w5.heap.size) (hrow : w6.ownsRow w5.heap.size 3 1 v t.length (t.map (Value.int .i64))) (y : Nat) (hy : y < 12) :
    ∃ tag6, OwnT base tag6 (10 + y) 3 w6 v (t.map (Value.int .i64)) ∧ Arr base B tag6 w6 us F ∧ ∃ a c, w6.cell? ⟨B, y, none⟩ = some (.slice a (F y).length c) ∧ w6.frozen? ⟨B, y, none⟩ = false := by
  obtain ⟨tag6, hX, hT⟩ := tag_newC (tag := tag) (base := base) (t := 10 + y) (xs := t.map (Value.int .i64)) (w := w5) (w1 := w6) (by simpa using hrow) k6 hbb hbase
  have hA := (h.cur hbb k5).all hT
  obtain ⟨a, c, h1, -, h2, -⟩ := hA.cell y hy
  exact ⟨tag6, hX, hA, a, c, h1, h2⟩
/-- A substitution of the draws: lists of new blocks. -/
def RetSD (b n k d : Nat) (w : World) (e : Ending) (w' : World) : Prop :=
  ∃ (ad : Option Addr) (c : Nat) (l : List (List Int)) (k' : Nat), e = .returned (.slice ad l.length c) ∧ SlS w.heap.size w'.heap.size w' (.slice ad l.length c) l ∧ l.length ≤ 12 ∧ (∀ j, (l.getD j []).length ≤ 1000) ∧ k ≤ k' ∧ k' ≤ k + d ∧ Cur b n k' w' ∧ Chg b (b+1) w w'

set_option maxRecDepth 100000 in
set_option maxHeartbeats 1000000 in
theorem subst_d (b n k lo hi : Nat) (v : Value) (ar : List Int) (w : World) (hn : n ≤ 1099511627776) (hk : k ≤ 1000000000) (hdr : drawn ar) (hblo : b < lo) (hhi : hi ≤ w.heap.size) (hc : Cur b n k w) (hv : SlI lo hi w v ar) :
    Calls Tryz.prog 55 #[.pointer (some ⟨b, 0, none⟩), .agg #[v]] w (RetSD b n k 20000 w) := by
  have hbl := hc.lt
  have hmk := made12
  have hB1 := Bel.alloc0 w (.cells #[v] 33)
  have hs1 : (w.alloc (.cells #[v] 33)).heap.size = w.heap.size + 1 := by simp
  have hbx1 : (w.alloc (.cells #[v] 33)).cell? ⟨w.heap.size, 0, none⟩ = some v := by rw [World.cell?_alloc_new w]; rfl
  have hc1 := hc.below hB1
  have hv1 := hv.below hB1
  have hg1 := Chg.of_bel (lo := b) (hi := b + 1) hB1
  go_enter Tryz.func55, Tryz.ntmps55
  go_wp2_with fail
  have hB2 := Bel.alloc0 (w.alloc (.cells #[v] 33)) (.cells (madeCells #[.slice none 0 0] 12) 22)
  have hA2 : Arr (w.heap.size + 1) (w.heap.size + 1) (fun _ => 2) ((w.alloc (.cells #[v] 33)).alloc (.cells (madeCells #[.slice none 0 0] 12) 22)) (List.replicate 12 (Value.slice none 0 0)) (fun _ => []) := arr12 (by simp) (by simp) (Bel.rfl' _)
  have hbx2 := hB2.at (by simp) hbx1
  have hc2 := hc1.below hB2
  have hv2 := hv1.below hB2
  have hg2 := hg1.trans (Chg.of_bel (lo := b) (hi := b + 1) hB2)
  clear hB1 hB2 hbx1 hc1 hv1 hg1
  refine (pick_c b n k 5 5 _ rfl hn (by omega) (by omega) hc2).mono ?_; rintro e w1 ⟨x, k1, rfl, hx, hk1, hk2, hc3, hg3⟩
  have hA3 := hA2.cur (by omega) hg3
  have hbx3 := hg3.cell (by simp; omega) (by omega) hbx2
  have hv3 := hv2.chg hg3 (by omega)
  have hg4 := hg2.trans hg3
  clear hA2 hbx2 hc2 hv2 hg2 hg3
  go_wp2_with fail
  go_loopw [6] (fun i wr => ∃ (j k9 : Nat) (tag : Nat → Nat) (us : List Value) (F : Nat → List Int), j ≤ 4 ∧ i = .int .i64 j ∧ Arr (w.heap.size + 1) (w.heap.size + 1) tag wr us F ∧ (∀ v, (F v).length ≤ 1000) ∧ k ≤ k9 ∧ k9 + 4500 * j ≤ k + 18010 ∧ Cur b n k9 wr ∧ wr.cell? ⟨w.heap.size, 0, none⟩ = some v ∧ SlI lo hi wr v ar ∧ Chg b (b+1) w wr) (fun i _ => (intOf i).toNat)
  case atStart => exact ⟨x, k1, _, _, _, by omega, rfl, hA3, fun _ => by simp, by omega, by omega, hc3, hbx3, hv3, hg4⟩
  case round =>
    clear hA3 hbx3 hc3 hv3 hg4
    obtain ⟨j, k9, tag, us, F, hj, rfl, hA, hF, hk9, hk8, hcr, hbr, hvr, hgr⟩ := hrel
    by_cases hlt : 0 < j
    · have hw13 := IntWalk.i64_in ((j : Int) - 1) (by omega)
      have hszr : w.heap.size + 1 < wr.heap.size := hA.2.1.lt rfl
      have HW13 := Lib.hid (IntWalk.i64_in ((j : Int) - 1) (by omega))
      have HTm := Lib.hid (fun (w5 : World) (q k5 : Nat) (hq : q < 2 + (1 - 2)) (hk5 : k5 ≤ k9 + 4) (hc5 : Cur b n k5 w5) (hg5 : Chg b (b+1) wr w5) => term_z b n (1 + q) 4 k5 lo hi (1 + (q : Int)) 4 v ar w5 (by omega) rfl hn (by omega) (by omega) hdr hblo (by omega) (by omega) hc5 (hvr.chg hg5 (by omega)))
      have HAr := Lib.hid (fun (w5 w6 : World) (y : Nat) (v : Value) (t : List Int) (k5 : Chg b (b+1) wr w5) (k6 : Chg b (b+1) w5 w6) (hrow : w6.ownsRow w5.heap.size 3 1 v t.length (t.map (Value.int .i64))) (hy : y < 12) => arr_row hA (by omega) k5 k6 (by have := k5.size; omega) hrow y hy)
      go_wp2_with fail
      go_region_held3 (fun w' => w'.cell? ⟨w.heap.size, 0, none⟩ = some v)
        (first | exact hbr | exact hb4 | exact hb5 | exact hb6 | exact hb7 | fail)
        (first
          | (go_at_call 86; refine (pick_c b n k9 _ 4 _ (by decide) hn (by omega) (by omega) (hcr.below (Bel.drew0 wr))).mono ?_; rintro e w4 ⟨y, k4, rfl, hy, hk41, hk42, hc4, hg4⟩; have hyl : (y : Int) < 12 := (by omega); replace hg4 := (Chg.of_bel (lo := b) (hi := b+1) (Bel.drew0 wr)).trans hg4; have hb4 := hg4.cell (by omega) (by omega) hbr)
          | (go_at_call 86; refine (pick_c b n k4 _ 2 w4 (by decide) hn (by omega) (by omega) hc4).mono ?_; rintro e w5 ⟨q, k5, rfl, hq, hk51, hk52, hc5, hg5⟩; replace hg5 := hg4.trans hg5; have hb5 := hg5.cell (by omega) (by omega) hbr; have hw21 := IntWalk.i64_in (1 + (q : Int)) (by omega))
          | (go_at_call 87; clear hw21; refine (HTm.out w5 q k5 hq (by omega) hc5 hg5).mono ?_; rintro e w6 ⟨a6, m6, c6, t6, k6, rfl, hrow6, ht1, ht2, -, hk61, hk62, hc6, hg6⟩; have hm6 := row_len hrow6; subst hm6; have hb6 := (hg5.trans hg6).cell (by omega) (by omega) hbr; obtain ⟨tag6, hX6, hA6, au, cu, hcu, hfu⟩ := HAr.out w5 w6 y _ t6 hg5 hg6 hrow6 (by omega); have hb7 := (World.cell?_setCell_other w6 ⟨w.heap.size + 1, y, none⟩ ⟨w.heap.size, 0, none⟩ (.slice a6 t6.length c6) (fun h => (Nat.succ_ne_self w.heap.size) (congrArg Addr.block h))).trans hb6)
          | fail)
      have hstp := hA6.set y (by omega) (fun _ _ _ _ h => h) hX6
      have htl := tl_le (1 + q) (by omega)
      have hF6 : ∀ g, (upd F y t6 g).length ≤ 1000 := fun g => by unfold upd; split; omega; exact hF g
      have hgAll := hg5.trans hg6
      have hset := Chg.set (lo := w.heap.size + 1) (hi := w.heap.size + 2) (p := ⟨w.heap.size + 1, y, none⟩) w6 (by simp) (by simp) (.slice a6 t6.length c6)
      have hcF := hc6.chg hset (by omega)
      have hvF := (hvr.chg hgAll (by omega)).set (p := ⟨w.heap.size + 1, y, none⟩) (.inr (by simp; omega)) (.slice a6 t6.length c6)
      have hgF := (hgr.trans hgAll).news hset (by omega)
      have hw13 := HW13.out
      clear hA hA6 hX6 hrow6 hcu hfu hb4 hb5 hb6 HTm HAr hc4 hc5 hc6 hg4 hg5 hg6
      go_wp2_with fail
      clear hw13
      exact ⟨⟨j - 1, k6, tag6, _, _, by omega, by go_num, hstp, hF6, by omega, by omega, hcF, hb7, hvF, hgF⟩, by simp [intOf]; omega⟩
    · obtain rfl : j = 0 := by omega
      have HA := Lib.hid hA
      clear hA
      go_wp2_with fail
      refine (one_c b n k9 _ 40 _ rfl hn (by omega) (by omega) hcr).mono ?_; rintro e w2 ⟨q, k2, rfl, hk21, hk22, hc2, hg2⟩
      have hA2 := HA.out.cur (by omega) hg2
      have hS2 : SlS (w.heap.size + 1) w2.heap.size w2 (.slice (some ⟨w.heap.size + 1, 0, none⟩) 12 12) (rawL F) := (OwnS.of_tag hA2.2.1 hA2.2.2 (by omega)).sl
      have hrl := rawL_len F
      have hFr : ∀ j, ((rawL F).getD j []).length ≤ 1000 := by
        intro j
        by_cases hj : j < 12
        · rw [rawL_get F j hj]; exact hF j
        · simp [List.getD, List.getElem?_eq_none (show (rawL F).length ≤ j by omega)]
      have hgW := hgr.trans hg2
      cases q with
      | true =>
        go_wp2_with fail
        go_ret
        refine ⟨some ⟨w.heap.size + 1, 1, none⟩, 11, (rawL F).drop 1, k2, by rw [List.length_drop, hrl]; rfl, ?_, by rw [List.length_drop, hrl]; omega, fun j => ?_, by omega, by omega, hc2, hgW⟩
        · have := (hS2.cut1 (by omega)).mono (show w.heap.size ≤ w.heap.size + 1 by omega) (Nat.le_refl _)
          rw [List.length_drop, hrl]
          exact this
        · rw [show ((rawL F).drop 1).getD j [] = (rawL F).getD (j+1) [] from by simp only [List.getD, List.getElem?_drop]; rw [Nat.add_comm 1 j]]
          exact hFr (j+1)
      | false =>
        go_wp2_with fail
        go_ret
        exact ⟨some ⟨w.heap.size + 1, 0, none⟩, 12, rawL F, k2, by rw [hrl]; rfl, by rw [hrl]; exact hS2.mono (by omega) (Nat.le_refl _), by omega, hFr, by omega, by omega, hc2, hgW⟩
end Go.Proofs.YteegjnobmbcjiaaGreatDoor
end
