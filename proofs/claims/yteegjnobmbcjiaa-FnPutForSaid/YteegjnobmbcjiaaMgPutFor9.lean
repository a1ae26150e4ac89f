/- Texts merged, part 9. -/
import Derived.Laws.BytesString
import Derived.Deep.OwnRows
import Derived.Test.YteegjnobmbcjiaaMgPutFor8
section
/- A row of literals of the draws, whose terms may be shared. No program. -/
namespace Go.Proofs.Yteegjnobmbcjiaa
open Go.RowKit

/-- A term of the draws, in a block that is not the row's. -/
def TD (B : Nat) (w : World) (o v : Value) (t : List Int) : Prop := (∃ g, B ≤ g ∧ g < w.heap.size ∧ o.ownBlock ≠ some g ∧ SlI g (g+1) w v t) ∧ t.length ≤ 400
theorem TD.of {B : Nat} {w0 w : World} {o v : Value} {t : List Int} (h : Rl.TF w0 w v t) (hB : B ≤ w0.heap.size) (ho : ∀ g, o.ownBlock = some g → g < w0.heap.size) : TD B w o v t := by
  obtain ⟨⟨c, h1, h2, h3⟩, h4⟩ := h
  exact ⟨⟨c, by omega, h2, fun e => by have := ho c e; omega, h3⟩, h4.2⟩
theorem TD.bel {B : Nat} {w w' : World} {o v : Value} {t : List Int} (h : TD B w o v t) (hb : Bel w w') : TD B w' o v t := by
  obtain ⟨⟨c, h1, h2, h3, h5⟩, h4⟩ := h
  exact ⟨⟨c, h1, Nat.lt_of_lt_of_le h2 hb.size, h3, h5.below hb⟩, h4⟩
theorem TD.chg {b B : Nat} {w w' : World} {o v : Value} {t : List Int} (h : TD B w o v t) (k : Chg b (b+1) w w') (hb : b < B) : TD B w' o v t := by
  obtain ⟨⟨c, h1, h2, h3, h5⟩, h4⟩ := h
  exact ⟨⟨c, h1, Nat.lt_of_lt_of_le h2 k.size, h3, h5.chg k (by omega)⟩, h4⟩
theorem TD.grown {B : Nat} {w w' : World} {o o' v : Value} {t : List Int} (h : TD B w o v t) (hg : w.grownBy w' o.ownBlock) (ho : o'.ownBlock = o.ownBlock ∨ o'.ownBlock = some w.heap.size) : TD B w' o' v t := by
  obtain ⟨⟨c, h1, h2, h3, h5⟩, h4⟩ := h
  refine ⟨⟨c, h1, Nat.lt_of_lt_of_le h2 hg.size, fun e => ?_, h5.same fun x hx1 hx2 hx3 => hg.block x hx3 fun e => ?_⟩, h4⟩
  · rcases ho with ho | ho
    · exact h3 (by rw [← ho]; exact e)
    · rw [ho] at e; simp at e; omega
  · exact h3 (by rw [← e]; congr 1; omega)
theorem TD.form {B : Nat} {w : World} {o v : Value} {t : List Int} (h : TD B w o v t) : ∃ a c, v = .slice a t.length c := by
  obtain ⟨⟨c, _, _, _, h3⟩, _⟩ := h
  exact h3.form

def RowD (B : Nat) (w : World) (o : Value) (c : List Lt) : Prop :=
  ∃ zs : List LV, RowC B w o zs ∧ zs.length = c.length ∧ ∀ j z, zs[j]? = some z → z.1 = (c.getD j lt0).1 ∧ TD B w o z.2.1 (c.getD j lt0).2.1 ∧ TD B w o z.2.2 (c.getD j lt0).2.2
theorem RowD.nil (B : Nat) (w : World) : RowD B w (.slice none 0 0) [] := ⟨[], RowC.nil _ _, rfl, fun j z h => by simp at h⟩
theorem RowD.form {B : Nat} {w : World} {o : Value} {c : List Lt} (h : RowD B w o c) : ∃ ad k, o = .slice ad c.length k := by
  obtain ⟨zs, ho, h1, h2⟩ := h
  obtain ⟨ad, n, k, rfl⟩ := own_form ho
  exact ⟨ad, k, by rw [row_len3 ho, h1]⟩
theorem RowD.bel {B : Nat} {w w' : World} {o : Value} {c : List Lt} (h : RowD B w o c) (hb : Bel w w') : RowD B w' o c := by
  obtain ⟨zs, ho, h1, h2⟩ := h
  exact ⟨zs, ownsRow_bel ho hb, h1, fun j z hz => ⟨(h2 j z hz).1, (h2 j z hz).2.1.bel hb, (h2 j z hz).2.2.bel hb⟩⟩
theorem row3_chg {w w' : World} {b base : Nat} {e : TypeId} {v : Value} {m : Nat} {xs : List Value} (h : w.ownsRow base e 3 v m xs) (hb : b < base) (k : Chg b (b+1) w w') : w'.ownsRow base e 3 v m xs := by
  refine ⟨h.1, ?_⟩
  rcases h.2 with h0 | ⟨g, cap, cur, e1, e2, hh, r⟩
  · exact .inl h0
  · exact .inr ⟨g, cap, cur, e1, e2, by rw [k.block g (Array.getElem?_eq_some_iff.1 hh).1 (by omega)]; exact hh, r⟩
theorem RowD.chg {b B : Nat} {w w' : World} {o : Value} {c : List Lt} (h : RowD B w o c) (k : Chg b (b+1) w w') (hb : b < B) : RowD B w' o c := by
  obtain ⟨zs, ho, h1, h2⟩ := h
  exact ⟨zs, row3_chg ho hb k, h1, fun j z hz => ⟨(h2 j z hz).1, (h2 j z hz).2.1.chg k hb, (h2 j z hz).2.2.chg k hb⟩⟩
theorem RowD.lt {B : Nat} {w : World} {o : Value} {c : List Lt} (h : RowD B w o c) : ∀ g, o.ownBlock = some g → B ≤ g ∧ g < w.heap.size := by
  obtain ⟨zs, ho, _⟩ := h
  exact ho.lt
/-- One literal more. -/
theorem RowD.snoc {B : Nat} {w w' : World} {o o' : Value} {c : List Lt} {zs : List LV} {z : LV} {x : Lt} (h1 : zs.length = c.length) (h2 : ∀ j z, zs[j]? = some z → z.1 = (c.getD j lt0).1 ∧ TD B w o z.2.1 (c.getD j lt0).2.1 ∧ TD B w o z.2.2 (c.getD j lt0).2.2)
    (hz : z.1 = x.1 ∧ TD B w o z.2.1 x.2.1 ∧ TD B w o z.2.2 x.2.2) (hn : RowC B w' o' (zs ++ [z])) (hg : w.grownBy w' o.ownBlock) (ho : o'.ownBlock = o.ownBlock ∨ o'.ownBlock = some w.heap.size) : RowD B w' o' (c ++ [x]) := by
  refine ⟨zs ++ [z], hn, by simp [h1], fun j y hj => ?_⟩
  by_cases e : j < zs.length
  · rw [List.getElem?_append_left e] at hj
    obtain ⟨a1, a2, a3⟩ := h2 j y hj
    have e2 : (c ++ [x]).getD j lt0 = c.getD j lt0 := by simp [List.getD, List.getElem?_append_left (show j < c.length by omega)]
    rw [e2]
    exact ⟨a1, a2.grown hg ho, a3.grown hg ho⟩
  · have hlt := (List.getElem?_eq_some_iff.1 hj).1
    simp at hlt
    obtain rfl : j = zs.length := by omega
    rw [List.getElem?_append_right (Nat.le_refl _), Nat.sub_self] at hj
    simp at hj
    subst hj
    have e2 : (c ++ [x]).getD zs.length lt0 = x := by rw [h1]; simp [List.getD]
    rw [e2]
    exact ⟨hz.1, hz.2.1.grown hg ho, hz.2.2.grown hg ho⟩
/-- As a slice of literals that may be read. -/
theorem RowD.slc {B : Nat} {w : World} {o : Value} {c : List Lt} (h : RowD B w o c) : SlC B w.heap.size w o c := by
  obtain ⟨zs, ho, h1, h2⟩ := h
  have h0 := ho
  rcases ho.2 with ⟨rfl, hn⟩ | ⟨g, cap, cur, rfl, hg, hh, hn, hc, hs, ht⟩
  · obtain rfl : c = [] := List.length_eq_zero_iff.1 (by omega)
    exact SlC.nil _ _ _
  · have hgs : g < w.heap.size := (Array.getElem?_eq_some_iff.1 hh).1
    refine ⟨_, cap, by rw [h1], by omega, ⟨hc, fun h => by simp at h⟩, fun hp => ⟨g, 0, rfl, hg, hgs, fun j hj => ?_⟩⟩
    have hz : zs[j]? = some zs[j] := List.getElem?_eq_getElem (by omega)
    obtain ⟨e1, ⟨⟨b1, p1, q1, _, s1⟩, _⟩, ⟨⟨b2, p2, q2, _, s2⟩, _⟩⟩ := h2 j _ hz
    obtain ⟨t0, t1, t2⟩ := cellsC_get zs j _ hz
    refine ⟨zs[j].2.1, zs[j].2.2, ?_, ?_, ?_, s1.mono p1 q1, s2.mono p2 q2⟩
    · rw [Nat.zero_add, h0.cellAt _ (by omega), t0, e1]
    · rw [Nat.zero_add, h0.cellAt _ (by omega), t1]
    · rw [Nat.zero_add, h0.cellAt _ (by omega), t2]
theorem RowD.short {B : Nat} {w : World} {o : Value} {c : List Lt} (h : RowD B w o c) : ∀ x ∈ c, x.2.1.length ≤ 400 ∧ x.2.2.length ≤ 400 := by
  obtain ⟨zs, ho, h1, h2⟩ := h
  intro x hx
  obtain ⟨j, hj, rfl⟩ := List.getElem_of_mem hx
  obtain ⟨_, ⟨_, a⟩, ⟨_, b⟩⟩ := h2 j zs[j] (List.getElem?_eq_getElem (by omega))
  rw [show c.getD j lt0 = c[j] from by simp [List.getD, hj]] at a b
  exact ⟨a, b⟩
theorem rows3_set (zs : List LV) (p : Bool) (u1 u2 v : Value) : (cellsC ((p, u1, u2) :: zs)).set 2 v = cellsC ((p, u1, v) :: zs) := rfl
/-- The first literal's left side becomes its right side too. -/
theorem RowD.first {B : Nat} {w : World} {g n k : Nat} {x : Lt} {c : List Lt} (h : RowD B w (.slice (some ⟨g, 0, none⟩) n k) (x :: c)) :
    ∃ u1 u2, w.cell? ⟨g, 0, none⟩ = some (.bool x.1) ∧ w.cell? ⟨g, 1, none⟩ = some u1 ∧ w.cell? ⟨g, 2, none⟩ = some u2 ∧ (∃ a m, u1 = .slice a x.2.1.length m) ∧ (∃ a m, u2 = .slice a x.2.2.length m) ∧ (∀ j, w.frozen? ⟨g, j, none⟩ = false) ∧
      RowD B (w.setCell ⟨g, 2, none⟩ u1) (.slice (some ⟨g, 0, none⟩) n k) ((x.1, x.2.1, x.2.1) :: c) := by
  obtain ⟨zs, ho, h1, h2⟩ := h
  obtain ⟨⟨p, u1, u2⟩, zs, rfl⟩ : ∃ z zs', zs = z :: zs' := by cases zs with | nil => simp at h1 | cons z zs => exact ⟨z, zs, rfl⟩
  obtain ⟨e1, t1, t2⟩ := h2 0 (p, u1, u2) rfl
  simp only [List.getD, List.getElem?_cons_zero, Option.getD_some] at e1 t1 t2
  obtain ⟨d0, d1, d2⟩ := cellsC_get ((p, u1, u2) :: zs) 0 _ rfl
  have hl3 : (0 : Nat) < ((p, u1, u2) :: zs).length := by simp
  have hn := row_len3 ho
  subst hn
  have k0 := ho.cellAt 0 (by simp only [List.length_cons]; omega)
  have k1 := ho.cellAt 1 (by simp only [List.length_cons]; omega)
  have k2 := ho.cellAt 2 (by simp only [List.length_cons]; omega)
  obtain ⟨a2, m2, f2⟩ := t2.form
  refine ⟨u1, u2, by rw [k0]; rw [← e1]; exact d0, by rw [k1]; exact d1, by rw [k2]; exact d2, t1.form, ⟨a2, m2, f2⟩, fun j => ho.frozenAt j, ?_⟩
  have hst := (ho.stored 2 u1).1
  rw [rows3_set] at hst
  have hs2 : w.cell? ⟨g, 2, none⟩ = some (.slice a2 x.2.2.length m2) := by rw [k2, ← f2]; exact d2
  have keep : ∀ v t, TD B w (.slice (some ⟨g, 0, none⟩) ((p, u1, u2) :: zs).length k) v t → TD B (w.setCell ⟨g, 2, none⟩ u1) (.slice (some ⟨g, 0, none⟩) ((p, u1, u2) :: zs).length k) v t := fun v t ht => by
    obtain ⟨⟨q, q1, q2, q3, q4⟩, q5⟩ := ht
    exact ⟨⟨q, q1, by rw [World.size_setCell]; exact q2, q3, Rl.slOther q4 hs2 (fun n => by simp) u1⟩, q5⟩
  refine ⟨(p, u1, u1) :: zs, hst, by simpa using h1, fun j z hz => ?_⟩
  cases j with
  | zero =>
    simp at hz; subst hz
    simp only [List.getD, List.getElem?_cons_zero, Option.getD_some]
    exact ⟨e1, keep _ _ t1, keep _ _ t1⟩
  | succ j =>
    obtain ⟨a1, a2, a3⟩ := h2 (j+1) z (by simpa using hz)
    simp only [List.getD, List.getElem?_cons_succ] at a1 a2 a3 ⊢
    exact ⟨a1, keep _ _ a2, keep _ _ a3⟩
end Go.Proofs.Yteegjnobmbcjiaa
end
section
/- A clause of the draws: what is known between two of its steps. -/
namespace Go.Proofs.Yteegjnobmbcjiaa
open Go.RowKit

theorem Rl.LF.mono {b n k d d' : Nat} {w0 w : World} (h : Rl.LF b n k d w0 w) (hd : d ≤ d') : Rl.LF b n k d' w0 w := by
  obtain ⟨k', h1, h2, h3⟩ := h
  exact ⟨k', h1, by omega, h3⟩
theorem Rl.LF.chg {b n k d : Nat} {w0 w : World} (h : Rl.LF b n k d w0 w) : Chg b (b+1) w0 w := by obtain ⟨_, _, _, _, h4⟩ := h; exact h4
/-- Between two steps: the row, the cursor, the signature's box. -/
structure CS (b n k d : Nat) (v : Value) (w w' : World) (o : Value) (c : List Lt) : Prop where
  row : RowD (w.heap.size + 1) w' o c
  cur : Rl.LF b n k d w w'
  box : w'.cell? ⟨w.heap.size, 0, none⟩ = some v
  big : w.heap.size + 1 ≤ w'.heap.size
  low : b < w.heap.size
theorem CS.start {b n k : Nat} {v : Value} {w : World} (hc : Cur b n k w) : CS b n k 0 v w (w.alloc (.cells #[v] 30)) (.slice none 0 0) [] :=
  ⟨RowD.nil _ _, ⟨k, Nat.le_refl _, by omega, hc.below (Bel.alloc0 _ _), Chg.of_bel (Bel.alloc0 _ _)⟩, by simp [go_sem], by simp, hc.lt⟩
theorem CS.mono {b n k d d' : Nat} {v : Value} {w w' : World} {o : Value} {c : List Lt} (h : CS b n k d v w w' o c) (hd : d ≤ d') : CS b n k d' v w w' o c := ⟨h.row, h.cur.mono hd, h.box, h.big, h.low⟩
/-- The cursor goes on. -/
theorem CS.step {b n k d d' : Nat} {v : Value} {w w1 w2 : World} {o : Value} {c : List Lt} (h : CS b n k d v w w1 o c) {k1 k2 : Nat} (a1 : k ≤ k1) (a2 : k1 ≤ k + d) (a3 : k1 ≤ k2) (a4 : k2 ≤ k1 + d') (hc : Cur b n k2 w2) (hg : Chg b (b+1) w1 w2) : CS b n k (d + d') v w w2 o c :=
  ⟨h.row.chg hg (by have := h.low; omega), ⟨k2, by omega, by omega, hc, h.cur.chg.trans hg⟩, hg.cell (by have := h.big; omega) (.inr (by have := h.low; omega)) h.box, Nat.le_trans h.big hg.size, h.low⟩
theorem CS.bel {b n k d : Nat} {v : Value} {w w1 w2 : World} {o : Value} {c : List Lt} (h : CS b n k d v w w1 o c) (hb : Bel w1 w2) : CS b n k d v w w2 o c := by
  refine ⟨h.row.bel hb, ?_, hb.at (by have := h.big; omega) h.box, Nat.le_trans h.big hb.size, h.low⟩
  obtain ⟨k', h1, h2, h3, h4⟩ := h.cur
  exact ⟨k', h1, h2, h3.below hb, h4.trans (Chg.of_bel hb)⟩
/-- One literal more: what the append asks for and what it gives. -/
theorem CS.append {b n k d : Nat} {v : Value} {w w1 : World} {o : Value} {c : List Lt} (h : CS b n k d v w w1 o c) (p : Bool) {v1 v2 : Value} {t1 t2 : List Int} (h1 : TD (w.heap.size + 1) w1 o v1 t1) (h2 : TD (w.heap.size + 1) w1 o v2 t2) (ob : Obj) :
    ∃ zs : List LV, RowC (w.heap.size + 1) (w1.alloc ob) o zs ∧ zs.length = c.length ∧ w.heap.size + 1 ≤ (w1.alloc ob).heap.size ∧
      ∀ w4 o', RowC (w.heap.size + 1) w4 o' (zs ++ [(p, v1, v2)]) → (w1.alloc ob).grownBy w4 o.ownBlock → (o'.ownBlock = o.ownBlock ∨ o'.ownBlock = some (w1.alloc ob).heap.size) → CS b n k d v w w4 o' (c ++ [(p, t1, t2)]) := by
  have hb := Bel.alloc0 w1 ob
  have hB := h.bel hb
  have hlt := hB.row.lt
  have hlow := h.low
  obtain ⟨zs, r1, r2, r3⟩ := hB.row
  refine ⟨zs, r1, r2, hB.big, fun w4 o' hn hg ho => ⟨?_, ?_, ?_, Nat.le_trans hB.big hg.size, h.low⟩⟩
  · exact RowD.snoc r2 r3 ⟨rfl, h1.bel hb, h2.bel hb⟩ hn hg ho
  · obtain ⟨k', a1, a2, a3, a4⟩ := hB.cur
    have hgg : Chg (w.heap.size + 1) (w4.heap.size + 1) (w1.alloc ob) w4 := ⟨hg.os, hg.tape, hg.output, hg.size, fun i hi hq => hg.block i hi (fun e => by have := hlt i e.symm; have := hg.size; omega)⟩
    exact ⟨k', a1, a2, a3.chg hgg (by omega), a4.news hgg (by omega)⟩
  · have hbg := hB.big
    exact (World.cell?_of_block (w := w1.alloc ob) (w' := w4) (a := ⟨w.heap.size, 0, none⟩) (hg.block w.heap.size (by omega) (fun e => by have := (hlt _ e.symm).1; omega))).trans hB.box
/-- A drawn literal's terms, beside the row. -/
theorem CS.lit {b n k d : Nat} {v : Value} {w w1 w2 : World} {o : Value} {c : List Lt} (h : CS b n k d v w w1 o c) {v1 : Value} {t1 : List Int} (h1 : Rl.TF w1 w2 v1 t1) : TD (w.heap.size + 1) w2 o v1 t1 :=
  TD.of h1 h.big (fun g e => (h.row.lt g e).2)
end Go.Proofs.Yteegjnobmbcjiaa
end
section
/- A clause of the draws. -/
namespace Go.Proofs.Yteegjnobmbcjiaa
open Go.RowKit

theorem row_lit {B : Nat} {w : World} {o' : Value} {zs : List LV} {p : Bool} {x y : Value} {n : Nat} (hn : n = zs.length) (h : w.ownsRow B 91 3 o' (n + 1) (cellsC zs ++ [.bool p, x, y])) : RowC B w o' (zs ++ [(p, x, y)]) := by
  subst hn
  have e : cellsC (zs ++ [(p, x, y)]) = cellsC zs ++ [.bool p, x, y] := by rw [cellsC_app]; rfl
  show World.ownsRow _ _ _ _ _ _ _
  rw [e]
  simpa using h
def lenV : Value → Nat
  | .slice _ n _ => n
  | _ => 0
/-- A clause of the draws, of new blocks. -/
def RetCl (b n k d : Nat) (w : World) (e : Ending) (w' : World) : Prop :=
  ∃ (o : Value) (c : List Lt), e = .returned o ∧ SlC (w.heap.size + 1) w'.heap.size w' o c ∧ c.length ≤ 9 ∧ (∀ x ∈ c, x.2.1.length ≤ 400 ∧ x.2.2.length ≤ 400) ∧ Rl.LF b n k d w w'

set_option maxRecDepth 100000 in
set_option maxHeartbeats 2000000 in
theorem clause_c (b n k lo hi : Nat) (v : Value) (ar : List Int) (w : World) (hn : n ≤ 1099511627776) (hk : k ≤ 100000000000) (hdr : drawn ar) (hblo : b < lo) (hc : Cur b n k w) (hv : SlI lo hi w v ar) :
    Calls Try.prog 98 #[.pointer (some ⟨b, 0, none⟩), .agg #[v]] w (RetCl b n k 200000 w) := by
  obtain ⟨i0, hi0, hz0, hz1, hz2⟩ := info_parts Try.info91
  have hbl := hc.lt
  have hB := Bel.alloc2 w (.cells #[v] 30) (.cells #[.int .i64 0, .int .i64 1, .int .i64 1, .int .i64 1, .int .i64 2, .int .i64 2, .int .i64 3] 3)
  have hc0 := hc.below hB
  have hS : SlI (w.heap.size + 1) (w.heap.size + 2) ((w.alloc (.cells #[v] 30)).alloc (.cells #[.int .i64 0, .int .i64 1, .int .i64 1, .int .i64 1, .int .i64 2, .int .i64 2, .int .i64 3] 3)) (.slice (some ⟨w.heap.size + 1, 0, none⟩) 7 7) [0, 1, 1, 1, 2, 2, 3] := SlI.arr (xs := [0, 1, 1, 1, 2, 2, 3]) rfl (by simp) (by simp) (Nat.le_refl _) (Nat.lt_succ_self _)
  have HA := Lib.hid (among_c b n k _ _ _ [0, 1, 1, 1, 2, 2, 3] _ hn (by omega) (by simp) (by simp) (by omega) hc0 hS)
  have hcs := (CS.start (b := b) (n := n) (k := k) (v := v) hc).bel (Bel.alloc0 _ (.cells #[.int .i64 0, .int .i64 1, .int .i64 1, .int .i64 1, .int .i64 2, .int .i64 2, .int .i64 3] 3))
  have HC0 := Lib.hid hcs
  clear hcs hS hc0 hc
  go_enter Try.func98, Try.ntmps98
  go_wp2_with fail
  refine HA.out.mono ?_; rintro e w1 ⟨z, k0, rfl, hz, g1, g2, g3, g4⟩
  have hz03 : 0 ≤ z ∧ z ≤ 3 := by simp at hz; omega
  clear hz HA
  have hcs1 := HC0.out.step (Nat.le_refl _) (Nat.le_refl _) g1 g2 g3 g4
  clear HC0 g3 g4
  obtain ⟨m0, rfl⟩ : ∃ m : Nat, z = (m : Int) := ⟨z.toNat, by omega⟩
  
  go_wp2_with fail
  go_loopw [5, 6] (fun o i wr => ∃ (j : Nat) (c : List Lt), i = .int .i64 j ∧ c.length + j ≤ 3 ∧ CS b n k (2 + 10000 * c.length) v w wr o c) (fun _ i _ => (intOf i).toNat)
  case atStart => exact ⟨m0, [], rfl, by simp; omega, hcs1.mono (by simp)⟩
  case round =>
    clear hcs1
    obtain ⟨j, c, rfl, hcj, hcs⟩ := hrel
    by_cases hj : 0 < j
    · have hd : decide ((0 : Int) < j) = true := by simpa using hj
      obtain ⟨k1, f1, f2, f3, f4⟩ := hcs.cur
      obtain ⟨ad, kk, rfl⟩ := hcs.row.form
      have hbxr := hcs.box
      have HL := Lib.hid (lit_c b n k1 lo hi v ar wr hn (by omega) hdr hblo f3 (hv.chg f4 (by omega)))
      have HCS := Lib.hid hcs
      clear hcs f3 f4 
      go_wp2_with fail
      refine HL.out.mono ?_; rintro e w2 ⟨p, v1, v2, t1, t2, rfl, T1, T2, k2, g1, g2, g3, g4⟩
      obtain ⟨a1, c1, rfl⟩ := Rl.TF.form T1
      obtain ⟨a2, c2, rfl⟩ := Rl.TF.form T2
      obtain ⟨zs, r1, r2, r3, hnext⟩ := (HCS.out.step f1 f2 g1 g2 g3 g4).append p (HCS.out.lit T1) (HCS.out.lit T2) (.cells #[.bool p, .slice a1 t1.length c1, .slice a2 t2.length c2] 91)
      have HN := Lib.hid hnext
      have HX := Lib.hid (And.intro T1 T2)
      clear hnext T1 T2 HL g3 g4 HCS
      have hzl : zs.length ≤ 20 := by omega
      go_wp2_with (at_builtin; refine wpList_append_own_at _ rfl _ _ 47 rfl (w.heap.size + 1) 91 i0 (.agg #[.bool false, .slice none 0 0, .slice none 0 0]) 3 56 Try.underlying47 hi0 hz0 hz1 hz2 rfl (by decide) _ _ _ rfl r1 _ _ _ [.bool p, .slice a1 t1.length c1, .slice a2 t2.length c2] rfl rfl (news_lit _ _ _ _ _ _ rfl) (one_lit _ _ _ _ _ _ _) (by unfold maxLen; omega) (by omega) r3 ?_; intro o' w4 hown' hgrow _ hat)
      have hcs4 := HN.out w4 o' (row_lit rfl hown') hgrow hat
      go_roundw
      case rel => exact ⟨j - 1, _, by simp; omega, by simp; omega, hcs4.mono (by simp; omega)⟩
      case measure => simp [intOf]; omega
    · have hd : decide ((0 : Int) < j) = false := by simp; omega
      clear hz03 hB
      have hc3 : c.length ≤ 3 := by omega
      obtain ⟨ad, kk, rfl⟩ := hcs.row.form
      go_upto_region 6 with fail
      go_cut [27] (fun s wx => ∃ q : Bool, s = .bool q ∧ (q = true → 0 < c.length) ∧ CS b n k 35000 v w wx (.slice ad c.length kk) c)
      case first =>
        by_cases hp : c.length = 0
        · have hd2 : decide ((0 : Int) < c.length) = false := decide_eq_false (by omega)
          go_wp2_with fail
          go_meet
          exact ⟨false, rfl, by simp, hcs.mono (by omega)⟩
        · have hd2 : decide ((0 : Int) < c.length) = true := decide_eq_true (by omega)
          obtain ⟨k1, f1, f2, f3, f4⟩ := hcs.cur
          have HO := Lib.hid (one_c b n k1 6 6 _ rfl hn (by omega) (by omega) f3)
          have HCS := Lib.hid hcs
          clear f3 f4
          go_wp2_with fail
          refine HO.out.mono ?_; rintro e w2 ⟨q, k2, rfl, g1, g2, g3, g4⟩
          have hcs2 := HCS.out.step f1 f2 g1 g2 g3 g4
          clear HO HCS g4
          go_wp2_with fail
          go_meet
          exact ⟨q, rfl, fun _ => by omega, hcs2.mono (by omega)⟩
      case rest =>
      obtain ⟨q, rfl, hq, hcs2⟩ := hcut
      clear hcs
      go_upto_if 27 with fail
      go_cut [5] (fun o wx => ∃ c2 : List Lt, c2.length ≤ 4 ∧ CS b n k 50000 v w wx o c2)
      case first =>
        cases q with
        | false =>
          go_wp2_with fail
          go_meet
          exact ⟨c, by omega, hcs2.mono (by omega)⟩
        | true =>
          have hpos := hq rfl
          obtain ⟨k2, f1, f2, f3, f4⟩ := hcs2.cur
          have HP := Lib.hid (pick_c b n k2 c.length c.length _ rfl hn (by omega) (by omega) f3)
          have HCS2 := Lib.hid hcs2
          clear f3 f4
          go_wp2_with fail
          refine HP.out.mono ?_; rintro e w3 ⟨x, k3, rfl, hx, g5, g6, g7, g8⟩
          have hx2 : x < c.length := by omega
          have hx3 : (x : Int) < c.length := by omega
          have hcs3 := HCS2.out.step f1 f2 g5 g6 g7 g8
          obtain ⟨zs0, r1, r2, r3⟩ := hcs3.row
          have hz0 : zs0[x]? = some (zs0[x]'(by omega)) := List.getElem?_eq_getElem (by omega)
          generalize zs0[x]'(by omega) = z0 at hz0
          obtain ⟨px, v1, v2⟩ := z0
          obtain ⟨e1, T1, T2⟩ := r3 x _ hz0
          obtain ⟨d0, d1, d2⟩ := cellsC_get zs0 x _ hz0
          obtain ⟨a1, m1, f5⟩ := T1.form
          obtain ⟨a2, m2, f6⟩ := T2.form
          simp only at e1 T1 T2 d0 d1 d2 f5 f6
          generalize hl1 : (c.getD x lt0).2.1 = l1 at *
          generalize hl2 : (c.getD x lt0).2.2 = l2 at *
          generalize hn1 : l1.length = n1 at *
          generalize hn2 : l2.length = n2 at *
          subst f5 f6
          obtain ⟨bb, rfl, q0, q1, q2⟩ : ∃ bb, ad = some ⟨bb, 0, none⟩ ∧ w3.cell? ⟨bb, x * 3, none⟩ = some (.bool px) ∧ w3.cell? ⟨bb, x * 3 + 1, none⟩ = some (.slice a1 n1 m1) ∧ w3.cell? ⟨bb, x * 3 + 2, none⟩ = some (.slice a2 n2 m2) := by
            rcases r1.2 with ⟨_, hn0⟩ | ⟨g, cap, cur, e2, _⟩
            · omega
            · simp only [Value.slice.injEq] at e2
              obtain ⟨rfl, -, rfl⟩ := e2
              refine ⟨g, rfl, ?_, ?_, ?_⟩
              · rw [r2.symm] at r1; rw [r1.cellAt _ (by omega)]; exact d0
              · rw [r2.symm] at r1; rw [r1.cellAt _ (by omega)]; exact d1
              · rw [r2.symm] at r1; rw [r1.cellAt _ (by omega)]; exact d2
          have BX := (Bel.alloc0 w3 (.cells #[.bool px, .slice a1 n1 m1, .slice a2 n2 m2] 91)).drew
          have hcsX := hcs3.bel BX
          have TX1 := T1.bel BX
          have TX2 := T2.bel BX
          have HFX := Lib.hid (fun (w' : World) (hg : Chg b (b+1) (w3.alloc (.cells #[.bool px, .slice a1 n1 m1, .slice a2 n2 m2] 91)).drew w') => (⟨hg.cell (by simp) (.inr (by have := hcs3.big; omega)) (boxc (Bel.drew0 _) 0 _ rfl), hg.cell (by simp) (.inr (by have := hcs3.big; omega)) (boxc (Bel.drew0 _) 1 _ rfl), hg.cell (by simp) (.inr (by have := hcs3.big; omega)) (boxc (Bel.drew0 _) 2 _ rfl)⟩ : (w'.cell? ⟨w3.heap.size, 0, none⟩ = some (.bool px) ∧ w'.cell? ⟨w3.heap.size, 1, none⟩ = some (.slice a1 n1 m1) ∧ w'.cell? ⟨w3.heap.size, 2, none⟩ = some (.slice a2 n2 m2))))
          have hX0 := HFX.out _ (Chg.refl _ _ _)
          obtain ⟨k4, f1', f2', f3', f4'⟩ := hcsX.cur
          have HO := Lib.hid (one_c b n k4 3 3 _ rfl hn (by omega) (by omega) f3')
          have HCX := Lib.hid (And.intro hcsX (And.intro TX1 TX2))
          have HNE : w3.heap.size ≠ bb := by have := (hcs3.row.lt bb rfl).2; omega
          have hb1 : b < w.heap.size + 1 := by omega
          clear e1
          have hc19 : c.length ≤ 19 := by omega
          clear hcsX TX1 TX2 f3' f4' T1 T2 hcs3 r1 r3 d0 d1 d2 hcs2 HCS2 HP hz0 g7 g8
          go_wp2_with fail
          go_region_held_law (fun w' => w'.cell? ⟨w3.heap.size, 0, none⟩ = some (.bool px) ∧ w'.cell? ⟨w3.heap.size, 1, none⟩ = some (.slice a1 n1 m1) ∧ w'.cell? ⟨w3.heap.size, 2, none⟩ = some (.slice a2 n2 m2))
            (first | exact hX7 | exact hX6 | exact hX5 | exact hX0 | fail)
            (first
              | (go_at_call 136; refine HO.out.mono ?_; rintro e w5 ⟨q2, k5, rfl, g5', g6', g7', g8'⟩; obtain ⟨zs, y1, y2, y3, hnx⟩ := (HCX.out.1.step f1' f2' g5' g6' g7' g8').append (px != q2) (HCX.out.2.2.chg g8' hb1) (HCX.out.2.1.chg g8' hb1) (.cells #[.bool (px != q2), .slice a2 n2 m2, .slice a1 n1 m1] 91); have HN := Lib.hid hnx; clear hnx; have hX5 := HFX.out _ g8'; have hX6 := (And.intro ((Bel.alloc0 w5 (.cells #[.bool (px != q2), .slice a2 n2 m2, .slice a1 n1 m1] 91)).at (World.block_lt_of_cell? _ ⟨_, _, none⟩ hX5.1) hX5.1) (And.intro ((Bel.alloc0 w5 (.cells #[.bool (px != q2), .slice a2 n2 m2, .slice a1 n1 m1] 91)).at (World.block_lt_of_cell? _ ⟨_, _, none⟩ hX5.1) hX5.2.1) ((Bel.alloc0 w5 (.cells #[.bool (px != q2), .slice a2 n2 m2, .slice a1 n1 m1] 91)).at (World.block_lt_of_cell? _ ⟨_, _, none⟩ hX5.1) hX5.2.2))))
              | (refine step_append_litO rfl (.tmp 35) (.tmp 46) 47 rfl rfl (w.heap.size + 1) _ zs rfl y1 w5.heap.size (px != q2) (a2, n2, m2) (a1, n1, m1) rfl (news_lit _ _ _ _ _ _ rfl) (by omega) y3 ?_; intro bo ko w6 R6 hg6 hat6; have hcs7 := HN.out w6 _ R6 hg6 hat6; have hX7 := And.intro (hg6.cell hX6.1 (fun e => HNE (Option.some.inj e))) (And.intro (hg6.cell hX6.2.1 (fun e => HNE (Option.some.inj e))) (hg6.cell hX6.2.2 (fun e => HNE (Option.some.inj e)))))
              | fail)
          all_goals
            go_wp2_with fail
            go_meet
            refine ⟨c ++ [(px != q2, l2, l1)], by simp; omega, ?_⟩
            rw [y2] at hcs7; exact hcs7.mono (by omega)
      case rest =>
      obtain ⟨c2, hc2, hcs4⟩ := hcut
      clear hcs2 hq hcj hj hd hc3
      obtain ⟨ad2, kk2, rfl⟩ := hcs4.row.form
      go_upto_region 9 with fail
      go_cut [54] (fun s wx => ∃ q : Bool, s = .bool q ∧ (q = true → 0 < c2.length) ∧ CS b n k 50010 v w wx (.slice ad2 c2.length kk2) c2)
      case first =>
        by_cases hp : c2.length = 0
        · have hd2 : decide ((0 : Int) < c2.length) = false := decide_eq_false (by omega)
          go_wp2_with fail
          go_meet
          exact ⟨false, rfl, by simp, hcs4.mono (by omega)⟩
        · have hd2 : decide ((0 : Int) < c2.length) = true := decide_eq_true (by omega)
          obtain ⟨k1, f1, f2, f3, f4⟩ := hcs4.cur
          have HO := Lib.hid (one_c b n k1 12 12 _ rfl hn (by omega) (by omega) f3)
          have HCS := Lib.hid hcs4
          clear f3 f4
          go_wp2_with fail
          refine HO.out.mono ?_; rintro e w2 ⟨q, k2, rfl, g1, g2, g3, g4⟩
          have hcs2 := HCS.out.step f1 f2 g1 g2 g3 g4
          clear HO HCS g4
          go_wp2_with fail
          go_meet
          exact ⟨q, rfl, fun _ => by omega, hcs2.mono (by omega)⟩
      case rest =>
      obtain ⟨q, rfl, hq, hcs5⟩ := hcut
      clear hcs4
      go_upto_if 54 with fail
      go_cut [] (fun wx => ∃ c3 : List Lt, c3.length = c2.length ∧ CS b n k 50010 v w wx (.slice ad2 c2.length kk2) c3)
      case first =>
        cases q with
        | false =>
          go_wp2_with fail
          go_meet
          exact ⟨c2, rfl, hcs5⟩
        | true =>
          have hpos := hq rfl
          clear hq
          cases c2 with
          | nil => simp at hpos
          | cons x c4 =>
            obtain ⟨bb, rfl⟩ : ∃ bb, ad2 = some ⟨bb, 0, none⟩ := by
              obtain ⟨zs0, r1, r2, r3⟩ := hcs5.row
              rcases r1.2 with ⟨_, hn0⟩ | ⟨g, cap, cur, e2, _⟩
              · simp at r2; omega
              · simp only [Value.slice.injEq] at e2
                exact ⟨g, e2.1⟩
            have hlt := hcs5.row.lt bb rfl
            obtain ⟨u1, u2, q0, q1, q2, ⟨a1, m1, rfl⟩, ⟨a2, m2, rfl⟩, hfz, hrow⟩ := hcs5.row.first
            have hlow := hcs5.low
            have hN : CS b n k 50010 v w _ _ _ := ⟨hrow, hcs5.cur.set (p := ⟨bb, 2, none⟩) (by show w.heap.size ≤ bb; omega) hlow _, by rw [World.cell?_setCell_other (h := by intro hh; simp at hh)]; exact hcs5.box, by rw [World.size_setCell]; exact hcs5.big, hlow⟩
            have HN := Lib.hid hN
            have hf2 := hfz 2
            have hp2 : (0 : Int) < (x :: c4).length := by omega
            clear hrow hN
            go_wp2_with fail
            go_meet
            exact ⟨(x.1, x.2.1, x.2.1) :: c4, by simp, HN.out⟩
      case rest =>
      obtain ⟨c3, hc3, hcs6⟩ := hcut
      have hc4 : c3.length ≤ 4 := by omega
      clear hcs5 hq
      obtain ⟨k1, f1, f2, f3, f4⟩ := hcs6.cur
      have HO := Lib.hid (pick_c b n k1 60 60 _ rfl hn (by omega) (by omega) f3)
      have HCS := Lib.hid hcs6
      clear f3 f4 hcs6
      go_wp2_with fail
      refine HO.out.mono ?_; rintro e w7 ⟨y, k2, rfl, hy, g1, g2, g3, g4⟩
      have hcs7 := HCS.out.step f1 f2 g1 g2 g3 g4
      clear HO HCS g3 g4 hy
      by_cases y0 : y = 0
      · subst y0
        go_wp2_with fail
        go_loopw [5] (fun o wr => ∃ c4 : List Lt, c4.length ≤ 9 ∧ CS b n k (60000 + 10000 * c4.length) v w wr o c4) (fun o _ => 9 - lenV o)
        case atStart => exact ⟨c3, by omega, hcs7.mono (by omega)⟩
        case round =>
          clear hcs7
          obtain ⟨c4, hc9, hcs8⟩ := hrel
          obtain ⟨ad4, kk4, rfl⟩ := hcs8.row.form
          obtain ⟨k3, f1, f2, f3, f4⟩ := hcs8.cur
          have HO := Lib.hid (pick_c b n k3 2 2 _ rfl hn (by omega) (by omega) f3)
          have HCS := Lib.hid hcs8
          clear f3 f4 hcs8
          go_wp2_with fail
          refine HO.out.mono ?_; rintro e w8 ⟨x2, k4, rfl, hx2, g1, g2, g3, g4⟩
          have hcs9 := HCS.out.step f1 f2 g1 g2 g3 g4
          clear HO HCS g3 g4
          have hw8 := IntWalk.i64_in (8 + (x2 : Int)) (by omega)
          by_cases hlt : c4.length < 8 + x2
          · have hd : decide ((c4.length : Int) < 8 + (x2 : Int)) = true := decide_eq_true (by omega)
            obtain ⟨k1, f1, f2, f3, f4⟩ := hcs9.cur
            skip
            have hbxr := hcs9.box
            have HL := Lib.hid (lit_c b n k1 lo hi v ar w8 hn (by omega) hdr hblo f3 (hv.chg f4 (by omega)))
            have HCS := Lib.hid hcs9
            clear hcs9 f3 f4 
            go_wp2_with fail
            refine HL.out.mono ?_; rintro e w2 ⟨p, v1, v2, t1, t2, rfl, T1, T2, k2, g1, g2, g3, g4⟩
            obtain ⟨a1, c1, rfl⟩ := Rl.TF.form T1
            obtain ⟨a2, c2, rfl⟩ := Rl.TF.form T2
            obtain ⟨zs, r1, r2, r3, hnext⟩ := (HCS.out.step f1 f2 g1 g2 g3 g4).append p (HCS.out.lit T1) (HCS.out.lit T2) (.cells #[.bool p, .slice a1 t1.length c1, .slice a2 t2.length c2] 91)
            have HN := Lib.hid hnext
            have HX := Lib.hid (And.intro T1 T2)
            clear hnext T1 T2 HL g3 g4 HCS
            have hzl : zs.length ≤ 20 := by omega
            go_wp2_with (at_builtin; refine wpList_append_own_at _ rfl _ _ 47 rfl (w.heap.size + 1) 91 i0 (.agg #[.bool false, .slice none 0 0, .slice none 0 0]) 3 56 Try.underlying47 hi0 hz0 hz1 hz2 rfl (by decide) _ _ _ rfl r1 _ _ _ [.bool p, .slice a1 t1.length c1, .slice a2 t2.length c2] rfl rfl (news_lit _ _ _ _ _ _ rfl) (one_lit _ _ _ _ _ _ _) (by unfold maxLen; omega) (by omega) r3 ?_; intro o' w4 hown' hgrow _ hat)
            have hcs4 := HN.out w4 o' (row_lit rfl hown') hgrow hat
            obtain ⟨ao, ko, eo⟩ := hcs4.row.form
            go_roundw
            case rel => exact ⟨_, by simp; omega, hcs4.mono (by simp; omega)⟩
            case measure => subst eo; simp [lenV]; omega
          · have hd : decide ((c4.length : Int) < 8 + (x2 : Int)) = false := decide_eq_false (by omega)
            go_wp2_with fail
            go_ret
            exact ⟨_, c4, rfl, hcs9.row.slc, hc9, hcs9.row.short, hcs9.cur.mono (by omega)⟩
      · by_cases y1 : y = 1
        · subst y1
          have hz7 := hcs7.big
          have BA := Bel.alloc0 w7 (.cells #[.int .i64 0] 3)
          have hcs8 := hcs7.bel BA
          have hltR := hcs7.row.lt
          have T0 : TD (w.heap.size + 1) (w7.alloc (.cells #[.int .i64 0] 3)) (.slice ad2 c2.length kk2) (.slice (some ⟨w7.heap.size, 0, none⟩) 1 1) [0] := ⟨⟨w7.heap.size, hz7, by simp, fun e => by have := (hltR _ e).2; omega, SlI.arr (xs := [0]) rfl rfl (by simp) (Nat.le_refl _) (Nat.lt_succ_self _)⟩, by simp⟩
          have T1 : TD (w.heap.size + 1) (w7.alloc (.cells #[.int .i64 0] 3)) (.slice ad2 c2.length kk2) (.slice none 0 0) [] := ⟨⟨w7.heap.size, hz7, by simp, fun e => by have := (hltR _ e).2; omega, SlI.nil _ _ _⟩, by simp⟩
          obtain ⟨zs, r1, r2, r3, hnext⟩ := hcs8.append false T0 T1 (.cells #[.bool false, .slice (some ⟨w7.heap.size, 0, none⟩) 1 1, .slice none 0 0] 91)
          have HN := Lib.hid hnext
          clear hnext T0 T1 hcs8 hcs7 hltR
          have hzl : zs.length ≤ 20 := by omega
          go_wp2_with (at_builtin; refine wpList_append_own_at _ rfl _ _ 47 rfl (w.heap.size + 1) 91 i0 (.agg #[.bool false, .slice none 0 0, .slice none 0 0]) 3 56 Try.underlying47 hi0 hz0 hz1 hz2 rfl (by decide) _ _ _ rfl r1 _ _ _ [.bool false, .slice (some ⟨w7.heap.size, 0, none⟩) 1 1, .slice none 0 0] rfl rfl (news_lit _ _ _ _ _ _ (by simp)) (one_lit _ _ _ _ _ _ _) (by unfold maxLen; omega) (by omega) r3 ?_; intro o' w4 hown' hgrow _ hat)
          have hcs9 := HN.out w4 o' (row_lit rfl hown') hgrow hat
          go_ret
          exact ⟨_, c3 ++ [(false, [0], [])], rfl, hcs9.row.slc, by simp; omega, hcs9.row.short, hcs9.cur.mono (by omega)⟩
        · have y0' : ¬ ((y : Int) = 0) := by omega
          have y1' : ¬ ((y : Int) = 1) := by omega
          go_wp2_with fail
          go_ret
          exact ⟨_, c3, rfl, hcs7.row.slc, by omega, hcs7.row.short, hcs7.cur.mono (by omega)⟩
end Go.Proofs.Yteegjnobmbcjiaa
end
section
namespace Go.Proofs.Yteegjnobmbcjiaa
open Go.RowKit
theorem conv1 (W : World) (m : Nat) (n : Int) (hm : m = W.heap.size) :
    (convert 45 9 (.slice (some ⟨m, 0, none⟩) 1 1)).run Try.prog (W.alloc (.cells #[.int .u8 n] 5)) = .ok (.string ⟨#[UInt8.ofNat n.toNat]⟩) (W.alloc (.cells #[.int .u8 n] 5)) := by
  subst hm
  rw [run_convert_bytes_string _ 45 9 5 _ _ _ Try.underlying45 Try.underlying5 Try.underlying9]
  rw [run_bytesToString _ _ 1 1 [n] ?_]
  · rfl
  · simp [loadCells, go_sem]
end Go.Proofs.Yteegjnobmbcjiaa
end
section
/- TermText: both functions. -/
namespace Go.Proofs.Yteegjnobmbcjiaa
open Go.RowKit

def letter (x : Int) : UInt8 := if x < 0 then (65 + (-1 - x)).toNat.toUInt8 else (97 + x).toNat.toUInt8
def bytesS (l : List UInt8) : Value := .string ⟨l.toArray⟩

theorem cut12 : ∀ k : Nat, k < 12 → (ByteArray.mk #[65, 66, 67, 68, 69, 70, 71, 72, 73, 74, 75, 76]).extract (-1 - (-1 - (k : Int))).toNat (-(-1 - (k : Int))).toNat = ⟨#[letter (-1 - (k : Int))]⟩ := by decide +kernel
theorem cut10 : ∀ k : Nat, k < 10 → (ByteArray.mk #[97, 98, 99, 100, 101, 102, 103, 104, 105, 106]).extract k (k + 1) = ⟨#[letter (k : Int)]⟩ := by decide +kernel

def sepB (k : Nat) : UInt8 := if k = 0 then 40 else 44
def accT (g : Nat → List UInt8) (l : List Nat) : Nat → List UInt8
  | 0 => []
  | k + 1 => accT g l k ++ (sepB k :: g (l.getD k 0))
def textF (ar t : List Int) : Nat → Nat → List UInt8
  | 0, _ => []
  | f + 1, i => letter (t.getD i 0) :: (accT (textF ar t f) (argsOf ar t i) (argsOf ar t i).length ++ (if (argsOf ar t i).length = 0 then [] else [41]))
def textAt (ar t : List Int) (i : Nat) : List UInt8 := textF ar t (t.length - i) i

theorem accT_congr (g g' : Nat → List UInt8) (l : List Nat) (h : ∀ a ∈ l, g a = g' a) : ∀ k, k ≤ l.length → accT g l k = accT g' l k := by
  intro k
  induction k with
  | zero => intro _; rfl
  | succ k ih =>
    intro hk
    rw [accT, accT, ih (by omega), h (l.getD k 0) (by simp [List.getD, show k < l.length from by omega])]
theorem textF_fuel (ar t : List Int) (h : okTerm ar t = true) : ∀ (n i : Nat), i < t.length → t.length - i ≤ n → ∀ f, t.length - i ≤ f → textF ar t f i = textAt ar t i := by
  intro n
  induction n with
  | zero => intro i hi hn; omega
  | succ n ih =>
    intro i hi hn f hf
    obtain ⟨f, rfl⟩ : ∃ f', f = f' + 1 := ⟨f - 1, by omega⟩
    unfold textAt
    obtain ⟨g, hg⟩ : ∃ g, t.length - i = g + 1 := ⟨t.length - i - 1, by omega⟩
    rw [hg, textF, textF]
    congr 2
    refine accT_congr _ _ _ (fun a ha => ?_) _ (Nat.le_refl _)
    have hb := argsOf_bd ar t h i hi a ha
    rw [ih a hb.2 (by omega) f (by omega), ih a hb.2 (by omega) g (by omega)]
theorem textAt_eq (ar t : List Int) (h : okTerm ar t = true) (i : Nat) (hi : i < t.length) :
    textAt ar t i = letter (t.getD i 0) :: (accT (textAt ar t) (argsOf ar t i) (argsOf ar t i).length ++ (if (argsOf ar t i).length = 0 then [] else [41])) := by
  conv => lhs; unfold textAt
  obtain ⟨g, hg⟩ : ∃ g, t.length - i = g + 1 := ⟨t.length - i - 1, by omega⟩
  rw [hg, textF]
  congr 2
  refine accT_congr _ _ _ (fun a ha => ?_) _ (Nat.le_refl _)
  have hb := argsOf_bd ar t h i hi a ha
  exact textF_fuel ar t h t.length a hb.2 (by omega) g (by omega)

theorem accT_len (g : Nat → List UInt8) (l : List Nat) : ∀ k, k ≤ l.length → (accT g l k).length = ((l.take k).map fun a => (g a).length + 1).sum := by
  intro k
  induction k with
  | zero => intro _; rfl
  | succ k ih =>
    intro hk
    rw [accT, List.length_append, ih (by omega), List.take_succ_eq_append_getElem (by omega), List.map_append, List.sum_append]
    simp [List.getD, show k < l.length from by omega]
theorem sum_take_le (l : List Nat) (k : Nat) : (l.take k).sum ≤ l.sum := by
  conv => rhs; rw [← List.take_append_drop k l]
  rw [List.sum_append]; omega
theorem args_sum (ar t : List Int) (g : Nat → List UInt8) : ∀ (k p e : Nat), endGo ar (t.drop p) k p = some e → (∀ a ∈ argsGo ar t k p, ∀ q, endOf ar t a = some q → (g a).length + 1 ≤ 3 * (q - a)) → ((argsGo ar t k p).map fun a => (g a).length + 1).sum ≤ 3 * (e - p) := by
  intro k
  induction k with
  | zero => intro p e _ _; simp [argsGo]
  | succ k ih =>
    intro p e h hg
    obtain ⟨q, hq, hr, hpq, hqe⟩ := ends_step ar t p k e h
    rw [argsGo_succ hq] at hg ⊢
    have h1 := hg p (by simp) q hq
    have h2 := ih q e hr (fun a ha => hg a (by simp [ha]))
    simp only [List.map_cons, List.sum_cons]
    omega
theorem textAt_len (ar t : List Int) (h : okTerm ar t = true) : ∀ (n i : Nat), t.length - i ≤ n → i < t.length → ∀ q, endOf ar t i = some q → (textAt ar t i).length + 1 ≤ 3 * (q - i) := by
  intro n
  induction n with
  | zero => intro i hn hi; omega
  | succ n ih =>
    intro i hn hi q hq
    obtain ⟨e, h1, h2⟩ := good_args ar t h i hi
    have hs := good_sym ar t h i hi
    have he : e = q := by
      unfold endOf at hq
      rw [drop_cons t i hi, endGo_cons, if_pos hs, Nat.zero_add, h1] at hq
      simpa using hq
    subst he
    have hsum := args_sum ar t (textAt ar t) _ _ _ h1 (fun a ha q hq => ih a (by have := argsOf_bd ar t h i hi a ha; omega) (argsOf_bd ar t h i hi a ha).2 q hq)
    have hge := endGo_ge _ _ _ _ _ h1
    rw [textAt_eq ar t h i hi]
    simp only [List.length_cons, List.length_append]
    rw [accT_len _ _ _ (Nat.le_refl _), List.take_length]
    have e2 : argsOf ar t i = argsGo ar t (arOf ar (t.getD i 0)) (i + 1) := rfl
    rw [← e2] at hsum
    split <;> simp <;> omega
theorem textAt_le (ar t : List Int) (h : okTerm ar t = true) (i : Nat) (hi : i < t.length) : (textAt ar t i).length ≤ 120 := by
  obtain ⟨e, he, h1, h2⟩ := good_end ar t h i hi
  have := textAt_len ar t h t.length i (by omega) hi e he
  have := ((okTerm_iff ar t).1 h).2.1
  omega
theorem accT_le (g : Nat → List UInt8) (l : List Nat) (k n : Nat) (hk : k ≤ l.length) (h : (accT g l l.length).length ≤ n) : (accT g l k).length ≤ n := by
  rw [accT_len g l k hk]
  rw [accT_len g l _ (Nat.le_refl _), List.take_length] at h
  refine Nat.le_trans ?_ h
  rw [List.map_take]
  exact sum_take_le _ _
theorem acc_le (ar t : List Int) (h : okTerm ar t = true) (i : Nat) (hi : i < t.length) (k : Nat) (hk : k ≤ (argsOf ar t i).length) : (accT (textAt ar t) (argsOf ar t i) k).length ≤ 119 := by
  refine accT_le _ _ _ _ hk ?_
  have := textAt_le ar t h i hi
  rw [textAt_eq ar t h i hi] at this
  simp only [List.length_cons, List.length_append] at this
  omega

/-- A text. -/
def RetT (w : World) (l : List UInt8) (e : Ending) (w' : World) : Prop := ∃ A : ByteArray, e = .returned (.string A) ∧ A.data.toList = l ∧ Bel w w'
theorem ba_app (A B : ByteArray) : (A ++ B).data.toList = A.data.toList ++ B.data.toList := by rw [ByteArray.data_append, Array.toList_append]
theorem ba_size (A : ByteArray) : A.size = A.data.toList.length := by rw [Array.length_toList]; rfl
end Go.Proofs.Yteegjnobmbcjiaa
end
section
/- The draws: a spoilt text. -/
namespace Go.Proofs.Yteegjnobmbcjiaa
open Go.RowKit

def RetSP (b n k d m : Nat) (w : World) (e : Ending) (w' : World) : Prop :=
  ∃ (s : ByteArray) (k' : Nat), e = .returned (.string s) ∧ s.size ≤ m ∧ k ≤ k' ∧ k' ≤ k + d ∧ Cur b n k' w' ∧ Chg b (b+1) w w'

end Go.Proofs.Yteegjnobmbcjiaa
end
section
/- Match: the reference's. -/
namespace Go.Proofs.Yteegjnobmbcjiaa
open Go.RowKit Go.Maps

/-- The first k have been taken back where they bind a variable to itself. -/
def mixF (F : Nat → List Int) (k : Nat) : Nat → List Int := fun v => if v < k then stayF F v else F v
theorem mixF_zero (F : Nat → List Int) : mixF F 0 = F := by funext v; simp [mixF]
theorem mixF_succ (F : Nat → List Int) (k : Nat) : upd (mixF F k) k (stayF F k) = mixF F (k+1) := by
  funext v
  unfold upd mixF
  by_cases e : v = k
  · subst e; simp
  · by_cases h : v < k
    · rw [if_neg e, if_pos h, if_pos (by omega)]
    · rw [if_neg e, if_neg h, if_neg (by omega)]
theorem mixF_at (F : Nat → List Int) (k : Nat) : mixF F k k = F k := by simp [mixF]
theorem rawL_mix (F : Nat → List Int) : rawL (mixF F 12) = substL F := by
  unfold rawL substL
  apply List.map_congr_left
  intro v hv
  rw [List.mem_range] at hv
  simp [mixF, hv]
theorem made12 (w : World) : (Instr.makeSlice 56 (.int .i64 12) (.int .i64 12)).run Try.prog w = .ok (.slice (some ⟨w.heap.size, 0, none⟩) 12 12) (w.alloc (.cells (madeCells #[.slice none 0 0] 12) 22)) :=
  Go.run_make_row' 56 22 (.slice none 0 0) 24 Try.underlying56 Try.info22 rfl .i64 .i64 12 (by omega) (by omega) w
theorem rep12 (w : World) : (w.alloc (.cells (madeCells #[.slice none 0 0] 12) 22)).ownsRow w.heap.size 22 1 (.slice (some ⟨w.heap.size, 0, none⟩) 12 12) 12 (List.replicate 12 (Value.slice none 0 0)) := by
  have h := World.ownsRow_lit (e := 22) (base := w.heap.size) (size := 1) w (madeCells #[.slice none 0 0] 12) 12 (Nat.le_refl _) (by unfold maxLen; omega) (by rw [← Array.length_toList, toList_madeCells_one]; simp)
  rw [toList_madeCells_one] at h
  exact h
theorem arr12 {w w' : World} {base B : Nat} (hb : base ≤ w.heap.size) (hB : B = w.heap.size) (hw : Bel (w.alloc (.cells (madeCells #[.slice none 0 0] 12) 22)) w') :
    Arr base B (fun _ => 2) w' (List.replicate 12 (Value.slice none 0 0)) (fun _ => []) := by
  subst hB
  exact Arr.fresh ((show OwnT base (fun _ => 2) 2 22 (w.alloc (.cells (madeCells #[.slice none 0 0] 12) 22)) (.slice (some ⟨w.heap.size, 0, none⟩) 12 12) (List.replicate 12 (Value.slice none 0 0)) from ⟨by simpa using row_mono (rep12 w) hb, fun _ _ => rfl⟩).bel hw)

end Go.Proofs.Yteegjnobmbcjiaa
end
section
/- The least number of a loop's relation, as its measure. -/
namespace Go.Proofs.Yteegjnobmbcjiaa

theorem least_ex (P : Nat → Prop) : ∀ k, P k → ∃ j, P j ∧ ∀ i, P i → j ≤ i := by
  intro k
  induction k using Nat.strongRecOn with
  | ind k ih =>
    intro h
    rcases Classical.em (∃ i, i < k ∧ P i) with ⟨i, hi, hp⟩ | hn
    · exact ih i hi hp
    · refine ⟨k, h, fun i hp => ?_⟩
      rcases Nat.lt_or_ge i k with h1 | h1
      · exact absurd ⟨i, h1, hp⟩ hn
      · exact h1
noncomputable def leastOf (P : Nat → Prop) : Nat := by
  classical exact if h : ∃ k, P k then Classical.choose (least_ex P h.choose h.choose_spec) else 0
theorem leastOf_spec {P : Nat → Prop} (h : ∃ k, P k) : P (leastOf P) ∧ ∀ i, P i → leastOf P ≤ i := by
  unfold leastOf
  rw [dif_pos h]
  exact Classical.choose_spec (least_ex P h.choose h.choose_spec)
theorem least_at {P : Nat → Prop} (h : ∃ k, P k) : ∃ k, P k ∧ leastOf P = k := ⟨_, (leastOf_spec h).1, rfl⟩
theorem least_lt {P Q : Nat → Prop} {j k : Nat} (hq : Q j) (hj : j < k) (hk : leastOf P = k) : leastOf Q < leastOf P := by
  have := (leastOf_spec ⟨j, hq⟩).2 j hq
  omega
end Go.Proofs.Yteegjnobmbcjiaa
end
section
/- The draws: a substitution. -/
namespace Go.Proofs.Yteegjnobmbcjiaa
open Go.RowKit Go.Maps

theorem SlS.cut1 {lo hi : Nat} {w : World} {b off n c : Nat} {xss : List (List Int)} (h : SlS lo hi w (.slice (some ⟨b, off, none⟩) n c) xss) (hp : 0 < xss.length) :
    SlS lo hi w (.slice (some ⟨b, off + 1, none⟩) (n - 1) (c - 1)) (xss.drop 1) := by
  obtain ⟨ad, cap, e, hc, hm, hr⟩ := h
  simp only [Value.slice.injEq] at e
  obtain ⟨rfl, rfl, rfl⟩ := e
  have hdl : (xss.drop 1).length = xss.length - 1 := by simp
  refine ⟨some ⟨b, off + 1, none⟩, c - 1, by rw [hdl], by rw [hdl]; omega, ⟨by have := hm.1; omega, fun h => by simp at h⟩, fun hp2 => ?_⟩
  obtain ⟨b', off', e2, a1, a2, a3⟩ := hr hp
  simp only [Option.some.injEq, Addr.mk.injEq, and_true] at e2
  obtain ⟨rfl, rfl⟩ := e2
  refine ⟨b, off + 1, rfl, a1, a2, fun j hj => ?_⟩
  simp at hj
  obtain ⟨u, h1, h2⟩ := a3 (j + 1) (by omega)
  refine ⟨u, by rw [show off + 1 + j = off + (j + 1) by omega]; exact h1, ?_⟩
  rw [show (xss.drop 1).getD j [] = xss.getD (j+1) [] from by simp only [List.getD, List.getElem?_drop]; rw [Nat.add_comm 1 j]]
  exact h2
theorem Arr.cur {base B b : Nat} {tag : Nat → Nat} {w w' : World} {us : List Value} {F : Nat → List Int} (h : Arr base B tag w us F) (hb : b < base) (k : Chg b (b+1) w w') : Arr base B tag w' us F :=
  h.all fun _ _ _ _ ho => ho.chgMap hb k
theorem tag_newC {base tag e w w1 v xs b} (t : Nat) (hown : w1.ownsRow w.heap.size e 1 v xs.length xs) (hb : Chg b (b+1) w w1) (hbb : b < base) (hbase : base ≤ w.heap.size) :
    ∃ tag', OwnT base tag' t e w1 v xs ∧ ∀ t' e' u zs, OwnT base tag t' e' w u zs → OwnT base tag' t' e' w1 u zs := by
  refine ⟨fun g => if w.heap.size ≤ g then t else tag g, ⟨row_mono hown hbase, fun g hg => ?_⟩, fun t' e' u zs ho => ⟨(ho.chgMap hbb hb).1, fun g hg => ?_⟩⟩
  · have := own_base hown g hg
    simp [this]
  · have := ho.lt hg
    show (if w.heap.size ≤ g then t else tag g) = t'
    rw [if_neg (by omega)]; exact ho.2 g hg
theorem arr_row {base B b : Nat} {tag : Nat → Nat} {w w5 w6 : World} {us : List Value} {F : Nat → List Int} {v : Value} {t : List Int} (h : Arr base B tag w us F) (hbb : b < base) (k5 : Chg b (b+1) w w5) (k6 : Chg b (b+1) w5 w6) (hbase : base ≤ w5.heap.size) (hrow : w6.ownsRow w5.heap.size 3 1 v t.length (t.map (Value.int .i64))) (y : Nat) (hy : y < 12) :
    ∃ tag6, OwnT base tag6 (10 + y) 3 w6 v (t.map (Value.int .i64)) ∧ Arr base B tag6 w6 us F ∧ ∃ a c, w6.cell? ⟨B, y, none⟩ = some (.slice a (F y).length c) ∧ w6.frozen? ⟨B, y, none⟩ = false := by
  obtain ⟨tag6, hX, hT⟩ := tag_newC (tag := tag) (base := base) (t := 10 + y) (xs := t.map (Value.int .i64)) (w := w5) (w1 := w6) (by simpa using hrow) k6 hbb hbase
  have hA := (h.cur hbb k5).all hT
  obtain ⟨a, c, h1, -, h2, -⟩ := hA.cell y hy
  exact ⟨tag6, hX, hA, a, c, h1, h2⟩
/-- A substitution of the draws: lists of new blocks. -/
def RetSD (b n k d : Nat) (w : World) (e : Ending) (w' : World) : Prop :=
  ∃ (ad : Option Addr) (c : Nat) (l : List (List Int)) (k' : Nat), e = .returned (.slice ad l.length c) ∧ SlS w.heap.size w'.heap.size w' (.slice ad l.length c) l ∧ l.length ≤ 12 ∧ (∀ j, (l.getD j []).length ≤ 1000) ∧ k ≤ k' ∧ k' ≤ k + d ∧ Cur b n k' w' ∧ Chg b (b+1) w w'

set_option maxRecDepth 100000 in
set_option maxHeartbeats 1000000 in
theorem subst_d (b n k lo hi : Nat) (v : Value) (ar : List Int) (w : World) (hn : n ≤ 1099511627776) (hk : k ≤ 1000000000) (hdr : drawn ar) (hblo : b < lo) (hhi : hi ≤ w.heap.size) (hc : Cur b n k w) (hv : SlI lo hi w v ar) :
    Calls Try.prog 87 #[.pointer (some ⟨b, 0, none⟩), .agg #[v]] w (RetSD b n k 20000 w) := by
  have hbl := hc.lt
  have hmk := made12
  have hB1 := Bel.alloc0 w (.cells #[v] 30)
  have hs1 : (w.alloc (.cells #[v] 30)).heap.size = w.heap.size + 1 := by simp
  have hbx1 : (w.alloc (.cells #[v] 30)).cell? ⟨w.heap.size, 0, none⟩ = some v := by rw [World.cell?_alloc_new w]; rfl
  have hc1 := hc.below hB1
  have hv1 := hv.below hB1
  have hg1 := Chg.of_bel (lo := b) (hi := b + 1) hB1
  go_enter Try.func87, Try.ntmps87
  go_wp2_with fail
  have hB2 := Bel.alloc0 (w.alloc (.cells #[v] 30)) (.cells (madeCells #[.slice none 0 0] 12) 22)
  have hA2 : Arr (w.heap.size + 1) (w.heap.size + 1) (fun _ => 2) ((w.alloc (.cells #[v] 30)).alloc (.cells (madeCells #[.slice none 0 0] 12) 22)) (List.replicate 12 (Value.slice none 0 0)) (fun _ => []) := arr12 (by simp) (by simp) (Bel.rfl' _)
  have hbx2 := hB2.at (by simp) hbx1
  have hc2 := hc1.below hB2
  have hv2 := hv1.below hB2
  have hg2 := hg1.trans (Chg.of_bel (lo := b) (hi := b + 1) hB2)
  clear hB1 hB2 hbx1 hc1 hv1 hg1
  refine (pick_c b n k 5 5 _ rfl hn (by omega) (by omega) hc2).mono ?_; rintro e w1 ⟨x, k1, rfl, hx, hk1, hk2, hc3, hg3⟩
  have hA3 := hA2.cur (by omega) hg3
  have hbx3 := hg3.cell (by simp; omega) (by omega) hbx2
  have hv3 := hv2.chg hg3 (by omega)
  have hg4 := hg2.trans hg3
  clear hA2 hbx2 hc2 hv2 hg2 hg3
  go_wp2_with fail
  go_loopw [6] (fun i wr => ∃ (j k9 : Nat) (tag : Nat → Nat) (us : List Value) (F : Nat → List Int), j ≤ 4 ∧ i = .int .i64 j ∧ Arr (w.heap.size + 1) (w.heap.size + 1) tag wr us F ∧ (∀ v, (F v).length ≤ 1000) ∧ k ≤ k9 ∧ k9 + 4500 * j ≤ k + 18010 ∧ Cur b n k9 wr ∧ wr.cell? ⟨w.heap.size, 0, none⟩ = some v ∧ SlI lo hi wr v ar ∧ Chg b (b+1) w wr) (fun i _ => (intOf i).toNat)
  case atStart => exact ⟨x, k1, _, _, _, by omega, rfl, hA3, fun _ => by simp, by omega, by omega, hc3, hbx3, hv3, hg4⟩
  case round =>
    clear hA3 hbx3 hc3 hv3 hg4
    obtain ⟨j, k9, tag, us, F, hj, rfl, hA, hF, hk9, hk8, hcr, hbr, hvr, hgr⟩ := hrel
    by_cases hlt : 0 < j
    · have hw13 := IntWalk.i64_in ((j : Int) - 1) (by omega)
      have hszr : w.heap.size + 1 < wr.heap.size := hA.2.1.lt rfl
      have HW13 := Lib.hid (IntWalk.i64_in ((j : Int) - 1) (by omega))
      have HTm := Lib.hid (fun (w5 : World) (q k5 : Nat) (hq : q < 2 + (1 - 2)) (hk5 : k5 ≤ k9 + 4) (hc5 : Cur b n k5 w5) (hg5 : Chg b (b+1) wr w5) => term_z b n (1 + q) 4 k5 lo hi (1 + (q : Int)) 4 v ar w5 (by omega) rfl hn (by omega) (by omega) hdr hblo (by omega) (by omega) hc5 (hvr.chg hg5 (by omega)))
      have HAr := Lib.hid (fun (w5 w6 : World) (y : Nat) (v : Value) (t : List Int) (k5 : Chg b (b+1) wr w5) (k6 : Chg b (b+1) w5 w6) (hrow : w6.ownsRow w5.heap.size 3 1 v t.length (t.map (Value.int .i64))) (hy : y < 12) => arr_row hA (by omega) k5 k6 (by have := k5.size; omega) hrow y hy)
      go_wp2_with fail
      go_region_held3 (fun w' => w'.cell? ⟨w.heap.size, 0, none⟩ = some v)
        (first | exact hbr | exact hb4 | exact hb5 | exact hb6 | exact hb7 | fail)
        (first
          | (go_at_call 134; refine (pick_c b n k9 _ 4 _ (by decide) hn (by omega) (by omega) (hcr.below (Bel.drew0 wr))).mono ?_; rintro e w4 ⟨y, k4, rfl, hy, hk41, hk42, hc4, hg4⟩; have hyl : (y : Int) < 12 := (by omega); replace hg4 := (Chg.of_bel (lo := b) (hi := b+1) (Bel.drew0 wr)).trans hg4; have hb4 := hg4.cell (by omega) (by omega) hbr)
          | (go_at_call 134; refine (pick_c b n k4 _ 2 w4 (by decide) hn (by omega) (by omega) hc4).mono ?_; rintro e w5 ⟨q, k5, rfl, hq, hk51, hk52, hc5, hg5⟩; replace hg5 := hg4.trans hg5; have hb5 := hg5.cell (by omega) (by omega) hbr; have hw21 := IntWalk.i64_in (1 + (q : Int)) (by omega))
          | (go_at_call 135; clear hw21; refine (HTm.out w5 q k5 hq (by omega) hc5 hg5).mono ?_; rintro e w6 ⟨a6, m6, c6, t6, k6, rfl, hrow6, ht1, ht2, -, hk61, hk62, hc6, hg6⟩; have hm6 := row_len hrow6; subst hm6; have hb6 := (hg5.trans hg6).cell (by omega) (by omega) hbr; obtain ⟨tag6, hX6, hA6, au, cu, hcu, hfu⟩ := HAr.out w5 w6 y _ t6 hg5 hg6 hrow6 (by omega); have hb7 := (World.cell?_setCell_other w6 ⟨w.heap.size + 1, y, none⟩ ⟨w.heap.size, 0, none⟩ (.slice a6 t6.length c6) (fun h => (Nat.succ_ne_self w.heap.size) (congrArg Addr.block h))).trans hb6)
          | fail)
      have hstp := hA6.set y (by omega) (fun _ _ _ _ h => h) hX6
      have htl := tl_le (1 + q) (by omega)
      have hF6 : ∀ g, (upd F y t6 g).length ≤ 1000 := fun g => by unfold upd; split; omega; exact hF g
      have hgAll := hg5.trans hg6
      have hset := Chg.set (lo := w.heap.size + 1) (hi := w.heap.size + 2) (p := ⟨w.heap.size + 1, y, none⟩) w6 (by simp) (by simp) (.slice a6 t6.length c6)
      have hcF := hc6.chg hset (by omega)
      have hvF := (hvr.chg hgAll (by omega)).set (p := ⟨w.heap.size + 1, y, none⟩) (.inr (by simp; omega)) (.slice a6 t6.length c6)
      have hgF := (hgr.trans hgAll).news hset (by omega)
      have hw13 := HW13.out
      clear hA hA6 hX6 hrow6 hcu hfu hb4 hb5 hb6 HTm HAr hc4 hc5 hc6 hg4 hg5 hg6
      go_wp2_with fail
      clear hw13
      exact ⟨⟨j - 1, k6, tag6, _, _, by omega, by go_num, hstp, hF6, by omega, by omega, hcF, hb7, hvF, hgF⟩, by simp [intOf]; omega⟩
    · obtain rfl : j = 0 := by omega
      have HA := Lib.hid hA
      clear hA
      go_wp2_with fail
      refine (one_c b n k9 _ 40 _ rfl hn (by omega) (by omega) hcr).mono ?_; rintro e w2 ⟨q, k2, rfl, hk21, hk22, hc2, hg2⟩
      have hA2 := HA.out.cur (by omega) hg2
      have hS2 : SlS (w.heap.size + 1) w2.heap.size w2 (.slice (some ⟨w.heap.size + 1, 0, none⟩) 12 12) (rawL F) := (OwnS.of_tag hA2.2.1 hA2.2.2 (by omega)).sl
      have hrl := rawL_len F
      have hFr : ∀ j, ((rawL F).getD j []).length ≤ 1000 := by
        intro j
        by_cases hj : j < 12
        · rw [rawL_get F j hj]; exact hF j
        · simp [List.getD, List.getElem?_eq_none (show (rawL F).length ≤ j by omega)]
      have hgW := hgr.trans hg2
      cases q with
      | true =>
        go_wp2_with fail
        go_ret
        refine ⟨some ⟨w.heap.size + 1, 1, none⟩, 11, (rawL F).drop 1, k2, by rw [List.length_drop, hrl]; rfl, ?_, by rw [List.length_drop, hrl]; omega, fun j => ?_, by omega, by omega, hc2, hgW⟩
        · have := (hS2.cut1 (by omega)).mono (show w.heap.size ≤ w.heap.size + 1 by omega) (Nat.le_refl _)
          rw [List.length_drop, hrl]
          exact this
        · rw [show ((rawL F).drop 1).getD j [] = (rawL F).getD (j+1) [] from by simp only [List.getD, List.getElem?_drop]; rw [Nat.add_comm 1 j]]
          exact hFr (j+1)
      | false =>
        go_wp2_with fail
        go_ret
        exact ⟨some ⟨w.heap.size + 1, 0, none⟩, 12, rawL F, k2, by rw [hrl]; rfl, by rw [hrl]; exact hS2.mono (by omega) (Nat.le_refl _), by omega, hFr, by omega, by omega, hc2, hgW⟩
end Go.Proofs.Yteegjnobmbcjiaa
end
section
/- The draws of chapter 2. -/
namespace Go.Proofs.Yteegjnobmbcjiaa
open Go.RowKit

theorem SlS.set {lo hi w v xss} (h : SlS lo hi w v xss) {p : Addr} (hp : p.block < lo ∨ hi ≤ p.block) (u : Value) : SlS lo hi (w.setCell p u) v xss :=
  h.same fun b h1 h2 _ => Below.heap_setCell w p u b (by omega)
def RetDSS (w : World) (e : Ending) (w' : World) : Prop :=
  ∃ (sv lv mv : Value) (ar : List Int) (l m : List (List Int)), e = .returned (.tuple #[.agg #[sv], lv, mv]) ∧ drawn ar ∧ SlI w.heap.size w'.heap.size w' sv ar ∧ SlS w.heap.size w'.heap.size w' lv l ∧ l.length ≤ 12 ∧ (∀ j, (l.getD j []).length ≤ 1000) ∧ SlS w.heap.size w'.heap.size w' mv m ∧ m.length ≤ 12 ∧ (∀ j, (m.getD j []).length ≤ 1000) ∧ Bel w w'
def RetDSI (w : World) (e : Ending) (w' : World) : Prop :=
  ∃ (sv lv tv : Value) (ar : List Int) (l : List (List Int)) (t : List Int), e = .returned (.tuple #[.agg #[sv], lv, tv]) ∧ drawn ar ∧ SlI w.heap.size w'.heap.size w' sv ar ∧ SlS w.heap.size w'.heap.size w' lv l ∧ l.length ≤ 12 ∧ (∀ j, (l.getD j []).length ≤ 1000) ∧ SlI w.heap.size w'.heap.size w' tv t ∧ t.length ≤ 1000 ∧ Bel w w'

set_option maxRecDepth 100000 in
set_option maxHeartbeats 1000000 in
theorem drawApply_c (n : Nat) (v : Value) (w : World) (hn : n ≤ 1048576) (hv : SlB w.heap.size w v n) :
    Calls Try.prog 44 #[v] w (RetDSI w) := by
  obtain ⟨ad, cap, rfl, hcap, hr⟩ := hv
  have hv : SlB w.heap.size w (.slice ad n cap) n := ⟨ad, cap, rfl, hcap, hr⟩
  have hB1 := Bel.alloc0 w (.cells #[.slice none 0 0] 30)
  have hs1 : (w.alloc (.cells #[.slice none 0 0] 30)).heap.size = w.heap.size + 1 := by simp
  have hC := Cur.new (T := 106) (w := w.alloc (.cells #[.slice none 0 0] 30)) (v := .slice ad n cap) (n := n) (by
    obtain ⟨ad', cap', e, hc, hr'⟩ := hv.chg (Chg.of_bel (lo := w.heap.size) (hi := w.heap.size) hB1) (Nat.le_refl _)
    exact ⟨ad', cap', e, hc, fun hp => by obtain ⟨b, off, e1, e2, e3⟩ := hr' hp; exact ⟨b, off, e1, by omega, e3⟩⟩)
  rw [hs1] at hC
  have hB2 := hB1.step (Bel.alloc0 (w.alloc (.cells #[.slice none 0 0] 30)) (.cells #[.slice ad n cap, .int .i64 0, .int .u64 0] 106))
  have hbx : ((w.alloc (.cells #[.slice none 0 0] 30)).alloc (.cells #[.slice ad n cap, .int .i64 0, .int .u64 0] 106)).cell? ⟨w.heap.size, 0, none⟩ = some (.slice none 0 0) := (Bel.alloc0 _ _).at (by simp) (by rw [World.cell?_alloc_new w]; rfl)
  have hfx : ((w.alloc (.cells #[.slice none 0 0] 30)).alloc (.cells #[.slice ad n cap, .int .i64 0, .int .u64 0] 106)).frozen? ⟨w.heap.size, 0, none⟩ = false := by simp [go_sem]; try rfl
  have HS := Lib.hid (sign_c (w.heap.size + 1) n 0 _ (by omega) (by omega) hC)
  go_enter Try.func44, Try.ntmps44
  go_wp2_with fail
  refine HS.out.mono ?_; rintro e w1 ⟨sv, ar, k1, rfl, hdr, hsv, hk1, hk2, hc1, hg1⟩
  obtain ⟨sa, sc, rfl⟩ := hsv.form
  have hW0 : ((w.alloc (.cells #[.slice none 0 0] 30)).alloc (.cells #[.slice ad n cap, .int .i64 0, .int .u64 0] 106)).heap.size = w.heap.size + 1 + 1 := by simp
  generalize ((w.alloc (.cells #[.slice none 0 0] 30)).alloc (.cells #[.slice ad n cap, .int .i64 0, .int .u64 0] 106)) = W0 at *
  have hsz1 : W0.heap.size ≤ w1.heap.size := hg1.size
  rw [hW0] at hsv
  have hbx1 := hg1.cell (by omega) (by omega) hbx
  have hfx1 : w1.frozen? ⟨w.heap.size, 0, none⟩ = false := (World.frozen?_of_block (w := W0) (w' := w1) (a := ⟨w.heap.size, 0, none⟩) (hg1.block w.heap.size (by omega) (by omega))).trans hfx
  have hB3 := Bel.alloc0 w1 (.cells #[.slice sa ar.length sc] 30)
  have hs2 : (w1.alloc (.cells #[.slice sa ar.length sc] 30)).heap.size = w1.heap.size + 1 := by simp
  have hbx7 : (w1.alloc (.cells #[.slice sa ar.length sc] 30)).cell? ⟨w1.heap.size, 0, none⟩ = some (.slice sa ar.length sc) := by rw [World.cell?_alloc_new w1]; rfl
  have hbx2 := hB3.at (by omega) hbx1
  have hfx2 := (World.frozen?_of_block (w := w1) (a := ⟨w.heap.size, 0, none⟩) (hB3.block w.heap.size (by omega))).trans hfx1
  have hc2 := hc1.below hB3
  have hsv2 := hsv.below hB3
  have hg2 := hg1.trans (Chg.of_bel (lo := w.heap.size + 1) (hi := w.heap.size + 1 + 1) hB3)
  generalize hw2 : w1.alloc (.cells #[.slice sa ar.length sc] 30) = w2 at *
  clear hc1 hg1 hbx1 hfx1 hB3 hsv hbx hfx HS hC hB1
  have hhi0 : w1.heap.size ≤ w2.heap.size := by omega
  go_wp2_with fail
  go_region_held3 (fun w' => w'.cell? ⟨w1.heap.size, 0, none⟩ = some (.slice sa ar.length sc))
    (first | exact hbx7 | exact hx1 | exact hx2 | exact hb7F | fail)
    (first
      | (go_at_call 87; refine (subst_d (w.heap.size + 1) n k1 _ _ _ ar _ (by omega) (by omega) hdr (by omega) (by exact hhi0) (hc2.below (Bel.drew0 w2)) (hsv2.below (Bel.drew0 w2))).mono ?_; rintro e y1_2 ⟨aA, cA, lA, k2x, rfl, hA, hlA, hjA, hk1k2x, hk2k2x, hcr1, hr1⟩; have G1 := (Chg.of_bel (lo := w.heap.size + 1) (hi := w.heap.size + 1 + 1) (Bel.drew0 w2)).trans hr1; have hzr1 : w2.heap.size ≤ y1_2.heap.size := G1.size; have hx1 := G1.cell (by omega) (by omega) hbx7)
      | (go_at_call 88; refine (anyTerm_c (w.heap.size + 1) n k2x _ _ _ ar _ (by omega) (by omega) hdr (by omega) hcr1 (hsv2.chg G1 (by omega))).mono ?_; rintro e y2_2 ⟨aB, cB, tB, k3x, rfl, hB, hlB, hk1k3x, hk2k3x, hcr2, hr2⟩; have G2 := G1.trans hr2; have hzr2 : w2.heap.size ≤ y2_2.heap.size := G2.size; have hx2 := G2.cell (by omega) (by omega) hbx7; have hzs2 := hr2.size; have hbxL := G2.cell (by omega) (by omega) hbx2; have hb7F := (World.cell?_setCell_other y2_2 ⟨w.heap.size, 0, none⟩ ⟨w1.heap.size, 0, none⟩ (.slice sa ar.length sc) (fun h => (show w.heap.size ≠ w1.heap.size by omega) (congrArg Addr.block h))).trans hx2; have hfxL := (World.frozen?_of_block (w := w2) (w' := y2_2) (a := ⟨w.heap.size, 0, none⟩) (G2.block w.heap.size (by omega) (by omega))).trans hfx2)
      | fail)
  replace hA := hA.mono (show w2.heap.size ≤ w2.drew.heap.size from Nat.le_refl _) (Nat.le_refl _)
  replace hA := hA.chg hr2 (by omega)
  clear hfx2
  have hzL : w2.heap.size ≤ y2_2.heap.size := G2.size
  replace hsv2 := hsv2.chg G2 (by omega)
  replace hg2 := hg2.trans G2
  have hbF : (y2_2.setCell ⟨w.heap.size, 0, none⟩ (.slice sa ar.length sc)).cell? ⟨w.heap.size, 0, none⟩ = some (.slice sa ar.length sc) := World.cell?_setCell_same _ _ _ hbxL
  have hsv2F := (hsv2.set (p := ⟨w.heap.size, 0, none⟩) (.inl (by simp; omega)) (.slice sa ar.length sc)).mono (show w.heap.size ≤ _ by omega) (show _ ≤ (y2_2.setCell ⟨w.heap.size, 0, none⟩ (.slice sa ar.length sc)).heap.size by first | (simp; done) | (simp; omega))
  have hAF := (hA.set (p := ⟨w.heap.size, 0, none⟩) (.inl (by simp; omega)) (.slice sa ar.length sc)).mono (show w.heap.size ≤ _ by omega) (show _ ≤ (y2_2.setCell ⟨w.heap.size, 0, none⟩ (.slice sa ar.length sc)).heap.size by first | (simp; done) | (simp; omega))
  have hBF := (hB.set (p := ⟨w.heap.size, 0, none⟩) (.inl (by simp; omega)) (.slice sa ar.length sc)).mono (show w.heap.size ≤ _ by omega) (show _ ≤ (y2_2.setCell ⟨w.heap.size, 0, none⟩ (.slice sa ar.length sc)).heap.size by first | (simp; done) | (simp; omega))
  have hgF := (hg2.bel hB2 (by omega)).setCell (p := ⟨w.heap.size, 0, none⟩) (Nat.le_refl _) (.slice sa ar.length sc)
  clear hbx2 hbx7 hg2 hB2 hcr2 hsv2 hA hB
  go_wp2_with fail
  exact bodyPost_ret (v := .tuple #[.agg #[.slice sa ar.length sc], .slice aA lA.length cA, .slice aB tB.length cB]) (by simp [results, Try.results44, go_sem, hbF]) rfl ⟨_, _, _, ar, lA, tB, rfl, hdr, hsv2F, hAF, hlA, hjA, hBF, hlB, hgF⟩
end Go.Proofs.Yteegjnobmbcjiaa
end
section
/- The draws of chapter 2: two terms. -/
namespace Go.Proofs.Yteegjnobmbcjiaa
open Go.RowKit

theorem short_12 {l : List (List Int)} (h : l.length ≤ 12) (hj : ∀ j, (l.getD j []).length ≤ 1000) : short l := ⟨by omega, fun j _ => by have := hj j; omega⟩
theorem slI_k {lo hi : Nat} {w : World} {ad : Option Addr} {n c : Nat} {xs : List Int} (h : SlI lo hi w (.slice ad n c) xs) : n = xs.length := by
  obtain ⟨ad', c', e⟩ := h.form
  simp only [Value.slice.injEq] at e
  exact e.2.1
def RetDII (w : World) (e : Ending) (w' : World) : Prop :=
  ∃ (sv tv uv : Value) (ar t u : List Int), e = .returned (.tuple #[.agg #[sv], tv, uv]) ∧ drawn ar ∧ SlI w.heap.size w'.heap.size w' sv ar ∧ SlI w.heap.size w'.heap.size w' tv t ∧ t.length ≤ 1048576 ∧ SlI w.heap.size w'.heap.size w' uv u ∧ u.length ≤ 1048576 ∧ Bel w w'

end Go.Proofs.Yteegjnobmbcjiaa
end
section
namespace Go.Proofs.Yteegjnobmbcjiaa
open Go.RowKit

theorem letter_u8_neg (x : Int) (h : x < 0) : (⟨#[UInt8.ofNat ((65 + (-1 - x)) : Int).toNat]⟩ : ByteArray).data.toList = [letter x] := by simp [letter, h]
theorem letter_u8_pos : ∀ k : Nat, k < 10 → (97 + UInt8.ofNat k) = letter (k : Int) := by decide +kernel

end Go.Proofs.Yteegjnobmbcjiaa
end
section
namespace Go.Proofs.Yteegjnobmbcjiaa
open Go.RowKit

/-- The text of a term, as bytes. -/
def textBA (ar t : List Int) : ByteArray := if goodTerm ar t then ⟨(textAt ar t 0).toArray⟩ else ⟨#[]⟩
theorem ba_eq {A : ByteArray} {l : List UInt8} (h : A.data.toList = l) : A = ⟨l.toArray⟩ := by subst h; cases A; simp
theorem text_no {ar t : List Int} (h : goodTerm ar t = false) : textBA ar t = ⟨#[]⟩ := by simp [textBA, h]
theorem text_yes {ar t : List Int} (h : goodTerm ar t = true) : textBA ar t = ⟨(textAt ar t 0).toArray⟩ := by simp [textBA, h]

end Go.Proofs.Yteegjnobmbcjiaa
end
section
/- The draws of chapter 1: texts. -/
namespace Go.Proofs.Yteegjnobmbcjiaa
open Go.RowKit

theorem text_size (ar t : List Int) : (textBA ar t).size ≤ 120 := by
  cases h : goodTerm ar t with
  | false => rw [text_no h]; decide
  | true =>
    obtain ⟨hg, hok⟩ := goodTerm_iff.1 h
    have := textAt_le ar t hok 0 (by have := ((okTerm_iff _ _).1 hok).1; omega)
    rw [text_yes h, ba_size]
    simpa using this
def RetDI (w : World) (e : Ending) (w' : World) : Prop :=
  ∃ (sv tv : Value) (ar t : List Int), e = .returned (.tuple #[.agg #[sv], tv]) ∧ drawn ar ∧ SlI w.heap.size w'.heap.size w' sv ar ∧ SlI w.heap.size w'.heap.size w' tv t ∧ t.length ≤ 1000 ∧ Bel w w'
def RetDS (w : World) (e : Ending) (w' : World) : Prop :=
  ∃ (sv : Value) (ar : List Int) (s : ByteArray), e = .returned (.tuple #[.agg #[sv], .string s]) ∧ drawn ar ∧ SlI w.heap.size w'.heap.size w' sv ar ∧ s.size ≤ 1000 ∧ Bel w w'

end Go.Proofs.Yteegjnobmbcjiaa
end
section
/- Reading a term, plainly. No program. -/
namespace Go.Proofs.Yteegjnobmbcjiaa

def sepC (k : Nat) : UInt8 := if k = 0 then 40 else 44
/-- What a letter stands for. -/
def symAt (ar : List Int) (b : UInt8) : Option Int :=
  if inB b.toNat 65 76 then some (-1 - ((b.toNat : Int) - 65)) else if inB b.toNat 97 (97 + (ar.length : Int) - 1) then some ((b.toNat : Int) - 97) else none

abbrev Scanned := List Int × Nat × Bool
def scanArgs (g : Nat → Scanned) (T : List UInt8) : Nat → Nat → List Int → Nat → Scanned
  | 0, _, acc, p => if T[p]? = some 41 then (acc, p + 1, true) else ([], p, false)
  | m + 1, k, acc, p => if T[p]? = some (sepC k) then (if (g (p + 1)).2.2 then scanArgs g T m (k + 1) (acc ++ (g (p + 1)).1) (g (p + 1)).2.1 else ([], (g (p + 1)).2.1, false)) else ([], p, false)
def scanF (ar : List Int) (T : List UInt8) : Nat → Nat → Scanned
  | 0, p => ([], p, false)
  | f + 1, p => match T[p]? with
    | none => ([], T.length, false)
    | some b => match symAt ar b with
      | none => ([], p, false)
      | some n => if arOf ar n = 0 then ([n], p + 1, true) else scanArgs (scanF ar T f) T (arOf ar n) 0 [n] (p + 1)

/-- What holds of a result that began at p. -/
def ScanOk (T : List UInt8) (p : Nat) (r : Scanned) : Prop := r.2.1 ≤ T.length ∧ (r.2.2 = true → p < r.2.1 ∧ r.1.length ≤ r.2.1 - p) ∧ (r.2.2 = false → r.1 = [])

theorem scanArgs_ok (g : Nat → Scanned) (T : List UInt8) (p0 : Nat) (hg : ∀ q, q ≤ T.length → ScanOk T q (g q)) : ∀ (m k : Nat) (acc : List Int) (p : Nat), p0 < p → p ≤ T.length → acc.length ≤ p - p0 → ScanOk T p0 (scanArgs g T m k acc p) := by
  intro m
  induction m with
  | zero =>
    intro k acc p h1 h2 h3
    unfold scanArgs
    by_cases h : T[p]? = some 41
    · have := (List.getElem?_eq_some_iff.1 h).1
      rw [if_pos h]; exact ⟨by simp; omega, fun _ => ⟨by simp; omega, by simp; omega⟩, fun h => by simp at h⟩
    · rw [if_neg h]; exact ⟨h2, fun h => by simp at h, fun _ => rfl⟩
  | succ m ih =>
    intro k acc p h1 h2 h3
    unfold scanArgs
    by_cases h : T[p]? = some (sepC k)
    · have hl := (List.getElem?_eq_some_iff.1 h).1
      rw [if_pos h]
      obtain ⟨a1, a2, a3⟩ := hg (p + 1) (by omega)
      cases hb : (g (p + 1)).2.2 with
      | true =>
        rw [if_pos rfl]
        obtain ⟨b1, b2⟩ := a2 hb
        exact ih _ _ _ (by omega) a1 (by simp; omega)
      | false =>
        rw [if_neg (by simp)]
        exact ⟨a1, fun h => by simp at h, fun _ => rfl⟩
    · rw [if_neg h]; exact ⟨h2, fun h => by simp at h, fun _ => rfl⟩

theorem scan_end {ar : List Int} {T : List UInt8} {f p : Nat} (h : ¬ p < T.length) : scanF ar T (f + 1) p = ([], T.length, false) := by
  unfold scanF; rw [List.getElem?_eq_none (by omega)]
theorem scan_bad {ar : List Int} {T : List UInt8} {f p : Nat} {b : UInt8} (h : T[p]? = some b) (hs : symAt ar b = none) : scanF ar T (f + 1) p = ([], p, false) := by
  unfold scanF; rw [h]; simp only [hs]
theorem scan_leaf {ar : List Int} {T : List UInt8} {f p : Nat} {b : UInt8} {n : Int} (h : T[p]? = some b) (hs : symAt ar b = some n) (h0 : arOf ar n = 0) : scanF ar T (f + 1) p = ([n], p + 1, true) := by
  unfold scanF; rw [h]; simp only [hs]; rw [if_pos h0]
theorem scan_args {ar : List Int} {T : List UInt8} {f p : Nat} {b : UInt8} {n : Int} (h : T[p]? = some b) (hs : symAt ar b = some n) (h0 : arOf ar n ≠ 0) : scanF ar T (f + 1) p = scanArgs (scanF ar T f) T (arOf ar n) 0 [n] (p + 1) := by
  unfold scanF; rw [h]; simp only [hs]; rw [if_neg h0]
theorem args_done {g : Nat → Scanned} {T : List UInt8} {k p : Nat} {acc : List Int} (h : T[p]? = some 41) : scanArgs g T 0 k acc p = (acc, p + 1, true) := by unfold scanArgs; rw [if_pos h]
theorem args_noclose {g : Nat → Scanned} {T : List UInt8} {k p : Nat} {acc : List Int} (h : T[p]? ≠ some 41) : scanArgs g T 0 k acc p = ([], p, false) := by unfold scanArgs; rw [if_neg h]
theorem args_nosep {g : Nat → Scanned} {T : List UInt8} {m k p : Nat} {acc : List Int} (h : T[p]? ≠ some (sepC k)) : scanArgs g T (m + 1) k acc p = ([], p, false) := by
  conv => lhs; unfold scanArgs
  rw [if_neg h]
theorem args_bad {g : Nat → Scanned} {T : List UInt8} {m k p : Nat} {acc : List Int} (h : T[p]? = some (sepC k)) (hb : (g (p + 1)).2.2 = false) : scanArgs g T (m + 1) k acc p = ([], (g (p + 1)).2.1, false) := by
  conv => lhs; unfold scanArgs
  rw [if_pos h, if_neg (by simp [hb])]
theorem args_next {g : Nat → Scanned} {T : List UInt8} {m k p : Nat} {acc : List Int} (h : T[p]? = some (sepC k)) (hb : (g (p + 1)).2.2 = true) : scanArgs g T (m + 1) k acc p = scanArgs g T m (k + 1) (acc ++ (g (p + 1)).1) (g (p + 1)).2.1 := by
  conv => lhs; unfold scanArgs
  rw [if_pos h, if_pos hb]
theorem scanF_ok (ar : List Int) (T : List UInt8) : ∀ (f p : Nat), p ≤ T.length → ScanOk T p (scanF ar T f p) := by
  intro f
  induction f with
  | zero => intro p hp; exact ⟨hp, fun h => by simp [scanF] at h, fun _ => rfl⟩
  | succ f ih =>
    intro p hp
    by_cases hl : p < T.length
    · obtain ⟨b, h⟩ : ∃ b, T[p]? = some b := ⟨T[p], List.getElem?_eq_getElem hl⟩
      cases hs : symAt ar b with
      | none => rw [scan_bad h hs]; exact ⟨hp, fun h => by simp at h, fun _ => rfl⟩
      | some n =>
        by_cases h0 : arOf ar n = 0
        · rw [scan_leaf h hs h0]; exact ⟨by simp; omega, fun _ => ⟨by simp, by simp⟩, fun h => by simp at h⟩
        · rw [scan_args h hs h0]; exact scanArgs_ok _ T p ih _ _ _ _ (by omega) (by omega) (by simp)
    · rw [scan_end hl]; exact ⟨Nat.le_refl _, fun h => by simp at h, fun _ => rfl⟩
end Go.Proofs.Yteegjnobmbcjiaa
end
