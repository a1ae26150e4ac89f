/- Chapter 5: the value of a term, reckoned from its end. No program. -/
import Derived.Test.YtfhljkjcjnfjfaaWoP
namespace Go.Proofs.Ytfhljkjcjnfjfaa
open Go.RowKit

/-- The values of the terms that a list is. -/
def sufV (ar : List Int) (sz : Int) (tb : List (List Int)) (env : List Int) : List Int → List Int
  | [] => []
  | n :: r => if n < 0 then env.getD (-1 - n).toNat 0 :: sufV ar sz tb env r else entry sz tb n ((sufV ar sz tb env r).take (arOf ar n)) :: (sufV ar sz tb env r).drop (arOf ar n)
section
variable {ar : List Int} {sz : Int} {tb : List (List Int)} {env : List Int}
theorem sufV_neg {n : Int} {r : List Int} (h : n < 0) : sufV ar sz tb env (n :: r) = env.getD (-1 - n).toNat 0 :: sufV ar sz tb env r := by rw [sufV, if_pos h]
theorem sufV_sym {n : Int} {r : List Int} (h : ¬ n < 0) : sufV ar sz tb env (n :: r) = entry sz tb n ((sufV ar sz tb env r).take (arOf ar n)) :: (sufV ar sz tb env r).drop (arOf ar n) := by rw [sufV, if_neg h]
theorem sufV_len : ∀ y : List Int, (sufV ar sz tb env y).length ≤ y.length := by
  intro y
  induction y with
  | nil => exact Nat.le_refl _
  | cons n r ih =>
    by_cases h : n < 0
    · rw [sufV_neg h]; simp; exact ih
    · rw [sufV_sym h]; simp; omega
theorem Ev.len {s : Option Nat} {y vs : List Int} (h : Ev ar sz tb env s y vs) : vs.length = (match s with | none => 1 | some m => m) := by
  induction h with
  | var n h1 h2 => rfl
  | node n ys vs h1 h2 _ ih => rfl
  | nil => rfl
  | cons m y ys v vs _ _ ih1 ih2 => simp at ih2 ⊢; exact ih2
theorem Ev.suf {s : Option Nat} {y vs : List Int} (h : Ev ar sz tb env s y vs) : ∀ r, sufV ar sz tb env (y ++ r) = vs ++ sufV ar sz tb env r := by
  induction h with
  | var n h1 h2 => intro r; exact sufV_neg h2
  | node n ys vs h1 h2 hy ih =>
    intro r
    have hl := hy.len
    simp only at hl
    show sufV ar sz tb env (n :: (ys ++ r)) = _
    rw [sufV_sym (by omega), ih r, ← hl, List.take_left', List.drop_left']
    · rfl
    · rfl
    · rfl
  | nil => intro r; rfl
  | cons m y ys v vs _ _ ih1 ih2 =>
    intro r
    rw [List.append_assoc, ih1, ih2]
    rfl
theorem suf_ev {t : List Int} (h : okTerm ar t = true) : ∀ (k i : Nat), t.length - i ≤ k → i ≤ t.length → ∃ m, Ev ar sz tb env (some m) (t.drop i) (sufV ar sz tb env (t.drop i)) := by
  intro k
  induction k with
  | zero =>
    intro i hk hi
    rw [List.drop_of_length_le (by omega)]
    exact ⟨0, Ev.nil⟩
  | succ k ih =>
    intro i hk hi
    by_cases hlt : i < t.length
    · obtain ⟨e, he, h1, h2⟩ : ∃ e, endOf ar t i = some e ∧ i < e ∧ e ≤ t.length := by
        obtain ⟨e, he, h2⟩ := good_end ar t h i hlt
        refine ⟨e, he, ?_, by omega⟩
        have hs := good_sym ar t h i hlt
        unfold endOf at he
        rw [drop_cons t i hlt, endGo_cons, if_pos hs, Nat.zero_add] at he
        have := endGo_ge _ _ _ _ _ he
        omega
      obtain ⟨m, hm⟩ := ih e (by omega) h2
      have hp := ev_at (sz := sz) (tb := tb) (env := env) h (t.length - i) i e (Nat.le_refl _) hlt he
      have hd : t.drop i = partOf t i e ++ t.drop e := by
        unfold partOf
        conv => lhs; rw [← List.take_append_drop (e - i) (t.drop i)]
        rw [List.drop_drop, show i + (e - i) = e from by omega]
      have hsuf := hp.suf (t.drop e)
      rw [← hd] at hsuf
      refine ⟨m + 1, ?_⟩
      rw [hsuf, hd]
      exact Ev.cons m _ _ _ _ hp hm
    · rw [List.drop_of_length_le (by omega)]
      exact ⟨0, Ev.nil⟩
theorem suf_all {t : List Int} (h : okTerm ar t = true) : sufV ar sz tb env t = [evT ar sz tb env t] := by
  have := (ev_whole (sz := sz) (tb := tb) (env := env) h).suf []
  rw [List.append_nil] at this
  exact this
theorem suf_bd (hg : goodSign ar = true) (hw : isWorld ar sz tb = true) (he : okEnv sz env = true) {t : List Int} (h : okTerm ar t = true) (i : Nat) (hi : i ≤ t.length) : ∀ v ∈ sufV ar sz tb env (t.drop i), 0 ≤ v ∧ v ≤ sz - 1 := by
  obtain ⟨m, hm⟩ := suf_ev (sz := sz) (tb := tb) (env := env) h (t.length - i) i (Nat.le_refl _) hi
  exact (evT_bd hg hw he hm).1
/-- The arguments of the symbol at i stand on top. -/
theorem suf_args {t : List Int} (h : okTerm ar t = true) (i : Nat) (hi : i < t.length) (hn : ¬ t.getD i 0 < 0) : arOf ar (t.getD i 0) ≤ (sufV ar sz tb env (t.drop (i+1))).length := by
  obtain ⟨m, hm⟩ := suf_ev (sz := sz) (tb := tb) (env := env) h (t.length - i) i (Nat.le_refl _) (by omega)
  rw [drop_cons t i hi, sufV_sym hn] at hm
  generalize hY : sufV ar sz tb env (t.drop (i+1)) = Y at *
  generalize hT : t.getD i 0 :: t.drop (i+1) = T at hm
  generalize hV : entry sz tb (t.getD i 0) (Y.take (arOf ar (t.getD i 0))) :: Y.drop (arOf ar (t.getD i 0)) = V at hm
  clear hV
  generalize t.getD i 0 = s at *
  cases hm with
  | nil => simp at hT
  | cons m y ys v vs h1 h2 =>
    cases h1 with
    | var n _ h3 =>
      simp at hT
      omega
    | node n ys' vs' _ _ h4 =>
      simp at hT
      obtain ⟨rfl, e2⟩ := hT
      have := h4.suf ys
      rw [← e2, hY] at this
      have hl := h4.len
      simp only at hl
      rw [this]; simp; omega
end

/-- The stack: forty numbers, the first value on top. -/
def Stk (w : World) (B : Nat) (vs : List Int) : Prop :=
  B < w.heap.size ∧ (∀ j, j < 40 → ∃ x : Int, w.cell? ⟨B, j, none⟩ = some (.int .i64 x) ∧ w.frozen? ⟨B, j, none⟩ = false) ∧ ∀ j, j < vs.length → w.cell? ⟨B, vs.length - 1 - j, none⟩ = some (.int .i64 (vs.getD j 0))
theorem Stk.new (w : World) (T : TypeId) (cs : Array Value) (hcs : cs = Array.replicate 40 (.int .i64 0)) : Stk (w.alloc (.cells cs T)) w.heap.size [] := by
  subst hcs
  refine ⟨by simp, fun j hj => ⟨0, ?_, ?_⟩, fun j h => by simp at h⟩
  · rw [World.cell?_alloc_new w]; simp [hj]
  · exact World.frozen?_alloc_at _ _ _ _ rfl
theorem Stk.below {w w' : World} {B : Nat} {vs : List Int} (h : Stk w B vs) (hb : Bel w w') : Stk w' B vs := by
  obtain ⟨h1, h2, h3⟩ := h
  refine ⟨Nat.lt_of_lt_of_le h1 hb.size, fun j hj => ?_, fun j a => hb.at h1 (h3 j a)⟩
  obtain ⟨x, e1, e2⟩ := h2 j hj
  exact ⟨x, hb.at h1 e1, (hb.frozen (p := ⟨B, j, none⟩) h1).trans e2⟩
theorem Stk.drop {w : World} {B : Nat} {vs : List Int} (h : Stk w B vs) (a : Nat) (ha : a ≤ vs.length) : Stk w B (vs.drop a) := by
  refine ⟨h.1, h.2.1, fun j hj => ?_⟩
  rw [List.length_drop] at hj ⊢
  have := h.2.2 (a + j) (by omega)
  rw [show vs.length - 1 - (a + j) = vs.length - a - 1 - j from by omega] at this
  rw [this]
  simp [List.getD, List.getElem?_drop]
theorem Stk.push {w : World} {B : Nat} {vs : List Int} (h : Stk w B vs) (x : Int) (hl : vs.length < 40) : Stk (w.setCell ⟨B, vs.length, none⟩ (.int .i64 x)) B (x :: vs) := by
  obtain ⟨h1, h2, h3⟩ := h
  obtain ⟨x0, e1, e2⟩ := h2 vs.length hl
  have hne : ∀ j, j ≠ vs.length → (⟨B, vs.length, none⟩ : Addr) ≠ ⟨B, j, none⟩ := by intro j h1 h2; simp only [Addr.mk.injEq, and_true, true_and] at h2; omega
  refine ⟨by simpa using h1, fun j hj => ?_, fun j a => ?_⟩
  · by_cases e : j = vs.length
    · subst e; exact ⟨_, World.cell?_setCell_same _ _ _ e1, by rw [World.frozen?_setCell]; exact e2⟩
    · obtain ⟨y, f1, f2⟩ := h2 j hj
      exact ⟨y, by rw [World.cell?_setCell_other (h := hne j e)]; exact f1, by rw [World.frozen?_setCell]; exact f2⟩
  · cases j with
    | zero =>
      rw [show (x :: vs).length - 1 - 0 = vs.length from by simp]
      exact World.cell?_setCell_same _ _ _ e1
    | succ j =>
      simp only [List.length_cons] at a
      rw [show (x :: vs).length - 1 - (j + 1) = vs.length - 1 - j from by simp; omega, World.cell?_setCell_other (h := hne _ (by omega))]
      simpa using h3 j (by omega)
end Go.Proofs.Ytfhljkjcjnfjfaa
