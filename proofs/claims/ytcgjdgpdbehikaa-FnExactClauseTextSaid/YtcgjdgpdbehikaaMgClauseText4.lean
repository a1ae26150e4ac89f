/- Texts merged, part 4. -/
import Derived.Test.YtcgjdgpdbehikaaMgClauseText3
section
/- Apply, IsUnifier: both functions; putting terms for variables. -/
namespace Go.Proofs.Ytcgjdgpdbehikaa
open Go.RowKit

/-- What stands for an entry of a term. -/
def one1 (b : List (List Int)) (n : Int) : List Int := if n < 0 ∧ 0 < (b.getD (-1 - n).toNat []).length then b.getD (-1 - n).toNat [] else [n]
def appT (b : List (List Int)) (t : List Int) : List Int := t.flatMap (one1 b)
theorem appT_nil (b : List (List Int)) : appT b [] = [] := rfl
theorem appT_succ (b : List (List Int)) (t : List Int) (k : Nat) (hk : k < t.length) : appT b (t.take (k+1)) = appT b (t.take k) ++ one1 b (t.getD k 0) := by
  unfold appT
  rw [List.take_succ_eq_append_getElem hk, List.flatMap_append]
  simp [List.getD, hk]
theorem one1_var {b : List (List Int)} {n : Int} (h : n < 0) (hp : 0 < (b.getD (-1 - n).toNat []).length) : one1 b n = b.getD (-1 - n).toNat [] := by unfold one1; rw [if_pos ⟨h, hp⟩]
theorem one1_free {b : List (List Int)} {n : Int} (hp : ¬ 0 < (b.getD (-1 - n).toNat []).length) : one1 b n = [n] := by unfold one1; rw [if_neg (fun h => hp h.2)]
theorem one1_sym {b : List (List Int)} {n : Int} (h : ¬ n < 0) : one1 b n = [n] := by unfold one1; rw [if_neg (fun h2 => h h2.1)]
def lens40 (b : List (List Int)) : Prop := ∀ j, j < b.length → (b.getD j []).length ≤ 40
theorem getD_len40 {b : List (List Int)} (h : lens40 b) (j : Nat) : (b.getD j []).length ≤ 40 := by
  by_cases hj : j < b.length
  · exact h j hj
  · simp [List.getD, hj]
theorem one1_len {b : List (List Int)} (h : lens40 b) (n : Int) : (one1 b n).length ≤ 40 := by
  unfold one1
  split
  · exact getD_len40 h _
  · simp
theorem appT_len {b : List (List Int)} (h : lens40 b) (t : List Int) : (appT b t).length ≤ 40 * t.length := by
  unfold appT
  induction t with
  | nil => simp
  | cons x r ih =>
    have := one1_len h x
    simp only [List.flatMap_cons, List.length_append, List.length_cons]
    omega
theorem row_app {w : World} {base e : Nat} {v : Value} {acc xs : List Int} (h : w.ownsRow base e 1 v (acc.length + xs.length) (acc.map (Value.int .i64) ++ xs.map (Value.int .i64))) :
    w.ownsRow base e 1 v (acc ++ xs).length ((acc ++ xs).map (Value.int .i64)) := by simpa using h

def app40 (b : List (List Int)) (t : List Int) : List Int := if 40 < (appT b t).length then [] else appT b t
def app40ok (b : List (List Int)) (t : List Int) : Bool := !decide (40 < (appT b t).length)
theorem app40_no {b : List (List Int)} {t : List Int} (h : 40 < (appT b t).length) : app40 b t = [] ∧ app40ok b t = false := by simp [app40, app40ok, h]
theorem app40_yes {b : List (List Int)} {t : List Int} (h : ¬ 40 < (appT b t).length) : app40 b t = appT b t ∧ app40ok b t = true := by simp [app40, app40ok, h]
theorem _root_.Go.World.ownsRow.len_eq {w : World} {base e s n m c : Nat} {ad : Option Addr} {xs : List Value} (h : w.ownsRow base e s (.slice ad n c) m xs) : n = m := by
  rcases h.2 with ⟨e1, h0⟩ | ⟨g, cap, cur, e1, _⟩
  · simp at e1; omega
  · simp at e1; exact e1.2.1

end Go.Proofs.Ytcgjdgpdbehikaa
end
section
/- Replacing a subterm in a valid term. No program. -/
namespace Go.Proofs.Ytcgjdgpdbehikaa

theorem endGo_shift (ar : List Int) : ∀ (r : List Int) (n p d : Nat), endGo ar r n (p + d) = (endGo ar r n p).map (· + d) := by
  intro r
  induction r with
  | nil => intro n p d; cases n <;> simp [endGo]
  | cons x r ih =>
    intro n p d
    cases n with
    | zero => simp [endGo_zero]
    | succ n =>
      rw [endGo_cons, endGo_cons]
      split
      · rw [show p + d + 1 = (p + 1) + d from by omega, ih]
      · rfl

theorem endGo_ext (ar : List Int) : ∀ (r s : List Int) (n p e : Nat), endGo ar r n p = some e → endGo ar (r ++ s) n p = some e := by
  intro r
  induction r with
  | nil =>
    intro s n p e h
    cases n with
    | zero => rw [endGo_zero] at h ⊢; exact h
    | succ n => simp [endGo_nil] at h
  | cons x r ih =>
    intro s n p e h
    cases n with
    | zero => rw [endGo_zero] at h ⊢; exact h
    | succ n =>
      rw [endGo_cons] at h
      rw [List.cons_append, endGo_cons]
      split at h
      · rw [if_pos ‹_›]; exact ih _ _ _ _ h
      · simp at h

/-- What is cut off behind the end does not matter. -/
theorem endGo_cut (ar : List Int) : ∀ (r s : List Int) (n p e : Nat), endGo ar (r ++ s) n p = some e → e ≤ p + r.length → endGo ar r n p = some e := by
  intro r
  induction r with
  | nil =>
    intro s n p e h he
    cases n with
    | zero => rw [endGo_zero] at h ⊢; exact h
    | succ n => have := endGo_gt _ _ _ _ _ h; simp at he; omega
  | cons x r ih =>
    intro s n p e h he
    cases n with
    | zero => rw [endGo_zero] at h ⊢; exact h
    | succ n =>
      rw [List.cons_append, endGo_cons] at h
      rw [endGo_cons]
      split at h
      · rw [if_pos ‹_›]; exact ih s _ _ _ h (by simp at he; omega)
      · simp at h

/-- Behind a head that does not come to the end. -/
theorem endGo_head (ar : List Int) : ∀ (a : List Int) (n p : Nat) (r : List Int) (e : Nat), endGo ar (a ++ r) n p = some e → p + a.length < e → ∃ m, ∀ s, endGo ar (a ++ s) n p = endGo ar s (m + 1) (p + a.length) := by
  intro a
  induction a with
  | nil =>
    intro n p r e h he
    cases n with
    | zero => rw [endGo_zero] at h; simp at h he; omega
    | succ n => exact ⟨n, fun s => by simp⟩
  | cons x a ih =>
    intro n p r e h he
    cases n with
    | zero => rw [endGo_zero] at h; simp at h he; omega
    | succ n =>
      rw [List.cons_append, endGo_cons] at h
      split at h
      · rename_i hx
        obtain ⟨m, hm⟩ := ih _ _ _ _ h (by simp at he; omega)
        exact ⟨m, fun s => by rw [List.cons_append, endGo_cons, if_pos hx, hm, List.length_cons]; congr 1; omega⟩
      · simp at h

/-- The term with the subterm at i, which ends at e, replaced by u. -/
def replaced (t : List Int) (i e : Nat) (u : List Int) : List Int := t.take i ++ u ++ t.drop e
theorem replaced_len (t u : List Int) (i e : Nat) (h1 : i ≤ e) (h2 : e ≤ t.length) : (replaced t i e u).length = i + u.length + (t.length - e) := by
  simp [replaced]; omega

theorem replaced_end (ar t u : List Int) (i e : Nat) (ht : okTerm ar t = true) (hu : okTerm ar u = true) (hi : i < t.length) (he : endOf ar t i = some e) :
    endOf ar (replaced t i e u) 0 = some (replaced t i e u).length := by
  obtain ⟨_, _, h3⟩ := (okTerm_iff ar t).1 ht
  obtain ⟨hu1, _, h4⟩ := (okTerm_iff ar u).1 hu
  unfold endOf at h3 h4 he ⊢
  rw [List.drop_zero] at h3 h4 ⊢
  have hge := endGo_ge _ _ _ _ _ he
  have hgt := endGo_gt _ _ _ _ _ he
  simp at hge
  have hcut : t = t.take i ++ t.drop i := (List.take_append_drop i t).symm
  rw [hcut] at h3
  have hl : (t.take i).length = i := by simp; omega
  obtain ⟨m, hm⟩ := endGo_head ar (t.take i) 1 0 (t.drop i) _ h3 (by rw [hl]; simp; omega)
  rw [hm, hl, Nat.zero_add, show m + 1 = 1 + m from by omega, endGo_add, he] at h3
  simp only [Option.bind_some, List.drop_drop, show i + (e - i) = e from by omega] at h3
  unfold replaced
  rw [List.append_assoc, hm, hl, Nat.zero_add, show m + 1 = 1 + m from by omega, endGo_add]
  have h5 : endGo ar (u ++ t.drop e) 1 i = some (u.length + i) := by
    have := endGo_shift ar (u ++ t.drop e) 1 0 i
    rw [Nat.zero_add] at this
    rw [this, endGo_ext ar u _ _ _ _ h4]; rfl
  rw [h5]
  simp only [Option.bind_some, show u.length + i - i = u.length from by omega, List.drop_left']
  have h6 := endGo_shift ar (t.drop e) m 0 e
  rw [Nat.zero_add, h3] at h6
  have h7 := endGo_shift ar (t.drop e) m 0 (u.length + i)
  rw [Nat.zero_add] at h7
  rw [h7]
  cases h8 : endGo ar (t.drop e) m 0 with
  | none => rw [h8] at h6; simp at h6
  | some z =>
    rw [h8] at h6
    simp only [Option.map_some, Option.some.injEq] at h6 ⊢
    simp at h6 ⊢
    omega

theorem replaced_ok (ar t u : List Int) (i e : Nat) (ht : okTerm ar t = true) (hu : okTerm ar u = true) (hi : i < t.length) (he : endOf ar t i = some e) :
    okTerm ar (replaced t i e u) = decide ((replaced t i e u).length ≤ 40) := by
  have h1 := replaced_end ar t u i e ht hu hi he
  have h2 := ((okTerm_iff ar u).1 hu).1
  have hge := endGo_ge _ _ _ _ _ he
  simp at hge
  have h3 := replaced_len t u i e (by omega) (by omega)
  rw [Bool.eq_iff_iff, okTerm_iff, decide_eq_true_eq]
  constructor
  · exact fun h => h.2.1
  · exact fun h => ⟨by omega, h, h1⟩

/-- A subterm is a term. -/
def partOf (t : List Int) (i e : Nat) : List Int := (t.drop i).take (e - i)
theorem partOf_len (t : List Int) (i e : Nat) (h : e ≤ t.length) : (partOf t i e).length = e - i := by simp [partOf]; omega
theorem partOf_ok (ar t : List Int) (i e : Nat) (ht : okTerm ar t = true) (hi : i < t.length) (he : endOf ar t i = some e) : okTerm ar (partOf t i e) = true := by
  have h1 := ((okTerm_iff ar t).1 ht).2.1
  have hge := endGo_ge _ _ _ _ _ he
  have hgt := endGo_gt _ _ _ _ _ he
  simp at hge
  have hl := partOf_len t i e (by omega)
  rw [okTerm_iff]
  refine ⟨by omega, by omega, ?_⟩
  unfold endOf at he ⊢
  rw [List.drop_zero, hl]
  have h2 : t.drop i = partOf t i e ++ (t.drop i).drop (e - i) := by unfold partOf; rw [List.take_append_drop]
  rw [h2] at he
  have h3 := endGo_cut ar _ _ _ _ _ he (by omega)
  have h4 := endGo_shift ar (partOf t i e) 1 0 i
  rw [Nat.zero_add, h3] at h4
  cases h5 : endGo ar (partOf t i e) 1 0 with
  | none => rw [h5] at h4; simp at h4
  | some z => rw [h5] at h4; simp at h4 ⊢; omega
theorem replaced_self (t : List Int) (i e : Nat) (h1 : i ≤ e) : replaced t i e (partOf t i e) = t := by
  unfold replaced partOf
  rw [List.append_assoc]
  have : List.take (e - i) (List.drop i t) ++ List.drop e t = List.drop i t := by
    have h := List.take_append_drop (e - i) (List.drop i t)
    rw [List.drop_drop, show i + (e - i) = e from by omega] at h
    exact h
  rw [this, List.take_append_drop]
end Go.Proofs.Ytcgjdgpdbehikaa
end
section
/- Putting terms for variables keeps terms. No program. -/
namespace Go.Proofs.Ytcgjdgpdbehikaa

theorem goodSubst_iff {ar : List Int} {b : List (List Int)} : goodSubst ar b = true ↔ goodSign ar = true ∧ b.length = 12 ∧ ∀ t ∈ b, okEmpty ar t = true := by
  simp only [goodSubst, Bool.and_eq_true, beq_iff_eq, List.all_eq_true]
  constructor
  · rintro ⟨⟨h1, h2⟩, h3⟩; exact ⟨h1, h2, h3⟩
  · rintro ⟨h1, h2, h3⟩; exact ⟨⟨h1, h2⟩, h3⟩
theorem okEmpty_get {ar : List Int} {b : List (List Int)} (h : ∀ t ∈ b, okEmpty ar t = true) (j : Nat) (hp : 0 < (b.getD j []).length) : okTerm ar (b.getD j []) = true := by
  have hj : j < b.length := by
    rcases Nat.lt_or_ge j b.length with h1 | h1
    · exact h1
    · simp [List.getD, h1] at hp
  have := h (b.getD j []) (by simp [List.getD, hj])
  rwa [okEmpty_pos hp] at this
theorem goodSubst_len40 {ar : List Int} {b : List (List Int)} (h : goodSubst ar b = true) : lens40 b := by
  obtain ⟨_, _, h3⟩ := goodSubst_iff.1 h
  intro j hj
  by_cases hp : 0 < (b.getD j []).length
  · have := ((okTerm_iff _ _).1 (okEmpty_get h3 j hp)).2.1; omega
  · omega
theorem okSym_low {ar : List Int} {x : Int} (h : okSym ar x = true) : -12 ≤ x := by simp [okSym, inB] at h; omega
theorem okTerm_low {ar t : List Int} (h : okTerm ar t = true) : ∀ k, k < t.length → -12 ≤ t.getD k 0 := fun k hk => okSym_low (good_sym ar t h k hk)

/-- What is put for an entry takes the place of one term. -/
theorem endGo_one1 (ar : List Int) (b : List (List Int)) (hb : ∀ t ∈ b, okEmpty ar t = true) (x : Int) (hx : okSym ar x = true) (s : List Int) (n p : Nat) :
    endGo ar (one1 b x ++ s) (n + 1) p = endGo ar s (n + arOf ar x) (p + (one1 b x).length) := by
  by_cases h : x < 0 ∧ 0 < (b.getD (-1 - x).toNat []).length
  · have ho := okEmpty_get hb _ h.2
    have e : one1 b x = b.getD (-1 - x).toNat [] := by unfold one1; rw [if_pos h]
    rw [e]
    generalize b.getD (-1 - x).toNat [] = T at *
    obtain ⟨h1, h2, h3⟩ := (okTerm_iff _ _).1 ho
    unfold endOf at h3
    rw [List.drop_zero] at h3
    have h4 := endGo_ext ar T s 1 0 _ h3
    have h5 := endGo_shift ar (T ++ s) 1 0 p
    rw [h4] at h5
    rw [Nat.zero_add] at h5
    rw [show n + 1 = 1 + n from by omega, endGo_add, h5, arOf_neg h.1]
    simp only [Option.map_some, Option.bind_some]
    rw [show T.length + p - p = T.length from by omega, List.drop_left, show p + T.length = T.length + p from by omega]
    rfl
  · have e : one1 b x = [x] := by unfold one1; rw [if_neg h]
    rw [e, List.singleton_append, endGo_cons, if_pos hx]
    rfl
theorem endGo_app (ar : List Int) (b : List (List Int)) (hb : ∀ t ∈ b, okEmpty ar t = true) : ∀ (r : List Int) (n p q : Nat), endGo ar r n p = some (p + r.length) → endGo ar (appT b r) n q = some (q + (appT b r).length) := by
  intro r
  induction r with
  | nil =>
    intro n p q h
    cases n with
    | zero => rw [endGo_zero]; rfl
    | succ n => simp [endGo_nil] at h
  | cons x r ih =>
    intro n p q h
    cases n with
    | zero => rw [endGo_zero] at h; simp at h
    | succ n =>
      rw [endGo_cons] at h
      split at h
      · rename_i hx
        have := ih _ (p+1) (q + (one1 b x).length) (by rw [h]; simp; omega)
        show endGo ar (one1 b x ++ appT b r) (n+1) q = _
        rw [endGo_one1 ar b hb x hx, this]
        show _ = some (q + (one1 b x ++ appT b r).length)
        rw [List.length_append]; congr 1; omega
      · simp at h
theorem one1_pos (b : List (List Int)) (x : Int) : 0 < (one1 b x).length := by
  unfold one1; split
  · rename_i h; exact h.2
  · simp
theorem appT_pos (b : List (List Int)) (t : List Int) (h : 0 < t.length) : 0 < (appT b t).length := by
  cases t with
  | nil => simp at h
  | cons x r =>
    show 0 < (one1 b x ++ appT b r).length
    rw [List.length_append]; have := one1_pos b x; omega
theorem app_end {ar t : List Int} {b : List (List Int)} (hb : ∀ t ∈ b, okEmpty ar t = true) (ht : okTerm ar t = true) : endOf ar (appT b t) 0 = some (appT b t).length := by
  obtain ⟨h1, h2, h3⟩ := (okTerm_iff _ _).1 ht
  have := endGo_app ar b hb t 1 0 0 (by unfold endOf at h3; simpa using h3)
  unfold endOf; simpa using this
theorem app_ok {ar t : List Int} {b : List (List Int)} (hb : goodSubst ar b = true) (ht : okTerm ar t = true) : okTerm ar (appT b t) = app40ok b t := by
  obtain ⟨_, _, h3⟩ := goodSubst_iff.1 hb
  have he := app_end h3 ht
  have hp := appT_pos b t (by have := ((okTerm_iff _ _).1 ht).1; omega)
  rw [Bool.eq_iff_iff, okTerm_iff]
  simp [app40ok]
  constructor
  · rintro ⟨_, h, _⟩; exact h
  · intro h; exact ⟨by omega, h, he⟩
def applyOk (ar : List Int) (b : List (List Int)) (t : List Int) : Bool := goodSubst ar b && okTerm ar t && app40ok b t
def applyAns (ar : List Int) (b : List (List Int)) (t : List Int) : List Int := if applyOk ar b t then appT b t else []
theorem applyAns_no {ar t : List Int} {b : List (List Int)} (h : applyOk ar b t = false) : applyAns ar b t = [] := by simp [applyAns, h]
theorem applyAns_yes {ar t : List Int} {b : List (List Int)} (h : applyOk ar b t = true) : applyAns ar b t = appT b t := by simp [applyAns, h]
theorem applyAns_len (ar : List Int) (b : List (List Int)) (t : List Int) : (applyAns ar b t).length ≤ 1048576 := by
  unfold applyAns
  split
  · rename_i h; simp [applyOk, app40ok] at h; omega
  · simp
theorem applyAns_len40 (ar : List Int) (b : List (List Int)) (t : List Int) : (applyAns ar b t).length ≤ 40 := by
  unfold applyAns
  split
  · rename_i h; simp [applyOk, app40ok] at h; omega
  · simp
end Go.Proofs.Ytcgjdgpdbehikaa
end
section
/- Slices of ints compared: three functions of one shape. -/
namespace Go.Proofs.Ytcgjdgpdbehikaa
open Go.RowKit

end Go.Proofs.Ytcgjdgpdbehikaa
end
section
/- Apply, IsUnifier: both functions. -/
namespace Go.Proofs.Ytcgjdgpdbehikaa
open Go.RowKit

def unifAns (ar : List Int) (b : List (List Int)) (t r : List Int) : Bool := applyOk ar b t && applyOk ar b r && decide (applyAns ar b t = applyAns ar b r)

end Go.Proofs.Ytcgjdgpdbehikaa
end
section
/- RenameOf: both functions. -/
namespace Go.Proofs.Ytcgjdgpdbehikaa
open Go.RowKit

def renameOk (ar : List Int) (b : List (List Int)) : Bool := goodSign ar && decide (b.length ≤ 20) && b.all (okTerm ar)
def renameAns (ar : List Int) (b : List (List Int)) : List (List Int) := if renameOk ar b then renS [] b else []
theorem renameAns_no {ar : List Int} {b : List (List Int)} (h : renameOk ar b = false) : renameAns ar b = [] := by simp [renameAns, h]
theorem renameAns_yes {ar : List Int} {b : List (List Int)} (h : renameOk ar b = true) : renameAns ar b = renS [] b := by simp [renameAns, h]
theorem renameOk_iff {ar : List Int} {b : List (List Int)} : renameOk ar b = true ↔ goodSign ar = true ∧ b.length ≤ 20 ∧ ∀ t ∈ b, okTerm ar t = true := by
  simp only [renameOk, Bool.and_eq_true, decide_eq_true_eq, List.all_eq_true]
  constructor
  · rintro ⟨⟨h1, h2⟩, h3⟩; exact ⟨h1, h2, h3⟩
  · rintro ⟨h1, h2, h3⟩; exact ⟨⟨h1, h2⟩, h3⟩
theorem renameOk_rows {ar : List Int} {b : List (List Int)} (h : renameOk ar b = true) : rows40 b := by
  obtain ⟨_, h2, h3⟩ := renameOk_iff.1 h
  refine ⟨h2, fun j hj => ?_⟩
  have ho := h3 (b.getD j []) (by simp [List.getD, hj])
  exact ⟨((okTerm_iff _ _).1 ho).2.1, okTerm_low ho⟩
theorem sumL_le40 (l : List (List Int)) (h : ∀ t ∈ l, t.length ≤ 40) : sumL l ≤ 40 * l.length := by
  unfold sumL
  induction l with
  | nil => simp
  | cons x r ih =>
    have h1 := ih (fun t ht => h t (List.mem_cons_of_mem _ ht))
    have h2 := h x List.mem_cons_self
    simp only [List.map_cons, List.sum_cons, List.length_cons]
    omega
theorem renS_lens (met : List Int) (l : List (List Int)) (h : ∀ t ∈ l, t.length ≤ 40) : ∀ t ∈ renS met l, t.length ≤ 40 := by
  induction l generalizing met with
  | nil => intro t ht; simp [renS] at ht
  | cons x r ih =>
    intro t ht
    simp only [renS, List.mem_cons] at ht
    rcases ht with rfl | ht
    · rw [renT_len]; exact h x List.mem_cons_self
    · exact ih _ (fun t ht => h t (List.mem_cons_of_mem _ ht)) t ht
theorem renameAns_len (ar : List Int) (b : List (List Int)) : tot (renameAns ar b) ≤ 1048576 := by
  unfold renameAns
  split
  · rename_i h
    have hr := renameOk_rows h
    have h1 := sumL_le40 _ (renS_lens [] b hr.mem)
    have h2 := hr.1
    unfold tot
    rw [renS_len] at h1 ⊢
    omega
  · simp [tot, sumL]

end Go.Proofs.Ytcgjdgpdbehikaa
end
section
/- PartAt, ReplaceAt: both functions. -/
namespace Go.Proofs.Ytcgjdgpdbehikaa
open Go.RowKit

theorem l1End_v (l h l' h' : Nat) (v u : Value) (ar t : List Int) (i q : Nat) (w : World) (he : endOf ar t i = some q) (hg : goodSign ar = true) (ht : t.length ≤ 1048576) (hi : i ≤ t.length) (hv : SlI l h w v ar) (hu : SlI l' h' w u t) :
    Calls Try.prog 42 #[.agg #[v], u, .int .i64 i] w (RetV w (.int .i64 q)) := endI_some he ▸ l1End_c l h l' h' v u ar t i w hg ht hi hv hu
theorem termEnd_v (l h l' h' : Nat) (v u : Value) (ar t : List Int) (i q : Nat) (w : World) (he : endOf ar t i = some q) (hg : goodSign ar = true) (ht : t.length ≤ 1048576) (hi : i ≤ t.length) (hv : SlI l h w v ar) (hu : SlI l' h' w u t) :
    Calls Try.prog 43 #[.agg #[v], u, .int .i64 i] w (RetV w (.tuple #[.int .i64 q, .bool true])) := endP_some he ▸ termEnd_c l h l' h' v u ar t i w hg ht hi hv hu

/-- What PartAt answers. -/
def partAns (ar t : List Int) (i : Int) : List Int := if askOk ar t i then partOf t i.toNat ((endOf ar t i.toNat).getD 0) else []
theorem partAns_yes {ar t : List Int} {k q : Nat} (h : askOk ar t k = true) (he : endOf ar t k = some q) : partAns ar t k = partOf t k q := by simp [partAns, h, he]
theorem partAns_len (ar t : List Int) (i : Int) : (partAns ar t i).length ≤ 1048576 := by
  unfold partAns
  split
  · rename_i h
    obtain ⟨k, e, rfl, hk, he, _, hle, hl, _, _⟩ := ask_yes h
    simp only [Int.toNat_natCast, he, Option.getD_some]
    rw [partOf_len t k e hle]
    omega
  · exact Nat.zero_le _

theorem replaced_len_le (t r : List Int) (i q : Nat) (ht : t.length ≤ 1048576) (hr : r.length ≤ 1048576) : (replaced t i q r).length ≤ 1099511627776 := by
  simp [replaced]; omega

end Go.Proofs.Ytcgjdgpdbehikaa
end
