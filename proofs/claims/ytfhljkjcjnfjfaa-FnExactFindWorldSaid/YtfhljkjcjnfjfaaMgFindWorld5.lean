/- Texts merged, part 5. -/
import Derived.Test.YtfhljkjcjnfjfaaMgFindWorld4
section
/- DepthOf: both functions. -/
namespace Go.Proofs.Ytfhljkjcjnfjfaa
open Go.RowKit

/-- The greatest of some numbers, from m on. -/
def maxL (m : Nat) : List Nat → Nat
  | [] => m
  | x :: l => maxL (max m x) l
theorem maxL_snoc (m : Nat) (l : List Nat) (x : Nat) : maxL m (l ++ [x]) = max (maxL m l) x := by
  induction l generalizing m with
  | nil => rfl
  | cons y l ih => exact ih _
theorem maxL_le (m n : Nat) (l : List Nat) (hm : m ≤ n) (h : ∀ x ∈ l, x ≤ n) : maxL m l ≤ n := by
  induction l generalizing m with
  | nil => exact hm
  | cons y l ih => exact ih _ (by have := h y (by simp); omega) (fun x hx => h x (by simp [hx]))

def depthF (ar t : List Int) : Nat → Nat → Nat
  | 0, _ => 0
  | f + 1, i => 1 + maxL 0 ((argsOf ar t i).map (depthF ar t f))
/-- The depth of the subterm at i. -/
def depthAt (ar t : List Int) (i : Nat) : Nat := depthF ar t (t.length - i) i

theorem argsGo_bd (ar t : List Int) : ∀ (k p e : Nat), endGo ar (t.drop p) k p = some e → ∀ a ∈ argsGo ar t k p, p ≤ a ∧ a < e := by
  intro k
  induction k with
  | zero => intro p e _ a ha; simp [argsGo] at ha
  | succ k ih =>
    intro p e h a ha
    obtain ⟨q, hq, hr, hpq, hqe⟩ := ends_step ar t p k e h
    rw [argsGo_succ hq] at ha
    rcases List.mem_cons.1 ha with rfl | ha
    · omega
    · have := ih q e hr a ha; omega
theorem argsOf_bd (ar t : List Int) (h : okTerm ar t = true) (i : Nat) (hi : i < t.length) : ∀ a ∈ argsOf ar t i, i < a ∧ a < t.length := by
  obtain ⟨e, h1, h2⟩ := good_args ar t h i hi
  intro a ha
  have := argsGo_bd ar t _ _ _ h1 a ha
  omega
theorem depthF_fuel (ar t : List Int) (h : okTerm ar t = true) : ∀ (n i : Nat), i < t.length → t.length - i ≤ n → ∀ f, t.length - i ≤ f → depthF ar t f i = depthAt ar t i := by
  intro n
  induction n with
  | zero => intro i hi hn; omega
  | succ n ih =>
    intro i hi hn f hf
    obtain ⟨f, rfl⟩ : ∃ f', f = f' + 1 := ⟨f - 1, by omega⟩
    unfold depthAt
    obtain ⟨g, hg⟩ : ∃ g, t.length - i = g + 1 := ⟨t.length - i - 1, by omega⟩
    rw [hg, depthF, depthF]
    congr 2
    apply List.map_congr_left
    intro a ha
    have hb := argsOf_bd ar t h i hi a ha
    rw [ih a hb.2 (by omega) f (by omega), ih a hb.2 (by omega) g (by omega)]
theorem depthAt_eq (ar t : List Int) (h : okTerm ar t = true) (i : Nat) (hi : i < t.length) : depthAt ar t i = 1 + maxL 0 ((argsOf ar t i).map (depthAt ar t)) := by
  conv => lhs; unfold depthAt
  obtain ⟨g, hg⟩ : ∃ g, t.length - i = g + 1 := ⟨t.length - i - 1, by omega⟩
  rw [hg, depthF]
  congr 2
  apply List.map_congr_left
  intro a ha
  have hb := argsOf_bd ar t h i hi a ha
  exact depthF_fuel ar t h t.length a hb.2 (by omega) g (by omega)
theorem depthF_le (ar t : List Int) : ∀ f i, depthF ar t f i ≤ f := by
  intro f
  induction f with
  | zero => intro i; exact Nat.le_refl _
  | succ f ih =>
    intro i
    rw [depthF]
    have := maxL_le 0 f ((argsOf ar t i).map (depthF ar t f)) (Nat.zero_le _) (by intro x hx; simp at hx; obtain ⟨a, _, rfl⟩ := hx; exact ih a)
    omega
theorem depthAt_le (ar t : List Int) (i : Nat) : depthAt ar t i ≤ t.length := Nat.le_trans (depthF_le ar t _ i) (by omega)

theorem maxD_le (ar t : List Int) (l : List Nat) : maxL 0 (l.map (depthAt ar t)) ≤ t.length :=
  maxL_le 0 t.length _ (Nat.zero_le _) (by intro x hx; rw [List.mem_map] at hx; obtain ⟨a, _, rfl⟩ := hx; exact depthAt_le ar t a)
theorem l1Most_c (a b : Nat) (w : World) : Calls Try.prog 138 #[.int .i64 a, .int .i64 b] w (RetV w (.int .i64 ((max a b : Nat) : Int))) := by
  by_cases h : b < a
  · have E : Hid (max a b = a) := by show max a b = a; omega
    go_enter Try.func138, Try.ntmps138
    go_wp2_with fail
    go_ret
    exact ⟨by rw [E.out]; rfl, Bel.rfl' _⟩
  · have E : Hid (max a b = b) := by show max a b = b; omega
    go_enter Try.func138, Try.ntmps138
    go_wp2_with fail
    go_ret
    exact ⟨by rw [E.out]; rfl, Bel.rfl' _⟩

theorem natsI_get (l : List Nat) (k : Nat) (h : k < l.length) : (natsI l).getD k 0 = ((l.getD k 0 : Nat) : Int) := by simp [natsI, List.getD, h]
theorem maxL_step (d : Nat → Nat) (l : List Nat) (k : Nat) (h : k < l.length) : maxL 0 ((l.take (k+1)).map d) = max (maxL 0 ((l.take k).map d)) (d (l.getD k 0)) := by
  rw [List.take_succ_eq_append_getElem h, List.map_append]
  simp only [List.map_cons, List.map_nil]
  rw [maxL_snoc]
  simp [List.getD, h]

def depthAns (ar t : List Int) : Int := if goodTerm ar t then depthAt ar t 0 else 0
theorem depth_no {ar t : List Int} (h : goodTerm ar t = false) : depthAns ar t = 0 := by simp [depthAns, h]
theorem depth_yes {ar t : List Int} (h : goodTerm ar t = true) : depthAns ar t = depthAt ar t 0 := by simp [depthAns, h]

end Go.Proofs.Ytfhljkjcjnfjfaa
end
section
/- Replacing a subterm in a valid term. No program. -/
namespace Go.Proofs.Ytfhljkjcjnfjfaa

theorem endGo_shift (ar : List Int) : ∀ (r : List Int) (n p d : Nat), endGo ar r n (p + d) = (endGo ar r n p).map (· + d) := by
  intro r
  induction r with
  | nil => intro n p d; cases n <;> simp [endGo]
  | cons x r ih =>
    intro n p d
    cases n with
    | zero => simp [endGo_zero]
    | succ n =>
      rw [endGo_cons, endGo_cons]
      split
      · rw [show p + d + 1 = (p + 1) + d from by omega, ih]
      · rfl

theorem endGo_ext (ar : List Int) : ∀ (r s : List Int) (n p e : Nat), endGo ar r n p = some e → endGo ar (r ++ s) n p = some e := by
  intro r
  induction r with
  | nil =>
    intro s n p e h
    cases n with
    | zero => rw [endGo_zero] at h ⊢; exact h
    | succ n => simp [endGo_nil] at h
  | cons x r ih =>
    intro s n p e h
    cases n with
    | zero => rw [endGo_zero] at h ⊢; exact h
    | succ n =>
      rw [endGo_cons] at h
      rw [List.cons_append, endGo_cons]
      split at h
      · rw [if_pos ‹_›]; exact ih _ _ _ _ h
      · simp at h

/-- What is cut off behind the end does not matter. -/
theorem endGo_cut (ar : List Int) : ∀ (r s : List Int) (n p e : Nat), endGo ar (r ++ s) n p = some e → e ≤ p + r.length → endGo ar r n p = some e := by
  intro r
  induction r with
  | nil =>
    intro s n p e h he
    cases n with
    | zero => rw [endGo_zero] at h ⊢; exact h
    | succ n => have := endGo_gt _ _ _ _ _ h; simp at he; omega
  | cons x r ih =>
    intro s n p e h he
    cases n with
    | zero => rw [endGo_zero] at h ⊢; exact h
    | succ n =>
      rw [List.cons_append, endGo_cons] at h
      rw [endGo_cons]
      split at h
      · rw [if_pos ‹_›]; exact ih s _ _ _ h (by simp at he; omega)
      · simp at h

/-- Behind a head that does not come to the end. -/
theorem endGo_head (ar : List Int) : ∀ (a : List Int) (n p : Nat) (r : List Int) (e : Nat), endGo ar (a ++ r) n p = some e → p + a.length < e → ∃ m, ∀ s, endGo ar (a ++ s) n p = endGo ar s (m + 1) (p + a.length) := by
  intro a
  induction a with
  | nil =>
    intro n p r e h he
    cases n with
    | zero => rw [endGo_zero] at h; simp at h he; omega
    | succ n => exact ⟨n, fun s => by simp⟩
  | cons x a ih =>
    intro n p r e h he
    cases n with
    | zero => rw [endGo_zero] at h; simp at h he; omega
    | succ n =>
      rw [List.cons_append, endGo_cons] at h
      split at h
      · rename_i hx
        obtain ⟨m, hm⟩ := ih _ _ _ _ h (by simp at he; omega)
        exact ⟨m, fun s => by rw [List.cons_append, endGo_cons, if_pos hx, hm, List.length_cons]; congr 1; omega⟩
      · simp at h

/-- The term with the subterm at i, which ends at e, replaced by u. -/
def replaced (t : List Int) (i e : Nat) (u : List Int) : List Int := t.take i ++ u ++ t.drop e
theorem replaced_len (t u : List Int) (i e : Nat) (h1 : i ≤ e) (h2 : e ≤ t.length) : (replaced t i e u).length = i + u.length + (t.length - e) := by
  simp [replaced]; omega

theorem replaced_end (ar t u : List Int) (i e : Nat) (ht : okTerm ar t = true) (hu : okTerm ar u = true) (hi : i < t.length) (he : endOf ar t i = some e) :
    endOf ar (replaced t i e u) 0 = some (replaced t i e u).length := by
  obtain ⟨_, _, h3⟩ := (okTerm_iff ar t).1 ht
  obtain ⟨hu1, _, h4⟩ := (okTerm_iff ar u).1 hu
  unfold endOf at h3 h4 he ⊢
  rw [List.drop_zero] at h3 h4 ⊢
  have hge := endGo_ge _ _ _ _ _ he
  have hgt := endGo_gt _ _ _ _ _ he
  simp at hge
  have hcut : t = t.take i ++ t.drop i := (List.take_append_drop i t).symm
  rw [hcut] at h3
  have hl : (t.take i).length = i := by simp; omega
  obtain ⟨m, hm⟩ := endGo_head ar (t.take i) 1 0 (t.drop i) _ h3 (by rw [hl]; simp; omega)
  rw [hm, hl, Nat.zero_add, show m + 1 = 1 + m from by omega, endGo_add, he] at h3
  simp only [Option.bind_some, List.drop_drop, show i + (e - i) = e from by omega] at h3
  unfold replaced
  rw [List.append_assoc, hm, hl, Nat.zero_add, show m + 1 = 1 + m from by omega, endGo_add]
  have h5 : endGo ar (u ++ t.drop e) 1 i = some (u.length + i) := by
    have := endGo_shift ar (u ++ t.drop e) 1 0 i
    rw [Nat.zero_add] at this
    rw [this, endGo_ext ar u _ _ _ _ h4]; rfl
  rw [h5]
  simp only [Option.bind_some, show u.length + i - i = u.length from by omega, List.drop_left']
  have h6 := endGo_shift ar (t.drop e) m 0 e
  rw [Nat.zero_add, h3] at h6
  have h7 := endGo_shift ar (t.drop e) m 0 (u.length + i)
  rw [Nat.zero_add] at h7
  rw [h7]
  cases h8 : endGo ar (t.drop e) m 0 with
  | none => rw [h8] at h6; simp at h6
  | some z =>
    rw [h8] at h6
    simp only [Option.map_some, Option.some.injEq] at h6 ⊢
    simp at h6 ⊢
    omega

theorem replaced_ok (ar t u : List Int) (i e : Nat) (ht : okTerm ar t = true) (hu : okTerm ar u = true) (hi : i < t.length) (he : endOf ar t i = some e) :
    okTerm ar (replaced t i e u) = decide ((replaced t i e u).length ≤ 40) := by
  have h1 := replaced_end ar t u i e ht hu hi he
  have h2 := ((okTerm_iff ar u).1 hu).1
  have hge := endGo_ge _ _ _ _ _ he
  simp at hge
  have h3 := replaced_len t u i e (by omega) (by omega)
  rw [Bool.eq_iff_iff, okTerm_iff, decide_eq_true_eq]
  constructor
  · exact fun h => h.2.1
  · exact fun h => ⟨by omega, h, h1⟩

/-- A subterm is a term. -/
def partOf (t : List Int) (i e : Nat) : List Int := (t.drop i).take (e - i)
theorem partOf_len (t : List Int) (i e : Nat) (h : e ≤ t.length) : (partOf t i e).length = e - i := by simp [partOf]; omega
theorem partOf_ok (ar t : List Int) (i e : Nat) (ht : okTerm ar t = true) (hi : i < t.length) (he : endOf ar t i = some e) : okTerm ar (partOf t i e) = true := by
  have h1 := ((okTerm_iff ar t).1 ht).2.1
  have hge := endGo_ge _ _ _ _ _ he
  have hgt := endGo_gt _ _ _ _ _ he
  simp at hge
  have hl := partOf_len t i e (by omega)
  rw [okTerm_iff]
  refine ⟨by omega, by omega, ?_⟩
  unfold endOf at he ⊢
  rw [List.drop_zero, hl]
  have h2 : t.drop i = partOf t i e ++ (t.drop i).drop (e - i) := by unfold partOf; rw [List.take_append_drop]
  rw [h2] at he
  have h3 := endGo_cut ar _ _ _ _ _ he (by omega)
  have h4 := endGo_shift ar (partOf t i e) 1 0 i
  rw [Nat.zero_add, h3] at h4
  cases h5 : endGo ar (partOf t i e) 1 0 with
  | none => rw [h5] at h4; simp at h4
  | some z => rw [h5] at h4; simp at h4 ⊢; omega
theorem replaced_self (t : List Int) (i e : Nat) (h1 : i ≤ e) : replaced t i e (partOf t i e) = t := by
  unfold replaced partOf
  rw [List.append_assoc]
  have : List.take (e - i) (List.drop i t) ++ List.drop e t = List.drop i t := by
    have h := List.take_append_drop (e - i) (List.drop i t)
    rw [List.drop_drop, show i + (e - i) = e from by omega] at h
    exact h
  rw [this, List.take_append_drop]
end Go.Proofs.Ytfhljkjcjnfjfaa
end
section
/- Rows of terms, parts, instances: what needs no more than that. No program. -/
namespace Go.Proofs.Ytfhljkjcjnfjfaa
open Go.RowKit

/-- A row of k terms. -/
def seqT (ar : List Int) (k : Nat) (r : List Int) : Prop := endGo ar r k 0 = some r.length
theorem seqT_nil {ar : List Int} {k : Nat} (h : seqT ar k []) : k = 0 := by
  cases k with
  | zero => rfl
  | succ k => simp [seqT, endGo_nil] at h
theorem seqT_zero {ar r : List Int} (h : seqT ar 0 r) : r = [] := by
  unfold seqT at h
  rw [endGo_zero] at h
  simp at h
  exact List.length_eq_zero_iff.1 h.symm
theorem seqT_cons {ar : List Int} {k : Nat} {x : Int} {r : List Int} : seqT ar (k+1) (x :: r) ↔ okSym ar x = true ∧ seqT ar (k + arOf ar x) r := by
  unfold seqT
  rw [endGo_cons]
  constructor
  · intro h
    split at h
    · rename_i hs
      refine ⟨hs, ?_⟩
      have := endGo_shift ar r (k + arOf ar x) 0 1
      rw [Nat.zero_add] at this
      rw [Nat.zero_add, this] at h
      cases h2 : endGo ar r (k + arOf ar x) 0 with
      | none => rw [h2] at h; simp at h
      | some e => rw [h2] at h; simp at h; rw [h]
    · simp at h
  · rintro ⟨hs, h⟩
    rw [if_pos hs]
    have := endGo_shift ar r (k + arOf ar x) 0 1
    rw [Nat.zero_add] at this
    rw [Nat.zero_add, this, h]
    simp
theorem seqT_append {ar : List Int} : ∀ {r s : List Int} {a b : Nat}, seqT ar a r → seqT ar b s → seqT ar (a + b) (r ++ s) := by
  intro r
  induction r with
  | nil => intro s a b h1 h2; rw [seqT_nil h1, Nat.zero_add]; exact h2
  | cons x r ih =>
    intro s a b h1 h2
    cases a with
    | zero => have := seqT_zero h1; simp at this
    | succ a =>
      obtain ⟨hs, h1⟩ := seqT_cons.1 h1
      rw [List.cons_append, Nat.succ_add]
      refine seqT_cons.2 ⟨hs, ?_⟩
      have := ih h1 h2
      rwa [show a + b + arOf ar x = a + arOf ar x + b by omega]
theorem seq_prefix {ar : List Int} : ∀ {a b r s : List Int} {k : Nat}, seqT ar k a → seqT ar k b → a ++ r = b ++ s → a = b
  | [], b, _, _, k, ha, hb, _ => by rw [seqT_nil ha] at hb; exact (seqT_zero hb).symm
  | x :: a, b, r, s, k, ha, hb, e => by
    cases k with
    | zero => have := seqT_zero ha; simp at this
    | succ k =>
      cases b with
      | nil => have := seqT_nil hb; omega
      | cons y b =>
        rw [List.cons_append, List.cons_append, List.cons.injEq] at e
        obtain ⟨rfl, e⟩ := e
        rw [seq_prefix (seqT_cons.1 ha).2 (seqT_cons.1 hb).2 e]
theorem appT_append (V : List (List Int)) (s t : List Int) : appT V (s ++ t) = appT V s ++ appT V t := by simp [appT]
theorem appT_one (V : List (List Int)) (n : Int) : appT V [n] = one1 V n := by simp [appT]
theorem part_split {t : List Int} {p q e : Nat} (h1 : p ≤ q) (h2 : q ≤ e) : partOf t p e = partOf t p q ++ partOf t q e := by
  unfold partOf
  rw [show e - p = (q - p) + (e - q) by omega, List.take_add, List.drop_drop, show p + (q - p) = q by omega]
end Go.Proofs.Ytfhljkjcjnfjfaa
end
section
/- Chapter 5: the value of a term; of an instance. No program. -/
namespace Go.Proofs.Ytfhljkjcjnfjfaa
open Go.RowKit

/-- The entry of symbol n's table for the values vs. -/
def noOf (sz : Int) (vs : List Int) : Int := vs.foldl (fun no v => no * sz + v) 0
def entry (sz : Int) (tb : List (List Int)) (n : Int) (vs : List Int) : Int := (tb.getD n.toNat []).getD (noOf sz vs).toNat 0
def evF (ar t : List Int) (sz : Int) (tb : List (List Int)) (env : List Int) : Nat → Nat → Int
  | 0, _ => 0
  | f + 1, i => if t.getD i 0 < 0 then env.getD (-1 - t.getD i 0).toNat 0 else entry sz tb (t.getD i 0) ((argsOf ar t i).map (evF ar t sz tb env f))
def evT (ar : List Int) (sz : Int) (tb : List (List Int)) (env t : List Int) : Int := evF ar t sz tb env t.length 0

/-- The terms y have the values vs; none: one term; some m: m terms. -/
inductive Ev (ar : List Int) (sz : Int) (tb : List (List Int)) (env : List Int) : Option Nat → List Int → List Int → Prop
  | var (n : Int) : okSym ar n = true → n < 0 → Ev ar sz tb env none [n] [env.getD (-1 - n).toNat 0]
  | node (n : Int) (ys vs : List Int) : okSym ar n = true → 0 ≤ n → Ev ar sz tb env (some (arOf ar n)) ys vs → Ev ar sz tb env none (n :: ys) [entry sz tb n vs]
  | nil : Ev ar sz tb env (some 0) [] []
  | cons (m : Nat) (y ys : List Int) (v : Int) (vs : List Int) : Ev ar sz tb env none y [v] → Ev ar sz tb env (some m) ys vs → Ev ar sz tb env (some (m + 1)) (y ++ ys) (v :: vs)
section
variable {ar : List Int} {sz : Int} {tb : List (List Int)} {env : List Int}
theorem Ev.seq {s : Option Nat} {y vs : List Int} (h : Ev ar sz tb env s y vs) : seqT ar (match s with | none => 1 | some m => m) y := by
  induction h with
  | var n h1 h2 => exact seqT_cons.2 ⟨h1, by rw [arOf_neg h2]; rfl⟩
  | node n ys vs h1 h2 _ ih => exact seqT_cons.2 ⟨h1, by rw [Nat.zero_add]; exact ih⟩
  | nil => rfl
  | cons m y ys v vs _ _ ih1 ih2 =>
    have := seqT_append ih1 ih2
    rwa [Nat.add_comm] at this
theorem Ev.det {s : Option Nat} {y vs : List Int} (h : Ev ar sz tb env s y vs) : ∀ {z us : List Int}, Ev ar sz tb env s z us → z = y → us = vs := by
  induction h with
  | var n h1 h2 =>
    intro z us h' e
    cases h' with
    | var n' _ _ => simp at e; rw [e]
    | node n' ys' vs' _ h3 _ => simp at e; omega
  | node n ys vs h1 h2 _ ih =>
    intro z us h' e
    cases h' with
    | var n' _ h3 => simp at e; omega
    | node n' ys' vs' _ _ h4 =>
      simp at e
      obtain ⟨rfl, rfl⟩ := e
      rw [ih h4 rfl]
  | nil =>
    intro z us h' e
    cases h' with
    | nil => rfl
  | cons m y ys v vs hy hys ih1 ih2 =>
    intro z us h' e
    cases h' with
    | cons _ y' ys' v' vs' h3 h4 =>
      have e1 : y' = y := seq_prefix (show seqT ar 1 y' from h3.seq) (show seqT ar 1 y from hy.seq) e
      subst e1
      have e2 := List.append_cancel_left e
      subst e2
      have e3 := ih1 h3 rfl
      simp at e3
      rw [e3, ih2 h4 rfl]
theorem args_ev {t : List Int} {g : Nat → Int} : ∀ (k p e : Nat), endGo ar (t.drop p) k p = some e → (∀ a ∈ argsGo ar t k p, ∀ q, endOf ar t a = some q → Ev ar sz tb env none (partOf t a q) [g a]) → Ev ar sz tb env (some k) (partOf t p e) ((argsGo ar t k p).map g) := by
  intro k
  induction k with
  | zero =>
    intro p e h _
    rw [endGo_zero] at h
    simp at h
    subst h
    have : partOf t p p = [] := by simp [partOf]
    rw [this]
    exact Ev.nil
  | succ k ih =>
    intro p e h hp
    obtain ⟨q, hq, hr, h1, h2⟩ := ends_step ar t p k e h
    have hgo : argsGo ar t (k+1) p = p :: argsGo ar t k q := by rw [argsGo]; simp [hq]
    rw [hgo] at hp ⊢
    rw [part_split (Nat.le_of_lt h1) h2, List.map_cons]
    exact Ev.cons k _ _ _ _ (hp p List.mem_cons_self q hq) (ih q e hr (fun a ha => hp a (List.mem_cons_of_mem _ ha)))
theorem ev_at {t : List Int} (h : okTerm ar t = true) : ∀ (n i e : Nat), t.length - i ≤ n → i < t.length → endOf ar t i = some e → Ev ar sz tb env none (partOf t i e) [evF ar t sz tb env n i] := by
  intro n
  induction n with
  | zero => intro i e hn hi; omega
  | succ n ih =>
    intro i e hn hi he
    have hs := good_sym ar t h i hi
    have hend : endGo ar (t.drop (i+1)) (arOf ar (t.getD i 0)) (i+1) = some e := by
      have h1 := he
      unfold endOf at h1
      rw [drop_cons t i hi, endGo_cons, if_pos hs, Nat.zero_add] at h1
      exact h1
    have hge := endGo_ge _ _ _ _ _ hend
    have hpart : partOf t i e = t.getD i 0 :: partOf t (i+1) e := by
      unfold partOf
      rw [drop_cons t i hi, show e - i = (e - (i+1)) + 1 by omega, List.take_succ_cons]
    rw [hpart, evF]
    by_cases h0 : t.getD i 0 < 0
    · rw [if_pos h0]
      rw [arOf_neg h0, endGo_zero] at hend
      simp at hend
      subst hend
      have : partOf t (i+1) (i+1) = [] := by simp [partOf]
      rw [this]
      exact Ev.var _ hs h0
    · rw [if_neg h0]
      exact Ev.node _ _ _ hs (by omega) (args_ev _ (i+1) e hend (fun a ha q hq => by
        have hb := argsOf_bd ar t h i hi a ha
        exact ih a q (by omega) hb.2 hq))
/-- A valid term has its value. -/
theorem ev_whole {t : List Int} (h : okTerm ar t = true) : Ev ar sz tb env none t [evT ar sz tb env t] := by
  obtain ⟨h1, _, h3⟩ := (okTerm_iff ar t).1 h
  have := ev_at (sz := sz) (tb := tb) (env := env) h t.length 0 t.length (by omega) (by omega) h3
  rwa [show partOf t 0 t.length = t from by simp [partOf]] at this
theorem ev_eq {t : List Int} {n : Int} (h : okTerm ar t = true) (hv : Ev ar sz tb env none t [n]) : evT ar sz tb env t = n := by
  have := hv.det (ev_whole h) rfl
  simpa using this
/-- More fuel changes nothing. -/
theorem evF_fuel {t : List Int} (h : okTerm ar t = true) (n i : Nat) (hn : t.length - i ≤ n) (hi : i < t.length) : evF ar t sz tb env n i = evF ar t sz tb env (t.length - i) i := by
  obtain ⟨e, he, _⟩ := good_end ar t h i hi
  have h1 := ev_at (sz := sz) (tb := tb) (env := env) h n i e hn hi he
  have h2 := ev_at (sz := sz) (tb := tb) (env := env) h (t.length - i) i e (Nat.le_refl _) hi he
  have := h2.det h1 rfl
  simpa using this
/-- The value of an instance is the value under the values of the substitution. -/
theorem Ev.sub {env' : List Int} {b : List (List Int)} (hb : ∀ n : Int, okSym ar n = true → n < 0 → Ev ar sz tb env none (one1 b n) [env'.getD (-1 - n).toNat 0]) {s : Option Nat} {y vs : List Int} (h : Ev ar sz tb env' s y vs) : Ev ar sz tb env s (appT b y) vs := by
  induction h with
  | var n h1 h2 => rw [appT_one]; exact hb n h1 h2
  | node n ys vs h1 h2 _ ih =>
    have e : appT b (n :: ys) = n :: appT b ys := by
      show one1 b n ++ appT b ys = _
      rw [one1_sym (by omega)]; rfl
    rw [e]
    exact Ev.node n _ vs h1 h2 ih
  | nil => exact Ev.nil
  | cons m y ys v vs _ _ ih1 ih2 => rw [appT_append]; exact Ev.cons m _ _ v vs ih1 ih2
/-- The values that an assignment gives to a substitution. -/
def subEnv (ar : List Int) (sz : Int) (tb : List (List Int)) (env : List Int) (b : List (List Int)) : List Int := (List.range 12).map fun v => if 0 < (b.getD v []).length then evT ar sz tb env (b.getD v []) else env.getD v 0
theorem sub_value {b : List (List Int)} {t : List Int} (ht : okTerm ar t = true) (hb : ∀ v, v < 12 → 0 < (b.getD v []).length → okTerm ar (b.getD v []) = true) (hi : okTerm ar (appT b t) = true) :
    evT ar sz tb env (appT b t) = evT ar sz tb (subEnv ar sz tb env b) t := by
  refine ev_eq hi (Ev.sub (env' := subEnv ar sz tb env b) (fun n h1 h2 => ?_) (ev_whole ht))
  have hlt : (-1 - n).toNat < 12 := by unfold okSym inB at h1; simp at h1; omega
  have hg : (subEnv ar sz tb env b).getD (-1 - n).toNat 0 = if 0 < (b.getD (-1 - n).toNat []).length then evT ar sz tb env (b.getD (-1 - n).toNat []) else env.getD (-1 - n).toNat 0 := by
    unfold subEnv
    rw [List.getD_eq_getElem?_getD, List.getElem?_map, List.getElem?_range hlt]
    rfl
  rw [hg]
  by_cases hp : 0 < (b.getD (-1 - n).toNat []).length
  · rw [if_pos hp, one1_var h2 hp]
    exact ev_whole (hb _ hlt hp)
  · rw [if_neg hp, one1_free hp]
    exact Ev.var n h1 h2
end
end Go.Proofs.Ytfhljkjcjnfjfaa
end
section
/- Chapter 5: the values of terms lie in the world. No program. -/
namespace Go.Proofs.Ytfhljkjcjnfjfaa
open Go.RowKit

/-- The values of terms lie below the size. -/
theorem noOf_snoc (sz : Int) (vs : List Int) (v : Int) : noOf sz (vs ++ [v]) = noOf sz vs * sz + v := by simp [noOf]
theorem fold_bd {sz : Int} (h1 : 1 ≤ sz) : ∀ (vs : List Int) (acc : Int) (m : Nat), (∀ v ∈ vs, 0 ≤ v ∧ v ≤ sz - 1) → 0 ≤ acc → acc < ((sz.toNat ^ m : Nat) : Int) → 0 ≤ vs.foldl (fun no v => no * sz + v) acc ∧ vs.foldl (fun no v => no * sz + v) acc < ((sz.toNat ^ (m + vs.length) : Nat) : Int) := by
  intro vs
  induction vs with
  | nil => intro acc m _ h2 h3; exact ⟨h2, h3⟩
  | cons v vs ih =>
    intro acc m h h2 h3
    obtain ⟨v1, v2⟩ := h v (by simp)
    have hz : ((sz.toNat : Nat) : Int) = sz := by omega
    have h4 := Int.mul_nonneg h2 (show 0 ≤ sz by omega)
    have h5 : (acc + 1) * sz ≤ ((sz.toNat ^ m : Nat) : Int) * sz := Int.mul_le_mul_of_nonneg_right (by omega) (by omega)
    rw [Int.add_mul] at h5
    have h6 : ((sz.toNat ^ (m + 1) : Nat) : Int) = ((sz.toNat ^ m : Nat) : Int) * sz := by rw [Nat.pow_succ, Int.natCast_mul, hz]
    have := ih (acc * sz + v) (m + 1) (fun x hx => h x (by simp [hx])) (by omega) (by omega)
    rw [show m + (v :: vs).length = m + 1 + vs.length from by simp; omega]
    exact this
theorem noOf_bd {sz : Int} (h1 : 1 ≤ sz) (vs : List Int) (h : ∀ v ∈ vs, 0 ≤ v ∧ v ≤ sz - 1) : 0 ≤ noOf sz vs ∧ noOf sz vs < (longW sz vs.length : Nat) := by
  have := fold_bd h1 vs 0 0 h (Int.le_refl _) (by simp)
  rw [Nat.zero_add] at this
  exact this
theorem evT_bd {ar : List Int} {sz : Int} {tb : List (List Int)} {env : List Int} (_ : goodSign ar = true) (hw : isWorld ar sz tb = true) (he : okEnv sz env = true) {s : Option Nat} {y vs : List Int} (h : Ev ar sz tb env s y vs) :
    (∀ v ∈ vs, 0 ≤ v ∧ v ≤ sz - 1) ∧ vs.length = (match s with | none => 1 | some m => m) := by
  obtain ⟨w1, w2, w3, w4⟩ := isWorld_iff.1 hw
  obtain ⟨e1, e2⟩ := okEnv_iff.1 he
  induction h with
  | var n h1 h2 =>
    refine ⟨fun v hv => ?_, rfl⟩
    simp at hv
    subst hv
    exact e2 _ (by unfold okSym inB at h1; simp at h1; omega)
  | node n ys vs h1 h2 _ ih =>
    refine ⟨fun v hv => ?_, rfl⟩
    simp at hv
    subst hv
    have hn : n.toNat < tb.length := by unfold okSym inB at h1; simp at h1; omega
    obtain ⟨t1, t2⟩ := w4 n.toNat hn
    obtain ⟨i1, i2⟩ := ih
    simp only at i2
    have hb := noOf_bd w1 vs i1
    unfold entry
    refine t2 _ ?_
    rw [t1]
    have ha : (ar.getD n.toNat 0).toNat = vs.length := by rw [i2]; unfold arOf; rw [if_neg (by omega)]
    have : longW sz (ar.getD n.toNat 0) = longW sz (vs.length : Nat) := by unfold longW; rw [ha]; rfl
    omega
  | nil => exact ⟨fun v hv => by simp at hv, rfl⟩
  | cons m y ys v vs _ _ ih1 ih2 =>
    refine ⟨fun x hx => ?_, ?_⟩
    · rcases List.mem_cons.1 hx with rfl | hx
      · exact ih1.1 _ (by simp)
      · exact ih2.1 _ hx
    · simp at ih2 ⊢; exact ih2.2

end Go.Proofs.Ytfhljkjcjnfjfaa
end
section
/- Chapter 5: the value of a term, reckoned from its end. No program. -/
namespace Go.Proofs.Ytfhljkjcjnfjfaa
open Go.RowKit

/-- The values of the terms that a list is. -/
def sufV (ar : List Int) (sz : Int) (tb : List (List Int)) (env : List Int) : List Int → List Int
  | [] => []
  | n :: r => if n < 0 then env.getD (-1 - n).toNat 0 :: sufV ar sz tb env r else entry sz tb n ((sufV ar sz tb env r).take (arOf ar n)) :: (sufV ar sz tb env r).drop (arOf ar n)
section
variable {ar : List Int} {sz : Int} {tb : List (List Int)} {env : List Int}
theorem sufV_neg {n : Int} {r : List Int} (h : n < 0) : sufV ar sz tb env (n :: r) = env.getD (-1 - n).toNat 0 :: sufV ar sz tb env r := by rw [sufV, if_pos h]
theorem sufV_sym {n : Int} {r : List Int} (h : ¬ n < 0) : sufV ar sz tb env (n :: r) = entry sz tb n ((sufV ar sz tb env r).take (arOf ar n)) :: (sufV ar sz tb env r).drop (arOf ar n) := by rw [sufV, if_neg h]
theorem sufV_len : ∀ y : List Int, (sufV ar sz tb env y).length ≤ y.length := by
  intro y
  induction y with
  | nil => exact Nat.le_refl _
  | cons n r ih =>
    by_cases h : n < 0
    · rw [sufV_neg h]; simp; exact ih
    · rw [sufV_sym h]; simp; omega
theorem Ev.len {s : Option Nat} {y vs : List Int} (h : Ev ar sz tb env s y vs) : vs.length = (match s with | none => 1 | some m => m) := by
  induction h with
  | var n h1 h2 => rfl
  | node n ys vs h1 h2 _ ih => rfl
  | nil => rfl
  | cons m y ys v vs _ _ ih1 ih2 => simp at ih2 ⊢; exact ih2
theorem Ev.suf {s : Option Nat} {y vs : List Int} (h : Ev ar sz tb env s y vs) : ∀ r, sufV ar sz tb env (y ++ r) = vs ++ sufV ar sz tb env r := by
  induction h with
  | var n h1 h2 => intro r; exact sufV_neg h2
  | node n ys vs h1 h2 hy ih =>
    intro r
    have hl := hy.len
    simp only at hl
    show sufV ar sz tb env (n :: (ys ++ r)) = _
    rw [sufV_sym (by omega), ih r, ← hl, List.take_left', List.drop_left']
    · rfl
    · rfl
    · rfl
  | nil => intro r; rfl
  | cons m y ys v vs _ _ ih1 ih2 =>
    intro r
    rw [List.append_assoc, ih1, ih2]
    rfl
theorem suf_ev {t : List Int} (h : okTerm ar t = true) : ∀ (k i : Nat), t.length - i ≤ k → i ≤ t.length → ∃ m, Ev ar sz tb env (some m) (t.drop i) (sufV ar sz tb env (t.drop i)) := by
  intro k
  induction k with
  | zero =>
    intro i hk hi
    rw [List.drop_of_length_le (by omega)]
    exact ⟨0, Ev.nil⟩
  | succ k ih =>
    intro i hk hi
    by_cases hlt : i < t.length
    · obtain ⟨e, he, h1, h2⟩ : ∃ e, endOf ar t i = some e ∧ i < e ∧ e ≤ t.length := by
        obtain ⟨e, he, h2⟩ := good_end ar t h i hlt
        refine ⟨e, he, ?_, by omega⟩
        have hs := good_sym ar t h i hlt
        unfold endOf at he
        rw [drop_cons t i hlt, endGo_cons, if_pos hs, Nat.zero_add] at he
        have := endGo_ge _ _ _ _ _ he
        omega
      obtain ⟨m, hm⟩ := ih e (by omega) h2
      have hp := ev_at (sz := sz) (tb := tb) (env := env) h (t.length - i) i e (Nat.le_refl _) hlt he
      have hd : t.drop i = partOf t i e ++ t.drop e := by
        unfold partOf
        conv => lhs; rw [← List.take_append_drop (e - i) (t.drop i)]
        rw [List.drop_drop, show i + (e - i) = e from by omega]
      have hsuf := hp.suf (t.drop e)
      rw [← hd] at hsuf
      refine ⟨m + 1, ?_⟩
      rw [hsuf, hd]
      exact Ev.cons m _ _ _ _ hp hm
    · rw [List.drop_of_length_le (by omega)]
      exact ⟨0, Ev.nil⟩
theorem suf_all {t : List Int} (h : okTerm ar t = true) : sufV ar sz tb env t = [evT ar sz tb env t] := by
  have := (ev_whole (sz := sz) (tb := tb) (env := env) h).suf []
  rw [List.append_nil] at this
  exact this
theorem suf_bd (hg : goodSign ar = true) (hw : isWorld ar sz tb = true) (he : okEnv sz env = true) {t : List Int} (h : okTerm ar t = true) (i : Nat) (hi : i ≤ t.length) : ∀ v ∈ sufV ar sz tb env (t.drop i), 0 ≤ v ∧ v ≤ sz - 1 := by
  obtain ⟨m, hm⟩ := suf_ev (sz := sz) (tb := tb) (env := env) h (t.length - i) i (Nat.le_refl _) hi
  exact (evT_bd hg hw he hm).1
/-- The arguments of the symbol at i stand on top. -/
theorem suf_args {t : List Int} (h : okTerm ar t = true) (i : Nat) (hi : i < t.length) (hn : ¬ t.getD i 0 < 0) : arOf ar (t.getD i 0) ≤ (sufV ar sz tb env (t.drop (i+1))).length := by
  obtain ⟨m, hm⟩ := suf_ev (sz := sz) (tb := tb) (env := env) h (t.length - i) i (Nat.le_refl _) (by omega)
  rw [drop_cons t i hi, sufV_sym hn] at hm
  generalize hY : sufV ar sz tb env (t.drop (i+1)) = Y at *
  generalize hT : t.getD i 0 :: t.drop (i+1) = T at hm
  generalize hV : entry sz tb (t.getD i 0) (Y.take (arOf ar (t.getD i 0))) :: Y.drop (arOf ar (t.getD i 0)) = V at hm
  clear hV
  generalize t.getD i 0 = s at *
  cases hm with
  | nil => simp at hT
  | cons m y ys v vs h1 h2 =>
    cases h1 with
    | var n _ h3 =>
      simp at hT
      omega
    | node n ys' vs' _ _ h4 =>
      simp at hT
      obtain ⟨rfl, e2⟩ := hT
      have := h4.suf ys
      rw [← e2, hY] at this
      have hl := h4.len
      simp only at hl
      rw [this]; simp; omega
end

/-- The stack: forty numbers, the first value on top. -/
def Stk (w : World) (B : Nat) (vs : List Int) : Prop :=
  B < w.heap.size ∧ (∀ j, j < 40 → ∃ x : Int, w.cell? ⟨B, j, none⟩ = some (.int .i64 x) ∧ w.frozen? ⟨B, j, none⟩ = false) ∧ ∀ j, j < vs.length → w.cell? ⟨B, vs.length - 1 - j, none⟩ = some (.int .i64 (vs.getD j 0))
theorem Stk.new (w : World) (T : TypeId) (cs : Array Value) (hcs : cs = Array.replicate 40 (.int .i64 0)) : Stk (w.alloc (.cells cs T)) w.heap.size [] := by
  subst hcs
  refine ⟨by simp, fun j hj => ⟨0, ?_, ?_⟩, fun j h => by simp at h⟩
  · rw [World.cell?_alloc_new w]; simp [hj]
  · exact World.frozen?_alloc_at _ _ _ _ rfl
theorem Stk.below {w w' : World} {B : Nat} {vs : List Int} (h : Stk w B vs) (hb : Bel w w') : Stk w' B vs := by
  obtain ⟨h1, h2, h3⟩ := h
  refine ⟨Nat.lt_of_lt_of_le h1 hb.size, fun j hj => ?_, fun j a => hb.at h1 (h3 j a)⟩
  obtain ⟨x, e1, e2⟩ := h2 j hj
  exact ⟨x, hb.at h1 e1, (hb.frozen (p := ⟨B, j, none⟩) h1).trans e2⟩
theorem Stk.drop {w : World} {B : Nat} {vs : List Int} (h : Stk w B vs) (a : Nat) (ha : a ≤ vs.length) : Stk w B (vs.drop a) := by
  refine ⟨h.1, h.2.1, fun j hj => ?_⟩
  rw [List.length_drop] at hj ⊢
  have := h.2.2 (a + j) (by omega)
  rw [show vs.length - 1 - (a + j) = vs.length - a - 1 - j from by omega] at this
  rw [this]
  simp [List.getD, List.getElem?_drop]
theorem Stk.push {w : World} {B : Nat} {vs : List Int} (h : Stk w B vs) (x : Int) (hl : vs.length < 40) : Stk (w.setCell ⟨B, vs.length, none⟩ (.int .i64 x)) B (x :: vs) := by
  obtain ⟨h1, h2, h3⟩ := h
  obtain ⟨x0, e1, e2⟩ := h2 vs.length hl
  have hne : ∀ j, j ≠ vs.length → (⟨B, vs.length, none⟩ : Addr) ≠ ⟨B, j, none⟩ := by intro j h1 h2; simp only [Addr.mk.injEq, and_true, true_and] at h2; omega
  refine ⟨by simpa using h1, fun j hj => ?_, fun j a => ?_⟩
  · by_cases e : j = vs.length
    · subst e; exact ⟨_, World.cell?_setCell_same _ _ _ e1, by rw [World.frozen?_setCell]; exact e2⟩
    · obtain ⟨y, f1, f2⟩ := h2 j hj
      exact ⟨y, by rw [World.cell?_setCell_other (h := hne j e)]; exact f1, by rw [World.frozen?_setCell]; exact f2⟩
  · cases j with
    | zero =>
      rw [show (x :: vs).length - 1 - 0 = vs.length from by simp]
      exact World.cell?_setCell_same _ _ _ e1
    | succ j =>
      simp only [List.length_cons] at a
      rw [show (x :: vs).length - 1 - (j + 1) = vs.length - 1 - j from by simp; omega, World.cell?_setCell_other (h := hne _ (by omega))]
      simpa using h3 j (by omega)
end Go.Proofs.Ytfhljkjcjnfjfaa
end
section
/- Chapter 5, the reference: the value of a term, EvalIn. -/
namespace Go.Proofs.Ytfhljkjcjnfjfaa
open Go.RowKit

theorem evF_eq {ar t : List Int} {sz : Int} {tb : List (List Int)} {env : List Int} (h : okTerm ar t = true) {i : Nat} (hi : i < t.length) (h0 : ¬ t.getD i 0 < 0) :
    evF ar t sz tb env (t.length - i) i = entry sz tb (t.getD i 0) ((argsOf ar t i).map fun a => evF ar t sz tb env (t.length - a) a) := by
  obtain ⟨g, hg⟩ : ∃ g, t.length - i = g + 1 := ⟨t.length - i - 1, by omega⟩
  rw [hg, evF, if_neg h0]
  congr 1
  apply List.map_congr_left
  intro a ha
  have hb := argsOf_bd ar t h i hi a ha
  exact evF_fuel h g a (by omega) hb.2
theorem noOf_take {sz : Int} (f : Nat → Int) (l : List Nat) (k : Nat) (hk : k < l.length) : noOf sz ((l.take (k+1)).map f) = noOf sz ((l.take k).map f) * sz + f (l.getD k 0) := by
  rw [List.take_succ_eq_append_getElem hk, List.map_append]
  simp only [List.map_cons, List.map_nil]
  rw [noOf_snoc]
  simp [List.getD, hk]
end Go.Proofs.Ytfhljkjcjnfjfaa
end
section
/- Chapter 5, the reference: the value of a term. -/
namespace Go.Proofs.Ytfhljkjcjnfjfaa
open Go.RowKit

theorem evA_bd {ar t : List Int} {sz : Int} {tb : List (List Int)} {env : List Int} (hg : goodSign ar = true) (hw : isWorld ar sz tb = true) (he : okEnv sz env = true) (h : okTerm ar t = true) {i : Nat} (hi : i < t.length) :
    0 ≤ evF ar t sz tb env (t.length - i) i ∧ evF ar t sz tb env (t.length - i) i ≤ sz - 1 := by
  obtain ⟨e, he', _⟩ := good_end ar t h i hi
  exact (evT_bd hg hw he (ev_at (sz := sz) (tb := tb) (env := env) h _ i e (Nat.le_refl _) hi he')).1 _ (by simp)
theorem sub_ex {a b : Nat} (h : b < a) : ∃ g, a - b = g + 1 := ⟨a - b - 1, by omega⟩
theorem sub_lt2 {L i a n : Nat} (h1 : L - i ≤ n + 1) (h2 : i < a) : L - a ≤ n := by omega
theorem noOf_le {sz : Int} (h1 : 1 ≤ sz) (h3 : sz ≤ 3) (vs : List Int) (h : ∀ v ∈ vs, 0 ≤ v ∧ v ≤ sz - 1) (hl : vs.length ≤ 3) : 0 ≤ noOf sz vs ∧ noOf sz vs ≤ 26 := by
  have := noOf_bd h1 vs h
  have h2 := longW_le h3 (show ((vs.length : Nat) : Int) ≤ 3 by omega)
  omega

set_option maxRecDepth 100000 in
set_option maxHeartbeats 2000000 in
theorem l5Eval_c (l h l' h' l2 h2 l3 h3 : Nat) (v u vt ve : Value) (ar : List Int) (sz : Int) (tb : List (List Int)) (t env : List Int) (hg : goodSign ar = true) (hw : isWorld ar sz tb = true) (he : okEnv sz env = true) (hok : okTerm ar t = true) :
    ∀ (n i : Nat) (w : World), t.length - i ≤ n → i < t.length → SlI l h w v ar → SlS l' h' w u tb → SlI l2 h2 w vt t → SlI l3 h3 w ve env →
      Calls Try.prog 90 #[.agg #[v], .agg #[.int .i64 sz, u], vt, .int .i64 i, ve] w (RetV w (.int .i64 (evF ar t sz tb env (t.length - i) i))) := by
  intro n
  induction n with
  | zero => intro i w hn hi; omega
  | succ n ih =>
    intro i w hn hi hv hu ht hve
    obtain ⟨w1, w2, w3, w4⟩ := isWorld_iff.1 hw
    obtain ⟨e1, e2⟩ := okEnv_iff.1 he
    have hs := good_sym ar t hok i hi
    have htl := ((okTerm_iff ar t).1 hok).2.1
    have ht0 := ht
    have hve0 := hve
    have IH := Lib.hid ih; clear ih
    have HB : Bel w ((w.alloc (.cells #[v] 30)).alloc (.cells #[.int .i64 sz, u] 46)) := Bel.alloc2 _ _ _
    obtain ⟨at', ct, rfl, -, -, hrt⟩ := ht
    obtain ⟨bt, offt, rfl, hbtl, hct⟩ := rd hrt (Bel.rfl' w) i hi
    by_cases hneg : t.getD i 0 < 0
    · have E : Hid (evF ar t sz tb env (t.length - i) i = env.getD (-1 - t.getD i 0).toNat 0) := by
        show _ = _
        obtain ⟨g, hg'⟩ := sub_ex hi
        rw [hg', evF, if_pos hneg]
      rw [E.out]
      obtain ⟨j, hj⟩ : ∃ j : Nat, t.getD i 0 = -1 - (j : Int) := ⟨(-1 - t.getD i 0).toNat, by omega⟩
      have hj12 : j < 12 := by unfold okSym inB at hs; simp at hs; rw [← List.getD_eq_getElem?_getD, hj] at hs; omega
      rw [hj] at hct ⊢
      rw [show (-1 - (-1 - (j : Int))).toNat = j by omega]
      obtain ⟨ae, ce, rfl, -, -, hre⟩ := hve
      obtain ⟨be, offe, rfl, hbel, hce⟩ := rd hre (Bel.rfl' w) j (by omega)
      have hct' := HB.at hbtl hct
      have hce' := HB.at hbel hce
      have hw1 := IntWalk.i64_in (-1 - (-1 - (j : Int))) (by omega)
      have hjj : -1 - (-1 - (j : Int)) = (j : Int) := by omega
      rw [hjj] at hw1
      have hjl : (j : Int) < env.length := by omega
      have hneg2 : decide ((-1 - (j : Int)) < 0) = true := by simp; omega
      generalize env.getD j 0 = val at *
      clear hrt hre hve0 ht0 IH E hneg hj
      go_enter Try.func90, Try.ntmps90
      go_wp2_with fail
      go_ret
      exact ⟨rfl, HB⟩
    · obtain ⟨m, hm⟩ : ∃ m : Nat, t.getD i 0 = (m : Int) := ⟨(t.getD i 0).toNat, by omega⟩
      have EE := evF_eq (sz := sz) (tb := tb) (env := env) hok hi hneg
      have hargs := argsOf_bd ar t hok i hi
      have hal : (argsOf ar t i).length ≤ 3 := by rw [argsOf_len]; exact arOf_le ar hg _
      have hal2 : (argsOf ar t i).length = (ar.getD m 0).toNat := by rw [argsOf_len, hm, arOf_nat]
      have hmt : m < tb.length := by rw [hm] at hs; have := okSym_lt hs; omega
      clear w3
      have HA := Lib.hid (fun (w' : World) (hb : Bel w w') => l1Args_c l h l2 h2 v _ ar t i w' hg hok hi (hv.below hb) (ht0.below hb))
      have HE := Lib.hid (fun (a : Nat) (w' : World) (ha : a ∈ argsOf ar t i) (hb : Bel w w') => IH.out a w' (sub_lt2 hn (hargs a ha).1) (hargs a ha).2 (hv.below hb) (hu.below hb) (ht0.below hb) (hve0.below hb))
      have HV := Lib.hid (fun (a : Nat) (ha : a ∈ argsOf ar t i) => evA_bd (env := env) hg hw he hok (hargs a ha).2)
      have HN : Hid (∀ k, k ≤ (argsOf ar t i).length → 0 ≤ noOf sz (((argsOf ar t i).take k).map fun a => evF ar t sz tb env (t.length - a) a) ∧ noOf sz (((argsOf ar t i).take k).map fun a => evF ar t sz tb env (t.length - a) a) ≤ 26) := fun k hk => by
        refine noOf_le w1 w2 _ (fun x hx => ?_) (by simp; omega)
        obtain ⟨a, ha, rfl⟩ := List.mem_map.1 hx
        exact HV.out a (List.mem_of_mem_take ha)
      have HT : Hid (∀ k, k < (argsOf ar t i).length → noOf sz (((argsOf ar t i).take (k+1)).map fun a => evF ar t sz tb env (t.length - a) a) = noOf sz (((argsOf ar t i).take k).map fun a => evF ar t sz tb env (t.length - a) a) * sz + evF ar t sz tb env (t.length - (argsOf ar t i).getD k 0) ((argsOf ar t i).getD k 0)) := fun k hk => noOf_take _ _ k hk
      have HTB := Lib.hid (w4 m hmt)
      have HNL : Hid (noOf sz ((argsOf ar t i).map fun a => evF ar t sz tb env (t.length - a) a) < ((tb.getD m []).length : Nat)) := by
        show _ < _
        have := noOf_bd w1 ((argsOf ar t i).map fun a => evF ar t sz tb env (t.length - a) a) (fun x hx => by obtain ⟨a, ha, rfl⟩ := List.mem_map.1 hx; exact HV.out a ha)
        rw [(w4 m hmt).1]
        rw [List.length_map, hal2] at this
        exact this.2
      rw [hm] at EE hct
      unfold entry at EE
      simp only [Int.toNat_natCast] at EE
      have HEE := Lib.hid EE
      rw [EE]
      clear EE hs hneg hm hrt hal2
      generalize hFF : (fun a => evF ar t sz tb env (t.length - a) a) = F at *
      have HE2 : Hid (∀ (a : Nat) (w' : World), a ∈ argsOf ar t i → Bel w w' → Calls Try.prog 90 #[.agg #[v], .agg #[.int .i64 sz, u], .slice (some ⟨bt, offt, none⟩) t.length ct, .int .i64 a, ve] w' (RetV w' (.int .i64 (F a)))) := fun a w' ha hb => by have := HE.out a w' ha hb; rw [← hFF]; exact this
      have HV2 : Hid (∀ a, a ∈ argsOf ar t i → 0 ≤ F a ∧ F a ≤ sz - 1) := fun a ha => by have := HV.out a ha; rw [← hFF]; exact this
      have HT2 : Hid (∀ k, k < (argsOf ar t i).length → noOf sz (((argsOf ar t i).take (k+1)).map F) = noOf sz (((argsOf ar t i).take k).map F) * sz + F ((argsOf ar t i).getD k 0)) := fun k hk => by have := HT.out k hk; rw [this, ← hFF]
      clear HE HV HT HEE hFF
      obtain ⟨au, cu, rfl⟩ := hu.form
      go_enter Try.func90, Try.ntmps90
      have hct' := HB.at hbtl hct
      go_wp2_with fail
      refine (HA.out _ HB).mono ?_; rintro e W ⟨ad, q, c, rfl, ho, hb1⟩
      have HW := HB.step hb1
      have zW : w.heap.size + 1 < W.heap.size := by have := hb1.size; simp at this; omega
      have k0 := hb1.at (b := w.heap.size) (off := 0) (by simp; omega) (show World.cell? _ _ = some v by simp [go_sem])
      have k1 := hb1.at (b := w.heap.size + 1) (off := 0) (by simp) (show World.cell? _ _ = some (.int .i64 sz) by simp [go_sem])
      have k2 := hb1.at (b := w.heap.size + 1) (off := 1) (by simp) (show World.cell? _ _ = some (.slice au tb.length cu) by simp [go_sem])
      obtain ⟨ad', cap', e, -, -, hr⟩ := ho.1
      simp only [Value.slice.injEq] at e
      obtain ⟨rfl, rfl, rfl⟩ := e
      rw [natsI_len] at hr ⊢
      generalize argsOf ar t i = args at *
      clear HA hb1 ho
      go_wp2_with fail
      go_loopw [11, 32] (fun no j wr => ∃ k : Nat, k ≤ args.length ∧ j = .int .i64 k ∧ no = .int .i64 (noOf sz ((args.take k).map F)) ∧ Bel W wr) (fun _ j _ => args.length - (intOf j).toNat)
      case atStart => exact ⟨0, Nat.zero_le _, rfl, rfl, Bel.rfl' _⟩
      case round =>
        obtain ⟨k, hk, rfl, rfl, hbw⟩ := hrel
        have q0 := hbw.at (by omega) k0
        have q1 := hbw.at zW k1
        have q2 := hbw.at zW k2
        have hn0 := HN.out k hk
        have hbt2 : bt < wr.heap.size := Nat.lt_of_lt_of_le hbtl (HW.step hbw).size
        have zr1 : w.heap.size + 1 < wr.heap.size := Nat.lt_of_lt_of_le zW hbw.size
        have zr0 : w.heap.size < wr.heap.size := by omega
        by_cases hlt : k < args.length
        · obtain ⟨b, off, e2, -, -, hc⟩ := hr (by omega)
          subst e2
          have hcell := (hbw.cell (p := ⟨b, off + k, none⟩) (World.block_lt_of_cell? W ⟨b, off + k, none⟩ (hc k hlt))).trans (hc k hlt)
          rw [natsI_get _ _ hlt] at hcell
          have hmem : args.getD k 0 ∈ args := by simp [List.getD, hlt]
          have hva := HV2.out _ hmem
          have HS := Lib.hid (HT2.out k hlt)
          have HC := Lib.hid (fun (w' : World) (hb : Bel w w') => HE2.out _ w' hmem hb)
          have hmul : noOf sz ((args.take k).map F) * sz ≤ noOf sz ((args.take k).map F) * 3 := Int.mul_le_mul_of_nonneg_left w2 hn0.1
          have hmul0 := Int.mul_nonneg hn0.1 (show 0 ≤ sz by omega)
          clear hr hc hmem HE2 HV2 HT2 HN
          generalize noOf sz ((args.take k).map F) = no at *
          generalize args.getD k 0 = a at *
          generalize F a = fa at *
          have i1 := IntWalk.i64_in (no * sz) (by omega)
          have i2 := IntWalk.i64_in (no * sz + fa) (by omega)
          clear hmul hmul0
          go_wp2_with fail
          go_region_held3 (fun w' => Bel wr w' ∧ w'.cell? ⟨w.heap.size + 1, 0, none⟩ = some (.int .i64 sz) ∧ w'.cell? ⟨w.heap.size + 1, 1, none⟩ = some (.slice au tb.length cu) ∧ w'.cell? ⟨w.heap.size, 0, none⟩ = some v)
            (first | exact ⟨Bel.drew0 _, q1, q2, q0⟩ | exact ⟨HB8, HB8.at zr1 q1, HB8.at zr1 q2, HB8.at zr0 q0⟩ | fail)
            (first | (go_at_call 90; refine (HC.out _ ((HW.step hbw).step (Bel.drew0 _))).mono ?_; rintro e w8 ⟨rfl, hb8⟩; have HB8 := hb8.of_drew) | fail)
          go_wp2_with fail
          go_roundw
          case rel => exact ⟨k+1, by omega, by go_num, by rw [HS.out], hbw.step HB8⟩
          case measure => simp [intOf]; omega
        · obtain rfl : k = args.length := by omega
          rw [List.take_length] at hn0 ⊢
          obtain ⟨bb, off, u1, rfl, hbs, c1, s1⟩ := hu.at (HW.step hbw) m hmt
          obtain ⟨x1, x2, rfl, -, -, hrx⟩ := s1
          obtain ⟨N, hN⟩ : ∃ N : Nat, noOf sz (args.map F) = (N : Int) := ⟨(noOf sz (args.map F)).toNat, by omega⟩
          have HVAL : Hid ((tb.getD m []).getD (noOf sz (args.map F)).toNat 0 = (tb.getD m []).getD N 0) := by show _ = _; rw [hN, Int.toNat_natCast]
          have hnl := HNL.out
          rw [hN] at hnl hn0 ⊢
          rw [Int.toNat_natCast]
          have hNL : N < (tb.getD m []).length := by omega
          obtain ⟨bx, ofy, rfl, hyl, hcy⟩ := rd hrx (Bel.rfl' _) N hNL
          have hct2 := (HW.step hbw).at hbtl hct
          clear hr hrx HE2 HV2 HT2 HN HNL HTB
          generalize (tb.getD m []).getD N 0 = val at *
          generalize (tb.getD m []).length = xl at *
          have hil : (i : Int) < t.length := by omega
          have hml : (m : Int) < tb.length := by omega
          go_wp2_with fail
          go_region_held3 (fun w' => Bel wr w' ∧ w'.cell? ⟨w.heap.size + 1, 1, none⟩ = some (.slice (some ⟨bb, off, none⟩) tb.length cu) ∧ w'.cell? ⟨bt, offt + i, none⟩ = some (.int .i64 m) ∧ w'.cell? ⟨bb, off + m, none⟩ = some (.slice (some ⟨bx, ofy, none⟩) xl x2) ∧ w'.cell? ⟨bx, ofy + N, none⟩ = some (.int .i64 val))
            (first | exact ⟨Bel.drew0 _, q2, hct2, c1, hcy⟩ | fail)
            (first | fail)
          go_wp2_with fail
          go_ret
          exact ⟨by rw [HVAL.out]; rfl, (HW.step hbw).step (Bel.drew0 _)⟩
end Go.Proofs.Ytfhljkjcjnfjfaa
end
section
/- Chapter 5, the reference: EvalIn, HoldsAt. -/
namespace Go.Proofs.Ytfhljkjcjnfjfaa
open Go.RowKit

def evalOk (ar : List Int) (sz : Int) (tb : List (List Int)) (t env : List Int) : Bool := goodWorld ar sz tb && (okTerm ar t && okEnv sz env)
def evalAns (ar : List Int) (sz : Int) (tb : List (List Int)) (t env : List Int) : Int := if evalOk ar sz tb t env then evT ar sz tb env t else 0

set_option maxRecDepth 100000 in
set_option maxHeartbeats 400000 in
theorem l5Env_c (l h : Nat) (u v : Value) (sz : Int) (env : List Int) (w : World) (h1 : 1 ≤ sz) (h3 : sz ≤ 3) (hx : env.length ≤ 1048576) (hv : SlI l h w v env) :
    Calls Try.prog 89 #[.agg #[.int .i64 sz, u], v] w (RetV w (.bool (okEnv sz env))) := by
  unfold okEnv
  have hv0 := hv
  obtain ⟨ad, cap, rfl⟩ := hv.form
  by_cases h12 : env.length = 12
  · rw [decide_eq_true h12, Bool.true_and]
    have he : ((env.length : Int) == 12) = true := by rw [h12]; rfl
    have hw1 := IntWalk.i64_in (sz - 1) (by omega)
    cases hq : env.all (fun x => inB x 0 (sz - 1)) with
    | false =>
      have HA := Lib.hid (fun (w' : World) (hb : Bel w w') => l1All_v _ _ _ env 0 (sz - 1) w' false hq hx (hv0.below hb))
      clear hq hv hv0 h12
      go_enter Try.func89, Try.ntmps89
      go_wp2_with fail
      refine (HA.out _ (Bel.alloc0 _ _)).mono ?_; rintro e w1 ⟨rfl, hb1⟩
      go_wp2_with fail
      go_ret
      exact ⟨rfl, hb1.of_alloc⟩
    | true =>
      have HA := Lib.hid (fun (w' : World) (hb : Bel w w') => l1All_v _ _ _ env 0 (sz - 1) w' true hq hx (hv0.below hb))
      clear hq hv hv0 h12
      go_enter Try.func89, Try.ntmps89
      go_wp2_with fail
      refine (HA.out _ (Bel.alloc0 _ _)).mono ?_; rintro e w1 ⟨rfl, hb1⟩
      go_wp2_with fail
      go_ret
      exact ⟨rfl, hb1.of_alloc⟩
  · rw [decide_eq_false h12, Bool.false_and]
    have he : ((env.length : Int) == 12) = false := beq_eq_false_iff_ne.2 (by omega)
    clear h12
    go_enter Try.func89, Try.ntmps89
    go_wp2_with fail
    go_ret
    exact ⟨rfl, Bel.alloc0 _ _⟩
theorem l5Env_v (l h : Nat) (u v : Value) (sz : Int) (env : List Int) (q : Bool) (w : World) (he : okEnv sz env = q) (h1 : 1 ≤ sz) (h3 : sz ≤ 3) (hx : env.length ≤ 1048576) (hv : SlI l h w v env) :
    Calls Try.prog 89 #[.agg #[.int .i64 sz, u], v] w (RetV w (.bool q)) := by subst he; exact l5Env_c l h u v sz env w h1 h3 hx hv

set_option maxRecDepth 100000 in
set_option maxHeartbeats 1000000 in
theorem sEvalIn_t {l h l' h' l2 h2 l3 h3 : Nat} {v u vt ve : Value} {ar : List Int} {sz : Int} {tb : List (List Int)} {t env : List Int} {w : World} (ha : ar.length ≤ 1048576) (hv : SlI l h w v ar) (hx : short tb) (hu : SlS l' h' w u tb) (htl : t.length ≤ 1048576) (ht : SlI l2 h2 w vt t) (hel : env.length ≤ 1048576) (he : SlI l3 h3 w ve env) :
    Calls Try.prog 39 #[.agg #[v], .agg #[.int .i64 sz, u], vt, ve] w (RetV w (.tuple #[.int .i64 (evalAns ar sz tb t env), .bool (evalOk ar sz tb t env)])) := by
  unfold evalAns evalOk
  have HB : Bel w ((w.alloc (.cells #[v] 30)).alloc (.cells #[.int .i64 sz, u] 46)) := Bel.alloc2 _ _ _
  have HK : Hid (∀ w', Bel ((w.alloc (.cells #[v] 30)).alloc (.cells #[.int .i64 sz, u] 46)) w' → w'.cell? ⟨w.heap.size, 0, none⟩ = some v ∧ w'.cell? ⟨w.heap.size + 1, 0, none⟩ = some (.int .i64 sz) ∧ w'.cell? ⟨w.heap.size + 1, 1, none⟩ = some u) := fun w' hb =>
    ⟨hb.at (by simp; omega) (by simp [go_sem]), hb.at (by simp) (by simp [go_sem]), hb.at (by simp) (by simp [go_sem])⟩
  cases hg : goodWorld ar sz tb with
  | false =>
    rw [Bool.false_and, if_neg (by simp)]
    have HC := Lib.hid (fun (w' : World) (hb : Bel w w') => sGoodWorld_v hg ha (hv.below hb) hx (hu.below hb)); clear hg
    go_enter Try.func39, Try.ntmps39
    go_wp2_with fail
    refine (HC.out _ HB).mono ?_; rintro e w1 ⟨rfl, hb1⟩
    go_wp2_with fail
    go_ret2
    exact ⟨rfl, HB.step hb1⟩
  | true =>
    rw [Bool.true_and]
    obtain ⟨hgs, hiw⟩ := goodWorld_iff.1 hg
    obtain ⟨z1, z3, _, _⟩ := isWorld_iff.1 hiw
    have HC := Lib.hid (fun (w' : World) (hb : Bel w w') => sGoodWorld_v hg ha (hv.below hb) hx (hu.below hb)); clear hg
    cases hq : okTerm ar t with
    | false =>
      rw [Bool.false_and, if_neg (by simp)]
      have HT := Lib.hid (fun (w' : World) (hb : Bel w w') => l1Term_v l h l2 h2 v vt ar t false w' hq hgs htl (hv.below hb) (ht.below hb)); clear hq
      go_enter Try.func39, Try.ntmps39
      go_wp2_with fail
      refine (HC.out _ HB).mono ?_; rintro e w1 ⟨rfl, hb1⟩
      obtain ⟨x0, x1, x2⟩ := HK.out _ hb1
      go_wp2_with fail
      refine (HT.out _ (HB.step hb1)).mono ?_; rintro e w2 ⟨rfl, hb2⟩
      go_wp2_with fail
      go_ret2
      exact ⟨rfl, (HB.step hb1).step hb2⟩
    | true =>
      rw [Bool.true_and]
      have HT := Lib.hid (fun (w' : World) (hb : Bel w w') => l1Term_v l h l2 h2 v vt ar t true w' hq hgs htl (hv.below hb) (ht.below hb))
      cases hp : okEnv sz env with
      | false =>
        rw [if_neg (by simp)]
        have HE := Lib.hid (fun (w' : World) (hb : Bel w w') => l5Env_v l3 h3 u ve sz env false w' hp z1 z3 hel (he.below hb))
        clear hq hp
        go_enter Try.func39, Try.ntmps39
        go_wp2_with fail
        refine (HC.out _ HB).mono ?_; rintro e w1 ⟨rfl, hb1⟩
        obtain ⟨x0, x1, x2⟩ := HK.out _ hb1
        go_wp2_with fail
        refine (HT.out _ (HB.step hb1)).mono ?_; rintro e w2 ⟨rfl, hb2⟩
        obtain ⟨y0, y1, y2⟩ := HK.out _ (hb1.step hb2)
        go_wp2_with fail
        refine (HE.out _ ((HB.step hb1).step hb2)).mono ?_; rintro e w3 ⟨rfl, hb3⟩
        go_wp2_with fail
        go_ret2
        exact ⟨rfl, ((HB.step hb1).step hb2).step hb3⟩
      | true =>
        rw [if_pos rfl]
        have HE := Lib.hid (fun (w' : World) (hb : Bel w w') => l5Env_v l3 h3 u ve sz env true w' hp z1 z3 hel (he.below hb))
        have HV := Lib.hid (fun (w' : World) (hb : Bel w w') => l5Eval_c l h l' h' l2 h2 l3 h3 v u vt ve ar sz tb t env hgs hiw hp hq t.length 0 w' (by omega) (((okTerm_iff ar t).1 hq).1) (hv.below hb) (hu.below hb) (ht.below hb) (he.below hb))
        have HV : Hid (∀ (w' : World), Bel w w' → Calls Try.prog 90 #[.agg #[v], .agg #[.int .i64 sz, u], vt, .int .i64 0, ve] w' (RetV w' (.int .i64 (evT ar sz tb env t)))) := HV
        clear hq hp
        generalize evT ar sz tb env t = val at *
        go_enter Try.func39, Try.ntmps39
        go_wp2_with fail
        refine (HC.out _ HB).mono ?_; rintro e w1 ⟨rfl, hb1⟩
        obtain ⟨x0, x1, x2⟩ := HK.out _ hb1
        go_wp2_with fail
        refine (HT.out _ (HB.step hb1)).mono ?_; rintro e w2 ⟨rfl, hb2⟩
        obtain ⟨y0, y1, y2⟩ := HK.out _ (hb1.step hb2)
        go_wp2_with fail
        refine (HE.out _ ((HB.step hb1).step hb2)).mono ?_; rintro e w3 ⟨rfl, hb3⟩
        obtain ⟨v0, v1, v2⟩ := HK.out _ ((hb1.step hb2).step hb3)
        go_wp2_with fail
        refine (HV.out _ (((HB.step hb1).step hb2).step hb3)).mono ?_; rintro e w4 ⟨rfl, hb4⟩
        go_wp2_with fail
        go_ret2
        exact ⟨rfl, (((HB.step hb1).step hb2).step hb3).step hb4⟩
end Go.Proofs.Ytfhljkjcjnfjfaa
end
section
/- Lists of terms that are valid: both functions; the reference's also at signs that are not. -/
namespace Go.Proofs.Ytfhljkjcjnfjfaa
open Go.RowKit

def goodTerms (ar : List Int) (b : List (List Int)) (m : Nat) : Bool := goodSign ar && decide (b.length ≤ m) && b.all (okTerm ar)
theorem goodTerms_iff {ar : List Int} {b : List (List Int)} {m : Nat} : goodTerms ar b m = true ↔ goodSign ar = true ∧ b.length ≤ m ∧ ∀ t ∈ b, okTerm ar t = true := by
  simp only [goodTerms, Bool.and_eq_true, decide_eq_true_eq, List.all_eq_true]
  constructor
  · rintro ⟨⟨h1, h2⟩, h3⟩; exact ⟨h1, h2, h3⟩
  · rintro ⟨h1, h2, h3⟩; exact ⟨⟨h1, h2⟩, h3⟩

set_option maxRecDepth 100000 in
set_option maxHeartbeats 400000 in
theorem goodTerms_c (l h l' h' : Nat) (v u : Value) (ar : List Int) (b : List (List Int)) (m : Nat) (w : World) (hmm : m ≤ 1000) (ha : ar.length ≤ 1048576) (hv : SlI l h w v ar) (hb : short b) (hu : SlS l' h' w u b) :
    Calls Try.prog 119 #[.agg #[v], u, .int .i64 m] w (RetV w (.bool (goodTerms ar b m))) := by
  obtain ⟨ad', cap', rfl⟩ := hu.form
  obtain ⟨-, hm⟩ := hb
  by_cases hl : b.length ≤ m
  · have hl2 : decide (m < b.length) = false := by simp; omega
    cases hs : goodSign ar with
    | false =>
      have E : Hid (goodTerms ar b m = false) := by show _ = _; simp [goodTerms, hs]
      have HS := Lib.hid hs; clear hs
      go_enter Try.func119, Try.ntmps119
      go_wp2_with fail
      refine (iGoodSign_v _ _ _ _ _ _ HS.out ha (hv.alloc _)).mono ?_; rintro e w' ⟨rfl, hb1⟩
      go_wp2_with fail
      go_ret
      exact ⟨by rw [E.out]; rfl, hb1.of_alloc⟩
    | true =>
      have hG : Hid (goodTerms ar b m = b.all (okTerm ar)) := by show _ = _; simp [goodTerms, hs, hl]
      have hg := hs
      have HS := Lib.hid hs; clear hs
      go_enter Try.func119, Try.ntmps119
      go_wp2_with fail
      refine (iGoodSign_v _ _ _ _ _ _ HS.out ha (hv.alloc _)).mono ?_; rintro e w1 ⟨rfl, hb1⟩
      have hbox := boxc hb1 0 _ rfl
      go_wp2_with fail
      go_loopw [20] (fun i wr => ∃ k : Nat, k ≤ b.length ∧ i = .int .i64 k ∧ (b.take k).all (okTerm ar) = true ∧ Bel (w.alloc (.cells #[v] 30)) wr) (fun i _ => b.length - (intOf i).toNat)
      case atStart => exact ⟨0, Nat.zero_le _, rfl, rfl, hb1⟩
      case round =>
        obtain ⟨k, hk, rfl, hall, hb2⟩ := hrel
        have hbox2 := boxc hb2 0 _ rfl
        by_cases hlt : k < b.length
        · obtain ⟨bb, off, p, rfl, -, hc, hp⟩ := hu.at hb2.of_alloc k hlt
          have hmk := hm k hlt
          have hsp := all_splitS b (okTerm ar) k hlt hall
          have hfs := all_falseS b (okTerm ar) k hlt
          clear hm hu hbox hall
          generalize b.getD k [] = t at *
          obtain ⟨ap, cp, rfl⟩ := hp.form
          cases ht : okTerm ar t with
          | false =>
            have E : Hid (goodTerms ar b m = false) := by show _ = _; rw [hG.out]; exact hfs ht
            have HT := Lib.hid ht
            clear ht hsp hfs
            go_wp2_with fail
            refine (iGoodTerm_vv _ _ _ _ _ _ _ _ _ _ HT.out hg ha (by omega) (hv.below hb2.of_alloc) hp).mono ?_; rintro e w2 ⟨rfl, hb3⟩
            go_wp2_with fail
            go_ret
            exact ⟨by rw [E.out]; rfl, hb2.of_alloc.step hb3⟩
          | true =>
            have HA := Lib.hid (hsp.trans ht)
            have HT := Lib.hid ht
            clear ht hsp hfs
            go_wp2_with fail
            refine (iGoodTerm_vv _ _ _ _ _ _ _ _ _ _ HT.out hg ha (by omega) (hv.below hb2.of_alloc) hp).mono ?_; rintro e w2 ⟨rfl, hb3⟩
            go_wp2_with fail
            go_roundw
            case rel => exact ⟨k+1, by omega, by go_num, HA.out, hb2.step hb3⟩
            case measure => simp [intOf]; omega
        · have E : Hid (goodTerms ar b m = true) := by show _ = _; rw [hG.out]; exact all_doneS b _ k hk hlt hall
          clear hall
          go_wp2_with fail
          go_ret
          exact ⟨by rw [E.out]; rfl, hb2.of_alloc⟩
  · have E : Hid (goodTerms ar b m = false) := by show _ = _; simp [goodTerms, hl]
    have hl2 : decide (m < b.length) = true := by simp; omega
    go_enter Try.func119, Try.ntmps119
    go_wp2_with fail
    go_ret
    exact ⟨by rw [E.out]; rfl, Bel.alloc0 _ _⟩
theorem goodTerms_v (l h l' h' : Nat) (v u : Value) (ar : List Int) (b : List (List Int)) (m : Nat) (q : Bool) (w : World) (he : goodTerms ar b m = q) (hmm : m ≤ 1000) (ha : ar.length ≤ 1048576) (hv : SlI l h w v ar) (hb : short b) (hu : SlS l' h' w u b) :
    Calls Try.prog 119 #[.agg #[v], u, .int .i64 m] w (RetV w (.bool q)) := he ▸ goodTerms_c l h l' h' v u ar b m w hmm ha hv hb hu

/-- Whatever the sign: an answer comes. -/
def RetN (w : World) (e : Ending) (w' : World) : Prop := ∃ x : Int, e = .returned (.int .i64 x) ∧ Bel w w'
def RetB (w : World) (e : Ending) (w' : World) : Prop := ∃ b, e = .returned (.bool b) ∧ Bel w w'
theorem l1End_any (l h l' h' : Nat) (v u : Value) (ar t : List Int) (w : World) (ha : ar.length ≤ 1048576) (ht : t.length ≤ 1048576) (hv : SlI l h w v ar) (hu : SlI l' h' w u t) :
    Calls Try.prog 127 #[.agg #[v], u, .int .i64 0] w (RetN w) := by
  obtain ⟨ad, cap, rfl, -, -, hr⟩ := hv
  obtain ⟨ad', cap', rfl, -, -, hr'⟩ := hu
  go_enter Try.func127, Try.ntmps127
  go_wp2_with fail
  go_loopw [2, 7] (fun a n wr => ∃ (p : Nat) (m : Int), p ≤ t.length ∧ a = .int .i64 p ∧ n = .int .i64 m ∧ Bel (w.alloc (.cells #[.slice ad ar.length cap] 30)) wr) (fun a _ _ => t.length + 1 - (intOf a).toNat)
  case atStart => exact ⟨0, 1, Nat.zero_le _, rfl, rfl, Bel.rfl' _⟩
  case round =>
    obtain ⟨p, m, hp, rfl, rfl, hb⟩ := hrel
    have hbox := boxc hb 0 _ rfl
    by_cases hm : 0 < m
    · have hm1 : decide (m > 0) = true := by simpa using hm
      by_cases hlt : p < t.length
      · obtain ⟨b', off', rfl, -, hcell'⟩ := rd hr' hb.of_alloc p hlt
        clear hr'
        generalize t.getD p 0 = x at *
        have hw1 := IntWalk.i64_in ((ar.length : Int) - 1) (by omega)
        cases hs : inB x (-12) ((ar.length : Int) - 1) with
        | false =>
          have HS := Lib.hid hs; clear hs
          go_wp2_with fail
          go_quiet ((go_at_call 82; exact Calls.quiet_of_same (l1In_qv _ _ _ _ HS.out _)))
          go_wp2
          go_ret
          exact ⟨_, rfl, hb.of_alloc.drewN _⟩
        | true =>
          have HS := Lib.hid hs
          by_cases hx : x < 0
          · clear hs
            have hx' : decide (x ≥ 0) = false := by simp; omega
            go_wp2_with fail
            go_quiet ((go_at_call 82; exact Calls.quiet_of_same (l1In_qv _ _ _ _ HS.out _)))
            go_wp2
            go_roundw
            case rel => exact ⟨p+1, _, by omega, by go_num, rfl, hb.drewN _⟩
            case measure => simp [intOf]; omega
          · obtain ⟨k, rfl⟩ : ∃ k : Nat, x = k := ⟨x.toNat, by omega⟩
            have hk : k < ar.length := by simp [inB] at hs; omega
            clear hs
            obtain ⟨b, off, rfl, -, hcell⟩ := rd hr hb.of_alloc k hk
            clear hr
            generalize ar.getD k 0 = q at *
            have hk2 : (k : Int) < ar.length := by omega
            go_wp2_with fail
            go_quiet ((go_at_call 82; exact Calls.quiet_of_same (l1In_qv _ _ _ _ HS.out _)))
            go_wp2
            go_quiet (fail)
            go_wp2
            go_roundw
            case rel => exact ⟨p+1, _, by omega, by go_num, rfl, hb.drewN _⟩
            case measure => simp [intOf]; omega
      · have hge : decide ((p : Int) ≥ t.length) = true := by simp; omega
        go_wp2_with fail
        go_quiet (fail)
        go_wp2
        go_ret
        exact ⟨_, rfl, hb.of_alloc.drewN _⟩
    · have hm1 : decide (m > 0) = false := by simpa using hm
      go_wp2_with fail
      go_ret
      exact ⟨_, rfl, hb.of_alloc⟩
theorem l1Term_any (l h l' h' : Nat) (v u : Value) (ar t : List Int) (w : World) (ha : ar.length ≤ 1048576) (ht : t.length ≤ 1048576) (hv : SlI l h w v ar) (hu : SlI l' h' w u t) :
    Calls Try.prog 88 #[.agg #[v], u] w (RetB w) := by
  have hu0 := hu
  obtain ⟨ad', cap', rfl⟩ := hu.form
  cases hs : inB t.length 1 40 with
  | false =>
    have HS := Lib.hid hs; clear hs
    go_enter Try.func88, Try.ntmps88
    go_wp2_with (go_at_call 82; refine (l1In_f _ _ _ _ HS.out).mono ?_; rintro e w' ⟨rfl, hb1⟩)
    go_ret
    exact ⟨_, rfl, hb1.of_alloc⟩
  | true =>
    have HS := Lib.hid hs; clear hs
    go_enter Try.func88, Try.ntmps88
    go_wp2_with fail
    refine (l1In_t _ _ _ _ HS.out).mono ?_; rintro e w' ⟨rfl, hb1⟩
    have hx1 := boxc hb1 0 _ rfl
    go_wp2_with fail
    refine (l1End_any _ _ _ _ _ _ ar t _ ha ht (hv.below hb1.of_alloc) (hu0.below hb1.of_alloc)).mono ?_; rintro e w2 ⟨x, rfl, hb2⟩
    go_wp2_with fail
    go_ret
    exact ⟨_, rfl, hb1.of_alloc.step hb2⟩

end Go.Proofs.Ytfhljkjcjnfjfaa
end
