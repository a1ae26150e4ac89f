/- Texts merged, part 6. -/
import Derived.Deep.RegionWith
import Derived.Deep.RegionHeldLaw
import Derived.Test.YtlcjcihohclmhaaMgWorlds5
section
/- Chapter 5: worlds, how many there are, the n-th. No program. -/
namespace Go.Proofs.Ytlcjcihohclmhaa
open Go.RowKit

theorem mem_gd {α : Type} (l : List α) (d : α) (j : Nat) (h : j < l.length) : l.getD j d ∈ l := by
  rw [List.getD_eq_getElem?_getD, List.getElem?_eq_getElem h]; exact List.getElem_mem h
theorem gd_eq {α : Type} (l : List α) (d : α) (j : Nat) (h : j < l.length) : l.getD j d = l[j] := by simp [List.getD, h]
/-- How many lists of arguments. -/
def longW (sz a : Int) : Nat := sz.toNat ^ a.toNat
def okTab (sz a : Int) (t : List Int) : Bool := decide (t.length = longW sz a) && t.all (fun x => inB x 0 (sz - 1))
def okTabs (ar : List Int) (sz : Int) (tb : List (List Int)) (n : Nat) : Bool := (List.range n).all fun k => okTab sz (ar.getD k 0) (tb.getD k [])
def isWorld (ar : List Int) (sz : Int) (tb : List (List Int)) : Bool := inB sz 1 3 && (decide (tb.length = ar.length) && okTabs ar sz tb tb.length)
def goodWorld (ar : List Int) (sz : Int) (tb : List (List Int)) : Bool := goodSign ar && isWorld ar sz tb
def okEnv (sz : Int) (env : List Int) : Bool := decide (env.length = 12) && env.all (fun x => inB x 0 (sz - 1))
theorem okTabs_zero (ar : List Int) (sz : Int) (tb : List (List Int)) : okTabs ar sz tb 0 = true := rfl
theorem okTabs_succ (ar : List Int) (sz : Int) (tb : List (List Int)) (k : Nat) : okTabs ar sz tb (k+1) = (okTabs ar sz tb k && okTab sz (ar.getD k 0) (tb.getD k [])) := by
  unfold okTabs
  rw [List.range_succ, List.all_append]
  simp
theorem okTabs_false {ar : List Int} {sz : Int} {tb : List (List Int)} {k n : Nat} (h : okTab sz (ar.getD k 0) (tb.getD k []) = false) (hk : k < n) : okTabs ar sz tb n = false := by
  unfold okTabs
  rw [List.all_eq_false]
  exact ⟨k, List.mem_range.2 hk, by rw [h]; simp⟩
theorem longW_le {sz a : Int} (h1 : sz ≤ 3) (h2 : a ≤ 3) : longW sz a ≤ 27 := by
  unfold longW
  calc sz.toNat ^ a.toNat ≤ 3 ^ a.toNat := Nat.pow_le_pow_left (by omega) _
    _ ≤ 3 ^ 3 := Nat.pow_le_pow_right (by omega) (by omega)
theorem longW_pos {sz a : Int} (h1 : 1 ≤ sz) : 1 ≤ longW sz a := Nat.one_le_iff_ne_zero.2 (Nat.pos_iff_ne_zero.1 (Nat.pow_pos (by omega)))
theorem isWorld_iff {ar : List Int} {sz : Int} {tb : List (List Int)} : isWorld ar sz tb = true ↔ 1 ≤ sz ∧ sz ≤ 3 ∧ tb.length = ar.length ∧ ∀ k, k < tb.length → (tb.getD k []).length = longW sz (ar.getD k 0) ∧ ∀ j, j < (tb.getD k []).length → 0 ≤ (tb.getD k []).getD j 0 ∧ (tb.getD k []).getD j 0 ≤ sz - 1 := by
  unfold isWorld okTabs okTab inB
  simp only [Bool.and_eq_true, decide_eq_true_eq, List.all_eq_true, List.mem_range]
  constructor
  · rintro ⟨⟨h1, h2⟩, h3, h4⟩
    refine ⟨h1, h2, h3, fun k hk => ⟨(h4 k hk).1, fun j hj => ?_⟩⟩
    exact (h4 k hk).2 _ (mem_gd _ 0 j hj)
  · rintro ⟨h1, h2, h3, h4⟩
    refine ⟨⟨h1, h2⟩, h3, fun k hk => ⟨(h4 k hk).1, fun x hx => ?_⟩⟩
    obtain ⟨j, hj, rfl⟩ := List.getElem_of_mem hx
    have := (h4 k hk).2 j hj
    rwa [gd_eq _ _ j hj] at this
theorem goodWorld_iff {ar : List Int} {sz : Int} {tb : List (List Int)} : goodWorld ar sz tb = true ↔ goodSign ar = true ∧ isWorld ar sz tb = true := by
  unfold goodWorld; rw [Bool.and_eq_true]
theorem okEnv_iff {sz : Int} {env : List Int} : okEnv sz env = true ↔ env.length = 12 ∧ ∀ j, j < 12 → 0 ≤ env.getD j 0 ∧ env.getD j 0 ≤ sz - 1 := by
  unfold okEnv inB
  simp only [Bool.and_eq_true, decide_eq_true_eq, List.all_eq_true]
  constructor
  · rintro ⟨h1, h2⟩
    exact ⟨h1, fun j hj => h2 _ (mem_gd _ 0 j (by omega))⟩
  · rintro ⟨h1, h2⟩
    refine ⟨h1, fun x hx => ?_⟩
    obtain ⟨j, hj, rfl⟩ := List.getElem_of_mem hx
    have := h2 j (by omega)
    rwa [gd_eq _ _ j hj] at this

/-- How many worlds: at most 10000 are counted. -/
def cwN (sz : Int) : Nat → Int
  | 0 => 1
  | n + 1 => min (cwN sz n * sz) 10000
theorem cwN_bd {sz : Int} (h1 : 1 ≤ sz) (n : Nat) : 1 ≤ cwN sz n ∧ cwN sz n ≤ 10000 := by
  induction n with
  | zero => exact ⟨Int.le_refl 1, show (1 : Int) ≤ 10000 by decide⟩
  | succ n ih =>
    rw [cwN]
    have := Int.mul_le_mul (show (1 : Int) ≤ cwN sz n from ih.1) h1 (by decide) (by omega)
    omega
theorem cwN_top {sz : Int} (h1 : 1 ≤ sz) {n : Nat} (h : cwN sz n = 10000) (m : Nat) : cwN sz (n + m) = 10000 := by
  induction m with
  | zero => exact h
  | succ m ih =>
    show min (cwN sz (n + m) * sz) 10000 = 10000
    rw [ih]; omega
/-- The lists of arguments of the first k symbols. -/
def sumW (ar : List Int) (sz : Int) : Nat → Nat
  | 0 => 0
  | k + 1 => sumW ar sz k + longW sz (ar.getD k 0)
def worldsAns (ar : List Int) (sz : Int) : Int := if goodSign ar && inB sz 1 3 then cwN sz (sumW ar sz ar.length) else 0

/-- The digits of no, and what is left of it. -/
def digW (sz no : Int) : Nat → List Int
  | 0 => []
  | k + 1 => digW sz no k ++ [no / sz ^ k % sz]
def tabsW (ar : List Int) (sz no : Int) : Nat → List (List Int)
  | 0 => []
  | k + 1 => tabsW ar sz no k ++ [digW sz (no / sz ^ sumW ar sz k) (longW sz (ar.getD k 0))]
theorem digW_len (sz no : Int) (k : Nat) : (digW sz no k).length = k := by
  induction k with
  | zero => rfl
  | succ k ih => simp [digW, ih]
theorem tabsW_len (ar : List Int) (sz no : Int) (k : Nat) : (tabsW ar sz no k).length = k := by
  induction k with
  | zero => rfl
  | succ k ih => simp [tabsW, ih]
end Go.Proofs.Ytlcjcihohclmhaa
end
section
/- Chapter 5: the values of terms lie in the world. No program. -/
namespace Go.Proofs.Ytlcjcihohclmhaa
open Go.RowKit

/-- The values of terms lie below the size. -/
theorem noOf_snoc (sz : Int) (vs : List Int) (v : Int) : noOf sz (vs ++ [v]) = noOf sz vs * sz + v := by simp [noOf]
theorem fold_bd {sz : Int} (h1 : 1 ≤ sz) : ∀ (vs : List Int) (acc : Int) (m : Nat), (∀ v ∈ vs, 0 ≤ v ∧ v ≤ sz - 1) → 0 ≤ acc → acc < ((sz.toNat ^ m : Nat) : Int) → 0 ≤ vs.foldl (fun no v => no * sz + v) acc ∧ vs.foldl (fun no v => no * sz + v) acc < ((sz.toNat ^ (m + vs.length) : Nat) : Int) := by
  intro vs
  induction vs with
  | nil => intro acc m _ h2 h3; exact ⟨h2, h3⟩
  | cons v vs ih =>
    intro acc m h h2 h3
    obtain ⟨v1, v2⟩ := h v (by simp)
    have hz : ((sz.toNat : Nat) : Int) = sz := by omega
    have h4 := Int.mul_nonneg h2 (show 0 ≤ sz by omega)
    have h5 : (acc + 1) * sz ≤ ((sz.toNat ^ m : Nat) : Int) * sz := Int.mul_le_mul_of_nonneg_right (by omega) (by omega)
    rw [Int.add_mul] at h5
    have h6 : ((sz.toNat ^ (m + 1) : Nat) : Int) = ((sz.toNat ^ m : Nat) : Int) * sz := by rw [Nat.pow_succ, Int.natCast_mul, hz]
    have := ih (acc * sz + v) (m + 1) (fun x hx => h x (by simp [hx])) (by omega) (by omega)
    rw [show m + (v :: vs).length = m + 1 + vs.length from by simp; omega]
    exact this
theorem noOf_bd {sz : Int} (h1 : 1 ≤ sz) (vs : List Int) (h : ∀ v ∈ vs, 0 ≤ v ∧ v ≤ sz - 1) : 0 ≤ noOf sz vs ∧ noOf sz vs < (longW sz vs.length : Nat) := by
  have := fold_bd h1 vs 0 0 h (Int.le_refl _) (by simp)
  rw [Nat.zero_add] at this
  exact this
theorem evT_bd {ar : List Int} {sz : Int} {tb : List (List Int)} {env : List Int} (_ : goodSign ar = true) (hw : isWorld ar sz tb = true) (he : okEnv sz env = true) {s : Option Nat} {y vs : List Int} (h : Ev ar sz tb env s y vs) :
    (∀ v ∈ vs, 0 ≤ v ∧ v ≤ sz - 1) ∧ vs.length = (match s with | none => 1 | some m => m) := by
  obtain ⟨w1, w2, w3, w4⟩ := isWorld_iff.1 hw
  obtain ⟨e1, e2⟩ := okEnv_iff.1 he
  induction h with
  | var n h1 h2 =>
    refine ⟨fun v hv => ?_, rfl⟩
    simp at hv
    subst hv
    exact e2 _ (by unfold okSym inB at h1; simp at h1; omega)
  | node n ys vs h1 h2 _ ih =>
    refine ⟨fun v hv => ?_, rfl⟩
    simp at hv
    subst hv
    have hn : n.toNat < tb.length := by unfold okSym inB at h1; simp at h1; omega
    obtain ⟨t1, t2⟩ := w4 n.toNat hn
    obtain ⟨i1, i2⟩ := ih
    simp only at i2
    have hb := noOf_bd w1 vs i1
    unfold entry
    refine t2 _ ?_
    rw [t1]
    have ha : (ar.getD n.toNat 0).toNat = vs.length := by rw [i2]; unfold arOf; rw [if_neg (by omega)]
    have : longW sz (ar.getD n.toNat 0) = longW sz (vs.length : Nat) := by unfold longW; rw [ha]; rfl
    omega
  | nil => exact ⟨fun v hv => by simp at hv, rfl⟩
  | cons m y ys v vs _ _ ih1 ih2 =>
    refine ⟨fun x hx => ?_, ?_⟩
    · rcases List.mem_cons.1 hx with rfl | hx
      · exact ih1.1 _ (by simp)
      · exact ih2.1 _ hx
    · simp at ih2 ⊢; exact ih2.2

end Go.Proofs.Ytlcjcihohclmhaa
end
section
/- Chapter 5: the value of a term, reckoned from its end. No program. -/
namespace Go.Proofs.Ytlcjcihohclmhaa
open Go.RowKit

/-- The values of the terms that a list is. -/
def sufV (ar : List Int) (sz : Int) (tb : List (List Int)) (env : List Int) : List Int → List Int
  | [] => []
  | n :: r => if n < 0 then env.getD (-1 - n).toNat 0 :: sufV ar sz tb env r else entry sz tb n ((sufV ar sz tb env r).take (arOf ar n)) :: (sufV ar sz tb env r).drop (arOf ar n)
section
variable {ar : List Int} {sz : Int} {tb : List (List Int)} {env : List Int}
theorem sufV_neg {n : Int} {r : List Int} (h : n < 0) : sufV ar sz tb env (n :: r) = env.getD (-1 - n).toNat 0 :: sufV ar sz tb env r := by rw [sufV, if_pos h]
theorem sufV_sym {n : Int} {r : List Int} (h : ¬ n < 0) : sufV ar sz tb env (n :: r) = entry sz tb n ((sufV ar sz tb env r).take (arOf ar n)) :: (sufV ar sz tb env r).drop (arOf ar n) := by rw [sufV, if_neg h]
theorem sufV_len : ∀ y : List Int, (sufV ar sz tb env y).length ≤ y.length := by
  intro y
  induction y with
  | nil => exact Nat.le_refl _
  | cons n r ih =>
    by_cases h : n < 0
    · rw [sufV_neg h]; simp; exact ih
    · rw [sufV_sym h]; simp; omega
theorem Ev.len {s : Option Nat} {y vs : List Int} (h : Ev ar sz tb env s y vs) : vs.length = (match s with | none => 1 | some m => m) := by
  induction h with
  | var n h1 h2 => rfl
  | node n ys vs h1 h2 _ ih => rfl
  | nil => rfl
  | cons m y ys v vs _ _ ih1 ih2 => simp at ih2 ⊢; exact ih2
theorem Ev.suf {s : Option Nat} {y vs : List Int} (h : Ev ar sz tb env s y vs) : ∀ r, sufV ar sz tb env (y ++ r) = vs ++ sufV ar sz tb env r := by
  induction h with
  | var n h1 h2 => intro r; exact sufV_neg h2
  | node n ys vs h1 h2 hy ih =>
    intro r
    have hl := hy.len
    simp only at hl
    show sufV ar sz tb env (n :: (ys ++ r)) = _
    rw [sufV_sym (by omega), ih r, ← hl, List.take_left', List.drop_left']
    · rfl
    · rfl
    · rfl
  | nil => intro r; rfl
  | cons m y ys v vs _ _ ih1 ih2 =>
    intro r
    rw [List.append_assoc, ih1, ih2]
    rfl
theorem suf_ev {t : List Int} (h : okTerm ar t = true) : ∀ (k i : Nat), t.length - i ≤ k → i ≤ t.length → ∃ m, Ev ar sz tb env (some m) (t.drop i) (sufV ar sz tb env (t.drop i)) := by
  intro k
  induction k with
  | zero =>
    intro i hk hi
    rw [List.drop_of_length_le (by omega)]
    exact ⟨0, Ev.nil⟩
  | succ k ih =>
    intro i hk hi
    by_cases hlt : i < t.length
    · obtain ⟨e, he, h1, h2⟩ : ∃ e, endOf ar t i = some e ∧ i < e ∧ e ≤ t.length := by
        obtain ⟨e, he, h2⟩ := good_end ar t h i hlt
        refine ⟨e, he, ?_, by omega⟩
        have hs := good_sym ar t h i hlt
        unfold endOf at he
        rw [drop_cons t i hlt, endGo_cons, if_pos hs, Nat.zero_add] at he
        have := endGo_ge _ _ _ _ _ he
        omega
      obtain ⟨m, hm⟩ := ih e (by omega) h2
      have hp := ev_at (sz := sz) (tb := tb) (env := env) h (t.length - i) i e (Nat.le_refl _) hlt he
      have hd : t.drop i = partOf t i e ++ t.drop e := by
        unfold partOf
        conv => lhs; rw [← List.take_append_drop (e - i) (t.drop i)]
        rw [List.drop_drop, show i + (e - i) = e from by omega]
      have hsuf := hp.suf (t.drop e)
      rw [← hd] at hsuf
      refine ⟨m + 1, ?_⟩
      rw [hsuf, hd]
      exact Ev.cons m _ _ _ _ hp hm
    · rw [List.drop_of_length_le (by omega)]
      exact ⟨0, Ev.nil⟩
theorem suf_all {t : List Int} (h : okTerm ar t = true) : sufV ar sz tb env t = [evT ar sz tb env t] := by
  have := (ev_whole (sz := sz) (tb := tb) (env := env) h).suf []
  rw [List.append_nil] at this
  exact this
theorem suf_bd (hg : goodSign ar = true) (hw : isWorld ar sz tb = true) (he : okEnv sz env = true) {t : List Int} (h : okTerm ar t = true) (i : Nat) (hi : i ≤ t.length) : ∀ v ∈ sufV ar sz tb env (t.drop i), 0 ≤ v ∧ v ≤ sz - 1 := by
  obtain ⟨m, hm⟩ := suf_ev (sz := sz) (tb := tb) (env := env) h (t.length - i) i (Nat.le_refl _) hi
  exact (evT_bd hg hw he hm).1
/-- The arguments of the symbol at i stand on top. -/
theorem suf_args {t : List Int} (h : okTerm ar t = true) (i : Nat) (hi : i < t.length) (hn : ¬ t.getD i 0 < 0) : arOf ar (t.getD i 0) ≤ (sufV ar sz tb env (t.drop (i+1))).length := by
  obtain ⟨m, hm⟩ := suf_ev (sz := sz) (tb := tb) (env := env) h (t.length - i) i (Nat.le_refl _) (by omega)
  rw [drop_cons t i hi, sufV_sym hn] at hm
  generalize hY : sufV ar sz tb env (t.drop (i+1)) = Y at *
  generalize hT : t.getD i 0 :: t.drop (i+1) = T at hm
  generalize hV : entry sz tb (t.getD i 0) (Y.take (arOf ar (t.getD i 0))) :: Y.drop (arOf ar (t.getD i 0)) = V at hm
  clear hV
  generalize t.getD i 0 = s at *
  cases hm with
  | nil => simp at hT
  | cons m y ys v vs h1 h2 =>
    cases h1 with
    | var n _ h3 =>
      simp at hT
      omega
    | node n ys' vs' _ _ h4 =>
      simp at hT
      obtain ⟨rfl, e2⟩ := hT
      have := h4.suf ys
      rw [← e2, hY] at this
      have hl := h4.len
      simp only at hl
      rw [this]; simp; omega
end

/-- The stack: forty numbers, the first value on top. -/
def Stk (w : World) (B : Nat) (vs : List Int) : Prop :=
  B < w.heap.size ∧ (∀ j, j < 40 → ∃ x : Int, w.cell? ⟨B, j, none⟩ = some (.int .i64 x) ∧ w.frozen? ⟨B, j, none⟩ = false) ∧ ∀ j, j < vs.length → w.cell? ⟨B, vs.length - 1 - j, none⟩ = some (.int .i64 (vs.getD j 0))
theorem Stk.new (w : World) (T : TypeId) (cs : Array Value) (hcs : cs = Array.replicate 40 (.int .i64 0)) : Stk (w.alloc (.cells cs T)) w.heap.size [] := by
  subst hcs
  refine ⟨by simp, fun j hj => ⟨0, ?_, ?_⟩, fun j h => by simp at h⟩
  · rw [World.cell?_alloc_new w]; simp [hj]
  · exact World.frozen?_alloc_at _ _ _ _ rfl
theorem Stk.below {w w' : World} {B : Nat} {vs : List Int} (h : Stk w B vs) (hb : Bel w w') : Stk w' B vs := by
  obtain ⟨h1, h2, h3⟩ := h
  refine ⟨Nat.lt_of_lt_of_le h1 hb.size, fun j hj => ?_, fun j a => hb.at h1 (h3 j a)⟩
  obtain ⟨x, e1, e2⟩ := h2 j hj
  exact ⟨x, hb.at h1 e1, (hb.frozen (p := ⟨B, j, none⟩) h1).trans e2⟩
theorem Stk.drop {w : World} {B : Nat} {vs : List Int} (h : Stk w B vs) (a : Nat) (ha : a ≤ vs.length) : Stk w B (vs.drop a) := by
  refine ⟨h.1, h.2.1, fun j hj => ?_⟩
  rw [List.length_drop] at hj ⊢
  have := h.2.2 (a + j) (by omega)
  rw [show vs.length - 1 - (a + j) = vs.length - a - 1 - j from by omega] at this
  rw [this]
  simp [List.getD, List.getElem?_drop]
theorem Stk.push {w : World} {B : Nat} {vs : List Int} (h : Stk w B vs) (x : Int) (hl : vs.length < 40) : Stk (w.setCell ⟨B, vs.length, none⟩ (.int .i64 x)) B (x :: vs) := by
  obtain ⟨h1, h2, h3⟩ := h
  obtain ⟨x0, e1, e2⟩ := h2 vs.length hl
  have hne : ∀ j, j ≠ vs.length → (⟨B, vs.length, none⟩ : Addr) ≠ ⟨B, j, none⟩ := by intro j h1 h2; simp only [Addr.mk.injEq, and_true, true_and] at h2; omega
  refine ⟨by simpa using h1, fun j hj => ?_, fun j a => ?_⟩
  · by_cases e : j = vs.length
    · subst e; exact ⟨_, World.cell?_setCell_same _ _ _ e1, by rw [World.frozen?_setCell]; exact e2⟩
    · obtain ⟨y, f1, f2⟩ := h2 j hj
      exact ⟨y, by rw [World.cell?_setCell_other (h := hne j e)]; exact f1, by rw [World.frozen?_setCell]; exact f2⟩
  · cases j with
    | zero =>
      rw [show (x :: vs).length - 1 - 0 = vs.length from by simp]
      exact World.cell?_setCell_same _ _ _ e1
    | succ j =>
      simp only [List.length_cons] at a
      rw [show (x :: vs).length - 1 - (j + 1) = vs.length - 1 - j from by simp; omega, World.cell?_setCell_other (h := hne _ (by omega))]
      simpa using h3 j (by omega)
end Go.Proofs.Ytlcjcihohclmhaa
end
section
/- Chapter 5, the reference: GoodWorld. -/
namespace Go.Proofs.Ytlcjcihohclmhaa
open Go.RowKit

theorem pw_le {Z k : Nat} (h1 : Z ≤ 3) (h2 : k ≤ 3) : Z ^ k ≤ 27 :=
  Nat.le_trans (Nat.pow_le_pow_left h1 _) (Nat.pow_le_pow_right (n := 3) (by omega) h2)
theorem pw_succ (Z k : Nat) : ((Z ^ k : Nat) : Int) * (Z : Int) = ((Z ^ (k + 1) : Nat) : Int) := by rw [Nat.pow_succ]; simp

set_option maxRecDepth 100000 in
set_option maxHeartbeats 400000 in
theorem l5Long_c (Z A : Nat) (w : World) (h2 : Z ≤ 3) (h3 : A ≤ 3) :
    Calls Try.prog 69 #[.int .i64 (Z : Int), .int .i64 (A : Int)] w (RetV w (.int .i64 ((Z ^ A : Nat) : Int))) := by
  go_enter Try.func69, Try.ntmps69
  go_wp2_with fail
  go_loop [1, 5] (fun a n => ∃ k : Nat, k ≤ A ∧ a = .int .i64 ((A - k : Nat) : Int) ∧ n = .int .i64 ((Z ^ k : Nat) : Int)) (fun a _ => (intOf a).toNat)
  case atStart => exact ⟨0, Nat.zero_le _, rfl, rfl⟩
  case round =>
    obtain ⟨k, hk, rfl, rfl⟩ := hrel
    by_cases hlt : k < A
    · have E := Lib.hid (pw_succ Z k)
      have hb := pw_le h2 (show k + 1 ≤ 3 by omega)
      have hw : -9223372036854775808 ≤ ((Z ^ k : Nat) : Int) * (Z : Int) ∧ ((Z ^ k : Nat) : Int) * (Z : Int) ≤ 9223372036854775807 := by rw [E.out]; omega
      have hw1 := IntWalk.i64_in (((Z ^ k : Nat) : Int) * (Z : Int)) hw
      have hpos : (0 : Int) < ((A - k : Nat) : Int) := by omega
      have hg3 : ((A - k : Nat) : Int) ≤ 3 := by omega
      have hsub : ((A - k : Nat) : Int) - 1 = ((A - (k + 1) : Nat) : Int) := by omega
      have HS := Lib.hid hsub
      clear hw hb hsub
      generalize ((A - k : Nat) : Int) = g at *
      generalize ((Z ^ k : Nat) : Int) = y at *
      go_wp2_with fail
      go_round
      case rel => exact ⟨k+1, by omega, by rw [← HS.out], by rw [← E.out]⟩
      case measure => simp [intOf]; omega
    · obtain rfl : k = A := by omega
      have hz : ((k - k : Nat) : Int) = 0 := by simp
      rw [hz]
      generalize ((Z ^ k : Nat) : Int) = y at *
      go_wp2_with fail
      go_ret
      exact ⟨rfl, Bel.rfl' _⟩
end Go.Proofs.Ytlcjcihohclmhaa
end
section
/- Chapter 5, the reference: GoodWorld. -/
namespace Go.Proofs.Ytlcjcihohclmhaa
open Go.RowKit

/-- The length of the k-th table and its elements, as the loop asks. -/
theorem ne_len {a b : Nat} (h : a = b) : ((a : Int) != (b : Int)) = false := by subst h; simp
theorem ne_len' {a b : Nat} (h : a ≠ b) : ((a : Int) != (b : Int)) = true := by rw [bne, beq_eq_false_iff_ne.2 (by omega)]; rfl

set_option maxRecDepth 100000 in
set_option maxHeartbeats 1000000 in
theorem l5World_c (l h l' h' : Nat) (v u : Value) (ar : List Int) (sz : Int) (tb : List (List Int)) (w : World) (hg : goodSign ar = true) (hx : short tb) (hv : SlI l h w v ar) (hu : SlS l' h' w u tb) :
    Calls Try.prog 60 #[.agg #[v], .agg #[.int .i64 sz, u]] w (RetV w (.bool (isWorld ar sz tb))) := by
  obtain ⟨ad, cap, rfl, -, -, hr⟩ := hv
  obtain ⟨au, cu, rfl⟩ := hu.form
  have hlen := (sign_len ar hg).2
  by_cases h1 : inB sz 1 3 = true
  · by_cases h2 : tb.length = ar.length
    · have hn := Lib.hid (ne_len h2)
      have E0 : isWorld ar sz tb = okTabs ar sz tb tb.length := by unfold isWorld; rw [h1, decide_eq_true h2, Bool.true_and, Bool.true_and]
      obtain ⟨z1, z3⟩ : 1 ≤ sz ∧ sz ≤ 3 := by unfold inB at h1; simpa using h1
      obtain ⟨Z, rfl⟩ : ∃ Z : Nat, sz = (Z : Int) := ⟨sz.toNat, by omega⟩
      have HI := Lib.hid h1
      have H2 := Lib.hid h2
      rw [E0]
      have hnn := hn.out
      clear h1 h2 E0 hn
      go_enter Try.func60, Try.ntmps60
      go_wp2_with fail
      refine (l1In_qv _ _ _ _ HI.out _).mono ?_; rintro e w1 ⟨rfl, rfl⟩
      go_wp2_with fail
      obtain ⟨W, hW⟩ : ∃ W, W = (w.alloc (.cells #[.slice ad ar.length cap] 26)).alloc (.cells #[.int .i64 (Z : Int), .slice au tb.length cu] 29) := ⟨_, rfl⟩
      rw [← hW]
      have hB : Bel w W := by rw [hW]; exact Bel.alloc2 _ _ _
      have k0 : w.heap.size + 1 < W.heap.size ∧ W.cell? ⟨w.heap.size, 0, none⟩ = some (.slice ad ar.length cap) ∧ W.cell? ⟨w.heap.size + 1, 0, none⟩ = some (.int .i64 (Z : Int)) ∧ W.cell? ⟨w.heap.size + 1, 1, none⟩ = some (.slice au tb.length cu) := by rw [hW]; simp [go_sem]
      clear hW
      go_loopw [23] (fun j wr => ∃ k : Nat, k ≤ tb.length ∧ j = .int .i64 k ∧ okTabs ar Z tb k = true ∧ Bel W wr) (fun j _ => tb.length - (intOf j).toNat)
      case atStart => exact ⟨0, Nat.zero_le _, rfl, okTabs_zero _ _ _, Bel.rfl' _⟩
      case round =>
        obtain ⟨k, hk, rfl, hall, hb⟩ := hrel
        have q0 := hb.at (b := w.heap.size) (by omega) k0.2.1
        have q1 := hb.at k0.1 k0.2.2.1
        have q2 := hb.at k0.1 k0.2.2.2
        by_cases hlt : k < tb.length
        · obtain ⟨b, off, u1, rfl, hbs, c1, s1⟩ := hu.at (hB.step hb) k hlt
          obtain ⟨b2, off2, rfl, hb2l, hc2⟩ := rd hr (hB.step hb) k (by rw [← H2.out]; exact hlt)
          have h03 := ar_nonneg ar hg k
          obtain ⟨A, hA⟩ : ∃ A : Nat, ar.getD k 0 = (A : Int) := ⟨(ar.getD k 0).toNat, by omega⟩
          have hxl := hx.2 k hlt
          have zl1 : w.heap.size + 1 < wr.heap.size := Nat.lt_of_lt_of_le k0.1 hb.size
          have zl0 : w.heap.size < wr.heap.size := by omega
          have zlc : b2 < wr.heap.size := World.block_lt_of_cell? _ ⟨_, _, none⟩ hc2
          have hkl : (k : Int) < ar.length := by rw [← H2.out]; omega
          have EO : okTab Z (ar.getD k 0) (tb.getD k []) = (decide ((tb.getD k []).length = Z ^ A) && (tb.getD k []).all (fun x => inB x 0 ((Z : Int) - 1))) := by rw [hA]; rfl
          have ES := okTabs_succ ar Z tb k
          have EF := fun (h : okTab Z (ar.getD k 0) (tb.getD k []) = false) => okTabs_false (tb := tb) (n := tb.length) h hlt
          rw [EO] at ES EF
          rw [hall, Bool.true_and] at ES
          rw [hA] at hc2 h03
          have hA3 : A ≤ 3 := by omega
          obtain ⟨d1, e1, rfl⟩ := s1.form
          have HL := Lib.hid (fun (w' : World) => l5Long_c Z A w' (by omega) hA3)
          have hi1 := IntWalk.i64_in ((Z : Int) - 1) (by omega)
          clear hA EO hall h03
          generalize tb.getD k [] = x at *
          by_cases hxz : x.length = Z ^ A
          · have hne := ne_len hxz
            have HA := Lib.hid (fun (q : Bool) (w' : World) (hq : x.all (fun x => inB x 0 ((Z : Int) - 1)) = q) (hb' : Bel wr w') => l1All_v _ _ _ x 0 ((Z : Int) - 1) w' q hq hxl (s1.below hb'))
            rw [decide_eq_true hxz, Bool.true_and] at ES EF
            clear s1 hxl hxz
            generalize hyy : Z ^ A = y at *
            clear hyy
            cases hq : x.all (fun x => inB x 0 ((Z : Int) - 1)) with
            | true =>
              have HQ := Lib.hid hq
              have ES2 := Lib.hid (ES.trans hq)
              clear hq ES EF
              go_wp2_with fail
              go_region_held3 (fun w' => Bel wr w' ∧ w'.cell? ⟨w.heap.size + 1, 0, none⟩ = some (.int .i64 (Z : Int)) ∧ w'.cell? ⟨w.heap.size, 0, none⟩ = some (.slice (some ⟨b2, off2, none⟩) ar.length cap) ∧ w'.cell? ⟨b2, off2 + k, none⟩ = some (.int .i64 (A : Int)))
                (first | exact ⟨Bel.drew0 _, q1, q0, hc2⟩ | exact ⟨HB8, p1, p0, pc⟩ | exact ⟨HB8.step hb9, hb9.at pl1 p1, hb9.at pl0 p0, hb9.at plc pc⟩ | fail)
                (first | (go_at_call 72; refine (HA.out _ _ HQ.out HB8).mono ?_; rintro e w9 ⟨rfl, hb9⟩) | (go_at_call 69; refine (HL.out _).mono ?_; rintro e w8 ⟨rfl, hb8⟩; have HB8 := hb8.of_drew; have hz8 := HB8.size; have p1 := HB8.at zl1 q1; have p0 := HB8.at zl0 q0; have pc := HB8.at zlc hc2; have pl1 : w.heap.size + 1 < w8.heap.size := Nat.lt_of_lt_of_le zl1 hz8; have pl0 : w.heap.size < w8.heap.size := Nat.lt_of_lt_of_le zl0 hz8; have plc : b2 < w8.heap.size := Nat.lt_of_lt_of_le zlc hz8) | fail)
              go_wp2_with fail
              go_roundw
              case rel => exact ⟨k+1, by omega, by go_num, ES2.out, (hb.step HB8).step hb9⟩
              case measure => simp [intOf]; omega
            | false =>
              have HQ := Lib.hid hq
              have EF2 := Lib.hid (EF hq)
              clear hq ES EF
              go_wp2_with fail
              go_region_held3 (fun w' => Bel wr w' ∧ w'.cell? ⟨w.heap.size + 1, 0, none⟩ = some (.int .i64 (Z : Int)) ∧ w'.cell? ⟨w.heap.size, 0, none⟩ = some (.slice (some ⟨b2, off2, none⟩) ar.length cap) ∧ w'.cell? ⟨b2, off2 + k, none⟩ = some (.int .i64 (A : Int)))
                (first | exact ⟨Bel.drew0 _, q1, q0, hc2⟩ | exact ⟨HB8, p1, p0, pc⟩ | exact ⟨HB8.step hb9, hb9.at pl1 p1, hb9.at pl0 p0, hb9.at plc pc⟩ | fail)
                (first | (go_at_call 72; refine (HA.out _ _ HQ.out HB8).mono ?_; rintro e w9 ⟨rfl, hb9⟩) | (go_at_call 69; refine (HL.out _).mono ?_; rintro e w8 ⟨rfl, hb8⟩; have HB8 := hb8.of_drew; have hz8 := HB8.size; have p1 := HB8.at zl1 q1; have p0 := HB8.at zl0 q0; have pc := HB8.at zlc hc2; have pl1 : w.heap.size + 1 < w8.heap.size := Nat.lt_of_lt_of_le zl1 hz8; have pl0 : w.heap.size < w8.heap.size := Nat.lt_of_lt_of_le zl0 hz8; have plc : b2 < w8.heap.size := Nat.lt_of_lt_of_le zlc hz8) | fail)
              go_wp2_with fail
              go_ret
              exact ⟨by rw [EF2.out]; rfl, (hB.step hb).step (HB8.step hb9)⟩
          · have hne := ne_len' hxz
            have EF2 := Lib.hid (EF (by rw [decide_eq_false hxz]; rfl))
            clear s1 hxl EF ES
            generalize hyy : Z ^ A = y at *
            clear hyy hxz
            go_wp2_with fail
            first | (go_region_with (first | (go_at_call 69; refine (HL.out _).mono ?_; rintro e w8 ⟨rfl, hb8⟩) | fail)) | fail
            all_goals
              have HB8 := hb8.of_drew
              go_wp2_with fail
              go_ret
              exact ⟨by rw [EF2.out]; rfl, (hB.step hb).step HB8⟩
        · obtain rfl : k = tb.length := by omega
          have HALL := Lib.hid hall
          clear hall hlt
          go_wp2_with fail
          go_ret
          exact ⟨by rw [HALL.out]; rfl, hB.step hb⟩
    · have E0 : Hid (isWorld ar sz tb = false) := by show _ = _; unfold isWorld; rw [decide_eq_false h2]; simp
      have HI := Lib.hid h1
      have hnn := ne_len' h2
      clear h1 h2
      go_enter Try.func60, Try.ntmps60
      go_wp2_with fail
      refine (l1In_qv _ _ _ _ HI.out _).mono ?_; rintro e w1 ⟨rfl, rfl⟩
      go_wp2_with fail
      go_ret
      exact ⟨by rw [E0.out]; rfl, Bel.alloc2 _ _ _⟩
  · have h1' : inB sz 1 3 = false := by simpa using h1
    have E0 : Hid (isWorld ar sz tb = false) := by show _ = _; unfold isWorld; rw [h1']; rfl
    have HI := Lib.hid h1'
    clear h1 h1'
    go_enter Try.func60, Try.ntmps60
    go_wp2_with fail
    refine (l1In_qv _ _ _ _ HI.out _).mono ?_; rintro e w1 ⟨rfl, rfl⟩
    go_wp2_with fail
    go_ret
    exact ⟨by rw [E0.out]; rfl, Bel.alloc2 _ _ _⟩

theorem l5World_v (l h l' h' : Nat) (v u : Value) (ar : List Int) (sz : Int) (tb : List (List Int)) (q : Bool) (w : World) (he : isWorld ar sz tb = q) (hg : goodSign ar = true) (hx : short tb) (hv : SlI l h w v ar) (hu : SlS l' h' w u tb) :
    Calls Try.prog 60 #[.agg #[v], .agg #[.int .i64 sz, u]] w (RetV w (.bool q)) := by subst he; exact l5World_c l h l' h' v u ar sz tb w hg hx hv hu

set_option maxRecDepth 100000 in
set_option maxHeartbeats 400000 in
theorem sGoodWorld_t {l h l' h' : Nat} {v u : Value} {ar : List Int} {sz : Int} {tb : List (List Int)} {w : World} (ha : ar.length ≤ 1048576) (hv : SlI l h w v ar) (hx : short tb) (hu : SlS l' h' w u tb) :
    Calls Try.prog 28 #[.agg #[v], .agg #[.int .i64 sz, u]] w (RetV w (.bool (goodWorld ar sz tb))) := by
  unfold goodWorld
  have HB : Bel w ((w.alloc (.cells #[v] 26)).alloc (.cells #[.int .i64 sz, u] 29)) := Bel.alloc2 _ _ _
  cases hg : goodSign ar with
  | false =>
    rw [Bool.false_and]
    have HC := Lib.hid (fun (w' : World) (hb : Bel w w') => sGoodSign_v l h v ar false w' hg ha (hv.below hb)); clear hg
    go_enter Try.func28, Try.ntmps28
    go_wp2_with fail
    refine (HC.out _ HB).mono ?_; rintro e w1 ⟨rfl, hb1⟩
    go_wp2_with fail
    go_ret
    exact ⟨rfl, HB.step hb1⟩
  | true =>
    rw [Bool.true_and]
    have HC := Lib.hid (fun (w' : World) (hb : Bel w w') => sGoodSign_v l h v ar true w' hg ha (hv.below hb))
    have HD := Lib.hid (fun (w' : World) (hb : Bel w w') => l5World_c l h l' h' v u ar sz tb w' hg hx (hv.below hb) (hu.below hb)); clear hg hx
    go_enter Try.func28, Try.ntmps28
    go_wp2_with fail
    refine (HC.out _ HB).mono ?_; rintro e w1 ⟨rfl, hb1⟩
    have k0 := hb1.at (b := w.heap.size) (off := 0) (by simp; omega) (show World.cell? _ _ = some v by simp [go_sem])
    have k1 := hb1.at (b := w.heap.size + 1) (off := 0) (by simp) (show World.cell? _ _ = some (.int .i64 sz) by simp [go_sem])
    have k2 := hb1.at (b := w.heap.size + 1) (off := 1) (by simp) (show World.cell? _ _ = some u by simp [go_sem])
    go_wp2_with fail
    refine (HD.out _ (HB.step hb1)).mono ?_; rintro e w2 ⟨rfl, hb2⟩
    go_wp2_with fail
    go_ret
    exact ⟨rfl, (HB.step hb1).step hb2⟩
theorem sGoodWorld_v {l h l' h' : Nat} {v u : Value} {ar : List Int} {sz : Int} {tb : List (List Int)} {w : World} {q : Bool} (he : goodWorld ar sz tb = q) (ha : ar.length ≤ 1048576) (hv : SlI l h w v ar) (hx : short tb) (hu : SlS l' h' w u tb) :
    Calls Try.prog 28 #[.agg #[v], .agg #[.int .i64 sz, u]] w (RetV w (.bool q)) := by subst he; exact sGoodWorld_t ha hv hx hu
end Go.Proofs.Ytlcjcihohclmhaa
end
section
/- Chapter 5, the reference: the value of a term, EvalIn. -/
namespace Go.Proofs.Ytlcjcihohclmhaa
open Go.RowKit

theorem evF_eq {ar t : List Int} {sz : Int} {tb : List (List Int)} {env : List Int} (h : okTerm ar t = true) {i : Nat} (hi : i < t.length) (h0 : ¬ t.getD i 0 < 0) :
    evF ar t sz tb env (t.length - i) i = entry sz tb (t.getD i 0) ((argsOf ar t i).map fun a => evF ar t sz tb env (t.length - a) a) := by
  obtain ⟨g, hg⟩ : ∃ g, t.length - i = g + 1 := ⟨t.length - i - 1, by omega⟩
  rw [hg, evF, if_neg h0]
  congr 1
  apply List.map_congr_left
  intro a ha
  have hb := argsOf_bd ar t h i hi a ha
  exact evF_fuel h g a (by omega) hb.2
theorem noOf_take {sz : Int} (f : Nat → Int) (l : List Nat) (k : Nat) (hk : k < l.length) : noOf sz ((l.take (k+1)).map f) = noOf sz ((l.take k).map f) * sz + f (l.getD k 0) := by
  rw [List.take_succ_eq_append_getElem hk, List.map_append]
  simp only [List.map_cons, List.map_nil]
  rw [noOf_snoc]
  simp [List.getD, hk]
end Go.Proofs.Ytlcjcihohclmhaa
end
section
/- Chapter 5, the reference: the value of a term. -/
namespace Go.Proofs.Ytlcjcihohclmhaa
open Go.RowKit

theorem evA_bd {ar t : List Int} {sz : Int} {tb : List (List Int)} {env : List Int} (hg : goodSign ar = true) (hw : isWorld ar sz tb = true) (he : okEnv sz env = true) (h : okTerm ar t = true) {i : Nat} (hi : i < t.length) :
    0 ≤ evF ar t sz tb env (t.length - i) i ∧ evF ar t sz tb env (t.length - i) i ≤ sz - 1 := by
  obtain ⟨e, he', _⟩ := good_end ar t h i hi
  exact (evT_bd hg hw he (ev_at (sz := sz) (tb := tb) (env := env) h _ i e (Nat.le_refl _) hi he')).1 _ (by simp)
theorem sub_ex {a b : Nat} (h : b < a) : ∃ g, a - b = g + 1 := ⟨a - b - 1, by omega⟩
theorem sub_lt2 {L i a n : Nat} (h1 : L - i ≤ n + 1) (h2 : i < a) : L - a ≤ n := by omega
theorem noOf_le {sz : Int} (h1 : 1 ≤ sz) (h3 : sz ≤ 3) (vs : List Int) (h : ∀ v ∈ vs, 0 ≤ v ∧ v ≤ sz - 1) (hl : vs.length ≤ 3) : 0 ≤ noOf sz vs ∧ noOf sz vs ≤ 26 := by
  have := noOf_bd h1 vs h
  have h2 := longW_le h3 (show ((vs.length : Nat) : Int) ≤ 3 by omega)
  omega

set_option maxRecDepth 100000 in
set_option maxHeartbeats 2000000 in
theorem l5Eval_c (l h l' h' l2 h2 l3 h3 : Nat) (v u vt ve : Value) (ar : List Int) (sz : Int) (tb : List (List Int)) (t env : List Int) (hg : goodSign ar = true) (hw : isWorld ar sz tb = true) (he : okEnv sz env = true) (hok : okTerm ar t = true) :
    ∀ (n i : Nat) (w : World), t.length - i ≤ n → i < t.length → SlI l h w v ar → SlS l' h' w u tb → SlI l2 h2 w vt t → SlI l3 h3 w ve env →
      Calls Try.prog 88 #[.agg #[v], .agg #[.int .i64 sz, u], vt, .int .i64 i, ve] w (RetV w (.int .i64 (evF ar t sz tb env (t.length - i) i))) := by
  intro n
  induction n with
  | zero => intro i w hn hi; omega
  | succ n ih =>
    intro i w hn hi hv hu ht hve
    obtain ⟨w1, w2, w3, w4⟩ := isWorld_iff.1 hw
    obtain ⟨e1, e2⟩ := okEnv_iff.1 he
    have hs := good_sym ar t hok i hi
    have htl := ((okTerm_iff ar t).1 hok).2.1
    have ht0 := ht
    have hve0 := hve
    have IH := Lib.hid ih; clear ih
    have HB : Bel w ((w.alloc (.cells #[v] 26)).alloc (.cells #[.int .i64 sz, u] 29)) := Bel.alloc2 _ _ _
    obtain ⟨at', ct, rfl, -, -, hrt⟩ := ht
    obtain ⟨bt, offt, rfl, hbtl, hct⟩ := rd hrt (Bel.rfl' w) i hi
    by_cases hneg : t.getD i 0 < 0
    · have E : Hid (evF ar t sz tb env (t.length - i) i = env.getD (-1 - t.getD i 0).toNat 0) := by
        show _ = _
        obtain ⟨g, hg'⟩ := sub_ex hi
        rw [hg', evF, if_pos hneg]
      rw [E.out]
      obtain ⟨j, hj⟩ : ∃ j : Nat, t.getD i 0 = -1 - (j : Int) := ⟨(-1 - t.getD i 0).toNat, by omega⟩
      have hj12 : j < 12 := by unfold okSym inB at hs; simp at hs; rw [← List.getD_eq_getElem?_getD, hj] at hs; omega
      rw [hj] at hct ⊢
      rw [show (-1 - (-1 - (j : Int))).toNat = j by omega]
      obtain ⟨ae, ce, rfl, -, -, hre⟩ := hve
      obtain ⟨be, offe, rfl, hbel, hce⟩ := rd hre (Bel.rfl' w) j (by omega)
      have hct' := HB.at hbtl hct
      have hce' := HB.at hbel hce
      have hw1 := IntWalk.i64_in (-1 - (-1 - (j : Int))) (by omega)
      have hjj : -1 - (-1 - (j : Int)) = (j : Int) := by omega
      rw [hjj] at hw1
      have hjl : (j : Int) < env.length := by omega
      have hneg2 : decide ((-1 - (j : Int)) < 0) = true := by simp; omega
      generalize env.getD j 0 = val at *
      clear hrt hre hve0 ht0 IH E hneg hj
      go_enter Try.func88, Try.ntmps88
      go_wp2_with fail
      go_ret
      exact ⟨rfl, HB⟩
    · obtain ⟨m, hm⟩ : ∃ m : Nat, t.getD i 0 = (m : Int) := ⟨(t.getD i 0).toNat, by omega⟩
      have EE := evF_eq (sz := sz) (tb := tb) (env := env) hok hi hneg
      have hargs := argsOf_bd ar t hok i hi
      have hal : (argsOf ar t i).length ≤ 3 := by rw [argsOf_len]; exact arOf_le ar hg _
      have hal2 : (argsOf ar t i).length = (ar.getD m 0).toNat := by rw [argsOf_len, hm, arOf_nat]
      have hmt : m < tb.length := by rw [hm] at hs; have := okSym_lt hs; omega
      clear w3
      have HA := Lib.hid (fun (w' : World) (hb : Bel w w') => l1Args_c l h l2 h2 v _ ar t i w' hg hok hi (hv.below hb) (ht0.below hb))
      have HE := Lib.hid (fun (a : Nat) (w' : World) (ha : a ∈ argsOf ar t i) (hb : Bel w w') => IH.out a w' (sub_lt2 hn (hargs a ha).1) (hargs a ha).2 (hv.below hb) (hu.below hb) (ht0.below hb) (hve0.below hb))
      have HV := Lib.hid (fun (a : Nat) (ha : a ∈ argsOf ar t i) => evA_bd (env := env) hg hw he hok (hargs a ha).2)
      have HN : Hid (∀ k, k ≤ (argsOf ar t i).length → 0 ≤ noOf sz (((argsOf ar t i).take k).map fun a => evF ar t sz tb env (t.length - a) a) ∧ noOf sz (((argsOf ar t i).take k).map fun a => evF ar t sz tb env (t.length - a) a) ≤ 26) := fun k hk => by
        refine noOf_le w1 w2 _ (fun x hx => ?_) (by simp; omega)
        obtain ⟨a, ha, rfl⟩ := List.mem_map.1 hx
        exact HV.out a (List.mem_of_mem_take ha)
      have HT : Hid (∀ k, k < (argsOf ar t i).length → noOf sz (((argsOf ar t i).take (k+1)).map fun a => evF ar t sz tb env (t.length - a) a) = noOf sz (((argsOf ar t i).take k).map fun a => evF ar t sz tb env (t.length - a) a) * sz + evF ar t sz tb env (t.length - (argsOf ar t i).getD k 0) ((argsOf ar t i).getD k 0)) := fun k hk => noOf_take _ _ k hk
      have HTB := Lib.hid (w4 m hmt)
      have HNL : Hid (noOf sz ((argsOf ar t i).map fun a => evF ar t sz tb env (t.length - a) a) < ((tb.getD m []).length : Nat)) := by
        show _ < _
        have := noOf_bd w1 ((argsOf ar t i).map fun a => evF ar t sz tb env (t.length - a) a) (fun x hx => by obtain ⟨a, ha, rfl⟩ := List.mem_map.1 hx; exact HV.out a ha)
        rw [(w4 m hmt).1]
        rw [List.length_map, hal2] at this
        exact this.2
      rw [hm] at EE hct
      unfold entry at EE
      simp only [Int.toNat_natCast] at EE
      have HEE := Lib.hid EE
      rw [EE]
      clear EE hs hneg hm hrt hal2
      generalize hFF : (fun a => evF ar t sz tb env (t.length - a) a) = F at *
      have HE2 : Hid (∀ (a : Nat) (w' : World), a ∈ argsOf ar t i → Bel w w' → Calls Try.prog 88 #[.agg #[v], .agg #[.int .i64 sz, u], .slice (some ⟨bt, offt, none⟩) t.length ct, .int .i64 a, ve] w' (RetV w' (.int .i64 (F a)))) := fun a w' ha hb => by have := HE.out a w' ha hb; rw [← hFF]; exact this
      have HV2 : Hid (∀ a, a ∈ argsOf ar t i → 0 ≤ F a ∧ F a ≤ sz - 1) := fun a ha => by have := HV.out a ha; rw [← hFF]; exact this
      have HT2 : Hid (∀ k, k < (argsOf ar t i).length → noOf sz (((argsOf ar t i).take (k+1)).map F) = noOf sz (((argsOf ar t i).take k).map F) * sz + F ((argsOf ar t i).getD k 0)) := fun k hk => by have := HT.out k hk; rw [this, ← hFF]
      clear HE HV HT HEE hFF
      obtain ⟨au, cu, rfl⟩ := hu.form
      go_enter Try.func88, Try.ntmps88
      have hct' := HB.at hbtl hct
      go_wp2_with fail
      refine (HA.out _ HB).mono ?_; rintro e W ⟨ad, q, c, rfl, ho, hb1⟩
      have HW := HB.step hb1
      have zW : w.heap.size + 1 < W.heap.size := by have := hb1.size; simp at this; omega
      have k0 := hb1.at (b := w.heap.size) (off := 0) (by simp; omega) (show World.cell? _ _ = some v by simp [go_sem])
      have k1 := hb1.at (b := w.heap.size + 1) (off := 0) (by simp) (show World.cell? _ _ = some (.int .i64 sz) by simp [go_sem])
      have k2 := hb1.at (b := w.heap.size + 1) (off := 1) (by simp) (show World.cell? _ _ = some (.slice au tb.length cu) by simp [go_sem])
      obtain ⟨ad', cap', e, -, -, hr⟩ := ho.1
      simp only [Value.slice.injEq] at e
      obtain ⟨rfl, rfl, rfl⟩ := e
      rw [natsI_len] at hr ⊢
      generalize argsOf ar t i = args at *
      clear HA hb1 ho
      go_wp2_with fail
      go_loopw [11, 32] (fun no j wr => ∃ k : Nat, k ≤ args.length ∧ j = .int .i64 k ∧ no = .int .i64 (noOf sz ((args.take k).map F)) ∧ Bel W wr) (fun _ j _ => args.length - (intOf j).toNat)
      case atStart => exact ⟨0, Nat.zero_le _, rfl, rfl, Bel.rfl' _⟩
      case round =>
        obtain ⟨k, hk, rfl, rfl, hbw⟩ := hrel
        have q0 := hbw.at (by omega) k0
        have q1 := hbw.at zW k1
        have q2 := hbw.at zW k2
        have hn0 := HN.out k hk
        have hbt2 : bt < wr.heap.size := Nat.lt_of_lt_of_le hbtl (HW.step hbw).size
        have zr1 : w.heap.size + 1 < wr.heap.size := Nat.lt_of_lt_of_le zW hbw.size
        have zr0 : w.heap.size < wr.heap.size := by omega
        by_cases hlt : k < args.length
        · obtain ⟨b, off, e2, -, -, hc⟩ := hr (by omega)
          subst e2
          have hcell := (hbw.cell (p := ⟨b, off + k, none⟩) (World.block_lt_of_cell? W ⟨b, off + k, none⟩ (hc k hlt))).trans (hc k hlt)
          rw [natsI_get _ _ hlt] at hcell
          have hmem : args.getD k 0 ∈ args := by simp [List.getD, hlt]
          have hva := HV2.out _ hmem
          have HS := Lib.hid (HT2.out k hlt)
          have HC := Lib.hid (fun (w' : World) (hb : Bel w w') => HE2.out _ w' hmem hb)
          have hmul : noOf sz ((args.take k).map F) * sz ≤ noOf sz ((args.take k).map F) * 3 := Int.mul_le_mul_of_nonneg_left w2 hn0.1
          have hmul0 := Int.mul_nonneg hn0.1 (show 0 ≤ sz by omega)
          clear hr hc hmem HE2 HV2 HT2 HN
          generalize noOf sz ((args.take k).map F) = no at *
          generalize args.getD k 0 = a at *
          generalize F a = fa at *
          have i1 := IntWalk.i64_in (no * sz) (by omega)
          have i2 := IntWalk.i64_in (no * sz + fa) (by omega)
          clear hmul hmul0
          go_wp2_with fail
          go_region_held3 (fun w' => Bel wr w' ∧ w'.cell? ⟨w.heap.size + 1, 0, none⟩ = some (.int .i64 sz) ∧ w'.cell? ⟨w.heap.size + 1, 1, none⟩ = some (.slice au tb.length cu) ∧ w'.cell? ⟨w.heap.size, 0, none⟩ = some v)
            (first | exact ⟨Bel.drew0 _, q1, q2, q0⟩ | exact ⟨HB8, HB8.at zr1 q1, HB8.at zr1 q2, HB8.at zr0 q0⟩ | fail)
            (first | (go_at_call 88; refine (HC.out _ ((HW.step hbw).step (Bel.drew0 _))).mono ?_; rintro e w8 ⟨rfl, hb8⟩; have HB8 := hb8.of_drew) | fail)
          go_wp2_with fail
          go_roundw
          case rel => exact ⟨k+1, by omega, by go_num, by rw [HS.out], hbw.step HB8⟩
          case measure => simp [intOf]; omega
        · obtain rfl : k = args.length := by omega
          rw [List.take_length] at hn0 ⊢
          obtain ⟨bb, off, u1, rfl, hbs, c1, s1⟩ := hu.at (HW.step hbw) m hmt
          obtain ⟨x1, x2, rfl, -, -, hrx⟩ := s1
          obtain ⟨N, hN⟩ : ∃ N : Nat, noOf sz (args.map F) = (N : Int) := ⟨(noOf sz (args.map F)).toNat, by omega⟩
          have HVAL : Hid ((tb.getD m []).getD (noOf sz (args.map F)).toNat 0 = (tb.getD m []).getD N 0) := by show _ = _; rw [hN, Int.toNat_natCast]
          have hnl := HNL.out
          rw [hN] at hnl hn0 ⊢
          rw [Int.toNat_natCast]
          have hNL : N < (tb.getD m []).length := by omega
          obtain ⟨bx, ofy, rfl, hyl, hcy⟩ := rd hrx (Bel.rfl' _) N hNL
          have hct2 := (HW.step hbw).at hbtl hct
          clear hr hrx HE2 HV2 HT2 HN HNL HTB
          generalize (tb.getD m []).getD N 0 = val at *
          generalize (tb.getD m []).length = xl at *
          have hil : (i : Int) < t.length := by omega
          have hml : (m : Int) < tb.length := by omega
          go_wp2_with fail
          go_region_held3 (fun w' => Bel wr w' ∧ w'.cell? ⟨w.heap.size + 1, 1, none⟩ = some (.slice (some ⟨bb, off, none⟩) tb.length cu) ∧ w'.cell? ⟨bt, offt + i, none⟩ = some (.int .i64 m) ∧ w'.cell? ⟨bb, off + m, none⟩ = some (.slice (some ⟨bx, ofy, none⟩) xl x2) ∧ w'.cell? ⟨bx, ofy + N, none⟩ = some (.int .i64 val))
            (first | exact ⟨Bel.drew0 _, q2, hct2, c1, hcy⟩ | fail)
            (first | fail)
          go_wp2_with fail
          go_ret
          exact ⟨by rw [HVAL.out]; rfl, (HW.step hbw).step (Bel.drew0 _)⟩
end Go.Proofs.Ytlcjcihohclmhaa
end
section
/- Chapter 5, the reference: EvalIn, HoldsAt. -/
namespace Go.Proofs.Ytlcjcihohclmhaa
open Go.RowKit

def evalOk (ar : List Int) (sz : Int) (tb : List (List Int)) (t env : List Int) : Bool := goodWorld ar sz tb && (okTerm ar t && okEnv sz env)
def evalAns (ar : List Int) (sz : Int) (tb : List (List Int)) (t env : List Int) : Int := if evalOk ar sz tb t env then evT ar sz tb env t else 0

end Go.Proofs.Ytlcjcihohclmhaa
end
section
/- Chapter 4, the reference: literals and clauses that are valid, weights. -/
namespace Go.Proofs.Ytlcjcihohclmhaa
open Go.RowKit

set_option maxRecDepth 100000 in
set_option maxHeartbeats 400000 in
theorem l4Lit_c (l h l' h' : Nat) (v u1 u2 : Value) (ar xl xr : List Int) (p : Bool) (w : World) (hg : goodSign ar = true) (hl : xl.length ≤ 1048576) (hr : xr.length ≤ 1048576) (hv : SlI l h w v ar) (h1 : SlI l' h' w u1 xl) (h2 : SlI l' h' w u2 xr) :
    Calls Try.prog 61 #[.agg #[v], .agg #[.bool p, u1, u2]] w (RetV w (.bool (okTerm ar xl && okTerm ar xr))) := by
  have HB : Bel w ((w.alloc (.cells #[v] 26)).alloc (.cells #[.bool p, u1, u2] 60)) := Bel.alloc2 _ _ _
  cases e1 : okTerm ar xl with
  | false =>
    have HC := Lib.hid (fun (w' : World) (hb : Bel w w') => l1Term_v l h l' h' v u1 ar xl false w' e1 hg hl (hv.below hb) (h1.below hb))
    clear hv h1 h2 e1
    go_enter Try.func61, Try.ntmps61
    go_wp2_with fail
    refine (HC.out _ HB).mono ?_; rintro e w1 ⟨rfl, hb1⟩
    go_wp2_with fail
    go_ret
    exact ⟨rfl, HB.step hb1⟩
  | true =>
    rw [Bool.true_and]
    have HC := Lib.hid (fun (w' : World) (hb : Bel w w') => l1Term_v l h l' h' v u1 ar xl true w' e1 hg hl (hv.below hb) (h1.below hb))
    have HD := Lib.hid (fun (w' : World) (hb : Bel w w') => l1Term_c l h l' h' v u2 ar xr w' hg hr (hv.below hb) (h2.below hb))
    clear hv h1 h2 e1
    go_enter Try.func61, Try.ntmps61
    go_wp2_with fail
    refine (HC.out _ HB).mono ?_; rintro e w1 ⟨rfl, hb1⟩
    have k0 := hb1.at (b := w.heap.size) (off := 0) (by simp; omega) (show World.cell? _ _ = some v by simp [go_sem])
    have k2 := hb1.at (b := w.heap.size + 1) (off := 2) (by simp) (show World.cell? _ _ = some u2 by simp [go_sem])
    go_wp2_with fail
    refine (HD.out _ (HB.step hb1)).mono ?_; rintro e w2 ⟨rfl, hb2⟩
    go_wp2_with fail
    go_ret
    exact ⟨rfl, (HB.step hb1).step hb2⟩
end Go.Proofs.Ytlcjcihohclmhaa
end
section
/- Chapter 4, the reference: valid clauses, weights. -/
namespace Go.Proofs.Ytlcjcihohclmhaa
open Go.RowKit

theorem okTerm_len {ar t : List Int} (h : okTerm ar t = true) : 1 ≤ t.length ∧ t.length ≤ 40 := ⟨((okTerm_iff ar t).1 h).1, ((okTerm_iff ar t).1 h).2.1⟩
theorem l4Lit_v (l h l' h' : Nat) (v u1 u2 : Value) (ar xl xr : List Int) (p q : Bool) (w : World) (hq : (okTerm ar xl && okTerm ar xr) = q) (hg : goodSign ar = true) (hl : xl.length ≤ 1048576) (hr : xr.length ≤ 1048576) (hv : SlI l h w v ar) (h1 : SlI l' h' w u1 xl) (h2 : SlI l' h' w u2 xr) :
    Calls Try.prog 61 #[.agg #[v], .agg #[.bool p, u1, u2]] w (RetV w (.bool q)) := by subst hq; exact l4Lit_c l h l' h' v u1 u2 ar xl xr p w hg hl hr hv h1 h2

set_option maxRecDepth 100000 in
set_option maxHeartbeats 400000 in
theorem l4Clause_c (l h l' h' : Nat) (v u : Value) (ar : List Int) (c : List Lt) (w : World) (hg : goodSign ar = true) (hx : shortC c) (hv : SlI l h w v ar) (hu : SlC l' h' w u c) :
    Calls Try.prog 29 #[.agg #[v], u] w (RetV w (.bool (okLits ar c))) := by
  obtain ⟨ad, cap, rfl⟩ := hu.form
  obtain ⟨hxl, hxj⟩ := hx
  go_enter Try.func29, Try.ntmps29
  go_wp2_with fail
  go_loopw [9] (fun i wr => ∃ k : Nat, k ≤ c.length ∧ i = .int .i64 k ∧ okTo ar c k ∧ Bel (w.alloc (.cells #[v] 26)) wr) (fun i _ => c.length - (intOf i).toNat)
  case atStart => exact ⟨0, Nat.zero_le _, rfl, fun j hj => absurd hj (by omega), Bel.rfl' _⟩
  case round =>
    obtain ⟨k, hk, rfl, hto, hb⟩ := hrel
    have hbox := boxc hb 0 _ rfl
    by_cases hlt : k < c.length
    · obtain ⟨b, off, u1, u2, rfl, hbs, c1, c2, c3, s1, s2⟩ := hu.at hb.of_alloc k hlt
      obtain ⟨hm1, hm2⟩ := hxj k hlt
      have hstep := hto.step (k := k)
      have hbad := okLits_bad (ar := ar) hlt
      have hin1 : (k : Int) < c.length := by omega
      have hvr := hv.below hb.of_alloc
      clear hu hv hxj hto
      unfold okLit at hstep hbad
      generalize c.getD k lt0 = x at *
      obtain ⟨p, xl, xr⟩ := x
      simp only at *
      obtain ⟨a1, d1, rfl⟩ := s1.form
      obtain ⟨a2, d2, rfl⟩ := s2.form
      have hbox2 := boxc (hb.alloc (.cells #[.bool p, .slice a1 xl.length d1, .slice a2 xr.length d2] 60)) 0 _ rfl
      cases hq : (okTerm ar xl && okTerm ar xr) with
      | false =>
        have E := Lib.hid (hbad hq)
        have HQ := Lib.hid hq
        clear hstep hbad hq
        go_wp2_with fail
        refine (l4Lit_v l h l' h' v _ _ ar xl xr p false _ HQ.out hg hm1 hm2 (hvr.alloc _) (s1.alloc _) (s2.alloc _)).mono ?_; rintro e w1 ⟨rfl, hb1⟩
        go_wp2_with fail
        go_ret
        exact ⟨by rw [E.out]; rfl, hb.of_alloc.step ((Bel.alloc0 _ _).step hb1)⟩
      | true =>
        have E := Lib.hid (hstep hq)
        have HQ := Lib.hid hq
        clear hstep hbad hq
        go_wp2_with fail
        refine (l4Lit_v l h l' h' v _ _ ar xl xr p true _ HQ.out hg hm1 hm2 (hvr.alloc _) (s1.alloc _) (s2.alloc _)).mono ?_; rintro e w1 ⟨rfl, hb1⟩
        go_wp2_with fail
        go_roundw
        case rel => exact ⟨k+1, by omega, by go_num, E.out, hb.step ((Bel.alloc0 _ _).step hb1)⟩
        case measure => simp [intOf]; omega
    · obtain rfl : k = c.length := by omega
      have E := Lib.hid hto.done
      have hd : decide ((c.length : Int) ≤ 8) = decide (c.length ≤ 8) := by rw [decide_eq_decide]; omega
      go_wp2_with fail
      go_ret
      exact ⟨by rw [E.out, ← hd]; rfl, hb.of_alloc⟩

end Go.Proofs.Ytlcjcihohclmhaa
end
section
/- Chapter 4, the reference: GoodClause, WeightOf. -/
namespace Go.Proofs.Ytlcjcihohclmhaa
open Go.RowKit

end Go.Proofs.Ytlcjcihohclmhaa
end
section
/- Chapter 5, the reference: HoldsAt. -/
namespace Go.Proofs.Ytlcjcihohclmhaa
open Go.RowKit

/-- A literal, a clause holds at an assignment. -/
def litH (ar : List Int) (sz : Int) (tb : List (List Int)) (env : List Int) (x : Lt) : Bool := (evT ar sz tb env x.2.1 == evT ar sz tb env x.2.2) == x.1
def clH (ar : List Int) (sz : Int) (tb : List (List Int)) (env : List Int) (c : List Lt) : Bool := c.any (litH ar sz tb env)
theorem any_split (c : List Lt) (p : Lt → Bool) (k : Nat) (hk : k < c.length) (h : (c.take k).any p = false) : (c.take (k+1)).any p = p (c.getD k lt0) := by
  rw [List.take_succ_eq_append_getElem hk, List.any_append, h]
  simp [List.getD, hk]
theorem any_true (c : List Lt) (p : Lt → Bool) (k : Nat) (hk : k < c.length) (h : p (c.getD k lt0) = true) : c.any p = true := by
  rw [List.any_eq_true]
  exact ⟨c[k], List.getElem_mem hk, by simpa [List.getD, hk] using h⟩
theorem beq_eval (a b : Int) : ((a : Int) == b) = decide (a = b) := by
  rw [Bool.eq_iff_iff]; simp

set_option maxRecDepth 100000 in
set_option maxHeartbeats 2000000 in
theorem l5At_c (l h l' h' l2 h2 l3 h3 : Nat) (v u vc ve : Value) (ar : List Int) (sz : Int) (tb : List (List Int)) (c : List Lt) (env : List Int) (w : World) (hg : goodSign ar = true) (hw : isWorld ar sz tb = true) (he : okEnv sz env = true) (hok : okLits ar c = true)
    (hv : SlI l h w v ar) (hu : SlS l' h' w u tb) (hc : SlC l2 h2 w vc c) (hve : SlI l3 h3 w ve env) :
    Calls Try.prog 83 #[.agg #[v], .agg #[.int .i64 sz, u], vc, ve] w (RetV w (.bool (clH ar sz tb env c))) := by
  obtain ⟨ac, kc, rfl⟩ := hc.form
  have h8 := (okLits_iff.1 hok).1
  have HE := Lib.hid (fun (t : List Int) (vt : Value) (a b : Nat) (w' : World) (hq : okTerm ar t = true) (hb : Bel w w') (ht : SlI a b w' vt t) => l5Eval_c l h l' h' a b l3 h3 v u vt ve ar sz tb t env hg hw he hq t.length 0 w' (by omega) (((okTerm_iff ar t).1 hq).1) (hv.below hb) (hu.below hb) ht (hve.below hb))
  have HE : Hid (∀ (t : List Int) (vt : Value) (a b : Nat) (w' : World), okTerm ar t = true → Bel w w' → SlI a b w' vt t → Calls Try.prog 88 #[.agg #[v], .agg #[.int .i64 sz, u], vt, .int .i64 0, ve] w' (RetV w' (.int .i64 (evT ar sz tb env t)))) := HE
  have HOK := Lib.hid (fun k hk => okLits_get (okLits_iff.1 hok).2 k hk)
  clear hv hu hve hg hw he hok
  have HS1 := Lib.hid (fun k hk h => any_split c (litH ar sz tb env) k hk h)
  have HS2 := Lib.hid (fun k hk h => any_true c (litH ar sz tb env) k hk h)
  unfold clH
  have HL : Hid (∀ x : Lt, litH ar sz tb env x = ((evT ar sz tb env x.2.1 == evT ar sz tb env x.2.2) == x.1)) := fun _ => rfl
  generalize litH ar sz tb env = LH at *
  generalize evT ar sz tb env = EV at *
  go_enter Try.func83, Try.ntmps83
  go_wp2_with fail
  obtain ⟨W, hW⟩ : ∃ W, W = (w.alloc (.cells #[v] 26)).alloc (.cells #[.int .i64 sz, u] 29) := ⟨_, rfl⟩
  have hB : Bel w W := by rw [hW]; exact Bel.alloc2 _ _ _
  have zW : w.heap.size + 1 < W.heap.size := by rw [hW]; simp
  have k0 : W.cell? ⟨w.heap.size, 0, none⟩ = some v := by rw [hW]; simp [go_sem]
  have k1 : W.cell? ⟨w.heap.size + 1, 0, none⟩ = some (.int .i64 sz) := by rw [hW]; simp [go_sem]
  have k2 : W.cell? ⟨w.heap.size + 1, 1, none⟩ = some u := by rw [hW]; simp [go_sem]
  rw [← hW]
  clear hW
  go_loopw [13] (fun i wr => ∃ k : Nat, k ≤ c.length ∧ i = .int .i64 k ∧ (c.take k).any LH = false ∧ Bel W wr) (fun i _ => c.length - (intOf i).toNat)
  case atStart => exact ⟨0, Nat.zero_le _, rfl, by simp, Bel.rfl' _⟩
  case round =>
    obtain ⟨k, hk, rfl, hany, hb⟩ := hrel
    by_cases hlt : k < c.length
    · obtain ⟨b, off, u1, u2, rfl, hbs, c1, c2, c3, s1, s2⟩ := hc.at (hB.step hb) k hlt
      obtain ⟨o1, o2⟩ := HOK.out k hlt
      have hin1 : (k : Int) < c.length := by omega
      have HS := HS1.out k hlt hany
      have HT := HS2.out k hlt
      rw [HL.out] at HS HT
      clear HS1 HS2 HOK hany hc
      generalize c.getD k lt0 = x at *
      obtain ⟨p, xl, xr⟩ := x
      simp only at *
      obtain ⟨a1, d1, rfl⟩ := s1.form
      obtain ⟨a2, d2, rfl⟩ := s2.form
      have hBx := hb.alloc (.cells #[.bool p, .slice a1 xl.length d1, .slice a2 xr.length d2] 60)
      have zl1 : w.heap.size + 1 < wr.heap.size := Nat.lt_of_lt_of_le zW hb.size
      have KX : Hid (∀ w', Bel (wr.alloc (.cells #[.bool p, .slice a1 xl.length d1, .slice a2 xr.length d2] 60)) w' → w'.cell? ⟨w.heap.size, 0, none⟩ = some v ∧ w'.cell? ⟨w.heap.size + 1, 0, none⟩ = some (.int .i64 sz) ∧ w'.cell? ⟨w.heap.size + 1, 1, none⟩ = some u ∧ w'.cell? ⟨wr.heap.size, 0, none⟩ = some (.bool p) ∧ w'.cell? ⟨wr.heap.size, 1, none⟩ = some (.slice a1 xl.length d1) ∧ w'.cell? ⟨wr.heap.size, 2, none⟩ = some (.slice a2 xr.length d2)) := fun w' hq =>
        ⟨(hBx.step hq).at (by omega) k0, (hBx.step hq).at zW k1, (hBx.step hq).at zW k2, boxc hq 0 _ rfl, boxc hq 1 _ rfl, boxc hq 2 _ rfl⟩
      have HC1 := Lib.hid (fun (w' : World) (hq : Bel (wr.alloc (.cells #[.bool p, .slice a1 xl.length d1, .slice a2 xr.length d2] 60)) w') => HE.out xl _ _ _ w' o1 ((hB.step hBx).step hq) ((s1.alloc _).below hq))
      have HC2 := Lib.hid (fun (w' : World) (hq : Bel (wr.alloc (.cells #[.bool p, .slice a1 xl.length d1, .slice a2 xr.length d2] 60)) w') => HE.out xr _ _ _ w' o2 ((hB.step hBx).step hq) ((s2.alloc _).below hq))
      clear s1 s2 o1 o2 HE HL
      generalize EV xl = e1 at *
      generalize EV xr = e2 at *
      have KR := KX.out _ (Bel.drew0 _)
      cases hq : ((e1 : Int) == e2) with
      | false =>
        rw [hq] at HS HT
        cases p with
        | false =>
          go_wp2_with fail
          go_region_held3 (fun w' => Bel (wr.alloc (.cells #[.bool false, .slice a1 xl.length d1, .slice a2 xr.length d2] 60)) w' ∧ w'.cell? ⟨w.heap.size, 0, none⟩ = some v ∧ w'.cell? ⟨w.heap.size + 1, 0, none⟩ = some (.int .i64 sz) ∧ w'.cell? ⟨w.heap.size + 1, 1, none⟩ = some u ∧ w'.cell? ⟨wr.heap.size, 0, none⟩ = some (.bool false) ∧ w'.cell? ⟨wr.heap.size, 1, none⟩ = some (.slice a1 xl.length d1) ∧ w'.cell? ⟨wr.heap.size, 2, none⟩ = some (.slice a2 xr.length d2))
            (first | exact ⟨Bel.drew0 _, KX.out _ (Bel.drew0 _)⟩ | exact ⟨B8, KX.out _ B8⟩ | exact ⟨B8.step hb9, KX.out _ (B8.step hb9)⟩ | fail)
            (first | (go_at_call 88; refine (HC2.out _ B8).mono ?_; rintro e w9 ⟨rfl, hb9⟩) | (go_at_call 88; refine (HC1.out _ (Bel.drew0 _)).mono ?_; rintro e w8 ⟨rfl, hb8⟩; have B8 := (Bel.drew0 _).step hb8) | fail)
          go_wp2_with fail
          go_ret
          exact ⟨by rw [HT rfl]; rfl, (hB.step hBx).step (B8.step hb9)⟩
        | true =>
          go_wp2_with fail
          go_region_held3 (fun w' => Bel (wr.alloc (.cells #[.bool true, .slice a1 xl.length d1, .slice a2 xr.length d2] 60)) w' ∧ w'.cell? ⟨w.heap.size, 0, none⟩ = some v ∧ w'.cell? ⟨w.heap.size + 1, 0, none⟩ = some (.int .i64 sz) ∧ w'.cell? ⟨w.heap.size + 1, 1, none⟩ = some u ∧ w'.cell? ⟨wr.heap.size, 0, none⟩ = some (.bool true) ∧ w'.cell? ⟨wr.heap.size, 1, none⟩ = some (.slice a1 xl.length d1) ∧ w'.cell? ⟨wr.heap.size, 2, none⟩ = some (.slice a2 xr.length d2))
            (first | exact ⟨Bel.drew0 _, KX.out _ (Bel.drew0 _)⟩ | exact ⟨B8, KX.out _ B8⟩ | exact ⟨B8.step hb9, KX.out _ (B8.step hb9)⟩ | fail)
            (first | (go_at_call 88; refine (HC2.out _ B8).mono ?_; rintro e w9 ⟨rfl, hb9⟩) | (go_at_call 88; refine (HC1.out _ (Bel.drew0 _)).mono ?_; rintro e w8 ⟨rfl, hb8⟩; have B8 := (Bel.drew0 _).step hb8) | fail)
          go_wp2_with fail
          go_roundw
          case rel => exact ⟨k+1, by omega, by go_num, HS, hBx.step (B8.step hb9)⟩
          case measure => simp [intOf]; omega
      | true =>
        rw [hq] at HS HT
        cases p with
        | false =>
          go_wp2_with fail
          go_region_held3 (fun w' => Bel (wr.alloc (.cells #[.bool false, .slice a1 xl.length d1, .slice a2 xr.length d2] 60)) w' ∧ w'.cell? ⟨w.heap.size, 0, none⟩ = some v ∧ w'.cell? ⟨w.heap.size + 1, 0, none⟩ = some (.int .i64 sz) ∧ w'.cell? ⟨w.heap.size + 1, 1, none⟩ = some u ∧ w'.cell? ⟨wr.heap.size, 0, none⟩ = some (.bool false) ∧ w'.cell? ⟨wr.heap.size, 1, none⟩ = some (.slice a1 xl.length d1) ∧ w'.cell? ⟨wr.heap.size, 2, none⟩ = some (.slice a2 xr.length d2))
            (first | exact ⟨Bel.drew0 _, KX.out _ (Bel.drew0 _)⟩ | exact ⟨B8, KX.out _ B8⟩ | exact ⟨B8.step hb9, KX.out _ (B8.step hb9)⟩ | fail)
            (first | (go_at_call 88; refine (HC2.out _ B8).mono ?_; rintro e w9 ⟨rfl, hb9⟩) | (go_at_call 88; refine (HC1.out _ (Bel.drew0 _)).mono ?_; rintro e w8 ⟨rfl, hb8⟩; have B8 := (Bel.drew0 _).step hb8) | fail)
          go_wp2_with fail
          go_roundw
          case rel => exact ⟨k+1, by omega, by go_num, HS, hBx.step (B8.step hb9)⟩
          case measure => simp [intOf]; omega
        | true =>
          go_wp2_with fail
          go_region_held3 (fun w' => Bel (wr.alloc (.cells #[.bool true, .slice a1 xl.length d1, .slice a2 xr.length d2] 60)) w' ∧ w'.cell? ⟨w.heap.size, 0, none⟩ = some v ∧ w'.cell? ⟨w.heap.size + 1, 0, none⟩ = some (.int .i64 sz) ∧ w'.cell? ⟨w.heap.size + 1, 1, none⟩ = some u ∧ w'.cell? ⟨wr.heap.size, 0, none⟩ = some (.bool true) ∧ w'.cell? ⟨wr.heap.size, 1, none⟩ = some (.slice a1 xl.length d1) ∧ w'.cell? ⟨wr.heap.size, 2, none⟩ = some (.slice a2 xr.length d2))
            (first | exact ⟨Bel.drew0 _, KX.out _ (Bel.drew0 _)⟩ | exact ⟨B8, KX.out _ B8⟩ | exact ⟨B8.step hb9, KX.out _ (B8.step hb9)⟩ | fail)
            (first | (go_at_call 88; refine (HC2.out _ B8).mono ?_; rintro e w9 ⟨rfl, hb9⟩) | (go_at_call 88; refine (HC1.out _ (Bel.drew0 _)).mono ?_; rintro e w8 ⟨rfl, hb8⟩; have B8 := (Bel.drew0 _).step hb8) | fail)
          go_wp2_with fail
          go_ret
          exact ⟨by rw [HT rfl]; rfl, (hB.step hBx).step (B8.step hb9)⟩
    · obtain rfl : k = c.length := by omega
      rw [List.take_length] at hany
      have HY := Lib.hid hany
      clear hany
      go_wp2_with fail
      go_ret
      exact ⟨by rw [HY.out]; rfl, hB.step hb⟩
end Go.Proofs.Ytlcjcihohclmhaa
end
section
/- Chapter 5: the least assignment that makes something false. No program. -/
namespace Go.Proofs.Ytlcjcihohclmhaa
open Go.RowKit

/-- The first of g k, g (k+1), .. that is something. -/
def tryW (g : Nat → Option (List Int)) : Nat → Nat → Option (List Int)
  | _, 0 => none
  | k, m + 1 => match g k with
    | some e => some e
    | none => tryW g (k + 1) m
theorem tryW_some {g : Nat → Option (List Int)} {k m : Nat} {e : List Int} (h : g k = some e) : tryW g k (m+1) = some e := by rw [tryW, h]
theorem tryW_none {g : Nat → Option (List Int)} {k m : Nat} (h : g k = none) : tryW g k (m+1) = tryW g (k+1) m := by rw [tryW, h]
/-- The least values of these variables for which P is false. -/
def lw (Z : Nat) (P : List Int → Bool) : List Nat → List Int → Option (List Int)
  | [], e => if P e then none else some e
  | v :: r, e => tryW (fun n => lw Z P r (e.set v (n : Int))) 0 Z
/-- The same but for these. -/
def Off (vs : List Nat) (e e' : List Int) : Prop := e'.length = e.length ∧ ∀ j, j ∉ vs → e'.getD j 0 = e.getD j 0
theorem Off.refl (vs : List Nat) (e : List Int) : Off vs e e := ⟨rfl, fun _ _ => rfl⟩
theorem Off.trans {vs : List Nat} {a b c : List Int} (h : Off vs a b) (k : Off vs b c) : Off vs a c := ⟨k.1.trans h.1, fun j hj => (k.2 j hj).trans (h.2 j hj)⟩
theorem Off.symm {vs : List Nat} {a b : List Int} (h : Off vs a b) : Off vs b a := ⟨h.1.symm, fun j hj => (h.2 j hj).symm⟩
theorem Off.wider {vs us : List Nat} {a b : List Int} (h : Off vs a b) (k : ∀ v ∈ vs, v ∈ us) : Off us a b := ⟨h.1, fun j hj => h.2 j fun hm => hj (k j hm)⟩
theorem set_getD (e : List Int) (v : Nat) (x : Int) (j : Nat) : (e.set v x).getD j 0 = if v = j ∧ v < e.length then x else e.getD j 0 := by
  rw [List.getD_eq_getElem?_getD, List.getElem?_set]
  by_cases h : v = j
  · subst h
    by_cases hl : v < e.length
    · simp [hl]
    · simp [hl, List.getD]
  · rw [if_neg h, if_neg (fun k => h k.1), List.getD_eq_getElem?_getD]
theorem Off.set {v : Nat} {r : List Nat} {e e' : List Int} (h : Off (v :: r) e e') (x : Int) : Off r (e.set v x) (e'.set v x) := by
  refine ⟨by simp [h.1], fun j hj => ?_⟩
  rw [set_getD, set_getD, h.1]
  by_cases hv : v = j ∧ v < e.length
  · rw [if_pos hv, if_pos hv]
  · rw [if_neg hv, if_neg hv]
    by_cases e1 : j = v
    · subst e1
      have hl : e.length ≤ j := by omega
      rw [List.getD_eq_getElem?_getD, List.getD_eq_getElem?_getD, List.getElem?_eq_none (by rw [h.1]; exact hl), List.getElem?_eq_none hl]
    · exact h.2 j (by simp [e1, hj])
theorem Off.one (v : Nat) (r : List Nat) (e : List Int) (x : Int) : Off (v :: r) e (e.set v x) := by
  refine ⟨by simp, fun j hj => ?_⟩
  rw [set_getD, if_neg]
  rintro ⟨h, _⟩
  exact hj (by simp [h])
theorem Off.nil {a b : List Int} (h : Off [] a b) : b = a := by
  refine List.ext_getElem h.1 fun j h1 h2 => ?_
  have := h.2 j (by simp)
  simpa [List.getD, h1, h2] using this
/-- What the variables are at first does not count. -/
theorem lw_off (Z : Nat) (P : List Int → Bool) : ∀ (vs : List Nat) (e e' : List Int), Off vs e e' → lw Z P vs e' = lw Z P vs e := by
  intro vs
  induction vs with
  | nil => intro e e' h; rw [h.nil]
  | cons v r ih =>
    intro e e' h
    show tryW _ 0 Z = tryW _ 0 Z
    congr 1
    funext n
    exact ih _ _ (h.set _)
theorem tryW_mem {g : Nat → Option (List Int)} : ∀ (m k : Nat) (e : List Int), tryW g k m = some e → ∃ n, k ≤ n ∧ n < k + m ∧ g n = some e := by
  intro m
  induction m with
  | zero => intro k e h; simp [tryW] at h
  | succ m ih =>
    intro k e h
    rw [tryW] at h
    cases hg : g k with
    | some x => rw [hg] at h; simp at h; subst h; exact ⟨k, Nat.le_refl _, by omega, hg⟩
    | none =>
      rw [hg] at h
      obtain ⟨n, h1, h2, h3⟩ := ih _ _ h
      exact ⟨n, by omega, by omega, h3⟩
theorem okEnv_set {sz : Int} {e : List Int} (h : okEnv sz e = true) (v : Nat) {x : Int} (h0 : 0 ≤ x) (h1 : x ≤ sz - 1) : okEnv sz (e.set v x) = true := by
  obtain ⟨a, b⟩ := okEnv_iff.1 h
  refine okEnv_iff.2 ⟨by simp [a], fun j hj => ?_⟩
  rw [set_getD]
  split
  · exact ⟨h0, h1⟩
  · exact b j hj
theorem lw_ok {Z : Nat} {P : List Int → Bool} : ∀ (vs : List Nat) (e r : List Int), okEnv Z e = true → lw Z P vs e = some r → okEnv Z r = true ∧ Off vs e r := by
  intro vs
  induction vs with
  | nil =>
    intro e r h hl
    unfold lw at hl
    split at hl
    · simp at hl
    · simp at hl; subst hl; exact ⟨h, Off.refl _ _⟩
  | cons v vs ih =>
    intro e r h hl
    obtain ⟨n, _, hn, hg⟩ := tryW_mem _ _ _ hl
    obtain ⟨k1, k2⟩ := ih _ _ (okEnv_set h v (x := (n : Int)) (by omega) (by omega)) hg
    exact ⟨k1, (Off.one v vs e n).trans (k2.wider (by simp +contextual))⟩
def zeros12 : List Int := List.replicate 12 0
theorem zeros_ok {Z : Nat} (h : 1 ≤ Z) : okEnv Z zeros12 = true := by
  refine okEnv_iff.2 ⟨rfl, fun j hj => ?_⟩
  have : zeros12.getD j 0 = 0 := by
    unfold zeros12
    rw [List.getD_eq_getElem?_getD, List.getElem?_replicate]
    simp [hj]
  rw [this]; omega

/-- The answers. -/
def varsC (c : List Lt) : List Nat := varsTo (mk (flatC c).flatten) 12
def fewC (c : List Lt) : Bool := decide ((varsC c).length ≤ 6)
def falseOk (ar : List Int) (sz : Int) (tb : List (List Int)) (c : List Lt) : Bool := goodWorld ar sz tb && (okLits ar c && fewC c)
def lwC (ar : List Int) (sz : Int) (tb : List (List Int)) (c : List Lt) : Option (List Int) := lw sz.toNat (fun e => clH ar sz tb e c) (varsC c) zeros12
def falseAns (ar : List Int) (sz : Int) (tb : List (List Int)) (c : List Lt) : List Int := if falseOk ar sz tb c then (lwC ar sz tb c).getD [] else []
def falseIs (ar : List Int) (sz : Int) (tb : List (List Int)) (c : List Lt) : Bool := falseOk ar sz tb c && (lwC ar sz tb c).isSome
theorem lwC_ok {ar : List Int} {sz : Int} {tb : List (List Int)} {c : List Lt} (h1 : 1 ≤ sz) {r : List Int} (h : lwC ar sz tb c = some r) : okEnv sz r = true := by
  obtain ⟨Z, rfl⟩ : ∃ Z : Nat, sz = (Z : Int) := ⟨sz.toNat, by omega⟩
  exact (lw_ok _ _ _ (zeros_ok (by omega)) h).1
theorem falseAns_len (ar : List Int) (sz : Int) (tb : List (List Int)) (c : List Lt) : (falseAns ar sz tb c).length ≤ 1048576 := by
  unfold falseAns
  split
  · rename_i h
    unfold falseOk at h
    rw [Bool.and_eq_true] at h
    obtain ⟨w1, _⟩ := isWorld_iff.1 (goodWorld_iff.1 h.1).2
    cases hl : lwC ar sz tb c with
    | none => simp
    | some r => have := (okEnv_iff.1 (lwC_ok w1 hl)).1; simp; omega
  · simp
end Go.Proofs.Ytlcjcihohclmhaa
end
section
/- Chapter 5, the program: areTriable. -/
namespace Go.Proofs.Ytlcjcihohclmhaa
open Go.RowKit

/-- The slice value v holds the clauses cs. -/
def SlCs (lo hi : Nat) (w : World) (v : Value) (cs : List (List Lt)) : Prop :=
  ∃ ad cap, v = .slice ad cs.length cap ∧ cs.length ≤ cap ∧ (cap ≤ maxLen ∧ (ad = none → cap = 0)) ∧
    (0 < cs.length → ∃ b off, ad = some ⟨b, off, none⟩ ∧ lo ≤ b ∧ b < hi ∧ ∀ j, j < cs.length → ∃ u, w.cell? ⟨b, off + j, none⟩ = some u ∧ SlC lo hi w u (cs.getD j []))
theorem SlCs.form {lo hi w v cs} (h : SlCs lo hi w v cs) : ∃ ad k, v = .slice ad cs.length k := by obtain ⟨ad, k, h, _⟩ := h; exact ⟨ad, k, h⟩
theorem SlCs.below {lo hi w w' v cs} (h : SlCs lo hi w v cs) (hb : Bel w w') : SlCs lo hi w' v cs := by
  obtain ⟨ad, cap, rfl, hc, hm, hr⟩ := h
  refine ⟨ad, cap, rfl, hc, hm, fun hp => ?_⟩
  obtain ⟨b, off, e, a1, a2, a3⟩ := hr hp
  refine ⟨b, off, e, a1, a2, fun j hj => ?_⟩
  obtain ⟨u, h1, h2⟩ := a3 j hj
  exact ⟨u, hb.at (World.block_lt_of_cell? w ⟨b, off + j, none⟩ h1) h1, h2.below hb⟩
theorem SlCs.at {lo hi : Nat} {w wr : World} {ad : Option Addr} {k n : Nat} {cs : List (List Lt)} (h : SlCs lo hi w (.slice ad n k) cs) (hb : Bel w wr) (j : Nat) (hj : j < cs.length) :
    ∃ b off u, ad = some ⟨b, off, none⟩ ∧ b < w.heap.size ∧ wr.cell? ⟨b, off + j, none⟩ = some u ∧ SlC lo hi wr u (cs.getD j []) := by
  obtain ⟨ad', cap, e, _, _, hr⟩ := h
  obtain ⟨b, off, e2, _, _, hc⟩ := hr (by omega)
  obtain ⟨u, c1, s1⟩ := hc j hj
  have h1 := World.block_lt_of_cell? w ⟨b, off + j, none⟩ c1
  simp only [Value.slice.injEq] at e
  exact ⟨b, off, u, e.1.trans e2, h1, hb.at h1 c1, s1.below hb⟩
/-- One clause in a block of its own. -/
theorem slcs_one {w : World} {c : List Lt} {u : Value} {t : TypeId} (g : Nat) (hg : g = w.heap.size) (h : SlC 0 w.heap.size w u c) :
    SlCs 0 (w.alloc (.cells #[u] t)).heap.size (w.alloc (.cells #[u] t)) (.slice (some ⟨g, 0, none⟩) 1 1) [c] := by
  subst hg
  have hb := Bel.alloc0 w (.cells #[u] t)
  refine ⟨_, 1, rfl, Nat.le_refl _, ⟨by unfold maxLen; omega, fun h => by simp at h⟩, fun _ => ⟨w.heap.size, 0, rfl, Nat.zero_le _, by simp, fun j hj => ?_⟩⟩
  obtain rfl : j = 0 := by simp at hj; omega
  exact ⟨u, by rw [World.cell?_alloc_new w]; rfl, (h.below hb).mono (Nat.le_refl _) hb.size⟩

def triable (ar : List Int) (cs : List (List Lt)) : Bool := decide (cs.length ≤ 40) && cs.all (fun c => goodClause ar c && fewC c)
theorem allg_split {α : Type} (c : List α) (d : α) (p : α → Bool) (k : Nat) (hk : k < c.length) (h : (c.take k).all p = true) : (c.take (k+1)).all p = p (c.getD k d) := by
  rw [List.take_succ_eq_append_getElem hk, List.all_append, h]
  simp [List.getD, hk]
theorem allg_false {α : Type} (c : List α) (d : α) (p : α → Bool) (k : Nat) (hk : k < c.length) (h : p (c.getD k d) = false) : c.all p = false := by
  rw [List.all_eq_false]
  exact ⟨c[k], List.getElem_mem hk, by simp [List.getD, hk] at h; simp [h]⟩

def RetVI (w : World) (g : Bool) (n : Nat) (e : Ending) (w' : World) : Prop := ∃ ad m k, e = .returned (.tuple #[.slice ad m k, .bool g]) ∧ (g = true → m = n) ∧ Bel w w'
theorem iVarsIn_n {l h l' h' : Nat} {v u : Value} {ar : List Int} {c : List Lt} {w : World} (ha : ar.length ≤ 1048576) (hv : SlI l h w v ar) (hc : sumC c ≤ 1048576) (hu : SlC l' h' w u c) :
    Calls Try.prog 55 #[.agg #[v], u] w (RetVI w (goodClause ar c) (varsC c).length) := by
  refine (iVarsIn_t ha hv hc hu).mono ?_
  rintro e w' ⟨ad, n, k, rfl, o, hb⟩
  refine ⟨ad, n, k, rfl, fun hg => ?_, hb⟩
  obtain ⟨_, _, e, _⟩ := o.sl
  simp only [Value.slice.injEq] at e
  rw [e.2.1]
  unfold varsInAns
  rw [hg, if_pos rfl]
  simp [natsI]; rfl

set_option maxRecDepth 100000 in
set_option maxHeartbeats 1000000 in
theorem areTriable_c (l h l' h' : Nat) (v vc : Value) (ar : List Int) (cs : List (List Lt)) (w : World) (ha : ar.length ≤ 1048576) (hv : SlI l h w v ar) (hs : ∀ k, k < cs.length → sumC (cs.getD k []) ≤ 1048576) (hc : SlCs l' h' w vc cs) :
    Calls Try.prog 26 #[.agg #[v], vc] w (RetV w (.bool (triable ar cs))) := by
  obtain ⟨ac, kc, rfl⟩ := hc.form
  have hcl : cs.length ≤ 9223372036854775807 := by
    obtain ⟨_, cap, e, h1, h2, _⟩ := hc
    unfold maxLen at h2; omega
  unfold triable
  by_cases h40 : cs.length ≤ 40
  · rw [decide_eq_true h40, Bool.true_and]
    have HS1 := Lib.hid (fun k hk h => allg_split cs [] (fun c => goodClause ar c && fewC c) k hk h)
    have HS2 := Lib.hid (fun k hk h => allg_false cs [] (fun c => goodClause ar c && fewC c) k hk h)
    have HV := Lib.hid (fun (c : List Lt) (u : Value) (a b : Nat) (w' : World) (hb : Bel w w') (h1 : sumC c ≤ 1048576) (h2 : SlC a b w' u c) => iVarsIn_n ha (hv.below hb) h1 h2)
    have hd : decide ((cs.length : Int) > 40) = false := decide_eq_false (by omega)
    have HSM := Lib.hid hs
    have HB := Bel.alloc0 w (.cells #[v] 26)
    clear hv hs
    go_enter Try.func26, Try.ntmps26
    go_wp2_with fail
    go_loopw [14] (fun i wr => ∃ k : Nat, k ≤ cs.length ∧ i = .int .i64 k ∧ (cs.take k).all (fun c => goodClause ar c && fewC c) = true ∧ Bel (w.alloc (.cells #[v] 26)) wr) (fun i _ => cs.length - (intOf i).toNat)
    case atStart => exact ⟨0, Nat.zero_le _, rfl, rfl, Bel.rfl' _⟩
    case round =>
      obtain ⟨k, hk, rfl, hall, hb⟩ := hrel
      have x0 : wr.cell? ⟨w.heap.size, 0, none⟩ = some v := hb.at (by simp) (by simp [go_sem])
      by_cases hlt : k < cs.length
      · obtain ⟨bc, offc, uc, rfl, hbc, c1, s1⟩ := hc.at hb.of_alloc k hlt
        obtain ⟨a1, d1, rfl⟩ := s1.form
        have HC := Lib.hid (HV.out _ _ _ _ _ hb.of_alloc (HSM.out k hlt) s1)
        have HA := Lib.hid (HS1.out k hlt hall)
        have HF := Lib.hid (HS2.out k hlt)
        have hlk : (k : Int) < cs.length := by omega
        generalize hcc : (cs.getD k []) = c at *
        have hfe : fewC c = decide ((varsC c).length ≤ 6) := rfl
        have hvl : (varsC c).length ≤ 12 := varsTo_len _ _
        rw [hfe] at HA HF
        generalize (varsC c).length = n at *
        generalize c.length = m at *
        clear hc s1 hall HS1 HS2 HV HSM hcc hfe
        generalize goodClause ar c = g at *
        cases g with
        | false =>
          go_wp2_with fail
          refine HC.out.mono ?_; rintro e w3 ⟨a3, m3, k3, rfl, -, hb3⟩
          go_wp2_with fail
          go_ret
          exact ⟨by rw [HF.out rfl]; rfl, (HB.step hb).step hb3⟩
        | true =>
          by_cases h6 : n ≤ 6
          · have hA := HA.out
            rw [decide_eq_true h6] at hA
            have HA2 := Lib.hid hA
            clear hA HA HF
            have hd6 : decide ((n : Int) > 6) = false := decide_eq_false (by omega)
            go_wp2_with fail
            refine HC.out.mono ?_; rintro e w3 ⟨a3, m3, k3, rfl, hm3, hb3⟩
            obtain rfl := hm3 rfl
            go_wp2_with fail
            go_roundw
            case rel => exact ⟨k+1, by omega, by go_num, HA2.out, hb.step hb3⟩
            case measure => simp [intOf]; omega
          · have hF := Lib.hid (HF.out (by rw [decide_eq_false h6]; rfl))
            clear HA HF
            have hd6 : decide ((n : Int) > 6) = true := decide_eq_true (by omega)
            go_wp2_with fail
            refine HC.out.mono ?_; rintro e w3 ⟨a3, m3, k3, rfl, hm3, hb3⟩
            obtain rfl := hm3 rfl
            go_wp2_with fail
            go_ret
            exact ⟨by rw [hF.out]; rfl, (HB.step hb).step hb3⟩
      · obtain rfl : k = cs.length := by omega
        rw [List.take_length] at hall
        have HALL := Lib.hid hall
        clear hall
        go_wp2_with fail
        go_ret
        exact ⟨by rw [HALL.out]; rfl, HB.step hb⟩
  · rw [decide_eq_false h40, Bool.false_and]
    have hd : decide ((cs.length : Int) > 40) = true := decide_eq_true (by omega)
    go_enter Try.func26, Try.ntmps26
    go_wp2_with fail
    go_ret
    exact ⟨rfl, Bel.alloc0 _ _⟩
end Go.Proofs.Ytlcjcihohclmhaa
end
section
/- The laws' helpers over slices of clauses: the size. -/
namespace Go.Proofs.Ytlcjcihohclmhaa
open Go.RowKit

def sumCs (cs : List (List Lt)) : Nat := (cs.map sumC).sum
def totCs (cs : List (List Lt)) : Nat := cs.length + sumCs cs
def szCs (cs : List (List Lt)) (left : Int) : Int := if left - (totCs cs : Nat) < 0 then -1 else left - (totCs cs : Nat)
theorem sumCs_take (cs : List (List Lt)) (k : Nat) (h : k < cs.length) : sumCs (cs.take (k+1)) = sumCs (cs.take k) + sumC (cs.getD k []) := by
  unfold sumCs
  rw [List.take_succ_eq_append_getElem h, List.map_append, List.sum_append]
  simp [List.getD, h]
theorem sumCs_get (cs : List (List Lt)) (k : Nat) (h : k < cs.length) : sumCs (cs.take k) + sumC (cs.getD k []) ≤ sumCs cs := by
  rw [← sumCs_take cs k h]
  conv => rhs; rw [← List.take_append_drop (k+1) cs]
  unfold sumCs
  rw [List.map_append, List.sum_append]; omega
theorem totCs_each {cs : List (List Lt)} {n : Nat} (h : totCs cs ≤ n) : cs.length ≤ n ∧ ∀ k, k < cs.length → sumC (cs.getD k []) ≤ n := by
  unfold totCs at h
  exact ⟨by omega, fun k hk => by have := sumCs_get cs k hk; omega⟩
theorem SlCs.max {lo hi w v cs} (h : SlCs lo hi w v cs) : cs.length ≤ 9223372036854775807 := by
  obtain ⟨_, cap, e, h1, h2, _⟩ := h
  unfold maxLen at h2; omega

end Go.Proofs.Ytlcjcihohclmhaa
end
section
/- A literal of the draws: its three fields are drawn in a row, its box is laid whenever it is: whatever the order. -/
namespace Go.Proofs.Ytlcjcihohclmhaa.Rl
open Go.RowKit

/-- A literal's box, as it is laid; as it is filled. -/
def Lb (w : World) (g : Nat) (p s1 s2 : Value) : Prop := (w.cell? ⟨g, 0, none⟩ = some p ∧ w.cell? ⟨g, 1, none⟩ = some s1 ∧ w.cell? ⟨g, 2, none⟩ = some s2) ∧ ∀ i, w.frozen? ⟨g, i, none⟩ = false
abbrev Zb (w : World) (g : Nat) : Prop := Lb w g (.bool false) (.slice none 0 0) (.slice none 0 0)
theorem Lb.lt {w : World} {g : Nat} {p s1 s2 : Value} (h : Lb w g p s1 s2) : g < w.heap.size := World.block_lt_of_cell? w ⟨g, 0, none⟩ h.1.1
theorem Lb.bel {w w' : World} {g : Nat} {p s1 s2 : Value} (h : Lb w g p s1 s2) (hb : Bel w w') : Lb w' g p s1 s2 :=
  ⟨⟨hb.at h.lt h.1.1, hb.at h.lt h.1.2.1, hb.at h.lt h.1.2.2⟩, fun i => (hb.frozen (p := ⟨g, i, none⟩) h.lt).trans (h.2 i)⟩
theorem Lb.chg {w w' : World} {g b : Nat} {p s1 s2 : Value} (h : Lb w g p s1 s2) (k : Chg b (b+1) w w') (hg : b < g) : Lb w' g p s1 s2 :=
  ⟨⟨k.cell h.lt (.inr hg) h.1.1, k.cell h.lt (.inr hg) h.1.2.1, k.cell h.lt (.inr hg) h.1.2.2⟩, fun i => (World.frozen?_of_block (w := w) (w' := w') (a := ⟨g, i, none⟩) (k.block g h.lt (.inr hg))).trans (h.2 i)⟩
theorem Lb.new (w : World) (t : TypeId) : Zb (w.alloc (.cells #[.bool false, .slice none 0 0, .slice none 0 0] t)) w.heap.size := ⟨⟨by simp [go_sem], by simp [go_sem], by simp [go_sem]⟩, fun i => by simp [go_sem]⟩
theorem Lb.put {w : World} {g : Nat} {p s1 s2 : Value} (h : Lb w g p s1 s2) (p' t1 t2 : Value) : Lb (((w.setCell ⟨g, 0, none⟩ p').setCell ⟨g, 1, none⟩ t1).setCell ⟨g, 2, none⟩ t2) g p' t1 t2 := by
  obtain ⟨⟨q0, q1, q2⟩, q3⟩ := h
  exact ⟨⟨by simp [go_sem, q0], by simp [go_sem, q1], by simp [go_sem, q2]⟩, fun i => by simp [go_sem, q3]⟩
theorem Lb.put2 {w : World} {g : Nat} {p s1 s2 : Value} (h : Lb w g p s1 s2) (t2 : Value) : Lb (w.setCell ⟨g, 2, none⟩ t2) g p s1 t2 := by
  obtain ⟨⟨q0, q1, q2⟩, q3⟩ := h
  exact ⟨⟨by simp [go_sem, q0], by simp [go_sem, q1], by simp [go_sem, q2]⟩, fun i => by simp [go_sem, q3]⟩
theorem Lb.far {w : World} {g k : Nat} {p s1 s2 : Value} (h : Lb w g p s1 s2) (hk : g ≠ k) (j : Nat) (u : Value) : Lb (w.setCell ⟨k, j, none⟩ u) g p s1 s2 := by
  obtain ⟨⟨q0, q1, q2⟩, q3⟩ := h
  have hk' := Ne.symm hk
  exact ⟨⟨by simp [go_sem, q0], by simp [go_sem, q1], by simp [go_sem, q2]⟩, fun i => by simp [go_sem, q3]⟩
def pt (g : Nat) : Value := .pointer (some ⟨g, 0, none⟩)

/-- The cursor has gone on, and nothing else has turned. -/
def LF (b n k d : Nat) (w0 w : World) : Prop := ∃ k', k ≤ k' ∧ k' ≤ k + d ∧ Cur b n k' w ∧ Chg b (b+1) w0 w
theorem LF.alloc {b n k d : Nat} {w0 w : World} (h : LF b n k d w0 w) (o : Obj) : LF b n k d w0 (w.alloc o) := by
  obtain ⟨k', h1, h2, h3, h4⟩ := h
  exact ⟨k', h1, h2, h3.below (Bel.alloc0 w o), h4.trans (Chg.of_bel (Bel.alloc0 w o))⟩
theorem LF.size {b n k d : Nat} {w0 w : World} (h : LF b n k d w0 w) : w0.heap.size ≤ w.heap.size := by obtain ⟨k', _, _, _, h4⟩ := h; exact h4.size
/-- A term of the draws, in a block of its own that was laid since w0. -/
def TF (w0 w : World) (v : Value) (t : List Int) : Prop := (∃ c, w0.heap.size ≤ c ∧ c < w.heap.size ∧ SlI c (c+1) w v t) ∧ 1 ≤ t.length ∧ t.length ≤ 400
theorem TF.alloc {w0 w : World} {v : Value} {t : List Int} (h : TF w0 w v t) (o : Obj) : TF w0 (w.alloc o) v t := by
  obtain ⟨⟨c, h1, h2, h3⟩, h4⟩ := h
  exact ⟨⟨c, h1, by simp; omega, h3.alloc o⟩, h4⟩
theorem TF.chg {b : Nat} {w0 w w' : World} {v : Value} {t : List Int} (h : TF w0 w v t) (k : Chg b (b+1) w w') (hb : b < w0.heap.size) : TF w0 w' v t := by
  obtain ⟨⟨c, h1, h2, h3⟩, h4⟩ := h
  have := k.size
  exact ⟨⟨c, h1, by omega, h3.chg k (by omega)⟩, h4⟩

theorem TF.form {w0 w : World} {v : Value} {t : List Int} (h : TF w0 w v t) : ∃ a c, v = .slice a t.length c := by
  obtain ⟨⟨c, _, _, h3⟩, _⟩ := h
  exact h3.form
def R1 (b n k d : Nat) (w0 w : World) (e : Ending) (w' : World) : Prop := ∃ x : Bool, e = .returned (.bool x) ∧ LF b n k (d+2) w0 w' ∧ Chg b (b+1) w w'
def R2 (m b n k d : Nat) (w0 w : World) (e : Ending) (w' : World) : Prop := ∃ x : Nat, x < m ∧ e = .returned (.int .i64 x) ∧ LF b n k (d+2) w0 w' ∧ Chg b (b+1) w w'
def R3 (b n k d : Nat) (w0 w : World) (e : Ending) (w' : World) : Prop := ∃ v t, e = .returned v ∧ TF w0 w' v t ∧ LF b n k (d+4000) w0 w' ∧ Chg b (b+1) w w'
set_option maxRecDepth 100000 in
theorem one_l {b n k d : Nat} {w0 w : World} (hn : n ≤ 1099511627776) (hk : k + d ≤ 400000000000) (h : LF b n k d w0 w) : Calls Try.prog 67 #[pt b, .int .i64 3] w (R1 b n k d w0 w) := by
  obtain ⟨k', h1, h2, h3, h4⟩ := h
  refine (one_c b n k' 3 3 w rfl hn (by omega) (by omega) h3).mono ?_
  rintro e w' ⟨q, k2, rfl, g1, g2, g3, g4⟩
  exact ⟨q, rfl, ⟨k2, by omega, by omega, g3, h4.trans g4⟩, g4⟩
set_option maxRecDepth 100000 in
theorem pick_l (m : Nat) (z : Int) (hz : z = m) {b n k d : Nat} {w0 w : World} (hm : 1 ≤ m) (hm2 : m ≤ 1000) (hn : n ≤ 1099511627776) (hk : k + d ≤ 400000000000) (h : LF b n k d w0 w) : Calls Try.prog 48 #[pt b, .int .i64 z] w (R2 m b n k d w0 w) := by
  obtain ⟨k', h1, h2, h3, h4⟩ := h
  refine (pick_c b n k' z m w hz hn (by omega) (by omega) h3).mono ?_
  rintro e w' ⟨q, k2, rfl, gm, g1, g2, g3, g4⟩
  exact ⟨q, by omega, rfl, ⟨k2, by omega, by omega, g3, h4.trans g4⟩, g4⟩
set_option maxRecDepth 100000 in
theorem term_l (x : Nat) (hx : x < 3) {b n k d lo hi : Nat} {v : Value} {ar : List Int} {w0 w : World} (hn : n ≤ 1099511627776) (hk : k + d ≤ 400000000000) (hdr : drawn ar) (hblo : b < lo) (hv : SlI lo hi w0 v ar) (h : LF b n k d w0 w) :
    Calls Try.prog 85 #[pt b, .agg #[v], .int .i64 (1 + (x : Int)), .int .i64 3] w (R3 b n k d w0 w) := by
  obtain ⟨k', h1, h2, h3, h4⟩ := h
  refine (term_z b n (1 + x) 3 k' lo hi _ 3 v ar w (by omega) rfl hn (by omega) (by omega) hdr hblo (by omega) (by omega) h3 (hv.chg h4 (by omega))).mono ?_
  rintro e w' ⟨ad, m, c, t, k2, rfl, hrow, g1, g2, g3, g4, g5, g6, g7⟩
  have hl := tl_le (1 + x) (by omega)
  obtain ⟨c2, o1, o2⟩ := (OwnI.of_row hrow).block
  obtain ⟨o3, o4⟩ := o2 (by omega)
  have hs := h4.size
  exact ⟨_, t, rfl, ⟨⟨c2, by omega, o4, o1.sl⟩, g1, by omega⟩, ⟨k2, by omega, by omega, g6, h4.trans g7⟩, g7⟩

theorem wanted_plain {o : Oper} {ops : Array Oper} {a : Act} (hgd : o.guard = none) : Region.wanted o (yielded ops a.tmps) = true := by simp [Region.wanted, hgd]
theorem lt_box {ops : Array Oper} {o : Oper} {a : Act} {K : Act → World → Prop} {Q : Exit → Act → World → Prop} {E : Prop} {w : World} (hgd : o.guard = none) (ho : o.op = .alloc 60)
    (h : K (a.put o.dst (pt w.heap.size)) (w.alloc (.cells #[.bool false, .slice none 0 0, .slice none 0 0] 60))) : if Region.wanted o (yielded ops a.tmps) = true then Oper.wp Try.prog o a w K Q else E := by
  rw [if_pos (wanted_plain hgd)]
  obtain ⟨dst, op, type, pos, after, guard⟩ := o
  simp only at ho
  subst ho
  go_simp
  exact h
theorem lt_one {ops : Array Oper} {o : Oper} {a : Act} {K : Act → World → Prop} {Q : Exit → Act → World → Prop} {E : Prop} {w : World} {R : Ending → World → Prop} {x : Nat} {tys : Array TypeId} (hgd : o.guard = none)
    (ho : o.op = .call { callee := .value (.func 67), args := #[.tmp x, .const (.int .i64 3)], argTypes := tys })
    (hc : Calls Try.prog 67 #[a.eval (.tmp x), (.int .i64 3)] w R)
    (h : ∀ e w', R e w' → ∃ v, e = .returned v ∧ K (a.put o.dst v) w') : if Region.wanted o (yielded ops a.tmps) = true then Oper.wp Try.prog o a w K Q else E := by
  rw [if_pos (wanted_plain hgd)]
  obtain ⟨dst, op, type, pos, after, guard⟩ := o
  simp only at ho
  subst ho
  unfold Oper.wp execOp
  simp only [resolve, invoke, Sem.run_bind, List.map_toArray, List.map_cons, List.map_nil]
  have hc2 : Calls Try.prog 67 #[a.tmps[x]?.getD undef, (.int .i64 3)] w R := by simpa [Act.eval] using hc
  go_simp
  refine Calls.mono hc2 ?_
  intro e w' hr
  obtain ⟨v, rfl, hk⟩ := h e w' hr
  exact hk
theorem lt_pick (z : Int) {ops : Array Oper} {o : Oper} {a : Act} {K : Act → World → Prop} {Q : Exit → Act → World → Prop} {E : Prop} {w : World} {R : Ending → World → Prop} {x : Nat} {tys : Array TypeId} (hgd : o.guard = none)
    (ho : o.op = .call { callee := .value (.func 48), args := #[.tmp x, .const (.int .i64 z)], argTypes := tys })
    (hc : Calls Try.prog 48 #[a.eval (.tmp x), (.int .i64 z)] w R)
    (h : ∀ e w', R e w' → ∃ v, e = .returned v ∧ K (a.put o.dst v) w') : if Region.wanted o (yielded ops a.tmps) = true then Oper.wp Try.prog o a w K Q else E := by
  rw [if_pos (wanted_plain hgd)]
  obtain ⟨dst, op, type, pos, after, guard⟩ := o
  simp only at ho
  subst ho
  unfold Oper.wp execOp
  simp only [resolve, invoke, Sem.run_bind, List.map_toArray, List.map_cons, List.map_nil]
  have hc2 : Calls Try.prog 48 #[a.tmps[x]?.getD undef, (.int .i64 z)] w R := by simpa [Act.eval] using hc
  go_simp
  refine Calls.mono hc2 ?_
  intro e w' hr
  obtain ⟨v, rfl, hk⟩ := h e w' hr
  exact hk
theorem lt_term {ops : Array Oper} {o : Oper} {a : Act} {K : Act → World → Prop} {Q : Exit → Act → World → Prop} {E : Prop} {w : World} {R : Ending → World → Prop} {x y y2 : Nat} {tys : Array TypeId} (hgd : o.guard = none)
    (ho : o.op = .call { callee := .value (.func 85), args := #[.tmp x, .tmp y, .tmp y2, .const (.int .i64 3)], argTypes := tys })
    (hc : Calls Try.prog 85 #[a.eval (.tmp x), a.eval (.tmp y), a.eval (.tmp y2), (.int .i64 3)] w R)
    (h : ∀ e w', R e w' → ∃ v, e = .returned v ∧ K (a.put o.dst v) w') : if Region.wanted o (yielded ops a.tmps) = true then Oper.wp Try.prog o a w K Q else E := by
  rw [if_pos (wanted_plain hgd)]
  obtain ⟨dst, op, type, pos, after, guard⟩ := o
  simp only at ho
  subst ho
  unfold Oper.wp execOp
  simp only [resolve, invoke, Sem.run_bind, List.map_toArray, List.map_cons, List.map_nil]
  have hc2 : Calls Try.prog 85 #[a.tmps[x]?.getD undef, a.tmps[y]?.getD undef, a.tmps[y2]?.getD undef, (.int .i64 3)] w R := by simpa [Act.eval] using hc
  go_simp
  refine Calls.mono hc2 ?_
  intro e w' hr
  obtain ⟨v, rfl, hk⟩ := h e w' hr
  exact hk
def ltTable : List (Array Bool × List Nat) := [
  (#[true, false, false, true, true, true, false, false, false, true, true, true, false, false, false, false, false, false], [1, 16]),
  (#[true, false, false, true, true, true, false, false, false, true, true, true, false, false, false, false, true, false], [1]),
  (#[true, true, true, true, true, true, false, false, false, true, true, true, false, false, false, false, false, false], [6, 16]),
  (#[true, true, true, true, true, true, false, false, false, true, true, true, false, false, false, false, true, false], [6]),
  (#[true, true, true, true, true, true, true, true, false, true, true, true, false, false, false, false, false, false], [8, 16]),
  (#[true, true, true, true, true, true, true, true, false, true, true, true, false, false, false, false, true, false], [8]),
  (#[true, true, true, true, true, true, true, true, true, true, true, true, false, false, false, false, false, false], [12, 16]),
  (#[true, true, true, true, true, true, true, true, true, true, true, true, false, false, false, false, true, false], [12]),
  (#[true, true, true, true, true, true, true, true, true, true, true, true, true, true, false, false, false, false], [14, 16]),
  (#[true, true, true, true, true, true, true, true, true, true, true, true, true, true, false, false, true, false], [14]),
  (#[true, true, true, true, true, true, true, true, true, true, true, true, true, true, true, true, false, false], [16]),
  (#[true, true, true, true, true, true, true, true, true, true, true, true, true, true, true, true, true, false], [17])]
def ltTakes : List (Array Bool × Nat) := [
  (#[true, true, false, true, true, true, false, false, false, true, true, true, false, false, false, false, false, false], 2),
  (#[true, true, false, true, true, true, false, false, false, true, true, true, false, false, false, false, true, false], 2),
  (#[true, true, true, true, true, true, true, false, false, true, true, true, false, false, false, false, false, false], 7),
  (#[true, true, true, true, true, true, true, false, false, true, true, true, false, false, false, false, true, false], 7),
  (#[true, true, true, true, true, true, true, true, true, true, true, true, true, false, false, false, false, false], 13),
  (#[true, true, true, true, true, true, true, true, true, true, true, true, true, false, false, false, true, false], 13),
  (#[true, true, true, true, true, true, true, true, true, true, true, true, true, true, true, false, false, false], 15),
  (#[true, true, true, true, true, true, true, true, true, true, true, true, true, true, true, false, true, false], 15)]
structure LtReg (ops : Array Oper) : Prop where
  s : Region.noSelect ops = true
  h1 : ∃ o tys, ops[1]? = some o ∧ o.guard = none ∧ o.dst = some 7 ∧ o.op = .call { callee := .value (.func 67), args := #[.tmp 6, .const (.int .i64 3)], argTypes := tys }
  h2 : ∃ o ty, ops[2]? = some o ∧ o.guard = none ∧ o.dst = some 8 ∧ o.op = .unOp .not ty (.tmp 7)
  h6 : ∃ o tys, ops[6]? = some o ∧ o.guard = none ∧ o.dst = some 12 ∧ o.op = .call { callee := .value (.func 48), args := #[.tmp 11, .const (.int .i64 3)], argTypes := tys }
  h7 : ∃ o, ops[7]? = some o ∧ o.guard = none ∧ o.dst = some 13 ∧ o.op = .binOp .add 3 (.const (.int .i64 1)) (.tmp 12) 3
  h8 : ∃ o tys, ops[8]? = some o ∧ o.guard = none ∧ o.dst = some 14 ∧ o.op = .call { callee := .value (.func 85), args := #[.tmp 9, .tmp 10, .tmp 13, .const (.int .i64 3)], argTypes := tys }
  h12 : ∃ o tys, ops[12]? = some o ∧ o.guard = none ∧ o.dst = some 18 ∧ o.op = .call { callee := .value (.func 48), args := #[.tmp 17, .const (.int .i64 2)], argTypes := tys }
  h13 : ∃ o, ops[13]? = some o ∧ o.guard = none ∧ o.dst = some 19 ∧ o.op = .binOp .add 3 (.const (.int .i64 1)) (.tmp 18) 3
  h14 : ∃ o tys, ops[14]? = some o ∧ o.guard = none ∧ o.dst = some 20 ∧ o.op = .call { callee := .value (.func 85), args := #[.tmp 15, .tmp 16, .tmp 19, .const (.int .i64 3)], argTypes := tys }
  h15 : ∃ o, ops[15]? = some o ∧ o.guard = none ∧ o.dst = some 21 ∧ o.op = .build 60 #[(0, .tmp 8), (1, .tmp 14), (2, .tmp 20)]
  h16 : ∃ o, ops[16]? = some o ∧ o.guard = none ∧ o.dst = some 5 ∧ o.op = .alloc 60
  rd : (ltTable.all fun c => Region.ready .any ops c.1 == c.2) = true
  tk : (ltTakes.all fun c => Region.free .any ops c.1 c.2 && (Region.ready .any ops c.1).contains c.2) = true
theorem LtReg.row {ops} (H : LtReg ops) (i : Nat) {c : Array Bool × List Nat} (h : ltTable[i]? = some c) : Region.ready .any ops c.1 = c.2 :=
  eq_of_beq (List.all_eq_true.1 H.rd c (List.mem_of_getElem? h))
theorem LtReg.take {ops} (H : LtReg ops) (i : Nat) {c : Array Bool × Nat} (h : ltTakes[i]? = some c) : Region.free .any ops c.1 c.2 = true ∧ (Region.ready .any ops c.1).contains c.2 = true :=
  Bool.and_eq_true_iff.1 (List.all_eq_true.1 H.tk c (List.mem_of_getElem? h))

def LtTail (ops : Array Oper) (Q : Exit → Act → World → Prop) (S : World → Prop) (b n k : Nat) (w0 : World) (df : List Deferred) (sv u1 u2 u3 u4 u22 u23 u24 u25 u26 : Value) : Prop :=
  ∀ (x1 : Bool) (x2 : Nat) (y1 : Value) (s1 : List Int) (x3 : Nat) (y2 : Value) (s2 : List Int) (g : Nat) (w : World), Zb w g → w0.heap.size ≤ g → LF b n k 8006 w0 w → TF w0 w y1 s1 → TF w0 w y2 s2 → wpAnyH Try.prog .any ops Q S 1 #[true, true, true, true, true, true, true, true, true, true, true, true, true, true, true, true, true, false] ⟨#[(pt b), u1, u2, u3, u4, (pt g), (pt b), (.bool x1), (.bool (!x1)), (pt b), (.agg #[sv]), (pt b), (.int .i64 (x2 : Nat)), (.int .i64 (1 + (x2 : Int))), y1, (pt b), (.agg #[sv]), (pt b), (.int .i64 (x3 : Nat)), (.int .i64 (1 + (x3 : Int))), y2, (.agg #[.bool (!x1), y1, y2]), u22, u23, u24, u25, u26], df⟩ w
theorem lt5_1 {ops : Array Oper} {Q : Exit → Act → World → Prop} {S : World → Prop} {b n k lo hi : Nat} {sv : Value} {ar : List Int} {w0 : World} {df : List Deferred} {u1 u2 u3 u4 u22 u23 u24 u25 u26 : Value} (_H : LtReg ops) (HK : LtTail ops Q S b n k w0 df sv u1 u2 u3 u4 u22 u23 u24 u25 u26) (_hQ : ∀ c a d v w, Q (.panic c) (Act.put a d v) w → Q (.panic c) a w) (_hS : ∀ w, Chg b (b+1) w0 w → S w) (_hb : b < w0.heap.size) (_hn : n ≤ 1099511627776) (_hk : k ≤ 300000000000) (_hdr : drawn ar) (_hblo : b < lo) (_hsv : SlI lo hi w0 sv ar) (x1 : Bool) (x2 : Nat) (y1 : Value) (s1 : List Int) (x3 : Nat) (y2 : Value) (s2 : List Int) (g : Nat) (w : World) (z : Zb w g) (lg : w0.heap.size ≤ g) (hl : LF b n k 8006 w0 w) (_hx2 : x2 < 3) (t1 : TF w0 w y1 s1) (_hx3 : x3 < 2) (t2 : TF w0 w y2 s2) : wpAnyH Try.prog .any ops Q S 1 #[true, true, true, true, true, true, true, true, true, true, true, true, true, true, true, true, true, false] ⟨#[(pt b), u1, u2, u3, u4, (pt g), (pt b), (.bool x1), (.bool (!x1)), (pt b), (.agg #[sv]), (pt b), (.int .i64 (x2 : Nat)), (.int .i64 (1 + (x2 : Int))), y1, (pt b), (.agg #[sv]), (pt b), (.int .i64 (x3 : Nat)), (.int .i64 (1 + (x3 : Int))), y2, (.agg #[.bool (!x1), y1, y2]), u22, u23, u24, u25, u26], df⟩ w := by
  exact HK x1 x2 y1 s1 x3 y2 s2 g w z lg hl t1 t2
theorem lt5_0 {ops : Array Oper} {Q : Exit → Act → World → Prop} {S : World → Prop} {b n k lo hi : Nat} {sv : Value} {ar : List Int} {w0 : World} {df : List Deferred} {u1 u2 u3 u4 u22 u23 u24 u25 u26 : Value} (H : LtReg ops) (HK : LtTail ops Q S b n k w0 df sv u1 u2 u3 u4 u22 u23 u24 u25 u26) (hQ : ∀ c a d v w, Q (.panic c) (Act.put a d v) w → Q (.panic c) a w) (hS : ∀ w, Chg b (b+1) w0 w → S w) (hb : b < w0.heap.size) (hn : n ≤ 1099511627776) (hk : k ≤ 300000000000) (hdr : drawn ar) (hblo : b < lo) (hsv : SlI lo hi w0 sv ar) (u5 : Value) (x1 : Bool) (x2 : Nat) (y1 : Value) (s1 : List Int) (x3 : Nat) (y2 : Value) (s2 : List Int) (w : World) (hl : LF b n k 8006 w0 w) (hx2 : x2 < 3) (t1 : TF w0 w y1 s1) (hx3 : x3 < 2) (t2 : TF w0 w y2 s2) : wpAnyH Try.prog .any ops Q S 2 #[true, true, true, true, true, true, true, true, true, true, true, true, true, true, true, true, false, false] ⟨#[(pt b), u1, u2, u3, u4, u5, (pt b), (.bool x1), (.bool (!x1)), (pt b), (.agg #[sv]), (pt b), (.int .i64 (x2 : Nat)), (.int .i64 (1 + (x2 : Int))), y1, (pt b), (.agg #[sv]), (pt b), (.int .i64 (x3 : Nat)), (.int .i64 (1 + (x3 : Int))), y2, (.agg #[.bool (!x1), y1, y2]), u22, u23, u24, u25, u26], df⟩ w := by
  refine wpAnyH_ready (H.row 10 rfl) (by simp) ?_
  obtain ⟨o, a1, a2, a3, a4⟩ := H.h16
  refine AllReadyH.cons a1 (fun K hK => ?_) ?_
  · refine lt_box a2 a4 ?_
    have hl' := hl.alloc (.cells #[.bool false, .slice none 0 0, .slice none 0 0] 60)
    rw [a3]
    simp only [Act.put, List.setIfInBounds_toArray, List.set_cons_zero, List.set_cons_succ]
    refine hK.out _ _ (hS _ (by obtain ⟨_, _, _, _, h4⟩ := hl'; exact h4)) (fun _ => ?_)
    exact lt5_1 H HK hQ hS hb hn hk hdr hblo hsv  x1 x2 y1 s1 x3 y2 s2 w.heap.size _ (Lb.new w _) hl.size hl' hx2 (t1.alloc _) hx3 (t2.alloc _)
  exact AllReadyH.nil
theorem lt4_1 {ops : Array Oper} {Q : Exit → Act → World → Prop} {S : World → Prop} {b n k lo hi : Nat} {sv : Value} {ar : List Int} {w0 : World} {df : List Deferred} {u1 u2 u3 u4 u22 u23 u24 u25 u26 : Value} (H : LtReg ops) (HK : LtTail ops Q S b n k w0 df sv u1 u2 u3 u4 u22 u23 u24 u25 u26) (hQ : ∀ c a d v w, Q (.panic c) (Act.put a d v) w → Q (.panic c) a w) (hS : ∀ w, Chg b (b+1) w0 w → S w) (hb : b < w0.heap.size) (hn : n ≤ 1099511627776) (hk : k ≤ 300000000000) (hdr : drawn ar) (hblo : b < lo) (hsv : SlI lo hi w0 sv ar) (u20 u21 : Value) (x1 : Bool) (x2 : Nat) (y1 : Value) (s1 : List Int) (x3 : Nat) (g : Nat) (w : World) (z : Zb w g) (lg : w0.heap.size ≤ g) (hl : LF b n k 4006 w0 w) (hx2 : x2 < 3) (t1 : TF w0 w y1 s1) (hx3 : x3 < 2) : wpAnyH Try.prog .any ops Q S 3 #[true, true, true, true, true, true, true, true, true, true, true, true, true, true, false, false, true, false] ⟨#[(pt b), u1, u2, u3, u4, (pt g), (pt b), (.bool x1), (.bool (!x1)), (pt b), (.agg #[sv]), (pt b), (.int .i64 (x2 : Nat)), (.int .i64 (1 + (x2 : Int))), y1, (pt b), (.agg #[sv]), (pt b), (.int .i64 (x3 : Nat)), (.int .i64 (1 + (x3 : Int))), u20, u21, u22, u23, u24, u25, u26], df⟩ w := by
  refine wpAnyH_ready (H.row 9 rfl) (by simp) ?_
  obtain ⟨o, tys, a1, a2, a3, a4⟩ := H.h14
  refine AllReadyH.cons a1 (fun K hK => ?_) ?_
  · refine lt_term a2 a4 (by simpa [Act.eval] using (term_l x3 (by omega) hn (by omega) hdr hblo hsv hl)) ?_
    rintro e w' ⟨y2, s2, rfl, t2, hl', hg'⟩
    have hc' : Chg b (b+1) w0 w' := by obtain ⟨_, _, _, _, h4⟩ := hl'; exact h4
    refine ⟨_, rfl, ?_⟩
    rw [a3]
    simp only [Act.put, List.setIfInBounds_toArray, List.set_cons_zero, List.set_cons_succ]
    refine hK.out _ _ (hS _ hc') (fun _ => ?_)
    have z' := z.chg hg' (by omega)
    have t1' := t1.chg hg' hb
    obtain ⟨oq, b1, b2, b3, b4⟩ := H.h15
    refine wpAnyH_take (v := (.agg #[.bool (!x1), y1, y2])) b1 H.s (H.take 7 rfl).1 (H.take 7 rfl).2 (fun c a w => hQ c a _ _ w) (Or.inl ⟨wanted_plain b2, fun w2 _ => ?_⟩) (hS _ hc') ?_
    · obtain ⟨_, _, e1⟩ := TF.form t1
      obtain ⟨_, _, e2⟩ := TF.form t2
      subst e1 e2
      obtain ⟨dst, op, type, pos, after, guard⟩ := oq
      simp only at b4
      subst b4
      go_simp
      try rfl
    rw [b3]
    simp only [Act.put, List.setIfInBounds_toArray, List.set_cons_zero, List.set_cons_succ]
    exact lt5_1 H HK hQ hS hb hn hk hdr hblo hsv  x1 x2 y1 s1 x3 y2 s2 g _ z' lg hl' hx2 t1' hx3 t2
  exact AllReadyH.nil
theorem lt4_0 {ops : Array Oper} {Q : Exit → Act → World → Prop} {S : World → Prop} {b n k lo hi : Nat} {sv : Value} {ar : List Int} {w0 : World} {df : List Deferred} {u1 u2 u3 u4 u22 u23 u24 u25 u26 : Value} (H : LtReg ops) (HK : LtTail ops Q S b n k w0 df sv u1 u2 u3 u4 u22 u23 u24 u25 u26) (hQ : ∀ c a d v w, Q (.panic c) (Act.put a d v) w → Q (.panic c) a w) (hS : ∀ w, Chg b (b+1) w0 w → S w) (hb : b < w0.heap.size) (hn : n ≤ 1099511627776) (hk : k ≤ 300000000000) (hdr : drawn ar) (hblo : b < lo) (hsv : SlI lo hi w0 sv ar) (u5 u20 u21 : Value) (x1 : Bool) (x2 : Nat) (y1 : Value) (s1 : List Int) (x3 : Nat) (w : World) (hl : LF b n k 4006 w0 w) (hx2 : x2 < 3) (t1 : TF w0 w y1 s1) (hx3 : x3 < 2) : wpAnyH Try.prog .any ops Q S 4 #[true, true, true, true, true, true, true, true, true, true, true, true, true, true, false, false, false, false] ⟨#[(pt b), u1, u2, u3, u4, u5, (pt b), (.bool x1), (.bool (!x1)), (pt b), (.agg #[sv]), (pt b), (.int .i64 (x2 : Nat)), (.int .i64 (1 + (x2 : Int))), y1, (pt b), (.agg #[sv]), (pt b), (.int .i64 (x3 : Nat)), (.int .i64 (1 + (x3 : Int))), u20, u21, u22, u23, u24, u25, u26], df⟩ w := by
  refine wpAnyH_ready (H.row 8 rfl) (by simp) ?_
  obtain ⟨o, tys, a1, a2, a3, a4⟩ := H.h14
  refine AllReadyH.cons a1 (fun K hK => ?_) ?_
  · refine lt_term a2 a4 (by simpa [Act.eval] using (term_l x3 (by omega) hn (by omega) hdr hblo hsv hl)) ?_
    rintro e w' ⟨y2, s2, rfl, t2, hl', hg'⟩
    have hc' : Chg b (b+1) w0 w' := by obtain ⟨_, _, _, _, h4⟩ := hl'; exact h4
    refine ⟨_, rfl, ?_⟩
    rw [a3]
    simp only [Act.put, List.setIfInBounds_toArray, List.set_cons_zero, List.set_cons_succ]
    refine hK.out _ _ (hS _ hc') (fun _ => ?_)
    have t1' := t1.chg hg' hb
    obtain ⟨oq, b1, b2, b3, b4⟩ := H.h15
    refine wpAnyH_take (v := (.agg #[.bool (!x1), y1, y2])) b1 H.s (H.take 6 rfl).1 (H.take 6 rfl).2 (fun c a w => hQ c a _ _ w) (Or.inl ⟨wanted_plain b2, fun w2 _ => ?_⟩) (hS _ hc') ?_
    · obtain ⟨_, _, e1⟩ := TF.form t1
      obtain ⟨_, _, e2⟩ := TF.form t2
      subst e1 e2
      obtain ⟨dst, op, type, pos, after, guard⟩ := oq
      simp only at b4
      subst b4
      go_simp
      try rfl
    rw [b3]
    simp only [Act.put, List.setIfInBounds_toArray, List.set_cons_zero, List.set_cons_succ]
    exact lt5_0 H HK hQ hS hb hn hk hdr hblo hsv u5 x1 x2 y1 s1 x3 y2 s2 _ hl' hx2 t1' hx3 t2
  obtain ⟨o, a1, a2, a3, a4⟩ := H.h16
  refine AllReadyH.cons a1 (fun K hK => ?_) ?_
  · refine lt_box a2 a4 ?_
    have hl' := hl.alloc (.cells #[.bool false, .slice none 0 0, .slice none 0 0] 60)
    rw [a3]
    simp only [Act.put, List.setIfInBounds_toArray, List.set_cons_zero, List.set_cons_succ]
    refine hK.out _ _ (hS _ (by obtain ⟨_, _, _, _, h4⟩ := hl'; exact h4)) (fun _ => ?_)
    exact lt4_1 H HK hQ hS hb hn hk hdr hblo hsv u20 u21 x1 x2 y1 s1 x3 w.heap.size _ (Lb.new w _) hl.size hl' hx2 (t1.alloc _) hx3
  exact AllReadyH.nil
theorem lt3_1 {ops : Array Oper} {Q : Exit → Act → World → Prop} {S : World → Prop} {b n k lo hi : Nat} {sv : Value} {ar : List Int} {w0 : World} {df : List Deferred} {u1 u2 u3 u4 u22 u23 u24 u25 u26 : Value} (H : LtReg ops) (HK : LtTail ops Q S b n k w0 df sv u1 u2 u3 u4 u22 u23 u24 u25 u26) (hQ : ∀ c a d v w, Q (.panic c) (Act.put a d v) w → Q (.panic c) a w) (hS : ∀ w, Chg b (b+1) w0 w → S w) (hb : b < w0.heap.size) (hn : n ≤ 1099511627776) (hk : k ≤ 300000000000) (hdr : drawn ar) (hblo : b < lo) (hsv : SlI lo hi w0 sv ar) (u18 u19 u20 u21 : Value) (x1 : Bool) (x2 : Nat) (y1 : Value) (s1 : List Int) (g : Nat) (w : World) (z : Zb w g) (lg : w0.heap.size ≤ g) (hl : LF b n k 4004 w0 w) (hx2 : x2 < 3) (t1 : TF w0 w y1 s1) : wpAnyH Try.prog .any ops Q S 5 #[true, true, true, true, true, true, true, true, true, true, true, true, false, false, false, false, true, false] ⟨#[(pt b), u1, u2, u3, u4, (pt g), (pt b), (.bool x1), (.bool (!x1)), (pt b), (.agg #[sv]), (pt b), (.int .i64 (x2 : Nat)), (.int .i64 (1 + (x2 : Int))), y1, (pt b), (.agg #[sv]), (pt b), u18, u19, u20, u21, u22, u23, u24, u25, u26], df⟩ w := by
  refine wpAnyH_ready (H.row 7 rfl) (by simp) ?_
  obtain ⟨o, tys, a1, a2, a3, a4⟩ := H.h12
  refine AllReadyH.cons a1 (fun K hK => ?_) ?_
  · refine lt_pick _ a2 a4 (by simpa [Act.eval] using (pick_l 2 2 rfl (by omega) (by omega) hn (by omega) hl)) ?_
    rintro e w' ⟨x3, hx3, rfl, hl', hg'⟩
    have hc' : Chg b (b+1) w0 w' := by obtain ⟨_, _, _, _, h4⟩ := hl'; exact h4
    refine ⟨_, rfl, ?_⟩
    rw [a3]
    simp only [Act.put, List.setIfInBounds_toArray, List.set_cons_zero, List.set_cons_succ]
    refine hK.out _ _ (hS _ hc') (fun _ => ?_)
    have z' := z.chg hg' (by omega)
    have t1' := t1.chg hg' hb
    obtain ⟨oq, b1, b2, b3, b4⟩ := H.h13
    refine wpAnyH_take (v := (.int .i64 (1 + (x3 : Int)))) b1 H.s (H.take 5 rfl).1 (H.take 5 rfl).2 (fun c a w => hQ c a _ _ w) (Or.inl ⟨wanted_plain b2, fun w2 _ => ?_⟩) (hS _ hc') ?_
    · have hw := IntWalk.i64_in (1 + (x3 : Int)) (by omega)
      obtain ⟨dst, op, type, pos, after, guard⟩ := oq
      simp only at b4
      subst b4
      go_simp
      try rfl
    rw [b3]
    simp only [Act.put, List.setIfInBounds_toArray, List.set_cons_zero, List.set_cons_succ]
    exact lt4_1 H HK hQ hS hb hn hk hdr hblo hsv u20 u21 x1 x2 y1 s1 x3 g _ z' lg hl' hx2 t1' hx3
  exact AllReadyH.nil
theorem lt3_0 {ops : Array Oper} {Q : Exit → Act → World → Prop} {S : World → Prop} {b n k lo hi : Nat} {sv : Value} {ar : List Int} {w0 : World} {df : List Deferred} {u1 u2 u3 u4 u22 u23 u24 u25 u26 : Value} (H : LtReg ops) (HK : LtTail ops Q S b n k w0 df sv u1 u2 u3 u4 u22 u23 u24 u25 u26) (hQ : ∀ c a d v w, Q (.panic c) (Act.put a d v) w → Q (.panic c) a w) (hS : ∀ w, Chg b (b+1) w0 w → S w) (hb : b < w0.heap.size) (hn : n ≤ 1099511627776) (hk : k ≤ 300000000000) (hdr : drawn ar) (hblo : b < lo) (hsv : SlI lo hi w0 sv ar) (u5 u18 u19 u20 u21 : Value) (x1 : Bool) (x2 : Nat) (y1 : Value) (s1 : List Int) (w : World) (hl : LF b n k 4004 w0 w) (hx2 : x2 < 3) (t1 : TF w0 w y1 s1) : wpAnyH Try.prog .any ops Q S 6 #[true, true, true, true, true, true, true, true, true, true, true, true, false, false, false, false, false, false] ⟨#[(pt b), u1, u2, u3, u4, u5, (pt b), (.bool x1), (.bool (!x1)), (pt b), (.agg #[sv]), (pt b), (.int .i64 (x2 : Nat)), (.int .i64 (1 + (x2 : Int))), y1, (pt b), (.agg #[sv]), (pt b), u18, u19, u20, u21, u22, u23, u24, u25, u26], df⟩ w := by
  refine wpAnyH_ready (H.row 6 rfl) (by simp) ?_
  obtain ⟨o, tys, a1, a2, a3, a4⟩ := H.h12
  refine AllReadyH.cons a1 (fun K hK => ?_) ?_
  · refine lt_pick _ a2 a4 (by simpa [Act.eval] using (pick_l 2 2 rfl (by omega) (by omega) hn (by omega) hl)) ?_
    rintro e w' ⟨x3, hx3, rfl, hl', hg'⟩
    have hc' : Chg b (b+1) w0 w' := by obtain ⟨_, _, _, _, h4⟩ := hl'; exact h4
    refine ⟨_, rfl, ?_⟩
    rw [a3]
    simp only [Act.put, List.setIfInBounds_toArray, List.set_cons_zero, List.set_cons_succ]
    refine hK.out _ _ (hS _ hc') (fun _ => ?_)
    have t1' := t1.chg hg' hb
    obtain ⟨oq, b1, b2, b3, b4⟩ := H.h13
    refine wpAnyH_take (v := (.int .i64 (1 + (x3 : Int)))) b1 H.s (H.take 4 rfl).1 (H.take 4 rfl).2 (fun c a w => hQ c a _ _ w) (Or.inl ⟨wanted_plain b2, fun w2 _ => ?_⟩) (hS _ hc') ?_
    · have hw := IntWalk.i64_in (1 + (x3 : Int)) (by omega)
      obtain ⟨dst, op, type, pos, after, guard⟩ := oq
      simp only at b4
      subst b4
      go_simp
      try rfl
    rw [b3]
    simp only [Act.put, List.setIfInBounds_toArray, List.set_cons_zero, List.set_cons_succ]
    exact lt4_0 H HK hQ hS hb hn hk hdr hblo hsv u5 u20 u21 x1 x2 y1 s1 x3 _ hl' hx2 t1' hx3
  obtain ⟨o, a1, a2, a3, a4⟩ := H.h16
  refine AllReadyH.cons a1 (fun K hK => ?_) ?_
  · refine lt_box a2 a4 ?_
    have hl' := hl.alloc (.cells #[.bool false, .slice none 0 0, .slice none 0 0] 60)
    rw [a3]
    simp only [Act.put, List.setIfInBounds_toArray, List.set_cons_zero, List.set_cons_succ]
    refine hK.out _ _ (hS _ (by obtain ⟨_, _, _, _, h4⟩ := hl'; exact h4)) (fun _ => ?_)
    exact lt3_1 H HK hQ hS hb hn hk hdr hblo hsv u18 u19 u20 u21 x1 x2 y1 s1 w.heap.size _ (Lb.new w _) hl.size hl' hx2 (t1.alloc _)
  exact AllReadyH.nil
theorem lt2_1 {ops : Array Oper} {Q : Exit → Act → World → Prop} {S : World → Prop} {b n k lo hi : Nat} {sv : Value} {ar : List Int} {w0 : World} {df : List Deferred} {u1 u2 u3 u4 u22 u23 u24 u25 u26 : Value} (H : LtReg ops) (HK : LtTail ops Q S b n k w0 df sv u1 u2 u3 u4 u22 u23 u24 u25 u26) (hQ : ∀ c a d v w, Q (.panic c) (Act.put a d v) w → Q (.panic c) a w) (hS : ∀ w, Chg b (b+1) w0 w → S w) (hb : b < w0.heap.size) (hn : n ≤ 1099511627776) (hk : k ≤ 300000000000) (hdr : drawn ar) (hblo : b < lo) (hsv : SlI lo hi w0 sv ar) (u14 u18 u19 u20 u21 : Value) (x1 : Bool) (x2 : Nat) (g : Nat) (w : World) (z : Zb w g) (lg : w0.heap.size ≤ g) (hl : LF b n k 4 w0 w) (hx2 : x2 < 3) : wpAnyH Try.prog .any ops Q S 6 #[true, true, true, true, true, true, true, true, false, true, true, true, false, false, false, false, true, false] ⟨#[(pt b), u1, u2, u3, u4, (pt g), (pt b), (.bool x1), (.bool (!x1)), (pt b), (.agg #[sv]), (pt b), (.int .i64 (x2 : Nat)), (.int .i64 (1 + (x2 : Int))), u14, (pt b), (.agg #[sv]), (pt b), u18, u19, u20, u21, u22, u23, u24, u25, u26], df⟩ w := by
  refine wpAnyH_ready (H.row 5 rfl) (by simp) ?_
  obtain ⟨o, tys, a1, a2, a3, a4⟩ := H.h8
  refine AllReadyH.cons a1 (fun K hK => ?_) ?_
  · refine lt_term a2 a4 (by simpa [Act.eval] using (term_l x2 hx2 hn (by omega) hdr hblo hsv hl)) ?_
    rintro e w' ⟨y1, s1, rfl, t1, hl', hg'⟩
    have hc' : Chg b (b+1) w0 w' := by obtain ⟨_, _, _, _, h4⟩ := hl'; exact h4
    refine ⟨_, rfl, ?_⟩
    rw [a3]
    simp only [Act.put, List.setIfInBounds_toArray, List.set_cons_zero, List.set_cons_succ]
    refine hK.out _ _ (hS _ hc') (fun _ => ?_)
    have z' := z.chg hg' (by omega)
    exact lt3_1 H HK hQ hS hb hn hk hdr hblo hsv u18 u19 u20 u21 x1 x2 y1 s1 g _ z' lg hl' hx2 t1
  exact AllReadyH.nil
theorem lt2_0 {ops : Array Oper} {Q : Exit → Act → World → Prop} {S : World → Prop} {b n k lo hi : Nat} {sv : Value} {ar : List Int} {w0 : World} {df : List Deferred} {u1 u2 u3 u4 u22 u23 u24 u25 u26 : Value} (H : LtReg ops) (HK : LtTail ops Q S b n k w0 df sv u1 u2 u3 u4 u22 u23 u24 u25 u26) (hQ : ∀ c a d v w, Q (.panic c) (Act.put a d v) w → Q (.panic c) a w) (hS : ∀ w, Chg b (b+1) w0 w → S w) (hb : b < w0.heap.size) (hn : n ≤ 1099511627776) (hk : k ≤ 300000000000) (hdr : drawn ar) (hblo : b < lo) (hsv : SlI lo hi w0 sv ar) (u5 u14 u18 u19 u20 u21 : Value) (x1 : Bool) (x2 : Nat) (w : World) (hl : LF b n k 4 w0 w) (hx2 : x2 < 3) : wpAnyH Try.prog .any ops Q S 7 #[true, true, true, true, true, true, true, true, false, true, true, true, false, false, false, false, false, false] ⟨#[(pt b), u1, u2, u3, u4, u5, (pt b), (.bool x1), (.bool (!x1)), (pt b), (.agg #[sv]), (pt b), (.int .i64 (x2 : Nat)), (.int .i64 (1 + (x2 : Int))), u14, (pt b), (.agg #[sv]), (pt b), u18, u19, u20, u21, u22, u23, u24, u25, u26], df⟩ w := by
  refine wpAnyH_ready (H.row 4 rfl) (by simp) ?_
  obtain ⟨o, tys, a1, a2, a3, a4⟩ := H.h8
  refine AllReadyH.cons a1 (fun K hK => ?_) ?_
  · refine lt_term a2 a4 (by simpa [Act.eval] using (term_l x2 hx2 hn (by omega) hdr hblo hsv hl)) ?_
    rintro e w' ⟨y1, s1, rfl, t1, hl', hg'⟩
    have hc' : Chg b (b+1) w0 w' := by obtain ⟨_, _, _, _, h4⟩ := hl'; exact h4
    refine ⟨_, rfl, ?_⟩
    rw [a3]
    simp only [Act.put, List.setIfInBounds_toArray, List.set_cons_zero, List.set_cons_succ]
    refine hK.out _ _ (hS _ hc') (fun _ => ?_)
    exact lt3_0 H HK hQ hS hb hn hk hdr hblo hsv u5 u18 u19 u20 u21 x1 x2 y1 s1 _ hl' hx2 t1
  obtain ⟨o, a1, a2, a3, a4⟩ := H.h16
  refine AllReadyH.cons a1 (fun K hK => ?_) ?_
  · refine lt_box a2 a4 ?_
    have hl' := hl.alloc (.cells #[.bool false, .slice none 0 0, .slice none 0 0] 60)
    rw [a3]
    simp only [Act.put, List.setIfInBounds_toArray, List.set_cons_zero, List.set_cons_succ]
    refine hK.out _ _ (hS _ (by obtain ⟨_, _, _, _, h4⟩ := hl'; exact h4)) (fun _ => ?_)
    exact lt2_1 H HK hQ hS hb hn hk hdr hblo hsv u14 u18 u19 u20 u21 x1 x2 w.heap.size _ (Lb.new w _) hl.size hl' hx2
  exact AllReadyH.nil
theorem lt1_1 {ops : Array Oper} {Q : Exit → Act → World → Prop} {S : World → Prop} {b n k lo hi : Nat} {sv : Value} {ar : List Int} {w0 : World} {df : List Deferred} {u1 u2 u3 u4 u22 u23 u24 u25 u26 : Value} (H : LtReg ops) (HK : LtTail ops Q S b n k w0 df sv u1 u2 u3 u4 u22 u23 u24 u25 u26) (hQ : ∀ c a d v w, Q (.panic c) (Act.put a d v) w → Q (.panic c) a w) (hS : ∀ w, Chg b (b+1) w0 w → S w) (hb : b < w0.heap.size) (hn : n ≤ 1099511627776) (hk : k ≤ 300000000000) (hdr : drawn ar) (hblo : b < lo) (hsv : SlI lo hi w0 sv ar) (u12 u13 u14 u18 u19 u20 u21 : Value) (x1 : Bool) (g : Nat) (w : World) (z : Zb w g) (lg : w0.heap.size ≤ g) (hl : LF b n k 2 w0 w) : wpAnyH Try.prog .any ops Q S 8 #[true, true, true, true, true, true, false, false, false, true, true, true, false, false, false, false, true, false] ⟨#[(pt b), u1, u2, u3, u4, (pt g), (pt b), (.bool x1), (.bool (!x1)), (pt b), (.agg #[sv]), (pt b), u12, u13, u14, (pt b), (.agg #[sv]), (pt b), u18, u19, u20, u21, u22, u23, u24, u25, u26], df⟩ w := by
  refine wpAnyH_ready (H.row 3 rfl) (by simp) ?_
  obtain ⟨o, tys, a1, a2, a3, a4⟩ := H.h6
  refine AllReadyH.cons a1 (fun K hK => ?_) ?_
  · refine lt_pick _ a2 a4 (by simpa [Act.eval] using (pick_l 3 3 rfl (by omega) (by omega) hn (by omega) hl)) ?_
    rintro e w' ⟨x2, hx2, rfl, hl', hg'⟩
    have hc' : Chg b (b+1) w0 w' := by obtain ⟨_, _, _, _, h4⟩ := hl'; exact h4
    refine ⟨_, rfl, ?_⟩
    rw [a3]
    simp only [Act.put, List.setIfInBounds_toArray, List.set_cons_zero, List.set_cons_succ]
    refine hK.out _ _ (hS _ hc') (fun _ => ?_)
    have z' := z.chg hg' (by omega)
    obtain ⟨oq, b1, b2, b3, b4⟩ := H.h7
    refine wpAnyH_take (v := (.int .i64 (1 + (x2 : Int)))) b1 H.s (H.take 3 rfl).1 (H.take 3 rfl).2 (fun c a w => hQ c a _ _ w) (Or.inl ⟨wanted_plain b2, fun w2 _ => ?_⟩) (hS _ hc') ?_
    · have hw := IntWalk.i64_in (1 + (x2 : Int)) (by omega)
      obtain ⟨dst, op, type, pos, after, guard⟩ := oq
      simp only at b4
      subst b4
      go_simp
      try rfl
    rw [b3]
    simp only [Act.put, List.setIfInBounds_toArray, List.set_cons_zero, List.set_cons_succ]
    exact lt2_1 H HK hQ hS hb hn hk hdr hblo hsv u14 u18 u19 u20 u21 x1 x2 g _ z' lg hl' hx2
  exact AllReadyH.nil
theorem lt1_0 {ops : Array Oper} {Q : Exit → Act → World → Prop} {S : World → Prop} {b n k lo hi : Nat} {sv : Value} {ar : List Int} {w0 : World} {df : List Deferred} {u1 u2 u3 u4 u22 u23 u24 u25 u26 : Value} (H : LtReg ops) (HK : LtTail ops Q S b n k w0 df sv u1 u2 u3 u4 u22 u23 u24 u25 u26) (hQ : ∀ c a d v w, Q (.panic c) (Act.put a d v) w → Q (.panic c) a w) (hS : ∀ w, Chg b (b+1) w0 w → S w) (hb : b < w0.heap.size) (hn : n ≤ 1099511627776) (hk : k ≤ 300000000000) (hdr : drawn ar) (hblo : b < lo) (hsv : SlI lo hi w0 sv ar) (u5 u12 u13 u14 u18 u19 u20 u21 : Value) (x1 : Bool) (w : World) (hl : LF b n k 2 w0 w) : wpAnyH Try.prog .any ops Q S 9 #[true, true, true, true, true, true, false, false, false, true, true, true, false, false, false, false, false, false] ⟨#[(pt b), u1, u2, u3, u4, u5, (pt b), (.bool x1), (.bool (!x1)), (pt b), (.agg #[sv]), (pt b), u12, u13, u14, (pt b), (.agg #[sv]), (pt b), u18, u19, u20, u21, u22, u23, u24, u25, u26], df⟩ w := by
  refine wpAnyH_ready (H.row 2 rfl) (by simp) ?_
  obtain ⟨o, tys, a1, a2, a3, a4⟩ := H.h6
  refine AllReadyH.cons a1 (fun K hK => ?_) ?_
  · refine lt_pick _ a2 a4 (by simpa [Act.eval] using (pick_l 3 3 rfl (by omega) (by omega) hn (by omega) hl)) ?_
    rintro e w' ⟨x2, hx2, rfl, hl', hg'⟩
    have hc' : Chg b (b+1) w0 w' := by obtain ⟨_, _, _, _, h4⟩ := hl'; exact h4
    refine ⟨_, rfl, ?_⟩
    rw [a3]
    simp only [Act.put, List.setIfInBounds_toArray, List.set_cons_zero, List.set_cons_succ]
    refine hK.out _ _ (hS _ hc') (fun _ => ?_)
    obtain ⟨oq, b1, b2, b3, b4⟩ := H.h7
    refine wpAnyH_take (v := (.int .i64 (1 + (x2 : Int)))) b1 H.s (H.take 2 rfl).1 (H.take 2 rfl).2 (fun c a w => hQ c a _ _ w) (Or.inl ⟨wanted_plain b2, fun w2 _ => ?_⟩) (hS _ hc') ?_
    · have hw := IntWalk.i64_in (1 + (x2 : Int)) (by omega)
      obtain ⟨dst, op, type, pos, after, guard⟩ := oq
      simp only at b4
      subst b4
      go_simp
      try rfl
    rw [b3]
    simp only [Act.put, List.setIfInBounds_toArray, List.set_cons_zero, List.set_cons_succ]
    exact lt2_0 H HK hQ hS hb hn hk hdr hblo hsv u5 u14 u18 u19 u20 u21 x1 x2 _ hl' hx2
  obtain ⟨o, a1, a2, a3, a4⟩ := H.h16
  refine AllReadyH.cons a1 (fun K hK => ?_) ?_
  · refine lt_box a2 a4 ?_
    have hl' := hl.alloc (.cells #[.bool false, .slice none 0 0, .slice none 0 0] 60)
    rw [a3]
    simp only [Act.put, List.setIfInBounds_toArray, List.set_cons_zero, List.set_cons_succ]
    refine hK.out _ _ (hS _ (by obtain ⟨_, _, _, _, h4⟩ := hl'; exact h4)) (fun _ => ?_)
    exact lt1_1 H HK hQ hS hb hn hk hdr hblo hsv u12 u13 u14 u18 u19 u20 u21 x1 w.heap.size _ (Lb.new w _) hl.size hl'
  exact AllReadyH.nil
theorem lt0_1 {ops : Array Oper} {Q : Exit → Act → World → Prop} {S : World → Prop} {b n k lo hi : Nat} {sv : Value} {ar : List Int} {w0 : World} {df : List Deferred} {u1 u2 u3 u4 u22 u23 u24 u25 u26 : Value} (H : LtReg ops) (HK : LtTail ops Q S b n k w0 df sv u1 u2 u3 u4 u22 u23 u24 u25 u26) (hQ : ∀ c a d v w, Q (.panic c) (Act.put a d v) w → Q (.panic c) a w) (hS : ∀ w, Chg b (b+1) w0 w → S w) (hb : b < w0.heap.size) (hn : n ≤ 1099511627776) (hk : k ≤ 300000000000) (hdr : drawn ar) (hblo : b < lo) (hsv : SlI lo hi w0 sv ar) (u7 u8 u12 u13 u14 u18 u19 u20 u21 : Value) (g : Nat) (w : World) (z : Zb w g) (lg : w0.heap.size ≤ g) (hl : LF b n k 0 w0 w) : wpAnyH Try.prog .any ops Q S 10 #[true, false, false, true, true, true, false, false, false, true, true, true, false, false, false, false, true, false] ⟨#[(pt b), u1, u2, u3, u4, (pt g), (pt b), u7, u8, (pt b), (.agg #[sv]), (pt b), u12, u13, u14, (pt b), (.agg #[sv]), (pt b), u18, u19, u20, u21, u22, u23, u24, u25, u26], df⟩ w := by
  refine wpAnyH_ready (H.row 1 rfl) (by simp) ?_
  obtain ⟨o, tys, a1, a2, a3, a4⟩ := H.h1
  refine AllReadyH.cons a1 (fun K hK => ?_) ?_
  · refine lt_one a2 a4 (by simpa [Act.eval] using (one_l hn (by omega) hl)) ?_
    rintro e w' ⟨x1, rfl, hl', hg'⟩
    have hc' : Chg b (b+1) w0 w' := by obtain ⟨_, _, _, _, h4⟩ := hl'; exact h4
    refine ⟨_, rfl, ?_⟩
    rw [a3]
    simp only [Act.put, List.setIfInBounds_toArray, List.set_cons_zero, List.set_cons_succ]
    refine hK.out _ _ (hS _ hc') (fun _ => ?_)
    have z' := z.chg hg' (by omega)
    obtain ⟨oq, tq, b1, b2, b3, b4⟩ := H.h2
    refine wpAnyH_take (v := (.bool (!x1))) b1 H.s (H.take 1 rfl).1 (H.take 1 rfl).2 (fun c a w => hQ c a _ _ w) (Or.inl ⟨wanted_plain b2, fun w2 _ => ?_⟩) (hS _ hc') ?_
    · obtain ⟨dst, op, type, pos, after, guard⟩ := oq
      simp only at b4
      subst b4
      go_simp
      try rfl
    rw [b3]
    simp only [Act.put, List.setIfInBounds_toArray, List.set_cons_zero, List.set_cons_succ]
    exact lt1_1 H HK hQ hS hb hn hk hdr hblo hsv u12 u13 u14 u18 u19 u20 u21 x1 g _ z' lg hl'
  exact AllReadyH.nil
theorem lt0_0 {ops : Array Oper} {Q : Exit → Act → World → Prop} {S : World → Prop} {b n k lo hi : Nat} {sv : Value} {ar : List Int} {w0 : World} {df : List Deferred} {u1 u2 u3 u4 u22 u23 u24 u25 u26 : Value} (H : LtReg ops) (HK : LtTail ops Q S b n k w0 df sv u1 u2 u3 u4 u22 u23 u24 u25 u26) (hQ : ∀ c a d v w, Q (.panic c) (Act.put a d v) w → Q (.panic c) a w) (hS : ∀ w, Chg b (b+1) w0 w → S w) (hb : b < w0.heap.size) (hn : n ≤ 1099511627776) (hk : k ≤ 300000000000) (hdr : drawn ar) (hblo : b < lo) (hsv : SlI lo hi w0 sv ar) (u5 u7 u8 u12 u13 u14 u18 u19 u20 u21 : Value) (w : World) (hl : LF b n k 0 w0 w) : wpAnyH Try.prog .any ops Q S 11 #[true, false, false, true, true, true, false, false, false, true, true, true, false, false, false, false, false, false] ⟨#[(pt b), u1, u2, u3, u4, u5, (pt b), u7, u8, (pt b), (.agg #[sv]), (pt b), u12, u13, u14, (pt b), (.agg #[sv]), (pt b), u18, u19, u20, u21, u22, u23, u24, u25, u26], df⟩ w := by
  refine wpAnyH_ready (H.row 0 rfl) (by simp) ?_
  obtain ⟨o, tys, a1, a2, a3, a4⟩ := H.h1
  refine AllReadyH.cons a1 (fun K hK => ?_) ?_
  · refine lt_one a2 a4 (by simpa [Act.eval] using (one_l hn (by omega) hl)) ?_
    rintro e w' ⟨x1, rfl, hl', hg'⟩
    have hc' : Chg b (b+1) w0 w' := by obtain ⟨_, _, _, _, h4⟩ := hl'; exact h4
    refine ⟨_, rfl, ?_⟩
    rw [a3]
    simp only [Act.put, List.setIfInBounds_toArray, List.set_cons_zero, List.set_cons_succ]
    refine hK.out _ _ (hS _ hc') (fun _ => ?_)
    obtain ⟨oq, tq, b1, b2, b3, b4⟩ := H.h2
    refine wpAnyH_take (v := (.bool (!x1))) b1 H.s (H.take 0 rfl).1 (H.take 0 rfl).2 (fun c a w => hQ c a _ _ w) (Or.inl ⟨wanted_plain b2, fun w2 _ => ?_⟩) (hS _ hc') ?_
    · obtain ⟨dst, op, type, pos, after, guard⟩ := oq
      simp only at b4
      subst b4
      go_simp
      try rfl
    rw [b3]
    simp only [Act.put, List.setIfInBounds_toArray, List.set_cons_zero, List.set_cons_succ]
    exact lt1_0 H HK hQ hS hb hn hk hdr hblo hsv u5 u12 u13 u14 u18 u19 u20 u21 x1 _ hl'
  obtain ⟨o, a1, a2, a3, a4⟩ := H.h16
  refine AllReadyH.cons a1 (fun K hK => ?_) ?_
  · refine lt_box a2 a4 ?_
    have hl' := hl.alloc (.cells #[.bool false, .slice none 0 0, .slice none 0 0] 60)
    rw [a3]
    simp only [Act.put, List.setIfInBounds_toArray, List.set_cons_zero, List.set_cons_succ]
    refine hK.out _ _ (hS _ (by obtain ⟨_, _, _, _, h4⟩ := hl'; exact h4)) (fun _ => ?_)
    exact lt0_1 H HK hQ hS hb hn hk hdr hblo hsv u7 u8 u12 u13 u14 u18 u19 u20 u21  w.heap.size _ (Lb.new w _) hl.size hl'
  exact AllReadyH.nil
end Go.Proofs.Ytlcjcihohclmhaa.Rl
end
section
/- The laws' helpers over literals, by contracts: copies, comparisons. -/
namespace Go.Proofs.Ytlcjcihohclmhaa
open Go.RowKit

/-- A literal of the call's own: its two terms in two ranges. -/
def RetL (w : World) (x : Lt) (e : Ending) (w' : World) : Prop :=
  ∃ a1 n1 c1 a2 n2 c2 m, e = .returned (.agg #[.bool x.1, .slice a1 n1 c1, .slice a2 n2 c2]) ∧ w.heap.size ≤ m ∧ m ≤ w'.heap.size ∧ OwnI w.heap.size m w' (.slice a1 n1 c1) x.2.1 ∧ OwnI m w'.heap.size w' (.slice a2 n2 c2) x.2.2 ∧ Bel w w'

end Go.Proofs.Ytlcjcihohclmhaa
end
section
/- The laws' helpers over slices of literals: copies. -/
namespace Go.Proofs.Ytlcjcihohclmhaa
open Go.RowKit

theorem Try.info60 : (Try.prog.info? 60).map (fun i => (i.zero, i.size, i.bytes)) = some (some (.agg #[.bool false, .slice none 0 0, .slice none 0 0]), 3, 56) := by kernel_rfl
theorem flatC_take' (c : List Lt) (k : Nat) (h : k < c.length) : flatC (c.take (k+1)) = flatC (c.take k) ++ [(c.getD k lt0).2.1] ++ [(c.getD k lt0).2.2] := by
  rw [List.take_succ_eq_append_getElem h, flatC_app]
  simp [flatC, List.getD, h]
def z0C : LV := (false, .slice none 0 0, .slice none 0 0)
theorem made3 (n : Nat) : (madeCells #[.bool false, .slice none 0 0, .slice none 0 0] (n * 3)).toList = cellsC (List.replicate n z0C) := by
  have e : ∀ m, (madeCells #[.bool false, .slice none 0 0, .slice none 0 0] m).toList = (List.range m).map (fun i => (#[Value.bool false, .slice none 0 0, .slice none 0 0] : Array Value)[i % 3]!) := by
    intro m; simp [madeCells, Array.toList_range]
  rw [e]
  induction n with
  | zero => rfl
  | succ n ih =>
    rw [List.replicate_succ', cellsC_app, ← ih, show (n + 1) * 3 = n * 3 + 1 + 1 + 1 from by omega, List.range_succ, List.range_succ, List.range_succ]
    simp only [List.map_append, List.map_cons, List.map_nil, List.append_assoc]
    congr 1
    have h0 : (n * 3) % 3 = 0 := by omega
    have h1 : (n * 3 + 1) % 3 = 1 := by omega
    have h2 : (n * 3 + 1 + 1) % 3 = 2 := by omega
    rw [h0, h1, h2]
    rfl
theorem cellsC_set (zs rest : List LV) (y : LV) (p : Bool) (a b : Value) :
    (((cellsC (zs ++ y :: rest)).set (zs.length * 3) (.bool p)).set (zs.length * 3 + 1) a).set (zs.length * 3 + 2) b = cellsC (zs ++ (p, a, b) :: rest) := by
  have hl := cellsC_len zs
  rw [cellsC_app, cellsC_app]
  rw [List.set_append_right _ _ (by omega), hl, Nat.sub_self, List.set_append_right _ _ (by omega), hl, Nat.add_sub_cancel_left, List.set_append_right _ _ (by omega), hl, Nat.add_sub_cancel_left]
  rfl

end Go.Proofs.Ytlcjcihohclmhaa
end
section
/- The laws' helpers over slices of literals: comparisons, marks. -/
namespace Go.Proofs.Ytlcjcihohclmhaa
open Go.RowKit

theorem Ins.but {lo hi b w w' us xss bs} (h : Ins lo hi b w us xss bs) (hs : ∀ x, x ≠ b → lo ≤ x → x < hi → x < w.heap.size → w'.heap[x]? = w.heap[x]?) : Ins lo hi b w' us xss bs := by
  refine ⟨h.len, h.rng, h.inj, fun j u hj => ?_⟩
  have ho := h.own j u hj
  have hlt : j < xss.length := by rw [← h.len]; exact (List.getElem?_eq_some_iff.1 hj).1
  by_cases hp : 0 < (xss.getD j []).length
  · obtain ⟨a1, a2, a3⟩ := h.rng j hlt hp
    exact ho.same fun x h1 h2 h3 => hs x (by omega) (by omega) (by omega) h3
  · rw [len0 hp] at ho ⊢
    exact ho.empty
structure CRow (lo hi b off : Nat) (w : World) (zs : List LV) (c : List Lt) (bs : Nat → Nat) : Prop where
  hlo : lo ≤ b
  hhi : b < hi
  len : zs.length = c.length
  cell : ∀ j z, zs[j]? = some z → z.1 = (c.getD j lt0).1 ∧ w.cell? ⟨b, off + j * 3, none⟩ = some (.bool z.1) ∧ w.cell? ⟨b, off + j * 3 + 1, none⟩ = some z.2.1 ∧ w.cell? ⟨b, off + j * 3 + 2, none⟩ = some z.2.2
  free : ∀ i, w.frozen? ⟨b, i, none⟩ = false
  ins : Ins lo hi b w (rowsC zs) (flatC c) bs
theorem rowsC_set (zs : List LV) (j : Nat) (z : LV) (p : Bool) (h : zs[j]? = some z) : rowsC (zs.set j (p, z.2)) = rowsC zs := by
  induction zs generalizing j with
  | nil => simp
  | cons x r ih =>
    cases j with
    | zero => simp at h; subst h; rfl
    | succ j => simp only [List.set_cons_succ]; show _ :: _ :: rowsC _ = _ :: _ :: rowsC _; rw [ih j (by simpa using h)]
theorem flatC_set (c : List Lt) (j : Nat) (y : Lt) (h : j < c.length) : flatC (c.set j y) = ((flatC c).set (2 * j) y.2.1).set (2 * j + 1) y.2.2 := by
  induction c generalizing j with
  | nil => simp at h
  | cons x r ih =>
    cases j with
    | zero => rfl
    | succ j =>
      rw [List.set_cons_succ, flatC_cons, flatC_cons, ih j (by simpa using h), show 2 * (j + 1) = (2 * j) + 1 + 1 from by omega]
      simp
theorem CRow.sign {lo hi b off : Nat} {w : World} {zs : List LV} {c : List Lt} {bs : Nat → Nat} (h : CRow lo hi b off w zs c bs) (j : Nat) (z : LV) (hz : zs[j]? = some z) (p : Bool) :
    CRow lo hi b off (w.setCell ⟨b, off + j * 3, none⟩ (.bool p)) (zs.set j (p, z.2)) (c.set j (p, (c.getD j lt0).2)) bs := by
  have hj : j < zs.length := (List.getElem?_eq_some_iff.1 hz).1
  have hjc : j < c.length := by rw [← h.len]; exact hj
  have hflat : flatC (c.set j (p, (c.getD j lt0).2)) = flatC c := by
    rw [flatC_set c j _ hjc]
    have := flatC_get c j
    have hl := flatC_len c
    show ((flatC c).set (2 * j) (c.getD j lt0).2.1).set (2 * j + 1) (c.getD j lt0).2.2 = flatC c
    rw [← this.1, ← this.2]
    apply List.ext_getElem?
    intro i
    simp only [List.getElem?_set]
    split
    · rename_i e; subst e; simp [List.getD, show 2 * j + 1 < (flatC c).length by omega]
    · split
      · rename_i e; subst e; simp [List.getD, show 2 * j < (flatC c).length by omega]
      · rfl
  refine ⟨h.hlo, h.hhi, by simp [h.len], fun i y hy => ?_, fun i => by rw [World.frozen?_setCell]; exact h.free i, ?_⟩
  · rw [List.getElem?_set] at hy
    by_cases e : j = i
    · subst e
      rw [if_pos rfl, if_pos hj] at hy
      obtain rfl : (p, z.2) = y := by simpa using hy
      obtain ⟨_, c1, c2, c3⟩ := h.cell j z hz
      refine ⟨by simp [List.getD, hjc], World.cell?_setCell_same w _ _ c1, ?_, ?_⟩
      · rw [World.cell?_setCell_other (h := by intro h; simp at h <;> omega)]; exact c2
      · rw [World.cell?_setCell_other (h := by intro h; simp at h <;> omega)]; exact c3
    · rw [if_neg e] at hy
      obtain ⟨e1, c1, c2, c3⟩ := h.cell i y hy
      refine ⟨by rw [e1]; simp [List.getD, e], ?_, ?_, ?_⟩
      · rw [World.cell?_setCell_other (h := by intro h; simp at h <;> omega)]; exact c1
      · rw [World.cell?_setCell_other (h := by intro h; simp at h <;> omega)]; exact c2
      · rw [World.cell?_setCell_other (h := by intro h; simp at h <;> omega)]; exact c3
  · rw [rowsC_set zs j z p hz, hflat]
    exact h.ins.but fun x hx _ _ _ => Below.heap_setCell w _ _ x (by simpa using hx)
theorem CRow.terms {lo hi b off : Nat} {w w' : World} {zs : List LV} {c c' : List Lt} {bs : Nat → Nat} (h : CRow lo hi b off w zs c bs) (hb : w'.heap[b]? = w.heap[b]?) (hl : c'.length = c.length) (hp : ∀ j, (c'.getD j lt0).1 = (c.getD j lt0).1) (hi' : Ins lo hi b w' (rowsC zs) (flatC c') bs) :
    CRow lo hi b off w' zs c' bs :=
  ⟨h.hlo, h.hhi, by rw [h.len, hl], fun j z hz => by
    obtain ⟨e1, c1, c2, c3⟩ := h.cell j z hz
    exact ⟨by rw [hp]; exact e1, cell_same (fun _ => hb) c1, cell_same (fun _ => hb) c2, cell_same (fun _ => hb) c3⟩,
   fun i => by rw [World.frozen?_of_block (w := w) (a := ⟨b, i, none⟩) hb]; exact h.free i, hi'⟩
end Go.Proofs.Ytlcjcihohclmhaa
end
