/- Texts merged, part 6. -/
import Derived.Test.YtnldienjkejfcaaMgHoldsIn5
section
/- RenameOf: both functions. -/
namespace Go.Proofs.Ytnldienjkejfcaa
open Go.RowKit

def renameOk (ar : List Int) (b : List (List Int)) : Bool := goodSign ar && decide (b.length ≤ 20) && b.all (okTerm ar)
def renameAns (ar : List Int) (b : List (List Int)) : List (List Int) := if renameOk ar b then renS [] b else []
theorem renameAns_no {ar : List Int} {b : List (List Int)} (h : renameOk ar b = false) : renameAns ar b = [] := by simp [renameAns, h]
theorem renameAns_yes {ar : List Int} {b : List (List Int)} (h : renameOk ar b = true) : renameAns ar b = renS [] b := by simp [renameAns, h]
theorem renameOk_iff {ar : List Int} {b : List (List Int)} : renameOk ar b = true ↔ goodSign ar = true ∧ b.length ≤ 20 ∧ ∀ t ∈ b, okTerm ar t = true := by
  simp only [renameOk, Bool.and_eq_true, decide_eq_true_eq, List.all_eq_true]
  constructor
  · rintro ⟨⟨h1, h2⟩, h3⟩; exact ⟨h1, h2, h3⟩
  · rintro ⟨h1, h2, h3⟩; exact ⟨⟨h1, h2⟩, h3⟩
theorem renameOk_rows {ar : List Int} {b : List (List Int)} (h : renameOk ar b = true) : rows40 b := by
  obtain ⟨_, h2, h3⟩ := renameOk_iff.1 h
  refine ⟨h2, fun j hj => ?_⟩
  have ho := h3 (b.getD j []) (by simp [List.getD, hj])
  exact ⟨((okTerm_iff _ _).1 ho).2.1, okTerm_low ho⟩
theorem sumL_le40 (l : List (List Int)) (h : ∀ t ∈ l, t.length ≤ 40) : sumL l ≤ 40 * l.length := by
  unfold sumL
  induction l with
  | nil => simp
  | cons x r ih =>
    have h1 := ih (fun t ht => h t (List.mem_cons_of_mem _ ht))
    have h2 := h x List.mem_cons_self
    simp only [List.map_cons, List.sum_cons, List.length_cons]
    omega
theorem renS_lens (met : List Int) (l : List (List Int)) (h : ∀ t ∈ l, t.length ≤ 40) : ∀ t ∈ renS met l, t.length ≤ 40 := by
  induction l generalizing met with
  | nil => intro t ht; simp [renS] at ht
  | cons x r ih =>
    intro t ht
    simp only [renS, List.mem_cons] at ht
    rcases ht with rfl | ht
    · rw [renT_len]; exact h x List.mem_cons_self
    · exact ih _ (fun t ht => h t (List.mem_cons_of_mem _ ht)) t ht
theorem renameAns_len (ar : List Int) (b : List (List Int)) : tot (renameAns ar b) ≤ 1048576 := by
  unfold renameAns
  split
  · rename_i h
    have hr := renameOk_rows h
    have h1 := sumL_le40 _ (renS_lens [] b hr.mem)
    have h2 := hr.1
    unfold tot
    rw [renS_len] at h1 ⊢
    omega
  · simp [tot, sumL]

end Go.Proofs.Ytnldienjkejfcaa
end
section
/- PartAt, ReplaceAt: both functions. -/
namespace Go.Proofs.Ytnldienjkejfcaa
open Go.RowKit

theorem l1End_v (l h l' h' : Nat) (v u : Value) (ar t : List Int) (i q : Nat) (w : World) (he : endOf ar t i = some q) (hg : goodSign ar = true) (ht : t.length ≤ 1048576) (hi : i ≤ t.length) (hv : SlI l h w v ar) (hu : SlI l' h' w u t) :
    Calls Try.prog 76 #[.agg #[v], u, .int .i64 i] w (RetV w (.int .i64 q)) := endI_some he ▸ l1End_c l h l' h' v u ar t i w hg ht hi hv hu
theorem termEnd_v (l h l' h' : Nat) (v u : Value) (ar t : List Int) (i q : Nat) (w : World) (he : endOf ar t i = some q) (hg : goodSign ar = true) (ht : t.length ≤ 1048576) (hi : i ≤ t.length) (hv : SlI l h w v ar) (hu : SlI l' h' w u t) :
    Calls Try.prog 75 #[.agg #[v], u, .int .i64 i] w (RetV w (.tuple #[.int .i64 q, .bool true])) := endP_some he ▸ termEnd_c l h l' h' v u ar t i w hg ht hi hv hu

/-- What PartAt answers. -/
def partAns (ar t : List Int) (i : Int) : List Int := if askOk ar t i then partOf t i.toNat ((endOf ar t i.toNat).getD 0) else []
theorem partAns_yes {ar t : List Int} {k q : Nat} (h : askOk ar t k = true) (he : endOf ar t k = some q) : partAns ar t k = partOf t k q := by simp [partAns, h, he]
theorem partAns_len (ar t : List Int) (i : Int) : (partAns ar t i).length ≤ 1048576 := by
  unfold partAns
  split
  · rename_i h
    obtain ⟨k, e, rfl, hk, he, _, hle, hl, _, _⟩ := ask_yes h
    simp only [Int.toNat_natCast, he, Option.getD_some]
    rw [partOf_len t k e hle]
    omega
  · exact Nat.zero_le _

theorem replaced_len_le (t r : List Int) (i q : Nat) (ht : t.length ≤ 1048576) (hr : r.length ≤ 1048576) : (replaced t i q r).length ≤ 1099511627776 := by
  simp [replaced]; omega

end Go.Proofs.Ytnldienjkejfcaa
end
section
/- CountOf, ShiftVars: both functions. -/
namespace Go.Proofs.Ytnldienjkejfcaa
open Go.RowKit

def cntI (t : List Int) (n : Int) : Nat := (t.filter (· == n)).length
theorem cntI_le (t : List Int) (n : Int) : cntI t n ≤ t.length := List.length_filter_le _ _
theorem cntI_yes (t : List Int) (n : Int) (k : Nat) (hk : k < t.length) (h : t.getD k 0 = n) : cntI (t.take (k+1)) n = cntI (t.take k) n + 1 := by
  unfold cntI
  rw [List.take_succ_eq_append_getElem hk, List.filter_append, List.length_append]
  have : (t[k] == n) = true := by simp [List.getD, hk] at h; simp [h]
  simp [this]
theorem cntI_no (t : List Int) (n : Int) (k : Nat) (hk : k < t.length) (h : t.getD k 0 ≠ n) : cntI (t.take (k+1)) n = cntI (t.take k) n := by
  unfold cntI
  rw [List.take_succ_eq_append_getElem hk, List.filter_append, List.length_append]
  have : (t[k] == n) = false := by simp [List.getD, hk] at h; simp [h]
  simp [this]

def countAns (ar t : List Int) (n : Int) : Int := if goodTerm ar t then cntI t n else 0
theorem count_no {ar t : List Int} {n : Int} (h : goodTerm ar t = false) : countAns ar t n = 0 := by simp [countAns, h]
theorem count_yes {ar t : List Int} {n : Int} (h : goodTerm ar t = true) : countAns ar t n = cntI t n := by simp [countAns, h]

/-! ### ShiftVars -/
def shiftOne (d x : Int) : Int := if x < 0 then x - d else x
def shifted (t : List Int) (d : Int) : List Int := t.map (shiftOne d)
def mapDone (f : Int → Int) (t : List Int) (k : Nat) : List Int := (t.take k).map f ++ t.drop k
theorem mapDone_zero (f : Int → Int) (t : List Int) : mapDone f t 0 = t := by simp [mapDone]
theorem mapDone_len (f : Int → Int) (t : List Int) (k : Nat) : (mapDone f t k).length = t.length := by simp [mapDone]; omega
theorem mapDone_get (f : Int → Int) (t : List Int) (k : Nat) (h : k < t.length) : (mapDone f t k).getD k 0 = t.getD k 0 := by
  unfold mapDone
  have hl : ((t.take k).map f).length = k := by simp; omega
  simp only [List.getD]
  rw [List.getElem?_append_right (by omega), hl, Nat.sub_self]
  simp
theorem mapDone_succ (f : Int → Int) (t : List Int) (k : Nat) (h : k < t.length) : (mapDone f t k).set k (f (t.getD k 0)) = mapDone f t (k+1) := by
  unfold mapDone
  have hl : ((t.take k).map f).length = k := by simp; omega
  rw [List.set_append_right _ _ (by omega), hl, Nat.sub_self, List.drop_eq_getElem_cons h, List.set_cons_zero, List.take_succ_eq_append_getElem h, List.map_append, List.append_assoc]
  simp [List.getD, h]
theorem mapDone_same (f : Int → Int) (t : List Int) (k : Nat) (h : k < t.length) (e : f (t.getD k 0) = t.getD k 0) : mapDone f t k = mapDone f t (k+1) := by
  have h1 : k < (mapDone f t k).length := by rw [mapDone_len]; exact h
  have h2 : t.getD k 0 = (mapDone f t k)[k] := by rw [← mapDone_get f t k h]; simp [List.getD, h1]
  rw [← mapDone_succ f t k h, e, h2, List.set_getElem_self]
theorem mapDone_all (f : Int → Int) (t : List Int) (k : Nat) (h : ¬ k < t.length) : mapDone f t k = t.map f := by
  unfold mapDone; rw [List.take_of_length_le (by omega), List.drop_eq_nil_of_le (by omega), List.append_nil]

/-- The cell, the mark and the next state at a place of a slice of the call's own. -/
theorem OwnI.at {lo hi : Nat} {w : World} {ad : Option Addr} {n c : Nat} {xs : List Int} (h : OwnI lo hi w (.slice ad n c) xs) (j : Nat) (hj : j < xs.length) :
    ∃ b off, ad = some ⟨b, off, none⟩ ∧ lo ≤ b ∧ b < hi ∧ w.cell? ⟨b, off + j, none⟩ = some (.int .i64 (xs.getD j 0)) ∧ w.frozen? ⟨b, off + j, none⟩ = false ∧
      ∀ x : Int, OwnI lo hi (w.setCell ⟨b, off + j, none⟩ (.int .i64 x)) (.slice (some ⟨b, off, none⟩) n c) (xs.set j x) := by
  have h0 := h
  obtain ⟨⟨ad', cap, e, hc, hm, hr⟩, hf⟩ := h
  obtain ⟨b, off, rfl, a1, a2, a3⟩ := hr (by omega)
  simp only [Value.slice.injEq] at e
  obtain ⟨rfl, rfl, rfl⟩ := e
  exact ⟨b, off, rfl, a1, a2, a3 j hj, hf b off _ _ rfl (by omega) j, fun x => h0.stored j hj x⟩

def shiftOk (ar t : List Int) (d : Int) : Bool := goodTerm ar t && inB d 0 12 && okTerm ar (shifted t d)
def shiftAns (ar t : List Int) (d : Int) : List Int := if shiftOk ar t d then shifted t d else []
theorem shifted_len (t : List Int) (d : Int) : (shifted t d).length = t.length := by simp [shifted]
theorem shiftAns_len (ar t : List Int) (d : Int) : (shiftAns ar t d).length ≤ 1048576 := by
  unfold shiftAns
  split
  · rename_i h
    simp only [shiftOk, Bool.and_eq_true] at h
    have := ((okTerm_iff _ _).1 h.2).2.1
    omega
  · exact Nat.zero_le _
theorem shift_no {ar t : List Int} {d : Int} (h : shiftOk ar t d = false) : shiftAns ar t d = [] := by simp [shiftAns, h]
theorem shift_yes {ar t : List Int} {d : Int} (h : shiftOk ar t d = true) : shiftAns ar t d = shifted t d := by simp [shiftAns, h]
theorem good_low {ar t : List Int} (h : goodTerm ar t = true) : t.length ≤ 40 ∧ ∀ k, k < t.length → -12 ≤ t.getD k 0 := by
  obtain ⟨_, h2⟩ := goodTerm_iff.1 h
  refine ⟨((okTerm_iff _ _).1 h2).2.1, fun k hk => ?_⟩
  have := good_sym ar t h2 k hk
  simp [okSym, inB] at this
  simp only [List.getD]
  omega

end Go.Proofs.Ytnldienjkejfcaa
end
section
/- The ordering, plainly. No program. -/
namespace Go.Proofs.Ytnldienjkejfcaa
open Go.RowKit

theorem cntI_count (t : List Int) (n : Int) : cntI t n = t.count n := by unfold cntI; rw [List.count_eq_countP, List.countP_eq_length_filter]
/-- Every variable occurs in a at least as often. -/
def covers (a b : List Int) : Bool := b.all fun n => decide (0 ≤ n) || decide (cntI b n ≤ cntI a n)
theorem covers_iff {a b : List Int} : covers a b = true ↔ ∀ n, n < 0 → b.count n ≤ a.count n := by
  unfold covers
  rw [List.all_eq_true]
  constructor
  · intro h n hn
    by_cases hm : n ∈ b
    · have := h n hm
      simp only [Bool.or_eq_true, decide_eq_true_eq, cntI_count] at this
      omega
    · rw [List.count_eq_zero_of_not_mem hm]; omega
  · intro h n _
    by_cases hn : 0 ≤ n
    · simp [hn]
    · have := h n (by omega)
      simp only [Bool.or_eq_true, decide_eq_true_eq, cntI_count]
      omega
/-- At the first difference both have symbols, and the first's is the greater one. -/
def winF : List Int → List Int → Bool
  | x :: a, y :: b => if x = y then winF a b else decide (0 ≤ y) && decide (y < x)
  | _, _ => false
theorem winF_irrefl (a : List Int) : winF a a = false := by
  induction a with
  | nil => rfl
  | cons x a ih => simp [winF, ih]
theorem winF_asymm (a b : List Int) (h : winF a b = true) : winF b a = false := by
  induction a generalizing b with
  | nil => simp [winF] at h
  | cons x a ih =>
    cases b with
    | nil => simp [winF] at h
    | cons y b =>
      unfold winF at h ⊢
      by_cases e : x = y
      · rw [if_pos e] at h; rw [if_pos e.symm]; exact ih b h
      · rw [if_neg e] at h; rw [if_neg (Ne.symm e)]
        simp only [Bool.and_eq_true, decide_eq_true_eq] at h
        simp; omega
theorem winF_trans (a b c : List Int) (h : winF a b = true) (k : winF b c = true) : winF a c = true := by
  induction a generalizing b c with
  | nil => simp [winF] at h
  | cons x a ih =>
    cases b with
    | nil => simp [winF] at h
    | cons y b =>
      cases c with
      | nil => simp [winF] at k
      | cons z c =>
        unfold winF at h k ⊢
        by_cases e : x = y
        · rw [if_pos e] at h
          by_cases e2 : y = z
          · rw [if_pos e2] at k; rw [if_pos (e.trans e2)]; exact ih b c h k
          · rw [if_neg e2] at k; rw [if_neg (by rw [e]; exact e2), e]; exact k
        · rw [if_neg e] at h
          simp only [Bool.and_eq_true, decide_eq_true_eq] at h
          by_cases e2 : y = z
          · rw [if_neg (by omega)]; simp; omega
          · rw [if_neg e2] at k
            simp only [Bool.and_eq_true, decide_eq_true_eq] at k
            rw [if_neg (by omega)]; simp; omega
theorem winF_left (p a b : List Int) : winF (p ++ a) (p ++ b) = winF a b := by
  induction p with
  | nil => rfl
  | cons x p ih => simp [winF, ih]
theorem winF_right (a b q r : List Int) (h : winF a b = true) : winF (a ++ q) (b ++ r) = true := by
  induction a generalizing b with
  | nil => simp [winF] at h
  | cons x a ih =>
    cases b with
    | nil => simp [winF] at h
    | cons y b =>
      simp only [List.cons_append]
      unfold winF at h ⊢
      by_cases e : x = y
      · rw [if_pos e] at h ⊢; exact ih b h
      · rw [if_neg e] at h ⊢; exact h
theorem winF_total (a b : List Int) (hl : a.length = b.length) (ha : ∀ n ∈ a, 0 ≤ n) (hb : ∀ n ∈ b, 0 ≤ n) (hne : a ≠ b) : winF a b = true ∨ winF b a = true := by
  induction a generalizing b with
  | nil => cases b with
    | nil => exact absurd rfl hne
    | cons y b => simp at hl
  | cons x a ih =>
    cases b with
    | nil => simp at hl
    | cons y b =>
      unfold winF
      by_cases e : x = y
      · rw [if_pos e, if_pos e.symm]
        exact ih b (by simpa using hl) (fun n h => ha n (List.mem_cons_of_mem _ h)) (fun n h => hb n (List.mem_cons_of_mem _ h)) (by rintro rfl; exact hne (by rw [e]))
      · rw [if_neg e, if_neg (Ne.symm e)]
        have h1 := ha x List.mem_cons_self
        have h2 := hb y List.mem_cons_self
        simp only [Bool.and_eq_true, decide_eq_true_eq]
        omega
theorem one1_sym0 {s : List (List Int)} {n : Int} (h : 0 ≤ n) : one1 s n = [n] := by unfold one1; rw [if_neg (by omega)]
theorem one1_posK (s : List (List Int)) (n : Int) : 1 ≤ (one1 s n).length := by
  unfold one1; split
  · rename_i h; exact h.2
  · simp
theorem winF_app (s : List (List Int)) (a b : List Int) (h : winF a b = true) : winF (appT s a) (appT s b) = true := by
  induction a generalizing b with
  | nil => simp [winF] at h
  | cons x a ih =>
    cases b with
    | nil => simp [winF] at h
    | cons y b =>
      unfold winF at h
      by_cases e : x = y
      · rw [if_pos e] at h
        have := ih b h
        unfold appT at this ⊢
        rw [List.flatMap_cons, List.flatMap_cons, e, winF_left]; exact this
      · rw [if_neg e] at h
        simp only [Bool.and_eq_true, decide_eq_true_eq] at h
        unfold appT
        rw [List.flatMap_cons, List.flatMap_cons, one1_sym0 (s := s) h.1, one1_sym0 (s := s) (n := x) (by omega)]
        simp only [List.cons_append, List.nil_append]
        unfold winF
        rw [if_neg e]; simp; omega

/-- a is greater than b. -/
def above (a b : List Int) : Bool := covers a b && (decide (b.length < a.length) || (decide (a.length = b.length) && winF a b))
theorem above_iff {a b : List Int} : above a b = true ↔ (∀ n, n < 0 → b.count n ≤ a.count n) ∧ (b.length < a.length ∨ (a.length = b.length ∧ winF a b = true)) := by
  unfold above
  simp only [Bool.and_eq_true, Bool.or_eq_true, decide_eq_true_eq, covers_iff]
theorem above_irrefl (a : List Int) : above a a = false := by
  rw [Bool.eq_false_iff]; intro h
  obtain ⟨_, h | h⟩ := above_iff.1 h
  · omega
  · rw [winF_irrefl] at h; simp at h
theorem above_asymm {a b : List Int} (h : above a b = true) : above b a = false := by
  rw [Bool.eq_false_iff]; intro k
  obtain ⟨_, h⟩ := above_iff.1 h
  obtain ⟨_, k⟩ := above_iff.1 k
  rcases h with h | ⟨h, hw⟩ <;> rcases k with k | ⟨k, kw⟩
  · omega
  · omega
  · omega
  · rw [winF_asymm _ _ hw] at kw; simp at kw
theorem above_trans {a b c : List Int} (h : above a b = true) (k : above b c = true) : above a c = true := by
  obtain ⟨h1, h⟩ := above_iff.1 h
  obtain ⟨k1, k⟩ := above_iff.1 k
  refine above_iff.2 ⟨fun n hn => Nat.le_trans (k1 n hn) (h1 n hn), ?_⟩
  rcases h with h | ⟨h, hw⟩ <;> rcases k with k | ⟨k, kw⟩
  · left; omega
  · left; omega
  · left; omega
  · exact .inr ⟨by omega, winF_trans _ _ _ hw kw⟩
theorem above_total {a b : List Int} (ha : ∀ n ∈ a, 0 ≤ n) (hb : ∀ n ∈ b, 0 ≤ n) (hne : a ≠ b) : above a b = true ∨ above b a = true := by
  have z : ∀ (l : List Int), (∀ n ∈ l, 0 ≤ n) → ∀ n, n < 0 → l.count n = 0 := fun l hl n hn => List.count_eq_zero_of_not_mem fun hm => by have := hl n hm; omega
  have c1 : ∀ n, n < 0 → b.count n ≤ a.count n := fun n hn => by rw [z b hb n hn]; omega
  have c2 : ∀ n, n < 0 → a.count n ≤ b.count n := fun n hn => by rw [z a ha n hn]; omega
  rcases Nat.lt_trichotomy a.length b.length with h | h | h
  · exact .inr (above_iff.2 ⟨c2, .inl h⟩)
  · rcases winF_total a b h ha hb hne with k | k
    · exact .inl (above_iff.2 ⟨c1, .inr ⟨h, k⟩⟩)
    · exact .inr (above_iff.2 ⟨c2, .inr ⟨h.symm, k⟩⟩)
  · exact .inl (above_iff.2 ⟨c1, .inl h⟩)
theorem above_ctx {a b : List Int} (p q : List Int) (h : above a b = true) : above (p ++ a ++ q) (p ++ b ++ q) = true := by
  obtain ⟨h1, h⟩ := above_iff.1 h
  refine above_iff.2 ⟨fun n hn => ?_, ?_⟩
  · have := h1 n hn; simp only [List.count_append]; omega
  · rcases h with h | ⟨h, hw⟩
    · left; simp only [List.length_append]; omega
    · refine .inr ⟨by simp only [List.length_append]; omega, ?_⟩
      rw [List.append_assoc, List.append_assoc, winF_left]; exact winF_right _ _ _ _ hw
theorem above_part (p u q : List Int) (h : 0 < p.length + q.length) : above (p ++ u ++ q) u = true := by
  refine above_iff.2 ⟨fun n _ => ?_, .inl ?_⟩
  · simp only [List.count_append]; omega
  · simp only [List.length_append]; omega
theorem sum_perm {a b : List Int} (g : Int → Nat) (h : a.Perm b) : (a.map g).sum = (b.map g).sum := by
  induction h with
  | nil => rfl
  | cons x _ ih => simp [ih]
  | swap x y l => simp; omega
  | trans _ _ h1 h2 => exact h1.trans h2
theorem sum_mono (g : Int → Nat) (hg : ∀ n, 0 ≤ n → g n = 0) (a b : List Int) (h : ∀ n, n < 0 → b.count n ≤ a.count n) : (b.map g).sum ≤ (a.map g).sum := by
  induction b generalizing a with
  | nil => simp
  | cons n b ih =>
    by_cases hn : 0 ≤ n
    · have := ih a (fun m hm => by have h2 := h m hm; rw [List.count_cons] at h2; omega)
      simp [hg n hn]; exact this
    · have h1 := h n (by omega)
      rw [List.count_cons_self] at h1
      have hm : n ∈ a := List.count_pos_iff.1 (by omega)
      have hp := List.perm_cons_erase hm
      rw [sum_perm g hp]
      have := ih (a.erase n) (fun m hm => by
        have h2 := h m hm
        have h3 := hp.count_eq m
        rw [List.count_cons] at h2 h3
        omega)
      simp; exact this
theorem count_app (s : List (List Int)) (a : List Int) (n : Int) (hn : n < 0) : (appT s a).count n = (a.map fun m => if m < 0 then (one1 s m).count n else 0).sum := by
  unfold appT
  induction a with
  | nil => rfl
  | cons m a ih =>
    rw [List.flatMap_cons, List.count_append, ih, List.map_cons, List.sum_cons]
    congr 1
    by_cases hm : m < 0
    · rw [if_pos hm]
    · rw [if_neg hm, one1_sym0 (by omega)]
      exact List.count_eq_zero_of_not_mem (by simp; omega)
theorem len_app (s : List (List Int)) (a : List Int) : (appT s a).length = a.length + (a.map fun m => if m < 0 then (one1 s m).length - 1 else 0).sum := by
  unfold appT
  induction a with
  | nil => rfl
  | cons m a ih =>
    rw [List.flatMap_cons, List.length_append, ih, List.map_cons, List.sum_cons, List.length_cons]
    have := one1_posK s m
    by_cases hm : m < 0
    · rw [if_pos hm]; omega
    · rw [if_neg hm, one1_sym0 (by omega)]; simp; omega
theorem above_app {a b : List Int} (s : List (List Int)) (h : above a b = true) : above (appT s a) (appT s b) = true := by
  obtain ⟨h1, h⟩ := above_iff.1 h
  have hl := sum_mono (fun m => if m < 0 then (one1 s m).length - 1 else 0) (fun n hn => by show (if _ then _ else _) = 0; rw [if_neg (by omega)]) a b h1
  have e1 := len_app s a
  have e2 := len_app s b
  refine above_iff.2 ⟨fun n hn => ?_, ?_⟩
  · rw [count_app s a n hn, count_app s b n hn]
    exact sum_mono _ (fun m hm => by show (if _ then _ else _) = 0; rw [if_neg (by omega)]) a b h1
  · by_cases hlt : (appT s b).length < (appT s a).length
    · exact .inl hlt
    · rcases h with h | ⟨h, hw⟩
      · omega
      · exact .inr ⟨by omega, winF_app s a b hw⟩

/-- How two terms compare. -/
def cmpT (a b : List Int) : Int := if a = b then 0 else if above a b then 1 else if above b a then -1 else 2
theorem cmpT_one {a b : List Int} : cmpT a b = 1 ↔ above a b = true := by
  unfold cmpT
  by_cases e : a = b
  · rw [if_pos e, e, above_irrefl]; simp
  · rw [if_neg e]
    cases h : above a b
    · cases h2 : above b a <;> simp
    · simp
theorem cmpT_zero {a b : List Int} : cmpT a b = 0 ↔ a = b := by
  unfold cmpT
  by_cases e : a = b
  · simp [e]
  · rw [if_neg e]
    cases h : above a b
    · cases h2 : above b a <;> simp [e]
    · simp [e]
theorem cmpT_neg {a b : List Int} : cmpT a b = -1 ↔ above b a = true := by
  unfold cmpT
  by_cases e : a = b
  · rw [if_pos e, e, above_irrefl]; simp
  · rw [if_neg e]
    cases h : above a b
    · cases h2 : above b a <;> simp
    · have := above_asymm h; simp [this]
theorem cmpT_two {a b : List Int} : cmpT a b = 2 ↔ a ≠ b ∧ above a b = false ∧ above b a = false := by
  unfold cmpT
  by_cases e : a = b
  · simp [e]
  · rw [if_neg e]
    cases h : above a b
    · cases h2 : above b a <;> simp [e]
    · simp
theorem cmpT_flip {a b : List Int} : (cmpT a b = 1 → cmpT b a = -1) ∧ (cmpT a b = 0 → cmpT b a = 0) ∧ (cmpT a b = 2 → cmpT b a = 2) := by
  refine ⟨fun h => cmpT_neg.2 (cmpT_one.1 h), fun h => cmpT_zero.2 (cmpT_zero.1 h).symm, fun h => ?_⟩
  obtain ⟨h1, h2, h3⟩ := cmpT_two.1 h
  exact cmpT_two.2 ⟨Ne.symm h1, h3, h2⟩

/-- What remains of a. -/
def minus (a b : List (List Int)) : List (List Int) := b.foldl List.erase a
theorem minus_nil (a : List (List Int)) : minus a [] = a := rfl
theorem minus_cons (a : List (List Int)) (t : List Int) (b : List (List Int)) : minus a (t :: b) = minus (a.erase t) b := rfl
theorem minus_count (a b : List (List Int)) (t : List Int) : (minus a b).count t = a.count t - b.count t := by
  induction b generalizing a with
  | nil => simp [minus]
  | cons y b ih =>
    rw [minus_cons, ih, List.count_erase, List.count_cons]
    by_cases e : y = t
    · simp [e]; omega
    · simp [e]
theorem minus_mem {a b : List (List Int)} {t : List Int} : t ∈ minus a b ↔ b.count t < a.count t := by
  rw [← List.count_pos_iff, minus_count]; omega
theorem minus_len (a b : List (List Int)) : (minus a b).length ≤ a.length := by
  induction b generalizing a with
  | nil => exact Nat.le_refl _
  | cons y b ih => rw [minus_cons]; exact Nat.le_trans (ih _) (List.length_erase_le)
theorem minus_sub {a b : List (List Int)} {t : List Int} (h : t ∈ minus a b) : t ∈ a := List.count_pos_iff.1 (by have := minus_mem.1 h; omega)
/-- From the front of a: what b has is left out. -/
theorem minus_front (x : List Int) (a b : List (List Int)) : minus (x :: a) b = if x ∈ b then minus a (b.erase x) else x :: minus a b := by
  induction b generalizing a with
  | nil => simp [minus]
  | cons y b ih =>
    rw [minus_cons]
    by_cases e : x = y
    · subst e; simp
    · rw [List.erase_cons_tail (by simpa using e), ih]
      have h1 : (x ∈ y :: b) ↔ x ∈ b := by simp [e]
      have h2 : (y :: b).erase x = y :: b.erase x := List.erase_cons_tail (by simpa using Ne.symm e)
      by_cases h : x ∈ b
      · rw [if_pos h, if_pos (h1.2 h), h2, minus_cons]
      · rw [if_neg h, if_neg (fun k => h (h1.1 k)), minus_cons]
theorem minus_perm {b c : List (List Int)} (h : b.Perm c) (a : List (List Int)) : minus a b = minus a c := by
  induction h generalizing a with
  | nil => rfl
  | cons x _ ih => rw [minus_cons, minus_cons, ih]
  | swap x y l => rw [minus_cons, minus_cons, minus_cons, minus_cons, List.erase_comm]
  | trans _ _ h1 h2 => exact (h1 a).trans (h2 a)

def dom (a b : List (List Int)) : Bool := b.all fun t => a.any fun u => above u t
theorem dom_iff {a b : List (List Int)} : dom a b = true ↔ ∀ t ∈ b, ∃ u ∈ a, above u t = true := by
  unfold dom; simp only [List.all_eq_true, List.any_eq_true]
/-- Some element is below none. -/
theorem top_of (l : List (List Int)) (h : l ≠ []) : ∃ m ∈ l, ∀ x ∈ l, above x m = false := by
  induction l with
  | nil => exact absurd rfl h
  | cons y l ih =>
    by_cases hl : l = []
    · subst hl
      exact ⟨y, List.mem_cons_self, fun x hx => by simp at hx; subst hx; exact above_irrefl _⟩
    · obtain ⟨m, hm, hmax⟩ := ih hl
      cases hy : above y m with
      | false => exact ⟨m, List.mem_cons_of_mem _ hm, fun x hx => by rcases List.mem_cons.1 hx with rfl | hx; exact hy; exact hmax x hx⟩
      | true =>
        refine ⟨y, List.mem_cons_self, fun x hx => ?_⟩
        rcases List.mem_cons.1 hx with rfl | hx
        · exact above_irrefl _
        · rw [Bool.eq_false_iff]; intro hxy
          have := hmax x hx
          rw [above_trans hxy hy] at this; simp at this
theorem dom_asymm {a b : List (List Int)} (ha : a ≠ []) (h : dom a b = true) : dom b a = false := by
  rw [Bool.eq_false_iff]; intro k
  obtain ⟨m, hm, hmax⟩ := top_of a ha
  obtain ⟨u, hu, h1⟩ := dom_iff.1 k m hm
  obtain ⟨x, hx, h2⟩ := dom_iff.1 h u hu
  have := hmax x hx
  rw [above_trans h2 h1] at this; simp at this
/-- How two lists compare. -/
def cmpL (a b : List (List Int)) : Int := if minus a b = [] ∧ minus b a = [] then 0 else if dom (minus a b) (minus b a) then 1 else if dom (minus b a) (minus a b) then -1 else 2
theorem cmpL_zero {a b : List (List Int)} : cmpL a b = 0 ↔ minus a b = [] ∧ minus b a = [] := by
  unfold cmpL
  by_cases e : minus a b = [] ∧ minus b a = []
  · simp [e]
  · rw [if_neg e]; simp only [e, iff_false]; split
    · omega
    · split <;> omega
theorem cmpL_one {a b : List (List Int)} : cmpL a b = 1 ↔ minus a b ≠ [] ∧ dom (minus a b) (minus b a) = true := by
  unfold cmpL
  by_cases e : minus a b = [] ∧ minus b a = []
  · rw [if_pos e]; simp [e.1]
  · rw [if_neg e]
    cases h : dom (minus a b) (minus b a)
    · simp; split <;> omega
    · simp
      intro h0
      refine e ⟨h0, ?_⟩
      rw [h0] at h
      cases h2 : minus b a with
      | nil => rfl
      | cons t r => obtain ⟨u, hu, _⟩ := dom_iff.1 h t (by rw [h2]; exact List.mem_cons_self); simp at hu
theorem cmpL_neg {a b : List (List Int)} : cmpL a b = -1 ↔ minus b a ≠ [] ∧ dom (minus b a) (minus a b) = true := by
  constructor
  · intro h
    have h1 : cmpL a b ≠ 1 := by omega
    have h0 : cmpL a b ≠ 0 := by omega
    unfold cmpL at h
    by_cases e : minus a b = [] ∧ minus b a = []
    · rw [if_pos e] at h; omega
    · rw [if_neg e] at h
      cases hd : dom (minus a b) (minus b a)
      · rw [hd] at h
        cases hd2 : dom (minus b a) (minus a b)
        · rw [hd2] at h; simp at h
        · refine ⟨fun hb => e ⟨?_, hb⟩, rfl⟩
          rw [hb] at hd2
          cases h2 : minus a b with
          | nil => rfl
          | cons t r => obtain ⟨u, hu, _⟩ := dom_iff.1 hd2 t (by rw [h2]; exact List.mem_cons_self); simp at hu
      · rw [hd] at h; simp at h
  · rintro ⟨h1, h2⟩
    have h3 := dom_asymm h1 h2
    unfold cmpL
    rw [if_neg (fun e => h1 e.2), h3, h2]; simp
theorem cmpL_flip (a b : List (List Int)) : (cmpL a b = 1 ↔ cmpL b a = -1) ∧ (cmpL a b = 0 ↔ cmpL b a = 0) := by
  refine ⟨by rw [cmpL_one, cmpL_neg], by rw [cmpL_zero, cmpL_zero]; exact And.comm⟩
theorem nil_iff {l : List (List Int)} : l = [] ↔ ∀ t, t ∉ l := List.eq_nil_iff_forall_not_mem
theorem dom_congr {a b a' b' : List (List Int)} (h1 : ∀ t, t ∈ a ↔ t ∈ a') (h2 : ∀ t, t ∈ b ↔ t ∈ b') : dom a b = dom a' b' := by
  rw [Bool.eq_iff_iff, dom_iff, dom_iff]
  constructor
  · intro h t ht; obtain ⟨u, hu, k⟩ := h t ((h2 t).2 ht); exact ⟨u, (h1 u).1 hu, k⟩
  · intro h t ht; obtain ⟨u, hu, k⟩ := h t ((h2 t).1 ht); exact ⟨u, (h1 u).2 hu, k⟩
/-- What is put behind both changes nothing. -/
theorem cmpL_snoc (a b : List (List Int)) (g : List Int) : cmpL (a ++ [g]) (b ++ [g]) = cmpL a b := by
  have h1 : ∀ (a b : List (List Int)) t, t ∈ minus (a ++ [g]) (b ++ [g]) ↔ t ∈ minus a b := fun a b t => by
    rw [minus_mem, minus_mem, List.count_append, List.count_append]; omega
  unfold cmpL
  rw [dom_congr (h1 a b) (h1 b a), dom_congr (h1 b a) (h1 a b)]
  have h2 : ∀ a b : List (List Int), minus (a ++ [g]) (b ++ [g]) = [] ↔ minus a b = [] := fun a b => by
    rw [nil_iff, nil_iff]; exact forall_congr' fun t => not_congr (h1 a b t)
  simp only [h2]
def falls (l : List (List Int)) : Bool := (List.range (l.length - 1)).all fun i => above (l.getD i []) (l.getD (i+1) [])
theorem falls_pair {l : List (List Int)} (h : falls l = true) : ∀ (i j : Nat), j < i → i < l.length → above (l.getD j []) (l.getD i []) = true := by
  unfold falls at h
  rw [List.all_eq_true] at h
  intro i
  induction i with
  | zero => intro j hj; omega
  | succ i ih =>
    intro j hj hi
    have h1 := h i (by rw [List.mem_range]; omega)
    by_cases e : j = i
    · rw [e]; exact h1
    · exact above_trans (ih j (by omega) (by omega)) h1
end Go.Proofs.Ytnldienjkejfcaa
end
