/- Texts merged, part 5. -/
import Derived.Test.YtnldienjkejfcaaMgHoldsIn4
section
/- Renaming variables in the order in which they are met. No program. -/
namespace Go.Proofs.Ytnldienjkejfcaa
open Go.RowKit

def stepM (met : List Int) (n : Int) : List Int := if n < 0 ∧ n ∉ met then met ++ [n] else met
def valM (met : List Int) (n : Int) : Int := if n < 0 then -1 - (met.idxOf n : Int) else n
def metT (met : List Int) (t : List Int) : List Int := t.foldl stepM met
def renT : List Int → List Int → List Int
  | _, [] => []
  | met, x :: r => valM (stepM met x) x :: renT (stepM met x) r
def metS (met : List Int) (l : List (List Int)) : List Int := l.foldl metT met
def renS : List Int → List (List Int) → List (List Int)
  | _, [] => []
  | met, t :: r => renT met t :: renS (metT met t) r

theorem renT_app (met a b : List Int) : renT met (a ++ b) = renT met a ++ renT (metT met a) b := by
  induction a generalizing met with
  | nil => rfl
  | cons x a ih => simp [renT, ih, metT]
theorem renS_app (met : List Int) (a b : List (List Int)) : renS met (a ++ b) = renS met a ++ renS (metS met a) b := by
  induction a generalizing met with
  | nil => rfl
  | cons x a ih => simp [renS, ih, metS]
theorem renT_len (met t : List Int) : (renT met t).length = t.length := by
  induction t generalizing met with
  | nil => rfl
  | cons x t ih => simp [renT, ih]
theorem renS_len (met : List Int) (l : List (List Int)) : (renS met l).length = l.length := by
  induction l generalizing met with
  | nil => rfl
  | cons x t ih => simp [renS, ih]
theorem metT_succ (met t : List Int) (k : Nat) (h : k < t.length) : metT met (t.take (k+1)) = stepM (metT met (t.take k)) (t.getD k 0) := by
  unfold metT
  rw [List.take_succ_eq_append_getElem h, List.foldl_append]
  simp [List.getD, h]
theorem renT_succ (met t : List Int) (k : Nat) (h : k < t.length) : renT met (t.take (k+1)) = renT met (t.take k) ++ [valM (stepM (metT met (t.take k)) (t.getD k 0)) (t.getD k 0)] := by
  rw [List.take_succ_eq_append_getElem h, renT_app]
  simp [renT, List.getD, h]
theorem metS_succ (met : List Int) (l : List (List Int)) (k : Nat) (h : k < l.length) : metS met (l.take (k+1)) = metT (metS met (l.take k)) (l.getD k []) := by
  unfold metS
  rw [List.take_succ_eq_append_getElem h, List.foldl_append]
  simp [List.getD, h]
theorem renS_succ (met : List Int) (l : List (List Int)) (k : Nat) (h : k < l.length) : renS met (l.take (k+1)) = renS met (l.take k) ++ [renT (metS met (l.take k)) (l.getD k [])] := by
  rw [List.take_succ_eq_append_getElem h, renS_app]
  simp [renS, List.getD, h]
/-- Those met are negative. -/
def negM (met : List Int) : Prop := ∀ x ∈ met, x < 0
theorem negM.step {met : List Int} (h : negM met) (n : Int) : negM (stepM met n) := by
  unfold stepM
  split
  · rename_i h1
    intro x hx
    rcases List.mem_append.1 hx with h2 | h2
    · exact h x h2
    · simp at h2; omega
  · exact h
theorem negM.metT {met : List Int} (h : negM met) (t : List Int) : negM (metT met t) := by
  unfold Go.Proofs.Ytnldienjkejfcaa.metT
  induction t generalizing met with
  | nil => exact h
  | cons x t ih => exact ih (h.step x)
theorem negM.metS {met : List Int} (h : negM met) (l : List (List Int)) : negM (metS met l) := by
  unfold Go.Proofs.Ytnldienjkejfcaa.metS
  induction l generalizing met with
  | nil => exact h
  | cons x t ih => exact ih (h.metT x)
theorem stepM_mem (met : List Int) (n : Int) (h : n < 0) : n ∈ stepM met n := by
  unfold stepM
  split
  · simp
  · rename_i h1
    exact Classical.byContradiction fun h2 => h1 ⟨h, h2⟩
theorem stepM_len (met : List Int) (n : Int) : (stepM met n).length ≤ met.length + 1 := by unfold stepM; split <;> simp
theorem metT_len (met t : List Int) : (metT met t).length ≤ met.length + t.length := by
  unfold metT
  induction t generalizing met with
  | nil => simp
  | cons x t ih =>
    have h1 := ih (stepM met x)
    have h2 := stepM_len met x
    simp only [List.foldl_cons, List.length_cons]
    omega
theorem metS_len {l : List (List Int)} (met : List Int) (h : ∀ t ∈ l, t.length ≤ 40) : (metS met l).length ≤ met.length + 40 * l.length := by
  unfold metS
  induction l generalizing met with
  | nil => simp
  | cons x t ih =>
    have h1 := ih (metT met x) (fun t ht => h t (List.mem_cons_of_mem _ ht))
    have h2 := metT_len met x
    have h3 := h x List.mem_cons_self
    simp only [List.foldl_cons, List.length_cons]
    omega
theorem stepM_new {met : List Int} {n : Int} (h : n < 0) (h2 : n ∉ met) : stepM met n = met ++ [n] := by unfold stepM; rw [if_pos ⟨h, h2⟩]
theorem stepM_old {met : List Int} {n : Int} (h2 : n ∈ met) : stepM met n = met := by unfold stepM; rw [if_neg (fun h => h.2 h2)]
theorem stepM_sym {met : List Int} {n : Int} (h2 : ¬ n < 0) : stepM met n = met := by unfold stepM; rw [if_neg (fun h => h2 h.1)]
theorem idx_first {M : List Int} {n : Int} {k : Nat} (hk : k < M.length) (he : M.getD k 0 = n) (hn : n ∉ M.take k) : M.idxOf n = k := by
  conv => lhs; rw [← List.take_append_drop k M]
  rw [List.idxOf_append, if_neg hn, List.drop_eq_getElem_cons hk]
  have : M[k] = n := by simpa [List.getD, hk] using he
  rw [this, List.idxOf_cons_self]
  simp; omega
theorem val_found {M : List Int} {n : Int} {k : Nat} (h : negM M) (hk : k < M.length) (he : M.getD k 0 = n) (hn : n ∉ M.take k) : valM M n = -1 - (k : Int) := by
  have h1 : n < 0 := by rw [← he]; exact h _ (by simp [List.getD, hk])
  unfold valM
  rw [if_pos h1, idx_first hk he hn]
theorem val_end {M : List Int} {n : Int} (h : n < 0 → n ∈ M) (hn : n ∉ M) : valM M n = n := by
  unfold valM
  rw [if_neg (fun h1 => hn (h h1))]
theorem not_take_succ {M : List Int} {n : Int} {k : Nat} (hk : k < M.length) (he : M.getD k 0 ≠ n) (hn : n ∉ M.take k) : n ∉ M.take (k+1) := by
  rw [List.take_succ_eq_append_getElem hk, List.mem_append, List.mem_singleton]
  rintro (h | h)
  · exact hn h
  · exact he (by simpa [List.getD, hk] using h.symm)

theorem tag_snoc {base tag t e w w1 v v'} {acc : List Int} {x : Int} (h : OwnT base tag t e w v (acc.map (Value.int .i64))) (hown : w1.ownsRow base e 1 v' ((acc.map (Value.int .i64)).length + 1) (acc.map (Value.int .i64) ++ [.int .i64 x])) (hg : w.grownBy w1 v.ownBlock) (hat : v'.ownBlock = v.ownBlock ∨ v'.ownBlock = some w.heap.size) :
    ∃ tag', OwnT base tag' t e w1 v' ((acc ++ [x]).map (Value.int .i64)) ∧ Tags base tag w tag' w1 t := tag_append h (by simpa using hown) hg hat
theorem tag_snocV {base tag t e w w1 v v' u} {us : List Value} (h : OwnT base tag t e w v us) (hown : w1.ownsRow base e 1 v' (us.length + 1) (us ++ [u])) (hg : w.grownBy w1 v.ownBlock) (hat : v'.ownBlock = v.ownBlock ∨ v'.ownBlock = some w.heap.size) :
    ∃ tag', OwnT base tag' t e w1 v' (us ++ [u]) ∧ Tags base tag w tag' w1 t := tag_append h (by simpa using hown) hg hat
theorem SlI.at {lo hi : Nat} {w : World} {ad : Option Addr} {n c : Nat} {xs : List Int} (h : SlI lo hi w (.slice ad n c) xs) (k : Nat) (hk : k < xs.length) :
    ∃ b off, ad = some ⟨b, off, none⟩ ∧ b < w.heap.size ∧ w.cell? ⟨b, off + k, none⟩ = some (.int .i64 (xs.getD k 0)) := by
  obtain ⟨ad', cap, e, _, _, hr⟩ := h
  obtain ⟨b, off, e2, _, _, hc⟩ := hr (by omega)
  simp only [Value.slice.injEq] at e
  exact ⟨b, off, e.1.trans e2, World.block_lt_of_cell? w ⟨b, off + k, none⟩ (hc k hk), hc k hk⟩
theorem OwnT.sl {base tag t e w v} {xs : List Int} (h : OwnT base tag t e w v (xs.map (Value.int .i64))) : SlI base w.heap.size w v xs := (OwnI.of_row (by simpa using h.1)).sl
theorem Bel.grownT {base tag t e w0 w v xs w' o} (hb : Bel w0 w) (h : OwnT base tag t e w v xs) (hbase : w0.heap.size ≤ base) (g : (w.alloc o).grownBy w' v.ownBlock) : Bel w0 w' :=
  (hb.alloc o).grown g (fun k hk => by have := own_base h.1 k hk; omega)
end Go.Proofs.Ytnldienjkejfcaa
end
section
/- RenameOf: the inner functions. -/
namespace Go.Proofs.Ytnldienjkejfcaa
open Go.RowKit

def rows40 (l : List (List Int)) : Prop := l.length ≤ 20 ∧ ∀ j, j < l.length → (l.getD j []).length ≤ 40 ∧ ∀ k, k < (l.getD j []).length → -12 ≤ (l.getD j []).getD k 0
theorem rows40.mem {l : List (List Int)} (h : rows40 l) : ∀ t ∈ l, t.length ≤ 40 := by
  intro t ht
  obtain ⟨j, hj, rfl⟩ := List.getElem_of_mem ht
  have := (h.2 j hj).1
  simpa [List.getD, hj] using this
theorem rows40.met {l : List (List Int)} (h : rows40 l) (k : Nat) : (metS [] (l.take k)).length ≤ 800 := by
  have h1 := metS_len (l := l.take k) [] (fun t ht => h.mem t (List.mem_of_mem_take ht))
  have h2 := h.1
  simp at h1
  omega
theorem news_oneV (w : World) (x : Value) (t : TypeId) : ∀ j u, [x][j]? = some u → (w.alloc (.cells #[x] t)).cell? ((⟨w.heap.size, 0, none⟩ : Addr).add j) = some u := news_one w x t
theorem one_slice (a : Option Addr) (n c : Nat) : ∀ u ∈ [Value.slice a n c], u.oneCell' = true := by intro u hu; simp at hu; subst hu; rfl

end Go.Proofs.Ytnldienjkejfcaa
end
section
/- RenameOf: the program's inner function. -/
namespace Go.Proofs.Ytnldienjkejfcaa
open Go.RowKit

/-- Twelve ints. -/
def arrN (f : Nat → Int) : Array Value := #[.int .i64 (f 0), .int .i64 (f 1), .int .i64 (f 2), .int .i64 (f 3), .int .i64 (f 4), .int .i64 (f 5), .int .i64 (f 6), .int .i64 (f 7), .int .i64 (f 8), .int .i64 (f 9), .int .i64 (f 10), .int .i64 (f 11)]
theorem arrN_set (f : Nat → Int) (j : Nat) (b : Int) (h : j < 12) : (arrN f).setIfInBounds j (.int .i64 b) = arrN (fun i => if i = j then b else f i) := by
  match j, h with
  | 0, _ => rfl
  | 1, _ => rfl
  | 2, _ => rfl
  | 3, _ => rfl
  | 4, _ => rfl
  | 5, _ => rfl
  | 6, _ => rfl
  | 7, _ => rfl
  | 8, _ => rfl
  | 9, _ => rfl
  | 10, _ => rfl
  | 11, _ => rfl
theorem arrN_get (f : Nat → Int) (j : Nat) (h : j < 12) : (arrN f)[j]? = some (.int .i64 (f j)) := by
  match j, h with
  | 0, _ => rfl
  | 1, _ => rfl
  | 2, _ => rfl
  | 3, _ => rfl
  | 4, _ => rfl
  | 5, _ => rfl
  | 6, _ => rfl
  | 7, _ => rfl
  | 8, _ => rfl
  | 9, _ => rfl
  | 10, _ => rfl
  | 11, _ => rfl
def BlkN (w : World) (B : Nat) (T : TypeId) (f : Nat → Int) : Prop := w.heap[B]? = some (.cells (arrN f) T (0, 0))
theorem BlkN.cell {w : World} {B : Nat} {T : TypeId} {f : Nat → Int} (h : BlkN w B T f) (j : Nat) (hj : j < 12) : w.cell? ⟨B, j, none⟩ = some (.int .i64 (f j)) := by
  unfold BlkN at h
  simp [World.cell?, h, arrN_get f j hj]
theorem BlkN.free {w : World} {B : Nat} {T : TypeId} {f : Nat → Int} (h : BlkN w B T f) (j : Nat) : w.frozen? ⟨B, j, none⟩ = false := by
  unfold BlkN at h
  simp [World.frozen?, h]
theorem BlkN.lt {w : World} {B : Nat} {T : TypeId} {f : Nat → Int} (h : BlkN w B T f) : B < w.heap.size := (Array.getElem?_eq_some_iff.1 h).1
theorem BlkN.bel {w w' : World} {B : Nat} {T : TypeId} {f : Nat → Int} (h : BlkN w B T f) (hb : Bel w w') : BlkN w' B T f := (hb.block B h.lt).trans h
theorem BlkN.set {w : World} {B : Nat} {T : TypeId} {f : Nat → Int} (h : BlkN w B T f) (j : Nat) (hj : j < 12) (b : Int) : BlkN (w.setCell ⟨B, j, none⟩ (.int .i64 b)) B T (fun i => if i = j then b else f i) := by
  have hlt := h.lt
  have h' : w.heap[B] = .cells (arrN f) T (0, 0) := by unfold BlkN at h; simpa [Array.getElem?_eq_getElem hlt] using h
  show (w.heap.modify B _)[B]? = _
  rw [Array.getElem?_eq_getElem (by simpa using hlt), Array.getElem_modify_self, h']
  simp [arrN_set f j b hj]
theorem BlkN.other {w : World} {B : Nat} {T : TypeId} {f : Nat → Int} (h : BlkN w B T f) {p : Addr} (hp : p.block ≠ B) (v : Value) : BlkN (w.setCell p v) B T f :=
  (Below.heap_setCell w p v B (by omega)).trans h
theorem BlkN.grown {w w' : World} {o : Obj} {B : Nat} {T : TypeId} {f : Nat → Int} {base : Nat} {tag : Nat → Nat} {t : Nat} {e : TypeId} {v : Value} {xs : List Value} (h : BlkN w B T f) (hB : B < base) (hown : OwnT base tag t e w v xs) (hg : (w.alloc o).grownBy w' v.ownBlock) : BlkN w' B T f := by
  have hlt := h.lt
  refine (hg.block B (by simp; omega) (fun e => ?_)).trans ((Below.heap_alloc w o B hlt).trans h)
  have := own_base hown.1 B e.symm
  omega
/-- The names as the table holds them. -/
def nm (met : List Int) (v : Nat) : Int := if (-1 - (v : Int)) ∈ met then -1 - (met.idxOf (-1 - (v : Int)) : Int) else 0
theorem nm_nil : nm [] = fun _ => 0 := by funext v; simp [nm]
theorem nm_new {met : List Int} {n : Int} (h : n < 0) (hn : n ∉ met) : (fun i => if i = (-1 - n).toNat then -1 - (met.length : Int) else nm met i) = nm (met ++ [n]) := by
  funext i
  by_cases e : i = (-1 - n).toNat
  · have e2 : -1 - (i : Int) = n := by omega
    rw [if_pos e]; unfold nm
    rw [e2, if_pos (by simp), List.idxOf_append, if_neg hn]
    simp
  · have e2 : -1 - (i : Int) ≠ n := by omega
    rw [if_neg e]; unfold nm
    by_cases hm : (-1 - (i : Int)) ∈ met
    · rw [if_pos hm, if_pos (by simp [hm]), List.idxOf_append, if_pos hm]
    · rw [if_neg hm, if_neg (by simp [hm, e2])]
theorem nm_old {met : List Int} {n : Int} (h : n < 0) (hn : n ∈ met) : nm met (-1 - n).toNat = valM met n ∧ valM met n < 0 := by
  have e2 : -1 - (((-1 - n).toNat : Nat) : Int) = n := by omega
  unfold nm valM
  rw [e2, if_pos hn, if_pos h]
  exact ⟨rfl, by omega⟩
theorem nm_not {met : List Int} {n : Int} (h : n < 0) (hn : n ∉ met) : nm met (-1 - n).toNat = 0 := by
  have e2 : -1 - (((-1 - n).toNat : Nat) : Int) = n := by omega
  unfold nm
  rw [e2, if_neg hn]
theorem val_new {met : List Int} {n : Int} (h : n < 0) (hn : n ∉ met) : valM (met ++ [n]) n = -1 - (met.length : Int) := by
  unfold valM
  rw [if_pos h, List.idxOf_append, if_neg hn]
  simp
theorem val_sym {met : List Int} {n : Int} (h : ¬ n < 0) : valM met n = n := by unfold valM; rw [if_neg h]
theorem list_set_same {l : List Int} {i : Nat} {x : Int} (h : l[i]? = some x) : l.set i x = l := by
  apply List.ext_getElem?
  intro j
  rw [List.getElem?_set]
  by_cases e : i = j
  · subst e
    obtain ⟨h3, h4⟩ := List.getElem?_eq_some_iff.1 h
    simp [h3, h4]
  · simp [e]
/-- The first i are renamed. -/
def mix (M t : List Int) (i : Nat) : List Int := renT M (t.take i) ++ t.drop i
theorem mix_zero (M t : List Int) : mix M t 0 = t := by simp [mix, renT]
theorem mix_len (M t : List Int) (i : Nat) (h : i ≤ t.length) : (mix M t i).length = t.length := by simp [mix, renT_len]; omega
theorem mix_get (M t : List Int) (i : Nat) (h : i < t.length) : (mix M t i)[i]? = some (t.getD i 0) := by
  have hl : (renT M (t.take i)).length = i := by rw [renT_len, List.length_take]; omega
  unfold mix
  rw [List.getElem?_append_right (by omega), hl, Nat.sub_self]
  simp [List.getD, h]
theorem mix_succ (M t : List Int) (i : Nat) (h : i < t.length) : (mix M t i).set i (valM (stepM (metT M (t.take i)) (t.getD i 0)) (t.getD i 0)) = mix M t (i+1) := by
  have hl : (renT M (t.take i)).length = i := by rw [renT_len, List.length_take]; omega
  unfold mix
  rw [List.set_append_right _ _ (by omega), hl, Nat.sub_self, List.drop_eq_getElem_cons h, List.set_cons_zero, renT_succ M t i h]
  simp
theorem mix_sym (M t : List Int) (i : Nat) (h : i < t.length) (hs : ¬ t.getD i 0 < 0) : mix M t i = mix M t (i+1) := by
  have hl : (renT M (t.take i)).length = i := by rw [renT_len, List.length_take]; omega
  rw [← mix_succ M t i h, val_sym hs]
  exact (list_set_same (mix_get M t i h)).symm
theorem mix_all (M t : List Int) (i : Nat) (h : ¬ i < t.length) : mix M t i = renT M t := by
  unfold mix
  rw [List.take_of_length_le (by omega), List.drop_eq_nil_of_le (by omega), List.append_nil]

end Go.Proofs.Ytnldienjkejfcaa
end
section
/- Putting terms for variables keeps terms. No program. -/
namespace Go.Proofs.Ytnldienjkejfcaa

theorem goodSubst_iff {ar : List Int} {b : List (List Int)} : goodSubst ar b = true ↔ goodSign ar = true ∧ b.length = 12 ∧ ∀ t ∈ b, okEmpty ar t = true := by
  simp only [goodSubst, Bool.and_eq_true, beq_iff_eq, List.all_eq_true]
  constructor
  · rintro ⟨⟨h1, h2⟩, h3⟩; exact ⟨h1, h2, h3⟩
  · rintro ⟨h1, h2, h3⟩; exact ⟨⟨h1, h2⟩, h3⟩
theorem okEmpty_get {ar : List Int} {b : List (List Int)} (h : ∀ t ∈ b, okEmpty ar t = true) (j : Nat) (hp : 0 < (b.getD j []).length) : okTerm ar (b.getD j []) = true := by
  have hj : j < b.length := by
    rcases Nat.lt_or_ge j b.length with h1 | h1
    · exact h1
    · simp [List.getD, h1] at hp
  have := h (b.getD j []) (by simp [List.getD, hj])
  rwa [okEmpty_pos hp] at this
theorem goodSubst_len40 {ar : List Int} {b : List (List Int)} (h : goodSubst ar b = true) : lens40 b := by
  obtain ⟨_, _, h3⟩ := goodSubst_iff.1 h
  intro j hj
  by_cases hp : 0 < (b.getD j []).length
  · have := ((okTerm_iff _ _).1 (okEmpty_get h3 j hp)).2.1; omega
  · omega
theorem okSym_low {ar : List Int} {x : Int} (h : okSym ar x = true) : -12 ≤ x := by simp [okSym, inB] at h; omega
theorem okTerm_low {ar t : List Int} (h : okTerm ar t = true) : ∀ k, k < t.length → -12 ≤ t.getD k 0 := fun k hk => okSym_low (good_sym ar t h k hk)

/-- What is put for an entry takes the place of one term. -/
theorem endGo_one1 (ar : List Int) (b : List (List Int)) (hb : ∀ t ∈ b, okEmpty ar t = true) (x : Int) (hx : okSym ar x = true) (s : List Int) (n p : Nat) :
    endGo ar (one1 b x ++ s) (n + 1) p = endGo ar s (n + arOf ar x) (p + (one1 b x).length) := by
  by_cases h : x < 0 ∧ 0 < (b.getD (-1 - x).toNat []).length
  · have ho := okEmpty_get hb _ h.2
    have e : one1 b x = b.getD (-1 - x).toNat [] := by unfold one1; rw [if_pos h]
    rw [e]
    generalize b.getD (-1 - x).toNat [] = T at *
    obtain ⟨h1, h2, h3⟩ := (okTerm_iff _ _).1 ho
    unfold endOf at h3
    rw [List.drop_zero] at h3
    have h4 := endGo_ext ar T s 1 0 _ h3
    have h5 := endGo_shift ar (T ++ s) 1 0 p
    rw [h4] at h5
    rw [Nat.zero_add] at h5
    rw [show n + 1 = 1 + n from by omega, endGo_add, h5, arOf_neg h.1]
    simp only [Option.map_some, Option.bind_some]
    rw [show T.length + p - p = T.length from by omega, List.drop_left, show p + T.length = T.length + p from by omega]
    rfl
  · have e : one1 b x = [x] := by unfold one1; rw [if_neg h]
    rw [e, List.singleton_append, endGo_cons, if_pos hx]
    rfl
theorem endGo_app (ar : List Int) (b : List (List Int)) (hb : ∀ t ∈ b, okEmpty ar t = true) : ∀ (r : List Int) (n p q : Nat), endGo ar r n p = some (p + r.length) → endGo ar (appT b r) n q = some (q + (appT b r).length) := by
  intro r
  induction r with
  | nil =>
    intro n p q h
    cases n with
    | zero => rw [endGo_zero]; rfl
    | succ n => simp [endGo_nil] at h
  | cons x r ih =>
    intro n p q h
    cases n with
    | zero => rw [endGo_zero] at h; simp at h
    | succ n =>
      rw [endGo_cons] at h
      split at h
      · rename_i hx
        have := ih _ (p+1) (q + (one1 b x).length) (by rw [h]; simp; omega)
        show endGo ar (one1 b x ++ appT b r) (n+1) q = _
        rw [endGo_one1 ar b hb x hx, this]
        show _ = some (q + (one1 b x ++ appT b r).length)
        rw [List.length_append]; congr 1; omega
      · simp at h
theorem one1_pos (b : List (List Int)) (x : Int) : 0 < (one1 b x).length := by
  unfold one1; split
  · rename_i h; exact h.2
  · simp
theorem appT_pos (b : List (List Int)) (t : List Int) (h : 0 < t.length) : 0 < (appT b t).length := by
  cases t with
  | nil => simp at h
  | cons x r =>
    show 0 < (one1 b x ++ appT b r).length
    rw [List.length_append]; have := one1_pos b x; omega
theorem app_end {ar t : List Int} {b : List (List Int)} (hb : ∀ t ∈ b, okEmpty ar t = true) (ht : okTerm ar t = true) : endOf ar (appT b t) 0 = some (appT b t).length := by
  obtain ⟨h1, h2, h3⟩ := (okTerm_iff _ _).1 ht
  have := endGo_app ar b hb t 1 0 0 (by unfold endOf at h3; simpa using h3)
  unfold endOf; simpa using this
theorem app_ok {ar t : List Int} {b : List (List Int)} (hb : goodSubst ar b = true) (ht : okTerm ar t = true) : okTerm ar (appT b t) = app40ok b t := by
  obtain ⟨_, _, h3⟩ := goodSubst_iff.1 hb
  have he := app_end h3 ht
  have hp := appT_pos b t (by have := ((okTerm_iff _ _).1 ht).1; omega)
  rw [Bool.eq_iff_iff, okTerm_iff]
  simp [app40ok]
  constructor
  · rintro ⟨_, h, _⟩; exact h
  · intro h; exact ⟨by omega, h, he⟩
def applyOk (ar : List Int) (b : List (List Int)) (t : List Int) : Bool := goodSubst ar b && okTerm ar t && app40ok b t
def applyAns (ar : List Int) (b : List (List Int)) (t : List Int) : List Int := if applyOk ar b t then appT b t else []
theorem applyAns_no {ar t : List Int} {b : List (List Int)} (h : applyOk ar b t = false) : applyAns ar b t = [] := by simp [applyAns, h]
theorem applyAns_yes {ar t : List Int} {b : List (List Int)} (h : applyOk ar b t = true) : applyAns ar b t = appT b t := by simp [applyAns, h]
theorem applyAns_len (ar : List Int) (b : List (List Int)) (t : List Int) : (applyAns ar b t).length ≤ 1048576 := by
  unfold applyAns
  split
  · rename_i h; simp [applyOk, app40ok] at h; omega
  · simp
theorem applyAns_len40 (ar : List Int) (b : List (List Int)) (t : List Int) : (applyAns ar b t).length ≤ 40 := by
  unfold applyAns
  split
  · rename_i h; simp [applyOk, app40ok] at h; omega
  · simp
end Go.Proofs.Ytnldienjkejfcaa
end
section
/- Slices of ints compared: three functions of one shape. -/
namespace Go.Proofs.Ytnldienjkejfcaa
open Go.RowKit

end Go.Proofs.Ytnldienjkejfcaa
end
section
/- Apply, IsUnifier: both functions. -/
namespace Go.Proofs.Ytnldienjkejfcaa
open Go.RowKit

def unifAns (ar : List Int) (b : List (List Int)) (t r : List Int) : Bool := applyOk ar b t && applyOk ar b r && decide (applyAns ar b t = applyAns ar b r)

end Go.Proofs.Ytnldienjkejfcaa
end
