/- Renaming variables in the order in which they are met. No program. -/
import Derived.Test.YtnldienjkejfcaaTag
import Derived.Test.YtnldienjkejfcaaTerm
namespace Go.Proofs.Ytnldienjkejfcaa
open Go.RowKit

def stepM (met : List Int) (n : Int) : List Int := if n < 0 ∧ n ∉ met then met ++ [n] else met
def valM (met : List Int) (n : Int) : Int := if n < 0 then -1 - (met.idxOf n : Int) else n
def metT (met : List Int) (t : List Int) : List Int := t.foldl stepM met
def renT : List Int → List Int → List Int
  | _, [] => []
  | met, x :: r => valM (stepM met x) x :: renT (stepM met x) r
def metS (met : List Int) (l : List (List Int)) : List Int := l.foldl metT met
def renS : List Int → List (List Int) → List (List Int)
  | _, [] => []
  | met, t :: r => renT met t :: renS (metT met t) r

theorem renT_app (met a b : List Int) : renT met (a ++ b) = renT met a ++ renT (metT met a) b := by
  induction a generalizing met with
  | nil => rfl
  | cons x a ih => simp [renT, ih, metT]
theorem renS_app (met : List Int) (a b : List (List Int)) : renS met (a ++ b) = renS met a ++ renS (metS met a) b := by
  induction a generalizing met with
  | nil => rfl
  | cons x a ih => simp [renS, ih, metS]
theorem renT_len (met t : List Int) : (renT met t).length = t.length := by
  induction t generalizing met with
  | nil => rfl
  | cons x t ih => simp [renT, ih]
theorem renS_len (met : List Int) (l : List (List Int)) : (renS met l).length = l.length := by
  induction l generalizing met with
  | nil => rfl
  | cons x t ih => simp [renS, ih]
theorem metT_succ (met t : List Int) (k : Nat) (h : k < t.length) : metT met (t.take (k+1)) = stepM (metT met (t.take k)) (t.getD k 0) := by
  unfold metT
  rw [List.take_succ_eq_append_getElem h, List.foldl_append]
  simp [List.getD, h]
theorem renT_succ (met t : List Int) (k : Nat) (h : k < t.length) : renT met (t.take (k+1)) = renT met (t.take k) ++ [valM (stepM (metT met (t.take k)) (t.getD k 0)) (t.getD k 0)] := by
  rw [List.take_succ_eq_append_getElem h, renT_app]
  simp [renT, List.getD, h]
theorem metS_succ (met : List Int) (l : List (List Int)) (k : Nat) (h : k < l.length) : metS met (l.take (k+1)) = metT (metS met (l.take k)) (l.getD k []) := by
  unfold metS
  rw [List.take_succ_eq_append_getElem h, List.foldl_append]
  simp [List.getD, h]
theorem renS_succ (met : List Int) (l : List (List Int)) (k : Nat) (h : k < l.length) : renS met (l.take (k+1)) = renS met (l.take k) ++ [renT (metS met (l.take k)) (l.getD k [])] := by
  rw [List.take_succ_eq_append_getElem h, renS_app]
  simp [renS, List.getD, h]
/-- Those met are negative. -/
def negM (met : List Int) : Prop := ∀ x ∈ met, x < 0
theorem negM.step {met : List Int} (h : negM met) (n : Int) : negM (stepM met n) := by
  unfold stepM
  split
  · rename_i h1
    intro x hx
    rcases List.mem_append.1 hx with h2 | h2
    · exact h x h2
    · simp at h2; omega
  · exact h
theorem negM.metT {met : List Int} (h : negM met) (t : List Int) : negM (metT met t) := by
  unfold Go.Proofs.Ytnldienjkejfcaa.metT
  induction t generalizing met with
  | nil => exact h
  | cons x t ih => exact ih (h.step x)
theorem negM.metS {met : List Int} (h : negM met) (l : List (List Int)) : negM (metS met l) := by
  unfold Go.Proofs.Ytnldienjkejfcaa.metS
  induction l generalizing met with
  | nil => exact h
  | cons x t ih => exact ih (h.metT x)
theorem stepM_mem (met : List Int) (n : Int) (h : n < 0) : n ∈ stepM met n := by
  unfold stepM
  split
  · simp
  · rename_i h1
    exact Classical.byContradiction fun h2 => h1 ⟨h, h2⟩
theorem stepM_len (met : List Int) (n : Int) : (stepM met n).length ≤ met.length + 1 := by unfold stepM; split <;> simp
theorem metT_len (met t : List Int) : (metT met t).length ≤ met.length + t.length := by
  unfold metT
  induction t generalizing met with
  | nil => simp
  | cons x t ih =>
    have h1 := ih (stepM met x)
    have h2 := stepM_len met x
    simp only [List.foldl_cons, List.length_cons]
    omega
theorem metS_len {l : List (List Int)} (met : List Int) (h : ∀ t ∈ l, t.length ≤ 40) : (metS met l).length ≤ met.length + 40 * l.length := by
  unfold metS
  induction l generalizing met with
  | nil => simp
  | cons x t ih =>
    have h1 := ih (metT met x) (fun t ht => h t (List.mem_cons_of_mem _ ht))
    have h2 := metT_len met x
    have h3 := h x List.mem_cons_self
    simp only [List.foldl_cons, List.length_cons]
    omega
theorem stepM_new {met : List Int} {n : Int} (h : n < 0) (h2 : n ∉ met) : stepM met n = met ++ [n] := by unfold stepM; rw [if_pos ⟨h, h2⟩]
theorem stepM_old {met : List Int} {n : Int} (h2 : n ∈ met) : stepM met n = met := by unfold stepM; rw [if_neg (fun h => h.2 h2)]
theorem stepM_sym {met : List Int} {n : Int} (h2 : ¬ n < 0) : stepM met n = met := by unfold stepM; rw [if_neg (fun h => h2 h.1)]
theorem idx_first {M : List Int} {n : Int} {k : Nat} (hk : k < M.length) (he : M.getD k 0 = n) (hn : n ∉ M.take k) : M.idxOf n = k := by
  conv => lhs; rw [← List.take_append_drop k M]
  rw [List.idxOf_append, if_neg hn, List.drop_eq_getElem_cons hk]
  have : M[k] = n := by simpa [List.getD, hk] using he
  rw [this, List.idxOf_cons_self]
  simp; omega
theorem val_found {M : List Int} {n : Int} {k : Nat} (h : negM M) (hk : k < M.length) (he : M.getD k 0 = n) (hn : n ∉ M.take k) : valM M n = -1 - (k : Int) := by
  have h1 : n < 0 := by rw [← he]; exact h _ (by simp [List.getD, hk])
  unfold valM
  rw [if_pos h1, idx_first hk he hn]
theorem val_end {M : List Int} {n : Int} (h : n < 0 → n ∈ M) (hn : n ∉ M) : valM M n = n := by
  unfold valM
  rw [if_neg (fun h1 => hn (h h1))]
theorem not_take_succ {M : List Int} {n : Int} {k : Nat} (hk : k < M.length) (he : M.getD k 0 ≠ n) (hn : n ∉ M.take k) : n ∉ M.take (k+1) := by
  rw [List.take_succ_eq_append_getElem hk, List.mem_append, List.mem_singleton]
  rintro (h | h)
  · exact hn h
  · exact he (by simpa [List.getD, hk] using h.symm)

theorem tag_snoc {base tag t e w w1 v v'} {acc : List Int} {x : Int} (h : OwnT base tag t e w v (acc.map (Value.int .i64))) (hown : w1.ownsRow base e 1 v' ((acc.map (Value.int .i64)).length + 1) (acc.map (Value.int .i64) ++ [.int .i64 x])) (hg : w.grownBy w1 v.ownBlock) (hat : v'.ownBlock = v.ownBlock ∨ v'.ownBlock = some w.heap.size) :
    ∃ tag', OwnT base tag' t e w1 v' ((acc ++ [x]).map (Value.int .i64)) ∧ Tags base tag w tag' w1 t := tag_append h (by simpa using hown) hg hat
theorem tag_snocV {base tag t e w w1 v v' u} {us : List Value} (h : OwnT base tag t e w v us) (hown : w1.ownsRow base e 1 v' (us.length + 1) (us ++ [u])) (hg : w.grownBy w1 v.ownBlock) (hat : v'.ownBlock = v.ownBlock ∨ v'.ownBlock = some w.heap.size) :
    ∃ tag', OwnT base tag' t e w1 v' (us ++ [u]) ∧ Tags base tag w tag' w1 t := tag_append h (by simpa using hown) hg hat
theorem SlI.at {lo hi : Nat} {w : World} {ad : Option Addr} {n c : Nat} {xs : List Int} (h : SlI lo hi w (.slice ad n c) xs) (k : Nat) (hk : k < xs.length) :
    ∃ b off, ad = some ⟨b, off, none⟩ ∧ b < w.heap.size ∧ w.cell? ⟨b, off + k, none⟩ = some (.int .i64 (xs.getD k 0)) := by
  obtain ⟨ad', cap, e, _, _, hr⟩ := h
  obtain ⟨b, off, e2, _, _, hc⟩ := hr (by omega)
  simp only [Value.slice.injEq] at e
  exact ⟨b, off, e.1.trans e2, World.block_lt_of_cell? w ⟨b, off + k, none⟩ (hc k hk), hc k hk⟩
theorem OwnT.sl {base tag t e w v} {xs : List Int} (h : OwnT base tag t e w v (xs.map (Value.int .i64))) : SlI base w.heap.size w v xs := (OwnI.of_row (by simpa using h.1)).sl
theorem Bel.grownT {base tag t e w0 w v xs w' o} (hb : Bel w0 w) (h : OwnT base tag t e w v xs) (hbase : w0.heap.size ≤ base) (g : (w.alloc o).grownBy w' v.ownBlock) : Bel w0 w' :=
  (hb.alloc o).grown g (fun k hk => by have := own_base h.1 k hk; omega)
end Go.Proofs.Ytnldienjkejfcaa
