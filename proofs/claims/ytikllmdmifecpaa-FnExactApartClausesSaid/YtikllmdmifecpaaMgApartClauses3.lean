/- Texts merged, part 3. -/
import Derived.Maps.AppendAt
import Derived.Test.YtikllmdmifecpaaProg
import Derived.Laws.AppendOwnNone
import Derived.Lib.AppendZeros
import Derived.Test.YtikllmdmifecpaaMgApartClauses2
section
/- Several rows of the call's own, kept apart by a tag on each block. No program. -/
namespace Go.Proofs.Ytikllmdmifecpaa
open Go.RowKit

/-- v owns the elements xs; its block, if it has one, bears the tag t. -/
def OwnT (base : Nat) (tag : Nat → Nat) (t : Nat) (e : TypeId) (w : World) (v : Value) (xs : List Value) : Prop :=
  w.ownsRow base e 1 v xs.length xs ∧ ∀ g, v.ownBlock = some g → tag g = t
/-- All rows of other tags than t are as they were. -/
def Tags (base : Nat) (tag : Nat → Nat) (w : World) (tag' : Nat → Nat) (w' : World) (t : Nat) : Prop :=
  ∀ t' e u zs, t' ≠ t → OwnT base tag t' e w u zs → OwnT base tag' t' e w' u zs

theorem OwnT.lt {base tag t e w v xs} (h : OwnT base tag t e w v xs) {g : Nat} (hg : v.ownBlock = some g) : g < w.heap.size := by
  rcases h.1.2 with ⟨rfl, _⟩ | ⟨g', cap, cur, rfl, _, hh, _⟩
  · simp [Value.ownBlock] at hg
  · simp [Value.ownBlock] at hg; subst hg; exact (Array.getElem?_eq_some_iff.1 hh).1
theorem OwnT.bel {base tag t e w w' v xs} (h : OwnT base tag t e w v xs) (hb : Bel w w') : OwnT base tag t e w' v xs := ⟨ownsRow_bel h.1 hb, h.2⟩
theorem OwnT.alloc {base tag t e w v xs} (h : OwnT base tag t e w v xs) (o : Obj) : OwnT base tag t e (w.alloc o) v xs := h.bel (Bel.alloc0 w o)
theorem OwnT.nil (base : Nat) (tag : Nat → Nat) (t : Nat) (e : TypeId) (w : World) : OwnT base tag t e w (.slice none 0 0) [] := ⟨World.ownsRow_nil _ _ _ _, fun g h => by simp [Value.ownBlock] at h⟩
theorem Tags.of_bel {base tag w w' t} (hb : Bel w w') : Tags base tag w tag w' t := fun _ _ _ _ _ h => h.bel hb
theorem Tags.trans {base tag w tag1 w1 tag2 w2 t} (h : Tags base tag w tag1 w1 t) (k : Tags base tag1 w1 tag2 w2 t) : Tags base tag w tag2 w2 t := fun t' e u zs hn ho => k t' e u zs hn (h t' e u zs hn ho)

theorem tag_append {base tag t e w w1 v v' xs ys} (h : OwnT base tag t e w v xs) (hown : w1.ownsRow base e 1 v' ys.length ys) (hg : w.grownBy w1 v.ownBlock) (hat : v'.ownBlock = v.ownBlock ∨ v'.ownBlock = some w.heap.size) :
    ∃ tag', OwnT base tag' t e w1 v' ys ∧ Tags base tag w tag' w1 t := by
  refine ⟨fun g => if g = w.heap.size then t else tag g, ⟨hown, fun g hgb => ?_⟩, fun t' e' u zs hn ho => ⟨?_, fun g hgb => ?_⟩⟩
  · show (if g = w.heap.size then t else tag g) = t
    rcases hat with h1 | h1
    · rw [h1] at hgb
      have := h.lt hgb
      rw [if_neg (by omega)]; exact h.2 g hgb
    · rw [h1] at hgb; simp at hgb; rw [if_pos hgb.symm]
  · refine ho.1.kept hg ?_
    cases hu : u.ownBlock with
    | none => exact .inl rfl
    | some g =>
      right
      intro e1
      exact hn ((ho.2 g hu).symm.trans (h.2 g e1.symm))
  · show (if g = w.heap.size then t else tag g) = t'
    have := ho.lt hgb
    rw [if_neg (by omega)]; exact ho.2 g hgb
theorem row_mono {w : World} {base base' e n : Nat} {v : Value} {xs : List Value} (h : w.ownsRow base e 1 v n xs) (hb : base' ≤ base) : w.ownsRow base' e 1 v n xs := by
  refine ⟨h.1, ?_⟩
  rcases h.2 with h0 | ⟨g, cap, cur, e1, e2, r⟩
  · exact .inl h0
  · exact .inr ⟨g, cap, cur, e1, by omega, r⟩
theorem row_len {w : World} {base e n m c : Nat} {ad : Option Addr} {xs : List Value} (h : w.ownsRow base e 1 (.slice ad n c) m xs) : n = m := by
  rcases h.2 with ⟨e1, h0⟩ | ⟨g, cap, cur, e1, _⟩
  · simp at e1; omega
  · simp at e1; exact e1.2.1
theorem tag_new {base tag e w w1 v xs} (t : Nat) (hown : w1.ownsRow w.heap.size e 1 v xs.length xs) (hb : Bel w w1) (hbase : base ≤ w.heap.size) :
    ∃ tag', OwnT base tag' t e w1 v xs ∧ ∀ t' e' u zs, OwnT base tag t' e' w u zs → OwnT base tag' t' e' w1 u zs := by
  refine ⟨fun g => if w.heap.size ≤ g then t else tag g, ⟨row_mono hown hbase, fun g hg => ?_⟩, fun t' e' u zs ho => ⟨ownsRow_bel ho.1 hb, fun g hg => ?_⟩⟩
  · have := own_base hown g hg
    simp [this]
  · have := ho.lt hg
    show (if w.heap.size ≤ g then t else tag g) = t'
    rw [if_neg (by omega)]; exact ho.2 g hg
theorem tag_re {base tag t e w v xs} (t2 : Nat) (h : OwnT base tag t e w v xs) : ∃ tag', OwnT base tag' t2 e w v xs ∧ ∀ t' e' u zs, t' ≠ t → OwnT base tag t' e' w u zs → OwnT base tag' t' e' w u zs := by
  refine ⟨fun g => if v.ownBlock = some g then t2 else tag g, ⟨h.1, fun g hg => by simp [hg]⟩, fun t' e' u zs hn ho => ⟨ho.1, fun g hg => ?_⟩⟩
  show (if v.ownBlock = some g then t2 else tag g) = t'
  rw [if_neg (fun e1 => hn ((ho.2 g hg).symm.trans (h.2 g e1)))]
  exact ho.2 g hg
theorem tag_store {base tag t e w g n cap xs} (h : OwnT base tag t e w (.slice (some ⟨g, 0, none⟩) n cap) xs) (j : Nat) (u : Value) :
    OwnT base tag t e (w.setCell ⟨g, j, none⟩ u) (.slice (some ⟨g, 0, none⟩) n cap) (xs.set j u) ∧ Tags base tag w tag (w.setCell ⟨g, j, none⟩ u) t := by
  have hl := row_len h.1
  subst hl
  have hst := h.1.stored j u
  refine ⟨⟨by rw [List.length_set]; exact hst.1, h.2⟩, fun t' e' u' zs hn ho => ⟨ho.1.kept hst.2 ?_, ho.2⟩⟩
  cases hu : u'.ownBlock with
  | none => exact .inl rfl
  | some g' =>
    right
    intro e1
    exact hn ((ho.2 g' hu).symm.trans (h.2 g' e1.symm))
/-- A store into a block of lower number: all rows stay. -/
theorem Tags.low {base tag w t} {p : Addr} (hp : p.block < base) (u : Value) : ∀ e v xs, OwnT base tag t e w v xs → OwnT base tag t e (w.setCell p u) v xs := by
  intro e v xs h
  refine ⟨⟨h.1.1, ?_⟩, h.2⟩
  rcases h.1.2 with h0 | ⟨g, cap, cur, e1, e2, hh, r⟩
  · exact .inl h0
  · exact .inr ⟨g, cap, cur, e1, e2, by rw [Below.heap_setCell w p u g (by omega)]; exact hh, r⟩

theorem row_oneCell {w : World} {base e : Nat} {v : Value} {xs : List Int} (h : w.ownsRow base e 1 v xs.length (xs.map (Value.int .i64))) {n c : Nat} {a : Addr} (hv : v = .slice (some a) n c) (hp : 0 < xs.length) : OwnI a.block (a.block + 1) w v xs := by
  have ho := OwnI.of_row h
  obtain ⟨⟨ad, cap, e1, hc, hm, hr⟩, hf⟩ := ho
  obtain ⟨b, off, e2, h1, h2, h3⟩ := hr hp
  have e3 : some a = some ⟨b, off, none⟩ := by rw [hv] at e1; simp only [Value.slice.injEq] at e1; rw [e1.1, e2]
  simp only [Option.some.injEq] at e3
  subst e3
  exact ⟨⟨ad, cap, e1, hc, hm, fun _ => ⟨b, off, e2, Nat.le_refl _, Nat.lt_succ_self _, h3⟩⟩, hf⟩
/-- The rows of the elements. -/
def InT (base : Nat) (tag : Nat → Nat) (ei : TypeId) (w : World) (us : List Value) (xss : List (List Int)) : Prop :=
  us.length = xss.length ∧ ∀ j u, us[j]? = some u → OwnT base tag (10 + j) ei w u ((xss.getD j []).map (Value.int .i64))
theorem InT.step {base tag ei w tag' w' us xss t} (h : InT base tag ei w us xss) (ht : t < 10) (k : Tags base tag w tag' w' t) : InT base tag' ei w' us xss := ⟨h.1, fun j u hj => k _ _ _ _ (by omega) (h.2 j u hj)⟩
theorem InT.all {base tag ei w tag' w' us xss} (h : InT base tag ei w us xss) (k : ∀ t' e' u zs, OwnT base tag t' e' w u zs → OwnT base tag' t' e' w' u zs) : InT base tag' ei w' us xss := ⟨h.1, fun j u hj => k _ _ _ _ (h.2 j u hj)⟩
theorem InT.nil (base : Nat) (tag : Nat → Nat) (ei : TypeId) (w : World) : InT base tag ei w [] [] := ⟨rfl, fun j u h => by simp at h⟩
theorem InT.bel {base tag ei w w' us xss} (h : InT base tag ei w us xss) (hb : Bel w w') : InT base tag ei w' us xss := ⟨h.1, fun j u hj => (h.2 j u hj).bel hb⟩
/-- A row of tag t becomes the next element. -/
theorem InT.snoc {base tag ei w us xss t v} {xs : List Int} (h : InT base tag ei w us xss) (ho : OwnT base tag t ei w v (xs.map (Value.int .i64))) (ht : t < 10) :
    ∃ tag', InT base tag' ei w (us ++ [v]) (xss ++ [xs]) ∧ ∀ t' e' u zs, t' ≠ t → OwnT base tag t' e' w u zs → OwnT base tag' t' e' w u zs := by
  obtain ⟨tag', h1, h2⟩ := tag_re (10 + us.length) ho
  refine ⟨tag', ⟨by simp [h.1], fun j u hj => ?_⟩, h2⟩
  by_cases e : j < us.length
  · rw [List.getElem?_append_left e] at hj
    have := h2 _ _ _ _ (by omega) (h.2 j u hj)
    rwa [show (xss ++ [xs]).getD j [] = xss.getD j [] from by simp [List.getD, List.getElem?_append_left (show j < xss.length by rw [← h.1]; exact e)]]
  · have hlt := (List.getElem?_eq_some_iff.1 hj).1
    simp at hlt
    obtain rfl : j = us.length := by omega
    rw [List.getElem?_append_right (Nat.le_refl _), Nat.sub_self] at hj
    simp at hj
    subst hj
    rwa [show (xss ++ [xs]).getD us.length [] = xs from by rw [h.1]; simp [List.getD]]
theorem OwnS.of_tag {base tag eo ei w v us xss t} (ho : OwnT base tag t eo w v us) (hi : InT base tag ei w us xss) (ht : t < 10) : OwnS base w.heap.size w v xss := by
  have h1 := ho.1
  rw [hi.1] at h1
  have hblk : ∀ j u, us[j]? = some u → 0 < (xss.getD j []).length → ∃ a n c, u = .slice (some a) n c ∧ u.ownBlock = some a.block ∧ base ≤ a.block ∧ a.block < w.heap.size ∧ tag a.block = 10 + j := by
    intro j u hj hp
    have hx := hi.2 j u hj
    rcases hx.1.2 with ⟨rfl, h0⟩ | ⟨g, cap, cur, rfl, hb, hh, _⟩
    · rw [List.length_map] at h0; omega
    · have hb2 : (Value.slice (some ⟨g, 0, none⟩) ((xss.getD j []).map (Value.int .i64)).length cap).ownBlock = some g := rfl
      exact ⟨⟨g, 0, none⟩, _, cap, rfl, hb2, hb, hx.lt hb2, hx.2 g hb2⟩
  let bs : Nat → Nat := fun j => match us[j]? with | some (.slice (some a) _ _) => a.block | _ => 0
  have hbs : ∀ j u, us[j]? = some u → 0 < (xss.getD j []).length → base ≤ bs j ∧ bs j < w.heap.size ∧ tag (bs j) = 10 + j := by
    intro j u hj hp
    obtain ⟨a, n, c, rfl, _, b1, b2, b3⟩ := hblk j u hj hp
    have : bs j = a.block := by simp only [bs, hj]
    rw [this]; exact ⟨b1, b2, b3⟩
  refine OwnS.of_row (bs := bs) h1 (Nat.le_refl _) fun g hg => ⟨hi.1, fun j hj hp => ?_, fun i j hij hj hpi hpj => ?_, fun j u hj => ?_⟩
  · obtain ⟨u, hu⟩ : ∃ u, us[j]? = some u := ⟨_, List.getElem?_eq_getElem (by rw [hi.1]; exact hj)⟩
    obtain ⟨a1, a2, a3⟩ := hbs j u hu hp
    refine ⟨a1, a2, fun e => ?_⟩
    have := ho.2 g hg
    rw [e] at a3
    omega
  · obtain ⟨u, hu⟩ : ∃ u, us[i]? = some u := ⟨_, List.getElem?_eq_getElem (by rw [hi.1]; omega)⟩
    obtain ⟨u2, hu2⟩ : ∃ u, us[j]? = some u := ⟨_, List.getElem?_eq_getElem (by rw [hi.1]; exact hj)⟩
    obtain ⟨_, _, a3⟩ := hbs i u hu hpi
    obtain ⟨_, _, b3⟩ := hbs j u2 hu2 hpj
    intro e
    rw [e] at a3
    omega
  · have hx := hi.2 j u hj
    by_cases hp : 0 < (xss.getD j []).length
    · obtain ⟨a, n, c, rfl, _, b1, b2, b3⟩ := hblk j u hj hp
      have : bs j = a.block := by simp only [bs, hj]
      rw [this]
      exact row_oneCell (by simpa using hx.1) rfl hp
    · have h0 := len0 hp
      rw [h0] at hx ⊢
      have := OwnI.of_row (xs := []) (by simpa using hx.1)
      exact this.empty
end Go.Proofs.Ytikllmdmifecpaa
end
section
/- Renaming variables in the order in which they are met. No program. -/
namespace Go.Proofs.Ytikllmdmifecpaa
open Go.RowKit

def stepM (met : List Int) (n : Int) : List Int := if n < 0 ∧ n ∉ met then met ++ [n] else met
def valM (met : List Int) (n : Int) : Int := if n < 0 then -1 - (met.idxOf n : Int) else n
def metT (met : List Int) (t : List Int) : List Int := t.foldl stepM met
def renT : List Int → List Int → List Int
  | _, [] => []
  | met, x :: r => valM (stepM met x) x :: renT (stepM met x) r
def metS (met : List Int) (l : List (List Int)) : List Int := l.foldl metT met
def renS : List Int → List (List Int) → List (List Int)
  | _, [] => []
  | met, t :: r => renT met t :: renS (metT met t) r

theorem renT_app (met a b : List Int) : renT met (a ++ b) = renT met a ++ renT (metT met a) b := by
  induction a generalizing met with
  | nil => rfl
  | cons x a ih => simp [renT, ih, metT]
theorem renS_app (met : List Int) (a b : List (List Int)) : renS met (a ++ b) = renS met a ++ renS (metS met a) b := by
  induction a generalizing met with
  | nil => rfl
  | cons x a ih => simp [renS, ih, metS]
theorem renT_len (met t : List Int) : (renT met t).length = t.length := by
  induction t generalizing met with
  | nil => rfl
  | cons x t ih => simp [renT, ih]
theorem renS_len (met : List Int) (l : List (List Int)) : (renS met l).length = l.length := by
  induction l generalizing met with
  | nil => rfl
  | cons x t ih => simp [renS, ih]
theorem metT_succ (met t : List Int) (k : Nat) (h : k < t.length) : metT met (t.take (k+1)) = stepM (metT met (t.take k)) (t.getD k 0) := by
  unfold metT
  rw [List.take_succ_eq_append_getElem h, List.foldl_append]
  simp [List.getD, h]
theorem renT_succ (met t : List Int) (k : Nat) (h : k < t.length) : renT met (t.take (k+1)) = renT met (t.take k) ++ [valM (stepM (metT met (t.take k)) (t.getD k 0)) (t.getD k 0)] := by
  rw [List.take_succ_eq_append_getElem h, renT_app]
  simp [renT, List.getD, h]
theorem metS_succ (met : List Int) (l : List (List Int)) (k : Nat) (h : k < l.length) : metS met (l.take (k+1)) = metT (metS met (l.take k)) (l.getD k []) := by
  unfold metS
  rw [List.take_succ_eq_append_getElem h, List.foldl_append]
  simp [List.getD, h]
theorem renS_succ (met : List Int) (l : List (List Int)) (k : Nat) (h : k < l.length) : renS met (l.take (k+1)) = renS met (l.take k) ++ [renT (metS met (l.take k)) (l.getD k [])] := by
  rw [List.take_succ_eq_append_getElem h, renS_app]
  simp [renS, List.getD, h]
/-- Those met are negative. -/
def negM (met : List Int) : Prop := ∀ x ∈ met, x < 0
theorem negM.step {met : List Int} (h : negM met) (n : Int) : negM (stepM met n) := by
  unfold stepM
  split
  · rename_i h1
    intro x hx
    rcases List.mem_append.1 hx with h2 | h2
    · exact h x h2
    · simp at h2; omega
  · exact h
theorem negM.metT {met : List Int} (h : negM met) (t : List Int) : negM (metT met t) := by
  unfold Go.Proofs.Ytikllmdmifecpaa.metT
  induction t generalizing met with
  | nil => exact h
  | cons x t ih => exact ih (h.step x)
theorem negM.metS {met : List Int} (h : negM met) (l : List (List Int)) : negM (metS met l) := by
  unfold Go.Proofs.Ytikllmdmifecpaa.metS
  induction l generalizing met with
  | nil => exact h
  | cons x t ih => exact ih (h.metT x)
theorem stepM_mem (met : List Int) (n : Int) (h : n < 0) : n ∈ stepM met n := by
  unfold stepM
  split
  · simp
  · rename_i h1
    exact Classical.byContradiction fun h2 => h1 ⟨h, h2⟩
theorem stepM_len (met : List Int) (n : Int) : (stepM met n).length ≤ met.length + 1 := by unfold stepM; split <;> simp
theorem metT_len (met t : List Int) : (metT met t).length ≤ met.length + t.length := by
  unfold metT
  induction t generalizing met with
  | nil => simp
  | cons x t ih =>
    have h1 := ih (stepM met x)
    have h2 := stepM_len met x
    simp only [List.foldl_cons, List.length_cons]
    omega
theorem metS_len {l : List (List Int)} (met : List Int) (h : ∀ t ∈ l, t.length ≤ 40) : (metS met l).length ≤ met.length + 40 * l.length := by
  unfold metS
  induction l generalizing met with
  | nil => simp
  | cons x t ih =>
    have h1 := ih (metT met x) (fun t ht => h t (List.mem_cons_of_mem _ ht))
    have h2 := metT_len met x
    have h3 := h x List.mem_cons_self
    simp only [List.foldl_cons, List.length_cons]
    omega
theorem stepM_new {met : List Int} {n : Int} (h : n < 0) (h2 : n ∉ met) : stepM met n = met ++ [n] := by unfold stepM; rw [if_pos ⟨h, h2⟩]
theorem stepM_old {met : List Int} {n : Int} (h2 : n ∈ met) : stepM met n = met := by unfold stepM; rw [if_neg (fun h => h.2 h2)]
theorem stepM_sym {met : List Int} {n : Int} (h2 : ¬ n < 0) : stepM met n = met := by unfold stepM; rw [if_neg (fun h => h2 h.1)]
theorem idx_first {M : List Int} {n : Int} {k : Nat} (hk : k < M.length) (he : M.getD k 0 = n) (hn : n ∉ M.take k) : M.idxOf n = k := by
  conv => lhs; rw [← List.take_append_drop k M]
  rw [List.idxOf_append, if_neg hn, List.drop_eq_getElem_cons hk]
  have : M[k] = n := by simpa [List.getD, hk] using he
  rw [this, List.idxOf_cons_self]
  simp; omega
theorem val_found {M : List Int} {n : Int} {k : Nat} (h : negM M) (hk : k < M.length) (he : M.getD k 0 = n) (hn : n ∉ M.take k) : valM M n = -1 - (k : Int) := by
  have h1 : n < 0 := by rw [← he]; exact h _ (by simp [List.getD, hk])
  unfold valM
  rw [if_pos h1, idx_first hk he hn]
theorem val_end {M : List Int} {n : Int} (h : n < 0 → n ∈ M) (hn : n ∉ M) : valM M n = n := by
  unfold valM
  rw [if_neg (fun h1 => hn (h h1))]
theorem not_take_succ {M : List Int} {n : Int} {k : Nat} (hk : k < M.length) (he : M.getD k 0 ≠ n) (hn : n ∉ M.take k) : n ∉ M.take (k+1) := by
  rw [List.take_succ_eq_append_getElem hk, List.mem_append, List.mem_singleton]
  rintro (h | h)
  · exact hn h
  · exact he (by simpa [List.getD, hk] using h.symm)

theorem tag_snoc {base tag t e w w1 v v'} {acc : List Int} {x : Int} (h : OwnT base tag t e w v (acc.map (Value.int .i64))) (hown : w1.ownsRow base e 1 v' ((acc.map (Value.int .i64)).length + 1) (acc.map (Value.int .i64) ++ [.int .i64 x])) (hg : w.grownBy w1 v.ownBlock) (hat : v'.ownBlock = v.ownBlock ∨ v'.ownBlock = some w.heap.size) :
    ∃ tag', OwnT base tag' t e w1 v' ((acc ++ [x]).map (Value.int .i64)) ∧ Tags base tag w tag' w1 t := tag_append h (by simpa using hown) hg hat
theorem tag_snocV {base tag t e w w1 v v' u} {us : List Value} (h : OwnT base tag t e w v us) (hown : w1.ownsRow base e 1 v' (us.length + 1) (us ++ [u])) (hg : w.grownBy w1 v.ownBlock) (hat : v'.ownBlock = v.ownBlock ∨ v'.ownBlock = some w.heap.size) :
    ∃ tag', OwnT base tag' t e w1 v' (us ++ [u]) ∧ Tags base tag w tag' w1 t := tag_append h (by simpa using hown) hg hat
theorem SlI.at {lo hi : Nat} {w : World} {ad : Option Addr} {n c : Nat} {xs : List Int} (h : SlI lo hi w (.slice ad n c) xs) (k : Nat) (hk : k < xs.length) :
    ∃ b off, ad = some ⟨b, off, none⟩ ∧ b < w.heap.size ∧ w.cell? ⟨b, off + k, none⟩ = some (.int .i64 (xs.getD k 0)) := by
  obtain ⟨ad', cap, e, _, _, hr⟩ := h
  obtain ⟨b, off, e2, _, _, hc⟩ := hr (by omega)
  simp only [Value.slice.injEq] at e
  exact ⟨b, off, e.1.trans e2, World.block_lt_of_cell? w ⟨b, off + k, none⟩ (hc k hk), hc k hk⟩
theorem OwnT.sl {base tag t e w v} {xs : List Int} (h : OwnT base tag t e w v (xs.map (Value.int .i64))) : SlI base w.heap.size w v xs := (OwnI.of_row (by simpa using h.1)).sl
theorem Bel.grownT {base tag t e w0 w v xs w' o} (hb : Bel w0 w) (h : OwnT base tag t e w v xs) (hbase : w0.heap.size ≤ base) (g : (w.alloc o).grownBy w' v.ownBlock) : Bel w0 w' :=
  (hb.alloc o).grown g (fun k hk => by have := own_base h.1 k hk; omega)
end Go.Proofs.Ytikllmdmifecpaa
end
section
/- The laws' own helpers, by contracts: sizes, copies, comparisons, marks over slices of ints and a signature. -/
namespace Go.Proofs.Ytikllmdmifecpaa
open Go.RowKit



def szI (n left : Int) : Int := if left - n < 0 then -1 else left - n

theorem szIntS_c (l h : Nat) (v : Value) (xs : List Int) (left : Int) (w : World) (hx : xs.length ≤ 9223372036854775807) (h0 : 0 ≤ left) (h1 : left ≤ 1048576) (hv : SlI l h w v xs) :
    Calls Try.prog 70 #[v, .int .i64 left] w (RetV w (.int .i64 (szI xs.length left))) := by
  obtain ⟨ad, cap, rfl, -, -, hr⟩ := hv
  by_cases hs : left - xs.length < 0
  · have E : Hid (szI xs.length left = -1) := by show szI _ _ = _; simp [szI, hs]
    go_enter Try.func70, Try.ntmps70
    go_wp2_with fail
    go_ret
    exact ⟨by rw [E.out]; rfl, Bel.rfl' _⟩
  · have E : Hid (szI xs.length left = left - xs.length) := by show szI _ _ = _; simp [szI, hs]
    go_enter Try.func70, Try.ntmps70
    go_wp2_with fail
    go_ret
    exact ⟨by rw [E.out]; rfl, Bel.rfl' _⟩

theorem szSign_c (l h : Nat) (v : Value) (xs : List Int) (left : Int) (w : World) (hx : xs.length ≤ 9223372036854775807) (h0 : 0 ≤ left) (h1 : left ≤ 1048576) (hv : SlI l h w v xs) :
    Calls Try.prog 9 #[.agg #[v], .int .i64 left] w (RetV w (.int .i64 (szI xs.length left))) := by
  by_cases hs : szI xs.length left < 0
  · have E : Hid (szI xs.length left = -1) := by show szI _ _ = _; revert hs; unfold szI; split <;> omega
    have hl := szIntS_c l h v xs left (w.alloc (.cells #[v] 24)) hx h0 h1 (hv.below (Bel.alloc0 _ _))
    have HL := Lib.hid hl; clear hl
    rw [E.out] at HL
    rw [E.out]
    clear hs
    go_enter Try.func9, Try.ntmps9
    go_wp2_with (go_at_call 70; refine HL.out.mono ?_; rintro e w' ⟨rfl, hb1⟩)
    go_ret
    exact ⟨rfl, hb1.of_alloc⟩
  · have hl := szIntS_c l h v xs left (w.alloc (.cells #[v] 24)) hx h0 h1 (hv.below (Bel.alloc0 _ _))
    have HL := Lib.hid hl; clear hl
    generalize szI xs.length left = r at *
    go_enter Try.func9, Try.ntmps9
    go_wp2_with (go_at_call 70; refine HL.out.mono ?_; rintro e w' ⟨rfl, hb1⟩)
    go_ret
    exact ⟨rfl, hb1.of_alloc⟩

theorem Try.info3 : (Try.prog.info? 3).map (fun i => (i.zero, i.size, i.bytes)) = some (some (.int .i64 0), 1, 8) := by kernel_rfl

def madeI (xs : List Int) (k : Nat) : List Int := xs.take k ++ List.replicate (xs.length - k) 0


theorem madeI_0 (xs : List Int) : (madeCells (Value.int .i64 0).cells (xs.length * 1)).toList = (madeI xs 0).map (Value.int .i64) := by
  rw [Nat.mul_one]; show (madeCells #[_] _).toList = _; rw [toList_madeCells_one]; simp [madeI]
theorem madeI_all (xs : List Int) (k : Nat) (h : ¬ k < xs.length) : madeI xs k = xs := by
  unfold madeI; rw [show xs.length - k = 0 from by omega, List.take_of_length_le (by omega)]; simp
theorem madeI_len (xs : List Int) (k : Nat) (h : k ≤ xs.length) : (madeI xs k).length = xs.length := by simp [madeI]; omega
theorem madeI_get (xs : List Int) (k i : Nat) (h : k ≤ xs.length) : (madeI xs k)[i]? = if i < k then xs[i]? else if i < xs.length then some 0 else none := by
  unfold madeI
  simp only [List.getElem?_append, List.getElem?_take, List.getElem?_replicate, List.length_take]
  grind
theorem madeI_set (xs : List Int) (k : Nat) (h : k < xs.length) : (madeI xs k).set k (xs.getD k 0) = madeI xs (k+1) := by
  apply List.ext_getElem?
  intro i
  rw [List.getElem?_set, madeI_get _ _ _ (by omega), madeI_get _ _ _ (by omega)]
  have : (madeI xs k).length = xs.length := by simp [madeI]; omega
  rw [this]
  by_cases e : k = i
  · subst e; simp [h, List.getD]
  · simp only [e, if_false]
    by_cases h1 : i < k
    · simp [h1, show i < k + 1 from by omega]
    · simp [h1, show ¬ i < k + 1 from by omega]
theorem madeI_succ (xs : List Int) (k : Nat) (h : k < xs.length) : ((madeI xs k).map (Value.int .i64)).set k (.int .i64 (xs.getD k 0)) = (madeI xs (k+1)).map (Value.int .i64) := by
  rw [← List.map_set, madeI_set xs k h]

set_option maxRecDepth 100000 in
theorem toIntS_c (l h : Nat) (v : Value) (xs : List Int) (w : World) (hx : xs.length ≤ 1048576) (hv : SlI l h w v xs) :
    Calls Try.prog 12 #[v] w (RetI w xs) := by
  obtain ⟨ad, cap, rfl, -, -, hr⟩ := hv
  obtain ⟨i0, hi, hz0, hz1, hz2⟩ := info_parts Try.info3
  go_enter Try.func12, Try.ntmps12
  go_wp2_with (at_make; refine wpList_make_full _ rfl _ _ 22 rfl w.heap.size 3 i0 (.int .i64 0) 1 Try.underlying22 hi hz0 hz1 _ _ _ _ xs.length rfl rfl rfl rfl (by rw [hz2]; omega) (by unfold maxLen; omega) (Nat.le_refl _) ?_; intro w1 hown hg)
  rw [madeI_0] at hown
  have hb0 : Bel w w1 := (Bel.rfl' w).grown hg (by simp)
  clear hg
  go_loopw [4] (fun i wr => ∃ k : Nat, k ≤ xs.length ∧ i = .int .i64 k ∧ wr.ownsRow w.heap.size 3 1 (.slice (some ⟨w.heap.size, 0, none⟩) xs.length xs.length) xs.length ((madeI xs k).map (Value.int .i64)) ∧ Bel w wr) (fun i _ => xs.length - (intOf i).toNat)
  case atStart => exact ⟨0, Nat.zero_le _, rfl, hown, hb0⟩
  case round =>
    obtain ⟨k, hk, rfl, ho, hb⟩ := hrel
    by_cases hlt : k < xs.length
    · obtain ⟨b, off, rfl, hbs, hcell⟩ := rd hr hb k hlt
      obtain ⟨y, hc2⟩ := own_cell ho k (by rw [madeI_len xs k hk]; exact hlt)
      have hst := ho.stored k (.int .i64 (xs.getD k 0))
      rw [madeI_succ xs k hlt] at hst
      have hf2 := ho.frozenAt k
      have hb2 := hb.setCell (p := ⟨w.heap.size, k, none⟩) (Nat.le_refl _) (.int .i64 (xs.getD k 0))
      clear hr hown ho hb0
      generalize xs.getD k 0 = x at *
      go_wp2_with fail
      go_roundw
      case rel => exact ⟨k+1, by omega, by go_num, hst.1, hb2⟩
      case measure => simp [intOf]; omega
    · rw [madeI_all xs k hlt] at ho
      go_wp2_with fail
      go_ret
      exact ⟨_, _, _, rfl, OwnI.of_row ho, hb⟩


theorem toSign_c (l h : Nat) (v : Value) (xs : List Int) (w : World) (hx : xs.length ≤ 1048576) (hv : SlI l h w v xs) :
    Calls Try.prog 11 #[.agg #[v]] w (RetS w xs) := by
  go_enter Try.func11, Try.ntmps11
  go_wp2_with (go_at_call 12; refine (toIntS_c l h v xs _ hx (hv.below (Bel.alloc3 _ _ _ _))).mono ?_; rintro e w' ⟨ad', n', c', rfl, hv', hb⟩; have c1 := (hb.cell (p := ⟨w.heap.size+1+1, 0, none⟩) (by simp)).trans (by simp [go_sem]; rfl); have c2 := (hb.frozen (p := ⟨w.heap.size+1+1, 0, none⟩) (by simp)).trans (by simp [go_sem]; rfl); have c3 := (hb.cell (p := ⟨w.heap.size+1, 0, none⟩) (by simp)).trans (by simp [go_sem]; rfl); have c4 := (hb.frozen (p := ⟨w.heap.size+1, 0, none⟩) (by simp)).trans (by simp [go_sem]; rfl))
  have hs := hb.size
  simp only [World.size_alloc] at hs hv'
  refine bodyPost_ret (v := .agg #[.slice ad' n' c']) (by simp [results, Try.results11, go_sem, c3]) rfl ⟨_, _, _, rfl, ?_, ?_⟩
  · simp only [World.size_setCell]
    exact ((hv'.set (.inl (by simp)) _).set (.inl (by simp)) _).mono (by omega) (Nat.le_refl _)
  · exact (((Bel.alloc3 w _ _ _).step hb).set (by simp; omega) _).set (by simp) _

theorem take_ne (xs ys : List Int) (k : Nat) (_ : k < xs.length) (h2 : k < ys.length) (h : xs.getD k 0 ≠ ys.getD k 0) : xs ≠ ys := by rintro rfl; exact h rfl
theorem take_eq_succ (xs ys : List Int) (k : Nat) (h1 : k < xs.length) (h2 : k < ys.length) (h : xs.take k = ys.take k) (e : xs.getD k 0 = ys.getD k 0) : xs.take (k+1) = ys.take (k+1) := by
  rw [List.take_succ_eq_append_getElem h1, List.take_succ_eq_append_getElem h2, h]
  simp [List.getD, h1, h2] at e
  rw [e]

theorem eqIntS_c (l h l' h' : Nat) (v u : Value) (xs ys : List Int) (w : World) (hx : xs.length ≤ 1048576) (hy : ys.length ≤ 1048576) (hv : SlI l h w v xs) (hu : SlI l' h' w u ys) :
    Calls Try.prog 16 #[v, u] w (RetV w (.bool (decide (xs = ys)))) := by
  obtain ⟨ad, cap, rfl, -, -, hr⟩ := hv
  obtain ⟨ad', cap', rfl, -, -, hr'⟩ := hu
  by_cases hl : (xs.length : Int) = ys.length
  · have hl1 : xs.length = ys.length := by omega
    have hl' : ((xs.length : Int) != ys.length) = false := by simpa using hl
    have HL := Lib.hid hl1
    clear hl hl1
    go_enter Try.func16, Try.ntmps16
    go_wp2_with fail
    go_loopw [5] (fun i wr => ∃ k : Nat, k ≤ xs.length ∧ i = .int .i64 k ∧ xs.take k = ys.take k ∧ Bel w wr) (fun i _ => xs.length - (intOf i).toNat)
    case atStart => exact ⟨0, Nat.zero_le _, rfl, rfl, Bel.rfl' _⟩
    case round =>
      obtain ⟨k, hk, rfl, ha, hb⟩ := hrel
      by_cases hlt : k < xs.length
      · have hlt2 : k < ys.length := by rw [← HL.out]; exact hlt
        obtain ⟨b, off, rfl, -, hcell⟩ := rd hr hb k hlt
        obtain ⟨b', off', rfl, -, hcell'⟩ := rd hr' hb k hlt2
        have E1 := Lib.hid (take_eq_succ xs ys k hlt hlt2 ha)
        have E2 := Lib.hid (take_ne xs ys k)
        clear hr hr' ha
        generalize xs.getD k 0 = x at *
        generalize ys.getD k 0 = y at *
        by_cases hxy : x = y
        · have E3 := Lib.hid (E1.out hxy)
          clear E1 E2
          subst hxy
          go_wp2_with fail
          go_quiet (fail)
          go_wp2
          go_roundw
          case rel => exact ⟨k+1, by omega, by go_num, E3.out, hb.drewN _⟩
          case measure => simp [intOf]; omega
        · have e1 : Hid (decide (xs = ys) = false) := by show decide (xs = ys) = false; simpa using E2.out hlt hlt2 hxy
          have hxy' : (x != y) = true := by simpa using hxy
          clear hxy
          go_wp2_with fail
          go_quiet (fail)
          go_wp2
          go_ret
          exact ⟨by rw [e1.out]; rfl, hb.drewN _⟩
      · have HA := Lib.hid ha; clear ha
        have e1 : Hid (decide (xs = ys) = true) := by
          show decide (xs = ys) = true
          have h1 := HA.out
          rw [List.take_of_length_le (by omega), List.take_of_length_le (by rw [← HL.out]; omega)] at h1
          simpa using h1
        go_wp2_with fail
        go_ret
        exact ⟨by rw [e1.out]; rfl, hb⟩
  · have e1 : Hid (decide (xs = ys) = false) := by show decide (xs = ys) = false; simp; rintro rfl; exact hl rfl
    have hl' : ((xs.length : Int) != ys.length) = true := by simpa using hl
    clear hl
    go_enter Try.func16, Try.ntmps16
    go_wp2_with fail
    go_ret
    exact ⟨by rw [e1.out]; rfl, Bel.rfl' _⟩


theorem eqIntS_same (l h l' h' : Nat) (v u : Value) (xs : List Int) (w : World) (hx : xs.length ≤ 1048576) (hv : SlI l h w v xs) (hu : SlI l' h' w u xs) :
    Calls Try.prog 16 #[v, u] w (RetV w (.bool true)) := by
  have := eqIntS_c l h l' h' v u xs xs w hx hx hv hu
  simpa using this

theorem eqSign_c (l h l' h' : Nat) (v u : Value) (xs ys : List Int) (w : World) (hx : xs.length ≤ 1048576) (hy : ys.length ≤ 1048576) (hv : SlI l h w v xs) (hu : SlI l' h' w u ys) :
    Calls Try.prog 15 #[.agg #[v], .agg #[u]] w (RetV w (.bool (decide (xs = ys)))) := by
  have hc := eqIntS_c l h l' h' v u xs ys ((w.alloc (.cells #[v] 29)).alloc (.cells #[u] 29)) hx hy (hv.below (Bel.alloc2 _ _ _)) (hu.below (Bel.alloc2 _ _ _))
  generalize decide (xs = ys) = r at *
  cases r
  all_goals
    have HC := Lib.hid hc; clear hc
    go_enter Try.func15, Try.ntmps15
    go_wp2_with (go_at_call 16; refine HC.out.mono ?_; rintro e w' ⟨rfl, hb⟩)
    go_ret
    exact ⟨rfl, (Bel.alloc2 w _ _).step hb⟩

theorem eqSign_same (l h l' h' : Nat) (v u : Value) (xs : List Int) (w : World) (hx : xs.length ≤ 1048576) (hv : SlI l h w v xs) (hu : SlI l' h' w u xs) :
    Calls Try.prog 15 #[.agg #[v], .agg #[u]] w (RetV w (.bool true)) := by
  have := eqSign_c l h l' h' v u xs xs w hx hx hv hu
  simpa using this


/-- Marking: the returned count, and what may have turned. -/
def RetM (lo hi : Nat) (w : World) (v : Value) (xs : List Int) (k : Nat) (e : Ending) (w' : World) : Prop := e = .returned (.int .i64 ((k + xs.length : Nat) : Int)) ∧ Chg lo hi w w' ∧ OwnI lo hi w' v (marks k xs.length)

theorem markIntS_c (lo hi : Nat) (v : Value) (xs : List Int) (k : Nat) (w : World) (hx : xs.length ≤ 1099511627776) (hk : k ≤ 1099511627776) (hv : OwnI lo hi w v xs) :
    Calls Try.prog 18 #[v, .int .i64 k] w (RetM lo hi w v xs k) := by
  obtain ⟨ad, cap, rfl⟩ := hv.sl.form
  go_enter Try.func18, Try.ntmps18
  go_wp2_with fail
  go_loopw [1, 5] (fun m i wr => ∃ j : Nat, j ≤ xs.length ∧ i = .int .i64 j ∧ m = .int .i64 ((k + j : Nat) : Int) ∧ OwnI lo hi wr (.slice ad xs.length cap) (marked xs k j) ∧ Chg lo hi w wr) (fun _ i _ => xs.length - (intOf i).toNat)
  case atStart => exact ⟨0, Nat.zero_le _, rfl, rfl, by rw [marked_zero]; exact hv, Chg.refl _ _ _⟩
  case round =>
    obtain ⟨j, hj, rfl, rfl, ho, hb⟩ := hrel
    by_cases hlt : j < xs.length
    · have hl := marked_len xs k j hj
      have ho0 := ho
      obtain ⟨⟨ad', cap', e, hc, hm, hr⟩, hf⟩ := ho0
      obtain ⟨b, off, rfl, a1, a2, a3⟩ := hr (by omega)
      simp only [Value.slice.injEq] at e
      obtain ⟨rfl, -, rfl⟩ := e
      have hcell := a3 j (by omega)
      have hfr := hf b off _ _ rfl (by omega) j
      have hst := ho.stored j (by omega) ((k + j : Nat) : Int)
      rw [marked_succ xs k j hlt] at hst
      have hb2 := hb.trans (Chg.set wr (p := ⟨b, off + j, none⟩) a1 a2 (.int .i64 ((k + j : Nat) : Int)))
      generalize (marked xs k j).getD j 0 = x at hcell
      clear hr hf ho hb hv hc hm hl a3
      have hkj : ((k + j : Nat) : Int) ≤ 9223372036854775000 := by omega
      go_wp2_with fail
      go_roundw
      case rel => exact ⟨j+1, by omega, by go_num, by go_num, by simpa using hst, by simpa using hb2⟩
      case measure => simp [intOf]; omega
    · rw [marked_all xs k j hlt hj] at ho
      go_wp2_with fail
      go_ret
      obtain rfl : j = xs.length := by omega
      exact ⟨rfl, hb, ho⟩

theorem heldIntS_c (l h : Nat) (v : Value) (n k : Nat) (w : World) (hx : n ≤ 1099511627776) (hk : k ≤ 1099511627776) (hv : SlI l h w v (marks k n)) :
    Calls Try.prog 77 #[v, .int .i64 k] w (RetV w (.int .i64 ((k + n : Nat) : Int))) := by
  obtain ⟨ad, cap, rfl, -, -, hr⟩ := hv
  rw [marks_len] at hr ⊢
  go_enter Try.func77, Try.ntmps77
  go_wp2_with fail
  go_loop [1, 5] (fun m i => ∃ j : Nat, j ≤ n ∧ i = .int .i64 j ∧ m = .int .i64 ((k + j : Nat) : Int)) (fun _ i => n - (intOf i).toNat)
  case atStart => exact ⟨0, Nat.zero_le _, rfl, rfl⟩
  case round =>
    obtain ⟨j, hj, rfl, rfl⟩ := hrel
    by_cases hlt : j < n
    · obtain ⟨b, off, rfl, -, -, a3⟩ := hr (by omega)
      have hcell := a3 j (by omega)
      rw [marks_get k n j hlt] at hcell
      have hne : (((k + j : Nat) : Int) != ((k + j : Nat) : Int)) = false := by simp
      clear hr a3
      go_wp2_with fail
      go_round
      case rel => exact ⟨j+1, by omega, by go_num, by go_num⟩
      case measure => simp [intOf]; omega
    · go_wp2_with fail
      go_ret
      obtain rfl : j = n := by omega
      exact ⟨rfl, Bel.rfl' _⟩

theorem markSign_c (lo hi : Nat) (v : Value) (xs : List Int) (k : Nat) (w : World) (hx : xs.length ≤ 1048576) (hk : k ≤ 1073741824) (_ : hi ≤ w.heap.size) (hv : OwnI lo hi w v xs) :
    Calls Try.prog 17 #[.agg #[v], .int .i64 k] w (RetM lo hi w v xs k) := by
  go_enter Try.func17, Try.ntmps17
  go_wp2_with fail
  refine (markIntS_c lo hi v xs k _ (by omega) (by omega) (hv.alloc _)).mono ?_; rintro e w' ⟨rfl, hb, ho⟩
  go_wp2_with fail
  go_ret
  exact ⟨rfl, (Chg.of_bel (Bel.alloc0 w _)).trans hb, ho⟩
end Go.Proofs.Ytikllmdmifecpaa
end
section
/- Copies and joins of slices of ints. -/
namespace Go.Proofs.Ytikllmdmifecpaa
open Go.RowKit

theorem news_of_sl {lo hi : Nat} {w : World} {a : Addr} {n c : Nat} {xs : List Int} (h : SlI lo hi w (.slice (some a) n c) xs) : ∀ j u, (xs.map (Value.int .i64))[j]? = some u → w.cell? (a.add j) = some u := by
  intro j u hj
  obtain ⟨ad, cap, e, _, _, hr⟩ := h
  simp only [Value.slice.injEq] at e
  have hlt : j < xs.length := by
    have := List.getElem?_eq_some_iff.1 hj
    simpa using this.1
  obtain ⟨b, off, e2, _, _, hc⟩ := hr (by omega)
  rw [← e.1] at e2
  simp only [Option.some.injEq] at e2
  subst e2
  rw [addr_add, hc j hlt]
  simp [hlt] at hj
  simp [List.getD, hlt, hj]
theorem ones_int (xs : List Int) : ∀ u ∈ xs.map (Value.int .i64), u.oneCell' = true := by
  intro u hu; simp at hu; obtain ⟨n, _, rfl⟩ := hu; rfl

/-- A slice of ints that the call itself made, as a row that may grow. -/
def RetR (w : World) (xs : List Int) (e : Ending) (w' : World) : Prop := ∃ ad n c, e = .returned (.slice ad n c) ∧ w'.ownsRow w.heap.size 3 1 (.slice ad n c) xs.length (xs.map (Value.int .i64)) ∧ Bel w w'
theorem RetR.i {w : World} {xs : List Int} {e : Ending} {w' : World} (h : RetR w xs e w') : RetI w xs e w' := by
  obtain ⟨ad, n, c, h1, h2, h3⟩ := h
  exact ⟨ad, n, c, h1, OwnI.of_row h2, h3⟩

set_option maxRecDepth 100000 in
theorem l1Own_r (l h : Nat) (v : Value) (xs : List Int) (w : World) (hx : xs.length ≤ 1048576) (hv : SlI l h w v xs) :
    Calls Try.prog 167 #[v] w (RetR w xs) := by
  obtain ⟨i0, hi0, hz0, hz1, hz2⟩ := info_parts Try.info3
  have hv0 := hv
  obtain ⟨ad, cap, rfl, -, hm, hr⟩ := hv
  have hown : (w.alloc (.cells #[] 3)).ownsRow w.heap.size 3 1 (.slice (some ⟨w.heap.size, 0, none⟩) 0 0) ([] : List Int).length (([] : List Int).map (Value.int .i64)) :=
    World.ownsRow_lit w #[] 0 (Nat.le_refl _) (Nat.zero_le _) rfl
  cases ad with
  | none =>
    obtain rfl : xs = [] := by
      rcases Nat.eq_zero_or_pos xs.length with h0 | h0
      · exact List.length_eq_zero_iff.1 h0
      · obtain ⟨_, _, e, _⟩ := hr h0; simp at e
    obtain rfl : cap = 0 := hm.2 rfl
    clear hr hm hv0
    go_enter Try.func167, Try.ntmps167
    go_wp2_with (at_builtin; refine wpList_append_own_none rfl _ _ 22 rfl w.heap.size 3 i0 1 Try.underlying22 hi0 _ _ _ rfl hown rfl ?_)
    go_ret
    exact ⟨_, _, _, rfl, hown, Bel.alloc0 _ _⟩
  | some a =>
    have hn := news_of_sl (hv0.alloc (.cells #[] 3))
    clear hr hm
    go_enter Try.func167, Try.ntmps167
    go_wp2_with (at_builtin; refine wpList_append_own _ rfl _ _ 22 rfl w.heap.size 3 i0 (.int .i64 0) 1 8 Try.underlying22 hi0 hz0 hz1 hz2 rfl (by decide) _ _ _ rfl hown a xs.length cap (xs.map (Value.int .i64)) rfl (by simp) hn (ones_int _) (by unfold maxLen; simp; omega) (by simp; omega) (by simp) ?_; intro v' w1 hown' hgrow _)
    have hb1 := (Bel.alloc0 w (.cells #[] 3)).grown hgrow (fun k hk => own_base hown k hk)
    have hown2 : w1.ownsRow w.heap.size 3 1 v' xs.length (xs.map (Value.int .i64)) := by simpa using hown'
    obtain ⟨g, n, c, rfl⟩ := own_form hown2
    go_ret
    exact ⟨_, _, _, rfl, hown2, hb1⟩
theorem l1Own_c (l h : Nat) (v : Value) (xs : List Int) (w : World) (hx : xs.length ≤ 1048576) (hv : SlI l h w v xs) :
    Calls Try.prog 167 #[v] w (RetI w xs) := (l1Own_r l h v xs w hx hv).mono fun _ _ h => h.i

set_option maxRecDepth 100000 in
theorem clone_c (l h : Nat) (v : Value) (xs : List Int) (w : World) (hx : xs.length ≤ 1048576) (hv : SlI l h w v xs) :
    Calls Try.prog 127 #[v] w (RetI w xs) := by
  obtain ⟨i0, hi0, hz0, hz1, hz2⟩ := info_parts Try.info3
  have hv0 := hv
  obtain ⟨ad, cap, rfl, -, hm, hr⟩ := hv
  have hown : (w.alloc (.cells #[] 3)).ownsRow w.heap.size 3 1 (.slice (some ⟨w.heap.size, 0, none⟩) 0 0) ([] : List Int).length (([] : List Int).map (Value.int .i64)) :=
    World.ownsRow_lit w #[] 0 (Nat.le_refl _) (Nat.zero_le _) rfl
  cases ad with
  | none =>
    obtain rfl : xs = [] := by
      rcases Nat.eq_zero_or_pos xs.length with h0 | h0
      · exact List.length_eq_zero_iff.1 h0
      · obtain ⟨_, _, e, _⟩ := hr h0; simp at e
    obtain rfl : cap = 0 := hm.2 rfl
    clear hr hm hv0
    have hk := fun (w : World) (a : Option Addr) (n c : Nat) => Lib.run_eql_slice_nil (P := Try.prog) w 22 3 a n c 0 0 Try.underlying22
    go_enter Try.func127, Try.ntmps127
    go_wp2_with fail
    go_ret
    exact ⟨_, _, _, rfl, OwnI.nil _ _ _, Bel.rfl' _⟩
  | some a =>
    have hn := news_of_sl (hv0.alloc (.cells #[] 3))
    clear hr hm
    have hk := fun (w : World) (a : Option Addr) (n c : Nat) => Lib.run_eql_slice_nil (P := Try.prog) w 22 3 a n c 0 0 Try.underlying22
    go_enter Try.func127, Try.ntmps127
    go_wp2_with (at_builtin; refine wpList_append_own _ rfl _ _ 22 rfl w.heap.size 3 i0 (.int .i64 0) 1 8 Try.underlying22 hi0 hz0 hz1 hz2 rfl (by decide) _ _ _ rfl hown a xs.length cap (xs.map (Value.int .i64)) rfl (by simp) hn (ones_int _) (by unfold maxLen; simp; omega) (by simp; omega) (by simp) ?_; intro v' w1 hown' hgrow _)
    have hb1 := (Bel.alloc0 w (.cells #[] 3)).grown hgrow (fun k hk => own_base hown k hk)
    have hown2 : w1.ownsRow w.heap.size 3 1 v' xs.length (xs.map (Value.int .i64)) := by simpa using hown'
    obtain ⟨g, n, c, rfl⟩ := own_form hown2
    go_ret
    exact ⟨_, _, _, rfl, OwnI.of_row hown2, hb1⟩

/-- A cut of a slice. -/
theorem SlI.cut {lo hi : Nat} {w : World} {b off n c : Nat} {xs : List Int} (h : SlI lo hi w (.slice (some ⟨b, off, none⟩) n c) xs) (i j : Nat) (hij : i ≤ j) (hj : j ≤ xs.length) :
    SlI lo hi w (.slice (some ⟨b, off + i, none⟩) (j - i) (c - i)) ((xs.drop i).take (j - i)) := by
  obtain ⟨ad, cap, e, hc, hm, hr⟩ := h
  simp only [Value.slice.injEq] at e
  obtain ⟨rfl, rfl, rfl⟩ := e
  have hl : ((xs.drop i).take (j - i)).length = j - i := by simp; omega
  refine ⟨_, c - i, by rw [hl], by rw [hl]; omega, ⟨by have := hm.1; omega, fun h => by simp at h⟩, fun hp => ?_⟩
  rw [hl] at hp
  obtain ⟨b', off', e2, a1, a2, a3⟩ := hr (by omega)
  simp only [Option.some.injEq, Addr.mk.injEq, and_true] at e2
  obtain ⟨rfl, rfl⟩ := e2
  refine ⟨b, off + i, rfl, a1, a2, fun k hk => ?_⟩
  rw [hl] at hk
  rw [show off + i + k = off + (i + k) from by omega, a3 (i + k) (by omega)]
  simp [List.getD, hk, List.getElem?_drop]

/-- The head of a slice that is not nil lies at a plain address. -/
theorem SlI.plain {lo hi : Nat} {w : World} {v : Value} {xs : List Int} (h : SlI lo hi w v xs) (hp : 0 < xs.length) : ∃ b off c, v = .slice (some ⟨b, off, none⟩) xs.length c ∧ xs.length ≤ c := by
  obtain ⟨ad, cap, rfl, hc, hm, hr⟩ := h
  obtain ⟨b, off, rfl, _⟩ := hr hp
  exact ⟨b, off, cap, rfl, hc⟩

set_option maxRecDepth 100000 in
theorem grow_c (n : Nat) (w : World) (hn : n ≤ 1099511627776) :
    Calls Try.prog 174 #[.slice none 0 0, .int .i64 n] w fun e w' => ∃ ad m c, e = .returned (.slice ad m c) ∧ w'.ownsRow w.heap.size 3 1 (.slice ad m c) ([] : List Int).length (([] : List Int).map (Value.int .i64)) ∧ Bel w w' := by
  obtain ⟨i0, hi0, hz0, hz1, hz2⟩ := info_parts Try.info3
  rcases Nat.eq_zero_or_pos n with rfl | hp
  · go_enter Try.func174, Try.ntmps174
    go_wp2_with fail
    go_ret
    exact ⟨_, _, _, rfl, World.ownsRow_nil _ _ _ _, Bel.rfl' _⟩
  · have hrun := Lib.run_append_nil_zeros (P := Try.prog) w 22 3 22 3 i0 (.int .i64 0) .i64 .i64 Try.underlying22 Try.underlying3 hi0 hz0 n hp (by omega) (by omega) (by rw [hz2]; omega)
    go_enter Try.func174, Try.ntmps174
    go_wp2_with (at_builtin; refine Lib.wpList_append_run _ rfl _ _ _ _ rfl _ _ rfl rfl _ _ hrun ?_)
    go_ret
    refine ⟨_, _, _, rfl, ⟨by simp, .inr ⟨w.heap.size, grownCap w n 0 3, _, rfl, Nat.le_refl _, heap_alloc_new w _, Nat.zero_le _, grownCap_le_maxLen w n 0 3 (by unfold maxLen; omega), ?_, by simp⟩⟩, (Bel.alloc0 w _).drew⟩
    have := grownCap_ge w n 0 3
    simp [size_zeroCells]
    omega

/-- A slice of slices of ints, as Concat reads it. -/
def PartsAt (lo hi : Nat) (w : World) (B o : Nat) (L : List (List Int)) : Prop :=
  ∀ j, j < L.length → ∃ ad c, w.cell? ⟨B, o + j, none⟩ = some (.slice ad (L.getD j []).length c) ∧ SlI lo hi w (.slice ad (L.getD j []).length c) (L.getD j [])
theorem PartsAt.below {lo hi : Nat} {w w' : World} {B o : Nat} {L : List (List Int)} (h : PartsAt lo hi w B o L) (hb : Bel w w') : PartsAt lo hi w' B o L := fun j hj => by
  obtain ⟨ad, c, h1, h2⟩ := h j hj
  exact ⟨ad, c, hb.at (World.block_lt_of_cell? w ⟨B, o + j, none⟩ h1) h1, h2.below hb⟩
def sumLen (L : List (List Int)) : Nat := (L.map List.length).sum
theorem sumLen_take (L : List (List Int)) (j : Nat) (h : j < L.length) : sumLen (L.take (j+1)) = sumLen (L.take j) + (L.getD j []).length := by
  unfold sumLen
  rw [List.take_succ_eq_append_getElem h, List.map_append, List.sum_append]
  simp only [List.map_cons, List.map_nil, List.sum_cons, List.sum_nil, Nat.add_zero]
  simp [List.getD, h]
theorem sumLen_le (L : List (List Int)) (j : Nat) : sumLen (L.take j) ≤ sumLen L := by
  unfold sumLen
  conv => rhs; rw [← List.take_append_drop j L]
  rw [List.map_append, List.sum_append]
  exact Nat.le_add_right _ _
theorem flat_take (L : List (List Int)) (j : Nat) (h : j < L.length) : (L.take (j+1)).flatten = (L.take j).flatten ++ L.getD j [] := by
  rw [List.take_succ_eq_append_getElem h, List.flatten_append]
  simp only [List.flatten_cons, List.flatten_nil, List.append_nil]
  simp [List.getD, h]
theorem flat_len (L : List (List Int)) : L.flatten.length = sumLen L := by simp [sumLen, List.length_flatten]

set_option maxRecDepth 100000 in
set_option maxHeartbeats 1000000 in
theorem concat_c (lo hi B o c : Nat) (L : List (List Int)) (w : World) (hL : L.length ≤ 1048576) (hs : sumLen L ≤ 1099511627776) (hp : PartsAt lo hi w B o L) :
    Calls Try.prog 156 #[.slice (some ⟨B, o, none⟩) L.length c] w (RetI w L.flatten) := by
  obtain ⟨i0, hi0, hz0, hz1, hz2⟩ := info_parts Try.info3
  go_enter Try.func156, Try.ntmps156
  go_wp2_with fail
  go_loop [3, 11] (fun n i => ∃ j : Nat, j ≤ L.length ∧ i = .int .i64 j ∧ n = .int .i64 (sumLen (L.take j))) (fun _ i => L.length - (intOf i).toNat)
  case atStart => exact ⟨0, Nat.zero_le _, rfl, by simp [sumLen]⟩
  case round =>
    obtain ⟨j, hj, rfl, rfl⟩ := hrel
    have hle := sumLen_le L j
    by_cases hlt : j < L.length
    · obtain ⟨ad, cc, hcell, hsl⟩ := hp j hlt
      have E := Lib.hid (sumLen_take L j hlt)
      have hle2 := sumLen_le L (j + 1)
      rw [E.out] at hle2
      clear hp hsl
      generalize L.getD j [] = xs at *
      generalize sumLen (L.take j) = m at *
      go_wp2_with fail
      go_round
      case rel => exact ⟨j + 1, by omega, by go_num, by rw [E.out]; go_num⟩
      case measure => simp [intOf]; omega
    · have e1 : L.take j = L := List.take_of_length_le (by omega)
      rw [e1]
      clear e1
      go_wp2_with fail
      refine (grow_c (sumLen L) _ (by omega)).mono ?_; rintro e w1 ⟨ad, m, c1, rfl, hown, hb⟩
      go_wp2_with fail
      go_loopw [6, 27] (fun v i wr => ∃ j : Nat, j ≤ L.length ∧ i = .int .i64 j ∧ wr.ownsRow w.heap.size 3 1 v (L.take j).flatten.length ((L.take j).flatten.map (Value.int .i64)) ∧ Bel w wr) (fun _ i _ => L.length - (intOf i).toNat)
      case atStart => exact ⟨0, Nat.zero_le _, rfl, by simpa using hown, hb⟩
      case round =>
        obtain ⟨j, hj, rfl, hown, hb⟩ := hrel
        have hle := sumLen_le L j
        rw [← flat_len] at hle
        by_cases hlt : j < L.length
        · obtain ⟨ad, cc, hcell, hsl⟩ := (hp.below hb) j hlt
          have E := Lib.hid (flat_take L j hlt)
          have hle2 := sumLen_le L (j + 1)
          rw [← flat_len, E.out, List.length_append] at hle2
          clear hp
          generalize L.getD j [] = xs at *
          generalize (L.take j).flatten = acc at *
          cases ad with
          | none =>
            obtain ⟨ad', cap', e, -, hm, hr⟩ := hsl
            simp only [Value.slice.injEq] at e
            obtain ⟨rfl, -, rfl⟩ := e
            obtain rfl : xs = [] := by
              rcases Nat.eq_zero_or_pos xs.length with h0 | h0
              · exact List.length_eq_zero_iff.1 h0
              · obtain ⟨_, _, e, _⟩ := hr h0; simp at e
            obtain rfl : cc = 0 := hm.2 rfl
            have E2 := Lib.hid (show (L.take (j+1)).flatten = acc by rw [E.out]; simp)
            clear hr hm E
            go_wp2_with (at_builtin; refine wpList_append_own_none rfl _ _ 22 rfl w.heap.size 3 i0 1 Try.underlying22 hi0 _ _ _ rfl hown rfl ?_)
            go_roundw
            case rel => exact ⟨j + 1, by omega, by go_num, by rw [E2.out]; exact hown, hb⟩
            case measure => simp [intOf]; omega
          | some a =>
            have hn := news_of_sl hsl
            clear hsl
            go_wp2_with (at_builtin; refine wpList_append_own _ rfl _ _ 22 rfl w.heap.size 3 i0 (.int .i64 0) 1 8 Try.underlying22 hi0 hz0 hz1 hz2 rfl (by decide) _ _ _ rfl hown a xs.length cc (xs.map (Value.int .i64)) rfl (by simp) hn (ones_int _) (by unfold maxLen; omega) (by omega) hb.size ?_; intro v' w2 hown' hgrow _)
            have hb2 := hb.grown hgrow (fun k hk => own_base hown k hk)
            have hown2 : w2.ownsRow w.heap.size 3 1 v' (acc ++ xs).length ((acc ++ xs).map (Value.int .i64)) := by simpa using hown'
            go_roundw
            case rel => exact ⟨j + 1, by omega, by go_num, by rw [E.out]; exact hown2, hb2⟩
            case measure => simp [intOf]; omega
        · have e1 : L.take j = L := List.take_of_length_le (by omega)
          rw [e1] at hown
          clear e1
          go_wp2_with fail
          obtain ⟨g, n, c2, hv⟩ := own_form hown
          subst hv
          go_ret
          exact ⟨_, _, _, rfl, OwnI.of_row hown, hb⟩

/-- Three slices in a new block, joined. -/
theorem concat3_c (lo hi : Nat) (p0 p1 p2 : Option Addr) (n0 n1 n2 c0 c1 c2 : Nat) (x0 x1 x2 : List Int) (w : World) (hs : x0.length + x1.length + x2.length ≤ 1099511627776)
    (h0 : SlI lo hi w (.slice p0 n0 c0) x0) (h1 : SlI lo hi w (.slice p1 n1 c1) x1) (h2 : SlI lo hi w (.slice p2 n2 c2) x2) (t : TypeId) :
    Calls Try.prog 156 #[.slice (some ⟨w.heap.size, 0, none⟩) 3 3] (w.alloc (.cells #[.slice p0 n0 c0, .slice p1 n1 c1, .slice p2 n2 c2] t)).drew (RetI (w.alloc (.cells #[.slice p0 n0 c0, .slice p1 n1 c1, .slice p2 n2 c2] t)).drew (x0 ++ x1 ++ x2)) := by
  have e0 : n0 = x0.length := by obtain ⟨ad, c, e, _⟩ := h0; simp at e; exact e.2.1
  have e1 : n1 = x1.length := by obtain ⟨ad, c, e, _⟩ := h1; simp at e; exact e.2.1
  have e2 : n2 = x2.length := by obtain ⟨ad, c, e, _⟩ := h2; simp at e; exact e.2.1
  subst e0 e1 e2
  have hb : Bel w (w.alloc (.cells #[.slice p0 x0.length c0, .slice p1 x1.length c1, .slice p2 x2.length c2] t)).drew := (Bel.alloc0 w _).drew
  have hp : PartsAt lo hi (w.alloc (.cells #[.slice p0 x0.length c0, .slice p1 x1.length c1, .slice p2 x2.length c2] t)).drew w.heap.size 0 [x0, x1, x2] := by
    intro j hj
    match j, hj with
    | 0, _ => exact ⟨p0, c0, (World.cell?_alloc_new w _ t 0).trans (by simp), h0.below hb⟩
    | 1, _ => exact ⟨p1, c1, (World.cell?_alloc_new w _ t 1).trans (by simp), h1.below hb⟩
    | 2, _ => exact ⟨p2, c2, (World.cell?_alloc_new w _ t 2).trans (by simp), h2.below hb⟩
  have := concat_c lo hi w.heap.size 0 3 [x0, x1, x2] _ (by simp) (by simp [sumLen]; omega) hp
  simpa using this
end Go.Proofs.Ytikllmdmifecpaa
end
section
/- The laws' helpers over slices of slices of ints, by contracts. -/
namespace Go.Proofs.Ytikllmdmifecpaa
open Go.RowKit

theorem Try.info22 : (Try.prog.info? 22).map (fun i => (i.zero, i.size, i.bytes)) = some (some (.slice none 0 0), 1, 24) := by kernel_rfl

def szS (xss : List (List Int)) (left : Int) : Int := if left - (tot xss : Nat) < 0 then -1 else left - (tot xss : Nat)

set_option maxRecDepth 100000 in
set_option maxHeartbeats 400000 in
theorem szIntSS_c (l h : Nat) (v : Value) (xss : List (List Int)) (left : Int) (w : World) (h0 : 0 ≤ left) (h1 : left ≤ 1048576) (hv : SlS l h w v xss) :
    Calls Try.prog 34 #[v, .int .i64 left] w (RetV w (.int .i64 (szS xss left))) := by
  obtain ⟨ad, cap, rfl⟩ := hv.form
  obtain ⟨hx, hmax⟩ := hv.max
  by_cases hs : left - xss.length < 0
  · have E : Hid (szS xss left = -1) := by show szS _ _ = _; unfold szS tot; rw [if_pos (by omega)]
    go_enter Try.func34, Try.ntmps34
    go_wp2_with fail
    go_ret
    exact ⟨by rw [E.out]; rfl, Bel.rfl' _⟩
  · have hw1 := IntWalk.i64_in (left - xss.length) (by omega)
    go_enter Try.func34, Try.ntmps34
    go_wp2_with fail
    go_loopw [1, 5] (fun m i wr => ∃ (k : Nat) (z : Int), k ≤ xss.length ∧ i = .int .i64 k ∧ m = .int .i64 z ∧ 0 ≤ z ∧ z = left - xss.length - (sumL (xss.take k) : Nat) ∧ Bel w wr) (fun _ i _ => xss.length - (intOf i).toNat)
    case atStart => exact ⟨0, _, Nat.zero_le _, rfl, by go_num, by omega, by simp [sumL], Bel.rfl' _⟩
    case round =>
      obtain ⟨k, z, hk, rfl, rfl, hz0, hz, hb⟩ := hrel
      by_cases hlt : k < xss.length
      · obtain ⟨b, off, u, rfl, -, hc, hu⟩ := hv.at hb k hlt
        have hm := hmax k hlt
        have hst := sumL_take xss k hlt
        have hsl := sumL_get xss k hlt
        have hcall := szIntS_c l h u (xss.getD k []) z wr hm hz0 (by omega) hu
        by_cases hneg : z - (xss.getD k []).length < 0
        · have e1 : szI (xss.getD k []).length z = -1 := by unfold szI; rw [if_pos hneg]
          have E : Hid (szS xss left = -1) := by show szS _ _ = _; unfold szS tot; rw [if_pos (by omega)]
          rw [e1] at hcall
          have HC := Lib.hid hcall
          clear hcall hv hu hmax hst hsl e1 hneg hz
          go_wp2_with (go_at_call 70; refine HC.out.mono ?_; rintro e w' ⟨rfl, hb1⟩)
          go_ret
          exact ⟨by rw [E.out]; rfl, hb.step hb1⟩
        · have e1 : szI (xss.getD k []).length z = z - (xss.getD k []).length := by unfold szI; rw [if_neg hneg]
          have hz' : z - ((xss.getD k []).length : Int) = left - xss.length - (sumL (xss.take (k+1)) : Nat) := by omega
          rw [e1] at hcall
          have HC := Lib.hid hcall
          have HZ := Lib.hid hz'
          have hz2 : 0 ≤ z - ((xss.getD k []).length : Int) := by omega
          clear hcall hv hu hmax hst hsl e1 hneg hz hz'
          generalize z - ((xss.getD k []).length : Int) = z2 at *
          go_wp2_with (go_at_call 70; refine HC.out.mono ?_; rintro e w' ⟨rfl, hb1⟩)
          go_roundw
          case rel => exact ⟨k+1, z2, by omega, by go_num, rfl, hz2, HZ.out, hb.step hb1⟩
          case measure => simp [intOf]; omega
      · have E : Hid (szS xss left = z) := by
          show szS _ _ = _
          rw [sumL_all xss k hlt] at hz
          unfold szS tot; rw [if_neg (by omega)]; omega
        clear hz
        go_wp2_with fail
        go_ret
        exact ⟨by rw [E.out]; rfl, hb⟩

set_option maxRecDepth 100000 in
set_option maxHeartbeats 400000 in
theorem toIntSS_c (l h : Nat) (v : Value) (xss : List (List Int)) (w : World) (hx : short xss) (hv : SlS l h w v xss) :
    Calls Try.prog 37 #[v] w (RetSS w xss) := by
  obtain ⟨ad, cap, rfl⟩ := hv.form
  obtain ⟨hx, hmax⟩ := hx
  obtain ⟨i0, hi, hz0, hz1, hz2⟩ := info_parts Try.info22
  go_enter Try.func37, Try.ntmps37
  go_wp2_with (at_make; refine wpList_make_full _ rfl _ _ 26 rfl w.heap.size 22 i0 (.slice none 0 0) 1 Try.underlying26 hi hz0 hz1 _ _ _ _ xss.length rfl rfl rfl rfl (by rw [hz2]; omega) (by unfold maxLen; omega) (Nat.le_refl _) ?_; intro w1 hown hg)
  have hz3 : (madeCells (Value.slice none 0 0).cells (xss.length * 1)).toList = [] ++ List.replicate (xss.length - 0) (Value.slice none 0 0) := by
    rw [Nat.mul_one]; show (madeCells #[_] _).toList = _; rw [toList_madeCells_one]; simp
  rw [hz3] at hown
  have hb0 : Bel w w1 := (Bel.rfl' w).grown hg (by simp)
  have hs1 : w.heap.size + 1 ≤ w1.heap.size := by
    rcases hown.2 with ⟨e, _⟩ | ⟨g, c, cur, e, _, hh, _⟩
    · simp at e
    · simp at e; have := (Array.getElem?_eq_some_iff.1 hh).1; omega
  clear hg hz3
  go_loopw [4] (fun i wr => ∃ (k : Nat) (us : List Value) (bs : Nat → Nat), k ≤ xss.length ∧ i = .int .i64 k ∧ wr.ownsRow w.heap.size 22 1 (.slice (some ⟨w.heap.size, 0, none⟩) xss.length xss.length) xss.length (us ++ List.replicate (xss.length - k) (Value.slice none 0 0)) ∧
    Ins (w.heap.size + 1) wr.heap.size w.heap.size wr us (xss.take k) bs ∧ w.heap.size + 1 ≤ wr.heap.size ∧ Bel w wr) (fun i _ => xss.length - (intOf i).toNat)
  case atStart => exact ⟨0, [], _, Nat.zero_le _, rfl, hown, (Ins.none _ _ _ _), hs1, hb0⟩
  case round =>
    obtain ⟨k, us, bs, hk, rfl, ho, hin, hs, hb⟩ := hrel
    have hul : us.length = k := by have := hin.len; simp at this; omega
    by_cases hlt : k < xss.length
    · obtain ⟨b, off, u, rfl, hbs, hc, hu⟩ := hv.at hb k hlt
      have hm := hmax k hlt
      have hcall := toIntS_c l h u (xss.getD k []) wr hm hu
      have HC := Lib.hid hcall
      have HI := Lib.hid hin
      have HO := Lib.hid ho
      clear hv hcall hu hmax hown hin ho
      go_wp2_with (go_at_call 12; refine HC.out.mono ?_; rintro e w' ⟨ad2, n2, c2, rfl, ho2, hb2⟩; have ho3 := ownsRow_bel HO.out hb2; have hcell := ho3.cellAt k (by omega); have hf := ho3.frozenAt k; rw [List.getElem?_append_right (by omega), hul, Nat.sub_self, List.getElem?_replicate, if_pos (by omega)] at hcell)
      go_roundw
      case rel =>
        have hst := ho3.stored k (.slice ad2 n2 c2)
        rw [List.set_append_right _ _ (by omega), hul, Nat.sub_self, show xss.length - k = (xss.length - (k+1)) + 1 from by omega, List.replicate_succ, List.set_cons_zero] at hst
        have hsz := hb2.size
        obtain ⟨bs', hin'⟩ := (HI.out.below hb2).snoc ho2 (Nat.le_refl _) hs (.inl (by omega)) (hi2 := w'.heap.size) (Nat.le_refl _) hsz
        have hin2 := hin'.same (w' := w'.setCell ⟨w.heap.size, k, none⟩ (.slice ad2 n2 c2)) (fun b h1 h2 _ => Below.heap_setCell w' _ _ b (by simp; omega))
        rw [show xss.take k ++ [xss.getD k []] = xss.take (k+1) from by rw [List.take_succ_eq_append_getElem hlt]; simp [List.getD, hlt]] at hin2
        refine ⟨k+1, us ++ [.slice ad2 n2 c2], bs', by omega, by go_num, by simpa using hst.1, by simpa using hin2, by simpa using (by omega : w.heap.size + 1 ≤ w'.heap.size), (hb.step hb2).setCell (p := ⟨w.heap.size, k, none⟩) (Nat.le_refl _) _⟩
      case measure => simp [intOf]; omega
    · rw [show xss.length - k = 0 from by omega, List.replicate_zero, List.append_nil] at ho
      rw [List.take_of_length_le (by omega)] at hin
      have HI := Lib.hid hin
      have HO := Lib.hid ho
      clear hin ho hv hmax hown
      go_wp2_with fail
      go_ret
      exact ⟨_, _, _, rfl, OwnS.of_row HO.out (Nat.le_refl _) (fun g hg => by simp [Value.ownBlock] at hg; subst hg; exact HI.out.mono (by omega) (Nat.le_refl _)), hb⟩

set_option maxRecDepth 100000 in
set_option maxHeartbeats 400000 in
theorem eqIntSS_same (l h l' h' : Nat) (v u : Value) (xss : List (List Int)) (w : World) (hx : short xss) (hv : SlS l h w v xss) (hu : SlS l' h' w u xss) :
    Calls Try.prog 14 #[v, u] w (RetV w (.bool true)) := by
  obtain ⟨ad, cap, rfl⟩ := hv.form
  obtain ⟨ad', cap', rfl⟩ := hu.form
  obtain ⟨hx, hmax⟩ := hx
  have hl' : ((xss.length : Int) != xss.length) = false := by simp
  go_enter Try.func14, Try.ntmps14
  go_wp2_with fail
  go_loopw [5] (fun i wr => ∃ k : Nat, k ≤ xss.length ∧ i = .int .i64 k ∧ Bel w wr) (fun i _ => xss.length - (intOf i).toNat)
  case atStart => exact ⟨0, Nat.zero_le _, rfl, Bel.rfl' _⟩
  case round =>
    obtain ⟨k, hk, rfl, hb⟩ := hrel
    by_cases hlt : k < xss.length
    · obtain ⟨b, off, p, rfl, -, hc, hp⟩ := hv.at hb k hlt
      obtain ⟨b', off', q, rfl, -, hc', hq⟩ := hu.at hb k hlt
      have hm := hmax k hlt
      have hbp := World.block_lt_of_cell? wr ⟨b, off + k, none⟩ hc
      have hbq := World.block_lt_of_cell? wr ⟨b', off' + k, none⟩ hc'
      have HC := Lib.hid (fun w' (h1 : Bel wr w') => eqIntS_same _ _ _ _ p q (xss.getD k []) w' hm (hp.below h1) (hq.below h1))
      clear hv hu hmax hp hq
      have hin1 : (k : Int) < xss.length := by omega
      go_wp2_with fail
      go_region_held3 (fun w' => Bel wr w' ∧ w'.cell? ⟨b, off + k, none⟩ = some p ∧ w'.cell? ⟨b', off' + k, none⟩ = some q)
        (first | exact ⟨Bel.drew0 _, hc, hc'⟩ | exact ⟨hb2.of_drew, hb2.at hbp hc, hb2.at hbq hc'⟩)
        (first | (go_at_call 16; refine (HC.out _ (Bel.drew0 _)).mono ?_; rintro e w2 ⟨rfl, hb2⟩))
      go_wp2_with fail
      go_roundw
      case rel => exact ⟨k+1, by omega, by go_num, hb.step hb2.of_drew⟩
      case measure => simp [intOf]; omega
    · go_wp2_with fail
      go_ret
      exact ⟨rfl, hb⟩

def RetMS (lo hi : Nat) (w : World) (v : Value) (xss : List (List Int)) (k : Nat) (e : Ending) (w' : World) : Prop := e = .returned (.int .i64 ((k + sumL xss : Nat) : Int)) ∧ Chg lo hi w w' ∧ OwnS lo hi w' v (marksS k xss)

set_option maxRecDepth 100000 in
set_option maxHeartbeats 400000 in
theorem markIntSS_c (lo hi : Nat) (v : Value) (xss : List (List Int)) (k : Nat) (w : World) (hx : tot xss ≤ 1048576) (hk : k ≤ 1073741824) (hv : OwnS lo hi w v xss) :
    Calls Try.prog 19 #[v, .int .i64 k] w (RetMS lo hi w v xss k) := by
  obtain ⟨ad, cap, rfl⟩ := hv.sl.form
  unfold tot at hx
  go_enter Try.func19, Try.ntmps19
  go_wp2_with fail
  go_loopw [1, 5] (fun m i wr => ∃ j : Nat, j ≤ xss.length ∧ i = .int .i64 j ∧ m = .int .i64 ((k + sumL (xss.take j) : Nat) : Int) ∧ OwnS lo hi wr (.slice ad xss.length cap) (markedS xss k j) ∧ Chg lo hi w wr) (fun _ i _ => xss.length - (intOf i).toNat)
  case atStart => exact ⟨0, Nat.zero_le _, rfl, by simp [sumL], by rw [markedS_zero]; exact hv, Chg.refl _ _ _⟩
  case round =>
    obtain ⟨j, hj, rfl, rfl, ho, hb⟩ := hrel
    by_cases hlt : j < xss.length
    · have hl := markedS_len xss k j hj
      have hst := sumL_take xss j hlt
      have hsl := sumL_get xss j hlt
      obtain ⟨ad', cap', e, hc, hm, hr⟩ := ho
      obtain ⟨b, off, us, bs, rfl, a1, a2, a3, hin⟩ := hr (by omega)
      simp only [Value.slice.injEq] at e
      obtain ⟨rfl, -, rfl⟩ := e
      have hul := hin.len
      have hju : us[j]? = some us[j] := List.getElem?_eq_getElem (by omega)
      have hcell := a3 j _ hju
      have hown := hin.own j _ hju
      have hget := markedS_get xss k j hlt
      have hsucc := markedS_succ xss k j hlt
      generalize us[j] = u at hju hcell hown
      generalize hq : (if 0 < (xss.getD j []).length then bs j else 0) = q
      generalize hq2 : (if 0 < (xss.getD j []).length then bs j + 1 else 0) = q2
      have hown2 : OwnI q q2 wr u (xss.getD j []) := by
        rw [← hq, ← hq2]; rw [hget] at hown
        split
        · exact hown
        · rename_i h0; rw [len0 h0] at hown ⊢; exact hown.empty
      have hcall := markIntS_c q q2 u (xss.getD j []) (k + sumL (xss.take j)) wr (by omega) (by omega) hown2
      have HC := Lib.hid hcall
      have HF := Lib.hid (And.intro hin (And.intro a3 (And.intro hju (And.intro hc (And.intro hm (And.intro hget (And.intro hsucc (And.intro hq (And.intro hq2 (And.intro a1 (And.intro a2 (And.intro hst hl))))))))))))
      have HB := Lib.hid hb
      have hkj : k + sumL (xss.take j) ≤ 1073741824 + 1048576 := by have := sumL_le xss j; omega
      clear hr hb hv hcall hown hown2 hin a3 hju hc hm hget hsucc hq hq2 hst hl
      generalize hz : k + sumL (xss.take j) = z at *
      go_wp2_with (go_at_call 18; refine HC.out.mono ?_; rintro e w' ⟨rfl, hch, hom⟩)
      go_roundw
      case rel =>
        obtain ⟨hin, a3, hju, hc, hm, hget, hsucc, hq, hq2, a1, a2, hst, hl⟩ := HF.out
        have hpos : 0 < (xss.getD j []).length → lo ≤ bs j ∧ bs j < hi ∧ bs j ≠ b := fun hp => hin.rng j (by omega) (by rw [hget]; exact hp)
        have hch2 : Chg lo hi wr w' := by
          by_cases hp : 0 < (xss.getD j []).length
          · have := hpos hp
            rw [if_pos hp] at hq hq2
            exact hch.mono (by omega) (by omega)
          · rw [if_neg hp] at hq hq2
            subst hq hq2
            exact ⟨hch.os, hch.tape, hch.output, hch.size, fun b hb _ => hch.block b hb (by omega)⟩
        refine ⟨j+1, by omega, by go_num, by rw [hst, ← Nat.add_assoc, hz]; first | done | (simp [List.getD, hlt]), ?_, HB.out.trans hch2⟩
        rw [← hsucc]
        have hlm : (marks z (xss.getD j []).length).length = ((markedS xss k j).getD j []).length := by rw [marks_len, hget]
        have hom2 : OwnI (bs j) (bs j + 1) w' u (marks z (xss.getD j []).length) := by
          by_cases hp : 0 < (xss.getD j []).length
          · rw [if_pos hp] at hq hq2; rw [← hq, ← hq2] at hom; exact hom
          · rw [len0 hp] at hom ⊢; exact hom.empty
        have hin2 := hin.stored (w' := w') j (by omega) u hju (marks z (xss.getD j []).length) hlm
          (fun hp => by rw [marks_len] at hp; rw [if_pos hp] at hq hq2; rw [hq] at hq2; rw [hq, hq2]; exact hch)
          (fun hp => by rw [marks_len] at hp; rw [if_neg hp] at hq hq2; rw [← hq, ← hq2] at hch; exact hch) hom2
        refine ⟨_, cap, by rw [List.length_set, hl], by rw [List.length_set]; exact hc, hm, fun _ => ⟨b, off, us, bs, rfl, a1, a2, fun i x hix => ?_, hin2⟩⟩
        have hbx := a3 i x hix
        have hbl := World.block_lt_of_cell? wr ⟨b, off + i, none⟩ hbx
        refine hch.cell hbl ?_ hbx
        by_cases hp : 0 < (xss.getD j []).length
        · have := hpos hp
          rw [if_pos hp] at hq hq2
          omega
        · rw [if_neg hp] at hq hq2
          omega
      case measure => simp [intOf]; omega
    · rw [markedS_all xss k j hlt] at ho
      rw [sumL_all xss j hlt]
      go_wp2_with fail
      go_ret
      exact ⟨rfl, hb, ho⟩

set_option maxRecDepth 100000 in
set_option maxHeartbeats 400000 in
theorem heldIntSS_c (l h : Nat) (v : Value) (xss : List (List Int)) (k : Nat) (w : World) (hx : tot xss ≤ 1048576) (hk : k ≤ 1073741824) (hv : SlS l h w v (marksS k xss)) :
    Calls Try.prog 20 #[v, .int .i64 k] w (RetV w (.int .i64 ((k + sumL xss : Nat) : Int))) := by
  obtain ⟨ad, cap, rfl⟩ := hv.form
  unfold tot at hx
  have hml := marksS_len k xss
  rw [hml]
  go_enter Try.func20, Try.ntmps20
  go_wp2_with fail
  go_loopw [1, 5] (fun m i wr => ∃ j : Nat, j ≤ xss.length ∧ i = .int .i64 j ∧ m = .int .i64 ((k + sumL (xss.take j) : Nat) : Int) ∧ Bel w wr) (fun _ i _ => xss.length - (intOf i).toNat)
  case atStart => exact ⟨0, Nat.zero_le _, rfl, by simp [sumL], Bel.rfl' _⟩
  case round =>
    obtain ⟨j, hj, rfl, rfl, hb⟩ := hrel
    by_cases hlt : j < xss.length
    · have hst := sumL_take xss j hlt
      have hsl := sumL_get xss j hlt
      obtain ⟨b, off, u, rfl, -, hc, hu⟩ := hv.at hb j (by rw [hml]; exact hlt)
      rw [marksS_get k xss j hlt] at hu
      have hcall := heldIntS_c _ _ u (xss.getD j []).length (k + sumL (xss.take j)) wr (by omega) (by omega) hu
      rw [Nat.add_assoc, ← hst] at hcall
      have hnn : decide (((k + sumL (xss.take (j+1)) : Nat) : Int) < 0) = false := by simp; omega
      have hkj : k + sumL (xss.take j) ≤ 1073741824 + 1048576 := by omega
      have HC := Lib.hid hcall
      clear hcall hu hv hst hsl
      generalize hz2 : k + sumL (xss.take (j+1)) = z2 at *
      generalize k + sumL (xss.take j) = z at *
      go_wp2_with (go_at_call 77; refine HC.out.mono ?_; rintro e w' ⟨rfl, hb2⟩)
      go_roundw
      case rel => exact ⟨j+1, by omega, by go_num, by rw [hz2], hb.step hb2⟩
      case measure => simp [intOf]; omega
    · rw [sumL_all xss j hlt]
      go_wp2_with fail
      go_ret
      exact ⟨rfl, hb⟩
end Go.Proofs.Ytikllmdmifecpaa
end
