/- Texts merged, part 3. -/
import Derived.Maps.AppendAt
import Derived.Laws.AppendOwnNone
import Derived.Lib.AppendZeros
import Derived.Test.YteegjnobmbcjiaaMgChooseOf2
section
/- Several rows of the call's own, kept apart by a tag on each block. No program. -/
namespace Go.Proofs.Yteegjnobmbcjiaa
open Go.RowKit

/-- v owns the elements xs; its block, if it has one, bears the tag t. -/
def OwnT (base : Nat) (tag : Nat → Nat) (t : Nat) (e : TypeId) (w : World) (v : Value) (xs : List Value) : Prop :=
  w.ownsRow base e 1 v xs.length xs ∧ ∀ g, v.ownBlock = some g → tag g = t
/-- All rows of other tags than t are as they were. -/
def Tags (base : Nat) (tag : Nat → Nat) (w : World) (tag' : Nat → Nat) (w' : World) (t : Nat) : Prop :=
  ∀ t' e u zs, t' ≠ t → OwnT base tag t' e w u zs → OwnT base tag' t' e w' u zs

theorem OwnT.lt {base tag t e w v xs} (h : OwnT base tag t e w v xs) {g : Nat} (hg : v.ownBlock = some g) : g < w.heap.size := by
  rcases h.1.2 with ⟨rfl, _⟩ | ⟨g', cap, cur, rfl, _, hh, _⟩
  · simp [Value.ownBlock] at hg
  · simp [Value.ownBlock] at hg; subst hg; exact (Array.getElem?_eq_some_iff.1 hh).1
theorem OwnT.bel {base tag t e w w' v xs} (h : OwnT base tag t e w v xs) (hb : Bel w w') : OwnT base tag t e w' v xs := ⟨ownsRow_bel h.1 hb, h.2⟩
theorem OwnT.alloc {base tag t e w v xs} (h : OwnT base tag t e w v xs) (o : Obj) : OwnT base tag t e (w.alloc o) v xs := h.bel (Bel.alloc0 w o)
theorem OwnT.nil (base : Nat) (tag : Nat → Nat) (t : Nat) (e : TypeId) (w : World) : OwnT base tag t e w (.slice none 0 0) [] := ⟨World.ownsRow_nil _ _ _ _, fun g h => by simp [Value.ownBlock] at h⟩
theorem Tags.of_bel {base tag w w' t} (hb : Bel w w') : Tags base tag w tag w' t := fun _ _ _ _ _ h => h.bel hb
theorem Tags.trans {base tag w tag1 w1 tag2 w2 t} (h : Tags base tag w tag1 w1 t) (k : Tags base tag1 w1 tag2 w2 t) : Tags base tag w tag2 w2 t := fun t' e u zs hn ho => k t' e u zs hn (h t' e u zs hn ho)

theorem tag_append {base tag t e w w1 v v' xs ys} (h : OwnT base tag t e w v xs) (hown : w1.ownsRow base e 1 v' ys.length ys) (hg : w.grownBy w1 v.ownBlock) (hat : v'.ownBlock = v.ownBlock ∨ v'.ownBlock = some w.heap.size) :
    ∃ tag', OwnT base tag' t e w1 v' ys ∧ Tags base tag w tag' w1 t := by
  refine ⟨fun g => if g = w.heap.size then t else tag g, ⟨hown, fun g hgb => ?_⟩, fun t' e' u zs hn ho => ⟨?_, fun g hgb => ?_⟩⟩
  · show (if g = w.heap.size then t else tag g) = t
    rcases hat with h1 | h1
    · rw [h1] at hgb
      have := h.lt hgb
      rw [if_neg (by omega)]; exact h.2 g hgb
    · rw [h1] at hgb; simp at hgb; rw [if_pos hgb.symm]
  · refine ho.1.kept hg ?_
    cases hu : u.ownBlock with
    | none => exact .inl rfl
    | some g =>
      right
      intro e1
      exact hn ((ho.2 g hu).symm.trans (h.2 g e1.symm))
  · show (if g = w.heap.size then t else tag g) = t'
    have := ho.lt hgb
    rw [if_neg (by omega)]; exact ho.2 g hgb
theorem row_mono {w : World} {base base' e n : Nat} {v : Value} {xs : List Value} (h : w.ownsRow base e 1 v n xs) (hb : base' ≤ base) : w.ownsRow base' e 1 v n xs := by
  refine ⟨h.1, ?_⟩
  rcases h.2 with h0 | ⟨g, cap, cur, e1, e2, r⟩
  · exact .inl h0
  · exact .inr ⟨g, cap, cur, e1, by omega, r⟩
theorem row_len {w : World} {base e n m c : Nat} {ad : Option Addr} {xs : List Value} (h : w.ownsRow base e 1 (.slice ad n c) m xs) : n = m := by
  rcases h.2 with ⟨e1, h0⟩ | ⟨g, cap, cur, e1, _⟩
  · simp at e1; omega
  · simp at e1; exact e1.2.1
theorem tag_new {base tag e w w1 v xs} (t : Nat) (hown : w1.ownsRow w.heap.size e 1 v xs.length xs) (hb : Bel w w1) (hbase : base ≤ w.heap.size) :
    ∃ tag', OwnT base tag' t e w1 v xs ∧ ∀ t' e' u zs, OwnT base tag t' e' w u zs → OwnT base tag' t' e' w1 u zs := by
  refine ⟨fun g => if w.heap.size ≤ g then t else tag g, ⟨row_mono hown hbase, fun g hg => ?_⟩, fun t' e' u zs ho => ⟨ownsRow_bel ho.1 hb, fun g hg => ?_⟩⟩
  · have := own_base hown g hg
    simp [this]
  · have := ho.lt hg
    show (if w.heap.size ≤ g then t else tag g) = t'
    rw [if_neg (by omega)]; exact ho.2 g hg
theorem tag_re {base tag t e w v xs} (t2 : Nat) (h : OwnT base tag t e w v xs) : ∃ tag', OwnT base tag' t2 e w v xs ∧ ∀ t' e' u zs, t' ≠ t → OwnT base tag t' e' w u zs → OwnT base tag' t' e' w u zs := by
  refine ⟨fun g => if v.ownBlock = some g then t2 else tag g, ⟨h.1, fun g hg => by simp [hg]⟩, fun t' e' u zs hn ho => ⟨ho.1, fun g hg => ?_⟩⟩
  show (if v.ownBlock = some g then t2 else tag g) = t'
  rw [if_neg (fun e1 => hn ((ho.2 g hg).symm.trans (h.2 g e1)))]
  exact ho.2 g hg
theorem tag_store {base tag t e w g n cap xs} (h : OwnT base tag t e w (.slice (some ⟨g, 0, none⟩) n cap) xs) (j : Nat) (u : Value) :
    OwnT base tag t e (w.setCell ⟨g, j, none⟩ u) (.slice (some ⟨g, 0, none⟩) n cap) (xs.set j u) ∧ Tags base tag w tag (w.setCell ⟨g, j, none⟩ u) t := by
  have hl := row_len h.1
  subst hl
  have hst := h.1.stored j u
  refine ⟨⟨by rw [List.length_set]; exact hst.1, h.2⟩, fun t' e' u' zs hn ho => ⟨ho.1.kept hst.2 ?_, ho.2⟩⟩
  cases hu : u'.ownBlock with
  | none => exact .inl rfl
  | some g' =>
    right
    intro e1
    exact hn ((ho.2 g' hu).symm.trans (h.2 g' e1.symm))
/-- A store into a block of lower number: all rows stay. -/
theorem Tags.low {base tag w t} {p : Addr} (hp : p.block < base) (u : Value) : ∀ e v xs, OwnT base tag t e w v xs → OwnT base tag t e (w.setCell p u) v xs := by
  intro e v xs h
  refine ⟨⟨h.1.1, ?_⟩, h.2⟩
  rcases h.1.2 with h0 | ⟨g, cap, cur, e1, e2, hh, r⟩
  · exact .inl h0
  · exact .inr ⟨g, cap, cur, e1, e2, by rw [Below.heap_setCell w p u g (by omega)]; exact hh, r⟩

theorem row_oneCell {w : World} {base e : Nat} {v : Value} {xs : List Int} (h : w.ownsRow base e 1 v xs.length (xs.map (Value.int .i64))) {n c : Nat} {a : Addr} (hv : v = .slice (some a) n c) (hp : 0 < xs.length) : OwnI a.block (a.block + 1) w v xs := by
  have ho := OwnI.of_row h
  obtain ⟨⟨ad, cap, e1, hc, hm, hr⟩, hf⟩ := ho
  obtain ⟨b, off, e2, h1, h2, h3⟩ := hr hp
  have e3 : some a = some ⟨b, off, none⟩ := by rw [hv] at e1; simp only [Value.slice.injEq] at e1; rw [e1.1, e2]
  simp only [Option.some.injEq] at e3
  subst e3
  exact ⟨⟨ad, cap, e1, hc, hm, fun _ => ⟨b, off, e2, Nat.le_refl _, Nat.lt_succ_self _, h3⟩⟩, hf⟩
/-- The rows of the elements. -/
def InT (base : Nat) (tag : Nat → Nat) (ei : TypeId) (w : World) (us : List Value) (xss : List (List Int)) : Prop :=
  us.length = xss.length ∧ ∀ j u, us[j]? = some u → OwnT base tag (10 + j) ei w u ((xss.getD j []).map (Value.int .i64))
theorem InT.step {base tag ei w tag' w' us xss t} (h : InT base tag ei w us xss) (ht : t < 10) (k : Tags base tag w tag' w' t) : InT base tag' ei w' us xss := ⟨h.1, fun j u hj => k _ _ _ _ (by omega) (h.2 j u hj)⟩
theorem InT.all {base tag ei w tag' w' us xss} (h : InT base tag ei w us xss) (k : ∀ t' e' u zs, OwnT base tag t' e' w u zs → OwnT base tag' t' e' w' u zs) : InT base tag' ei w' us xss := ⟨h.1, fun j u hj => k _ _ _ _ (h.2 j u hj)⟩
theorem InT.nil (base : Nat) (tag : Nat → Nat) (ei : TypeId) (w : World) : InT base tag ei w [] [] := ⟨rfl, fun j u h => by simp at h⟩
theorem InT.bel {base tag ei w w' us xss} (h : InT base tag ei w us xss) (hb : Bel w w') : InT base tag ei w' us xss := ⟨h.1, fun j u hj => (h.2 j u hj).bel hb⟩
/-- A row of tag t becomes the next element. -/
theorem InT.snoc {base tag ei w us xss t v} {xs : List Int} (h : InT base tag ei w us xss) (ho : OwnT base tag t ei w v (xs.map (Value.int .i64))) (ht : t < 10) :
    ∃ tag', InT base tag' ei w (us ++ [v]) (xss ++ [xs]) ∧ ∀ t' e' u zs, t' ≠ t → OwnT base tag t' e' w u zs → OwnT base tag' t' e' w u zs := by
  obtain ⟨tag', h1, h2⟩ := tag_re (10 + us.length) ho
  refine ⟨tag', ⟨by simp [h.1], fun j u hj => ?_⟩, h2⟩
  by_cases e : j < us.length
  · rw [List.getElem?_append_left e] at hj
    have := h2 _ _ _ _ (by omega) (h.2 j u hj)
    rwa [show (xss ++ [xs]).getD j [] = xss.getD j [] from by simp [List.getD, List.getElem?_append_left (show j < xss.length by rw [← h.1]; exact e)]]
  · have hlt := (List.getElem?_eq_some_iff.1 hj).1
    simp at hlt
    obtain rfl : j = us.length := by omega
    rw [List.getElem?_append_right (Nat.le_refl _), Nat.sub_self] at hj
    simp at hj
    subst hj
    rwa [show (xss ++ [xs]).getD us.length [] = xs from by rw [h.1]; simp [List.getD]]
theorem OwnS.of_tag {base tag eo ei w v us xss t} (ho : OwnT base tag t eo w v us) (hi : InT base tag ei w us xss) (ht : t < 10) : OwnS base w.heap.size w v xss := by
  have h1 := ho.1
  rw [hi.1] at h1
  have hblk : ∀ j u, us[j]? = some u → 0 < (xss.getD j []).length → ∃ a n c, u = .slice (some a) n c ∧ u.ownBlock = some a.block ∧ base ≤ a.block ∧ a.block < w.heap.size ∧ tag a.block = 10 + j := by
    intro j u hj hp
    have hx := hi.2 j u hj
    rcases hx.1.2 with ⟨rfl, h0⟩ | ⟨g, cap, cur, rfl, hb, hh, _⟩
    · rw [List.length_map] at h0; omega
    · have hb2 : (Value.slice (some ⟨g, 0, none⟩) ((xss.getD j []).map (Value.int .i64)).length cap).ownBlock = some g := rfl
      exact ⟨⟨g, 0, none⟩, _, cap, rfl, hb2, hb, hx.lt hb2, hx.2 g hb2⟩
  let bs : Nat → Nat := fun j => match us[j]? with | some (.slice (some a) _ _) => a.block | _ => 0
  have hbs : ∀ j u, us[j]? = some u → 0 < (xss.getD j []).length → base ≤ bs j ∧ bs j < w.heap.size ∧ tag (bs j) = 10 + j := by
    intro j u hj hp
    obtain ⟨a, n, c, rfl, _, b1, b2, b3⟩ := hblk j u hj hp
    have : bs j = a.block := by simp only [bs, hj]
    rw [this]; exact ⟨b1, b2, b3⟩
  refine OwnS.of_row (bs := bs) h1 (Nat.le_refl _) fun g hg => ⟨hi.1, fun j hj hp => ?_, fun i j hij hj hpi hpj => ?_, fun j u hj => ?_⟩
  · obtain ⟨u, hu⟩ : ∃ u, us[j]? = some u := ⟨_, List.getElem?_eq_getElem (by rw [hi.1]; exact hj)⟩
    obtain ⟨a1, a2, a3⟩ := hbs j u hu hp
    refine ⟨a1, a2, fun e => ?_⟩
    have := ho.2 g hg
    rw [e] at a3
    omega
  · obtain ⟨u, hu⟩ : ∃ u, us[i]? = some u := ⟨_, List.getElem?_eq_getElem (by rw [hi.1]; omega)⟩
    obtain ⟨u2, hu2⟩ : ∃ u, us[j]? = some u := ⟨_, List.getElem?_eq_getElem (by rw [hi.1]; exact hj)⟩
    obtain ⟨_, _, a3⟩ := hbs i u hu hpi
    obtain ⟨_, _, b3⟩ := hbs j u2 hu2 hpj
    intro e
    rw [e] at a3
    omega
  · have hx := hi.2 j u hj
    by_cases hp : 0 < (xss.getD j []).length
    · obtain ⟨a, n, c, rfl, _, b1, b2, b3⟩ := hblk j u hj hp
      have : bs j = a.block := by simp only [bs, hj]
      rw [this]
      exact row_oneCell (by simpa using hx.1) rfl hp
    · have h0 := len0 hp
      rw [h0] at hx ⊢
      have := OwnI.of_row (xs := []) (by simpa using hx.1)
      exact this.empty
end Go.Proofs.Yteegjnobmbcjiaa
end
section
/- Renaming variables in the order in which they are met. No program. -/
namespace Go.Proofs.Yteegjnobmbcjiaa
open Go.RowKit

def stepM (met : List Int) (n : Int) : List Int := if n < 0 ∧ n ∉ met then met ++ [n] else met
def valM (met : List Int) (n : Int) : Int := if n < 0 then -1 - (met.idxOf n : Int) else n
def metT (met : List Int) (t : List Int) : List Int := t.foldl stepM met
def renT : List Int → List Int → List Int
  | _, [] => []
  | met, x :: r => valM (stepM met x) x :: renT (stepM met x) r
def metS (met : List Int) (l : List (List Int)) : List Int := l.foldl metT met
def renS : List Int → List (List Int) → List (List Int)
  | _, [] => []
  | met, t :: r => renT met t :: renS (metT met t) r

theorem renT_app (met a b : List Int) : renT met (a ++ b) = renT met a ++ renT (metT met a) b := by
  induction a generalizing met with
  | nil => rfl
  | cons x a ih => simp [renT, ih, metT]
theorem renS_app (met : List Int) (a b : List (List Int)) : renS met (a ++ b) = renS met a ++ renS (metS met a) b := by
  induction a generalizing met with
  | nil => rfl
  | cons x a ih => simp [renS, ih, metS]
theorem renT_len (met t : List Int) : (renT met t).length = t.length := by
  induction t generalizing met with
  | nil => rfl
  | cons x t ih => simp [renT, ih]
theorem renS_len (met : List Int) (l : List (List Int)) : (renS met l).length = l.length := by
  induction l generalizing met with
  | nil => rfl
  | cons x t ih => simp [renS, ih]
theorem metT_succ (met t : List Int) (k : Nat) (h : k < t.length) : metT met (t.take (k+1)) = stepM (metT met (t.take k)) (t.getD k 0) := by
  unfold metT
  rw [List.take_succ_eq_append_getElem h, List.foldl_append]
  simp [List.getD, h]
theorem renT_succ (met t : List Int) (k : Nat) (h : k < t.length) : renT met (t.take (k+1)) = renT met (t.take k) ++ [valM (stepM (metT met (t.take k)) (t.getD k 0)) (t.getD k 0)] := by
  rw [List.take_succ_eq_append_getElem h, renT_app]
  simp [renT, List.getD, h]
theorem metS_succ (met : List Int) (l : List (List Int)) (k : Nat) (h : k < l.length) : metS met (l.take (k+1)) = metT (metS met (l.take k)) (l.getD k []) := by
  unfold metS
  rw [List.take_succ_eq_append_getElem h, List.foldl_append]
  simp [List.getD, h]
theorem renS_succ (met : List Int) (l : List (List Int)) (k : Nat) (h : k < l.length) : renS met (l.take (k+1)) = renS met (l.take k) ++ [renT (metS met (l.take k)) (l.getD k [])] := by
  rw [List.take_succ_eq_append_getElem h, renS_app]
  simp [renS, List.getD, h]
/-- Those met are negative. -/
def negM (met : List Int) : Prop := ∀ x ∈ met, x < 0
theorem negM.step {met : List Int} (h : negM met) (n : Int) : negM (stepM met n) := by
  unfold stepM
  split
  · rename_i h1
    intro x hx
    rcases List.mem_append.1 hx with h2 | h2
    · exact h x h2
    · simp at h2; omega
  · exact h
theorem negM.metT {met : List Int} (h : negM met) (t : List Int) : negM (metT met t) := by
  unfold Go.Proofs.Yteegjnobmbcjiaa.metT
  induction t generalizing met with
  | nil => exact h
  | cons x t ih => exact ih (h.step x)
theorem negM.metS {met : List Int} (h : negM met) (l : List (List Int)) : negM (metS met l) := by
  unfold Go.Proofs.Yteegjnobmbcjiaa.metS
  induction l generalizing met with
  | nil => exact h
  | cons x t ih => exact ih (h.metT x)
theorem stepM_mem (met : List Int) (n : Int) (h : n < 0) : n ∈ stepM met n := by
  unfold stepM
  split
  · simp
  · rename_i h1
    exact Classical.byContradiction fun h2 => h1 ⟨h, h2⟩
theorem stepM_len (met : List Int) (n : Int) : (stepM met n).length ≤ met.length + 1 := by unfold stepM; split <;> simp
theorem metT_len (met t : List Int) : (metT met t).length ≤ met.length + t.length := by
  unfold metT
  induction t generalizing met with
  | nil => simp
  | cons x t ih =>
    have h1 := ih (stepM met x)
    have h2 := stepM_len met x
    simp only [List.foldl_cons, List.length_cons]
    omega
theorem metS_len {l : List (List Int)} (met : List Int) (h : ∀ t ∈ l, t.length ≤ 40) : (metS met l).length ≤ met.length + 40 * l.length := by
  unfold metS
  induction l generalizing met with
  | nil => simp
  | cons x t ih =>
    have h1 := ih (metT met x) (fun t ht => h t (List.mem_cons_of_mem _ ht))
    have h2 := metT_len met x
    have h3 := h x List.mem_cons_self
    simp only [List.foldl_cons, List.length_cons]
    omega
theorem stepM_new {met : List Int} {n : Int} (h : n < 0) (h2 : n ∉ met) : stepM met n = met ++ [n] := by unfold stepM; rw [if_pos ⟨h, h2⟩]
theorem stepM_old {met : List Int} {n : Int} (h2 : n ∈ met) : stepM met n = met := by unfold stepM; rw [if_neg (fun h => h.2 h2)]
theorem stepM_sym {met : List Int} {n : Int} (h2 : ¬ n < 0) : stepM met n = met := by unfold stepM; rw [if_neg (fun h => h2 h.1)]
theorem idx_first {M : List Int} {n : Int} {k : Nat} (hk : k < M.length) (he : M.getD k 0 = n) (hn : n ∉ M.take k) : M.idxOf n = k := by
  conv => lhs; rw [← List.take_append_drop k M]
  rw [List.idxOf_append, if_neg hn, List.drop_eq_getElem_cons hk]
  have : M[k] = n := by simpa [List.getD, hk] using he
  rw [this, List.idxOf_cons_self]
  simp; omega
theorem val_found {M : List Int} {n : Int} {k : Nat} (h : negM M) (hk : k < M.length) (he : M.getD k 0 = n) (hn : n ∉ M.take k) : valM M n = -1 - (k : Int) := by
  have h1 : n < 0 := by rw [← he]; exact h _ (by simp [List.getD, hk])
  unfold valM
  rw [if_pos h1, idx_first hk he hn]
theorem val_end {M : List Int} {n : Int} (h : n < 0 → n ∈ M) (hn : n ∉ M) : valM M n = n := by
  unfold valM
  rw [if_neg (fun h1 => hn (h h1))]
theorem not_take_succ {M : List Int} {n : Int} {k : Nat} (hk : k < M.length) (he : M.getD k 0 ≠ n) (hn : n ∉ M.take k) : n ∉ M.take (k+1) := by
  rw [List.take_succ_eq_append_getElem hk, List.mem_append, List.mem_singleton]
  rintro (h | h)
  · exact hn h
  · exact he (by simpa [List.getD, hk] using h.symm)

theorem tag_snoc {base tag t e w w1 v v'} {acc : List Int} {x : Int} (h : OwnT base tag t e w v (acc.map (Value.int .i64))) (hown : w1.ownsRow base e 1 v' ((acc.map (Value.int .i64)).length + 1) (acc.map (Value.int .i64) ++ [.int .i64 x])) (hg : w.grownBy w1 v.ownBlock) (hat : v'.ownBlock = v.ownBlock ∨ v'.ownBlock = some w.heap.size) :
    ∃ tag', OwnT base tag' t e w1 v' ((acc ++ [x]).map (Value.int .i64)) ∧ Tags base tag w tag' w1 t := tag_append h (by simpa using hown) hg hat
theorem tag_snocV {base tag t e w w1 v v' u} {us : List Value} (h : OwnT base tag t e w v us) (hown : w1.ownsRow base e 1 v' (us.length + 1) (us ++ [u])) (hg : w.grownBy w1 v.ownBlock) (hat : v'.ownBlock = v.ownBlock ∨ v'.ownBlock = some w.heap.size) :
    ∃ tag', OwnT base tag' t e w1 v' (us ++ [u]) ∧ Tags base tag w tag' w1 t := tag_append h (by simpa using hown) hg hat
theorem SlI.at {lo hi : Nat} {w : World} {ad : Option Addr} {n c : Nat} {xs : List Int} (h : SlI lo hi w (.slice ad n c) xs) (k : Nat) (hk : k < xs.length) :
    ∃ b off, ad = some ⟨b, off, none⟩ ∧ b < w.heap.size ∧ w.cell? ⟨b, off + k, none⟩ = some (.int .i64 (xs.getD k 0)) := by
  obtain ⟨ad', cap, e, _, _, hr⟩ := h
  obtain ⟨b, off, e2, _, _, hc⟩ := hr (by omega)
  simp only [Value.slice.injEq] at e
  exact ⟨b, off, e.1.trans e2, World.block_lt_of_cell? w ⟨b, off + k, none⟩ (hc k hk), hc k hk⟩
theorem OwnT.sl {base tag t e w v} {xs : List Int} (h : OwnT base tag t e w v (xs.map (Value.int .i64))) : SlI base w.heap.size w v xs := (OwnI.of_row (by simpa using h.1)).sl
theorem Bel.grownT {base tag t e w0 w v xs w' o} (hb : Bel w0 w) (h : OwnT base tag t e w v xs) (hbase : w0.heap.size ≤ base) (g : (w.alloc o).grownBy w' v.ownBlock) : Bel w0 w' :=
  (hb.alloc o).grown g (fun k hk => by have := own_base h.1 k hk; omega)
end Go.Proofs.Yteegjnobmbcjiaa
end
section
/- Copies and joins of slices of ints. -/
namespace Go.Proofs.Yteegjnobmbcjiaa
open Go.RowKit

theorem news_of_sl {lo hi : Nat} {w : World} {a : Addr} {n c : Nat} {xs : List Int} (h : SlI lo hi w (.slice (some a) n c) xs) : ∀ j u, (xs.map (Value.int .i64))[j]? = some u → w.cell? (a.add j) = some u := by
  intro j u hj
  obtain ⟨ad, cap, e, _, _, hr⟩ := h
  simp only [Value.slice.injEq] at e
  have hlt : j < xs.length := by
    have := List.getElem?_eq_some_iff.1 hj
    simpa using this.1
  obtain ⟨b, off, e2, _, _, hc⟩ := hr (by omega)
  rw [← e.1] at e2
  simp only [Option.some.injEq] at e2
  subst e2
  rw [addr_add, hc j hlt]
  simp [hlt] at hj
  simp [List.getD, hlt, hj]
theorem ones_int (xs : List Int) : ∀ u ∈ xs.map (Value.int .i64), u.oneCell' = true := by
  intro u hu; simp at hu; obtain ⟨n, _, rfl⟩ := hu; rfl

/-- A slice of ints that the call itself made, as a row that may grow. -/
def RetR (w : World) (xs : List Int) (e : Ending) (w' : World) : Prop := ∃ ad n c, e = .returned (.slice ad n c) ∧ w'.ownsRow w.heap.size 3 1 (.slice ad n c) xs.length (xs.map (Value.int .i64)) ∧ Bel w w'
theorem RetR.i {w : World} {xs : List Int} {e : Ending} {w' : World} (h : RetR w xs e w') : RetI w xs e w' := by
  obtain ⟨ad, n, c, h1, h2, h3⟩ := h
  exact ⟨ad, n, c, h1, OwnI.of_row h2, h3⟩

set_option maxRecDepth 100000 in
theorem l1Own_r (l h : Nat) (v : Value) (xs : List Int) (w : World) (hx : xs.length ≤ 1048576) (hv : SlI l h w v xs) :
    Calls Try.prog 150 #[v] w (RetR w xs) := by
  obtain ⟨i0, hi0, hz0, hz1, hz2⟩ := info_parts Try.info3
  have hv0 := hv
  obtain ⟨ad, cap, rfl, -, hm, hr⟩ := hv
  have hown : (w.alloc (.cells #[] 3)).ownsRow w.heap.size 3 1 (.slice (some ⟨w.heap.size, 0, none⟩) 0 0) ([] : List Int).length (([] : List Int).map (Value.int .i64)) :=
    World.ownsRow_lit w #[] 0 (Nat.le_refl _) (Nat.zero_le _) rfl
  cases ad with
  | none =>
    obtain rfl : xs = [] := by
      rcases Nat.eq_zero_or_pos xs.length with h0 | h0
      · exact List.length_eq_zero_iff.1 h0
      · obtain ⟨_, _, e, _⟩ := hr h0; simp at e
    obtain rfl : cap = 0 := hm.2 rfl
    clear hr hm hv0
    go_enter Try.func150, Try.ntmps150
    go_wp2_with (at_builtin; refine wpList_append_own_none rfl _ _ 22 rfl w.heap.size 3 i0 1 Try.underlying22 hi0 _ _ _ rfl hown rfl ?_)
    go_ret
    exact ⟨_, _, _, rfl, hown, Bel.alloc0 _ _⟩
  | some a =>
    have hn := news_of_sl (hv0.alloc (.cells #[] 3))
    clear hr hm
    go_enter Try.func150, Try.ntmps150
    go_wp2_with (at_builtin; refine wpList_append_own _ rfl _ _ 22 rfl w.heap.size 3 i0 (.int .i64 0) 1 8 Try.underlying22 hi0 hz0 hz1 hz2 rfl (by decide) _ _ _ rfl hown a xs.length cap (xs.map (Value.int .i64)) rfl (by simp) hn (ones_int _) (by unfold maxLen; simp; omega) (by simp; omega) (by simp) ?_; intro v' w1 hown' hgrow _)
    have hb1 := (Bel.alloc0 w (.cells #[] 3)).grown hgrow (fun k hk => own_base hown k hk)
    have hown2 : w1.ownsRow w.heap.size 3 1 v' xs.length (xs.map (Value.int .i64)) := by simpa using hown'
    obtain ⟨g, n, c, rfl⟩ := own_form hown2
    go_ret
    exact ⟨_, _, _, rfl, hown2, hb1⟩
theorem l1Own_c (l h : Nat) (v : Value) (xs : List Int) (w : World) (hx : xs.length ≤ 1048576) (hv : SlI l h w v xs) :
    Calls Try.prog 150 #[v] w (RetI w xs) := (l1Own_r l h v xs w hx hv).mono fun _ _ h => h.i

set_option maxRecDepth 100000 in
theorem clone_c (l h : Nat) (v : Value) (xs : List Int) (w : World) (hx : xs.length ≤ 1048576) (hv : SlI l h w v xs) :
    Calls Try.prog 117 #[v] w (RetI w xs) := by
  obtain ⟨i0, hi0, hz0, hz1, hz2⟩ := info_parts Try.info3
  have hv0 := hv
  obtain ⟨ad, cap, rfl, -, hm, hr⟩ := hv
  have hown : (w.alloc (.cells #[] 3)).ownsRow w.heap.size 3 1 (.slice (some ⟨w.heap.size, 0, none⟩) 0 0) ([] : List Int).length (([] : List Int).map (Value.int .i64)) :=
    World.ownsRow_lit w #[] 0 (Nat.le_refl _) (Nat.zero_le _) rfl
  cases ad with
  | none =>
    obtain rfl : xs = [] := by
      rcases Nat.eq_zero_or_pos xs.length with h0 | h0
      · exact List.length_eq_zero_iff.1 h0
      · obtain ⟨_, _, e, _⟩ := hr h0; simp at e
    obtain rfl : cap = 0 := hm.2 rfl
    clear hr hm hv0
    have hk := fun (w : World) (a : Option Addr) (n c : Nat) => Lib.run_eql_slice_nil (P := Try.prog) w 22 3 a n c 0 0 Try.underlying22
    go_enter Try.func117, Try.ntmps117
    go_wp2_with fail
    go_ret
    exact ⟨_, _, _, rfl, OwnI.nil _ _ _, Bel.rfl' _⟩
  | some a =>
    have hn := news_of_sl (hv0.alloc (.cells #[] 3))
    clear hr hm
    have hk := fun (w : World) (a : Option Addr) (n c : Nat) => Lib.run_eql_slice_nil (P := Try.prog) w 22 3 a n c 0 0 Try.underlying22
    go_enter Try.func117, Try.ntmps117
    go_wp2_with (at_builtin; refine wpList_append_own _ rfl _ _ 22 rfl w.heap.size 3 i0 (.int .i64 0) 1 8 Try.underlying22 hi0 hz0 hz1 hz2 rfl (by decide) _ _ _ rfl hown a xs.length cap (xs.map (Value.int .i64)) rfl (by simp) hn (ones_int _) (by unfold maxLen; simp; omega) (by simp; omega) (by simp) ?_; intro v' w1 hown' hgrow _)
    have hb1 := (Bel.alloc0 w (.cells #[] 3)).grown hgrow (fun k hk => own_base hown k hk)
    have hown2 : w1.ownsRow w.heap.size 3 1 v' xs.length (xs.map (Value.int .i64)) := by simpa using hown'
    obtain ⟨g, n, c, rfl⟩ := own_form hown2
    go_ret
    exact ⟨_, _, _, rfl, OwnI.of_row hown2, hb1⟩

/-- A cut of a slice. -/
theorem SlI.cut {lo hi : Nat} {w : World} {b off n c : Nat} {xs : List Int} (h : SlI lo hi w (.slice (some ⟨b, off, none⟩) n c) xs) (i j : Nat) (hij : i ≤ j) (hj : j ≤ xs.length) :
    SlI lo hi w (.slice (some ⟨b, off + i, none⟩) (j - i) (c - i)) ((xs.drop i).take (j - i)) := by
  obtain ⟨ad, cap, e, hc, hm, hr⟩ := h
  simp only [Value.slice.injEq] at e
  obtain ⟨rfl, rfl, rfl⟩ := e
  have hl : ((xs.drop i).take (j - i)).length = j - i := by simp; omega
  refine ⟨_, c - i, by rw [hl], by rw [hl]; omega, ⟨by have := hm.1; omega, fun h => by simp at h⟩, fun hp => ?_⟩
  rw [hl] at hp
  obtain ⟨b', off', e2, a1, a2, a3⟩ := hr (by omega)
  simp only [Option.some.injEq, Addr.mk.injEq, and_true] at e2
  obtain ⟨rfl, rfl⟩ := e2
  refine ⟨b, off + i, rfl, a1, a2, fun k hk => ?_⟩
  rw [hl] at hk
  rw [show off + i + k = off + (i + k) from by omega, a3 (i + k) (by omega)]
  simp [List.getD, hk, List.getElem?_drop]

/-- The head of a slice that is not nil lies at a plain address. -/
theorem SlI.plain {lo hi : Nat} {w : World} {v : Value} {xs : List Int} (h : SlI lo hi w v xs) (hp : 0 < xs.length) : ∃ b off c, v = .slice (some ⟨b, off, none⟩) xs.length c ∧ xs.length ≤ c := by
  obtain ⟨ad, cap, rfl, hc, hm, hr⟩ := h
  obtain ⟨b, off, rfl, _⟩ := hr hp
  exact ⟨b, off, cap, rfl, hc⟩

set_option maxRecDepth 100000 in
theorem grow_c (n : Nat) (w : World) (hn : n ≤ 1099511627776) :
    Calls Try.prog 153 #[.slice none 0 0, .int .i64 n] w fun e w' => ∃ ad m c, e = .returned (.slice ad m c) ∧ w'.ownsRow w.heap.size 3 1 (.slice ad m c) ([] : List Int).length (([] : List Int).map (Value.int .i64)) ∧ Bel w w' := by
  obtain ⟨i0, hi0, hz0, hz1, hz2⟩ := info_parts Try.info3
  rcases Nat.eq_zero_or_pos n with rfl | hp
  · go_enter Try.func153, Try.ntmps153
    go_wp2_with fail
    go_ret
    exact ⟨_, _, _, rfl, World.ownsRow_nil _ _ _ _, Bel.rfl' _⟩
  · have hrun := Lib.run_append_nil_zeros (P := Try.prog) w 22 3 22 3 i0 (.int .i64 0) .i64 .i64 Try.underlying22 Try.underlying3 hi0 hz0 n hp (by omega) (by omega) (by rw [hz2]; omega)
    go_enter Try.func153, Try.ntmps153
    go_wp2_with (at_builtin; refine Lib.wpList_append_run _ rfl _ _ _ _ rfl _ _ rfl rfl _ _ hrun ?_)
    go_ret
    refine ⟨_, _, _, rfl, ⟨by simp, .inr ⟨w.heap.size, grownCap w n 0 3, _, rfl, Nat.le_refl _, heap_alloc_new w _, Nat.zero_le _, grownCap_le_maxLen w n 0 3 (by unfold maxLen; omega), ?_, by simp⟩⟩, (Bel.alloc0 w _).drew⟩
    have := grownCap_ge w n 0 3
    simp [size_zeroCells]
    omega

/-- A slice of slices of ints, as Concat reads it. -/
def PartsAt (lo hi : Nat) (w : World) (B o : Nat) (L : List (List Int)) : Prop :=
  ∀ j, j < L.length → ∃ ad c, w.cell? ⟨B, o + j, none⟩ = some (.slice ad (L.getD j []).length c) ∧ SlI lo hi w (.slice ad (L.getD j []).length c) (L.getD j [])
theorem PartsAt.below {lo hi : Nat} {w w' : World} {B o : Nat} {L : List (List Int)} (h : PartsAt lo hi w B o L) (hb : Bel w w') : PartsAt lo hi w' B o L := fun j hj => by
  obtain ⟨ad, c, h1, h2⟩ := h j hj
  exact ⟨ad, c, hb.at (World.block_lt_of_cell? w ⟨B, o + j, none⟩ h1) h1, h2.below hb⟩
def sumLen (L : List (List Int)) : Nat := (L.map List.length).sum
theorem sumLen_take (L : List (List Int)) (j : Nat) (h : j < L.length) : sumLen (L.take (j+1)) = sumLen (L.take j) + (L.getD j []).length := by
  unfold sumLen
  rw [List.take_succ_eq_append_getElem h, List.map_append, List.sum_append]
  simp only [List.map_cons, List.map_nil, List.sum_cons, List.sum_nil, Nat.add_zero]
  simp [List.getD, h]
theorem sumLen_le (L : List (List Int)) (j : Nat) : sumLen (L.take j) ≤ sumLen L := by
  unfold sumLen
  conv => rhs; rw [← List.take_append_drop j L]
  rw [List.map_append, List.sum_append]
  exact Nat.le_add_right _ _
theorem flat_take (L : List (List Int)) (j : Nat) (h : j < L.length) : (L.take (j+1)).flatten = (L.take j).flatten ++ L.getD j [] := by
  rw [List.take_succ_eq_append_getElem h, List.flatten_append]
  simp only [List.flatten_cons, List.flatten_nil, List.append_nil]
  simp [List.getD, h]
theorem flat_len (L : List (List Int)) : L.flatten.length = sumLen L := by simp [sumLen, List.length_flatten]

set_option maxRecDepth 100000 in
set_option maxHeartbeats 1000000 in
theorem concat_c (lo hi B o c : Nat) (L : List (List Int)) (w : World) (hL : L.length ≤ 1048576) (hs : sumLen L ≤ 1099511627776) (hp : PartsAt lo hi w B o L) :
    Calls Try.prog 130 #[.slice (some ⟨B, o, none⟩) L.length c] w (RetI w L.flatten) := by
  obtain ⟨i0, hi0, hz0, hz1, hz2⟩ := info_parts Try.info3
  go_enter Try.func130, Try.ntmps130
  go_wp2_with fail
  go_loop [3, 11] (fun n i => ∃ j : Nat, j ≤ L.length ∧ i = .int .i64 j ∧ n = .int .i64 (sumLen (L.take j))) (fun _ i => L.length - (intOf i).toNat)
  case atStart => exact ⟨0, Nat.zero_le _, rfl, by simp [sumLen]⟩
  case round =>
    obtain ⟨j, hj, rfl, rfl⟩ := hrel
    have hle := sumLen_le L j
    by_cases hlt : j < L.length
    · obtain ⟨ad, cc, hcell, hsl⟩ := hp j hlt
      have E := Lib.hid (sumLen_take L j hlt)
      have hle2 := sumLen_le L (j + 1)
      rw [E.out] at hle2
      clear hp hsl
      generalize L.getD j [] = xs at *
      generalize sumLen (L.take j) = m at *
      go_wp2_with fail
      go_round
      case rel => exact ⟨j + 1, by omega, by go_num, by rw [E.out]; go_num⟩
      case measure => simp [intOf]; omega
    · have e1 : L.take j = L := List.take_of_length_le (by omega)
      rw [e1]
      clear e1
      go_wp2_with fail
      refine (grow_c (sumLen L) _ (by omega)).mono ?_; rintro e w1 ⟨ad, m, c1, rfl, hown, hb⟩
      go_wp2_with fail
      go_loopw [6, 27] (fun v i wr => ∃ j : Nat, j ≤ L.length ∧ i = .int .i64 j ∧ wr.ownsRow w.heap.size 3 1 v (L.take j).flatten.length ((L.take j).flatten.map (Value.int .i64)) ∧ Bel w wr) (fun _ i _ => L.length - (intOf i).toNat)
      case atStart => exact ⟨0, Nat.zero_le _, rfl, by simpa using hown, hb⟩
      case round =>
        obtain ⟨j, hj, rfl, hown, hb⟩ := hrel
        have hle := sumLen_le L j
        rw [← flat_len] at hle
        by_cases hlt : j < L.length
        · obtain ⟨ad, cc, hcell, hsl⟩ := (hp.below hb) j hlt
          have E := Lib.hid (flat_take L j hlt)
          have hle2 := sumLen_le L (j + 1)
          rw [← flat_len, E.out, List.length_append] at hle2
          clear hp
          generalize L.getD j [] = xs at *
          generalize (L.take j).flatten = acc at *
          cases ad with
          | none =>
            obtain ⟨ad', cap', e, -, hm, hr⟩ := hsl
            simp only [Value.slice.injEq] at e
            obtain ⟨rfl, -, rfl⟩ := e
            obtain rfl : xs = [] := by
              rcases Nat.eq_zero_or_pos xs.length with h0 | h0
              · exact List.length_eq_zero_iff.1 h0
              · obtain ⟨_, _, e, _⟩ := hr h0; simp at e
            obtain rfl : cc = 0 := hm.2 rfl
            have E2 := Lib.hid (show (L.take (j+1)).flatten = acc by rw [E.out]; simp)
            clear hr hm E
            go_wp2_with (at_builtin; refine wpList_append_own_none rfl _ _ 22 rfl w.heap.size 3 i0 1 Try.underlying22 hi0 _ _ _ rfl hown rfl ?_)
            go_roundw
            case rel => exact ⟨j + 1, by omega, by go_num, by rw [E2.out]; exact hown, hb⟩
            case measure => simp [intOf]; omega
          | some a =>
            have hn := news_of_sl hsl
            clear hsl
            go_wp2_with (at_builtin; refine wpList_append_own _ rfl _ _ 22 rfl w.heap.size 3 i0 (.int .i64 0) 1 8 Try.underlying22 hi0 hz0 hz1 hz2 rfl (by decide) _ _ _ rfl hown a xs.length cc (xs.map (Value.int .i64)) rfl (by simp) hn (ones_int _) (by unfold maxLen; omega) (by omega) hb.size ?_; intro v' w2 hown' hgrow _)
            have hb2 := hb.grown hgrow (fun k hk => own_base hown k hk)
            have hown2 : w2.ownsRow w.heap.size 3 1 v' (acc ++ xs).length ((acc ++ xs).map (Value.int .i64)) := by simpa using hown'
            go_roundw
            case rel => exact ⟨j + 1, by omega, by go_num, by rw [E.out]; exact hown2, hb2⟩
            case measure => simp [intOf]; omega
        · have e1 : L.take j = L := List.take_of_length_le (by omega)
          rw [e1] at hown
          clear e1
          go_wp2_with fail
          obtain ⟨g, n, c2, hv⟩ := own_form hown
          subst hv
          go_ret
          exact ⟨_, _, _, rfl, OwnI.of_row hown, hb⟩

/-- Three slices in a new block, joined. -/
theorem concat3_c (lo hi : Nat) (p0 p1 p2 : Option Addr) (n0 n1 n2 c0 c1 c2 : Nat) (x0 x1 x2 : List Int) (w : World) (hs : x0.length + x1.length + x2.length ≤ 1099511627776)
    (h0 : SlI lo hi w (.slice p0 n0 c0) x0) (h1 : SlI lo hi w (.slice p1 n1 c1) x1) (h2 : SlI lo hi w (.slice p2 n2 c2) x2) (t : TypeId) :
    Calls Try.prog 130 #[.slice (some ⟨w.heap.size, 0, none⟩) 3 3] (w.alloc (.cells #[.slice p0 n0 c0, .slice p1 n1 c1, .slice p2 n2 c2] t)).drew (RetI (w.alloc (.cells #[.slice p0 n0 c0, .slice p1 n1 c1, .slice p2 n2 c2] t)).drew (x0 ++ x1 ++ x2)) := by
  have e0 : n0 = x0.length := by obtain ⟨ad, c, e, _⟩ := h0; simp at e; exact e.2.1
  have e1 : n1 = x1.length := by obtain ⟨ad, c, e, _⟩ := h1; simp at e; exact e.2.1
  have e2 : n2 = x2.length := by obtain ⟨ad, c, e, _⟩ := h2; simp at e; exact e.2.1
  subst e0 e1 e2
  have hb : Bel w (w.alloc (.cells #[.slice p0 x0.length c0, .slice p1 x1.length c1, .slice p2 x2.length c2] t)).drew := (Bel.alloc0 w _).drew
  have hp : PartsAt lo hi (w.alloc (.cells #[.slice p0 x0.length c0, .slice p1 x1.length c1, .slice p2 x2.length c2] t)).drew w.heap.size 0 [x0, x1, x2] := by
    intro j hj
    match j, hj with
    | 0, _ => exact ⟨p0, c0, (World.cell?_alloc_new w _ t 0).trans (by simp), h0.below hb⟩
    | 1, _ => exact ⟨p1, c1, (World.cell?_alloc_new w _ t 1).trans (by simp), h1.below hb⟩
    | 2, _ => exact ⟨p2, c2, (World.cell?_alloc_new w _ t 2).trans (by simp), h2.below hb⟩
  have := concat_c lo hi w.heap.size 0 3 [x0, x1, x2] _ (by simp) (by simp [sumLen]; omega) hp
  simpa using this
end Go.Proofs.Yteegjnobmbcjiaa
end
section
/- RenameOf: the inner functions. -/
namespace Go.Proofs.Yteegjnobmbcjiaa
open Go.RowKit

set_option maxRecDepth 100000 in
set_option maxHeartbeats 400000 in
theorem l1Has_c (l h : Nat) (v : Value) (t : List Int) (n : Int) (w : World) (ht : t.length ≤ 1048576) (hv : SlI l h w v t) :
    Calls Try.prog 151 #[v, .int .i64 n] w (RetV w (.bool (decide (n ∈ t)))) := by
  obtain ⟨ad, cap, rfl⟩ := hv.form
  go_enter Try.func151, Try.ntmps151
  go_wp2_with fail
  go_loop [9] (fun i => ∃ k : Nat, k ≤ t.length ∧ i = .int .i64 k ∧ n ∉ t.take k) (fun i => t.length - (intOf i).toNat)
  case atStart => exact ⟨0, Nat.zero_le _, rfl, by simp⟩
  case round =>
    obtain ⟨k, hk, rfl, hn⟩ := hrel
    by_cases hlt : k < t.length
    · obtain ⟨b, off, rfl, -, hcell⟩ := hv.at k hlt
      have E1 := Lib.hid (fun h => not_take_succ hlt (n := n) h hn)
      have E2 := Lib.hid (show t.getD k 0 = n → n ∈ t from fun h => by rw [← h]; simp [List.getD, hlt])
      clear hn hv
      generalize t.getD k 0 = x at *
      by_cases hx : x = n
      · have E : Hid (decide (n ∈ t) = true) := by show _ = _; simpa using E2.out hx
        have hx' : (x == n) = true := by simpa using hx
        clear hx E1 E2
        go_wp2_with fail
        go_ret
        exact ⟨by rw [E.out]; rfl, Bel.rfl' _⟩
      · have E := Lib.hid (E1.out hx)
        have hx' : (x == n) = false := by simpa using hx
        clear hx E1 E2
        go_wp2_with fail
        go_round
        case rel => exact ⟨k+1, by omega, by go_num, E.out⟩
        case measure => simp [intOf]; omega
    · have E : Hid (decide (n ∈ t) = false) := by show _ = _; rw [List.take_of_length_le (by omega)] at hn; simpa using hn
      clear hn
      go_wp2_with fail
      go_ret
      exact ⟨by rw [E.out]; rfl, Bel.rfl' _⟩
theorem l1Has_v (l h : Nat) (v : Value) (t : List Int) (n : Int) (q : Bool) (w : World) (he : decide (n ∈ t) = q) (ht : t.length ≤ 1048576) (hv : SlI l h w v t) :
    Calls Try.prog 151 #[v, .int .i64 n] w (RetV w (.bool q)) := he ▸ l1Has_c l h v t n w ht hv

def rows40 (l : List (List Int)) : Prop := l.length ≤ 20 ∧ ∀ j, j < l.length → (l.getD j []).length ≤ 40 ∧ ∀ k, k < (l.getD j []).length → -12 ≤ (l.getD j []).getD k 0
theorem rows40.mem {l : List (List Int)} (h : rows40 l) : ∀ t ∈ l, t.length ≤ 40 := by
  intro t ht
  obtain ⟨j, hj, rfl⟩ := List.getElem_of_mem ht
  have := (h.2 j hj).1
  simpa [List.getD, hj] using this
theorem rows40.met {l : List (List Int)} (h : rows40 l) (k : Nat) : (metS [] (l.take k)).length ≤ 800 := by
  have h1 := metS_len (l := l.take k) [] (fun t ht => h.mem t (List.mem_of_mem_take ht))
  have h2 := h.1
  simp at h1
  omega
theorem news_oneV (w : World) (x : Value) (t : TypeId) : ∀ j u, [x][j]? = some u → (w.alloc (.cells #[x] t)).cell? ((⟨w.heap.size, 0, none⟩ : Addr).add j) = some u := news_one w x t
theorem one_slice (a : Option Addr) (n c : Nat) : ∀ u ∈ [Value.slice a n c], u.oneCell' = true := by intro u hu; simp at hu; subst hu; rfl

set_option maxRecDepth 100000 in
set_option maxHeartbeats 2000000 in
theorem l2Rename_c (lo hi : Nat) (v : Value) (l : List (List Int)) (w : World) (hl : rows40 l) (hv : SlS lo hi w v l) :
    Calls Try.prog 123 #[v] w (RetSS w (renS [] l)) := by
  obtain ⟨ad, cap, rfl⟩ := hv.form
  obtain ⟨i0, hi0, hz0, hz1, hz2⟩ := info_parts Try.info3
  obtain ⟨i1, hi1, hy0, hy1, hy2⟩ := info_parts Try.info22
  have hl20 := hl.1
  go_enter Try.func123, Try.ntmps123
  go_wp2_with fail
  go_loopw [3, 4, 14] (fun vm vo i wr => ∃ (k : Nat) (tag : Nat → Nat) (us : List Value), k ≤ l.length ∧ i = .int .i64 k ∧ OwnT w.heap.size tag 0 3 wr vm ((metS [] (l.take k)).map (Value.int .i64)) ∧ OwnT w.heap.size tag 2 22 wr vo us ∧ InT w.heap.size tag 3 wr us (renS [] (l.take k)) ∧ Bel w wr) (fun _ _ i _ => l.length - (intOf i).toNat)
  case atStart => exact ⟨0, fun _ => 0, [], Nat.zero_le _, rfl, OwnT.nil _ _ _ _ _, OwnT.nil _ _ _ _ _, InT.nil _ _ _ _, Bel.rfl' _⟩
  case round =>
    obtain ⟨k, tag, us, hk, rfl, hM, hO, hI, hb⟩ := hrel
    by_cases hlt : k < l.length
    · obtain ⟨b1, off1, p, rfl, hbl1, hc1w, hp⟩ := hv.at (Bel.rfl' w) k hlt
      have hc1 := hb.at hbl1 hc1w
      have hms := metS_succ [] l k hlt
      have hrs := renS_succ [] l k hlt
      have hml := hl.met k
      have hneg : negM (metS [] (l.take k)) := negM.metS (by intro x hx; simp at hx) _
      obtain ⟨ht40, htl⟩ := hl.2 k hlt
      have hiL : us.length = (renS [] (l.take k)).length := hI.1
      rw [renS_len, List.length_take] at hiL
      generalize hMt : metS [] (l.take k) = M at *
      generalize hRt : renS [] (l.take k) = R at *
      generalize hMt2 : metS [] (l.take (k+1)) = M2 at *
      generalize hRt2 : renS [] (l.take (k+1)) = R2 at *
      generalize l.getD k [] = t at *
      have HSS := Lib.hid (And.intro hms (And.intro hrs (And.intro hMt2 hRt2)))
      have HNG := Lib.hid hneg
      clear hms hrs hMt hRt hMt2 hRt2 hneg
      obtain ⟨ap, cp, rfl⟩ := hp.form
      go_wp2_with fail
      go_loopw [3, 7, 20] (fun vm vx i wr => ∃ (j : Nat) (tag : Nat → Nat), j ≤ t.length ∧ i = .int .i64 j ∧ OwnT w.heap.size tag 0 3 wr vm ((metT M (t.take j)).map (Value.int .i64)) ∧ OwnT w.heap.size tag 1 3 wr vx ((renT M (t.take j)).map (Value.int .i64)) ∧ OwnT w.heap.size tag 2 22 wr u4 us ∧ InT w.heap.size tag 3 wr us R ∧ Bel w wr) (fun _ _ i _ => t.length - (intOf i).toNat)
      case atStart => exact ⟨0, tag, Nat.zero_le _, rfl, hM, OwnT.nil _ _ _ _ _, hO, hI, hb⟩
      case round =>
        clear hM hO hI
        obtain ⟨i, tag1, hi, rfl, hM, hX, hO, hI, hb1⟩ := hrel
        by_cases hlt2 : i < t.length
        · obtain ⟨b2, off2, rfl, -, hc2⟩ := (hp.below hb1).at i hlt2
          have hsm := metT_succ M t i hlt2
          have hsr := renT_succ M t i hlt2
          have hn12 := htl i hlt2
          have hml2 := metT_len M (t.take i)
          have hxl := renT_len M (t.take i)
          rw [List.length_take] at hml2 hxl
          have hng := HNG.out.metT (t.take i)
          generalize hq1 : metT M (t.take i) = M1 at *
          generalize hq2 : renT M (t.take i) = X1 at *
          generalize hq3 : metT M (t.take (i+1)) = M3 at *
          generalize hq4 : renT M (t.take (i+1)) = X3 at *
          generalize t.getD i 0 = n at *
          have hst := hng.step n
          have hmem := stepM_mem M1 n
          by_cases hneg : n < 0
          · by_cases hin : n ∈ M1
            · rw [stepM_old hin] at hsm hsr hst hmem
              have HS := Lib.hid (And.intro (hq3.trans hsm) (hq4.trans hsr))
              have HN := Lib.hid hst
              have HE := Lib.hid hmem
              clear hq1 hq2 hq3 hq4 hsm hsr hst hmem hng
              obtain ⟨am, nm, cm, rfl⟩ := own_form hM.1
              have hnm := row_len hM.1
              rw [List.length_map] at hnm
              subst hnm
              have hin' : decide (n ∈ M1) = true := by simpa using hin
              clear hin
              go_wp2_with (go_at_call 151; refine (l1Has_v _ _ _ M1 n true _ hin' (by omega) hM.sl).mono ?_; rintro e w2 ⟨rfl, hb2⟩)
              replace hM := hM.bel hb2
              replace hX := hX.bel hb2
              replace hO := hO.bel hb2
              replace hI := hI.bel hb2
              have hbn := hb1.step hb2
              have hMs := hM.sl
              clear hb2
              go_wp2_with fail
              go_loop [9, 38] (fun x i => ∃ k : Nat, k ≤ (M1).length ∧ i = .int .i64 k ∧ x = .int .i64 n ∧ n ∉ (M1).take k) (fun _ i => (M1).length - (intOf i).toNat)
              case atStart => exact ⟨0, Nat.zero_le _, rfl, rfl, by simp⟩
              case round =>
                obtain ⟨j, hj, rfl, rfl, hnj⟩ := hrel
                by_cases hjl : j < (M1).length
                · obtain ⟨b3, off3, rfl, -, hcell3⟩ := hMs.at j hjl
                  have E1 := Lib.hid (fun h => not_take_succ hjl (n := n) h hnj)
                  have E2 := Lib.hid (fun h => val_found HN.out hjl (n := n) h hnj)
                  clear hnj hMs
                  generalize (M1).getD j 0 = y at *
                  by_cases hy : y = n
                  · have EV := Lib.hid (E2.out hy)
                    have hy' : (y == n) = true := by simpa using hy
                    clear hy E1 E2
                    have hw9 := IntWalk.i64_in (-1 - (j : Int)) (by omega)
                    go_wp2_with (at_builtin; refine wpList_append_own_at _ rfl _ _ 22 rfl w.heap.size 3 i0 (.int .i64 0) 1 8 Try.underlying22 hi0 hz0 hz1 hz2 rfl (by decide) _ _ _ rfl (hX.alloc _).1 _ _ _ [.int .i64 (-1 - (j : Int))] rfl rfl (news_one _ _ _) (one_int _) (by unfold maxLen; simp only [List.length_map]; omega) (by simp only [List.length_map]; omega) (by have := hbn.size; simp; omega) ?_; intro v' w1 hown' hgrow _ hat)
                    obtain ⟨tag3, hX3, hT3⟩ := tag_snoc (hX.alloc _) hown' hgrow hat
                    have hM3 := hT3 _ _ _ _ (by omega) (hM.alloc _)
                    have hO3 := hT3 _ _ _ _ (by omega) (hO.alloc _)
                    have hI3 := (hI.bel (Bel.alloc0 _ _)).step (by omega) hT3
                    have hb3 := hbn.grownT hX (Nat.le_refl _) hgrow
                    go_roundw
                    case rel => exact ⟨i+1, tag3, by omega, by go_num, by rw [HS.out.1]; exact hM3, by rw [HS.out.2, EV.out]; exact hX3, hO3, hI3, hb3⟩
                    case measure => simp [intOf]; omega
                  · have E := Lib.hid (E1.out hy)
                    have hy' : (y == n) = false := by simpa using hy
                    clear hy E1 E2
                    go_wp2_with fail
                    go_round
                    case rel => exact ⟨j+1, by omega, by go_num, rfl, E.out⟩
                    case measure => simp [intOf]; omega
                · have EV : Hid (valM (M1) n = n) := by show _ = _; exact val_end HE.out (by rw [List.take_of_length_le (by omega)] at hnj; exact hnj)
                  clear hnj
                  go_wp2_with (at_builtin; refine wpList_append_own_at _ rfl _ _ 22 rfl w.heap.size 3 i0 (.int .i64 0) 1 8 Try.underlying22 hi0 hz0 hz1 hz2 rfl (by decide) _ _ _ rfl (hX.alloc _).1 _ _ _ [.int .i64 (n)] rfl rfl (news_one _ _ _) (one_int _) (by unfold maxLen; simp only [List.length_map]; omega) (by simp only [List.length_map]; omega) (by have := hbn.size; simp; omega) ?_; intro v' w1 hown' hgrow _ hat)
                  obtain ⟨tag3, hX3, hT3⟩ := tag_snoc (hX.alloc _) hown' hgrow hat
                  have hM3 := hT3 _ _ _ _ (by omega) (hM.alloc _)
                  have hO3 := hT3 _ _ _ _ (by omega) (hO.alloc _)
                  have hI3 := (hI.bel (Bel.alloc0 _ _)).step (by omega) hT3
                  have hb3 := hbn.grownT hX (Nat.le_refl _) hgrow
                  go_roundw
                  case rel => exact ⟨i+1, tag3, by omega, by go_num, by rw [HS.out.1]; exact hM3, by rw [HS.out.2, EV.out]; exact hX3, hO3, hI3, hb3⟩
                  case measure => simp [intOf]; omega
            · rw [stepM_new hneg hin] at hsm hsr hst hmem
              have HS := Lib.hid (And.intro (hq3.trans hsm) (hq4.trans hsr))
              have HN := Lib.hid hst
              have HE := Lib.hid hmem
              clear hq1 hq2 hq3 hq4 hsm hsr hst hmem hng
              obtain ⟨am, nm, cm, rfl⟩ := own_form hM.1
              have hnm := row_len hM.1
              rw [List.length_map] at hnm
              subst hnm
              have hin' : decide (n ∈ M1) = false := by simpa using hin
              clear hin
              obtain ⟨M4, hM4⟩ : ∃ M4, M4 = M1 ++ [n] := ⟨_, rfl⟩
              have HM4 := Lib.hid hM4
              clear hM4
              go_wp2_with (first | (go_at_call 151; refine (l1Has_v _ _ _ M1 n false _ hin' (by omega) hM.sl).mono ?_; rintro e w2 ⟨rfl, hb2⟩; replace hM := hM.bel hb2; replace hX := hX.bel hb2; replace hO := hO.bel hb2; replace hI := hI.bel hb2; have hbn0 := hb1.step hb2; clear hb2) | (at_builtin; refine wpList_append_own_at _ rfl _ _ 22 rfl w.heap.size 3 i0 (.int .i64 0) 1 8 Try.underlying22 hi0 hz0 hz1 hz2 rfl (by decide) _ _ _ rfl (hM.alloc _).1 _ _ _ [.int .i64 n] rfl rfl (news_one _ _ _) (one_int _) (by unfold maxLen; simp only [List.length_map]; omega) (by simp only [List.length_map]; omega) (by have := hbn0.size; simp; omega) ?_; intro v' w1 hown' hgrow _ hat; obtain ⟨am2, nm2, cm2, rfl⟩ := own_form hown'; have hnm2 : nm2 = M4.length := (by have := row_len hown'; rw [HM4.out]; simpa using this); subst hnm2))
              obtain ⟨tag2, hM2, hT2⟩ := tag_snoc (hM.alloc _) hown' hgrow hat
              replace hX := hT2 _ _ _ _ (by omega) (hX.alloc _)
              replace hO := hT2 _ _ _ _ (by omega) (hO.alloc _)
              replace hI := (hI.bel (Bel.alloc0 _ _)).step (by omega) hT2
              have hbn := hbn0.grownT hM (Nat.le_refl _) hgrow
              clear hM hown' hgrow hat hT2 hbn0
              have hM := hM2
              clear hM2
              rw [← HM4.out] at hM HS HN HE
              have hMs := hM.sl
              have hml3 : M4.length ≤ 900 := by rw [HM4.out]; simp; omega
              go_wp2_with fail
              go_loop [9, 38] (fun x i => ∃ k : Nat, k ≤ (M4).length ∧ i = .int .i64 k ∧ x = .int .i64 n ∧ n ∉ (M4).take k) (fun _ i => (M4).length - (intOf i).toNat)
              case atStart => exact ⟨0, Nat.zero_le _, rfl, rfl, by simp⟩
              case round =>
                obtain ⟨j, hj, rfl, rfl, hnj⟩ := hrel
                by_cases hjl : j < (M4).length
                · obtain ⟨b3, off3, rfl, -, hcell3⟩ := hMs.at j hjl
                  have E1 := Lib.hid (fun h => not_take_succ hjl (n := n) h hnj)
                  have E2 := Lib.hid (fun h => val_found HN.out hjl (n := n) h hnj)
                  clear hnj hMs
                  generalize (M4).getD j 0 = y at *
                  by_cases hy : y = n
                  · have EV := Lib.hid (E2.out hy)
                    have hy' : (y == n) = true := by simpa using hy
                    clear hy E1 E2
                    have hw9 := IntWalk.i64_in (-1 - (j : Int)) (by omega)
                    go_wp2_with (at_builtin; refine wpList_append_own_at _ rfl _ _ 22 rfl w.heap.size 3 i0 (.int .i64 0) 1 8 Try.underlying22 hi0 hz0 hz1 hz2 rfl (by decide) _ _ _ rfl (hX.alloc _).1 _ _ _ [.int .i64 (-1 - (j : Int))] rfl rfl (news_one _ _ _) (one_int _) (by unfold maxLen; simp only [List.length_map]; omega) (by simp only [List.length_map]; omega) (by have := hbn.size; simp; omega) ?_; intro v'' w9 hown' hgrow _ hat)
                    obtain ⟨tag3, hX3, hT3⟩ := tag_snoc (hX.alloc _) hown' hgrow hat
                    have hM3 := hT3 _ _ _ _ (by omega) (hM.alloc _)
                    have hO3 := hT3 _ _ _ _ (by omega) (hO.alloc _)
                    have hI3 := (hI.bel (Bel.alloc0 _ _)).step (by omega) hT3
                    have hb3 := hbn.grownT hX (Nat.le_refl _) hgrow
                    go_roundw
                    case rel => exact ⟨i+1, tag3, by omega, by go_num, by rw [HS.out.1]; exact hM3, by rw [HS.out.2, EV.out]; exact hX3, hO3, hI3, hb3⟩
                    case measure => simp [intOf]; omega
                  · have E := Lib.hid (E1.out hy)
                    have hy' : (y == n) = false := by simpa using hy
                    clear hy E1 E2
                    go_wp2_with fail
                    go_round
                    case rel => exact ⟨j+1, by omega, by go_num, rfl, E.out⟩
                    case measure => simp [intOf]; omega
                · have EV : Hid (valM (M4) n = n) := by show _ = _; exact val_end HE.out (by rw [List.take_of_length_le (by omega)] at hnj; exact hnj)
                  clear hnj
                  go_wp2_with (at_builtin; refine wpList_append_own_at _ rfl _ _ 22 rfl w.heap.size 3 i0 (.int .i64 0) 1 8 Try.underlying22 hi0 hz0 hz1 hz2 rfl (by decide) _ _ _ rfl (hX.alloc _).1 _ _ _ [.int .i64 (n)] rfl rfl (news_one _ _ _) (one_int _) (by unfold maxLen; simp only [List.length_map]; omega) (by simp only [List.length_map]; omega) (by have := hbn.size; simp; omega) ?_; intro v'' w9 hown' hgrow _ hat)
                  obtain ⟨tag3, hX3, hT3⟩ := tag_snoc (hX.alloc _) hown' hgrow hat
                  have hM3 := hT3 _ _ _ _ (by omega) (hM.alloc _)
                  have hO3 := hT3 _ _ _ _ (by omega) (hO.alloc _)
                  have hI3 := (hI.bel (Bel.alloc0 _ _)).step (by omega) hT3
                  have hb3 := hbn.grownT hX (Nat.le_refl _) hgrow
                  go_roundw
                  case rel => exact ⟨i+1, tag3, by omega, by go_num, by rw [HS.out.1]; exact hM3, by rw [HS.out.2, EV.out]; exact hX3, hO3, hI3, hb3⟩
                  case measure => simp [intOf]; omega
          · rw [stepM_sym hneg] at hsm hsr hst hmem
            have HS := Lib.hid (And.intro (hq3.trans hsm) (hq4.trans hsr))
            have HN := Lib.hid hst
            have HE := Lib.hid hmem
            clear hq1 hq2 hq3 hq4 hsm hsr hst hmem hng
            obtain ⟨am, nm, cm, rfl⟩ := own_form hM.1
            have hnm := row_len hM.1
            rw [List.length_map] at hnm
            subst hnm
            have hbn := hb1
            have hMs := hM.sl
            go_wp2_with fail
            go_loop [9, 38] (fun x i => ∃ k : Nat, k ≤ (M1).length ∧ i = .int .i64 k ∧ x = .int .i64 n ∧ n ∉ (M1).take k) (fun _ i => (M1).length - (intOf i).toNat)
            case atStart => exact ⟨0, Nat.zero_le _, rfl, rfl, by simp⟩
            case round =>
              obtain ⟨j, hj, rfl, rfl, hnj⟩ := hrel
              by_cases hjl : j < (M1).length
              · obtain ⟨b3, off3, rfl, -, hcell3⟩ := hMs.at j hjl
                have E1 := Lib.hid (fun h => not_take_succ hjl (n := n) h hnj)
                have E2 := Lib.hid (fun h => val_found HN.out hjl (n := n) h hnj)
                clear hnj hMs
                generalize (M1).getD j 0 = y at *
                by_cases hy : y = n
                · have EV := Lib.hid (E2.out hy)
                  have hy' : (y == n) = true := by simpa using hy
                  clear hy E1 E2
                  have hw9 := IntWalk.i64_in (-1 - (j : Int)) (by omega)
                  go_wp2_with (at_builtin; refine wpList_append_own_at _ rfl _ _ 22 rfl w.heap.size 3 i0 (.int .i64 0) 1 8 Try.underlying22 hi0 hz0 hz1 hz2 rfl (by decide) _ _ _ rfl (hX.alloc _).1 _ _ _ [.int .i64 (-1 - (j : Int))] rfl rfl (news_one _ _ _) (one_int _) (by unfold maxLen; simp only [List.length_map]; omega) (by simp only [List.length_map]; omega) (by have := hbn.size; simp; omega) ?_; intro v' w1 hown' hgrow _ hat)
                  obtain ⟨tag3, hX3, hT3⟩ := tag_snoc (hX.alloc _) hown' hgrow hat
                  have hM3 := hT3 _ _ _ _ (by omega) (hM.alloc _)
                  have hO3 := hT3 _ _ _ _ (by omega) (hO.alloc _)
                  have hI3 := (hI.bel (Bel.alloc0 _ _)).step (by omega) hT3
                  have hb3 := hbn.grownT hX (Nat.le_refl _) hgrow
                  go_roundw
                  case rel => exact ⟨i+1, tag3, by omega, by go_num, by rw [HS.out.1]; exact hM3, by rw [HS.out.2, EV.out]; exact hX3, hO3, hI3, hb3⟩
                  case measure => simp [intOf]; omega
                · have E := Lib.hid (E1.out hy)
                  have hy' : (y == n) = false := by simpa using hy
                  clear hy E1 E2
                  go_wp2_with fail
                  go_round
                  case rel => exact ⟨j+1, by omega, by go_num, rfl, E.out⟩
                  case measure => simp [intOf]; omega
              · have EV : Hid (valM (M1) n = n) := by show _ = _; exact val_end HE.out (by rw [List.take_of_length_le (by omega)] at hnj; exact hnj)
                clear hnj
                go_wp2_with (at_builtin; refine wpList_append_own_at _ rfl _ _ 22 rfl w.heap.size 3 i0 (.int .i64 0) 1 8 Try.underlying22 hi0 hz0 hz1 hz2 rfl (by decide) _ _ _ rfl (hX.alloc _).1 _ _ _ [.int .i64 (n)] rfl rfl (news_one _ _ _) (one_int _) (by unfold maxLen; simp only [List.length_map]; omega) (by simp only [List.length_map]; omega) (by have := hbn.size; simp; omega) ?_; intro v' w1 hown' hgrow _ hat)
                obtain ⟨tag3, hX3, hT3⟩ := tag_snoc (hX.alloc _) hown' hgrow hat
                have hM3 := hT3 _ _ _ _ (by omega) (hM.alloc _)
                have hO3 := hT3 _ _ _ _ (by omega) (hO.alloc _)
                have hI3 := (hI.bel (Bel.alloc0 _ _)).step (by omega) hT3
                have hb3 := hbn.grownT hX (Nat.le_refl _) hgrow
                go_roundw
                case rel => exact ⟨i+1, tag3, by omega, by go_num, by rw [HS.out.1]; exact hM3, by rw [HS.out.2, EV.out]; exact hX3, hO3, hI3, hb3⟩
                case measure => simp [intOf]; omega
        · rw [List.take_of_length_le (by omega)] at hM hX
          obtain ⟨ax, nx, cx, rfl⟩ := own_form hX.1
          go_wp2_with (at_builtin; refine wpList_append_own_at _ rfl _ _ 56 rfl w.heap.size 22 i1 (.slice none 0 0) 1 24 Try.underlying56 hi1 hy0 hy1 hy2 rfl (by decide) _ _ _ rfl (hO.alloc _).1 _ _ _ [.slice ax nx cx] rfl rfl (news_oneV _ _ _) (one_slice _ _ _) (by unfold maxLen; omega) (by omega) (by have := hb1.size; simp; omega) ?_; intro v' w1 hown' hgrow _ hat)
          obtain ⟨tag3, hO3, hT3⟩ := tag_snocV (hO.alloc _) hown' hgrow hat
          have hM3 := hT3 _ _ _ _ (by omega) (hM.alloc _)
          have hX3 := hT3 _ _ _ _ (by omega) (hX.alloc _)
          have hI3 := (hI.bel (Bel.alloc0 _ _)).step (by omega) hT3
          obtain ⟨tag4, hI4, hT4⟩ := hI3.snoc hX3 (by omega)
          have hM4 := hT4 _ _ _ _ (by omega) hM3
          have hO4 := hT4 _ _ _ _ (by omega) hO3
          have hb3 := hb1.grownT hO (Nat.le_refl _) hgrow
          obtain ⟨e1, e2, e3, e4⟩ := HSS.out
          go_roundw
          case rel => exact ⟨k+1, tag4, us ++ [.slice ax nx cx], by omega, by go_num, by rw [e3, e1]; exact hM4, hO4, by rw [e4, e2]; exact hI4, hb3⟩
          case measure => simp [intOf]; omega
    · rw [List.take_of_length_le (by omega)] at hI
      obtain ⟨ao, no, co, rfl⟩ := own_form hO.1
      go_wp2_with fail
      go_ret
      exact ⟨_, _, _, rfl, OwnS.of_tag hO hI (by omega), hb⟩
end Go.Proofs.Yteegjnobmbcjiaa
end
section
/- RenameOf: the program's inner function. -/
namespace Go.Proofs.Yteegjnobmbcjiaa
open Go.RowKit

/-- Twelve ints. -/
def arrN (f : Nat → Int) : Array Value := #[.int .i64 (f 0), .int .i64 (f 1), .int .i64 (f 2), .int .i64 (f 3), .int .i64 (f 4), .int .i64 (f 5), .int .i64 (f 6), .int .i64 (f 7), .int .i64 (f 8), .int .i64 (f 9), .int .i64 (f 10), .int .i64 (f 11)]
theorem arrN_set (f : Nat → Int) (j : Nat) (b : Int) (h : j < 12) : (arrN f).setIfInBounds j (.int .i64 b) = arrN (fun i => if i = j then b else f i) := by
  match j, h with
  | 0, _ => rfl
  | 1, _ => rfl
  | 2, _ => rfl
  | 3, _ => rfl
  | 4, _ => rfl
  | 5, _ => rfl
  | 6, _ => rfl
  | 7, _ => rfl
  | 8, _ => rfl
  | 9, _ => rfl
  | 10, _ => rfl
  | 11, _ => rfl
theorem arrN_get (f : Nat → Int) (j : Nat) (h : j < 12) : (arrN f)[j]? = some (.int .i64 (f j)) := by
  match j, h with
  | 0, _ => rfl
  | 1, _ => rfl
  | 2, _ => rfl
  | 3, _ => rfl
  | 4, _ => rfl
  | 5, _ => rfl
  | 6, _ => rfl
  | 7, _ => rfl
  | 8, _ => rfl
  | 9, _ => rfl
  | 10, _ => rfl
  | 11, _ => rfl
def BlkN (w : World) (B : Nat) (T : TypeId) (f : Nat → Int) : Prop := w.heap[B]? = some (.cells (arrN f) T (0, 0))
theorem BlkN.cell {w : World} {B : Nat} {T : TypeId} {f : Nat → Int} (h : BlkN w B T f) (j : Nat) (hj : j < 12) : w.cell? ⟨B, j, none⟩ = some (.int .i64 (f j)) := by
  unfold BlkN at h
  simp [World.cell?, h, arrN_get f j hj]
theorem BlkN.free {w : World} {B : Nat} {T : TypeId} {f : Nat → Int} (h : BlkN w B T f) (j : Nat) : w.frozen? ⟨B, j, none⟩ = false := by
  unfold BlkN at h
  simp [World.frozen?, h]
theorem BlkN.lt {w : World} {B : Nat} {T : TypeId} {f : Nat → Int} (h : BlkN w B T f) : B < w.heap.size := (Array.getElem?_eq_some_iff.1 h).1
theorem BlkN.bel {w w' : World} {B : Nat} {T : TypeId} {f : Nat → Int} (h : BlkN w B T f) (hb : Bel w w') : BlkN w' B T f := (hb.block B h.lt).trans h
theorem BlkN.set {w : World} {B : Nat} {T : TypeId} {f : Nat → Int} (h : BlkN w B T f) (j : Nat) (hj : j < 12) (b : Int) : BlkN (w.setCell ⟨B, j, none⟩ (.int .i64 b)) B T (fun i => if i = j then b else f i) := by
  have hlt := h.lt
  have h' : w.heap[B] = .cells (arrN f) T (0, 0) := by unfold BlkN at h; simpa [Array.getElem?_eq_getElem hlt] using h
  show (w.heap.modify B _)[B]? = _
  rw [Array.getElem?_eq_getElem (by simpa using hlt), Array.getElem_modify_self, h']
  simp [arrN_set f j b hj]
theorem BlkN.other {w : World} {B : Nat} {T : TypeId} {f : Nat → Int} (h : BlkN w B T f) {p : Addr} (hp : p.block ≠ B) (v : Value) : BlkN (w.setCell p v) B T f :=
  (Below.heap_setCell w p v B (by omega)).trans h
theorem BlkN.grown {w w' : World} {o : Obj} {B : Nat} {T : TypeId} {f : Nat → Int} {base : Nat} {tag : Nat → Nat} {t : Nat} {e : TypeId} {v : Value} {xs : List Value} (h : BlkN w B T f) (hB : B < base) (hown : OwnT base tag t e w v xs) (hg : (w.alloc o).grownBy w' v.ownBlock) : BlkN w' B T f := by
  have hlt := h.lt
  refine (hg.block B (by simp; omega) (fun e => ?_)).trans ((Below.heap_alloc w o B hlt).trans h)
  have := own_base hown.1 B e.symm
  omega
/-- The names as the table holds them. -/
def nm (met : List Int) (v : Nat) : Int := if (-1 - (v : Int)) ∈ met then -1 - (met.idxOf (-1 - (v : Int)) : Int) else 0
theorem nm_nil : nm [] = fun _ => 0 := by funext v; simp [nm]
theorem nm_new {met : List Int} {n : Int} (h : n < 0) (hn : n ∉ met) : (fun i => if i = (-1 - n).toNat then -1 - (met.length : Int) else nm met i) = nm (met ++ [n]) := by
  funext i
  by_cases e : i = (-1 - n).toNat
  · have e2 : -1 - (i : Int) = n := by omega
    rw [if_pos e]; unfold nm
    rw [e2, if_pos (by simp), List.idxOf_append, if_neg hn]
    simp
  · have e2 : -1 - (i : Int) ≠ n := by omega
    rw [if_neg e]; unfold nm
    by_cases hm : (-1 - (i : Int)) ∈ met
    · rw [if_pos hm, if_pos (by simp [hm]), List.idxOf_append, if_pos hm]
    · rw [if_neg hm, if_neg (by simp [hm, e2])]
theorem nm_old {met : List Int} {n : Int} (h : n < 0) (hn : n ∈ met) : nm met (-1 - n).toNat = valM met n ∧ valM met n < 0 := by
  have e2 : -1 - (((-1 - n).toNat : Nat) : Int) = n := by omega
  unfold nm valM
  rw [e2, if_pos hn, if_pos h]
  exact ⟨rfl, by omega⟩
theorem nm_not {met : List Int} {n : Int} (h : n < 0) (hn : n ∉ met) : nm met (-1 - n).toNat = 0 := by
  have e2 : -1 - (((-1 - n).toNat : Nat) : Int) = n := by omega
  unfold nm
  rw [e2, if_neg hn]
theorem val_new {met : List Int} {n : Int} (h : n < 0) (hn : n ∉ met) : valM (met ++ [n]) n = -1 - (met.length : Int) := by
  unfold valM
  rw [if_pos h, List.idxOf_append, if_neg hn]
  simp
theorem val_sym {met : List Int} {n : Int} (h : ¬ n < 0) : valM met n = n := by unfold valM; rw [if_neg h]
theorem list_set_same {l : List Int} {i : Nat} {x : Int} (h : l[i]? = some x) : l.set i x = l := by
  apply List.ext_getElem?
  intro j
  rw [List.getElem?_set]
  by_cases e : i = j
  · subst e
    obtain ⟨h3, h4⟩ := List.getElem?_eq_some_iff.1 h
    simp [h3, h4]
  · simp [e]
/-- The first i are renamed. -/
def mix (M t : List Int) (i : Nat) : List Int := renT M (t.take i) ++ t.drop i
theorem mix_zero (M t : List Int) : mix M t 0 = t := by simp [mix, renT]
theorem mix_len (M t : List Int) (i : Nat) (h : i ≤ t.length) : (mix M t i).length = t.length := by simp [mix, renT_len]; omega
theorem mix_get (M t : List Int) (i : Nat) (h : i < t.length) : (mix M t i)[i]? = some (t.getD i 0) := by
  have hl : (renT M (t.take i)).length = i := by rw [renT_len, List.length_take]; omega
  unfold mix
  rw [List.getElem?_append_right (by omega), hl, Nat.sub_self]
  simp [List.getD, h]
theorem mix_succ (M t : List Int) (i : Nat) (h : i < t.length) : (mix M t i).set i (valM (stepM (metT M (t.take i)) (t.getD i 0)) (t.getD i 0)) = mix M t (i+1) := by
  have hl : (renT M (t.take i)).length = i := by rw [renT_len, List.length_take]; omega
  unfold mix
  rw [List.set_append_right _ _ (by omega), hl, Nat.sub_self, List.drop_eq_getElem_cons h, List.set_cons_zero, renT_succ M t i h]
  simp
theorem mix_sym (M t : List Int) (i : Nat) (h : i < t.length) (hs : ¬ t.getD i 0 < 0) : mix M t i = mix M t (i+1) := by
  have hl : (renT M (t.take i)).length = i := by rw [renT_len, List.length_take]; omega
  rw [← mix_succ M t i h, val_sym hs]
  exact (list_set_same (mix_get M t i h)).symm
theorem mix_all (M t : List Int) (i : Nat) (h : ¬ i < t.length) : mix M t i = renT M t := by
  unfold mix
  rw [List.take_of_length_le (by omega), List.drop_eq_nil_of_le (by omega), List.append_nil]

set_option maxRecDepth 100000 in
theorem clone_r (l h : Nat) (v : Value) (xs : List Int) (w : World) (hx : xs.length ≤ 1048576) (hv : SlI l h w v xs) :
    Calls Try.prog 117 #[v] w (RetR w xs) := by
  obtain ⟨i0, hi0, hz0, hz1, hz2⟩ := info_parts Try.info3
  have hv0 := hv
  obtain ⟨ad, cap, rfl, -, hm, hr⟩ := hv
  have hown : (w.alloc (.cells #[] 3)).ownsRow w.heap.size 3 1 (.slice (some ⟨w.heap.size, 0, none⟩) 0 0) ([] : List Int).length (([] : List Int).map (Value.int .i64)) :=
    World.ownsRow_lit w #[] 0 (Nat.le_refl _) (Nat.zero_le _) rfl
  cases ad with
  | none =>
    obtain rfl : xs = [] := by
      rcases Nat.eq_zero_or_pos xs.length with h0 | h0
      · exact List.length_eq_zero_iff.1 h0
      · obtain ⟨_, _, e, _⟩ := hr h0; simp at e
    obtain rfl : cap = 0 := hm.2 rfl
    clear hr hm hv0
    have hk := fun (w : World) (a : Option Addr) (n c : Nat) => Lib.run_eql_slice_nil (P := Try.prog) w 22 3 a n c 0 0 Try.underlying22
    go_enter Try.func117, Try.ntmps117
    go_wp2_with fail
    go_ret
    exact ⟨_, _, _, rfl, World.ownsRow_nil _ _ _ _, Bel.rfl' _⟩
  | some a =>
    have hn := news_of_sl (hv0.alloc (.cells #[] 3))
    clear hr hm
    have hk := fun (w : World) (a : Option Addr) (n c : Nat) => Lib.run_eql_slice_nil (P := Try.prog) w 22 3 a n c 0 0 Try.underlying22
    go_enter Try.func117, Try.ntmps117
    go_wp2_with (at_builtin; refine wpList_append_own _ rfl _ _ 22 rfl w.heap.size 3 i0 (.int .i64 0) 1 8 Try.underlying22 hi0 hz0 hz1 hz2 rfl (by decide) _ _ _ rfl hown a xs.length cap (xs.map (Value.int .i64)) rfl (by simp) hn (ones_int _) (by unfold maxLen; simp; omega) (by simp; omega) (by simp) ?_; intro v' w1 hown' hgrow _)
    have hb1 := (Bel.alloc0 w (.cells #[] 3)).grown hgrow (fun k hk => own_base hown k hk)
    have hown2 : w1.ownsRow w.heap.size 3 1 v' xs.length (xs.map (Value.int .i64)) := by simpa using hown'
    obtain ⟨g, n, c, rfl⟩ := own_form hown2
    go_ret
    exact ⟨_, _, _, rfl, hown2, hb1⟩

set_option maxRecDepth 100000 in
set_option maxHeartbeats 2000000 in
theorem renamed_c (lo hi : Nat) (v : Value) (l : List (List Int)) (w : World) (hl : rows40 l) (hv : SlS lo hi w v l) :
    Calls Try.prog 122 #[v] w (RetSS w (renS [] l)) := by
  obtain ⟨ad, cap, rfl⟩ := hv.form
  obtain ⟨i1, hi1, hy0, hy1, hy2⟩ := info_parts Try.info22
  have hl20 := hl.1
  go_enter Try.func122, Try.ntmps122
  go_wp2_with fail
  go_loopw [4, 5, 13] (fun nx vo i wr => ∃ (k : Nat) (tag : Nat → Nat) (us : List Value), k ≤ l.length ∧ i = .int .i64 k ∧ nx = .int .i64 (-1 - ((metS [] (l.take k)).length : Int)) ∧ OwnT (w.heap.size + 1) tag 2 22 wr vo us ∧ InT (w.heap.size + 1) tag 3 wr us (renS [] (l.take k)) ∧ BlkN wr w.heap.size 159 (nm (metS [] (l.take k))) ∧ Bel w wr) (fun _ _ i _ => l.length - (intOf i).toNat)
  case atStart =>
    refine ⟨0, fun _ => 0, [], Nat.zero_le _, rfl, rfl, OwnT.nil _ _ _ _ _, InT.nil _ _ _ _, ?_, Bel.alloc0 _ _⟩
    show BlkN _ _ _ (nm [])
    rw [nm_nil]
    exact heap_alloc_new w _
  case round =>
    obtain ⟨k, tag, us, hk, rfl, rfl, hO, hI, hN, hb⟩ := hrel
    by_cases hlt : k < l.length
    · obtain ⟨b1, off1, p, rfl, hbl1, hc1w, hp⟩ := hv.at (Bel.rfl' w) k hlt
      have hc1 := hb.at hbl1 hc1w
      have hms := metS_succ [] l k hlt
      have hrs := renS_succ [] l k hlt
      have hml := hl.met k
      obtain ⟨ht40, htl⟩ := hl.2 k hlt
      have hiL : us.length = (renS [] (l.take k)).length := hI.1
      rw [renS_len, List.length_take] at hiL
      generalize hMt : metS [] (l.take k) = M at *
      generalize hRt : renS [] (l.take k) = R at *
      generalize hMt2 : metS [] (l.take (k+1)) = M2 at *
      generalize hRt2 : renS [] (l.take (k+1)) = R2 at *
      generalize l.getD k [] = t at *
      have HSS := Lib.hid (And.intro hms (And.intro hrs (And.intro hMt2 hRt2)))
      clear hms hrs hMt hRt hMt2 hRt2
      have hcl := clone_r _ _ p t wr (by omega) (hp.below hb)
      obtain ⟨ap, cp, rfl⟩ := hp.form
      have HCL := Lib.hid hcl
      clear hcl
      have hsz1 : w.heap.size + 1 ≤ wr.heap.size := hN.lt
      go_wp2_with (go_at_call 117; refine HCL.out.mono ?_; rintro e w2 ⟨ax, nx, cx, rfl, hX0, hb2⟩; have hnx : nx = t.length := row_len hX0; subst hnx)
      obtain ⟨tag1, hX, hT1⟩ := tag_new (tag := tag) (base := (w.heap.size + 1)) (t := 1) (xs := t.map (Value.int .i64)) (by simpa using hX0) hb2 hsz1
      replace hO := hT1 _ _ _ _ hO
      replace hI := hI.all hT1
      replace hN := hN.bel hb2
      have hbn := hb.step hb2
      clear hb2 HCL hX0 hT1 hb
      go_loopw [4, 21] (fun nx i wr => ∃ (j : Nat), j ≤ t.length ∧ i = .int .i64 j ∧ nx = .int .i64 (-1 - ((metT M (t.take j)).length : Int)) ∧ OwnT (w.heap.size + 1) tag1 1 3 wr (.slice ax t.length cx) ((mix M t j).map (Value.int .i64)) ∧ OwnT (w.heap.size + 1) tag1 2 22 wr u5 us ∧ InT (w.heap.size + 1) tag1 3 wr us R ∧ BlkN wr w.heap.size 159 (nm (metT M (t.take j))) ∧ Bel w wr) (fun _ i _ => t.length - (intOf i).toNat)
      case atStart => exact ⟨0, Nat.zero_le _, rfl, rfl, by rw [mix_zero]; exact hX, hO, hI, hN, hbn⟩
      case round =>
        clear hX hO hI hN hbn
        obtain ⟨i, hi, rfl, rfl, hX, hO, hI, hN, hb1⟩ := hrel
        by_cases hlt2 : i < t.length
        · have hsm := metT_succ M t i hlt2
          have hmx := mix_succ M t i hlt2
          have hms := mix_sym M t i hlt2
          have hmg := mix_get M t i hlt2
          have hmlen := mix_len M t i hi
          have hn12 := htl i hlt2
          have hml2 := metT_len M (t.take i)
          rw [List.length_take] at hml2
          have hXf : ∃ g, ax = some ⟨g, 0, none⟩ ∧ (w.heap.size + 1) ≤ g := by
            rcases hX.1.2 with ⟨e1, _⟩ | ⟨g, cap2, cur, e1, h2, _⟩
            · simp only [Value.slice.injEq] at e1; omega
            · simp only [Value.slice.injEq] at e1; exact ⟨g, e1.1, h2⟩
          obtain ⟨g, rfl, hgB⟩ := hXf
          have hXr := hX.1
          rw [List.length_map, hmlen] at hXr
          have hcell := hXr.cellAt i (by omega)
          rw [List.getElem?_map, hmg, Option.map_some] at hcell
          clear hmg
          generalize hq1 : metT M (t.take i) = M1 at *
          generalize hq2 : mix M t i = X1 at *
          generalize hq3 : metT M (t.take (i+1)) = M3 at *
          generalize hq4 : mix M t (i+1) = X3 at *
          generalize t.getD i 0 = n at *
          by_cases hneg : n < 0
          · have hd : decide (0 ≤ n) = false := by simp; omega
            have hm12 : (-1 - n).toNat < 12 := by omega
            have hi0' : 0 ≤ -1 - n := by omega
            have hi1' : -1 - n < 12 := by omega
            have hcN := hN.cell _ hm12
            have hfN := hN.free (-1 - n).toNat
            by_cases hin : n ∈ M1
            · rw [stepM_old hin] at hsm hmx
              obtain ⟨e1, e2⟩ := nm_old hneg hin
              rw [e1] at hcN
              generalize valM M1 n = y at *
              have hy : (y == 0) = false := by simp; omega
              have HS := Lib.hid (And.intro (hq3.trans hsm) (hq4.trans hmx.symm))
              clear hq1 hq2 hq3 hq4 hsm hmx hms hin e1 e2
              have hst := tag_store hX i (.int .i64 y)
              rw [← List.map_set] at hst
              have hfX := hXr.frozenAt i
              have HST := Lib.hid hst
              have HN := Lib.hid hN
              clear hX hXr hst
              go_wp2_with fail
              go_roundw
              case rel =>
                obtain ⟨h1, h2⟩ := HST.out
                exact ⟨i+1, by omega, by go_num, by rw [HS.out.1], by rw [HS.out.2]; exact h1, h2 _ _ _ _ (by omega) hO, hI.step (by omega) h2, by rw [HS.out.1]; exact hN.other (by simp; omega) _, hb1.setCell (p := ⟨g, i, none⟩) (by simp; omega) _⟩
              case measure => simp [intOf]; omega
            · rw [stepM_new hneg hin] at hsm hmx
              have e1 := nm_not hneg hin
              have e2 := val_new hneg hin
              have e3 := nm_new hneg hin
              rw [e1] at hcN
              rw [e2] at hmx
              have hw14 := IntWalk.i64_in (-1 - (M1.length : Int) - 1) (by omega)
              have HS := Lib.hid (And.intro (hq3.trans hsm) (And.intro (hq4.trans hmx.symm) e3))
              clear hq1 hq2 hq3 hq4 hsm hmx hms hin e1 e2 e3
              have hN2 := hN.set _ hm12 (-1 - (M1.length : Int))
              have hcN2 := hN2.cell _ hm12
              simp only [if_true] at hcN2
              have hX2 := Tags.low (p := ⟨w.heap.size, (-1 - n).toNat, none⟩) (show w.heap.size < (w.heap.size + 1) by omega) (.int .i64 (-1 - (M1.length : Int))) _ _ _ hX
              have hO2 := Tags.low (p := ⟨w.heap.size, (-1 - n).toNat, none⟩) (show w.heap.size < (w.heap.size + 1) by omega) (.int .i64 (-1 - (M1.length : Int))) _ _ _ hO
              have hI2 : InT (w.heap.size + 1) tag1 3 (wr.setCell ⟨w.heap.size, (-1 - n).toNat, none⟩ (.int .i64 (-1 - (M1.length : Int)))) us R := hI.all (fun t' e' u zs h => Tags.low (show w.heap.size < (w.heap.size + 1) by omega) _ _ _ _ h)
              have hbs := hb1.setCell (p := ⟨w.heap.size, (-1 - n).toNat, none⟩) (Nat.le_refl _) (.int .i64 (-1 - (M1.length : Int)))
              have hst := tag_store hX2 i (.int .i64 (-1 - (M1.length : Int)))
              rw [← List.map_set] at hst
              have hXr2 := hX2.1
              rw [List.length_map, hmlen] at hXr2
              have hfX := hXr2.frozenAt i
              have hcell2 := hXr2.cellAt i (by omega)
              have HST := Lib.hid hst
              have HH := Lib.hid (And.intro hO2 (And.intro hI2 (And.intro hN2 hbs)))
              clear hX hX2 hst hO2 hI2 hN2 hbs hN hO hI hXr hXr2
              go_wp2_with fail
              go_roundw
              case rel =>
                obtain ⟨h1, h2⟩ := HST.out
                obtain ⟨hO2, hI2, hN2, hbs⟩ := HH.out
                exact ⟨i+1, by omega, by go_num, by rw [HS.out.1, List.length_append]; go_num, by rw [HS.out.2.1]; exact h1, h2 _ _ _ _ (by omega) hO2, hI2.step (by omega) h2, by rw [HS.out.1, ← HS.out.2.2]; exact hN2.other (by simp; omega) _, hbs.setCell (p := ⟨g, i, none⟩) (by simp; omega) _⟩
              case measure => simp [intOf]; omega
          · have hd : decide (0 ≤ n) = true := by simp; omega
            rw [stepM_sym hneg] at hsm
            have HS := Lib.hid (And.intro (hq3.trans hsm) (hq4.trans (hms hneg).symm))
            clear hq1 hq2 hq3 hq4 hsm hmx hms
            go_wp2_with fail
            go_roundw
            case rel => exact ⟨i+1, by omega, by go_num, by rw [HS.out.1], by rw [HS.out.2]; exact hX, hO, hI, by rw [HS.out.1]; exact hN, hb1⟩
            case measure => simp [intOf]; omega
        · rw [List.take_of_length_le (by omega)] at hN ⊢
          rw [mix_all M t i hlt2] at hX
          go_wp2_with (at_builtin; refine wpList_append_own_at _ rfl _ _ 56 rfl (w.heap.size + 1) 22 i1 (.slice none 0 0) 1 24 Try.underlying56 hi1 hy0 hy1 hy2 rfl (by decide) _ _ _ rfl (hO.alloc _).1 _ _ _ [.slice ax t.length cx] rfl rfl (news_oneV _ _ _) (one_slice _ _ _) (by unfold maxLen; omega) (by omega) (by have := hN.lt; simp; omega) ?_; intro v' w1 hown' hgrow _ hat)
          obtain ⟨tag3, hO3, hT3⟩ := tag_snocV (hO.alloc _) hown' hgrow hat
          have hX3 := hT3 _ _ _ _ (by omega) (hX.alloc _)
          have hI3 := (hI.bel (Bel.alloc0 _ _)).step (by omega) hT3
          obtain ⟨tag4, hI4, hT4⟩ := hI3.snoc hX3 (by omega)
          have hO4 := hT4 _ _ _ _ (by omega) hO3
          have hb3 := hb1.grownT hO (by omega) hgrow
          have hN3 := hN.grown (by omega) hO hgrow
          obtain ⟨e1, e2, e3, e4⟩ := HSS.out
          go_roundw
          case rel => exact ⟨k+1, tag4, us ++ [.slice ax t.length cx], by omega, by go_num, by rw [e3, e1], hO4, by rw [e4, e2]; exact hI4, by rw [e3, e1]; exact hN3, hb3⟩
          case measure => simp [intOf]; omega
    · rw [List.take_of_length_le (by omega)] at hI
      obtain ⟨ao, no, co, rfl⟩ := own_form hO.1
      go_wp2_with fail
      go_ret
      exact ⟨_, _, _, rfl, (OwnS.of_tag hO hI (by omega)).mono (by omega) (Nat.le_refl _), hb⟩
end Go.Proofs.Yteegjnobmbcjiaa
end
section
/- Apply, IsUnifier: both functions; putting terms for variables. -/
namespace Go.Proofs.Yteegjnobmbcjiaa
open Go.RowKit

/-- What stands for an entry of a term. -/
def one1 (b : List (List Int)) (n : Int) : List Int := if n < 0 ∧ 0 < (b.getD (-1 - n).toNat []).length then b.getD (-1 - n).toNat [] else [n]
def appT (b : List (List Int)) (t : List Int) : List Int := t.flatMap (one1 b)
theorem appT_nil (b : List (List Int)) : appT b [] = [] := rfl
theorem appT_succ (b : List (List Int)) (t : List Int) (k : Nat) (hk : k < t.length) : appT b (t.take (k+1)) = appT b (t.take k) ++ one1 b (t.getD k 0) := by
  unfold appT
  rw [List.take_succ_eq_append_getElem hk, List.flatMap_append]
  simp [List.getD, hk]
theorem one1_var {b : List (List Int)} {n : Int} (h : n < 0) (hp : 0 < (b.getD (-1 - n).toNat []).length) : one1 b n = b.getD (-1 - n).toNat [] := by unfold one1; rw [if_pos ⟨h, hp⟩]
theorem one1_free {b : List (List Int)} {n : Int} (hp : ¬ 0 < (b.getD (-1 - n).toNat []).length) : one1 b n = [n] := by unfold one1; rw [if_neg (fun h => hp h.2)]
theorem one1_sym {b : List (List Int)} {n : Int} (h : ¬ n < 0) : one1 b n = [n] := by unfold one1; rw [if_neg (fun h2 => h h2.1)]
def lens40 (b : List (List Int)) : Prop := ∀ j, j < b.length → (b.getD j []).length ≤ 40
theorem getD_len40 {b : List (List Int)} (h : lens40 b) (j : Nat) : (b.getD j []).length ≤ 40 := by
  by_cases hj : j < b.length
  · exact h j hj
  · simp [List.getD, hj]
theorem one1_len {b : List (List Int)} (h : lens40 b) (n : Int) : (one1 b n).length ≤ 40 := by
  unfold one1
  split
  · exact getD_len40 h _
  · simp
theorem appT_len {b : List (List Int)} (h : lens40 b) (t : List Int) : (appT b t).length ≤ 40 * t.length := by
  unfold appT
  induction t with
  | nil => simp
  | cons x r ih =>
    have := one1_len h x
    simp only [List.flatMap_cons, List.length_append, List.length_cons]
    omega
theorem row_app {w : World} {base e : Nat} {v : Value} {acc xs : List Int} (h : w.ownsRow base e 1 v (acc.length + xs.length) (acc.map (Value.int .i64) ++ xs.map (Value.int .i64))) :
    w.ownsRow base e 1 v (acc ++ xs).length ((acc ++ xs).map (Value.int .i64)) := by simpa using h

def app40 (b : List (List Int)) (t : List Int) : List Int := if 40 < (appT b t).length then [] else appT b t
def app40ok (b : List (List Int)) (t : List Int) : Bool := !decide (40 < (appT b t).length)
theorem app40_no {b : List (List Int)} {t : List Int} (h : 40 < (appT b t).length) : app40 b t = [] ∧ app40ok b t = false := by simp [app40, app40ok, h]
theorem app40_yes {b : List (List Int)} {t : List Int} (h : ¬ 40 < (appT b t).length) : app40 b t = appT b t ∧ app40ok b t = true := by simp [app40, app40ok, h]
theorem _root_.Go.World.ownsRow.len_eq {w : World} {base e s n m c : Nat} {ad : Option Addr} {xs : List Value} (h : w.ownsRow base e s (.slice ad n c) m xs) : n = m := by
  rcases h.2 with ⟨e1, h0⟩ | ⟨g, cap, cur, e1, _⟩
  · simp at e1; omega
  · simp at e1; exact e1.2.1

set_option maxRecDepth 100000 in
set_option maxHeartbeats 400000 in
theorem applied_c (l h l' h' : Nat) (v u : Value) (b : List (List Int)) (t : List Int) (w : World) (hlen : b.length = 12) (hb : lens40 b) (ht : t.length ≤ 1024) (hlow : ∀ k, k < t.length → -12 ≤ t.getD k 0) (hu : SlS l' h' w u b) (hv : SlI l h w v t) :
    Calls Try.prog 91 #[u, v] w (RetIB w (app40 b t) (app40ok b t)) := by
  obtain ⟨i0, hi0, hz0, hz1, hz2⟩ := info_parts Try.info3
  obtain ⟨ad', cap', rfl⟩ := hu.form
  have HN := Lib.hid hlen; clear hlen
  obtain ⟨ad, cap, rfl, -, -, hr⟩ := hv
  go_enter Try.func91, Try.ntmps91
  go_wp2_with fail
  go_loopw [6, 11] (fun vs i wr => ∃ k : Nat, k ≤ t.length ∧ i = .int .i64 k ∧ wr.ownsRow w.heap.size 3 1 vs (appT b (t.take k)).length ((appT b (t.take k)).map (Value.int .i64)) ∧ Bel w wr) (fun _ i _ => t.length - (intOf i).toNat)
  case atStart => exact ⟨0, Nat.zero_le _, rfl, World.ownsRow_nil _ _ _ _, Bel.rfl' _⟩
  case round =>
    obtain ⟨k, hk, rfl, hown, hb2⟩ := hrel
    by_cases hlt : k < t.length
    · obtain ⟨bt, offt, rfl, hbl, hcell⟩ := rd hr hb2 k hlt
      have hx12 := hlow k hlt
      have hsucc := appT_succ b t k hlt
      have hal := appT_len hb (t.take k)
      have hal2 : (appT b (t.take k)).length ≤ 40960 := by simp at hal; omega
      have h40 := getD_len40 hb (-1 - t.getD k 0).toNat
      clear hr hlow hal
      generalize t.getD k 0 = x at *
      generalize appT b (t.take k) = acc at *
      generalize hq : appT b (t.take (k+1)) = nxt at *
      by_cases hx : x < 0
      · have hm : (-1 - x).toNat < b.length := by have hN : b.length = 12 := HN.out; omega
        have hi0' : 0 ≤ -1 - x := by omega
        have hi1 : -1 - x < b.length := by have hN : b.length = 12 := HN.out; omega
        obtain ⟨bb, off, p, rfl, -, hc, hp⟩ := hu.at hb2 _ hm
        have hv1 := fun h1 => one1_var (b := b) hx h1
        have hv2 := fun h1 => one1_free (b := b) (n := x) h1
        generalize b.getD (-1 - x).toNat [] = tt at *
        by_cases hpos : 0 < tt.length
        · rw [hv1 hpos] at hsucc
          obtain ⟨pb, po, pc, rfl, hpc⟩ := hp.plain hpos
          have hn := news_of_sl hp
          have HS := Lib.hid (And.intro hq hsucc)
          clear hv1 hv2 hq hsucc
          go_wp2_with (at_builtin; refine wpList_append_own _ rfl _ _ 22 rfl w.heap.size 3 i0 (.int .i64 0) 1 8 Try.underlying22 hi0 hz0 hz1 hz2 rfl (by decide) _ _ _ rfl hown ⟨pb, po, none⟩ tt.length pc (tt.map (Value.int .i64)) rfl (by simp) hn (ones_int _) (by unfold maxLen; first | omega | (simp; omega)) (by first | omega | (simp; omega)) (by have := hb2.size; first | omega | (simp; omega)) ?_; intro v' w1 hown' hgrow _)
          have hb3 := hb2.grown hgrow (fun k hk => own_base hown k hk)
          have hown2 := row_app (by simpa using hown')
          go_roundw
          case rel =>
            have e := HS.out.1.trans HS.out.2
            exact ⟨k+1, by omega, by go_num, by rw [HS.out.1, HS.out.2]; exact hown2, hb3⟩
          case measure => simp [intOf]; omega
        · rw [hv2 hpos] at hsucc
          have HS := Lib.hid (And.intro hq hsucc)
          have h0 : tt.length = 0 := by omega
          obtain ⟨ap, cp, rfl⟩ := hp.form
          rw [h0] at hc
          clear hv1 hv2 hp hpos h0 hq hsucc
          go_wp2_with (at_builtin; refine wpList_append_own _ rfl _ _ 22 rfl w.heap.size 3 i0 (.int .i64 0) 1 8 Try.underlying22 hi0 hz0 hz1 hz2 rfl (by decide) _ _ _ rfl (hown.alloc _) ⟨wr.heap.size, 0, none⟩ 1 1 [.int .i64 x] rfl rfl (news_one _ _ _) (one_int _) (by unfold maxLen; first | omega | (simp; omega)) (by first | omega | (simp; omega)) (by have := hb2.size; first | omega | (simp; omega)) ?_; intro v' w1 hown' hgrow _; have hb3 := (hb2.alloc (.cells #[.int .i64 x] 3)).grown hgrow (fun k hk => own_base hown k hk); have hown2 := row_snoc hown')
          go_roundw
          case rel => exact ⟨k+1, by omega, by go_num, by rw [HS.out.1, HS.out.2]; exact hown2, hb3⟩
          case measure => simp [intOf]; omega
      · rw [one1_sym hx] at hsucc
        have HS := Lib.hid (And.intro hq hsucc)
        clear hq hsucc
        go_wp2_with (at_builtin; refine wpList_append_own _ rfl _ _ 22 rfl w.heap.size 3 i0 (.int .i64 0) 1 8 Try.underlying22 hi0 hz0 hz1 hz2 rfl (by decide) _ _ _ rfl (hown.alloc _) ⟨wr.heap.size, 0, none⟩ 1 1 [.int .i64 x] rfl rfl (news_one _ _ _) (one_int _) (by unfold maxLen; first | omega | (simp; omega)) (by first | omega | (simp; omega)) (by have := hb2.size; first | omega | (simp; omega)) ?_; intro v' w1 hown' hgrow _; have hb3 := (hb2.alloc (.cells #[.int .i64 x] 3)).grown hgrow (fun k hk => own_base hown k hk); have hown2 := row_snoc hown')
        go_roundw
        case rel => exact ⟨k+1, by omega, by go_num, by rw [HS.out.1, HS.out.2]; exact hown2, hb3⟩
        case measure => simp [intOf]; omega
    · have e : t.take k = t := List.take_of_length_le (by omega)
      rw [e] at hown
      obtain ⟨g, n, c, hv'⟩ := own_form hown
      subst hv'
      have hn : n = (appT b t).length := hown.len_eq
      subst hn
      by_cases h40 : 40 < (appT b t).length
      · have E := Lib.hid (app40_no h40)
        go_wp2_with fail
        go_ret2
        exact ⟨_, _, _, by rw [E.out.2]; rfl, by rw [E.out.1]; exact OwnI.nil _ _ _, hb2⟩
      · have E := Lib.hid (app40_yes h40)
        go_wp2_with fail
        go_ret2
        exact ⟨_, _, _, by rw [E.out.2]; rfl, by rw [E.out.1]; exact OwnI.of_row hown, hb2⟩
end Go.Proofs.Yteegjnobmbcjiaa
end
