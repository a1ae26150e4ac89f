/- Several rows of the call's own, kept apart by a tag on each block. No program. -/
import Derived.Test.YtnldienjkejfcaaSS
import Derived.Maps.AppendAt
namespace Go.Proofs.Ytnldienjkejfcaa
open Go.RowKit

/-- v owns the elements xs; its block, if it has one, bears the tag t. -/
def OwnT (base : Nat) (tag : Nat → Nat) (t : Nat) (e : TypeId) (w : World) (v : Value) (xs : List Value) : Prop :=
  w.ownsRow base e 1 v xs.length xs ∧ ∀ g, v.ownBlock = some g → tag g = t
/-- All rows of other tags than t are as they were. -/
def Tags (base : Nat) (tag : Nat → Nat) (w : World) (tag' : Nat → Nat) (w' : World) (t : Nat) : Prop :=
  ∀ t' e u zs, t' ≠ t → OwnT base tag t' e w u zs → OwnT base tag' t' e w' u zs

theorem OwnT.lt {base tag t e w v xs} (h : OwnT base tag t e w v xs) {g : Nat} (hg : v.ownBlock = some g) : g < w.heap.size := by
  rcases h.1.2 with ⟨rfl, _⟩ | ⟨g', cap, cur, rfl, _, hh, _⟩
  · simp [Value.ownBlock] at hg
  · simp [Value.ownBlock] at hg; subst hg; exact (Array.getElem?_eq_some_iff.1 hh).1
theorem OwnT.bel {base tag t e w w' v xs} (h : OwnT base tag t e w v xs) (hb : Bel w w') : OwnT base tag t e w' v xs := ⟨ownsRow_bel h.1 hb, h.2⟩
theorem OwnT.alloc {base tag t e w v xs} (h : OwnT base tag t e w v xs) (o : Obj) : OwnT base tag t e (w.alloc o) v xs := h.bel (Bel.alloc0 w o)
theorem OwnT.nil (base : Nat) (tag : Nat → Nat) (t : Nat) (e : TypeId) (w : World) : OwnT base tag t e w (.slice none 0 0) [] := ⟨World.ownsRow_nil _ _ _ _, fun g h => by simp [Value.ownBlock] at h⟩
theorem Tags.of_bel {base tag w w' t} (hb : Bel w w') : Tags base tag w tag w' t := fun _ _ _ _ _ h => h.bel hb
theorem Tags.trans {base tag w tag1 w1 tag2 w2 t} (h : Tags base tag w tag1 w1 t) (k : Tags base tag1 w1 tag2 w2 t) : Tags base tag w tag2 w2 t := fun t' e u zs hn ho => k t' e u zs hn (h t' e u zs hn ho)

theorem tag_append {base tag t e w w1 v v' xs ys} (h : OwnT base tag t e w v xs) (hown : w1.ownsRow base e 1 v' ys.length ys) (hg : w.grownBy w1 v.ownBlock) (hat : v'.ownBlock = v.ownBlock ∨ v'.ownBlock = some w.heap.size) :
    ∃ tag', OwnT base tag' t e w1 v' ys ∧ Tags base tag w tag' w1 t := by
  refine ⟨fun g => if g = w.heap.size then t else tag g, ⟨hown, fun g hgb => ?_⟩, fun t' e' u zs hn ho => ⟨?_, fun g hgb => ?_⟩⟩
  · show (if g = w.heap.size then t else tag g) = t
    rcases hat with h1 | h1
    · rw [h1] at hgb
      have := h.lt hgb
      rw [if_neg (by omega)]; exact h.2 g hgb
    · rw [h1] at hgb; simp at hgb; rw [if_pos hgb.symm]
  · refine ho.1.kept hg ?_
    cases hu : u.ownBlock with
    | none => exact .inl rfl
    | some g =>
      right
      intro e1
      exact hn ((ho.2 g hu).symm.trans (h.2 g e1.symm))
  · show (if g = w.heap.size then t else tag g) = t'
    have := ho.lt hgb
    rw [if_neg (by omega)]; exact ho.2 g hgb
theorem row_mono {w : World} {base base' e n : Nat} {v : Value} {xs : List Value} (h : w.ownsRow base e 1 v n xs) (hb : base' ≤ base) : w.ownsRow base' e 1 v n xs := by
  refine ⟨h.1, ?_⟩
  rcases h.2 with h0 | ⟨g, cap, cur, e1, e2, r⟩
  · exact .inl h0
  · exact .inr ⟨g, cap, cur, e1, by omega, r⟩
theorem row_len {w : World} {base e n m c : Nat} {ad : Option Addr} {xs : List Value} (h : w.ownsRow base e 1 (.slice ad n c) m xs) : n = m := by
  rcases h.2 with ⟨e1, h0⟩ | ⟨g, cap, cur, e1, _⟩
  · simp at e1; omega
  · simp at e1; exact e1.2.1
theorem tag_new {base tag e w w1 v xs} (t : Nat) (hown : w1.ownsRow w.heap.size e 1 v xs.length xs) (hb : Bel w w1) (hbase : base ≤ w.heap.size) :
    ∃ tag', OwnT base tag' t e w1 v xs ∧ ∀ t' e' u zs, OwnT base tag t' e' w u zs → OwnT base tag' t' e' w1 u zs := by
  refine ⟨fun g => if w.heap.size ≤ g then t else tag g, ⟨row_mono hown hbase, fun g hg => ?_⟩, fun t' e' u zs ho => ⟨ownsRow_bel ho.1 hb, fun g hg => ?_⟩⟩
  · have := own_base hown g hg
    simp [this]
  · have := ho.lt hg
    show (if w.heap.size ≤ g then t else tag g) = t'
    rw [if_neg (by omega)]; exact ho.2 g hg
theorem tag_re {base tag t e w v xs} (t2 : Nat) (h : OwnT base tag t e w v xs) : ∃ tag', OwnT base tag' t2 e w v xs ∧ ∀ t' e' u zs, t' ≠ t → OwnT base tag t' e' w u zs → OwnT base tag' t' e' w u zs := by
  refine ⟨fun g => if v.ownBlock = some g then t2 else tag g, ⟨h.1, fun g hg => by simp [hg]⟩, fun t' e' u zs hn ho => ⟨ho.1, fun g hg => ?_⟩⟩
  show (if v.ownBlock = some g then t2 else tag g) = t'
  rw [if_neg (fun e1 => hn ((ho.2 g hg).symm.trans (h.2 g e1)))]
  exact ho.2 g hg
theorem tag_store {base tag t e w g n cap xs} (h : OwnT base tag t e w (.slice (some ⟨g, 0, none⟩) n cap) xs) (j : Nat) (u : Value) :
    OwnT base tag t e (w.setCell ⟨g, j, none⟩ u) (.slice (some ⟨g, 0, none⟩) n cap) (xs.set j u) ∧ Tags base tag w tag (w.setCell ⟨g, j, none⟩ u) t := by
  have hl := row_len h.1
  subst hl
  have hst := h.1.stored j u
  refine ⟨⟨by rw [List.length_set]; exact hst.1, h.2⟩, fun t' e' u' zs hn ho => ⟨ho.1.kept hst.2 ?_, ho.2⟩⟩
  cases hu : u'.ownBlock with
  | none => exact .inl rfl
  | some g' =>
    right
    intro e1
    exact hn ((ho.2 g' hu).symm.trans (h.2 g' e1.symm))
/-- A store into a block of lower number: all rows stay. -/
theorem Tags.low {base tag w t} {p : Addr} (hp : p.block < base) (u : Value) : ∀ e v xs, OwnT base tag t e w v xs → OwnT base tag t e (w.setCell p u) v xs := by
  intro e v xs h
  refine ⟨⟨h.1.1, ?_⟩, h.2⟩
  rcases h.1.2 with h0 | ⟨g, cap, cur, e1, e2, hh, r⟩
  · exact .inl h0
  · exact .inr ⟨g, cap, cur, e1, e2, by rw [Below.heap_setCell w p u g (by omega)]; exact hh, r⟩

theorem row_oneCell {w : World} {base e : Nat} {v : Value} {xs : List Int} (h : w.ownsRow base e 1 v xs.length (xs.map (Value.int .i64))) {n c : Nat} {a : Addr} (hv : v = .slice (some a) n c) (hp : 0 < xs.length) : OwnI a.block (a.block + 1) w v xs := by
  have ho := OwnI.of_row h
  obtain ⟨⟨ad, cap, e1, hc, hm, hr⟩, hf⟩ := ho
  obtain ⟨b, off, e2, h1, h2, h3⟩ := hr hp
  have e3 : some a = some ⟨b, off, none⟩ := by rw [hv] at e1; simp only [Value.slice.injEq] at e1; rw [e1.1, e2]
  simp only [Option.some.injEq] at e3
  subst e3
  exact ⟨⟨ad, cap, e1, hc, hm, fun _ => ⟨b, off, e2, Nat.le_refl _, Nat.lt_succ_self _, h3⟩⟩, hf⟩
/-- The rows of the elements. -/
def InT (base : Nat) (tag : Nat → Nat) (ei : TypeId) (w : World) (us : List Value) (xss : List (List Int)) : Prop :=
  us.length = xss.length ∧ ∀ j u, us[j]? = some u → OwnT base tag (10 + j) ei w u ((xss.getD j []).map (Value.int .i64))
theorem InT.step {base tag ei w tag' w' us xss t} (h : InT base tag ei w us xss) (ht : t < 10) (k : Tags base tag w tag' w' t) : InT base tag' ei w' us xss := ⟨h.1, fun j u hj => k _ _ _ _ (by omega) (h.2 j u hj)⟩
theorem InT.all {base tag ei w tag' w' us xss} (h : InT base tag ei w us xss) (k : ∀ t' e' u zs, OwnT base tag t' e' w u zs → OwnT base tag' t' e' w' u zs) : InT base tag' ei w' us xss := ⟨h.1, fun j u hj => k _ _ _ _ (h.2 j u hj)⟩
theorem InT.nil (base : Nat) (tag : Nat → Nat) (ei : TypeId) (w : World) : InT base tag ei w [] [] := ⟨rfl, fun j u h => by simp at h⟩
theorem InT.bel {base tag ei w w' us xss} (h : InT base tag ei w us xss) (hb : Bel w w') : InT base tag ei w' us xss := ⟨h.1, fun j u hj => (h.2 j u hj).bel hb⟩
/-- A row of tag t becomes the next element. -/
theorem InT.snoc {base tag ei w us xss t v} {xs : List Int} (h : InT base tag ei w us xss) (ho : OwnT base tag t ei w v (xs.map (Value.int .i64))) (ht : t < 10) :
    ∃ tag', InT base tag' ei w (us ++ [v]) (xss ++ [xs]) ∧ ∀ t' e' u zs, t' ≠ t → OwnT base tag t' e' w u zs → OwnT base tag' t' e' w u zs := by
  obtain ⟨tag', h1, h2⟩ := tag_re (10 + us.length) ho
  refine ⟨tag', ⟨by simp [h.1], fun j u hj => ?_⟩, h2⟩
  by_cases e : j < us.length
  · rw [List.getElem?_append_left e] at hj
    have := h2 _ _ _ _ (by omega) (h.2 j u hj)
    rwa [show (xss ++ [xs]).getD j [] = xss.getD j [] from by simp [List.getD, List.getElem?_append_left (show j < xss.length by rw [← h.1]; exact e)]]
  · have hlt := (List.getElem?_eq_some_iff.1 hj).1
    simp at hlt
    obtain rfl : j = us.length := by omega
    rw [List.getElem?_append_right (Nat.le_refl _), Nat.sub_self] at hj
    simp at hj
    subst hj
    rwa [show (xss ++ [xs]).getD us.length [] = xs from by rw [h.1]; simp [List.getD]]
theorem OwnS.of_tag {base tag eo ei w v us xss t} (ho : OwnT base tag t eo w v us) (hi : InT base tag ei w us xss) (ht : t < 10) : OwnS base w.heap.size w v xss := by
  have h1 := ho.1
  rw [hi.1] at h1
  have hblk : ∀ j u, us[j]? = some u → 0 < (xss.getD j []).length → ∃ a n c, u = .slice (some a) n c ∧ u.ownBlock = some a.block ∧ base ≤ a.block ∧ a.block < w.heap.size ∧ tag a.block = 10 + j := by
    intro j u hj hp
    have hx := hi.2 j u hj
    rcases hx.1.2 with ⟨rfl, h0⟩ | ⟨g, cap, cur, rfl, hb, hh, _⟩
    · rw [List.length_map] at h0; omega
    · have hb2 : (Value.slice (some ⟨g, 0, none⟩) ((xss.getD j []).map (Value.int .i64)).length cap).ownBlock = some g := rfl
      exact ⟨⟨g, 0, none⟩, _, cap, rfl, hb2, hb, hx.lt hb2, hx.2 g hb2⟩
  let bs : Nat → Nat := fun j => match us[j]? with | some (.slice (some a) _ _) => a.block | _ => 0
  have hbs : ∀ j u, us[j]? = some u → 0 < (xss.getD j []).length → base ≤ bs j ∧ bs j < w.heap.size ∧ tag (bs j) = 10 + j := by
    intro j u hj hp
    obtain ⟨a, n, c, rfl, _, b1, b2, b3⟩ := hblk j u hj hp
    have : bs j = a.block := by simp only [bs, hj]
    rw [this]; exact ⟨b1, b2, b3⟩
  refine OwnS.of_row (bs := bs) h1 (Nat.le_refl _) fun g hg => ⟨hi.1, fun j hj hp => ?_, fun i j hij hj hpi hpj => ?_, fun j u hj => ?_⟩
  · obtain ⟨u, hu⟩ : ∃ u, us[j]? = some u := ⟨_, List.getElem?_eq_getElem (by rw [hi.1]; exact hj)⟩
    obtain ⟨a1, a2, a3⟩ := hbs j u hu hp
    refine ⟨a1, a2, fun e => ?_⟩
    have := ho.2 g hg
    rw [e] at a3
    omega
  · obtain ⟨u, hu⟩ : ∃ u, us[i]? = some u := ⟨_, List.getElem?_eq_getElem (by rw [hi.1]; omega)⟩
    obtain ⟨u2, hu2⟩ : ∃ u, us[j]? = some u := ⟨_, List.getElem?_eq_getElem (by rw [hi.1]; exact hj)⟩
    obtain ⟨_, _, a3⟩ := hbs i u hu hpi
    obtain ⟨_, _, b3⟩ := hbs j u2 hu2 hpj
    intro e
    rw [e] at a3
    omega
  · have hx := hi.2 j u hj
    by_cases hp : 0 < (xss.getD j []).length
    · obtain ⟨a, n, c, rfl, _, b1, b2, b3⟩ := hblk j u hj hp
      have : bs j = a.block := by simp only [bs, hj]
      rw [this]
      exact row_oneCell (by simpa using hx.1) rfl hp
    · have h0 := len0 hp
      rw [h0] at hx ⊢
      have := OwnI.of_row (xs := []) (by simpa using hx.1)
      exact this.empty
end Go.Proofs.Ytnldienjkejfcaa
