/- Texts merged, part 7. -/
import Derived.Shelf.SlicesE.Delete
import Derived.Lib.OwnBridge
import Derived.Test.YtajmjjandkdhiaaMgTidyClause6
section
/- Chapter 4: the answers, as plain functions. No program. -/
namespace Go.Proofs.Ytajmjjandkdhiaa
open Go.RowKit

def okLit (ar : List Int) (x : Lt) : Bool := okTerm ar x.2.1 && okTerm ar x.2.2
def okLits (ar : List Int) (c : List Lt) : Bool := decide (c.length ≤ 8) && c.all (okLit ar)
def goodClause (ar : List Int) (c : List Lt) : Bool := goodSign ar && okLits ar c
theorem okLit_iff {ar : List Int} {x : Lt} : okLit ar x = true ↔ okTerm ar x.2.1 = true ∧ okTerm ar x.2.2 = true := by simp [okLit]
theorem okLits_iff {ar : List Int} {c : List Lt} : okLits ar c = true ↔ c.length ≤ 8 ∧ ∀ x ∈ c, okLit ar x = true := by simp [okLits]
theorem goodClause_iff {ar : List Int} {c : List Lt} : goodClause ar c = true ↔ goodSign ar = true ∧ c.length ≤ 8 ∧ ∀ x ∈ c, okLit ar x = true := by simp [goodClause, okLits]
theorem okLits_get {ar : List Int} {c : List Lt} (h : ∀ x ∈ c, okLit ar x = true) (j : Nat) (hj : j < c.length) : okTerm ar (c.getD j lt0).2.1 = true ∧ okTerm ar (c.getD j lt0).2.2 = true :=
  okLit_iff.1 (h _ (by simp [List.getD, hj]))
theorem okLits_bad {ar : List Int} {c : List Lt} {j : Nat} (hj : j < c.length) (h : okLit ar (c.getD j lt0) = false) : okLits ar c = false := by
  rw [Bool.eq_false_iff]; intro k
  have := (okLits_iff.1 k).2 (c.getD j lt0) (by simp [List.getD, hj])
  rw [h] at this; simp at this
/-- The first k literals are valid. -/
def okTo (ar : List Int) (c : List Lt) (k : Nat) : Prop := ∀ j, j < k → okLit ar (c.getD j lt0) = true
theorem okTo.step {ar : List Int} {c : List Lt} {k : Nat} (h : okTo ar c k) (hk : okLit ar (c.getD k lt0) = true) : okTo ar c (k+1) := fun j hj => by
  by_cases e : j = k
  · subst e; exact hk
  · exact h j (by omega)
theorem okTo.done {ar : List Int} {c : List Lt} (h : okTo ar c c.length) : okLits ar c = decide (c.length ≤ 8) := by
  unfold okLits
  have : c.all (okLit ar) = true := by
    rw [List.all_eq_true]
    intro x hx
    obtain ⟨j, hj, rfl⟩ := List.getElem_of_mem hx
    have := h j hj
    simpa [List.getD, hj] using this
  rw [this, Bool.and_true]

/-- The same two terms, perhaps exchanged. -/
def sameTs (x y : Lt) : Bool := (decide (x.2.1 = y.2.1) && decide (x.2.2 = y.2.2)) || (decide (x.2.1 = y.2.2) && decide (x.2.2 = y.2.1))
def eqvL (x y : Lt) : Bool := (x.1 == y.1) && sameTs x y
def tidyStep (out : List Lt) (x : Lt) : List Lt := if !x.1 && decide (x.2.1 = x.2.2) then out else if out.any (eqvL x) then out else out ++ [x]
def tidyC (c : List Lt) : List Lt := c.foldl tidyStep []
theorem tidyC_snoc (c : List Lt) (k : Nat) (h : k < c.length) : tidyC (c.take (k+1)) = tidyStep (tidyC (c.take k)) (c.getD k lt0) := by
  unfold tidyC
  rw [List.take_succ_eq_append_getElem h, List.foldl_append]
  simp [List.getD, h]
def tidyAns (ar : List Int) (c : List Lt) : List Lt := if goodClause ar c then tidyC c else []

/-- A tautology's place: the literal k alone, or with an earlier one. -/
def tautAt (c : List Lt) (k : Nat) : Bool := ((c.getD k lt0).1 && decide ((c.getD k lt0).2.1 = (c.getD k lt0).2.2)) || (c.take k).any fun y => ((c.getD k lt0).1 != y.1) && sameTs (c.getD k lt0) y
def tautC (c : List Lt) : Bool := (List.range c.length).any (tautAt c)
def tautAns (ar : List Int) (c : List Lt) : Bool := goodClause ar c && tautC c

def weightAns (ar : List Int) (c : List Lt) : Int := if goodClause ar c then (sumL (flatC c) : Int) else 0

def listL (x : Lt) : List (List Int) := if x.1 then [x.2.1, x.2.2] else [x.2.1, x.2.2, x.2.1, x.2.2]
def litsOk (ar : List Int) (x y : Lt) : Bool := goodSign ar && (okLit ar x && okLit ar y)
def litsAns (ar : List Int) (x y : Lt) : Int := if litsOk ar x y then cmpL (listL x) (listL y) else 0
def maxAt (c : List Lt) (k : Nat) : Bool := (List.range c.length).all fun i => decide (i = k) || !decide (cmpL (listL (c.getD i lt0)) (listL (c.getD k lt0)) = 1)
def maxC (c : List Lt) : List Nat := (List.range c.length).filter (maxAt c)

/-- The signs of one, the terms of another list. -/
def zipC : List Lt → List (List Int) → List Lt
  | x :: c, l :: r :: ts => (x.1, l, r) :: zipC c ts
  | _, _ => []
end Go.Proofs.Ytajmjjandkdhiaa
end
section
/- Rows of slices whose elements lie in older memory: copies, deletion. -/
namespace Go.Proofs.Ytajmjjandkdhiaa
open Go.RowKit

/-- A slice's three words. -/
abbrev SV := Option Addr × Nat × Nat
def encS (x : SV) : Value := .slice x.1 x.2.1 x.2.2
theorem encS_one (zs : List SV) : ∀ u ∈ zs.map encS, u.oneCell' = true := by
  intro u hu; obtain ⟨z, _, rfl⟩ := List.mem_map.1 hu; rfl
/-- The elements, read in the world W. -/
def Els (W : World) (zs : List SV) (xss : List (List Int)) : Prop := zs.length = xss.length ∧ ∀ j z, zs[j]? = some z → SlI 0 W.heap.size W (encS z) (xss.getD j [])
def RowV (W wr : World) (v : Value) (xss : List (List Int)) : Prop := ∃ zs : List SV, wr.ownsRow W.heap.size 24 1 v zs.length (zs.map encS) ∧ Els W zs xss
def RetRow (W : World) (xss : List (List Int)) (e : Ending) (w' : World) : Prop := ∃ ad n c, e = .returned (.slice ad n c) ∧ RowV W w' (.slice ad n c) xss ∧ Bel W w'
theorem Els.nil (W : World) : Els W [] [] := ⟨rfl, fun j z h => by simp at h⟩
theorem Els.at {W : World} {zs : List SV} {xss : List (List Int)} (h : Els W zs xss) {j : Nat} (hj : j < xss.length) : ∃ z, zs[j]? = some z ∧ SlI 0 W.heap.size W (encS z) (xss.getD j []) :=
  ⟨_, List.getElem?_eq_getElem (by rw [h.1]; exact hj), h.2 j _ (List.getElem?_eq_getElem (by rw [h.1]; exact hj))⟩
theorem Els.erase {W : World} {zs : List SV} {xss : List (List Int)} (h : Els W zs xss) (i : Nat) (hi : i < xss.length) : Els W (zs.eraseIdx i) (xss.eraseIdx i) := by
  refine ⟨by rw [List.length_eraseIdx, List.length_eraseIdx, h.1], fun j z hj => ?_⟩
  rw [List.getElem?_eraseIdx] at hj
  by_cases hlt : j < i
  · rw [if_pos hlt] at hj
    have := h.2 j z hj
    rwa [show (xss.eraseIdx i).getD j [] = xss.getD j [] from by simp [List.getD, List.getElem?_eraseIdx, hlt]]
  · rw [if_neg hlt] at hj
    have := h.2 (j+1) z hj
    rwa [show (xss.eraseIdx i).getD j [] = xss.getD (j+1) [] from by simp [List.getD, List.getElem?_eraseIdx, hlt]]
theorem Els.snoc {W : World} {zs : List SV} {xss : List (List Int)} (h : Els W zs xss) {z : SV} {t : List Int} (hz : SlI 0 W.heap.size W (encS z) t) : Els W (zs ++ [z]) (xss ++ [t]) := by
  refine ⟨by simp [h.1], fun j u hj => ?_⟩
  by_cases e : j < zs.length
  · rw [List.getElem?_append_left e] at hj
    have := h.2 j u hj
    rwa [show (xss ++ [t]).getD j [] = xss.getD j [] from by simp [List.getD, List.getElem?_append_left (show j < xss.length by rw [← h.1]; exact e)]]
  · have hlt := (List.getElem?_eq_some_iff.1 hj).1
    simp at hlt
    obtain rfl : j = zs.length := by omega
    rw [List.getElem?_append_right (Nat.le_refl _), Nat.sub_self] at hj
    simp at hj
    subst hj
    rwa [show (xss ++ [t]).getD zs.length [] = t from by rw [h.1]; simp [List.getD]]
theorem RowV.form {W wr : World} {v : Value} {xss : List (List Int)} (h : RowV W wr v xss) : ∃ ad c, v = .slice ad xss.length c := by
  obtain ⟨zs, ho, he⟩ := h
  obtain ⟨ad, n, c, rfl⟩ := own_form ho
  have := row_len ho
  rw [he.1] at this
  exact ⟨ad, c, by rw [this]⟩
theorem RowV.bel {W wr w2 : World} {v : Value} {xss : List (List Int)} (h : RowV W wr v xss) (hb : Bel wr w2) : RowV W w2 v xss := by
  obtain ⟨zs, ho, he⟩ := h
  exact ⟨zs, ownsRow_bel ho hb, he⟩
theorem RowV.sls {W wr : World} {v : Value} {xss : List (List Int)} (h : RowV W wr v xss) (hb : Bel W wr) : SlS 0 wr.heap.size wr v xss := by
  obtain ⟨zs, h1, h2, h3⟩ := h
  have h0 := h1
  rcases h1.2 with ⟨rfl, hn⟩ | ⟨g, cap, cur, rfl, hg, hh, hn, hc, hs, ht⟩
  · obtain rfl : xss = [] := List.length_eq_zero_iff.1 (by omega)
    exact SlS.nil _ _ _
  · have hgs : g < wr.heap.size := (Array.getElem?_eq_some_iff.1 hh).1
    refine ⟨_, cap, by rw [h2], by omega, ⟨hc, fun h => by simp at h⟩, fun hp => ⟨g, 0, rfl, Nat.zero_le _, hgs, fun j hj => ?_⟩⟩
    have hju : zs[j]? = some zs[j] := List.getElem?_eq_getElem (by omega)
    refine ⟨encS zs[j], by rw [Nat.zero_add, h0.cellAt j (by omega), List.getElem?_map, hju]; rfl, ?_⟩
    exact ((h3 j _ hju).below hb).mono (Nat.le_refl _) hb.size
/-- Reading the k-th. -/
theorem RowV.at {W wr : World} {ad : Option Addr} {n c : Nat} {xss : List (List Int)} (h : RowV W wr (.slice ad n c) xss) (k : Nat) (hk : k < xss.length) :
    ∃ g z, ad = some ⟨g, 0, none⟩ ∧ W.heap.size ≤ g ∧ wr.cell? ⟨g, k, none⟩ = some (encS z) ∧ SlI 0 W.heap.size W (encS z) (xss.getD k []) := by
  obtain ⟨zs, h1, h2⟩ := h
  have h0 := h1
  obtain ⟨z, hz, hs⟩ := h2.at hk
  rcases h1.2 with ⟨e, hn⟩ | ⟨g, cap, cur, e, hg, hh, _⟩
  · rw [h2.1] at hn; omega
  · simp only [Value.slice.injEq] at e
    obtain ⟨rfl, rfl, rfl⟩ := e
    exact ⟨g, z, rfl, hg, by rw [h0.cellAt k (by rw [h2.1]; omega), List.getElem?_map, hz]; rfl, hs⟩

theorem skolem_lt {α : Type} [Inhabited α] {n : Nat} {P : Nat → α → Prop} (H : ∀ j, j < n → ∃ z, P j z) : ∃ f : Nat → α, ∀ j, j < n → P j (f j) :=
  ⟨fun j => if h : j < n then Classical.choose (H j h) else default, fun j hj => by
    show P j (dite (j < n) (fun h => Classical.choose (H j h)) (fun _ => default))
    rw [dif_pos hj]; exact Classical.choose_spec (H j hj)⟩
/-- The three words of the elements of a slice of slices. -/
theorem SlS.vals {lo hi : Nat} {w : World} {ad : Option Addr} {n c : Nat} {xss : List (List Int)} (h : SlS lo hi w (.slice ad n c) xss) : ∃ zs : List SV, Els w zs xss ∧ ∀ a, ad = some a → ∀ j u, (zs.map encS)[j]? = some u → w.cell? (a.add j) = some u := by
  obtain ⟨ad', cap, e, hc, hm, hr⟩ := h
  simp only [Value.slice.injEq] at e
  obtain ⟨rfl, rfl, rfl⟩ := e
  by_cases hp : 0 < xss.length
  · obtain ⟨b, off, rfl, a1, a2, a3⟩ := hr hp
    have H : ∀ j, j < xss.length → ∃ z : SV, w.cell? ⟨b, off + j, none⟩ = some (encS z) ∧ SlI lo hi w (encS z) (xss.getD j []) := fun j hj => by
      obtain ⟨u, h1, h2⟩ := a3 j hj
      obtain ⟨x, y, rfl⟩ := h2.form
      exact ⟨(x, _, y), h1, h2⟩
    obtain ⟨f, hf⟩ := skolem_lt H
    refine ⟨(List.range xss.length).map f, ⟨by simp, fun j z hj => ?_⟩, fun a ha j u hj => ?_⟩
    · have hlt := (List.getElem?_eq_some_iff.1 hj).1
      simp at hlt
      rw [List.getElem?_map, List.getElem?_range hlt] at hj
      simp only [Option.map_some, Option.some.injEq] at hj
      subst hj
      exact (hf j hlt).2.in'
    · have hlt := (List.getElem?_eq_some_iff.1 hj).1
      simp at hlt
      rw [List.getElem?_map, List.getElem?_map, List.getElem?_range hlt] at hj
      simp only [Option.map_some, Option.some.injEq] at hj
      subst hj
      simp only [Option.some.injEq] at ha
      subst ha
      rw [addr_add]
      exact (hf j hlt).1
  · obtain rfl : xss = [] := List.length_eq_zero_iff.1 (by omega)
    exact ⟨[], Els.nil _, fun a _ j u hj => by simp at hj⟩

end Go.Proofs.Ytajmjjandkdhiaa
end
section
/- The terms of a clause, literal by literal: both sides. -/
namespace Go.Proofs.Ytajmjjandkdhiaa
open Go.RowKit

theorem news_two (w : World) (x y : Value) (t : TypeId) : ∀ j u, [x, y][j]? = some u → (w.alloc (.cells #[x, y] t)).cell? ((⟨w.heap.size, 0, none⟩ : Addr).add j) = some u := by
  intro j u hj
  match j, hj with
  | 0, hj => simp at hj; subst hj; rw [show (⟨w.heap.size, 0, none⟩ : Addr).add 0 = ⟨w.heap.size, 0, none⟩ from rfl, World.cell?_alloc_new w]; rfl
  | 1, hj => simp at hj; subst hj; rw [addr_add, World.cell?_alloc_new w]; rfl
theorem news_two_at (w : World) (x y : Value) (t : TypeId) (g : Nat) (hg : g = w.heap.size) : ∀ j u, [x, y][j]? = some u → (w.alloc (.cells #[x, y] t)).cell? ((⟨g, 0, none⟩ : Addr).add j) = some u := by subst hg; exact news_two w x y t
theorem news_one_at (w : World) (x : Value) (t : TypeId) (g : Nat) (hg : g = w.heap.size) : ∀ j u, [x][j]? = some u → (w.alloc (.cells #[x] t)).cell? ((⟨g, 0, none⟩ : Addr).add j) = some u := by subst hg; exact news_one w x t
theorem two_slice (a b : Option Addr) (n m c d : Nat) : ∀ u ∈ [Value.slice a n c, Value.slice b m d], u.oneCell' = true := by
  intro u hu; simp at hu; rcases hu with rfl | rfl <;> rfl
theorem flatC_take (c : List Lt) (k : Nat) (h : k < c.length) : flatC (c.take (k+1)) = flatC (c.take k) ++ [(c.getD k lt0).2.1] ++ [(c.getD k lt0).2.2] := by
  rw [List.take_succ_eq_append_getElem h, flatC_app]
  simp [flatC, List.getD, h]
/-- A literal's terms as they lie in the world W. -/
theorem SlC.two {lo hi : Nat} {w : World} {ad : Option Addr} {n k : Nat} {c : List Lt} (h : SlC lo hi w (.slice ad n k) c) (j : Nat) (hj : j < c.length) :
    ∃ (b off : Nat) (z1 z2 : SV), ad = some ⟨b, off, none⟩ ∧ b < w.heap.size ∧ w.cell? ⟨b, off + j * 3, none⟩ = some (.bool (c.getD j lt0).1) ∧ w.cell? ⟨b, off + j * 3 + 1, none⟩ = some (encS z1) ∧ w.cell? ⟨b, off + j * 3 + 2, none⟩ = some (encS z2) ∧
      SlI 0 w.heap.size w (encS z1) (c.getD j lt0).2.1 ∧ SlI 0 w.heap.size w (encS z2) (c.getD j lt0).2.2 := by
  obtain ⟨b, off, u1, u2, rfl, hb, c1, c2, c3, s1, s2⟩ := h.at (Bel.rfl' w) j hj
  obtain ⟨x1, y1, rfl⟩ := s1.form
  obtain ⟨x2, y2, rfl⟩ := s2.form
  exact ⟨b, off, (x1, _, y1), (x2, _, y2), rfl, hb, c1, c2, c3, s1.in', s2.in'⟩

set_option maxRecDepth 100000 in
set_option maxHeartbeats 400000 in
theorem termsIn_c (l h : Nat) (v : Value) (c : List Lt) (w : World) (hx : c.length ≤ 1048576) (hv : SlC l h w v c) :
    Calls Try.prog 69 #[v] w (RetRow w (flatC c)) := by
  obtain ⟨i1, hi1, hy0, hy1, hy2⟩ := info_parts Try.info24
  obtain ⟨ad, cap, rfl⟩ := hv.form
  go_enter Try.func69, Try.ntmps69
  go_wp2_with fail
  go_loopw [3, 8] (fun o i wr => ∃ k : Nat, k ≤ c.length ∧ i = .int .i64 k ∧ RowV w wr o (flatC (c.take k)) ∧ Bel w wr) (fun _ i _ => c.length - (intOf i).toNat)
  case atStart => exact ⟨0, Nat.zero_le _, rfl, ⟨[], World.ownsRow_nil _ _ _ _, Els.nil _⟩, Bel.rfl' _⟩
  case round =>
    obtain ⟨k, hk, rfl, hrow, hb⟩ := hrel
    by_cases hlt : k < c.length
    · obtain ⟨b, off, z1, z2, rfl, hbs, e1, e2, e3, s1, s2⟩ := hv.two k hlt
      have c1 := hb.at (World.block_lt_of_cell? _ ⟨_, _, none⟩ e1) e1
      have c2 := hb.at (World.block_lt_of_cell? _ ⟨_, _, none⟩ e2) e2
      have c3 := hb.at (World.block_lt_of_cell? _ ⟨_, _, none⟩ e3) e3
      have HF := Lib.hid (flatC_take c k hlt)
      have hfl := flatC_len (c.take k)
      have hkl : (c.take k).length = k := by rw [List.length_take]; omega
      obtain ⟨zs, ho, hE⟩ := hrow
      have hzl := hE.1
      have hE2 := Lib.hid ((hE.snoc s1).snoc s2)
      have hin1 : (k : Int) < c.length := by omega
      generalize (c.getD k lt0).1 = p at *
      obtain ⟨a1, n1, d1⟩ := z1
      obtain ⟨a2, n2, d2⟩ := z2
      simp only [encS] at c2 c3
      have hbz := hb.size
      clear hv s1 s2 hE e1 e2 e3
      go_wp2_with (at_builtin; refine wpList_append_own _ rfl _ _ 52 rfl w.heap.size 24 i1 (.slice none 0 0) 1 24 Try.underlying52 hi1 hy0 hy1 hy2 rfl (by decide) _ _ _ rfl ((ho.alloc _).alloc _) ⟨wr.heap.size + 1, 0, none⟩ 2 2 [.slice a1 n1 d1, .slice a2 n2 d2] rfl rfl (news_two_at _ _ _ _ _ (by simp)) (two_slice _ _ _ _ _ _) (by unfold maxLen; rw [hzl]; omega) (by rw [hzl]; omega) (by simp; omega) ?_; intro v' w1 hown' hgrow _)
      go_roundw
      case rel =>
        refine ⟨k+1, by omega, by go_num, ?_, ?_⟩
        · rw [HF.out]
          exact ⟨zs ++ [(a1, n1, d1)] ++ [(a2, n2, d2)], by simpa [encS] using hown', hE2.out⟩
        · exact ((hb.alloc _).alloc _).grown hgrow (fun q hq => own_base ho q hq)
      case measure => simp [intOf]; omega
    · rw [List.take_of_length_le (by omega)] at hrow
      obtain ⟨og, oc, rfl⟩ := hrow.form
      go_wp2_with fail
      go_ret
      exact ⟨_, _, _, rfl, hrow, hb⟩

set_option maxRecDepth 100000 in
set_option maxHeartbeats 400000 in
theorem l4Terms_c (l h : Nat) (v : Value) (c : List Lt) (w : World) (hx : c.length ≤ 1048576) (hv : SlC l h w v c) :
    Calls Try.prog 109 #[v] w (RetRow w (flatC c)) := by
  obtain ⟨i1, hi1, hy0, hy1, hy2⟩ := info_parts Try.info24
  obtain ⟨ad, cap, rfl⟩ := hv.form
  go_enter Try.func109, Try.ntmps109
  go_wp2_with fail
  go_loopw [3, 8] (fun o i wr => ∃ k : Nat, k ≤ c.length ∧ i = .int .i64 k ∧ RowV w wr o (flatC (c.take k)) ∧ Bel w wr) (fun _ i _ => c.length - (intOf i).toNat)
  case atStart => exact ⟨0, Nat.zero_le _, rfl, ⟨[], World.ownsRow_nil _ _ _ _, Els.nil _⟩, Bel.rfl' _⟩
  case round =>
    obtain ⟨k, hk, rfl, hrow, hb⟩ := hrel
    by_cases hlt : k < c.length
    · obtain ⟨b, off, z1, z2, rfl, hbs, e1, e2, e3, s1, s2⟩ := hv.two k hlt
      have c1 := hb.at (World.block_lt_of_cell? _ ⟨_, _, none⟩ e1) e1
      have c2 := hb.at (World.block_lt_of_cell? _ ⟨_, _, none⟩ e2) e2
      have c3 := hb.at (World.block_lt_of_cell? _ ⟨_, _, none⟩ e3) e3
      have HF := Lib.hid (flatC_take c k hlt)
      have hfl := flatC_len (c.take k)
      have hkl : (c.take k).length = k := by rw [List.length_take]; omega
      obtain ⟨zs, ho, hE⟩ := hrow
      have hzl := hE.1
      have hE2 := Lib.hid ((hE.snoc s1).snoc s2)
      have hin1 : (k : Int) < c.length := by omega
      generalize (c.getD k lt0).1 = p at *
      obtain ⟨a1, n1, d1⟩ := z1
      obtain ⟨a2, n2, d2⟩ := z2
      simp only [encS] at c2 c3
      have hbz := hb.size
      clear hv s1 s2 hE e1 e2 e3
      go_wp2_with (at_builtin; refine wpList_append_own _ rfl _ _ 52 rfl w.heap.size 24 i1 (.slice none 0 0) 1 24 Try.underlying52 hi1 hy0 hy1 hy2 rfl (by decide) _ _ _ rfl ((ho.alloc _).alloc _) ⟨wr.heap.size + 1, 0, none⟩ 2 2 [.slice a1 n1 d1, .slice a2 n2 d2] rfl rfl (news_two_at _ _ _ _ _ (by simp)) (two_slice _ _ _ _ _ _) (by unfold maxLen; rw [hzl]; omega) (by rw [hzl]; omega) (by simp; omega) ?_; intro v' w1 hown' hgrow _)
      go_roundw
      case rel =>
        refine ⟨k+1, by omega, by go_num, ?_, ?_⟩
        · rw [HF.out]
          exact ⟨zs ++ [(a1, n1, d1)] ++ [(a2, n2, d2)], by simpa [encS] using hown', hE2.out⟩
        · exact ((hb.alloc _).alloc _).grown hgrow (fun q hq => own_base ho q hq)
      case measure => simp [intOf]; omega
    · rw [List.take_of_length_le (by omega)] at hrow
      obtain ⟨og, oc, rfl⟩ := hrow.form
      go_wp2_with fail
      go_ret
      exact ⟨_, _, _, rfl, hrow, hb⟩
end Go.Proofs.Ytajmjjandkdhiaa
end
section
/- The places of a symbol's arguments: both functions' inner ones, and ArgsAt. -/
namespace Go.Proofs.Ytajmjjandkdhiaa
open Go.RowKit

def natsI (l : List Nat) : List Int := l.map fun (n : Nat) => (n : Int)
theorem natsI_len (l : List Nat) : (natsI l).length = l.length := by simp [natsI]
theorem argsGo_succ {ar t : List Int} {k p q : Nat} (h : endOf ar t p = some q) : argsGo ar t (k + 1) p = p :: argsGo ar t k q := by simp [argsGo, h]

/-- Somewhere in the loop over the arguments: acc is done, k are still to come, from p on. -/
def ArgSt (ar t : List Int) (all : List Nat) (acc : List Nat) (k p : Nat) : Prop := all = acc ++ argsGo ar t k p ∧ ∃ e, endGo ar (t.drop p) k p = some e ∧ e ≤ t.length
theorem ArgSt.start {ar t : List Int} {i : Nat} (h : okTerm ar t = true) (hi : i < t.length) : ArgSt ar t (argsOf ar t i) [] (arOf ar (t.getD i 0)) (i + 1) := by
  obtain ⟨e, h1, h2⟩ := good_args ar t h i hi
  exact ⟨rfl, e, h1, h2⟩
theorem ArgSt.next {ar t : List Int} {all acc : List Nat} {k p : Nat} (h : ArgSt ar t all acc (k + 1) p) : ∃ q, endOf ar t p = some q ∧ p < t.length ∧ p < q ∧ q ≤ t.length ∧ ArgSt ar t all (acc ++ [p]) k q := by
  obtain ⟨h1, e, h2, h3⟩ := h
  obtain ⟨q, hq, hr, hpq, hqe⟩ := ends_step ar t p k e h2
  exact ⟨q, hq, by omega, hpq, by omega, by rw [h1, argsGo_succ hq]; simp, e, hr, h3⟩
theorem ArgSt.done {ar t : List Int} {all acc : List Nat} {p : Nat} (h : ArgSt ar t all acc 0 p) : all = acc := by rw [h.1]; simp [argsGo]
theorem argsOf_neg {ar t : List Int} {i : Nat} (h : t.getD i 0 < 0) : argsOf ar t i = [] := by unfold argsOf; rw [arOf_neg h]; rfl
theorem argsOf_len {ar t : List Int} {i : Nat} : (argsOf ar t i).length = arOf ar (t.getD i 0) := argsGo_len _ _ _ _

theorem natsI_snoc (l : List Nat) (p : Nat) : natsI (l ++ [p]) = natsI l ++ [(p : Int)] := by simp [natsI]

set_option maxRecDepth 100000 in
set_option maxHeartbeats 2000000 in
theorem argStarts_c (l h l' h' : Nat) (v u : Value) (ar t : List Int) (i : Nat) (w : World) (hg : goodSign ar = true) (hok : okTerm ar t = true) (hi : i < t.length) (hv : SlI l h w v ar) (hu : SlI l' h' w u t) :
    Calls Try.prog 119 #[.agg #[v], u, .int .i64 i] w (RetI w (natsI (argsOf ar t i))) := by
  have hv0 := hv; have hu0 := hu
  obtain ⟨ad, cap, rfl, -, -, hr⟩ := hv
  obtain ⟨ad', cap', rfl, -, -, hr'⟩ := hu
  have hlen := sign_len ar hg
  have htl := ((okTerm_iff ar t).1 hok).2.1
  have hst := ArgSt.start hok hi
  have hsym := good_sym ar t hok i hi
  have htc := fun (p : Nat) => termEnd_c l h l' h' (.slice ad ar.length cap) (.slice ad' t.length cap') ar t p
  obtain ⟨i0, hi0, hz0, hz1, hz2⟩ := info_parts Try.info3
  obtain ⟨b', off', rfl, hbl, hcell'⟩ := rd hr' (Bel.rfl' w) i hi
  have hE := fun h => argsOf_neg (ar := ar) (t := t) (i := i) h
  clear hr'
  have hn3 := arOf_le ar hg (t.getD i 0)
  generalize t.getD i 0 = x at *
  by_cases hx : x < 0
  · have E := Lib.hid (hE hx)
    clear hst hE htc
    go_enter Try.func119, Try.ntmps119
    go_wp2_with fail
    go_ret
    refine ⟨none, 0, 0, rfl, ?_, Bel.alloc0 _ _⟩
    rw [E.out]; exact OwnI.nil _ _ _
  · obtain ⟨k, rfl⟩ : ∃ k : Nat, x = k := ⟨x.toNat, by omega⟩
    have hk := okSym_lt hsym
    obtain ⟨b, off, rfl, hbl2, hcell⟩ := rd hr (Bel.rfl' w) k hk
    have hn := ar_nonneg ar hg k
    rw [arOf_nat] at hst hn3
    clear hr hsym
    obtain ⟨q, hq⟩ : ∃ q : Nat, ar.getD k 0 = q := ⟨(ar.getD k 0).toNat, by omega⟩
    rw [hq] at hcell hst hn hn3
    rw [show ((q : Int)).toNat = q from by omega] at hst hn3
    clear hq
    have hk2 : (k : Int) < ar.length := by omega
    have hi2 : (i : Int) < t.length := by omega
    have HST := Lib.hid hst
    have HTC := Lib.hid htc
    clear hst htc hE
    generalize argsOf ar t i = all at *
    go_enter Try.func119, Try.ntmps119
    go_wp2_with fail
    go_quiet (fail)
    go_wp2_with fail
    go_loopw [7, 8, 24] (fun vs a c wr => ∃ (acc : List Nat) (p j : Nat), j ≤ q ∧ acc.length = j ∧ a = .int .i64 p ∧ c = .int .i64 j ∧ ArgSt ar t all acc (q - j) p ∧
        wr.ownsRow (w.heap.size + 1) 3 1 vs (natsI acc).length ((natsI acc).map (Value.int .i64)) ∧ Bel (w.alloc (.cells #[.slice (some ⟨b, off, none⟩) ar.length cap] 26)) wr) (fun _ _ c _ => q - (intOf c).toNat)
    case atStart => exact ⟨[], i + 1, 0, Nat.zero_le _, rfl, by go_num, rfl, HST.out, World.ownsRow_nil _ _ _ _, (Bel.rfl' _).drewN _⟩
    case round =>
      obtain ⟨acc, p, j, hj, hacc, rfl, rfl, hst, hown, hb⟩ := hrel
      have hbox := boxc hb 0 _ rfl
      by_cases hlt : j < q
      · obtain ⟨q', hq', hpt, hpq, hqt, hst'⟩ := ArgSt.next (show ArgSt ar t all acc ((q - (j + 1)) + 1) p by rw [show q - (j + 1) + 1 = q - j from by omega]; exact hst)
        have HC := Lib.hid (fun w a b c d e => endP_some hq' ▸ HTC.out p w a b c d e)
        have HS2 := Lib.hid hst'
        have hal : (natsI acc).length ≤ 3 := by rw [natsI_len]; omega
        have HA := Lib.hid hacc
        clear hst hst' hq' hacc
        go_wp2_with (at_builtin; refine wpList_append_own _ rfl _ _ 24 rfl (w.heap.size + 1) 3 i0 (.int .i64 0) 1 8 Try.underlying24 hi0 hz0 hz1 hz2 rfl (by decide) _ _ _ rfl (hown.alloc _) ⟨wr.heap.size, 0, none⟩ 1 1 [.int .i64 p] rfl rfl (news_one _ _ _) (one_int _) (by unfold maxLen; omega) (by omega) (by have := hb.size; simp at *; omega) ?_; intro v' w1 hown' hgrow _; have hb1 := (hb.alloc (.cells #[.int .i64 p] 3)).grown hgrow (fun k hk => by have := own_base hown k hk; simp; omega); have hbox1 := boxc hb1 0 _ rfl)
        refine (HC.out _ hg (by omega) (by omega) (hv0.below hb1.of_alloc) (hu0.below hb1.of_alloc)).mono ?_; rintro e w2 ⟨rfl, hb2⟩
        have hown2 := ownsRow_bel (row_snoc hown') hb2
        rw [← natsI_snoc] at hown2
        go_wp2_with fail
        go_roundw
        case rel => exact ⟨acc ++ [p], q', j + 1, by omega, by simp [HA.out], rfl, by go_num, by rw [show q - (j + 1) = q - (j + 1) from rfl]; exact HS2.out, hown2, hb1.step hb2⟩
        case measure => simp [intOf]; omega
      · rw [show q - j = 0 from by omega] at hst
        have HS2 := Lib.hid hst.done
        clear hst
        go_wp2_with fail
        obtain ⟨g, n, c, hv'⟩ := own_form hown
        subst hv'
        go_ret
        exact ⟨_, _, _, rfl, by rw [HS2.out]; exact (OwnI.of_row hown).mono (by omega) (Nat.le_refl _), hb.of_alloc⟩
set_option maxRecDepth 100000 in
set_option maxHeartbeats 2000000 in
theorem l1Args_c (l h l' h' : Nat) (v u : Value) (ar t : List Int) (i : Nat) (w : World) (hg : goodSign ar = true) (hok : okTerm ar t = true) (hi : i < t.length) (hv : SlI l h w v ar) (hu : SlI l' h' w u t) :
    Calls Try.prog 124 #[.agg #[v], u, .int .i64 i] w (RetI w (natsI (argsOf ar t i))) := by
  have hv0 := hv; have hu0 := hu
  obtain ⟨ad, cap, rfl, -, -, hr⟩ := hv
  obtain ⟨ad', cap', rfl, -, -, hr'⟩ := hu
  have hlen := sign_len ar hg
  have htl := ((okTerm_iff ar t).1 hok).2.1
  have hst := ArgSt.start hok hi
  have hsym := good_sym ar t hok i hi
  have htc := fun (p : Nat) => l1End_c l h l' h' (.slice ad ar.length cap) (.slice ad' t.length cap') ar t p
  obtain ⟨i0, hi0, hz0, hz1, hz2⟩ := info_parts Try.info3
  obtain ⟨b', off', rfl, hbl, hcell'⟩ := rd hr' (Bel.rfl' w) i hi
  have hE := fun h => argsOf_neg (ar := ar) (t := t) (i := i) h
  clear hr'
  have hn3 := arOf_le ar hg (t.getD i 0)
  generalize t.getD i 0 = x at *
  by_cases hx : x < 0
  · have E := Lib.hid (hE hx)
    clear hst hE htc
    go_enter Try.func124, Try.ntmps124
    go_wp2_with fail
    go_ret
    refine ⟨none, 0, 0, rfl, ?_, Bel.alloc0 _ _⟩
    rw [E.out]; exact OwnI.nil _ _ _
  · obtain ⟨k, rfl⟩ : ∃ k : Nat, x = k := ⟨x.toNat, by omega⟩
    have hk := okSym_lt hsym
    obtain ⟨b, off, rfl, hbl2, hcell⟩ := rd hr (Bel.rfl' w) k hk
    have hn := ar_nonneg ar hg k
    rw [arOf_nat] at hst hn3
    clear hr hsym
    obtain ⟨q, hq⟩ : ∃ q : Nat, ar.getD k 0 = q := ⟨(ar.getD k 0).toNat, by omega⟩
    rw [hq] at hcell hst hn hn3
    rw [show ((q : Int)).toNat = q from by omega] at hst hn3
    clear hq
    have hk2 : (k : Int) < ar.length := by omega
    have hi2 : (i : Int) < t.length := by omega
    have HST := Lib.hid hst
    have HTC := Lib.hid htc
    clear hst htc hE
    generalize argsOf ar t i = all at *
    go_enter Try.func124, Try.ntmps124
    go_wp2_with fail
    go_quiet (fail)
    go_wp2_with fail
    go_loopw [7, 8, 9] (fun vs a c wr => ∃ (acc : List Nat) (p j : Nat), j ≤ q ∧ acc.length + j = q ∧ a = .int .i64 p ∧ c = .int .i64 j ∧ ArgSt ar t all acc j p ∧
        wr.ownsRow (w.heap.size + 1) 3 1 vs (natsI acc).length ((natsI acc).map (Value.int .i64)) ∧ Bel (w.alloc (.cells #[.slice (some ⟨b, off, none⟩) ar.length cap] 26)) wr) (fun _ _ c _ => (intOf c).toNat)
    case atStart => exact ⟨[], i + 1, q, Nat.le_refl _, by simp, by go_num, rfl, HST.out, World.ownsRow_nil _ _ _ _, (Bel.rfl' _).drewN _⟩
    case round =>
      obtain ⟨acc, p, j, hj, hacc, rfl, rfl, hst, hown, hb⟩ := hrel
      have hbox := boxc hb 0 _ rfl
      cases j with
      | succ j =>
        obtain ⟨q', hq', hpt, hpq, hqt, hst'⟩ := ArgSt.next hst
        have HC := Lib.hid (fun w a b c d e => endI_some hq' ▸ HTC.out p w a b c d e)
        have HS2 := Lib.hid hst'
        have hal : (natsI acc).length ≤ 3 := by rw [natsI_len]; omega
        have HA := Lib.hid hacc
        clear hst hst' hq' hacc
        rw [show ((j + 1 : Nat) : Int) = (j : Int) + 1 from by omega]
        go_wp2_with (at_builtin; refine wpList_append_own _ rfl _ _ 24 rfl (w.heap.size + 1) 3 i0 (.int .i64 0) 1 8 Try.underlying24 hi0 hz0 hz1 hz2 rfl (by decide) _ _ _ rfl (hown.alloc _) ⟨wr.heap.size, 0, none⟩ 1 1 [.int .i64 p] rfl rfl (news_one _ _ _) (one_int _) (by unfold maxLen; omega) (by omega) (by have := hb.size; simp at *; omega) ?_; intro v' w1 hown' hgrow _; have hb1 := (hb.alloc (.cells #[.int .i64 p] 3)).grown hgrow (fun k hk => by have := own_base hown k hk; simp; omega); have hbox1 := boxc hb1 0 _ rfl)
        refine (HC.out _ hg (by omega) (by omega) (hv0.below hb1.of_alloc) (hu0.below hb1.of_alloc)).mono ?_; rintro e w2 ⟨rfl, hb2⟩
        have hown2 := ownsRow_bel (row_snoc hown') hb2
        rw [← natsI_snoc] at hown2
        go_wp2_with fail
        go_roundw
        case rel => exact ⟨acc ++ [p], q', j, by omega, by have := HA.out; simp; omega, rfl, by go_num, HS2.out, hown2, hb1.step hb2⟩
        case measure => simp [intOf]
      | zero =>
        have HS2 := Lib.hid hst.done
        clear hst
        go_wp2_with fail
        obtain ⟨g, n, c, hv'⟩ := own_form hown
        subst hv'
        go_ret
        exact ⟨_, _, _, rfl, by rw [HS2.out]; exact (OwnI.of_row hown).mono (by omega) (Nat.le_refl _), hb.of_alloc⟩

/-- What ArgsAt answers. -/
def argsAns (ar t : List Int) (i : Int) : List Int := if askOk ar t i then natsI (argsOf ar t i.toNat) else []
theorem argsAns_len (ar t : List Int) (i : Int) : (argsAns ar t i).length ≤ 1048576 := by
  unfold argsAns
  split
  · rename_i h
    obtain ⟨k, e, rfl, _, _, _, _, _, hg, _⟩ := ask_yes h
    rw [natsI_len, argsOf_len]
    exact Nat.le_trans (arOf_le ar hg _) (by omega)
  · exact Nat.zero_le _

end Go.Proofs.Ytajmjjandkdhiaa
end
section
/- VarsOf: both functions. -/
namespace Go.Proofs.Ytajmjjandkdhiaa
open Go.RowKit

/-- Twelve bools. -/
def arr (f : Nat → Bool) : Array Value := #[.bool (f 0), .bool (f 1), .bool (f 2), .bool (f 3), .bool (f 4), .bool (f 5), .bool (f 6), .bool (f 7), .bool (f 8), .bool (f 9), .bool (f 10), .bool (f 11)]
def anyB (f : Nat → Bool) : Bool := f 0 || f 1 || f 2 || f 3 || f 4 || f 5 || f 6 || f 7 || f 8 || f 9 || f 10 || f 11
theorem arr_set (f : Nat → Bool) (j : Nat) (b : Bool) (h : j < 12) : (arr f).setIfInBounds j (.bool b) = arr (fun i => if i = j then b else f i) := by
  match j, h with
  | 0, _ => rfl
  | 1, _ => rfl
  | 2, _ => rfl
  | 3, _ => rfl
  | 4, _ => rfl
  | 5, _ => rfl
  | 6, _ => rfl
  | 7, _ => rfl
  | 8, _ => rfl
  | 9, _ => rfl
  | 10, _ => rfl
  | 11, _ => rfl
theorem arr_get (f : Nat → Bool) (j : Nat) (h : j < 12) : (arr f)[j]? = some (.bool (f j)) := by
  match j, h with
  | 0, _ => rfl
  | 1, _ => rfl
  | 2, _ => rfl
  | 3, _ => rfl
  | 4, _ => rfl
  | 5, _ => rfl
  | 6, _ => rfl
  | 7, _ => rfl
  | 8, _ => rfl
  | 9, _ => rfl
  | 10, _ => rfl
  | 11, _ => rfl

theorem eq12 (w : World) (b0 b1 b2 b3 b4 b5 b6 b7 b8 b9 b10 b11 : Bool) :
    (Op.equalIn 10000 86 (.agg #[.bool b0, .bool b1, .bool b2, .bool b3, .bool b4, .bool b5, .bool b6, .bool b7, .bool b8, .bool b9, .bool b10, .bool b11]) (.agg #[.bool false, .bool false, .bool false, .bool false, .bool false, .bool false, .bool false, .bool false, .bool false, .bool false, .bool false, .bool false])).run Try.prog w = .ok (!(b0 || b1 || b2 || b3 || b4 || b5 || b6 || b7 || b8 || b9 || b10 || b11)) w := by
  cases b0
  · cases b1
    · cases b2
      · cases b3
        · cases b4
          · cases b5
            · cases b6
              · cases b7
                · cases b8
                  · cases b9
                    · cases b10
                      · cases b11 <;> kernel_rfl
                      · kernel_rfl
                    · kernel_rfl
                  · kernel_rfl
                · kernel_rfl
              · kernel_rfl
            · kernel_rfl
          · kernel_rfl
        · kernel_rfl
      · kernel_rfl
    · kernel_rfl
  · kernel_rfl

def BlkIs (w : World) (B : Nat) (T : TypeId) (f : Nat → Bool) : Prop := w.heap[B]? = some (.cells (arr f) T (0, 0))
theorem BlkIs.cell {w : World} {B : Nat} {T : TypeId} {f : Nat → Bool} (h : BlkIs w B T f) (j : Nat) (hj : j < 12) : w.cell? ⟨B, j, none⟩ = some (.bool (f j)) := by
  unfold BlkIs at h
  simp [World.cell?, h, arr_get f j hj]
theorem BlkIs.free {w : World} {B : Nat} {T : TypeId} {f : Nat → Bool} (h : BlkIs w B T f) (j : Nat) : w.frozen? ⟨B, j, none⟩ = false := by
  unfold BlkIs at h
  simp [World.frozen?, h]
theorem BlkIs.lt {w : World} {B : Nat} {T : TypeId} {f : Nat → Bool} (h : BlkIs w B T f) : B < w.heap.size := (Array.getElem?_eq_some_iff.1 h).1
theorem BlkIs.bel {w w' : World} {B : Nat} {T : TypeId} {f : Nat → Bool} (h : BlkIs w B T f) (hb : Bel w w') : BlkIs w' B T f := (hb.block B h.lt).trans h
theorem BlkIs.set {w : World} {B : Nat} {T : TypeId} {f : Nat → Bool} (h : BlkIs w B T f) (j : Nat) (hj : j < 12) (b : Bool) : BlkIs (w.setCell ⟨B, j, none⟩ (.bool b)) B T (fun i => if i = j then b else f i) := by
  have hlt := h.lt
  have h' : w.heap[B] = .cells (arr f) T (0, 0) := by unfold BlkIs at h; simpa [Array.getElem?_eq_getElem hlt] using h
  show (w.heap.modify B _)[B]? = _
  rw [Array.getElem?_eq_getElem (by simpa using hlt), Array.getElem_modify_self, h']
  simp [arr_set f j b hj]
theorem BlkIs.other {w : World} {B : Nat} {T : TypeId} {f : Nat → Bool} (h : BlkIs w B T f) {p : Addr} (hp : p.block ≠ B) (v : Value) : BlkIs (w.setCell p v) B T f :=
  (Below.heap_setCell w p v B (by omega)).trans h

/-- .. while a row of the call's own, behind it, has grown. -/
theorem blk_grown {w w' : World} {o : Obj} {B : Nat} {T e : TypeId} {f : Nat → Bool} {v : Value} {n sz : Nat} {xs : List Value} (h : BlkIs w B T f) (hown : w.ownsRow (B + 1) e sz v n xs) (hg : (w.alloc o).grownBy w' v.ownBlock) : BlkIs w' B T f := by
  have hlt := h.lt
  refine (hg.block B (by simp; omega) (fun e => ?_)).trans ((Below.heap_alloc w o B hlt).trans h)
  have := own_base hown B e.symm
  omega
def mk (t : List Int) (j : Nat) : Bool := decide ((-1 - (j : Int)) ∈ t)
theorem mk_step (t : List Int) (k m : Nat) (hk : k < t.length) (hx : t.getD k 0 = -1 - (m : Int)) : (fun i => if i = m then true else mk (t.take k) i) = mk (t.take (k+1)) := by
  funext i
  unfold mk
  rw [List.take_succ_eq_append_getElem hk]
  have e : t[k] = -1 - (m : Int) := by simpa [List.getD, hk] using hx
  rw [e]
  by_cases h : i = m
  · subst h; simp
  · rw [if_neg h]
    have : (-1 - (i : Int)) ≠ -1 - (m : Int) := by omega
    simp [this]
theorem mk_skip (t : List Int) (k : Nat) (hk : k < t.length) (hx : 0 ≤ t.getD k 0) : mk (t.take k) = mk (t.take (k+1)) := by
  funext i
  unfold mk
  rw [List.take_succ_eq_append_getElem hk]
  have e : 0 ≤ t[k] := by simpa [List.getD, hk] using hx
  have h1 : (-1 - (i : Int)) ≠ t[k] := by omega
  have h2 : (-1 - (i : Int) ∈ t.take k) ↔ (-1 - (i : Int) ∈ t.take k ++ [t[k]]) := by
    rw [List.mem_append, List.mem_singleton]
    exact ⟨Or.inl, fun h => h.resolve_right h1⟩
  exact decide_eq_decide.2 h2

theorem results_cell_one {fn : Func} {p : Tmp} {ty : TypeId} (h : fn.results = #[.cell p ty]) (tmps : Array Value) (P : Program) (w : World) :
    (results fn tmps).run P w = ((asAddr (tmps.getD p undef)).run P w).andThen fun a w₁ => (loadVar ty a).run P w₁ := by
  simp only [results, h]
  simp [Sem.run_bind, Result.andThen]
theorem arr_all (f : Nat → Bool) : (arr f).all (·.oneCell') = true := by simp [arr, Value.oneCell']
theorem Try.info86 : (Try.prog.info? 86).map (·.size) = some 12 := by kernel_rfl
theorem zero12 : (#[.bool false, .bool false, .bool false, .bool false, .bool false, .bool false, .bool false, .bool false, .bool false, .bool false, .bool false, .bool false] : Array Value) = arr (fun _ => false) := rfl

set_option maxRecDepth 100000 in
set_option maxHeartbeats 400000 in
theorem marksOf_c (l h : Nat) (v : Value) (t : List Int) (w : World) (ht : t.length ≤ 1048576) (hlow : ∀ k, k < t.length → -12 ≤ t.getD k 0) (hv : SlI l h w v t) :
    Calls Try.prog 72 #[v] w (RetV w (.agg (arr (mk t)))) := by
  obtain ⟨ad, cap, rfl, -, -, hr⟩ := hv
  go_enter Try.func72, Try.ntmps72
  go_wp2_with fail
  go_loopw [8] (fun i wr => ∃ k : Nat, k ≤ t.length ∧ i = .int .i64 k ∧ BlkIs wr (w.heap.size + 1) 86 (mk (t.take k)) ∧ BlkIs wr w.heap.size 86 (fun _ => false) ∧ Bel w wr) (fun i _ => t.length - (intOf i).toNat)
  case atStart =>
    refine ⟨0, Nat.zero_le _, rfl, ?_, ?_, Bel.alloc2 _ _ _⟩
    · have e : mk (t.take 0) = fun _ => false := by funext i; simp [mk]
      rw [e]; unfold BlkIs; rw [← zero12]
      have := heap_alloc_new (w.alloc (.cells (arr fun _ => false) 86)) (.cells (arr fun _ => false) 86)
      simpa [zero12] using this
    · unfold BlkIs; rw [← zero12]
      rw [Below.heap_alloc _ _ _ (by simp)]
      exact heap_alloc_new w _
  case round =>
    obtain ⟨k, hk, rfl, hB1, hB0, hb⟩ := hrel
    by_cases hlt : k < t.length
    · obtain ⟨b, off, rfl, -, hcell⟩ := rd hr hb k hlt
      have hx12 := hlow k hlt
      have E1 := Lib.hid (fun m => mk_step t k m hlt)
      have E2 := Lib.hid (mk_skip t k hlt)
      clear hr hlow
      generalize t.getD k 0 = x at *
      by_cases hx : x < 0
      · have hm : (-1 - x).toNat < 12 := by omega
        have hc := hB1.cell _ hm
        have hf := hB1.free (-1 - x).toNat
        have hi0 : 0 ≤ -1 - x := by omega
        have hi1 : -1 - x < 12 := by omega
        have HS := Lib.hid (hB1.set _ hm true)
        have H0 := Lib.hid (hB0.other (p := ⟨w.heap.size + 1, (-1 - x).toNat, none⟩) (by simp) (.bool true))
        have hbs := hb.set (p := ⟨w.heap.size + 1, (-1 - x).toNat, none⟩) (by simp) (.bool true)
        have hbb := Lib.hid hbs
        clear hB1 hB0 hbs
        go_wp2_with fail
        go_roundw
        case rel => exact ⟨k+1, by omega, by go_num, by rw [← E1.out (-1 - x).toNat (by omega)]; exact HS.out, H0.out, hbb.out⟩
        case measure => simp [intOf]; omega
      · go_wp2_with fail
        go_roundw
        case rel => exact ⟨k+1, by omega, by go_num, by rw [← E2.out (by omega)]; exact hB1, hB0, hb⟩
        case measure => simp [intOf]; omega
    · rw [show t.take k = t from List.take_of_length_le (by omega)] at hB1
      go_wp2_with (first | (refine wpList_load_row rfl 86 (.tmp 3) rfl (w.heap.size + 1) rfl _ _ _ _ hB1 Try.underlying86 rfl Try.info86 ?_) | (refine wpList_store_row rfl 86 (.tmp 2) (.tmp 18) rfl w.heap.size (arr (mk t)) rfl rfl _ _ hB0 Try.info86 rfl (arr_all _) ?_))
      have hrun := run_loadVar_row (P := Try.prog) (wr.setRow w.heap.size (arr (mk t))) w.heap.size 86 86 (arr (mk t)) (0, 0) _ (setRow_heap wr w.heap.size _ (arr (mk t)) 86 (0, 0) hB0) Try.underlying86 rfl Try.info86
      refine bodyPost_ret (v := .agg (arr (mk t))) ?_ rfl ⟨rfl, below_setRow hb (Nat.le_refl _) _⟩
      rw [results_cell_one Try.results72]
      exact hrun
/-- From v on what is left of f. -/
def leftF (f : Nat → Bool) (v j : Nat) : Bool := f j && decide (v ≤ j)
def varsTo (f : Nat → Bool) (v : Nat) : List Nat := (List.range v).filter f
theorem varsTo_succ (f : Nat → Bool) (v : Nat) : varsTo f (v + 1) = if f v then varsTo f v ++ [v] else varsTo f v := by
  unfold varsTo
  rw [List.range_succ, List.filter_append]
  by_cases h : f v <;> simp [List.filter_cons, h]
theorem left_zero (f : Nat → Bool) : leftF f 0 = f := by funext j; simp [leftF]
theorem left_clear (f : Nat → Bool) (v : Nat) : (fun i => if i = v then false else leftF f v i) = leftF f (v + 1) := by
  funext i
  unfold leftF
  by_cases h : i = v
  · subst h; simp
  · rw [if_neg h]
    congr 1
    rw [decide_eq_decide]; omega
theorem left_skip (f : Nat → Bool) (v : Nat) (h : f v = false) : leftF f v = leftF f (v + 1) := by
  rw [← left_clear]
  funext i
  by_cases e : i = v
  · subst e; simp [leftF, h]
  · rw [if_neg e]
theorem anyB_iff (f : Nat → Bool) : anyB f = true ↔ ∃ j, j < 12 ∧ f j = true := by
  constructor
  · intro h
    simp only [anyB, Bool.or_eq_true] at h
    rcases h with ((((((((((( h | h) | h) | h) | h) | h) | h) | h) | h) | h) | h) | h)
    · exact ⟨0, by omega, h⟩
    · exact ⟨1, by omega, h⟩
    · exact ⟨2, by omega, h⟩
    · exact ⟨3, by omega, h⟩
    · exact ⟨4, by omega, h⟩
    · exact ⟨5, by omega, h⟩
    · exact ⟨6, by omega, h⟩
    · exact ⟨7, by omega, h⟩
    · exact ⟨8, by omega, h⟩
    · exact ⟨9, by omega, h⟩
    · exact ⟨10, by omega, h⟩
    · exact ⟨11, by omega, h⟩
  · rintro ⟨j, hj, h⟩
    match j, hj with
    | 0, _ => simp [anyB, h]
    | 1, _ => simp [anyB, h]
    | 2, _ => simp [anyB, h]
    | 3, _ => simp [anyB, h]
    | 4, _ => simp [anyB, h]
    | 5, _ => simp [anyB, h]
    | 6, _ => simp [anyB, h]
    | 7, _ => simp [anyB, h]
    | 8, _ => simp [anyB, h]
    | 9, _ => simp [anyB, h]
    | 10, _ => simp [anyB, h]
    | 11, _ => simp [anyB, h]
theorem left_some {f : Nat → Bool} {v : Nat} (h : anyB (leftF f v) = true) : v < 12 := by
  obtain ⟨j, hj, h1⟩ := (anyB_iff _).1 h
  simp [leftF] at h1
  omega
theorem left_none {f : Nat → Bool} {v : Nat} (h : anyB (leftF f v) = false) (hv : v ≤ 12) : varsTo f v = varsTo f 12 := by
  have hz : ∀ j, v ≤ j → j < 12 → f j = false := by
    intro j h1 h2
    cases hf : f j with
    | false => rfl
    | true =>
      have : anyB (leftF f v) = true := (anyB_iff _).2 ⟨j, h2, by simp [leftF, hf, h1]⟩
      rw [h] at this; simp at this
  have : ∀ n, v + n ≤ 12 → varsTo f (v + n) = varsTo f v := by
    intro n
    induction n with
    | zero => intro _; rfl
    | succ n ih =>
      intro hn
      rw [show v + (n + 1) = (v + n) + 1 from rfl, varsTo_succ, hz (v + n) (by omega) (by omega), if_neg (by simp), ih (by omega)]
  have h2 := this (12 - v) (by omega)
  rw [show v + (12 - v) = 12 from by omega] at h2
  exact h2.symm
theorem varsTo_len (f : Nat → Bool) (v : Nat) : (varsTo f v).length ≤ v := by
  have := List.length_filter_le f (List.range v)
  simpa [varsTo] using this

def varsAns (ar t : List Int) : List Int := if goodTerm ar t then natsI (varsTo (mk t) 12) else []
theorem varsAns_len (ar t : List Int) : (varsAns ar t).length ≤ 1048576 := by
  unfold varsAns
  split
  · rw [natsI_len]; exact Nat.le_trans (varsTo_len _ _) (by omega)
  · exact Nat.zero_le _
theorem vars_no {ar t : List Int} (h : goodTerm ar t = false) : varsAns ar t = [] := by simp [varsAns, h]
theorem vars_yes {ar t : List Int} (h : goodTerm ar t = true) : varsAns ar t = natsI (varsTo (mk t) 12) := by simp [varsAns, h]
theorem low_of_good {ar t : List Int} (h : goodTerm ar t = true) : ∀ k, k < t.length → -12 ≤ t.getD k 0 := by
  intro k hk
  have := good_sym ar t (goodTerm_iff.1 h).2 k hk
  simp [okSym, inB] at this
  simp only [List.getD]
  omega

set_option maxRecDepth 100000 in
set_option maxHeartbeats 1000000 in
theorem mvars_c (f : Nat → Bool) (w : World) : Calls Try.prog 74 #[.agg (arr f)] w (RetI w (natsI (varsTo f 12))) := by
  obtain ⟨i0, hi0, hz0, hz1, hz2⟩ := info_parts Try.info3
  have hneq := fun (W : World) (f : Nat → Bool) => eq12 W (f 0) (f 1) (f 2) (f 3) (f 4) (f 5) (f 6) (f 7) (f 8) (f 9) (f 10) (f 11)
  have HNEQ : Hid (∀ (W : World) (f : Nat → Bool), (Op.equalIn 10000 86 (.agg (arr f)) (.agg #[.bool false, .bool false, .bool false, .bool false, .bool false, .bool false, .bool false, .bool false, .bool false, .bool false, .bool false, .bool false])).run Try.prog W = .ok (!anyB f) W) := hneq
  clear hneq
  have HBB : Hid ((w.alloc (.cells (arr f) 86)).heap[w.heap.size]? = some (.cells (arr f) 86 (0, 0))) := heap_alloc_new w _
  go_enter Try.func74, Try.ntmps74
  go_wp2_with fail
  go_loopw [3, 4] (fun o x wr => ∃ vv : Nat, vv ≤ 12 ∧ x = .int .i64 vv ∧ BlkIs wr w.heap.size 86 (leftF f vv) ∧
      wr.ownsRow (w.heap.size + 1) 3 1 o (natsI (varsTo f vv)).length ((natsI (varsTo f vv)).map (Value.int .i64)) ∧ Bel w wr ∧ w.heap.size + 1 ≤ wr.heap.size) (fun _ x _ => 12 - (intOf x).toNat)
  case atStart => exact ⟨0, Nat.zero_le _, rfl, by rw [left_zero]; exact HBB.out, World.ownsRow_nil _ _ _ _, Bel.alloc0 w _, by simp⟩
  case round =>
    obtain ⟨vv, hvv, rfl, hB, hown, hbr, hsz⟩ := hrel
    have hq := HNEQ.out wr (leftF f vv)
    have hvl := varsTo_len f vv
    have ES := Lib.hid (varsTo_succ f vv)
    have hnl : (natsI (varsTo f vv)).length ≤ 12 := by rw [natsI_len]; omega
    cases hany : anyB (leftF f vv) with
    | false =>
      rw [hany] at hq
      have EN := Lib.hid (left_none hany hvv)
      clear hany
      obtain ⟨g, m2, c2, hv'⟩ := own_form hown
      subst hv'
      go_wp2_with (refine wpList_load_row rfl 86 (.tmp 1) rfl w.heap.size rfl _ _ _ _ hB Try.underlying86 rfl Try.info86 ?_)
      go_ret
      exact ⟨_, _, _, rfl, by rw [← EN.out]; exact (OwnI.of_row hown).mono (by omega) (Nat.le_refl _), hbr⟩
    | true =>
      rw [hany] at hq
      have hv12 := left_some hany
      have hcell := hB.cell vv hv12
      have hfree := hB.free vv
      have hvi : (vv : Int) < 12 := by omega
      cases hf : f vv with
      | false =>
        have hl : leftF f vv vv = false := by simp [leftF, hf]
        rw [hl] at hcell
        have EL := Lib.hid (left_skip f vv hf)
        have EV : Hid (varsTo f (vv + 1) = varsTo f vv) := by show _ = _; rw [ES.out, hf]; rfl
        have HB := Lib.hid hB
        clear hany hf hl
        go_wp2_with (refine wpList_load_row rfl 86 (.tmp 1) rfl w.heap.size rfl _ _ _ _ HB.out Try.underlying86 rfl Try.info86 ?_)
        go_roundw
        case rel => exact ⟨vv + 1, by omega, by go_num, by rw [← EL.out]; exact HB.out, by rw [EV.out]; exact hown, hbr, hsz⟩
        case measure => simp [intOf]; omega
      | true =>
        have hl : leftF f vv vv = true := by simp [leftF, hf]
        rw [hl] at hcell
        have EV : Hid (natsI (varsTo f (vv + 1)) = natsI (varsTo f vv) ++ [(vv : Int)]) := by show _ = _; rw [ES.out, hf, if_pos rfl, natsI_snoc]
        have HB := Lib.hid hB
        clear hany hf hl
        go_wp2_with (first | (at_builtin; refine wpList_append_own _ rfl _ _ 24 rfl (w.heap.size + 1) 3 i0 (.int .i64 0) 1 8 Try.underlying24 hi0 hz0 hz1 hz2 rfl (by decide) _ _ _ rfl (hown.alloc _) ⟨wr.heap.size, 0, none⟩ 1 1 [.int .i64 vv] rfl rfl (news_one _ _ _) (one_int _) (by unfold maxLen; omega) (by omega) (by simp; omega) ?_; intro v' w3 hown' hgrow _; have hB3 := blk_grown HB.out hown hgrow; have hcell3 := hB3.cell vv hv12; have hfree3 := hB3.free vv) | (refine wpList_load_row rfl 86 (.tmp 1) rfl w.heap.size rfl _ _ _ _ HB.out Try.underlying86 rfl Try.info86 ?_))
        have hB4 := hB3.set vv hv12 false
        rw [left_clear] at hB4
        have hown4 := ownsRow_setCell_below (row_snoc hown') (a := ⟨w.heap.size, vv, none⟩) (by simp) (.bool false)
        rw [← EV.out] at hown4
        have hbr4 := ((hbr.alloc (.cells #[.int .i64 (vv : Int)] 3)).grown hgrow (fun k hk => by have := own_base hown k hk; omega)).set (p := ⟨w.heap.size, vv, none⟩) (Nat.le_refl _) (.bool false)
        have hsz4 : w.heap.size + 1 ≤ (w3.setCell ⟨w.heap.size, vv, none⟩ (.bool false)).heap.size := by have := hgrow.size; simp at this ⊢; omega
        go_roundw
        case rel => exact ⟨vv + 1, by omega, by go_num, hB4, hown4, hbr4, hsz4⟩
        case measure => simp [intOf]; omega

end Go.Proofs.Ytajmjjandkdhiaa
end
