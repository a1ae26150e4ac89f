/- Texts merged, part 7. -/
import Derived.Shelf.SlicesE.Delete
import Derived.Lib.OwnBridge
import Derived.Test.YtajmjjandkdhiaaDoorMgCompareLits6
section
/- Chapter 4: the answers, as plain functions. No program. -/
namespace Go.Proofs.YtajmjjandkdhiaaDoor
open Go.RowKit

def okLit (ar : List Int) (x : Lt) : Bool := okTerm ar x.2.1 && okTerm ar x.2.2
def okLits (ar : List Int) (c : List Lt) : Bool := decide (c.length ≤ 8) && c.all (okLit ar)
def goodClause (ar : List Int) (c : List Lt) : Bool := goodSign ar && okLits ar c
theorem okLit_iff {ar : List Int} {x : Lt} : okLit ar x = true ↔ okTerm ar x.2.1 = true ∧ okTerm ar x.2.2 = true := by simp [okLit]
theorem okLits_iff {ar : List Int} {c : List Lt} : okLits ar c = true ↔ c.length ≤ 8 ∧ ∀ x ∈ c, okLit ar x = true := by simp [okLits]
theorem goodClause_iff {ar : List Int} {c : List Lt} : goodClause ar c = true ↔ goodSign ar = true ∧ c.length ≤ 8 ∧ ∀ x ∈ c, okLit ar x = true := by simp [goodClause, okLits]
theorem okLits_get {ar : List Int} {c : List Lt} (h : ∀ x ∈ c, okLit ar x = true) (j : Nat) (hj : j < c.length) : okTerm ar (c.getD j lt0).2.1 = true ∧ okTerm ar (c.getD j lt0).2.2 = true :=
  okLit_iff.1 (h _ (by simp [List.getD, hj]))
theorem okLits_bad {ar : List Int} {c : List Lt} {j : Nat} (hj : j < c.length) (h : okLit ar (c.getD j lt0) = false) : okLits ar c = false := by
  rw [Bool.eq_false_iff]; intro k
  have := (okLits_iff.1 k).2 (c.getD j lt0) (by simp [List.getD, hj])
  rw [h] at this; simp at this
/-- The first k literals are valid. -/
def okTo (ar : List Int) (c : List Lt) (k : Nat) : Prop := ∀ j, j < k → okLit ar (c.getD j lt0) = true
theorem okTo.step {ar : List Int} {c : List Lt} {k : Nat} (h : okTo ar c k) (hk : okLit ar (c.getD k lt0) = true) : okTo ar c (k+1) := fun j hj => by
  by_cases e : j = k
  · subst e; exact hk
  · exact h j (by omega)
theorem okTo.done {ar : List Int} {c : List Lt} (h : okTo ar c c.length) : okLits ar c = decide (c.length ≤ 8) := by
  unfold okLits
  have : c.all (okLit ar) = true := by
    rw [List.all_eq_true]
    intro x hx
    obtain ⟨j, hj, rfl⟩ := List.getElem_of_mem hx
    have := h j hj
    simpa [List.getD, hj] using this
  rw [this, Bool.and_true]

/-- The same two terms, perhaps exchanged. -/
def sameTs (x y : Lt) : Bool := (decide (x.2.1 = y.2.1) && decide (x.2.2 = y.2.2)) || (decide (x.2.1 = y.2.2) && decide (x.2.2 = y.2.1))
def eqvL (x y : Lt) : Bool := (x.1 == y.1) && sameTs x y
def tidyStep (out : List Lt) (x : Lt) : List Lt := if !x.1 && decide (x.2.1 = x.2.2) then out else if out.any (eqvL x) then out else out ++ [x]
def tidyC (c : List Lt) : List Lt := c.foldl tidyStep []
theorem tidyC_snoc (c : List Lt) (k : Nat) (h : k < c.length) : tidyC (c.take (k+1)) = tidyStep (tidyC (c.take k)) (c.getD k lt0) := by
  unfold tidyC
  rw [List.take_succ_eq_append_getElem h, List.foldl_append]
  simp [List.getD, h]
def tidyAns (ar : List Int) (c : List Lt) : List Lt := if goodClause ar c then tidyC c else []

/-- A tautology's place: the literal k alone, or with an earlier one. -/
def tautAt (c : List Lt) (k : Nat) : Bool := ((c.getD k lt0).1 && decide ((c.getD k lt0).2.1 = (c.getD k lt0).2.2)) || (c.take k).any fun y => ((c.getD k lt0).1 != y.1) && sameTs (c.getD k lt0) y
def tautC (c : List Lt) : Bool := (List.range c.length).any (tautAt c)
def tautAns (ar : List Int) (c : List Lt) : Bool := goodClause ar c && tautC c

def weightAns (ar : List Int) (c : List Lt) : Int := if goodClause ar c then (sumL (flatC c) : Int) else 0

def listL (x : Lt) : List (List Int) := if x.1 then [x.2.1, x.2.2] else [x.2.1, x.2.2, x.2.1, x.2.2]
def litsOk (ar : List Int) (x y : Lt) : Bool := goodSign ar && (okLit ar x && okLit ar y)
def litsAns (ar : List Int) (x y : Lt) : Int := if litsOk ar x y then cmpL (listL x) (listL y) else 0
def maxAt (c : List Lt) (k : Nat) : Bool := (List.range c.length).all fun i => decide (i = k) || !decide (cmpL (listL (c.getD i lt0)) (listL (c.getD k lt0)) = 1)
def maxC (c : List Lt) : List Nat := (List.range c.length).filter (maxAt c)

/-- The signs of one, the terms of another list. -/
def zipC : List Lt → List (List Int) → List Lt
  | x :: c, l :: r :: ts => (x.1, l, r) :: zipC c ts
  | _, _ => []
end Go.Proofs.YtajmjjandkdhiaaDoor
end
section
/- Rows of slices whose elements lie in older memory: copies, deletion. -/
namespace Go.Proofs.YtajmjjandkdhiaaDoor
open Go.RowKit

/-- A slice's three words. -/
abbrev SV := Option Addr × Nat × Nat
def encS (x : SV) : Value := .slice x.1 x.2.1 x.2.2
theorem encS_one (zs : List SV) : ∀ u ∈ zs.map encS, u.oneCell' = true := by
  intro u hu; obtain ⟨z, _, rfl⟩ := List.mem_map.1 hu; rfl
/-- The elements, read in the world W. -/
def Els (W : World) (zs : List SV) (xss : List (List Int)) : Prop := zs.length = xss.length ∧ ∀ j z, zs[j]? = some z → SlI 0 W.heap.size W (encS z) (xss.getD j [])
def RowV (W wr : World) (v : Value) (xss : List (List Int)) : Prop := ∃ zs : List SV, wr.ownsRow W.heap.size 22 1 v zs.length (zs.map encS) ∧ Els W zs xss
def RetRow (W : World) (xss : List (List Int)) (e : Ending) (w' : World) : Prop := ∃ ad n c, e = .returned (.slice ad n c) ∧ RowV W w' (.slice ad n c) xss ∧ Bel W w'
theorem Els.nil (W : World) : Els W [] [] := ⟨rfl, fun j z h => by simp at h⟩
theorem Els.at {W : World} {zs : List SV} {xss : List (List Int)} (h : Els W zs xss) {j : Nat} (hj : j < xss.length) : ∃ z, zs[j]? = some z ∧ SlI 0 W.heap.size W (encS z) (xss.getD j []) :=
  ⟨_, List.getElem?_eq_getElem (by rw [h.1]; exact hj), h.2 j _ (List.getElem?_eq_getElem (by rw [h.1]; exact hj))⟩
theorem Els.erase {W : World} {zs : List SV} {xss : List (List Int)} (h : Els W zs xss) (i : Nat) (hi : i < xss.length) : Els W (zs.eraseIdx i) (xss.eraseIdx i) := by
  refine ⟨by rw [List.length_eraseIdx, List.length_eraseIdx, h.1], fun j z hj => ?_⟩
  rw [List.getElem?_eraseIdx] at hj
  by_cases hlt : j < i
  · rw [if_pos hlt] at hj
    have := h.2 j z hj
    rwa [show (xss.eraseIdx i).getD j [] = xss.getD j [] from by simp [List.getD, List.getElem?_eraseIdx, hlt]]
  · rw [if_neg hlt] at hj
    have := h.2 (j+1) z hj
    rwa [show (xss.eraseIdx i).getD j [] = xss.getD (j+1) [] from by simp [List.getD, List.getElem?_eraseIdx, hlt]]
theorem Els.snoc {W : World} {zs : List SV} {xss : List (List Int)} (h : Els W zs xss) {z : SV} {t : List Int} (hz : SlI 0 W.heap.size W (encS z) t) : Els W (zs ++ [z]) (xss ++ [t]) := by
  refine ⟨by simp [h.1], fun j u hj => ?_⟩
  by_cases e : j < zs.length
  · rw [List.getElem?_append_left e] at hj
    have := h.2 j u hj
    rwa [show (xss ++ [t]).getD j [] = xss.getD j [] from by simp [List.getD, List.getElem?_append_left (show j < xss.length by rw [← h.1]; exact e)]]
  · have hlt := (List.getElem?_eq_some_iff.1 hj).1
    simp at hlt
    obtain rfl : j = zs.length := by omega
    rw [List.getElem?_append_right (Nat.le_refl _), Nat.sub_self] at hj
    simp at hj
    subst hj
    rwa [show (xss ++ [t]).getD zs.length [] = t from by rw [h.1]; simp [List.getD]]
theorem RowV.form {W wr : World} {v : Value} {xss : List (List Int)} (h : RowV W wr v xss) : ∃ ad c, v = .slice ad xss.length c := by
  obtain ⟨zs, ho, he⟩ := h
  obtain ⟨ad, n, c, rfl⟩ := own_form ho
  have := row_len ho
  rw [he.1] at this
  exact ⟨ad, c, by rw [this]⟩
theorem RowV.bel {W wr w2 : World} {v : Value} {xss : List (List Int)} (h : RowV W wr v xss) (hb : Bel wr w2) : RowV W w2 v xss := by
  obtain ⟨zs, ho, he⟩ := h
  exact ⟨zs, ownsRow_bel ho hb, he⟩
theorem RowV.sls {W wr : World} {v : Value} {xss : List (List Int)} (h : RowV W wr v xss) (hb : Bel W wr) : SlS 0 wr.heap.size wr v xss := by
  obtain ⟨zs, h1, h2, h3⟩ := h
  have h0 := h1
  rcases h1.2 with ⟨rfl, hn⟩ | ⟨g, cap, cur, rfl, hg, hh, hn, hc, hs, ht⟩
  · obtain rfl : xss = [] := List.length_eq_zero_iff.1 (by omega)
    exact SlS.nil _ _ _
  · have hgs : g < wr.heap.size := (Array.getElem?_eq_some_iff.1 hh).1
    refine ⟨_, cap, by rw [h2], by omega, ⟨hc, fun h => by simp at h⟩, fun hp => ⟨g, 0, rfl, Nat.zero_le _, hgs, fun j hj => ?_⟩⟩
    have hju : zs[j]? = some zs[j] := List.getElem?_eq_getElem (by omega)
    refine ⟨encS zs[j], by rw [Nat.zero_add, h0.cellAt j (by omega), List.getElem?_map, hju]; rfl, ?_⟩
    exact ((h3 j _ hju).below hb).mono (Nat.le_refl _) hb.size
/-- Reading the k-th. -/
theorem RowV.at {W wr : World} {ad : Option Addr} {n c : Nat} {xss : List (List Int)} (h : RowV W wr (.slice ad n c) xss) (k : Nat) (hk : k < xss.length) :
    ∃ g z, ad = some ⟨g, 0, none⟩ ∧ W.heap.size ≤ g ∧ wr.cell? ⟨g, k, none⟩ = some (encS z) ∧ SlI 0 W.heap.size W (encS z) (xss.getD k []) := by
  obtain ⟨zs, h1, h2⟩ := h
  have h0 := h1
  obtain ⟨z, hz, hs⟩ := h2.at hk
  rcases h1.2 with ⟨e, hn⟩ | ⟨g, cap, cur, e, hg, hh, _⟩
  · rw [h2.1] at hn; omega
  · simp only [Value.slice.injEq] at e
    obtain ⟨rfl, rfl, rfl⟩ := e
    exact ⟨g, z, rfl, hg, by rw [h0.cellAt k (by rw [h2.1]; omega), List.getElem?_map, hz]; rfl, hs⟩

theorem skolem_lt {α : Type} [Inhabited α] {n : Nat} {P : Nat → α → Prop} (H : ∀ j, j < n → ∃ z, P j z) : ∃ f : Nat → α, ∀ j, j < n → P j (f j) :=
  ⟨fun j => if h : j < n then Classical.choose (H j h) else default, fun j hj => by
    show P j (dite (j < n) (fun h => Classical.choose (H j h)) (fun _ => default))
    rw [dif_pos hj]; exact Classical.choose_spec (H j hj)⟩
/-- The three words of the elements of a slice of slices. -/
theorem SlS.vals {lo hi : Nat} {w : World} {ad : Option Addr} {n c : Nat} {xss : List (List Int)} (h : SlS lo hi w (.slice ad n c) xss) : ∃ zs : List SV, Els w zs xss ∧ ∀ a, ad = some a → ∀ j u, (zs.map encS)[j]? = some u → w.cell? (a.add j) = some u := by
  obtain ⟨ad', cap, e, hc, hm, hr⟩ := h
  simp only [Value.slice.injEq] at e
  obtain ⟨rfl, rfl, rfl⟩ := e
  by_cases hp : 0 < xss.length
  · obtain ⟨b, off, rfl, a1, a2, a3⟩ := hr hp
    have H : ∀ j, j < xss.length → ∃ z : SV, w.cell? ⟨b, off + j, none⟩ = some (encS z) ∧ SlI lo hi w (encS z) (xss.getD j []) := fun j hj => by
      obtain ⟨u, h1, h2⟩ := a3 j hj
      obtain ⟨x, y, rfl⟩ := h2.form
      exact ⟨(x, _, y), h1, h2⟩
    obtain ⟨f, hf⟩ := skolem_lt H
    refine ⟨(List.range xss.length).map f, ⟨by simp, fun j z hj => ?_⟩, fun a ha j u hj => ?_⟩
    · have hlt := (List.getElem?_eq_some_iff.1 hj).1
      simp at hlt
      rw [List.getElem?_map, List.getElem?_range hlt] at hj
      simp only [Option.map_some, Option.some.injEq] at hj
      subst hj
      exact (hf j hlt).2.in'
    · have hlt := (List.getElem?_eq_some_iff.1 hj).1
      simp at hlt
      rw [List.getElem?_map, List.getElem?_map, List.getElem?_range hlt] at hj
      simp only [Option.map_some, Option.some.injEq] at hj
      subst hj
      simp only [Option.some.injEq] at ha
      subst ha
      rw [addr_add]
      exact (hf j hlt).1
  · obtain rfl : xss = [] := List.length_eq_zero_iff.1 (by omega)
    exact ⟨[], Els.nil _, fun a _ j u hj => by simp at hj⟩

set_option maxRecDepth 100000 in
theorem cloneS_c (l h : Nat) (v : Value) (xss : List (List Int)) (w : World) (hx : xss.length ≤ 1048576) (hv : SlS l h w v xss) :
    Calls Tryd.prog 56 #[v] w (RetRow w xss) := by
  obtain ⟨i1, hi1, hy0, hy1, hy2⟩ := info_parts Tryd.info22
  obtain ⟨ad, cap, rfl⟩ := hv.form
  have hv0 := hv
  obtain ⟨zs, hE, hcell⟩ := hv.vals
  have hown : (w.alloc (.cells #[] 22)).ownsRow w.heap.size 22 1 (.slice (some ⟨w.heap.size, 0, none⟩) 0 0) ([] : List SV).length (([] : List SV).map encS) :=
    World.ownsRow_lit w #[] 0 (Nat.le_refl _) (Nat.zero_le _) rfl
  have hk := fun (w : World) (a : Option Addr) (n c : Nat) => Lib.run_eql_slice_nil (P := Tryd.prog) w 53 22 a n c 0 0 Tryd.underlying53
  cases ad with
  | none =>
    obtain ⟨ad', cap', e, -, hm, hr⟩ := hv0
    simp only [Value.slice.injEq] at e
    obtain ⟨rfl, -, rfl⟩ := e
    obtain rfl : xss = [] := by
      rcases Nat.eq_zero_or_pos xss.length with h0 | h0
      · exact List.length_eq_zero_iff.1 h0
      · obtain ⟨_, _, e, _⟩ := hr h0; simp at e
    obtain rfl : cap = 0 := hm.2 rfl
    clear hr hm hv hcell hE
    go_enter Tryd.func56, Tryd.ntmps56
    go_wp2_with fail
    go_ret
    exact ⟨_, _, _, rfl, ⟨[], World.ownsRow_nil _ _ _ _, Els.nil _⟩, Bel.rfl' _⟩
  | some a =>
    have hn : ∀ j u, (zs.map encS)[j]? = some u → (w.alloc (.cells #[] 22)).cell? (a.add j) = some u := fun j u hj => by
      have h1 := hcell a rfl j u hj
      have h2 := World.block_lt_of_cell? w (a.add j) h1
      exact ((Bel.alloc0 w (.cells #[] 22)).cell h2).trans h1
    have hzl := hE.1
    clear hcell hv hv0
    go_enter Tryd.func56, Tryd.ntmps56
    go_wp2_with (at_builtin; refine wpList_append_own _ rfl _ _ 53 rfl w.heap.size 22 i1 (.slice none 0 0) 1 24 Tryd.underlying53 hi1 hy0 hy1 hy2 rfl (by decide) _ _ _ rfl hown a xss.length cap (zs.map encS) rfl (by simp [hzl]) hn (encS_one _) (by unfold maxLen; simp; omega) (by simp; omega) (by simp) ?_; intro v' w1 hown' hgrow _)
    have hb1 := (Bel.alloc0 w (.cells #[] 22)).grown hgrow (fun k hk => own_base hown k hk)
    have hown2 : w1.ownsRow w.heap.size 22 1 v' zs.length (zs.map encS) := by rw [hzl]; simpa using hown'
    obtain ⟨g, n, c, rfl⟩ := own_form hown2
    go_ret
    exact ⟨_, _, _, rfl, ⟨zs, hown2, hE⟩, hb1⟩

/-- slices.Delete: the library's contract laid at this program. -/
def delRen : Go.Shelf.Ren := ⟨fun | 45 => 58 | n => n, fun | 0 => 0 | 3 => 3 | 4 => 4 | 22 => 53 | 23 => 22 | n => n, fun n => n⟩
set_option maxRecDepth 100000 in
theorem laysDel : SlLaysE.n45 Tryd.prog delRen := {
  mixed := by kernel_rfl
  f45 := ⟨Tryd.f58.name, by kernel_rfl, Tryd.func58.trans (congrArg some (by kernel_rfl))⟩
  t0 := Tryd.underlying0
  a0 := fun w => by kernel_rfl
  z0 := fun w => by kernel_rfl
  v0 := fun w => by kernel_rfl
  t3 := Tryd.underlying3
  a3 := fun w => by kernel_rfl
  z3 := fun w => by kernel_rfl
  v3 := fun w => by kernel_rfl
  t4 := Tryd.underlying4
  a4 := fun w => by kernel_rfl
  z4 := fun w => by kernel_rfl
  v4 := fun w => by kernel_rfl
  t22 := Tryd.underlying53
  a22 := fun w => by kernel_rfl
  z22 := fun w => by kernel_rfl
  v22 := fun w => by kernel_rfl
  a23 := fun w => by kernel_rfl
  z23 := fun w => by kernel_rfl }

theorem deleteS_c (W wr : World) (ad : Option Addr) (n cap i : Nat) (xss : List (List Int)) (hi : i < xss.length) (hx : xss.length ≤ 1048576) (hb : Bel W wr) (hR : RowV W wr (.slice ad n cap) xss) :
    Calls Tryd.prog 58 #[.slice ad n cap, .int .i64 i, .int .i64 ((i : Int) + 1)] wr (RetRow W (xss.eraseIdx i)) := by
  obtain ⟨i1, hi1, hy0, hy1, hy2⟩ := info_parts Tryd.info22
  obtain ⟨zs, hown, hE⟩ := hR
  have hzl := hE.1
  have hne : Value.slice ad n cap ≠ .slice none 0 0 := by
    intro e
    have := row_len hown
    simp only [Value.slice.injEq] at e
    omega
  obtain ⟨g, cap', e, hg, hlt, hnc, hcm, -, hH⟩ := Lib.holds_of_ownsRow hown hne
  simp only [Value.slice.injEq] at e
  obtain ⟨rfl, rfl, rfl⟩ := e
  have hc := AnyE.slices_Delete laysDel encS (fun _ => rfl) ((none, 0, 0) : SV) (fun w => by kernel_rfl) i1 hi1 hy1 g 0 cap i (i + 1) zs.toArray wr hH (by simpa using hnc) (by unfold maxLen at hcm; omega) (by omega) (by simp; omega)
  have hs : zs.toArray.size = zs.length := by simp
  rw [hs] at hc
  rw [show ((i + 1 : Nat) : Int) = (i : Int) + 1 from by omega] at hc
  refine Calls.mono hc ?_
  rintro e w' ⟨rfl, q, rfl⟩
  have hyl : (zs.take i ++ zs.drop (i + 1) ++ List.replicate (i + 1 - i) ((none, 0, 0) : SV)).length = zs.length := by simp; omega
  have hown2 := Lib.ownsRow_putRow (q := q) (k := zs.length - (i + 1 - i)) hown hyl (by omega)
  have hyt : (zs.take i ++ zs.drop (i + 1) ++ List.replicate (i + 1 - i) ((none, 0, 0) : SV)).take (zs.length - (i + 1 - i)) = zs.eraseIdx i := by
    rw [List.eraseIdx_eq_take_drop_succ, List.take_append_of_le_length (by simp; omega), List.take_of_length_le (by simp; omega)]
  rw [hyt] at hown2
  have hl2 : zs.length - (i + 1 - i) = (zs.eraseIdx i).length := by rw [List.length_eraseIdx_of_lt (by omega)]; omega
  refine ⟨_, _, _, rfl, ⟨zs.eraseIdx i, ?_, hE.erase i hi⟩, Lib.below_putRow hb hg⟩
  rw [hl2] at hown2 ⊢
  simpa using hown2
end Go.Proofs.YtajmjjandkdhiaaDoor
end
section
/- The terms of a clause, literal by literal: both sides. -/
namespace Go.Proofs.YtajmjjandkdhiaaDoor
open Go.RowKit

theorem news_two (w : World) (x y : Value) (t : TypeId) : ∀ j u, [x, y][j]? = some u → (w.alloc (.cells #[x, y] t)).cell? ((⟨w.heap.size, 0, none⟩ : Addr).add j) = some u := by
  intro j u hj
  match j, hj with
  | 0, hj => simp at hj; subst hj; rw [show (⟨w.heap.size, 0, none⟩ : Addr).add 0 = ⟨w.heap.size, 0, none⟩ from rfl, World.cell?_alloc_new w]; rfl
  | 1, hj => simp at hj; subst hj; rw [addr_add, World.cell?_alloc_new w]; rfl
theorem news_two_at (w : World) (x y : Value) (t : TypeId) (g : Nat) (hg : g = w.heap.size) : ∀ j u, [x, y][j]? = some u → (w.alloc (.cells #[x, y] t)).cell? ((⟨g, 0, none⟩ : Addr).add j) = some u := by subst hg; exact news_two w x y t
theorem news_one_at (w : World) (x : Value) (t : TypeId) (g : Nat) (hg : g = w.heap.size) : ∀ j u, [x][j]? = some u → (w.alloc (.cells #[x] t)).cell? ((⟨g, 0, none⟩ : Addr).add j) = some u := by subst hg; exact news_one w x t
theorem two_slice (a b : Option Addr) (n m c d : Nat) : ∀ u ∈ [Value.slice a n c, Value.slice b m d], u.oneCell' = true := by
  intro u hu; simp at hu; rcases hu with rfl | rfl <;> rfl
theorem flatC_take (c : List Lt) (k : Nat) (h : k < c.length) : flatC (c.take (k+1)) = flatC (c.take k) ++ [(c.getD k lt0).2.1] ++ [(c.getD k lt0).2.2] := by
  rw [List.take_succ_eq_append_getElem h, flatC_app]
  simp [flatC, List.getD, h]
/-- A literal's terms as they lie in the world W. -/
theorem SlC.two {lo hi : Nat} {w : World} {ad : Option Addr} {n k : Nat} {c : List Lt} (h : SlC lo hi w (.slice ad n k) c) (j : Nat) (hj : j < c.length) :
    ∃ (b off : Nat) (z1 z2 : SV), ad = some ⟨b, off, none⟩ ∧ b < w.heap.size ∧ w.cell? ⟨b, off + j * 3, none⟩ = some (.bool (c.getD j lt0).1) ∧ w.cell? ⟨b, off + j * 3 + 1, none⟩ = some (encS z1) ∧ w.cell? ⟨b, off + j * 3 + 2, none⟩ = some (encS z2) ∧
      SlI 0 w.heap.size w (encS z1) (c.getD j lt0).2.1 ∧ SlI 0 w.heap.size w (encS z2) (c.getD j lt0).2.2 := by
  obtain ⟨b, off, u1, u2, rfl, hb, c1, c2, c3, s1, s2⟩ := h.at (Bel.rfl' w) j hj
  obtain ⟨x1, y1, rfl⟩ := s1.form
  obtain ⟨x2, y2, rfl⟩ := s2.form
  exact ⟨b, off, (x1, _, y1), (x2, _, y2), rfl, hb, c1, c2, c3, s1.in', s2.in'⟩

set_option maxRecDepth 100000 in
set_option maxHeartbeats 400000 in
theorem termsIn_c (l h : Nat) (v : Value) (c : List Lt) (w : World) (hx : c.length ≤ 1048576) (hv : SlC l h w v c) :
    Calls Tryd.prog 40 #[v] w (RetRow w (flatC c)) := by
  obtain ⟨i1, hi1, hy0, hy1, hy2⟩ := info_parts Tryd.info22
  obtain ⟨ad, cap, rfl⟩ := hv.form
  go_enter Tryd.func40, Tryd.ntmps40
  go_wp2_with fail
  go_loopw [3, 8] (fun o i wr => ∃ k : Nat, k ≤ c.length ∧ i = .int .i64 k ∧ RowV w wr o (flatC (c.take k)) ∧ Bel w wr) (fun _ i _ => c.length - (intOf i).toNat)
  case atStart => exact ⟨0, Nat.zero_le _, rfl, ⟨[], World.ownsRow_nil _ _ _ _, Els.nil _⟩, Bel.rfl' _⟩
  case round =>
    obtain ⟨k, hk, rfl, hrow, hb⟩ := hrel
    by_cases hlt : k < c.length
    · obtain ⟨b, off, z1, z2, rfl, hbs, e1, e2, e3, s1, s2⟩ := hv.two k hlt
      have c1 := hb.at (World.block_lt_of_cell? _ ⟨_, _, none⟩ e1) e1
      have c2 := hb.at (World.block_lt_of_cell? _ ⟨_, _, none⟩ e2) e2
      have c3 := hb.at (World.block_lt_of_cell? _ ⟨_, _, none⟩ e3) e3
      have HF := Lib.hid (flatC_take c k hlt)
      have hfl := flatC_len (c.take k)
      have hkl : (c.take k).length = k := by rw [List.length_take]; omega
      obtain ⟨zs, ho, hE⟩ := hrow
      have hzl := hE.1
      have hE2 := Lib.hid ((hE.snoc s1).snoc s2)
      have hin1 : (k : Int) < c.length := by omega
      generalize (c.getD k lt0).1 = p at *
      obtain ⟨a1, n1, d1⟩ := z1
      obtain ⟨a2, n2, d2⟩ := z2
      simp only [encS] at c2 c3
      have hbz := hb.size
      clear hv s1 s2 hE e1 e2 e3
      go_wp2_with (at_builtin; refine wpList_append_own _ rfl _ _ 53 rfl w.heap.size 22 i1 (.slice none 0 0) 1 24 Tryd.underlying53 hi1 hy0 hy1 hy2 rfl (by decide) _ _ _ rfl ((ho.alloc _).alloc _) ⟨wr.heap.size + 1, 0, none⟩ 2 2 [.slice a1 n1 d1, .slice a2 n2 d2] rfl rfl (news_two_at _ _ _ _ _ (by simp)) (two_slice _ _ _ _ _ _) (by unfold maxLen; rw [hzl]; omega) (by rw [hzl]; omega) (by simp; omega) ?_; intro v' w1 hown' hgrow _)
      go_roundw
      case rel =>
        refine ⟨k+1, by omega, by go_num, ?_, ?_⟩
        · rw [HF.out]
          exact ⟨zs ++ [(a1, n1, d1)] ++ [(a2, n2, d2)], by simpa [encS] using hown', hE2.out⟩
        · exact ((hb.alloc _).alloc _).grown hgrow (fun q hq => own_base ho q hq)
      case measure => simp [intOf]; omega
    · rw [List.take_of_length_le (by omega)] at hrow
      obtain ⟨og, oc, rfl⟩ := hrow.form
      go_wp2_with fail
      go_ret
      exact ⟨_, _, _, rfl, hrow, hb⟩

end Go.Proofs.YtajmjjandkdhiaaDoor
end
section
/- The places of a symbol's arguments: both functions' inner ones, and ArgsAt. -/
namespace Go.Proofs.YtajmjjandkdhiaaDoor
open Go.RowKit

def natsI (l : List Nat) : List Int := l.map fun (n : Nat) => (n : Int)
theorem natsI_len (l : List Nat) : (natsI l).length = l.length := by simp [natsI]
theorem argsGo_succ {ar t : List Int} {k p q : Nat} (h : endOf ar t p = some q) : argsGo ar t (k + 1) p = p :: argsGo ar t k q := by simp [argsGo, h]

/-- Somewhere in the loop over the arguments: acc is done, k are still to come, from p on. -/
def ArgSt (ar t : List Int) (all : List Nat) (acc : List Nat) (k p : Nat) : Prop := all = acc ++ argsGo ar t k p ∧ ∃ e, endGo ar (t.drop p) k p = some e ∧ e ≤ t.length
theorem ArgSt.start {ar t : List Int} {i : Nat} (h : okTerm ar t = true) (hi : i < t.length) : ArgSt ar t (argsOf ar t i) [] (arOf ar (t.getD i 0)) (i + 1) := by
  obtain ⟨e, h1, h2⟩ := good_args ar t h i hi
  exact ⟨rfl, e, h1, h2⟩
theorem ArgSt.next {ar t : List Int} {all acc : List Nat} {k p : Nat} (h : ArgSt ar t all acc (k + 1) p) : ∃ q, endOf ar t p = some q ∧ p < t.length ∧ p < q ∧ q ≤ t.length ∧ ArgSt ar t all (acc ++ [p]) k q := by
  obtain ⟨h1, e, h2, h3⟩ := h
  obtain ⟨q, hq, hr, hpq, hqe⟩ := ends_step ar t p k e h2
  exact ⟨q, hq, by omega, hpq, by omega, by rw [h1, argsGo_succ hq]; simp, e, hr, h3⟩
theorem ArgSt.done {ar t : List Int} {all acc : List Nat} {p : Nat} (h : ArgSt ar t all acc 0 p) : all = acc := by rw [h.1]; simp [argsGo]
theorem argsOf_neg {ar t : List Int} {i : Nat} (h : t.getD i 0 < 0) : argsOf ar t i = [] := by unfold argsOf; rw [arOf_neg h]; rfl
theorem argsOf_len {ar t : List Int} {i : Nat} : (argsOf ar t i).length = arOf ar (t.getD i 0) := argsGo_len _ _ _ _

theorem natsI_snoc (l : List Nat) (p : Nat) : natsI (l ++ [p]) = natsI l ++ [(p : Int)] := by simp [natsI]

/-- What ArgsAt answers. -/
def argsAns (ar t : List Int) (i : Int) : List Int := if askOk ar t i then natsI (argsOf ar t i.toNat) else []
theorem argsAns_len (ar t : List Int) (i : Int) : (argsAns ar t i).length ≤ 1048576 := by
  unfold argsAns
  split
  · rename_i h
    obtain ⟨k, e, rfl, _, _, _, _, _, hg, _⟩ := ask_yes h
    rw [natsI_len, argsOf_len]
    exact Nat.le_trans (arOf_le ar hg _) (by omega)
  · exact Nat.zero_le _

end Go.Proofs.YtajmjjandkdhiaaDoor
end
section
/- VarsOf: both functions. -/
namespace Go.Proofs.YtajmjjandkdhiaaDoor
open Go.RowKit

/-- Twelve bools. -/
def arr (f : Nat → Bool) : Array Value := #[.bool (f 0), .bool (f 1), .bool (f 2), .bool (f 3), .bool (f 4), .bool (f 5), .bool (f 6), .bool (f 7), .bool (f 8), .bool (f 9), .bool (f 10), .bool (f 11)]
def anyB (f : Nat → Bool) : Bool := f 0 || f 1 || f 2 || f 3 || f 4 || f 5 || f 6 || f 7 || f 8 || f 9 || f 10 || f 11
theorem arr_set (f : Nat → Bool) (j : Nat) (b : Bool) (h : j < 12) : (arr f).setIfInBounds j (.bool b) = arr (fun i => if i = j then b else f i) := by
  match j, h with
  | 0, _ => rfl
  | 1, _ => rfl
  | 2, _ => rfl
  | 3, _ => rfl
  | 4, _ => rfl
  | 5, _ => rfl
  | 6, _ => rfl
  | 7, _ => rfl
  | 8, _ => rfl
  | 9, _ => rfl
  | 10, _ => rfl
  | 11, _ => rfl
theorem arr_get (f : Nat → Bool) (j : Nat) (h : j < 12) : (arr f)[j]? = some (.bool (f j)) := by
  match j, h with
  | 0, _ => rfl
  | 1, _ => rfl
  | 2, _ => rfl
  | 3, _ => rfl
  | 4, _ => rfl
  | 5, _ => rfl
  | 6, _ => rfl
  | 7, _ => rfl
  | 8, _ => rfl
  | 9, _ => rfl
  | 10, _ => rfl
  | 11, _ => rfl

def BlkIs (w : World) (B : Nat) (T : TypeId) (f : Nat → Bool) : Prop := w.heap[B]? = some (.cells (arr f) T (0, 0))
theorem BlkIs.cell {w : World} {B : Nat} {T : TypeId} {f : Nat → Bool} (h : BlkIs w B T f) (j : Nat) (hj : j < 12) : w.cell? ⟨B, j, none⟩ = some (.bool (f j)) := by
  unfold BlkIs at h
  simp [World.cell?, h, arr_get f j hj]
theorem BlkIs.free {w : World} {B : Nat} {T : TypeId} {f : Nat → Bool} (h : BlkIs w B T f) (j : Nat) : w.frozen? ⟨B, j, none⟩ = false := by
  unfold BlkIs at h
  simp [World.frozen?, h]
theorem BlkIs.lt {w : World} {B : Nat} {T : TypeId} {f : Nat → Bool} (h : BlkIs w B T f) : B < w.heap.size := (Array.getElem?_eq_some_iff.1 h).1
theorem BlkIs.bel {w w' : World} {B : Nat} {T : TypeId} {f : Nat → Bool} (h : BlkIs w B T f) (hb : Bel w w') : BlkIs w' B T f := (hb.block B h.lt).trans h
theorem BlkIs.set {w : World} {B : Nat} {T : TypeId} {f : Nat → Bool} (h : BlkIs w B T f) (j : Nat) (hj : j < 12) (b : Bool) : BlkIs (w.setCell ⟨B, j, none⟩ (.bool b)) B T (fun i => if i = j then b else f i) := by
  have hlt := h.lt
  have h' : w.heap[B] = .cells (arr f) T (0, 0) := by unfold BlkIs at h; simpa [Array.getElem?_eq_getElem hlt] using h
  show (w.heap.modify B _)[B]? = _
  rw [Array.getElem?_eq_getElem (by simpa using hlt), Array.getElem_modify_self, h']
  simp [arr_set f j b hj]
theorem BlkIs.other {w : World} {B : Nat} {T : TypeId} {f : Nat → Bool} (h : BlkIs w B T f) {p : Addr} (hp : p.block ≠ B) (v : Value) : BlkIs (w.setCell p v) B T f :=
  (Below.heap_setCell w p v B (by omega)).trans h

/-- .. while a row of the call's own, behind it, has grown. -/
theorem blk_grown {w w' : World} {o : Obj} {B : Nat} {T e : TypeId} {f : Nat → Bool} {v : Value} {n sz : Nat} {xs : List Value} (h : BlkIs w B T f) (hown : w.ownsRow (B + 1) e sz v n xs) (hg : (w.alloc o).grownBy w' v.ownBlock) : BlkIs w' B T f := by
  have hlt := h.lt
  refine (hg.block B (by simp; omega) (fun e => ?_)).trans ((Below.heap_alloc w o B hlt).trans h)
  have := own_base hown B e.symm
  omega
def mk (t : List Int) (j : Nat) : Bool := decide ((-1 - (j : Int)) ∈ t)
theorem mk_step (t : List Int) (k m : Nat) (hk : k < t.length) (hx : t.getD k 0 = -1 - (m : Int)) : (fun i => if i = m then true else mk (t.take k) i) = mk (t.take (k+1)) := by
  funext i
  unfold mk
  rw [List.take_succ_eq_append_getElem hk]
  have e : t[k] = -1 - (m : Int) := by simpa [List.getD, hk] using hx
  rw [e]
  by_cases h : i = m
  · subst h; simp
  · rw [if_neg h]
    have : (-1 - (i : Int)) ≠ -1 - (m : Int) := by omega
    simp [this]
theorem mk_skip (t : List Int) (k : Nat) (hk : k < t.length) (hx : 0 ≤ t.getD k 0) : mk (t.take k) = mk (t.take (k+1)) := by
  funext i
  unfold mk
  rw [List.take_succ_eq_append_getElem hk]
  have e : 0 ≤ t[k] := by simpa [List.getD, hk] using hx
  have h1 : (-1 - (i : Int)) ≠ t[k] := by omega
  have h2 : (-1 - (i : Int) ∈ t.take k) ↔ (-1 - (i : Int) ∈ t.take k ++ [t[k]]) := by
    rw [List.mem_append, List.mem_singleton]
    exact ⟨Or.inl, fun h => h.resolve_right h1⟩
  exact decide_eq_decide.2 h2

theorem results_cell_one {fn : Func} {p : Tmp} {ty : TypeId} (h : fn.results = #[.cell p ty]) (tmps : Array Value) (P : Program) (w : World) :
    (results fn tmps).run P w = ((asAddr (tmps.getD p undef)).run P w).andThen fun a w₁ => (loadVar ty a).run P w₁ := by
  simp only [results, h]
  simp [Sem.run_bind, Result.andThen]
theorem arr_all (f : Nat → Bool) : (arr f).all (·.oneCell') = true := by simp [arr, Value.oneCell']
theorem zero12 : (#[.bool false, .bool false, .bool false, .bool false, .bool false, .bool false, .bool false, .bool false, .bool false, .bool false, .bool false, .bool false] : Array Value) = arr (fun _ => false) := rfl

/-- From v on what is left of f. -/
def leftF (f : Nat → Bool) (v j : Nat) : Bool := f j && decide (v ≤ j)
def varsTo (f : Nat → Bool) (v : Nat) : List Nat := (List.range v).filter f
theorem varsTo_succ (f : Nat → Bool) (v : Nat) : varsTo f (v + 1) = if f v then varsTo f v ++ [v] else varsTo f v := by
  unfold varsTo
  rw [List.range_succ, List.filter_append]
  by_cases h : f v <;> simp [List.filter_cons, h]
theorem left_zero (f : Nat → Bool) : leftF f 0 = f := by funext j; simp [leftF]
theorem left_clear (f : Nat → Bool) (v : Nat) : (fun i => if i = v then false else leftF f v i) = leftF f (v + 1) := by
  funext i
  unfold leftF
  by_cases h : i = v
  · subst h; simp
  · rw [if_neg h]
    congr 1
    rw [decide_eq_decide]; omega
theorem left_skip (f : Nat → Bool) (v : Nat) (h : f v = false) : leftF f v = leftF f (v + 1) := by
  rw [← left_clear]
  funext i
  by_cases e : i = v
  · subst e; simp [leftF, h]
  · rw [if_neg e]
theorem anyB_iff (f : Nat → Bool) : anyB f = true ↔ ∃ j, j < 12 ∧ f j = true := by
  constructor
  · intro h
    simp only [anyB, Bool.or_eq_true] at h
    rcases h with ((((((((((( h | h) | h) | h) | h) | h) | h) | h) | h) | h) | h) | h)
    · exact ⟨0, by omega, h⟩
    · exact ⟨1, by omega, h⟩
    · exact ⟨2, by omega, h⟩
    · exact ⟨3, by omega, h⟩
    · exact ⟨4, by omega, h⟩
    · exact ⟨5, by omega, h⟩
    · exact ⟨6, by omega, h⟩
    · exact ⟨7, by omega, h⟩
    · exact ⟨8, by omega, h⟩
    · exact ⟨9, by omega, h⟩
    · exact ⟨10, by omega, h⟩
    · exact ⟨11, by omega, h⟩
  · rintro ⟨j, hj, h⟩
    match j, hj with
    | 0, _ => simp [anyB, h]
    | 1, _ => simp [anyB, h]
    | 2, _ => simp [anyB, h]
    | 3, _ => simp [anyB, h]
    | 4, _ => simp [anyB, h]
    | 5, _ => simp [anyB, h]
    | 6, _ => simp [anyB, h]
    | 7, _ => simp [anyB, h]
    | 8, _ => simp [anyB, h]
    | 9, _ => simp [anyB, h]
    | 10, _ => simp [anyB, h]
    | 11, _ => simp [anyB, h]
theorem left_some {f : Nat → Bool} {v : Nat} (h : anyB (leftF f v) = true) : v < 12 := by
  obtain ⟨j, hj, h1⟩ := (anyB_iff _).1 h
  simp [leftF] at h1
  omega
theorem left_none {f : Nat → Bool} {v : Nat} (h : anyB (leftF f v) = false) (hv : v ≤ 12) : varsTo f v = varsTo f 12 := by
  have hz : ∀ j, v ≤ j → j < 12 → f j = false := by
    intro j h1 h2
    cases hf : f j with
    | false => rfl
    | true =>
      have : anyB (leftF f v) = true := (anyB_iff _).2 ⟨j, h2, by simp [leftF, hf, h1]⟩
      rw [h] at this; simp at this
  have : ∀ n, v + n ≤ 12 → varsTo f (v + n) = varsTo f v := by
    intro n
    induction n with
    | zero => intro _; rfl
    | succ n ih =>
      intro hn
      rw [show v + (n + 1) = (v + n) + 1 from rfl, varsTo_succ, hz (v + n) (by omega) (by omega), if_neg (by simp), ih (by omega)]
  have h2 := this (12 - v) (by omega)
  rw [show v + (12 - v) = 12 from by omega] at h2
  exact h2.symm
theorem varsTo_len (f : Nat → Bool) (v : Nat) : (varsTo f v).length ≤ v := by
  have := List.length_filter_le f (List.range v)
  simpa [varsTo] using this

def varsAns (ar t : List Int) : List Int := if goodTerm ar t then natsI (varsTo (mk t) 12) else []
theorem varsAns_len (ar t : List Int) : (varsAns ar t).length ≤ 1048576 := by
  unfold varsAns
  split
  · rw [natsI_len]; exact Nat.le_trans (varsTo_len _ _) (by omega)
  · exact Nat.zero_le _
theorem vars_no {ar t : List Int} (h : goodTerm ar t = false) : varsAns ar t = [] := by simp [varsAns, h]
theorem vars_yes {ar t : List Int} (h : goodTerm ar t = true) : varsAns ar t = natsI (varsTo (mk t) 12) := by simp [varsAns, h]
theorem low_of_good {ar t : List Int} (h : goodTerm ar t = true) : ∀ k, k < t.length → -12 ≤ t.getD k 0 := by
  intro k hk
  have := good_sym ar t (goodTerm_iff.1 h).2 k hk
  simp [okSym, inB] at this
  simp only [List.getD]
  omega

end Go.Proofs.YtajmjjandkdhiaaDoor
end
