/- Rows of slices whose elements lie in older memory: copies, deletion. -/
import Derived.Test.YtnldienjkejfcaaKbo
import Derived.Test.YtnldienjkejfcaaSS
import Derived.Test.YtnldienjkejfcaaTag
import Derived.Test.YtnldienjkejfcaaRen2
import Derived.Shelf.SlicesE.Delete
import Derived.Lib.OwnBridge
namespace Go.Proofs.Ytnldienjkejfcaa
open Go.RowKit

/-- A slice's three words. -/
abbrev SV := Option Addr × Nat × Nat
def encS (x : SV) : Value := .slice x.1 x.2.1 x.2.2
theorem encS_one (zs : List SV) : ∀ u ∈ zs.map encS, u.oneCell' = true := by
  intro u hu; obtain ⟨z, _, rfl⟩ := List.mem_map.1 hu; rfl
/-- The elements, read in the world W. -/
def Els (W : World) (zs : List SV) (xss : List (List Int)) : Prop := zs.length = xss.length ∧ ∀ j z, zs[j]? = some z → SlI 0 W.heap.size W (encS z) (xss.getD j [])
def RowV (W wr : World) (v : Value) (xss : List (List Int)) : Prop := ∃ zs : List SV, wr.ownsRow W.heap.size 22 1 v zs.length (zs.map encS) ∧ Els W zs xss
def RetRow (W : World) (xss : List (List Int)) (e : Ending) (w' : World) : Prop := ∃ ad n c, e = .returned (.slice ad n c) ∧ RowV W w' (.slice ad n c) xss ∧ Bel W w'
theorem Els.nil (W : World) : Els W [] [] := ⟨rfl, fun j z h => by simp at h⟩
theorem Els.at {W : World} {zs : List SV} {xss : List (List Int)} (h : Els W zs xss) {j : Nat} (hj : j < xss.length) : ∃ z, zs[j]? = some z ∧ SlI 0 W.heap.size W (encS z) (xss.getD j []) :=
  ⟨_, List.getElem?_eq_getElem (by rw [h.1]; exact hj), h.2 j _ (List.getElem?_eq_getElem (by rw [h.1]; exact hj))⟩
theorem Els.erase {W : World} {zs : List SV} {xss : List (List Int)} (h : Els W zs xss) (i : Nat) (_ : i < xss.length) : Els W (zs.eraseIdx i) (xss.eraseIdx i) := by
  refine ⟨by rw [List.length_eraseIdx, List.length_eraseIdx, h.1], fun j z hj => ?_⟩
  rw [List.getElem?_eraseIdx] at hj
  by_cases hlt : j < i
  · rw [if_pos hlt] at hj
    have := h.2 j z hj
    rwa [show (xss.eraseIdx i).getD j [] = xss.getD j [] from by simp [List.getD, List.getElem?_eraseIdx, hlt]]
  · rw [if_neg hlt] at hj
    have := h.2 (j+1) z hj
    rwa [show (xss.eraseIdx i).getD j [] = xss.getD (j+1) [] from by simp [List.getD, List.getElem?_eraseIdx, hlt]]
theorem Els.snoc {W : World} {zs : List SV} {xss : List (List Int)} (h : Els W zs xss) {z : SV} {t : List Int} (hz : SlI 0 W.heap.size W (encS z) t) : Els W (zs ++ [z]) (xss ++ [t]) := by
  refine ⟨by simp [h.1], fun j u hj => ?_⟩
  by_cases e : j < zs.length
  · rw [List.getElem?_append_left e] at hj
    have := h.2 j u hj
    rwa [show (xss ++ [t]).getD j [] = xss.getD j [] from by simp [List.getD, List.getElem?_append_left (show j < xss.length by rw [← h.1]; exact e)]]
  · have hlt := (List.getElem?_eq_some_iff.1 hj).1
    simp at hlt
    obtain rfl : j = zs.length := by omega
    rw [List.getElem?_append_right (Nat.le_refl _), Nat.sub_self] at hj
    simp at hj
    subst hj
    rwa [show (xss ++ [t]).getD zs.length [] = t from by rw [h.1]; simp [List.getD]]
theorem RowV.form {W wr : World} {v : Value} {xss : List (List Int)} (h : RowV W wr v xss) : ∃ ad c, v = .slice ad xss.length c := by
  obtain ⟨zs, ho, he⟩ := h
  obtain ⟨ad, n, c, rfl⟩ := own_form ho
  have := row_len ho
  rw [he.1] at this
  exact ⟨ad, c, by rw [this]⟩
theorem RowV.bel {W wr w2 : World} {v : Value} {xss : List (List Int)} (h : RowV W wr v xss) (hb : Bel wr w2) : RowV W w2 v xss := by
  obtain ⟨zs, ho, he⟩ := h
  exact ⟨zs, ownsRow_bel ho hb, he⟩
theorem RowV.sls {W wr : World} {v : Value} {xss : List (List Int)} (h : RowV W wr v xss) (hb : Bel W wr) : SlS 0 wr.heap.size wr v xss := by
  obtain ⟨zs, h1, h2, h3⟩ := h
  have h0 := h1
  rcases h1.2 with ⟨rfl, hn⟩ | ⟨g, cap, cur, rfl, hg, hh, hn, hc, hs, ht⟩
  · obtain rfl : xss = [] := List.length_eq_zero_iff.1 (by omega)
    exact SlS.nil _ _ _
  · have hgs : g < wr.heap.size := (Array.getElem?_eq_some_iff.1 hh).1
    refine ⟨_, cap, by rw [h2], by omega, ⟨hc, fun h => by simp at h⟩, fun hp => ⟨g, 0, rfl, Nat.zero_le _, hgs, fun j hj => ?_⟩⟩
    have hju : zs[j]? = some zs[j] := List.getElem?_eq_getElem (by omega)
    refine ⟨encS zs[j], by rw [Nat.zero_add, h0.cellAt j (by omega), List.getElem?_map, hju]; rfl, ?_⟩
    exact ((h3 j _ hju).below hb).mono (Nat.le_refl _) hb.size
/-- Reading the k-th. -/
theorem RowV.at {W wr : World} {ad : Option Addr} {n c : Nat} {xss : List (List Int)} (h : RowV W wr (.slice ad n c) xss) (k : Nat) (hk : k < xss.length) :
    ∃ g z, ad = some ⟨g, 0, none⟩ ∧ W.heap.size ≤ g ∧ wr.cell? ⟨g, k, none⟩ = some (encS z) ∧ SlI 0 W.heap.size W (encS z) (xss.getD k []) := by
  obtain ⟨zs, h1, h2⟩ := h
  have h0 := h1
  obtain ⟨z, hz, hs⟩ := h2.at hk
  rcases h1.2 with ⟨e, hn⟩ | ⟨g, cap, cur, e, hg, hh, _⟩
  · rw [h2.1] at hn; omega
  · simp only [Value.slice.injEq] at e
    obtain ⟨rfl, rfl, rfl⟩ := e
    exact ⟨g, z, rfl, hg, by rw [h0.cellAt k (by rw [h2.1]; omega), List.getElem?_map, hz]; rfl, hs⟩

theorem skolem_lt {α : Type} [Inhabited α] {n : Nat} {P : Nat → α → Prop} (H : ∀ j, j < n → ∃ z, P j z) : ∃ f : Nat → α, ∀ j, j < n → P j (f j) :=
  ⟨fun j => if h : j < n then Classical.choose (H j h) else default, fun j hj => by
    show P j (dite (j < n) (fun h => Classical.choose (H j h)) (fun _ => default))
    rw [dif_pos hj]; exact Classical.choose_spec (H j hj)⟩
/-- The three words of the elements of a slice of slices. -/
theorem SlS.vals {lo hi : Nat} {w : World} {ad : Option Addr} {n c : Nat} {xss : List (List Int)} (h : SlS lo hi w (.slice ad n c) xss) : ∃ zs : List SV, Els w zs xss ∧ ∀ a, ad = some a → ∀ j u, (zs.map encS)[j]? = some u → w.cell? (a.add j) = some u := by
  obtain ⟨ad', cap, e, hc, hm, hr⟩ := h
  simp only [Value.slice.injEq] at e
  obtain ⟨rfl, rfl, rfl⟩ := e
  by_cases hp : 0 < xss.length
  · obtain ⟨b, off, rfl, a1, a2, a3⟩ := hr hp
    have H : ∀ j, j < xss.length → ∃ z : SV, w.cell? ⟨b, off + j, none⟩ = some (encS z) ∧ SlI lo hi w (encS z) (xss.getD j []) := fun j hj => by
      obtain ⟨u, h1, h2⟩ := a3 j hj
      obtain ⟨x, y, rfl⟩ := h2.form
      exact ⟨(x, _, y), h1, h2⟩
    obtain ⟨f, hf⟩ := skolem_lt H
    refine ⟨(List.range xss.length).map f, ⟨by simp, fun j z hj => ?_⟩, fun a ha j u hj => ?_⟩
    · have hlt := (List.getElem?_eq_some_iff.1 hj).1
      simp at hlt
      rw [List.getElem?_map, List.getElem?_range hlt] at hj
      simp only [Option.map_some, Option.some.injEq] at hj
      subst hj
      exact (hf j hlt).2.in'
    · have hlt := (List.getElem?_eq_some_iff.1 hj).1
      simp at hlt
      rw [List.getElem?_map, List.getElem?_map, List.getElem?_range hlt] at hj
      simp only [Option.map_some, Option.some.injEq] at hj
      subst hj
      simp only [Option.some.injEq] at ha
      subst ha
      rw [addr_add]
      exact (hf j hlt).1
  · obtain rfl : xss = [] := List.length_eq_zero_iff.1 (by omega)
    exact ⟨[], Els.nil _, fun a _ j u hj => by simp at hj⟩

end Go.Proofs.Ytnldienjkejfcaa
