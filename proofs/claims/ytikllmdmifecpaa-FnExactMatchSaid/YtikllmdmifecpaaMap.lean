/- Maps from variables to terms: what they hold, by variable; the library's sort; the variables of a map. -/
import Derived.Test.YtikllmdmifecpaaRen
import Derived.Test.YtikllmdmifecpaaLaySort
import Derived.Shelf.Slices.In.SortNone
import Derived.Sort.OwnSortedInts
import Derived.Maps.OwnSet
import Derived.Maps.RangeWalk
namespace Go.Proofs.Ytikllmdmifecpaa
open Go.RowKit Go.Maps

/-- The library's sort, on a row of the call's own: some order of the same numbers. -/
theorem sort_t {base : Nat} {tag : Nat → Nat} {t : Nat} {w : World} {v : Value} {xs : List Int} (h : OwnT base tag t 3 w v (xs.map (Value.int .i64))) (hl : xs.length ≤ 1000) :
    Calls Try.prog 168 #[v] w fun e w' => e = .returned (.tuple #[]) ∧ ∃ ys : List Int, ys.Perm xs ∧ OwnT base tag t 3 w' v (ys.map (Value.int .i64)) ∧ w.grownBy w' v.ownBlock := by
  rcases h.1.2 with ⟨rfl, h0⟩ | ⟨g, cap, cur, rfl, hb, hh, hn, hc, hs, ht⟩
  · refine (Any.slices_Sort_int_none laysSort none 0 w).mono ?_
    rintro e w' ⟨rfl, rfl⟩
    exact ⟨rfl, xs, List.Perm.refl _, h, ⟨rfl, rfl, rfl, Nat.le_refl _, fun _ _ _ => rfl⟩⟩
  · rw [List.length_map] at hn ht
    rw [List.length_map]
    have hc2 := Any.slices_Sort_int laysSort g 0 cap xs w (holds_of_blockI hh (by simpa using ht)) (Array.getElem?_eq_some_iff.1 hh).1 (by omega)
    refine hc2.mono ?_
    rintro e w' ⟨rfl, n, os, rfl⟩
    have hlen : (xs.mergeSort fun x y => decide (x ≤ y)).length = xs.length := List.length_mergeSort _
    refine ⟨rfl, xs.mergeSort fun x y => decide (x ≤ y), List.mergeSort_perm _ _, ⟨?_, h.2⟩, grownBy_sortedI _⟩
    · have := ownsRow_sortedI (n := n) (os := os) (ts := xs.mergeSort fun x y => decide (x ≤ y)) hlen hb hh hn hc hs
      rw [List.length_map, hlen]
      exact this

/-- An element reads as itself. -/
def rawE : Value → Option (DataW Value × List MemPlace) := fun v => some (.held v, [])
theorem keyInt : Keyed Try.prog 3 := int_keyed Try.underlying3
abbrev kv (v : Nat) : Lit := .int .i64 v
theorem kv_inj {u v : Nat} (h : kv u = kv v) : u = v := by simp [kv] at h; omega
theorem kv_ne {u v : Nat} (h : u ≠ v) : kv u ≠ kv v := fun e => h (kv_inj e)
theorem kv_wf {v : Nat} (h : v < 12) : (Lit.int .i64 (v : Int)).wf = true := by
  simp only [Lit.wf, Bool.and_eq_true, decide_eq_true_eq]
  have h1 : IntKind.i64.min = -9223372036854775808 := rfl
  have h2 : IntKind.i64.max = 9223372036854775807 := rfl
  omega
theorem kv_key {v : Nat} (h : v < 12) : keyOf Try.prog 3 (.int .i64 (v : Int)) = some (kv v) := keyOf_int_mk Try.underlying3 (kv_wf h)
theorem kv_lit {v : Nat} (h : v < 12) : WideAt.IsKeyLit (kv v) := keyInt.key (kv_key h)
theorem zeroI (w : World) : (zeroValue 22).run Try.prog w = .ok (.slice none 0 0) w := by kernel_rfl
/-- The datum D holds f at the twelve variables, and nothing else. -/
structure KeyAt (D : DataW Value) (f : Nat → Option Value) : Prop where
  has : ∀ v, v < 12 → Maps.has D (kv v) = (f v).isSome
  at' : ∀ v u, v < 12 → f v = some u → ∀ z, D.atKey (kv v) z = .held u
  only : ∀ kl, Maps.has D kl = true → ∃ v, v < 12 ∧ kl = kv v
theorem KeyAt.empty : KeyAt (.map []) (fun _ => none) := ⟨fun _ _ => rfl, fun _ _ _ h => by simp at h, fun kl h => by simp [Maps.has] at h⟩
theorem KeyAt.put {D : DataW Value} {f : Nat → Option Value} (h : KeyAt D f) (hD : IsMap D) {v : Nat} (hv : v < 12) (u : Value) : KeyAt (D.put (kv v) (.held u)) (fun i => if i = v then some u else f i) := by
  refine ⟨fun i hi => ?_, fun i x hi hx z => ?_, fun kl hk => ?_⟩
  · by_cases e : i = v
    · subst e; rw [has_put_same hD (kv_lit hi)]; simp
    · rw [has_put_other (kv_ne e), h.has i hi]; simp [e]
  · by_cases e : i = v
    · subst e
      simp only [if_true, Option.some.injEq] at hx
      subst hx
      exact atKey_put_same hD (kv_lit hi) _ _
    · simp only [e, if_false] at hx
      rw [atKey_put_other (kv_ne e)]; exact h.at' i x hi hx z
  · by_cases e : kl = kv v
    · exact ⟨v, hv, e⟩
    · rw [has_put_other e] at hk; exact h.only kl hk
theorem KeyAt.del {D : DataW Value} {f : Nat → Option Value} (h : KeyAt D f) (v : Nat) : KeyAt (D.del (kv v)) (fun i => if i = v then none else f i) := by
  refine ⟨fun i hi => ?_, fun i x hi hx z => ?_, fun kl hk => ?_⟩
  · by_cases e : i = v
    · subst e; rw [has_del_same]; simp
    · rw [has_del_other (kv_ne e), h.has i hi]; simp [e]
  · by_cases e : i = v
    · subst e; simp at hx
    · simp only [e, if_false] at hx
      rw [atKey_del_other (kv_ne e)]; exact h.at' i x hi hx z
  · by_cases e : kl = kv v
    · subst e; rw [has_del_same] at hk; simp at hk
    · rw [has_del_other e] at hk; exact h.only kl hk
theorem KeyAt.at0 {D : DataW Value} {f : Nat → Option Value} (h : KeyAt D f) {v : Nat} (hv : v < 12) : D.atKey (kv v) (.held (.slice none 0 0)) = .held ((f v).getD (.slice none 0 0)) := by
  cases e : f v with
  | none => exact atKey_of_not_has (by rw [h.has v hv, e]; rfl) _
  | some u => exact h.at' v u hv e _

/-- Block b is a map that holds f; at most m stores went into it. -/
def MapV (w : World) (b m : Nat) (f : Nat → Option Value) : Prop := ∃ n D, n ≤ m ∧ w.ownsMap Try.prog 3 rawE b n D ∧ KeyAt D f
theorem MapV.made (w : World) : MapV (w.alloc (.map #[] 0)) w.heap.size 0 (fun _ => none) := ⟨0, .map [], Nat.le_refl _, World.ownsMap_made _ _ _ _, KeyAt.empty⟩
theorem MapV.kept {w w' : World} {b m : Nat} {f : Nat → Option Value} {row : Option Nat} (h : MapV w b m f) (hg : w.grownBy w' row) (hne : some b ≠ row) : MapV w' b m f := by
  obtain ⟨n, D, hn, ho, hk⟩ := h
  exact ⟨n, D, hn, ho.kept hg hne, hk⟩
theorem grown_of_bel {w w' : World} (h : Bel w w') : w.grownBy w' none := ⟨h.os, h.tape, h.output, h.size, fun k hk _ => h.block k hk⟩
theorem MapV.bel {w w' : World} {b m : Nat} {f : Nat → Option Value} (h : MapV w b m f) (hb : Bel w w') : MapV w' b m f := h.kept (grown_of_bel hb) (by simp)
theorem MapV.lt {w : World} {b m : Nat} {f : Nat → Option Value} (h : MapV w b m f) : b < w.heap.size := by obtain ⟨n, D, _, ho, _⟩ := h; exact ho.lt
theorem MapV.mono {w : World} {b m m' : Nat} {f : Nat → Option Value} (h : MapV w b m f) (hm : m ≤ m') : MapV w b m' f := by obtain ⟨n, D, hn, ho, hk⟩ := h; exact ⟨n, D, by omega, ho, hk⟩
theorem MapV.look {w : World} {b m : Nat} {f : Nat → Option Value} (h : MapV w b m f) {v : Nat} (hv : v < 12) :
    (Instr.lookup 88 (.map (some b)) (.int .i64 (v : Int)) false).run Try.prog w = .ok ((f v).getD (.slice none 0 0)) w := by
  obtain ⟨n, D, hn, ho, hk⟩ := h
  obtain ⟨u, ps, hrun, hR⟩ := ho.lookup keyInt Try.underlying88 (zeroI w) (zd := .held (.slice none 0 0)) (zp := []) rfl (kv_key hv)
  rw [hk.at0 hv] at hR
  simp only [rawE, Option.some.injEq, Prod.mk.injEq, DataW.held.injEq] at hR
  rw [hrun, hR.1]
theorem MapV.lookOk {w : World} {b m : Nat} {f : Nat → Option Value} (h : MapV w b m f) {v : Nat} (hv : v < 12) :
    (Instr.lookup 88 (.map (some b)) (.int .i64 (v : Int)) true).run Try.prog w = .ok (.tuple #[(f v).getD (.slice none 0 0), .bool (f v).isSome]) w := by
  obtain ⟨n, D, hn, ho, hk⟩ := h
  obtain ⟨u, ps, hrun, hR⟩ := ho.look_ok keyInt Try.underlying88 (zeroI w) (zd := .held (.slice none 0 0)) (zp := []) rfl (kv_key hv)
  rw [hk.at0 hv] at hR
  simp only [rawE, Option.some.injEq, Prod.mk.injEq, DataW.held.injEq] at hR
  rw [hrun, hR.1, hk.has v hv]

theorem same_kv (u v : Nat) : (kv u).sameKey (kv v) = decide (u = v) := by
  by_cases h : u = v
  · subst h
    have : (kv u).sameKey (kv u) = true := by simp [Lit.sameKey]
    simpa using this
  · rw [sameKey_ne (kv_ne h)]; simp [h]
def castL (l : List Nat) : List Int := l.map fun (n : Nat) => (n : Int)
theorem castL_snoc (l : List Nat) (v : Nat) : castL (l ++ [v]) = castL l ++ [(v : Int)] := by simp [castL]
theorem mem_castL {l : List Nat} {x : Int} : x ∈ castL l ↔ ∃ v ∈ l, (v : Int) = x := by simp [castL]
theorem lenN : ∀ (n : Nat) (l : List Nat), l.Nodup → (∀ v ∈ l, v < n) → l.length ≤ n := by
  intro n
  induction n with
  | zero =>
    intro l _ h
    cases l with
    | nil => simp
    | cons x r => exact absurd (h x List.mem_cons_self) (by omega)
  | succ n ih =>
    intro l hd h
    by_cases hm : n ∈ l
    · have := ih (l.erase n) (hd.erase n) (fun v hv => by
        have h1 := (List.Nodup.mem_erase_iff hd).1 hv
        have := h v h1.2
        omega)
      rw [List.length_erase_of_mem hm] at this
      omega
    · have := ih l hd (fun v hv => by
        have := h v hv
        have : v ≠ n := fun e => hm (e ▸ hv)
        omega)
      omega
/-- Twelve at most. -/
theorem len12 {l : List Nat} (h : l.Nodup) (h12 : ∀ v ∈ l, v < 12) : l.length ≤ 12 := lenN 12 l h h12
end Go.Proofs.Ytikllmdmifecpaa
