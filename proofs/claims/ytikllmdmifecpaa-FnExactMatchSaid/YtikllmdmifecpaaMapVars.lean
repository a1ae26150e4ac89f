/- The variables of a map of bindings. -/
import Derived.Test.YtikllmdmifecpaaMap
import Derived.Test.YtikllmdmifecpaaLaw1
namespace Go.Proofs.Ytikllmdmifecpaa
open Go.RowKit Go.Maps

/-- The collected ones, while the loop is under way. -/
structure Coll (D : DataW Value) (left : Lit → Bool) (acc : List Nat) : Prop where
  nodup : acc.Nodup
  mem : ∀ v, v ∈ acc ↔ v < 12 ∧ Maps.has D (kv v) = true ∧ left (kv v) = false
  sub : ∀ kl, left kl = true → Maps.has D kl = true
theorem Coll.start (D : DataW Value) : Coll D (Maps.has D) [] := ⟨List.nodup_nil, fun v => by simp, fun _ h => h⟩
theorem Coll.step {D : DataW Value} {left : Lit → Bool} {acc : List Nat} {v : Nat} (h : Coll D left acc) (hv : v < 12) (hl : left (kv v) = true) : Coll D (fun z => left z && !z.sameKey (kv v)) (acc ++ [v]) := by
  refine ⟨?_, fun u => ?_, fun kl hk => h.sub kl (by simp at hk; exact hk.1)⟩
  · rw [List.nodup_append]
    refine ⟨h.nodup, by simp, fun a ha b hb => ?_⟩
    simp at hb
    subst hb
    intro e
    subst e
    have := ((h.mem a).1 ha).2.2
    rw [hl] at this; simp at this
  · rw [List.mem_append, List.mem_singleton, h.mem u]
    simp only [same_kv]
    by_cases e : u = v
    · subst e; simp [hv, h.sub _ hl]
    · simp [e]
def RetVars (f : Nat → Option Value) (w : World) (e : Ending) (w' : World) : Prop :=
  ∃ ad n c, ∃ ys : List Int, e = .returned (.slice ad n c) ∧ OwnI w.heap.size w'.heap.size w' (.slice ad n c) ys ∧ ys.length ≤ 12 ∧ ys.Nodup ∧ (∀ y ∈ ys, ∃ v : Nat, v < 12 ∧ y = v) ∧ (∀ v : Nat, v < 12 → ((v : Int) ∈ ys ↔ (f v).isSome = true)) ∧ Bel w w'

set_option maxRecDepth 100000 in
set_option maxHeartbeats 400000 in
theorem vars_c (b m : Nat) (f : Nat → Option Value) (w : World) (h : MapV w b m f) :
    Calls Try.prog 125 #[.map (some b)] w (RetVars f w) := by
  obtain ⟨n, D, hn, hown, hK⟩ := h
  obtain ⟨i0, hi0, hz0, hz1, hz2⟩ := info_parts Try.info3
  have hbl := hown.lt
  go_enter Try.func125, Try.ntmps125
  go_wp2_with (first
    | (at_range; refine wpList_range_own _ rfl _ 88 rfl 3 22 keyInt Try.underlying88 _ b n _ rfl hown ?_; intro w0 hrg0 hg0 hs0)
    | go_in)
  go_frame
  have hb0 : Bel w w0 := (Bel.rfl' w).grown hg0 (by simp)
  go_loopw [3] (fun vs wr => ∃ (left : Lit → Bool) (cnt : Nat) (acc : List Nat), wr.ranges Try.prog 3 rawE b w.heap.size n D left cnt ∧ OwnT (w.heap.size + 1) (fun _ => 0) 0 3 wr vs ((castL acc).map (Value.int .i64)) ∧ Coll D left acc ∧ w.heap.size + 1 ≤ wr.heap.size ∧ Bel w wr)
    (fun _ wr => wr.rangeLeft b w.heap.size)
  case atStart => exact ⟨_, _, [], hrg0, OwnT.nil _ _ _ _ _, Coll.start D, by omega, hb0⟩
  case round =>
    obtain ⟨left, cnt, acc, hrg, hA, hC, hsz, hb⟩ := hrel
    have hacc12 := len12 hC.nodup (fun v hv => ((hC.mem v).1 hv).1)
    go_wp2_with (first
      | (at_next; refine wpList_next_ranges _ rfl _ rfl 3 keyInt rawE (Value.int .i64) id (fun key kl hk => by obtain ⟨x, hx, _⟩ := Maps.keyOf_int_inv Try.underlying3 hk; exact ⟨x, hx⟩) (fun v y _ => ⟨v, rfl⟩) b w.heap.size n _ _ _ rfl hrg ?_ ?_)
      | go_in)
    · intro hc0 hl0
      obtain ⟨am, nm, cm, rfl⟩ := own_form hA.1
      have hmem : ∀ v : Nat, v < 12 → (v ∈ acc ↔ (f v).isSome = true) := fun v hv => by rw [hC.mem v, hK.has v hv, hl0]; simp [hv]
      have hnd := hC.nodup
      have hm12 : ∀ v ∈ acc, v < 12 := fun v hv => ((hC.mem v).1 hv).1
      have HC := Lib.hid (And.intro hmem (And.intro hnd hm12))
      have HS := Lib.hid (sort_t hA (by simp [castL]; omega))
      clear hmem hnd hm12 hC hK hl0
      go_wp2_with (go_at_call 168; refine HS.out.mono ?_; rintro e w2 ⟨rfl, ys, hperm, hO, hg⟩)
      go_ret
      obtain ⟨hmem, hnd, hm12⟩ := HC.out
      have hb2 : Bel w w2 := hb.grown hg (fun k hk => by have := own_base hA.1 k hk; omega)
      refine ⟨am, nm, cm, ys, rfl, (OwnI.of_row (by simpa using hO.1)).mono (by omega) (Nat.le_refl _), ?_, ?_, ?_, ?_, hb2⟩
      · rw [hperm.length_eq]; simpa [castL] using hacc12
      · rw [hperm.nodup_iff]
        show List.Pairwise (· ≠ ·) (acc.map fun (n : Nat) => (n : Int))
        exact List.Pairwise.map _ (fun a b hab e => hab (by have e2 : (a : Int) = (b : Int) := e; omega)) hnd
      · intro y hy
        obtain ⟨v, hv, rfl⟩ := mem_castL.1 (hperm.mem_iff.1 hy)
        exact ⟨v, hm12 v hv, rfl⟩
      · intro v hv
        rw [hperm.mem_iff, mem_castL, ← hmem v hv]
        constructor
        · rintro ⟨u, hu, e⟩
          obtain rfl : u = v := by omega
          exact hu
        · intro h; exact ⟨v, h, rfl⟩
    · intro x c kl yd yp w1 cnt1 hkey hlk hv hat hrg1 hlt hg1 hs1 hen
      obtain ⟨x', ex, rfl, -⟩ := Maps.keyOf_int_inv Try.underlying3 hkey
      cases ex
      obtain ⟨v, hv12, e⟩ := hK.only _ (hC.sub _ hlk)
      simp only [Lit.int.injEq, true_and] at e
      subst e
      have hC1 := Lib.hid (hC.step hv12 hlk)
      have hA1 : OwnT (w.heap.size + 1) (fun _ => 0) 0 3 w1 u3 ((castL acc).map (Value.int .i64)) := ⟨hA.1.kept hg1 (by
        cases hu : u3.ownBlock with
        | none => exact .inl rfl
        | some g => right; intro e; have := own_base hA.1 g hu; simp at e; omega), hA.2⟩
      have hb1 : Bel w w1 := hb.grown hg1 (fun k hk => by cases hk; exact Nat.le_refl _)
      have hcl : (castL acc).length ≤ 12 := by simpa [castL] using hacc12
      have HL := Lib.hid (And.intro hlt (And.intro hrg hs1))
      clear hC hA hkey hlk hat hg1 hlt hrg hs1 hK hown hrg0 hg0 hb0 hs0
      go_wp2_with (at_builtin; refine wpList_append_own_at _ rfl _ _ 22 rfl (w.heap.size + 1) 3 i0 (.int .i64 0) 1 8 Try.underlying22 hi0 hz0 hz1 hz2 rfl (by decide) _ _ _ rfl (hA1.alloc _).1 _ _ _ [.int .i64 (v : Int)] rfl rfl (news_one _ _ _) (one_int _) (by unfold maxLen; simp only [List.length_map]; omega) (by simp only [List.length_map]; omega) (by have := hb1.size; simp; omega) ?_; intro v' w2 hown' hgrow _ hat)
      have hA2 : OwnT (w.heap.size + 1) (fun _ => 0) 0 3 w2 v' ((castL (acc ++ [v])).map (Value.int .i64)) := ⟨by rw [castL_snoc]; simpa using hown', fun _ _ => rfl⟩
      have hne : ∀ k, u3.ownBlock = some k → w.heap.size + 1 ≤ k := own_base hA1.1
      have hrg2 := (hrg1.alloc (.cells #[.int .i64 (v : Int)] 3)).kept hgrow (fun e => by have := hne b e.symm; omega) (fun e => by have := hne w.heap.size e.symm; omega)
      have hb2 := hb1.grownT hA1 (by omega) hgrow
      go_roundw
      case rel => exact ⟨_, cnt1, acc ++ [v], hrg2, hA2, hC1.out, by have := hgrow.size; simp at this; have := HL.out.2.2; omega, hb2⟩
      case measure => rw [hrg2.left_eq, HL.out.2.1.left_eq]; exact HL.out.1
end Go.Proofs.Ytikllmdmifecpaa
