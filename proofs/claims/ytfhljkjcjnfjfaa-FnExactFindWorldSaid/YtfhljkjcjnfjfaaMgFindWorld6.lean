/- Texts merged, part 6. -/
import Derived.Test.YtfhljkjcjnfjfaaMgFindWorld5
section
/- RenameOf: the program's inner function. -/
namespace Go.Proofs.Ytfhljkjcjnfjfaa
open Go.RowKit

/-- Twelve ints. -/
def arrN (f : Nat → Int) : Array Value := #[.int .i64 (f 0), .int .i64 (f 1), .int .i64 (f 2), .int .i64 (f 3), .int .i64 (f 4), .int .i64 (f 5), .int .i64 (f 6), .int .i64 (f 7), .int .i64 (f 8), .int .i64 (f 9), .int .i64 (f 10), .int .i64 (f 11)]
theorem arrN_set (f : Nat → Int) (j : Nat) (b : Int) (h : j < 12) : (arrN f).setIfInBounds j (.int .i64 b) = arrN (fun i => if i = j then b else f i) := by
  match j, h with
  | 0, _ => rfl
  | 1, _ => rfl
  | 2, _ => rfl
  | 3, _ => rfl
  | 4, _ => rfl
  | 5, _ => rfl
  | 6, _ => rfl
  | 7, _ => rfl
  | 8, _ => rfl
  | 9, _ => rfl
  | 10, _ => rfl
  | 11, _ => rfl
theorem arrN_get (f : Nat → Int) (j : Nat) (h : j < 12) : (arrN f)[j]? = some (.int .i64 (f j)) := by
  match j, h with
  | 0, _ => rfl
  | 1, _ => rfl
  | 2, _ => rfl
  | 3, _ => rfl
  | 4, _ => rfl
  | 5, _ => rfl
  | 6, _ => rfl
  | 7, _ => rfl
  | 8, _ => rfl
  | 9, _ => rfl
  | 10, _ => rfl
  | 11, _ => rfl
def BlkN (w : World) (B : Nat) (T : TypeId) (f : Nat → Int) : Prop := w.heap[B]? = some (.cells (arrN f) T (0, 0))
theorem BlkN.cell {w : World} {B : Nat} {T : TypeId} {f : Nat → Int} (h : BlkN w B T f) (j : Nat) (hj : j < 12) : w.cell? ⟨B, j, none⟩ = some (.int .i64 (f j)) := by
  unfold BlkN at h
  simp [World.cell?, h, arrN_get f j hj]
theorem BlkN.free {w : World} {B : Nat} {T : TypeId} {f : Nat → Int} (h : BlkN w B T f) (j : Nat) : w.frozen? ⟨B, j, none⟩ = false := by
  unfold BlkN at h
  simp [World.frozen?, h]
theorem BlkN.lt {w : World} {B : Nat} {T : TypeId} {f : Nat → Int} (h : BlkN w B T f) : B < w.heap.size := (Array.getElem?_eq_some_iff.1 h).1
theorem BlkN.bel {w w' : World} {B : Nat} {T : TypeId} {f : Nat → Int} (h : BlkN w B T f) (hb : Bel w w') : BlkN w' B T f := (hb.block B h.lt).trans h
theorem BlkN.set {w : World} {B : Nat} {T : TypeId} {f : Nat → Int} (h : BlkN w B T f) (j : Nat) (hj : j < 12) (b : Int) : BlkN (w.setCell ⟨B, j, none⟩ (.int .i64 b)) B T (fun i => if i = j then b else f i) := by
  have hlt := h.lt
  have h' : w.heap[B] = .cells (arrN f) T (0, 0) := by unfold BlkN at h; simpa [Array.getElem?_eq_getElem hlt] using h
  show (w.heap.modify B _)[B]? = _
  rw [Array.getElem?_eq_getElem (by simpa using hlt), Array.getElem_modify_self, h']
  simp [arrN_set f j b hj]
theorem BlkN.other {w : World} {B : Nat} {T : TypeId} {f : Nat → Int} (h : BlkN w B T f) {p : Addr} (hp : p.block ≠ B) (v : Value) : BlkN (w.setCell p v) B T f :=
  (Below.heap_setCell w p v B (by omega)).trans h
theorem BlkN.grown {w w' : World} {o : Obj} {B : Nat} {T : TypeId} {f : Nat → Int} {base : Nat} {tag : Nat → Nat} {t : Nat} {e : TypeId} {v : Value} {xs : List Value} (h : BlkN w B T f) (hB : B < base) (hown : OwnT base tag t e w v xs) (hg : (w.alloc o).grownBy w' v.ownBlock) : BlkN w' B T f := by
  have hlt := h.lt
  refine (hg.block B (by simp; omega) (fun e => ?_)).trans ((Below.heap_alloc w o B hlt).trans h)
  have := own_base hown.1 B e.symm
  omega
/-- The names as the table holds them. -/
def nm (met : List Int) (v : Nat) : Int := if (-1 - (v : Int)) ∈ met then -1 - (met.idxOf (-1 - (v : Int)) : Int) else 0
theorem nm_nil : nm [] = fun _ => 0 := by funext v; simp [nm]
theorem nm_new {met : List Int} {n : Int} (h : n < 0) (hn : n ∉ met) : (fun i => if i = (-1 - n).toNat then -1 - (met.length : Int) else nm met i) = nm (met ++ [n]) := by
  funext i
  by_cases e : i = (-1 - n).toNat
  · have e2 : -1 - (i : Int) = n := by omega
    rw [if_pos e]; unfold nm
    rw [e2, if_pos (by simp), List.idxOf_append, if_neg hn]
    simp
  · have e2 : -1 - (i : Int) ≠ n := by omega
    rw [if_neg e]; unfold nm
    by_cases hm : (-1 - (i : Int)) ∈ met
    · rw [if_pos hm, if_pos (by simp [hm]), List.idxOf_append, if_pos hm]
    · rw [if_neg hm, if_neg (by simp [hm, e2])]
theorem nm_old {met : List Int} {n : Int} (h : n < 0) (hn : n ∈ met) : nm met (-1 - n).toNat = valM met n ∧ valM met n < 0 := by
  have e2 : -1 - (((-1 - n).toNat : Nat) : Int) = n := by omega
  unfold nm valM
  rw [e2, if_pos hn, if_pos h]
  exact ⟨rfl, by omega⟩
theorem nm_not {met : List Int} {n : Int} (h : n < 0) (hn : n ∉ met) : nm met (-1 - n).toNat = 0 := by
  have e2 : -1 - (((-1 - n).toNat : Nat) : Int) = n := by omega
  unfold nm
  rw [e2, if_neg hn]
theorem val_new {met : List Int} {n : Int} (h : n < 0) (hn : n ∉ met) : valM (met ++ [n]) n = -1 - (met.length : Int) := by
  unfold valM
  rw [if_pos h, List.idxOf_append, if_neg hn]
  simp
theorem val_sym {met : List Int} {n : Int} (h : ¬ n < 0) : valM met n = n := by unfold valM; rw [if_neg h]
theorem list_set_same {l : List Int} {i : Nat} {x : Int} (h : l[i]? = some x) : l.set i x = l := by
  apply List.ext_getElem?
  intro j
  rw [List.getElem?_set]
  by_cases e : i = j
  · subst e
    obtain ⟨h3, h4⟩ := List.getElem?_eq_some_iff.1 h
    simp [h3, h4]
  · simp [e]
/-- The first i are renamed. -/
def mix (M t : List Int) (i : Nat) : List Int := renT M (t.take i) ++ t.drop i
theorem mix_zero (M t : List Int) : mix M t 0 = t := by simp [mix, renT]
theorem mix_len (M t : List Int) (i : Nat) (h : i ≤ t.length) : (mix M t i).length = t.length := by simp [mix, renT_len]; omega
theorem mix_get (M t : List Int) (i : Nat) (h : i < t.length) : (mix M t i)[i]? = some (t.getD i 0) := by
  have hl : (renT M (t.take i)).length = i := by rw [renT_len, List.length_take]; omega
  unfold mix
  rw [List.getElem?_append_right (by omega), hl, Nat.sub_self]
  simp [List.getD, h]
theorem mix_succ (M t : List Int) (i : Nat) (h : i < t.length) : (mix M t i).set i (valM (stepM (metT M (t.take i)) (t.getD i 0)) (t.getD i 0)) = mix M t (i+1) := by
  have hl : (renT M (t.take i)).length = i := by rw [renT_len, List.length_take]; omega
  unfold mix
  rw [List.set_append_right _ _ (by omega), hl, Nat.sub_self, List.drop_eq_getElem_cons h, List.set_cons_zero, renT_succ M t i h]
  simp
theorem mix_sym (M t : List Int) (i : Nat) (h : i < t.length) (hs : ¬ t.getD i 0 < 0) : mix M t i = mix M t (i+1) := by
  have hl : (renT M (t.take i)).length = i := by rw [renT_len, List.length_take]; omega
  rw [← mix_succ M t i h, val_sym hs]
  exact (list_set_same (mix_get M t i h)).symm
theorem mix_all (M t : List Int) (i : Nat) (h : ¬ i < t.length) : mix M t i = renT M t := by
  unfold mix
  rw [List.take_of_length_le (by omega), List.drop_eq_nil_of_le (by omega), List.append_nil]

end Go.Proofs.Ytfhljkjcjnfjfaa
end
section
/- Putting terms for variables keeps terms. No program. -/
namespace Go.Proofs.Ytfhljkjcjnfjfaa

theorem goodSubst_iff {ar : List Int} {b : List (List Int)} : goodSubst ar b = true ↔ goodSign ar = true ∧ b.length = 12 ∧ ∀ t ∈ b, okEmpty ar t = true := by
  simp only [goodSubst, Bool.and_eq_true, beq_iff_eq, List.all_eq_true]
  constructor
  · rintro ⟨⟨h1, h2⟩, h3⟩; exact ⟨h1, h2, h3⟩
  · rintro ⟨h1, h2, h3⟩; exact ⟨⟨h1, h2⟩, h3⟩
theorem okEmpty_get {ar : List Int} {b : List (List Int)} (h : ∀ t ∈ b, okEmpty ar t = true) (j : Nat) (hp : 0 < (b.getD j []).length) : okTerm ar (b.getD j []) = true := by
  have hj : j < b.length := by
    rcases Nat.lt_or_ge j b.length with h1 | h1
    · exact h1
    · simp [List.getD, h1] at hp
  have := h (b.getD j []) (by simp [List.getD, hj])
  rwa [okEmpty_pos hp] at this
theorem goodSubst_len40 {ar : List Int} {b : List (List Int)} (h : goodSubst ar b = true) : lens40 b := by
  obtain ⟨_, _, h3⟩ := goodSubst_iff.1 h
  intro j hj
  by_cases hp : 0 < (b.getD j []).length
  · have := ((okTerm_iff _ _).1 (okEmpty_get h3 j hp)).2.1; omega
  · omega
theorem okSym_low {ar : List Int} {x : Int} (h : okSym ar x = true) : -12 ≤ x := by simp [okSym, inB] at h; omega
theorem okTerm_low {ar t : List Int} (h : okTerm ar t = true) : ∀ k, k < t.length → -12 ≤ t.getD k 0 := fun k hk => okSym_low (good_sym ar t h k hk)

/-- What is put for an entry takes the place of one term. -/
theorem endGo_one1 (ar : List Int) (b : List (List Int)) (hb : ∀ t ∈ b, okEmpty ar t = true) (x : Int) (hx : okSym ar x = true) (s : List Int) (n p : Nat) :
    endGo ar (one1 b x ++ s) (n + 1) p = endGo ar s (n + arOf ar x) (p + (one1 b x).length) := by
  by_cases h : x < 0 ∧ 0 < (b.getD (-1 - x).toNat []).length
  · have ho := okEmpty_get hb _ h.2
    have e : one1 b x = b.getD (-1 - x).toNat [] := by unfold one1; rw [if_pos h]
    rw [e]
    generalize b.getD (-1 - x).toNat [] = T at *
    obtain ⟨h1, h2, h3⟩ := (okTerm_iff _ _).1 ho
    unfold endOf at h3
    rw [List.drop_zero] at h3
    have h4 := endGo_ext ar T s 1 0 _ h3
    have h5 := endGo_shift ar (T ++ s) 1 0 p
    rw [h4] at h5
    rw [Nat.zero_add] at h5
    rw [show n + 1 = 1 + n from by omega, endGo_add, h5, arOf_neg h.1]
    simp only [Option.map_some, Option.bind_some]
    rw [show T.length + p - p = T.length from by omega, List.drop_left, show p + T.length = T.length + p from by omega]
    rfl
  · have e : one1 b x = [x] := by unfold one1; rw [if_neg h]
    rw [e, List.singleton_append, endGo_cons, if_pos hx]
    rfl
theorem endGo_app (ar : List Int) (b : List (List Int)) (hb : ∀ t ∈ b, okEmpty ar t = true) : ∀ (r : List Int) (n p q : Nat), endGo ar r n p = some (p + r.length) → endGo ar (appT b r) n q = some (q + (appT b r).length) := by
  intro r
  induction r with
  | nil =>
    intro n p q h
    cases n with
    | zero => rw [endGo_zero]; rfl
    | succ n => simp [endGo_nil] at h
  | cons x r ih =>
    intro n p q h
    cases n with
    | zero => rw [endGo_zero] at h; simp at h
    | succ n =>
      rw [endGo_cons] at h
      split at h
      · rename_i hx
        have := ih _ (p+1) (q + (one1 b x).length) (by rw [h]; simp; omega)
        show endGo ar (one1 b x ++ appT b r) (n+1) q = _
        rw [endGo_one1 ar b hb x hx, this]
        show _ = some (q + (one1 b x ++ appT b r).length)
        rw [List.length_append]; congr 1; omega
      · simp at h
theorem one1_pos (b : List (List Int)) (x : Int) : 0 < (one1 b x).length := by
  unfold one1; split
  · rename_i h; exact h.2
  · simp
theorem appT_pos (b : List (List Int)) (t : List Int) (h : 0 < t.length) : 0 < (appT b t).length := by
  cases t with
  | nil => simp at h
  | cons x r =>
    show 0 < (one1 b x ++ appT b r).length
    rw [List.length_append]; have := one1_pos b x; omega
theorem app_end {ar t : List Int} {b : List (List Int)} (hb : ∀ t ∈ b, okEmpty ar t = true) (ht : okTerm ar t = true) : endOf ar (appT b t) 0 = some (appT b t).length := by
  obtain ⟨h1, h2, h3⟩ := (okTerm_iff _ _).1 ht
  have := endGo_app ar b hb t 1 0 0 (by unfold endOf at h3; simpa using h3)
  unfold endOf; simpa using this
theorem app_ok {ar t : List Int} {b : List (List Int)} (hb : goodSubst ar b = true) (ht : okTerm ar t = true) : okTerm ar (appT b t) = app40ok b t := by
  obtain ⟨_, _, h3⟩ := goodSubst_iff.1 hb
  have he := app_end h3 ht
  have hp := appT_pos b t (by have := ((okTerm_iff _ _).1 ht).1; omega)
  rw [Bool.eq_iff_iff, okTerm_iff]
  simp [app40ok]
  constructor
  · rintro ⟨_, h, _⟩; exact h
  · intro h; exact ⟨by omega, h, he⟩
def applyOk (ar : List Int) (b : List (List Int)) (t : List Int) : Bool := goodSubst ar b && okTerm ar t && app40ok b t
def applyAns (ar : List Int) (b : List (List Int)) (t : List Int) : List Int := if applyOk ar b t then appT b t else []
theorem applyAns_no {ar t : List Int} {b : List (List Int)} (h : applyOk ar b t = false) : applyAns ar b t = [] := by simp [applyAns, h]
theorem applyAns_yes {ar t : List Int} {b : List (List Int)} (h : applyOk ar b t = true) : applyAns ar b t = appT b t := by simp [applyAns, h]
theorem applyAns_len (ar : List Int) (b : List (List Int)) (t : List Int) : (applyAns ar b t).length ≤ 1048576 := by
  unfold applyAns
  split
  · rename_i h; simp [applyOk, app40ok] at h; omega
  · simp
theorem applyAns_len40 (ar : List Int) (b : List (List Int)) (t : List Int) : (applyAns ar b t).length ≤ 40 := by
  unfold applyAns
  split
  · rename_i h; simp [applyOk, app40ok] at h; omega
  · simp
end Go.Proofs.Ytfhljkjcjnfjfaa
end
section
/- Slices of ints compared: three functions of one shape. -/
namespace Go.Proofs.Ytfhljkjcjnfjfaa
open Go.RowKit

end Go.Proofs.Ytfhljkjcjnfjfaa
end
section
/- Apply, IsUnifier: both functions. -/
namespace Go.Proofs.Ytfhljkjcjnfjfaa
open Go.RowKit

def unifAns (ar : List Int) (b : List (List Int)) (t r : List Int) : Bool := applyOk ar b t && applyOk ar b r && decide (applyAns ar b t = applyAns ar b r)

set_option maxRecDepth 100000 in
set_option maxHeartbeats 400000 in
theorem iApply_t {l h l' h' l2 h2 : Nat} {v u x : Value} {ar : List Int} {b : List (List Int)} {t : List Int} {w : World} (ha : ar.length ≤ 1048576) (hv : SlI l h w v ar) (hb : short b) (hu : SlS l' h' w u b) (ht : t.length ≤ 1048576) (hx : SlI l2 h2 w x t) :
    Calls Try.prog 51 #[.agg #[v], u, x] w (RetIB w (applyAns ar b t) (applyOk ar b t)) := by
  cases hs : goodSubst ar b with
  | false =>
    have E := Lib.hid (applyAns_no (show applyOk ar b t = false by simp [applyOk, hs]))
    have E2 : Hid (applyOk ar b t = false) := by show _ = _; simp [applyOk, hs]
    have HS := Lib.hid hs; clear hs
    go_enter Try.func51, Try.ntmps51
    go_wp2_with fail
    refine (iGoodSubst_v _ _ _ _ _ _ _ _ _ _ HS.out ha (hv.alloc _) hb (hu.alloc _)).mono ?_; rintro e w1 ⟨rfl, hb1⟩
    go_wp2_with fail
    go_ret2
    exact ⟨_, _, _, by rw [E2.out]; rfl, by rw [E.out]; exact OwnI.nil _ _ _, hb1.of_alloc⟩
  | true =>
    have hg := (goodSubst_iff.1 hs).1
    cases htt : okTerm ar t with
    | false =>
      have E := Lib.hid (applyAns_no (show applyOk ar b t = false by simp [applyOk, htt]))
      have E2 : Hid (applyOk ar b t = false) := by show _ = _; simp [applyOk, htt]
      have HS := Lib.hid hs
      have HT := Lib.hid htt
      clear hs htt
      go_enter Try.func51, Try.ntmps51
      go_wp2_with fail
      refine (iGoodSubst_v _ _ _ _ _ _ _ _ _ _ HS.out ha (hv.alloc _) hb (hu.alloc _)).mono ?_; rintro e w1 ⟨rfl, hb1⟩
      have hx1 := boxc hb1 0 _ rfl
      go_wp2_with fail
      refine (iGoodTerm_vv _ _ _ _ _ _ _ _ _ _ HT.out hg ha ht (hv.below hb1.of_alloc) (hx.below hb1.of_alloc)).mono ?_; rintro e w2 ⟨rfl, hb2⟩
      go_wp2_with fail
      go_ret2
      exact ⟨_, _, _, by rw [E2.out]; rfl, by rw [E.out]; exact OwnI.nil _ _ _, (hb1.step hb2).of_alloc⟩
    | true =>
      have hlow := okTerm_low htt
      have ht40 := ((okTerm_iff _ _).1 htt).2.1
      have h40 := goodSubst_len40 hs
      have h12 := (goodSubst_iff.1 hs).2.1
      have E2 : Hid (applyOk ar b t = app40ok b t) := by show _ = _; simp [applyOk, hs, htt]
      have E : Hid (applyAns ar b t = app40 b t) := by
        show _ = _
        have := E2.out
        unfold applyAns
        rw [this]
        unfold app40 app40ok
        by_cases h : 40 < (appT b t).length <;> simp [h]
      have HS := Lib.hid hs
      have HT := Lib.hid htt
      clear hs htt
      go_enter Try.func51, Try.ntmps51
      go_wp2_with fail
      refine (iGoodSubst_v _ _ _ _ _ _ _ _ _ _ HS.out ha (hv.alloc _) hb (hu.alloc _)).mono ?_; rintro e w1 ⟨rfl, hb1⟩
      have hx1 := boxc hb1 0 _ rfl
      go_wp2_with fail
      refine (iGoodTerm_vv _ _ _ _ _ _ _ _ _ _ HT.out hg ha ht (hv.below hb1.of_alloc) (hx.below hb1.of_alloc)).mono ?_; rintro e w2 ⟨rfl, hb2⟩
      have hb12 := hb1.step hb2
      go_wp2_with fail
      refine (applied_c _ _ _ _ _ _ b t _ h12 h40 (by omega) hlow (hu.below hb12.of_alloc) (hx.below hb12.of_alloc)).mono ?_; rintro e w3 ⟨ao, no, co, rfl, ho, hb3⟩
      go_wp2_with fail
      go_ret2
      exact ⟨_, _, _, by rw [E2.out]; rfl, by rw [E.out]; exact ho.mono (by have := hb12.size; simp at this; omega) (Nat.le_refl _), (hb12.step hb3).of_alloc⟩

end Go.Proofs.Ytfhljkjcjnfjfaa
end
section
/- RenameOf: both functions. -/
namespace Go.Proofs.Ytfhljkjcjnfjfaa
open Go.RowKit

def renameOk (ar : List Int) (b : List (List Int)) : Bool := goodSign ar && decide (b.length ≤ 20) && b.all (okTerm ar)
def renameAns (ar : List Int) (b : List (List Int)) : List (List Int) := if renameOk ar b then renS [] b else []
theorem renameAns_no {ar : List Int} {b : List (List Int)} (h : renameOk ar b = false) : renameAns ar b = [] := by simp [renameAns, h]
theorem renameAns_yes {ar : List Int} {b : List (List Int)} (h : renameOk ar b = true) : renameAns ar b = renS [] b := by simp [renameAns, h]
theorem renameOk_iff {ar : List Int} {b : List (List Int)} : renameOk ar b = true ↔ goodSign ar = true ∧ b.length ≤ 20 ∧ ∀ t ∈ b, okTerm ar t = true := by
  simp only [renameOk, Bool.and_eq_true, decide_eq_true_eq, List.all_eq_true]
  constructor
  · rintro ⟨⟨h1, h2⟩, h3⟩; exact ⟨h1, h2, h3⟩
  · rintro ⟨h1, h2, h3⟩; exact ⟨⟨h1, h2⟩, h3⟩
theorem renameOk_rows {ar : List Int} {b : List (List Int)} (h : renameOk ar b = true) : rows40 b := by
  obtain ⟨_, h2, h3⟩ := renameOk_iff.1 h
  refine ⟨h2, fun j hj => ?_⟩
  have ho := h3 (b.getD j []) (by simp [List.getD, hj])
  exact ⟨((okTerm_iff _ _).1 ho).2.1, okTerm_low ho⟩
theorem sumL_le40 (l : List (List Int)) (h : ∀ t ∈ l, t.length ≤ 40) : sumL l ≤ 40 * l.length := by
  unfold sumL
  induction l with
  | nil => simp
  | cons x r ih =>
    have h1 := ih (fun t ht => h t (List.mem_cons_of_mem _ ht))
    have h2 := h x List.mem_cons_self
    simp only [List.map_cons, List.sum_cons, List.length_cons]
    omega
theorem renS_lens (met : List Int) (l : List (List Int)) (h : ∀ t ∈ l, t.length ≤ 40) : ∀ t ∈ renS met l, t.length ≤ 40 := by
  induction l generalizing met with
  | nil => intro t ht; simp [renS] at ht
  | cons x r ih =>
    intro t ht
    simp only [renS, List.mem_cons] at ht
    rcases ht with rfl | ht
    · rw [renT_len]; exact h x List.mem_cons_self
    · exact ih _ (fun t ht => h t (List.mem_cons_of_mem _ ht)) t ht
theorem renameAns_len (ar : List Int) (b : List (List Int)) : tot (renameAns ar b) ≤ 1048576 := by
  unfold renameAns
  split
  · rename_i h
    have hr := renameOk_rows h
    have h1 := sumL_le40 _ (renS_lens [] b hr.mem)
    have h2 := hr.1
    unfold tot
    rw [renS_len] at h1 ⊢
    omega
  · simp [tot, sumL]

end Go.Proofs.Ytfhljkjcjnfjfaa
end
section
/- PartAt, ReplaceAt: both functions. -/
namespace Go.Proofs.Ytfhljkjcjnfjfaa
open Go.RowKit

theorem l1End_v (l h l' h' : Nat) (v u : Value) (ar t : List Int) (i q : Nat) (w : World) (he : endOf ar t i = some q) (hg : goodSign ar = true) (ht : t.length ≤ 1048576) (hi : i ≤ t.length) (hv : SlI l h w v ar) (hu : SlI l' h' w u t) :
    Calls Try.prog 127 #[.agg #[v], u, .int .i64 i] w (RetV w (.int .i64 q)) := endI_some he ▸ l1End_c l h l' h' v u ar t i w hg ht hi hv hu
theorem termEnd_v (l h l' h' : Nat) (v u : Value) (ar t : List Int) (i q : Nat) (w : World) (he : endOf ar t i = some q) (hg : goodSign ar = true) (ht : t.length ≤ 1048576) (hi : i ≤ t.length) (hv : SlI l h w v ar) (hu : SlI l' h' w u t) :
    Calls Try.prog 129 #[.agg #[v], u, .int .i64 i] w (RetV w (.tuple #[.int .i64 q, .bool true])) := endP_some he ▸ termEnd_c l h l' h' v u ar t i w hg ht hi hv hu

/-- What PartAt answers. -/
def partAns (ar t : List Int) (i : Int) : List Int := if askOk ar t i then partOf t i.toNat ((endOf ar t i.toNat).getD 0) else []
theorem partAns_yes {ar t : List Int} {k q : Nat} (h : askOk ar t k = true) (he : endOf ar t k = some q) : partAns ar t k = partOf t k q := by simp [partAns, h, he]
theorem partAns_len (ar t : List Int) (i : Int) : (partAns ar t i).length ≤ 1048576 := by
  unfold partAns
  split
  · rename_i h
    obtain ⟨k, e, rfl, hk, he, _, hle, hl, _, _⟩ := ask_yes h
    simp only [Int.toNat_natCast, he, Option.getD_some]
    rw [partOf_len t k e hle]
    omega
  · exact Nat.zero_le _

theorem replaced_len_le (t r : List Int) (i q : Nat) (ht : t.length ≤ 1048576) (hr : r.length ≤ 1048576) : (replaced t i q r).length ≤ 1099511627776 := by
  simp [replaced]; omega

end Go.Proofs.Ytfhljkjcjnfjfaa
end
section
/- CountOf, ShiftVars: both functions. -/
namespace Go.Proofs.Ytfhljkjcjnfjfaa
open Go.RowKit

def cntI (t : List Int) (n : Int) : Nat := (t.filter (· == n)).length
theorem cntI_le (t : List Int) (n : Int) : cntI t n ≤ t.length := List.length_filter_le _ _
theorem cntI_yes (t : List Int) (n : Int) (k : Nat) (hk : k < t.length) (h : t.getD k 0 = n) : cntI (t.take (k+1)) n = cntI (t.take k) n + 1 := by
  unfold cntI
  rw [List.take_succ_eq_append_getElem hk, List.filter_append, List.length_append]
  have : (t[k] == n) = true := by simp [List.getD, hk] at h; simp [h]
  simp [this]
theorem cntI_no (t : List Int) (n : Int) (k : Nat) (hk : k < t.length) (h : t.getD k 0 ≠ n) : cntI (t.take (k+1)) n = cntI (t.take k) n := by
  unfold cntI
  rw [List.take_succ_eq_append_getElem hk, List.filter_append, List.length_append]
  have : (t[k] == n) = false := by simp [List.getD, hk] at h; simp [h]
  simp [this]

def countAns (ar t : List Int) (n : Int) : Int := if goodTerm ar t then cntI t n else 0
theorem count_no {ar t : List Int} {n : Int} (h : goodTerm ar t = false) : countAns ar t n = 0 := by simp [countAns, h]
theorem count_yes {ar t : List Int} {n : Int} (h : goodTerm ar t = true) : countAns ar t n = cntI t n := by simp [countAns, h]

/-! ### ShiftVars -/
def shiftOne (d x : Int) : Int := if x < 0 then x - d else x
def shifted (t : List Int) (d : Int) : List Int := t.map (shiftOne d)
def mapDone (f : Int → Int) (t : List Int) (k : Nat) : List Int := (t.take k).map f ++ t.drop k
theorem mapDone_zero (f : Int → Int) (t : List Int) : mapDone f t 0 = t := by simp [mapDone]
theorem mapDone_len (f : Int → Int) (t : List Int) (k : Nat) : (mapDone f t k).length = t.length := by simp [mapDone]; omega
theorem mapDone_get (f : Int → Int) (t : List Int) (k : Nat) (h : k < t.length) : (mapDone f t k).getD k 0 = t.getD k 0 := by
  unfold mapDone
  have hl : ((t.take k).map f).length = k := by simp; omega
  simp only [List.getD]
  rw [List.getElem?_append_right (by omega), hl, Nat.sub_self]
  simp
theorem mapDone_succ (f : Int → Int) (t : List Int) (k : Nat) (h : k < t.length) : (mapDone f t k).set k (f (t.getD k 0)) = mapDone f t (k+1) := by
  unfold mapDone
  have hl : ((t.take k).map f).length = k := by simp; omega
  rw [List.set_append_right _ _ (by omega), hl, Nat.sub_self, List.drop_eq_getElem_cons h, List.set_cons_zero, List.take_succ_eq_append_getElem h, List.map_append, List.append_assoc]
  simp [List.getD, h]
theorem mapDone_same (f : Int → Int) (t : List Int) (k : Nat) (h : k < t.length) (e : f (t.getD k 0) = t.getD k 0) : mapDone f t k = mapDone f t (k+1) := by
  have h1 : k < (mapDone f t k).length := by rw [mapDone_len]; exact h
  have h2 : t.getD k 0 = (mapDone f t k)[k] := by rw [← mapDone_get f t k h]; simp [List.getD, h1]
  rw [← mapDone_succ f t k h, e, h2, List.set_getElem_self]
theorem mapDone_all (f : Int → Int) (t : List Int) (k : Nat) (h : ¬ k < t.length) : mapDone f t k = t.map f := by
  unfold mapDone; rw [List.take_of_length_le (by omega), List.drop_eq_nil_of_le (by omega), List.append_nil]

/-- The cell, the mark and the next state at a place of a slice of the call's own. -/
theorem OwnI.at {lo hi : Nat} {w : World} {ad : Option Addr} {n c : Nat} {xs : List Int} (h : OwnI lo hi w (.slice ad n c) xs) (j : Nat) (hj : j < xs.length) :
    ∃ b off, ad = some ⟨b, off, none⟩ ∧ lo ≤ b ∧ b < hi ∧ w.cell? ⟨b, off + j, none⟩ = some (.int .i64 (xs.getD j 0)) ∧ w.frozen? ⟨b, off + j, none⟩ = false ∧
      ∀ x : Int, OwnI lo hi (w.setCell ⟨b, off + j, none⟩ (.int .i64 x)) (.slice (some ⟨b, off, none⟩) n c) (xs.set j x) := by
  have h0 := h
  obtain ⟨⟨ad', cap, e, hc, hm, hr⟩, hf⟩ := h
  obtain ⟨b, off, rfl, a1, a2, a3⟩ := hr (by omega)
  simp only [Value.slice.injEq] at e
  obtain ⟨rfl, rfl, rfl⟩ := e
  exact ⟨b, off, rfl, a1, a2, a3 j hj, hf b off _ _ rfl (by omega) j, fun x => h0.stored j hj x⟩

def shiftOk (ar t : List Int) (d : Int) : Bool := goodTerm ar t && inB d 0 12 && okTerm ar (shifted t d)
def shiftAns (ar t : List Int) (d : Int) : List Int := if shiftOk ar t d then shifted t d else []
theorem shifted_len (t : List Int) (d : Int) : (shifted t d).length = t.length := by simp [shifted]
theorem shiftAns_len (ar t : List Int) (d : Int) : (shiftAns ar t d).length ≤ 1048576 := by
  unfold shiftAns
  split
  · rename_i h
    simp only [shiftOk, Bool.and_eq_true] at h
    have := ((okTerm_iff _ _).1 h.2).2.1
    omega
  · exact Nat.zero_le _
theorem shift_no {ar t : List Int} {d : Int} (h : shiftOk ar t d = false) : shiftAns ar t d = [] := by simp [shiftAns, h]
theorem shift_yes {ar t : List Int} {d : Int} (h : shiftOk ar t d = true) : shiftAns ar t d = shifted t d := by simp [shiftAns, h]
theorem good_low {ar t : List Int} (h : goodTerm ar t = true) : t.length ≤ 40 ∧ ∀ k, k < t.length → -12 ≤ t.getD k 0 := by
  obtain ⟨_, h2⟩ := goodTerm_iff.1 h
  refine ⟨((okTerm_iff _ _).1 h2).2.1, fun k hk => ?_⟩
  have := good_sym ar t h2 k hk
  simp [okSym, inB] at this
  simp only [List.getD]
  omega

end Go.Proofs.Ytfhljkjcjnfjfaa
end
