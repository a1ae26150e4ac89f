/- Texts merged, part 10. -/
import Derived.Test.YteegjnobmbcjiaaGreatDoorMgFactor9
section
/- Chapter 4: what tidying leaves out changes nothing; tautologies hold. No program. -/
namespace Go.Proofs.YteegjnobmbcjiaaGreatDoor

section
variable (v : List Int → Int)
/-- v: the values of terms. -/
def holdsL (x : Lt) : Bool := decide (v x.2.1 = v x.2.2) == x.1
def holdsC (c : List Lt) : Bool := c.any (holdsL v)
end
variable {v : List Int → Int}
theorem sameTs_val {x y : Lt} (h : sameTs x y = true) : decide (v x.2.1 = v x.2.2) = decide (v y.2.1 = v y.2.2) := by
  unfold sameTs at h
  simp only [Bool.or_eq_true, Bool.and_eq_true, decide_eq_true_eq] at h
  rcases h with ⟨h1, h2⟩ | ⟨h1, h2⟩
  · rw [h1, h2]
  · rw [h1, h2]; exact decide_eq_decide.2 eq_comm
theorem eqvL_holds {x y : Lt} (h : eqvL x y = true) : holdsL v x = holdsL v y := by
  unfold eqvL at h
  rw [Bool.and_eq_true] at h
  unfold holdsL
  rw [sameTs_val h.2, eq_of_beq h.1]
theorem tidyStep_holds (out : List Lt) (x : Lt) : holdsC v (tidyStep out x) = (holdsC v out || holdsL v x) := by
  unfold tidyStep
  by_cases h1 : (!x.1 && decide (x.2.1 = x.2.2)) = true
  · rw [if_pos h1]
    rw [Bool.and_eq_true, Bool.not_eq_true', decide_eq_true_eq] at h1
    have : holdsL v x = false := by unfold holdsL; rw [h1.1, h1.2]; simp
    rw [this, Bool.or_false]
  · rw [if_neg h1]
    by_cases h2 : out.any (eqvL x) = true
    · rw [if_pos h2]
      obtain ⟨y, hy, he⟩ := List.any_eq_true.1 h2
      cases hx : holdsL v x with
      | false => rw [Bool.or_false]
      | true =>
        have : holdsC v out = true := List.any_eq_true.2 ⟨y, hy, by rw [← eqvL_holds he, hx]⟩
        rw [this]; rfl
    · rw [if_neg h2]
      unfold holdsC
      rw [List.any_append]; simp
theorem tidy_fold (c : List Lt) : ∀ out, holdsC v (c.foldl tidyStep out) = (holdsC v out || holdsC v c) := by
  induction c with
  | nil => intro out; simp [holdsC]
  | cons x c ih =>
    intro out
    rw [List.foldl_cons, ih, tidyStep_holds, Bool.or_assoc]
    rfl
/-- Tidying changes no model. -/
theorem tidy_holds (c : List Lt) : holdsC v (tidyC c) = holdsC v c := by
  unfold tidyC; rw [tidy_fold]; rfl

def trivL (x : Lt) : Bool := !x.1 && decide (x.2.1 = x.2.2)
def tidyOk : List Lt → List Lt → Prop
  | _, [] => True
  | pre, x :: r => trivL x = false ∧ pre.any (eqvL x) = false ∧ tidyOk (pre ++ [x]) r
theorem tidyOk_app (l : List Lt) (x : Lt) : ∀ pre, tidyOk pre l → trivL x = false → (pre ++ l).any (eqvL x) = false → tidyOk pre (l ++ [x]) := by
  induction l with
  | nil => intro pre _ h1 h2; exact ⟨h1, by simpa using h2, trivial⟩
  | cons y l ih =>
    intro pre h h1 h2
    exact ⟨h.1, h.2.1, ih _ h.2.2 h1 (by simpa [List.append_assoc] using h2)⟩
theorem tidyStep_ok {out : List Lt} (h : tidyOk [] out) (x : Lt) : tidyOk [] (tidyStep out x) := by
  unfold tidyStep
  by_cases h1 : (!x.1 && decide (x.2.1 = x.2.2)) = true
  · rw [if_pos h1]; exact h
  · rw [if_neg h1]
    by_cases h2 : out.any (eqvL x) = true
    · rw [if_pos h2]; exact h
    · rw [if_neg h2]
      exact tidyOk_app out x [] h (by unfold trivL; simpa using h1) (by simpa using h2)
theorem tidy_ok (c : List Lt) : ∀ out, tidyOk [] out → tidyOk [] (c.foldl tidyStep out) := by
  induction c with
  | nil => exact fun out h => h
  | cons x c ih => exact fun out h => ih _ (tidyStep_ok h x)
theorem tidy_fix (l : List Lt) : ∀ pre, tidyOk pre l → l.foldl tidyStep pre = pre ++ l := by
  induction l with
  | nil => intro pre _; simp
  | cons x l ih =>
    intro pre h
    have e : tidyStep pre x = pre ++ [x] := by
      unfold tidyStep
      rw [if_neg (by have := h.1; unfold trivL at this; rw [this]; simp), if_neg (by rw [h.2.1]; simp)]
    rw [List.foldl_cons, e, ih _ h.2.2, List.append_assoc]; rfl
/-- Tidied twice is tidied once. -/
theorem tidy_twice (c : List Lt) : tidyC (tidyC c) = tidyC c := by
  have := tidy_fix (tidyC c) [] (tidy_ok c [] trivial)
  simpa [tidyC] using this
theorem tidyStep_sub (out : List Lt) (x : Lt) : ∀ y ∈ tidyStep out x, y ∈ out ∨ y = x := by
  intro y hy
  unfold tidyStep at hy
  by_cases h1 : (!x.1 && decide (x.2.1 = x.2.2)) = true
  · rw [if_pos h1] at hy; exact .inl hy
  · rw [if_neg h1] at hy
    by_cases h2 : out.any (eqvL x) = true
    · rw [if_pos h2] at hy; exact .inl hy
    · rw [if_neg h2] at hy
      rcases List.mem_append.1 hy with h | h
      · exact .inl h
      · exact .inr (by simpa using h)
theorem tidyStep_len (out : List Lt) (x : Lt) : (tidyStep out x).length ≤ out.length + 1 := by
  unfold tidyStep
  split
  · omega
  · split
    · omega
    · simp
theorem tidy_sub (c : List Lt) : ∀ out, (∀ y ∈ c.foldl tidyStep out, y ∈ out ∨ y ∈ c) ∧ (c.foldl tidyStep out).length ≤ out.length + c.length := by
  induction c with
  | nil => intro out; exact ⟨fun y hy => .inl hy, by simp⟩
  | cons x c ih =>
    intro out
    rw [List.foldl_cons]
    obtain ⟨h1, h2⟩ := ih (tidyStep out x)
    refine ⟨fun y hy => ?_, by have := tidyStep_len out x; simp; omega⟩
    rcases h1 y hy with h | h
    · rcases tidyStep_sub out x y h with h | h
      · exact .inl h
      · exact .inr (by rw [h]; exact List.mem_cons_self)
    · exact .inr (List.mem_cons_of_mem _ h)
/-- A tidied clause is valid. -/
theorem tidy_good {ar : List Int} {c : List Lt} (h : goodClause ar c = true) : goodClause ar (tidyC c) = true := by
  obtain ⟨h1, h2, h3⟩ := goodClause_iff.1 h
  obtain ⟨k1, k2⟩ := tidy_sub c []
  refine goodClause_iff.2 ⟨h1, by unfold tidyC; simp at k2; omega, fun x hx => ?_⟩
  rcases k1 x hx with h | h
  · simp at h
  · exact h3 x h
/-- A tautology holds. -/
theorem taut_holds {c : List Lt} (h : tautC c = true) : holdsC v c = true := by
  unfold tautC at h
  obtain ⟨k, hk, ht⟩ := List.any_eq_true.1 h
  rw [List.mem_range] at hk
  have hx : c.getD k lt0 ∈ c := by simp [List.getD, hk]
  unfold tautAt at ht
  generalize c.getD k lt0 = x at *
  rw [Bool.or_eq_true, Bool.and_eq_true, decide_eq_true_eq, List.any_eq_true] at ht
  rcases ht with ⟨h1, h2⟩ | ⟨y, hy, h3⟩
  · exact List.any_eq_true.2 ⟨x, hx, by unfold holdsL; rw [h1, h2]; simp⟩
  · rw [Bool.and_eq_true] at h3
    have hyc : y ∈ c := List.mem_of_mem_take hy
    have hv := sameTs_val (v := v) h3.2
    by_cases hb : holdsL v x = true
    · exact List.any_eq_true.2 ⟨x, hx, hb⟩
    · refine List.any_eq_true.2 ⟨y, hyc, ?_⟩
      have hne := h3.1
      unfold holdsL at hb ⊢
      rw [hv] at hb
      revert hb hne
      cases x.1 <;> cases y.1 <;> cases decide (v y.2.1 = v y.2.2) <;> simp
end Go.Proofs.YteegjnobmbcjiaaGreatDoor
end
section
/- Chapter 6: inferences, as plain functions. No program. -/
namespace Go.Proofs.YteegjnobmbcjiaaGreatDoor
open Go.RowKit

/-- What is concluded. -/
def concl (c : List Lt) : List Lt := renC (tidyC c)
theorem concl_nil : concl [] = [] := rfl
theorem concl_len {ar : List Int} {c : List Lt} (hg : goodSign ar = true) (h : okLits ar c = true) : sumC (concl c) ≤ 1048576 := by
  have h1 : goodClause ar c = true := by unfold goodClause; rw [hg, h]; rfl
  have h2 := tidy_good h1
  have := renCAns_len ar (tidyC c)
  unfold renCAns at this
  rw [if_pos h2] at this
  exact this
theorem unify_subst {ar a b : List Int} (h : unifyOk ar a b = true) : goodSubst ar (unifyAns ar a b) = true := by
  obtain ⟨G, z, _, hz, hans, hg, _, _⟩ := unify_inv h
  rw [hans]; exact good_raw hg hz
theorem uniOk0_of {ar a b : List Int} (hg : goodSign ar = true) (ha : okTerm ar a = true) (hb : okTerm ar b = true) : uniOk0 ar a b = true := by
  unfold uniOk0; rw [goodTerm_iff.2 ⟨hg, ha⟩, hb]; rfl
theorem uni_ans {ar a b : List Int} (h : uniOk0 ar a b = true) : unifyAns ar a b = ansR (uniR ar a b) ∧ unifyOk ar a b = (uniR ar a b).isSome := by
  constructor
  · unfold unifyAns; rw [if_pos h]; cases uniR ar a b <;> rfl
  · unfold unifyOk; rw [h, Bool.true_and]
theorem unify_none {ar a b : List Int} (h : unifyOk ar a b = false) : unifyAns ar a b = [] := by
  unfold unifyOk at h
  unfold unifyAns
  cases h0 : uniOk0 ar a b with
  | false => rfl
  | true =>
    rw [h0, Bool.true_and] at h
    cases h1 : uniR ar a b with
    | none => rfl
    | some F => rw [h1] at h; simp at h
theorem unify_seat {ar a b : List Int} (h : unifyOk ar a b = true) : (unifyAns ar a b).length = 12 ∧ lens40 (unifyAns ar a b) := ⟨(goodSubst_iff.1 (unify_subst h)).2.1, goodSubst_len40 (unify_subst h)⟩

/-- Without the i-th. -/
def dropAt (c : List Lt) (i : Nat) : List Lt := c.take i ++ c.drop (i+1)
theorem dropAt_ok {ar : List Int} {c : List Lt} (i : Nat) (h : okLits ar c = true) : okLits ar (dropAt c i) = true := by
  obtain ⟨h8, hok⟩ := okLits_iff.1 h
  refine okLits_iff.2 ⟨?_, fun x hx => ?_⟩
  · unfold dropAt; simp; omega
  · unfold dropAt at hx
    rcases List.mem_append.1 hx with h1 | h1
    · exact hok x (List.mem_of_mem_take h1)
    · exact hok x (List.mem_of_mem_drop h1)

/-- The clause before it is tidied, and the code. -/
def resR (ar : List Int) (c : List Lt) (i : Int) : List Lt × Int :=
  if inB i 0 (c.length - 1) && !(c.getD i.toNat lt0).1 then
    if unifyOk ar (c.getD i.toNat lt0).2.1 (c.getD i.toNat lt0).2.2 then
      if okLits ar (applyC (unifyAns ar (c.getD i.toNat lt0).2.1 (c.getD i.toNat lt0).2.2) c) then
        (dropAt (applyC (unifyAns ar (c.getD i.toNat lt0).2.1 (c.getD i.toNat lt0).2.2) c) i.toNat, if maxAt (applyC (unifyAns ar (c.getD i.toNat lt0).2.1 (c.getD i.toNat lt0).2.2) c) i.toNat then 0 else 5)
      else ([], 4)
    else ([], 3)
  else ([], 1)
theorem resR_none {ar : List Int} {c : List Lt} {i : Int} (h : (inB i 0 (c.length - 1) && !(c.getD i.toNat lt0).1) = false) : resR ar c i = ([], 1) := by unfold resR; rw [if_neg (by rw [h]; simp)]
theorem resR_apart {ar : List Int} {c : List Lt} {i : Int} (h : (inB i 0 (c.length - 1) && !(c.getD i.toNat lt0).1) = true) (hu : unifyOk ar (c.getD i.toNat lt0).2.1 (c.getD i.toNat lt0).2.2 = false) : resR ar c i = ([], 3) := by
  unfold resR; rw [if_pos h, if_neg (by rw [hu]; simp)]
theorem resR_big {ar : List Int} {c : List Lt} {i : Int} (h : (inB i 0 (c.length - 1) && !(c.getD i.toNat lt0).1) = true) (hu : unifyOk ar (c.getD i.toNat lt0).2.1 (c.getD i.toNat lt0).2.2 = true)
    (ho : okLits ar (applyC (unifyAns ar (c.getD i.toNat lt0).2.1 (c.getD i.toNat lt0).2.2) c) = false) : resR ar c i = ([], 4) := by
  unfold resR; rw [if_pos h, if_pos hu, if_neg (by rw [ho]; simp)]
theorem resR_yes {ar : List Int} {c : List Lt} {i : Int} (h : (inB i 0 (c.length - 1) && !(c.getD i.toNat lt0).1) = true) (hu : unifyOk ar (c.getD i.toNat lt0).2.1 (c.getD i.toNat lt0).2.2 = true)
    (ho : okLits ar (applyC (unifyAns ar (c.getD i.toNat lt0).2.1 (c.getD i.toNat lt0).2.2) c) = true) : resR ar c i = (dropAt (applyC (unifyAns ar (c.getD i.toNat lt0).2.1 (c.getD i.toNat lt0).2.2) c) i.toNat, if maxAt (applyC (unifyAns ar (c.getD i.toNat lt0).2.1 (c.getD i.toNat lt0).2.2) c) i.toNat then 0 else 5) := by
  unfold resR; rw [if_pos h, if_pos hu, if_pos ho]
theorem resR_ok (ar : List Int) (c : List Lt) (i : Int) : okLits ar (resR ar c i).1 = true := by
  unfold resR
  split
  · split
    · split
      · rename_i h; exact dropAt_ok _ h
      · rfl
    · rfl
  · rfl
theorem resR_code (ar : List Int) (c : List Lt) (i : Int) : 0 ≤ (resR ar c i).2 ∧ (resR ar c i).2 ≤ 5 := by
  unfold resR
  split
  · split
    · split
      · show 0 ≤ (if _ then _ else _ : Int) ∧ (if _ then _ else _ : Int) ≤ 5
        split <;> omega
      · exact ⟨by show (0:Int) ≤ 4; omega, by show (4:Int) ≤ 5; omega⟩
    · exact ⟨by show (0:Int) ≤ 3; omega, by show (3:Int) ≤ 5; omega⟩
  · exact ⟨by show (0:Int) ≤ 1; omega, by show (1:Int) ≤ 5; omega⟩
def resAns (ar : List Int) (c : List Lt) (i : Int) : List Lt := if goodClause ar c then concl (resR ar c i).1 else []
def resNo (ar : List Int) (c : List Lt) (i : Int) : Int := if goodClause ar c then (resR ar c i).2 else 0
theorem resAns_len (ar : List Int) (c : List Lt) (i : Int) : sumC (resAns ar c i) ≤ 1048576 := by
  unfold resAns
  split
  · rename_i h
    exact concl_len (goodClause_iff.1 h).1 (resR_ok ar c i)
  · simp [sumC]

/-- A way: which literal, which side, which literal of the other, which side, where. -/
abbrev Wy := Int × Int × Int × Int × Int
def sideL (x : Lt) (s : Int) : List Int := if s = 0 then x.2.1 else x.2.2
def sideR (x : Lt) (s : Int) : List Int := if s = 0 then x.2.2 else x.2.1
def litOk (c : List Lt) (i s : Int) : Bool := inB i 0 (c.length - 1) && inB s 0 1
/-- Neither less nor equal. -/
def overT (a b : List Int) : Bool := decide (cmpT a b = 1) || decide (cmpT a b = 2)
theorem sideL_ok {ar : List Int} {x : Lt} (h : okLit ar x = true) (s : Int) : okTerm ar (sideL x s) = true := by unfold sideL; split; exact (okLit_iff.1 h).1; exact (okLit_iff.1 h).2
theorem sideR_ok {ar : List Int} {x : Lt} (h : okLit ar x = true) (s : Int) : okTerm ar (sideR x s) = true := by unfold sideR; split; exact (okLit_iff.1 h).2; exact (okLit_iff.1 h).1

def facIn (c : List Lt) (w : Wy) : Bool := (litOk c w.1 w.2.1 && litOk c w.2.2.1 w.2.2.2.1) && (!decide (w.1 = w.2.2.1) && decide (w.2.2.2.2 = 0)) && ((c.getD w.1.toNat lt0).1 && (c.getD w.2.2.1.toNat lt0).1)
def facL (c : List Lt) (w : Wy) : List Int := sideL (c.getD w.1.toNat lt0) w.2.1
def facR (c : List Lt) (w : Wy) : List Int := sideR (c.getD w.1.toNat lt0) w.2.1
def facL2 (c : List Lt) (w : Wy) : List Int := sideL (c.getD w.2.2.1.toNat lt0) w.2.2.2.1
def facR2 (c : List Lt) (w : Wy) : List Int := sideR (c.getD w.2.2.1.toNat lt0) w.2.2.2.1
def facOut (b : List (List Int)) (c : List Lt) (w : Wy) : List Lt × Int :=
  ((applyC b c).set w.1.toNat (false, appT b (facR c w), appT b (facR2 c w)), if overT (appT b (facL c w)) (appT b (facR c w)) && maxAt (applyC b c) w.1.toNat then 0 else 5)
def facA (ar : List Int) (c : List Lt) (w : Wy) : List Lt × Int :=
  if facIn c w then
    if unifyOk ar (facL c w) (facL2 c w) then
      if okLits ar (applyC (unifyAns ar (facL c w) (facL2 c w)) c) then facOut (unifyAns ar (facL c w) (facL2 c w)) c w
      else ([], 4)
    else ([], 3)
  else ([], 1)
theorem facA_none {ar : List Int} {c : List Lt} {w : Wy} (h : facIn c w = false) : facA ar c w = ([], 1) := by unfold facA; rw [if_neg (by rw [h]; simp)]
theorem facA_apart {ar : List Int} {c : List Lt} {w : Wy} (h : facIn c w = true) (hu : unifyOk ar (facL c w) (facL2 c w) = false) : facA ar c w = ([], 3) := by unfold facA; rw [if_pos h, if_neg (by rw [hu]; simp)]
theorem facA_big {ar : List Int} {c : List Lt} {w : Wy} (h : facIn c w = true) (hu : unifyOk ar (facL c w) (facL2 c w) = true) (ho : okLits ar (applyC (unifyAns ar (facL c w) (facL2 c w)) c) = false) : facA ar c w = ([], 4) := by
  unfold facA; rw [if_pos h, if_pos hu, if_neg (by rw [ho]; simp)]
theorem facA_yes {ar : List Int} {c : List Lt} {w : Wy} (h : facIn c w = true) (hu : unifyOk ar (facL c w) (facL2 c w) = true) (ho : okLits ar (applyC (unifyAns ar (facL c w) (facL2 c w)) c) = true) : facA ar c w = facOut (unifyAns ar (facL c w) (facL2 c w)) c w := by
  unfold facA; rw [if_pos h, if_pos hu, if_pos ho]
end Go.Proofs.YteegjnobmbcjiaaGreatDoor
end
section
/- Slices of literals that share their terms: their cells, cuts, rows of the call's own. No program. -/
namespace Go.Proofs.YteegjnobmbcjiaaGreatDoor
open Go.RowKit

/-- The cells of literals; their terms lie in blocks below base. -/
def Lies (base : Nat) (w : World) (zs : List LV) (c : List Lt) : Prop :=
  zs.length = c.length ∧ ∀ j z, zs[j]? = some z → z.1 = (c.getD j lt0).1 ∧ SlI 0 base w z.2.1 (c.getD j lt0).2.1 ∧ SlI 0 base w z.2.2 (c.getD j lt0).2.2
theorem Lies.nil (base : Nat) (w : World) : Lies base w [] [] := ⟨rfl, fun j z h => by simp at h⟩
theorem Lies.app {base : Nat} {w : World} {zs ys : List LV} {c d : List Lt} (h : Lies base w zs c) (k : Lies base w ys d) : Lies base w (zs ++ ys) (c ++ d) := by
  refine ⟨by simp [h.1, k.1], fun j z hz => ?_⟩
  by_cases hj : j < zs.length
  · rw [List.getElem?_append_left hj] at hz
    have := h.2 j z hz
    simpa [List.getD, List.getElem?_append_left (show j < c.length by rw [← h.1]; exact hj)] using this
  · rw [List.getElem?_append_right (by omega)] at hz
    have := k.2 _ z hz
    simpa [List.getD, List.getElem?_append_right (show c.length ≤ j by rw [← h.1]; omega), h.1] using this
theorem Lies.same {base : Nat} {w w' : World} {zs : List LV} {c : List Lt} (h : Lies base w zs c) (hs : ∀ b, b < base → b < w.heap.size → w'.heap[b]? = w.heap[b]?) : Lies base w' zs c :=
  ⟨h.1, fun j z hz => by obtain ⟨h1, h2, h3⟩ := h.2 j z hz; exact ⟨h1, h2.same fun b _ hb => hs b hb, h3.same fun b _ hb => hs b hb⟩⟩
theorem Lies.bel {base : Nat} {w w' : World} {zs : List LV} {c : List Lt} (h : Lies base w zs c) (hb : Bel w w') : Lies base w' zs c := h.same fun b _ h2 => hb.block b h2
theorem Lies.mono {base base' : Nat} {w : World} {zs : List LV} {c : List Lt} (h : Lies base w zs c) (hb : base ≤ base') : Lies base' w zs c :=
  ⟨h.1, fun j z hz => by obtain ⟨h1, h2, h3⟩ := h.2 j z hz; exact ⟨h1, h2.mono (Nat.le_refl _) hb, h3.mono (Nat.le_refl _) hb⟩⟩
theorem Lies.one {base : Nat} {w : World} {zs : List LV} {c : List Lt} (h : Lies base w zs c) : ∀ u ∈ cellsC zs, u.oneCell' = true := by
  refine cellsC_one zs fun z hz => ?_
  obtain ⟨j, hj, e⟩ := List.getElem_of_mem hz
  obtain ⟨_, h2, h3⟩ := h.2 j z (by rw [← e]; exact List.getElem?_eq_getElem hj)
  obtain ⟨_, _, e2⟩ := h2.form
  obtain ⟨_, _, e3⟩ := h3.form
  rw [e2, e3]; exact ⟨rfl, rfl⟩
/-- The cells of a slice of literals. -/
theorem SlC.bound {lo hi B : Nat} {w : World} {ad : Option Addr} {n k : Nat} {c : List Lt} (h : SlC lo hi w (.slice ad n k) c) (hh : hi ≤ B) :
    ∃ zs : List LV, Lies B w zs c ∧ ∀ a, ad = some a → ∀ j u, (cellsC zs)[j]? = some u → w.cell? (a.add j) = some u := by
  have hv : ∀ j, j < c.length → ∃ z : LV, z.1 = (c.getD j lt0).1 ∧ SlI 0 B w z.2.1 (c.getD j lt0).2.1 ∧ SlI 0 B w z.2.2 (c.getD j lt0).2.2 ∧ ∀ a, ad = some a → w.cell? (a.add (j * 3)) = some (.bool z.1) ∧ w.cell? (a.add (j * 3 + 1)) = some z.2.1 ∧ w.cell? (a.add (j * 3 + 2)) = some z.2.2 := fun j hj => by
    obtain ⟨b, off, u1, u2, rfl, hb, c1, c2, c3, s1, s2⟩ := h.at (Bel.rfl' w) j hj
    refine ⟨((c.getD j lt0).1, u1, u2), rfl, s1.mono (Nat.zero_le _) hh, s2.mono (Nat.zero_le _) hh, fun a e => ?_⟩
    simp only [Option.some.injEq] at e
    subst e
    rw [addr_add, addr_add, addr_add]
    exact ⟨c1, by rw [← Nat.add_assoc]; exact c2, by rw [← Nat.add_assoc]; exact c3⟩
  obtain ⟨f, hf⟩ := skolem_lt hv
  have hg : ∀ j z, ((List.range c.length).map f)[j]? = some z → j < c.length ∧ z = f j := fun j z hz => by
    have hj : j < c.length := by have := (List.getElem?_eq_some_iff.1 hz).1; simpa using this
    simp [hj] at hz
    exact ⟨hj, hz.symm⟩
  refine ⟨(List.range c.length).map f, ⟨by simp, fun j z hz => ?_⟩, fun a e j u hj => ?_⟩
  · obtain ⟨hj, rfl⟩ := hg j z hz
    obtain ⟨h1, h2, h3, _⟩ := hf j hj
    exact ⟨h1, h2, h3⟩
  · have hlt : j < c.length * 3 := by
      have := (List.getElem?_eq_some_iff.1 hj).1
      rw [cellsC_len] at this; simpa using this
    have hq : j / 3 < c.length := by omega
    obtain ⟨_, _, _, h4⟩ := hf (j / 3) hq
    obtain ⟨k1, k2, k3⟩ := h4 a e
    obtain ⟨m1, m2, m3⟩ := cellsC_get ((List.range c.length).map f) (j / 3) (f (j / 3)) (by simp [hq])
    rcases (show j = j / 3 * 3 ∨ j = j / 3 * 3 + 1 ∨ j = j / 3 * 3 + 2 by omega) with e1 | e1 | e1
    · rw [e1] at hj ⊢; rw [m1] at hj; rw [← hj]; exact k1
    · rw [e1] at hj ⊢; rw [m2] at hj; rw [← hj]; exact k2
    · rw [e1] at hj ⊢; rw [m3] at hj; rw [← hj]; exact k3
/-- A row of the call's own whose terms lie elsewhere. -/
theorem SlC.of_row {w : World} {base B : Nat} {v : Value} {zs : List LV} {c : List Lt} (h : RowC base w v zs) (hl : Lies B w zs c) (hB : B ≤ w.heap.size) : SlC 0 w.heap.size w v c := by
  have h0 := h
  have hzl := hl.1
  obtain ⟨h1, h2⟩ := h
  rcases h2 with ⟨rfl, hn⟩ | ⟨g, cap, cur, rfl, hg, hh, hn, hc, hs, ht⟩
  · obtain rfl : c = [] := List.length_eq_zero_iff.1 (by omega)
    exact SlC.nil _ _ _
  · have hgs : g < w.heap.size := (Array.getElem?_eq_some_iff.1 hh).1
    refine ⟨_, cap, by rw [hzl], by omega, ⟨hc, fun h => by simp at h⟩, fun _ => ⟨g, 0, rfl, Nat.zero_le _, hgs, fun j hj => ?_⟩⟩
    have hz : zs[j]? = some zs[j] := List.getElem?_eq_getElem (by omega)
    obtain ⟨c1, c2, c3⟩ := cellsC_get zs j _ hz
    obtain ⟨e1, s1, s2⟩ := hl.2 j _ hz
    have hcell : ∀ i, i < c.length * 3 → w.cell? ⟨g, 0 + i, none⟩ = (cellsC zs)[i]? := fun i hi => by rw [Nat.zero_add]; exact h0.cellAt i (by omega)
    exact ⟨_, _, by rw [hcell _ (by omega), ← e1]; exact c1, by rw [Nat.add_assoc, hcell _ (by omega)]; exact c2, by rw [Nat.add_assoc, hcell _ (by omega)]; exact c3, s1.mono (Nat.le_refl _) hB, s2.mono (Nat.le_refl _) hB⟩
theorem SlC.in' {lo hi : Nat} {w : World} {v : Value} {c : List Lt} (h : SlC lo hi w v c) : SlC 0 w.heap.size w v c := by
  obtain ⟨ad, cap, rfl, hc, hm, hr⟩ := h
  refine ⟨ad, cap, rfl, hc, hm, fun hp => ?_⟩
  obtain ⟨b, off, e, a1, a2, a3⟩ := hr hp
  obtain ⟨u1, u2, c1, c2, c3, s1, s2⟩ := a3 0 hp
  refine ⟨b, off, e, Nat.zero_le _, World.block_lt_of_cell? _ ⟨_, _, none⟩ c1, fun j hj => ?_⟩
  obtain ⟨u1, u2, c1, c2, c3, s1, s2⟩ := a3 j hj
  exact ⟨u1, u2, c1, c2, c3, s1.in', s2.in'⟩
/-- A cut. -/
theorem SlC.cut {lo hi : Nat} {w : World} {b off n k : Nat} {c : List Lt} (h : SlC lo hi w (.slice (some ⟨b, off, none⟩) n k) c) (i j : Nat) (hij : i ≤ j) (hj : j ≤ c.length) :
    SlC lo hi w (.slice (some ⟨b, off + i * 3, none⟩) (j - i) (k - i)) ((c.drop i).take (j - i)) := by
  obtain ⟨ad, cap, e, hc, hm, hr⟩ := h
  simp only [Value.slice.injEq] at e
  obtain ⟨rfl, rfl, rfl⟩ := e
  have hl : ((c.drop i).take (j - i)).length = j - i := by simp; omega
  refine ⟨_, k - i, by rw [hl], by rw [hl]; omega, ⟨by have := hm.1; omega, fun h => by simp at h⟩, fun hp => ?_⟩
  rw [hl] at hp
  obtain ⟨b', off', e2, a1, a2, a3⟩ := hr (by omega)
  simp only [Option.some.injEq, Addr.mk.injEq, and_true] at e2
  obtain ⟨rfl, rfl⟩ := e2
  refine ⟨b, off + i * 3, rfl, a1, a2, fun q hq => ?_⟩
  rw [hl] at hq
  have e : ((c.drop i).take (j - i)).getD q lt0 = c.getD (i + q) lt0 := by simp [List.getD, hq, List.getElem?_drop]
  rw [e, show off + i * 3 + q * 3 = off + (i + q) * 3 from by omega]
  exact a3 (i + q) (by omega)
theorem SlC.plain {lo hi : Nat} {w : World} {v : Value} {c : List Lt} (h : SlC lo hi w v c) (hp : 0 < c.length) : ∃ b off k, v = .slice (some ⟨b, off, none⟩) c.length k ∧ c.length ≤ k ∧ k ≤ maxLen := by
  obtain ⟨ad, cap, rfl, hc, hm, hr⟩ := h
  obtain ⟨b, off, rfl, _⟩ := hr hp
  exact ⟨b, off, cap, rfl, hc, hm.1⟩
theorem SlC.empty {lo hi : Nat} {w : World} {a : Option Addr} {k : Nat} (hk : k ≤ maxLen) (ha : a = none → k = 0) : SlC lo hi w (.slice a 0 k) [] := ⟨a, k, rfl, Nat.zero_le _, ⟨hk, ha⟩, fun h => absurd h (by simp)⟩
/-- Literals of the call's own or not, in a new slice. -/
def RetSC (w : World) (c : List Lt) (e : Ending) (w' : World) : Prop := ∃ ad n k, e = .returned (.slice ad n k) ∧ SlC 0 w'.heap.size w' (.slice ad n k) c ∧ Bel w w'
theorem lits_take (c : List Lt) (k : Nat) (h : k < c.length) : c.take (k+1) = c.take k ++ [c.getD k lt0] := by rw [List.take_succ_eq_append_getElem h]; simp [List.getD, h]
end Go.Proofs.YteegjnobmbcjiaaGreatDoor
end
section
/- Chapter 6: what is concluded; sides; both programs. -/
namespace Go.Proofs.YteegjnobmbcjiaaGreatDoor
open Go.RowKit

/-- Literals of the call's own, and a code. -/
def RetCN (w : World) (c : List Lt) (n : Int) (e : Ending) (w' : World) : Prop := ∃ ad m k, e = .returned (.tuple #[.slice ad m k, .int .i64 n]) ∧ OwnC w.heap.size w'.heap.size w' (.slice ad m k) c ∧ Bel w w'
/-- Literals, and a code. -/
def RetSN (w : World) (c : List Lt) (n : Int) (e : Ending) (w' : World) : Prop := ∃ ad m k, e = .returned (.tuple #[.slice ad m k, .int .i64 n]) ∧ SlC 0 w'.heap.size w' (.slice ad m k) c ∧ Bel w w'
def RetCNB (w : World) (c : List Lt) (n : Int) (ok : Bool) (e : Ending) (w' : World) : Prop := ∃ ad m k, e = .returned (.tuple #[.slice ad m k, .int .i64 n, .bool ok]) ∧ OwnC w.heap.size w'.heap.size w' (.slice ad m k) c ∧ Bel w w'
theorem good_of {ar : List Int} {c : List Lt} (hg : goodSign ar = true) (h : okLits ar c = true) : goodClause ar c = true := by unfold goodClause; rw [hg, h]; rfl

set_option maxRecDepth 100000 in
set_option maxHeartbeats 400000 in
theorem l6Out_c (l h : Nat) (v : Value) (ar : List Int) (c : List Lt) (w : World) (hg : goodSign ar = true) (hok : okLits ar c = true) (hv : SlC l h w v c) :
    Calls Tryz.prog 72 #[v] w (RetC w (concl c)) := by
  have h1 := good_of hg hok
  have h2 := tidy_good h1
  have HT := Lib.hid (fun (w' : World) (hb : Bel w w') => l4Tidy_c l h v c w' (okLits_short hok) (hv.below hb))
  have HR := Lib.hid (fun (w' : World) (u : Value) (lo hi : Nat) (hu : SlC lo hi w' u (tidyC c)) => l4Rename_c lo hi u (tidyC c) w' (by have := (goodClause_iff.1 h2).2.1; omega) (rows_flat h2) hu)
  unfold concl
  clear hv h1 h2 hok
  generalize renC (tidyC c) = r at *
  generalize tidyC c = t at *
  go_enter Tryz.func72, Tryz.ntmps72
  go_wp2_with fail
  refine (HT.out _ (Bel.rfl' _)).mono ?_; rintro e w1 ⟨a1, n1, c1, rfl, ho1, hb1⟩
  have HRR := Lib.hid (HR.out _ _ _ _ ho1.sl)
  clear HR HT
  go_wp2_with fail
  refine HRR.out.mono ?_; rintro e w2 ⟨a2, n2, c2, rfl, ho2, hb2⟩
  go_wp2_with fail
  go_ret
  exact ⟨_, _, _, rfl, ho2.mono hb1.size (Nat.le_refl _), hb1.step hb2⟩

set_option maxRecDepth 100000 in
set_option maxHeartbeats 400000 in
theorem concluded_c (l h : Nat) (v : Value) (ar : List Int) (c : List Lt) (w : World) (hg : goodSign ar = true) (hok : okLits ar c = true) (hv : SlC l h w v c) :
    Calls Tryz.prog 39 #[v] w (RetC w (concl c)) := by
  have h1 := good_of hg hok
  have h2 := tidy_good h1
  have HT := Lib.hid (fun (w' : World) (hb : Bel w w') => tidied_c l h v c w' (goodClause_iff.1 h1).2.1 (good_keys h1) (hv.below hb))
  have HR := Lib.hid (fun (w' : World) (u : Value) (lo hi : Nat) (hu : SlC lo hi w' u (tidyC c)) => renamedClause_c lo hi u (tidyC c) w' (by have := (goodClause_iff.1 h2).2.1; omega) (rows_flat h2) hu)
  unfold concl
  clear hv h1 h2 hok
  generalize renC (tidyC c) = r at *
  generalize tidyC c = t at *
  go_enter Tryz.func39, Tryz.ntmps39
  go_wp2_with fail
  refine (HT.out _ (Bel.rfl' _)).mono ?_; rintro e w1 ⟨a1, n1, c1, rfl, ho1, hb1⟩
  have HRR := Lib.hid (HR.out _ _ _ _ ho1.sl)
  clear HR HT
  go_wp2_with fail
  refine HRR.out.mono ?_; rintro e w2 ⟨a2, n2, c2, rfl, ho2, hb2⟩
  go_wp2_with fail
  go_ret
  exact ⟨_, _, _, rfl, ho2.mono hb1.size (Nat.le_refl _), hb1.step hb2⟩

theorem litOk_iff {c : List Lt} {i s : Int} : litOk c i s = true ↔ (0 ≤ i ∧ i < c.length) ∧ (s = 0 ∨ s = 1) := by
  unfold litOk inB
  simp only [Bool.and_eq_true, decide_eq_true_eq]
  omega

set_option maxRecDepth 100000 in
set_option maxHeartbeats 400000 in
theorem hasSide_q (l h : Nat) (v : Value) (c : List Lt) (i s : Int) (q : Bool) (w : World) (hq : litOk c i s = q) (hx : c.length ≤ 1048576) (hv : SlC l h w v c) :
    Calls Tryz.prog 139 #[v, .int .i64 i, .int .i64 s] w (fun e w' => e = .returned (.bool q) ∧ w' = w) := by
  obtain ⟨ad, cap, rfl⟩ := hv.form
  have hI := litOk_iff (c := c) (i := i) (s := s)
  rw [hq] at hI
  clear hv hq
  have hI := Lib.hid hI
  have hq : ∀ (b : Bool), (b = true ↔ (0 ≤ i ∧ i < c.length) ∧ (s = 0 ∨ s = 1)) → b = q := fun b hb => by
    have := hI.out
    cases b <;> cases q <;> simp_all
  have hq := Lib.hid hq
  clear hI
  by_cases h0 : i ≥ 0
  · by_cases h1 : i < c.length
    · by_cases h2 : s = 0
      · go_enter Tryz.func139, Tryz.ntmps139
        go_wp2_with fail
        go_ret
        exact ⟨by rw [← hq.out true (by constructor; intro _; exact ⟨⟨h0, h1⟩, .inl h2⟩; intro _; rfl)]; rfl, rfl⟩
      · by_cases h3 : s = 1
        · go_enter Tryz.func139, Tryz.ntmps139
          go_wp2_with fail
          go_ret
          exact ⟨by rw [← hq.out true (by constructor; intro _; exact ⟨⟨h0, h1⟩, .inr h3⟩; intro _; rfl)]; rfl, rfl⟩
        · go_enter Tryz.func139, Tryz.ntmps139
          go_wp2_with fail
          go_ret
          exact ⟨by rw [← hq.out false (by constructor; intro h; cases h; intro h; omega)]; rfl, rfl⟩
    · go_enter Tryz.func139, Tryz.ntmps139
      go_wp2_with fail
      go_ret
      exact ⟨by rw [← hq.out false (by constructor; intro h; cases h; intro h; omega)]; rfl, rfl⟩
  · go_enter Tryz.func139, Tryz.ntmps139
    go_wp2_with fail
    go_ret
    exact ⟨by rw [← hq.out false (by constructor; intro h; cases h; intro h; omega)]; rfl, rfl⟩

/-- The tail of a slice of literals, as Go spells it. -/
theorem SlC.tail {lo hi : Nat} {w : World} {b off n k : Nat} {c : List Lt} (h : SlC lo hi w (.slice (some ⟨b, off, none⟩) n k) c) (q : Nat) (hq : q ≤ c.length) :
    (k = q ∧ SlC lo hi w (.slice (some ⟨b, off, none⟩) 0 0) (c.drop q)) ∨ (q < k ∧ SlC lo hi w (.slice (some ⟨b, off + q * 3, none⟩) (c.length - q) (k - q)) (c.drop q)) := by
  have hk : c.length ≤ k := by obtain ⟨ad, cap, e, hc, _⟩ := h; simp only [Value.slice.injEq] at e; omega
  rcases Nat.lt_or_ge q k with h1 | h1
  · refine .inr ⟨h1, ?_⟩
    have := h.cut q c.length hq (Nat.le_refl _)
    rwa [List.take_of_length_le (by simp)] at this
  · obtain rfl : k = q := by omega
    refine .inl ⟨rfl, ?_⟩
    have : c.drop k = [] := List.drop_eq_nil_of_le (by omega)
    rw [this]
    exact SlC.empty (Nat.zero_le _) (fun _ => rfl)
theorem SlC.head {lo hi : Nat} {w : World} {b off n k : Nat} {c : List Lt} (h : SlC lo hi w (.slice (some ⟨b, off, none⟩) n k) c) (q : Nat) (hq : q ≤ c.length) :
    SlC lo hi w (.slice (some ⟨b, off, none⟩) q k) (c.take q) := by
  have := h.cut 0 q (Nat.zero_le _) hq
  simpa using this
end Go.Proofs.YteegjnobmbcjiaaGreatDoor
end
section
/- Chapter 6, the reference: Resolve. -/
namespace Go.Proofs.YteegjnobmbcjiaaGreatDoor
open Go.RowKit

/-- append of literals to a row of the call's own. -/
theorem step_app_lits {w : World} {ops : Array Oper} {o : Oper} {a : Act} {K : Act → World → Prop} {Q : Exit → Act → World → Prop} {E : Prop} (hgd : o.guard = none) (s x : Operand) (d : Nat) (hd : o.dst = some d)
    (ho : o.op = .call { callee := .builtin .append, args := #[s, x], argTypes := #[30, 30] })
    (base B : Nat) (v : Value) (zs : List LV) (acc c : List Lt) (hs : a.eval s = v) (hown : RowC base w v zs) (hz : Lies B w zs acc) (hB : B ≤ base) (b off n k lo hi : Nat) (hx : a.eval x = .slice (some ⟨b, off, none⟩) n k)
    (hsl : SlC lo hi w (.slice (some ⟨b, off, none⟩) n k) c) (hhi : hi ≤ B) (hl : acc.length + c.length ≤ 1048576) (hbase : base ≤ w.heap.size)
    (h : ∀ ad m q w' ys, RowC base w' (.slice ad m q) (zs ++ ys) → Lies B w' (zs ++ ys) (acc ++ c) → w.grownBy w' v.ownBlock → K (a.put (some d) (.slice ad m q)) w') :
    if Region.wanted o (yielded ops a.tmps) = true then Oper.wp Tryz.prog o a w K Q else E := by
  obtain ⟨i0, hi0, hz0, hz1, hz2⟩ := info_parts Tryz.info53
  have hw : Region.wanted o (yielded ops a.tmps) = true := by simp [Region.wanted, hgd]
  rw [if_pos hw]
  rw [← hd] at h
  obtain ⟨ys, hy, hn⟩ := hsl.bound hhi
  have hyl := hy.1
  have hnl : n = c.length := hsl.len
  have hzl := hz.1
  refine wp_append_own w s x 30 ho base 53 i0 (.agg #[.bool false, .slice none 0 0, .slice none 0 0]) 3 56 Tryz.underlying30 hi0 hz0 hz1 hz2 rfl (by decide) v zs.length (cellsC zs) hs hown
    ⟨b, off, none⟩ n k (cellsC ys) hx (by rw [cellsC_len, hyl, hnl]) (hn _ rfl) hy.one (by unfold maxLen; omega) (by omega) hbase (fun v' w' h1 h2 _ => ?_)
  obtain ⟨ad, m, q, rfl⟩ := own_form h1
  refine h ad m q w' ys ?_ ?_ h2
  · show World.ownsRow _ _ _ _ _ _ _
    rw [cellsC_app, List.length_append, hyl, ← hnl]
    exact h1
  · exact (hz.app hy).same fun b' h3 h4 => h2.block b' h4 fun e => by have := own_base hown b' e.symm; omega
theorem SlC.grown {hi : Nat} {w w' : World} {v vs : Value} {c : List Lt} (h : SlC 0 hi w v c) (hg : w.grownBy w' vs.ownBlock) (hb : ∀ g, vs.ownBlock = some g → hi ≤ g) : SlC 0 hi w' v c :=
  h.same fun b _ h2 h3 => hg.block b h3 fun e => by have := hb b e.symm; omega
theorem row_lit0 (w : World) : RowC w.heap.size (w.alloc (.cells #[] 53)).drew (.slice (some ⟨w.heap.size, 0, none⟩) 0 0) [] :=
  ownsRow_bel (World.ownsRow_lit w #[] 0 (Nat.le_refl _) (Nat.zero_le _) rfl) (Bel.drew0 _)
theorem dropAt_len (c : List Lt) (k : Nat) : (dropAt c k).length ≤ c.length := by unfold dropAt; simp; omega

end Go.Proofs.YteegjnobmbcjiaaGreatDoor
end
section
/- Chapter 4, the program: MaximalIn. -/
namespace Go.Proofs.YteegjnobmbcjiaaGreatDoor
open Go.RowKit

theorem anyF_take {f : Lt → Bool} {c : List Lt} {k : Nat} (hk : k < c.length) (hn : (c.take k).any f = false) : (c.take (k+1)).any f = f (c.getD k lt0) := by
  rw [List.take_add_one, List.any_append, hn, List.getElem?_eq_getElem hk]; simp [List.getD, hk]
theorem anyF_yes {f : Lt → Bool} {c : List Lt} {k : Nat} (hk : k < c.length) (h : f (c.getD k lt0) = true) : c.any f = true := List.any_eq_true.2 ⟨_, mem_getD c lt0 k hk, h⟩
theorem anyF_end {f : Lt → Bool} {c : List Lt} {k : Nat} (hk : ¬ k < c.length) (hn : (c.take k).any f = false) : c.any f = false := by rw [List.take_of_length_le (by omega)] at hn; exact hn
def overF (Y : List (List Int)) (u : Lt) : Bool := decide (cmpL (listL u) Y = 1)
theorem over_max {c : List Lt} {k : Nat} : c.any (overF (listL (c.getD k lt0))) = !maxAt c k := by
  cases h : maxAt c k with
  | true =>
    unfold maxAt at h
    simp only [List.all_eq_true, List.mem_range, Bool.or_eq_true, decide_eq_true_eq, Bool.not_eq_true', decide_eq_false_iff_not] at h
    refine (Bool.eq_false_iff.2 fun h2 => ?_)
    obtain ⟨x, hx, hc⟩ := List.any_eq_true.1 h2
    obtain ⟨i, hi, rfl⟩ := List.getElem_of_mem hx
    have hc : cmpL (listL c[i]) (listL (c.getD k lt0)) = 1 := of_decide_eq_true hc
    rcases h i hi with e | e
    · subst e
      have : c.getD i lt0 = c[i] := by simp [List.getD, hi]
      rw [this] at hc
      exact cmpL_irrefl _ hc
    · have : c.getD i lt0 = c[i] := by simp [List.getD, hi]
      rw [this] at e
      exact e hc
  | false =>
    show _ = true
    cases h2 : c.any (overF (listL (c.getD k lt0))) with
    | true => rfl
    | false =>
      have h3 : maxAt c k = true := by
        unfold maxAt
        simp only [List.all_eq_true, List.mem_range, Bool.or_eq_true, decide_eq_true_eq, Bool.not_eq_true', decide_eq_false_iff_not]
        refine fun i hi => .inr fun h4 => ?_
        have := List.any_eq_false.1 h2 _ (mem_getD c lt0 i hi)
        exact this (decide_eq_true h4)
      rw [h] at h3
      cases h3

set_option maxRecDepth 100000 in
set_option maxHeartbeats 400000 in
theorem overFn_c (l h l' h' g g2 k : Nat) (x : Lt) (c : List Lt) (u1 u2 vc : Value) (q : Bool) (w : World) (he : overF (listL (c.getD k lt0)) x = q) (hT : Tab w) (hsx : short (listL x)) (hlx : lowL (listL x)) (hsy : short (listL (c.getD k lt0))) (hly : lowL (listL (c.getD k lt0))) (hk : k < c.length) (h1 : SlI l h w u1 x.2.1) (h2 : SlI l h w u2 x.2.2) (hv : SlC l' h' w vc c)
    (hc1 : w.cell? ⟨g, 0, none⟩ = some vc) (hc2 : w.cell? ⟨g2, 0, none⟩ = some (.int .i64 k)) :
    Calls Tryz.prog 82 #[.agg #[.bool x.1, u1, u2], .pointer (some ⟨g, 0, none⟩), .pointer (some ⟨g2, 0, none⟩)] w (RetV w (.bool q)) := by
  obtain ⟨ad, cap, rfl⟩ := hv.form
  obtain ⟨b, off, q1, q2, rfl, hbs, d1, d2, d3, t1, t2⟩ := hv.at (Bel.rfl' w) k hk
  have hgl := World.block_lt_of_cell? w ⟨g, 0, none⟩ hc1
  have hgl2 := World.block_lt_of_cell? w ⟨g2, 0, none⟩ hc2
  have hkI : (k : Int) < c.length := by omega
  have HC := Lib.hid (fun (w' : World) (hb : Bel w w') => comparedLits_c _ _ _ _ x (c.getD k lt0) u1 u2 q1 q2 w' (hT.bel hb) hsx hlx hsy hly (h1.below hb) (h2.below hb) (t1.below hb) (t2.below hb))
  have HE := Lib.hid he
  clear he hv hsx hlx hsy hly
  unfold overF at HE
  generalize cmpL (listL x) (listL (c.getD k lt0)) = r at *
  generalize c.getD k lt0 = y at *
  obtain ⟨px, xl, xr⟩ := x
  obtain ⟨py, yl, yr⟩ := y
  simp only at *
  obtain ⟨a1, e1, rfl⟩ := h1.form
  obtain ⟨a2, e2, rfl⟩ := h2.form
  obtain ⟨a3, e3, rfl⟩ := t1.form
  obtain ⟨a4, e4, rfl⟩ := t2.form
  clear h1 h2 t1 t2
  have B0 := (Bel.alloc0 w (.cells #[.bool px, .slice a1 xl.length e1, .slice a2 xr.length e2] 53)).drew
  have f0 : (w.alloc (.cells #[.bool px, .slice a1 xl.length e1, .slice a2 xr.length e2] 53)).drew.cell? ⟨w.heap.size, 0, none⟩ = some (.bool px) := boxc ((Bel.rfl' _).drew) 0 _ rfl
  have f1 : (w.alloc (.cells #[.bool px, .slice a1 xl.length e1, .slice a2 xr.length e2] 53)).drew.cell? ⟨w.heap.size, 1, none⟩ = some (.slice a1 xl.length e1) := boxc ((Bel.rfl' _).drew) 1 _ rfl
  have f2 : (w.alloc (.cells #[.bool px, .slice a1 xl.length e1, .slice a2 xr.length e2] 53)).drew.cell? ⟨w.heap.size, 2, none⟩ = some (.slice a2 xr.length e2) := boxc ((Bel.rfl' _).drew) 2 _ rfl
  have f3 := B0.at hgl hc1
  have f4 := B0.at hgl2 hc2
  have f5 := B0.at hbs d1
  have f6 := B0.at hbs d2
  have f7 := B0.at hbs d3
  have HF := Lib.hid (fun (w' : World) (hb : Bel (w.alloc (.cells #[.bool px, .slice a1 xl.length e1, .slice a2 xr.length e2] 53)).drew w') => (⟨hb.at (World.block_lt_of_cell? _ ⟨_, _, none⟩ f0) f0, hb.at (World.block_lt_of_cell? _ ⟨_, _, none⟩ f1) f1, hb.at (World.block_lt_of_cell? _ ⟨_, _, none⟩ f2) f2, hb.at (World.block_lt_of_cell? _ ⟨_, _, none⟩ f3) f3, hb.at (World.block_lt_of_cell? _ ⟨_, _, none⟩ f4) f4, hb.at (World.block_lt_of_cell? _ ⟨_, _, none⟩ f5) f5, hb.at (World.block_lt_of_cell? _ ⟨_, _, none⟩ f6) f6, hb.at (World.block_lt_of_cell? _ ⟨_, _, none⟩ f7) f7⟩ : (w'.cell? ⟨w.heap.size, 0, none⟩ = some (.bool px) ∧ w'.cell? ⟨w.heap.size, 1, none⟩ = some (.slice a1 xl.length e1) ∧ w'.cell? ⟨w.heap.size, 2, none⟩ = some (.slice a2 xr.length e2) ∧ w'.cell? ⟨g, 0, none⟩ = some (.slice (some ⟨b, off, none⟩) c.length cap) ∧ w'.cell? ⟨g2, 0, none⟩ = some (.int .i64 k) ∧ w'.cell? ⟨b, off + k * 3, none⟩ = some (.bool py) ∧ w'.cell? ⟨b, off + k * 3 + 1, none⟩ = some (.slice a3 yl.length e3) ∧ w'.cell? ⟨b, off + k * 3 + 2, none⟩ = some (.slice a4 yr.length e4))))
  clear d1 d2 d3 hc1 hc2 f0 f1 f2 f3 f4 f5 f6 f7
  go_enter Tryz.func82, Tryz.ntmps82
  go_wp2_with fail
  go_region_held3 (fun w' => w'.cell? ⟨w.heap.size, 0, none⟩ = some (.bool px) ∧ w'.cell? ⟨w.heap.size, 1, none⟩ = some (.slice a1 xl.length e1) ∧ w'.cell? ⟨w.heap.size, 2, none⟩ = some (.slice a2 xr.length e2) ∧ w'.cell? ⟨g, 0, none⟩ = some (.slice (some ⟨b, off, none⟩) c.length cap) ∧ w'.cell? ⟨g2, 0, none⟩ = some (.int .i64 k) ∧ w'.cell? ⟨b, off + k * 3, none⟩ = some (.bool py) ∧ w'.cell? ⟨b, off + k * 3 + 1, none⟩ = some (.slice a3 yl.length e3) ∧ w'.cell? ⟨b, off + k * 3 + 2, none⟩ = some (.slice a4 yr.length e4))
    (first | exact HF.out _ (Bel.rfl' _) | exact HF.out _ hb1 | fail)
    (first | (go_at_call 47; refine (HC.out _ B0).mono ?_; rintro e w1 ⟨rfl, hb1⟩) | fail)
  all_goals
    go_wp2_with fail
    go_ret
    exact ⟨by rw [← HE.out]; simp [Bool.beq_eq_decide_eq], B0.step hb1⟩

set_option maxRecDepth 100000 in
set_option maxHeartbeats 400000 in
theorem indexLit_c (l h l' h' g g2 n : Nat) (v vc : Value) (c d : List Lt) (w : World) (hT : Tab w) (hx : shortC c) (hok : lowC c) (hn : n < d.length) (hsy : short (listL (d.getD n lt0))) (hly : lowL (listL (d.getD n lt0))) (hd : SlC l' h' w vc d)
    (hc1 : w.cell? ⟨g, 0, none⟩ = some vc) (hc2 : w.cell? ⟨g2, 0, none⟩ = some (.int .i64 n)) (hv : SlC l h w v c) :
    Calls Tryz.prog 123 #[v, .func (.func 82) #[] #[.pointer (some ⟨g, 0, none⟩), .pointer (some ⟨g2, 0, none⟩)]] w (RetIx w (c.any (overF (listL (d.getD n lt0))))) := by
  have eg : ∀ args w, (callFunc 82 args).run Tryz.prog w = .ok (.enter 82 args) w := enters_of Tryz.func82 (by kernel_rfl) rfl
  obtain ⟨ad, cap, rfl⟩ := hv.form
  obtain ⟨hcl, hcm⟩ := hx
  have hgl := World.block_lt_of_cell? w ⟨g, 0, none⟩ hc1
  have hgl2 := World.block_lt_of_cell? w ⟨g2, 0, none⟩ hc2
  have HDF := Lib.hid (fun (wr : World) (k : Nat) (u1 u2 : Value) (q : Bool) (hb : Bel w wr) (hk : k < c.length) (he : overF (listL (d.getD n lt0)) (c.getD k lt0) = q) (s1 : SlI l h wr u1 (c.getD k lt0).2.1) (s2 : SlI l h wr u2 (c.getD k lt0).2.2) => overFn_c _ _ _ _ g g2 n (c.getD k lt0) d u1 u2 vc q wr he (hT.bel hb) (hok k hk).1 (hok k hk).2 hsy hly hn s1 s2 (hd.below hb) (hb.at hgl hc1) (hb.at hgl2 hc2))
  clear hsy hly hn hd hc1 hc2 hok hT
  generalize overF (listL (d.getD n lt0)) = G at *
  go_enter Tryz.func123, Tryz.ntmps123
  go_wp2_with fail
  go_loopw [8] (fun i wr => ∃ k : Nat, k ≤ c.length ∧ i = .int .i64 k ∧ (c.take k).any G = false ∧ Bel w wr) (fun i _ => c.length - (intOf i).toNat)
  case atStart => exact ⟨0, Nat.zero_le _, rfl, rfl, Bel.rfl' _⟩
  case round =>
    obtain ⟨k, hk, rfl, hnn, hb⟩ := hrel
    by_cases hkl : k < c.length
    · obtain ⟨bb, off, u1, u2, rfl, hbs, c1, c2, c3, s1, s2⟩ := hv.at hb k hkl
      have HD := fun (q : Bool) (he : G (c.getD k lt0) = q) => HDF.out wr k u1 u2 q hb hkl he s1 s2
      have HN := Lib.hid (And.intro (anyF_take hkl hnn) (fun h => anyF_yes (f := G) hkl h))
      clear hnn hv hcm HDF
      generalize c.getD k lt0 = x at *
      obtain ⟨p, xl, xr⟩ := x
      simp only at *
      obtain ⟨a1, e1, rfl⟩ := s1.form
      obtain ⟨a2, e2, rfl⟩ := s2.form
      clear s1 s2
      cases hab : G (p, xl, xr) with
      | true =>
        have HDD := Lib.hid (HD _ hab)
        have E := Lib.hid (HN.out.2 hab)
        clear HN hab HD
        go_wp2_with (go_at_fn 82; refine HDD.out.mono ?_; rintro e w2 ⟨rfl, hb2⟩)
        go_ret
        exact ⟨_, rfl, by rw [E.out]; simp, hb.step hb2⟩
      | false =>
        have HDD := Lib.hid (HD _ hab)
        have E := Lib.hid (HN.out.1.trans hab)
        clear HN hab HD
        go_wp2_with (go_at_fn 82; refine HDD.out.mono ?_; rintro e w2 ⟨rfl, hb2⟩)
        go_roundw
        case rel => exact ⟨k+1, by omega, by go_num, E.out, hb.step hb2⟩
        case measure => simp [intOf]; omega
    · have E := Lib.hid (anyF_end hkl hnn)
      clear hnn
      go_wp2_with fail
      go_ret
      exact ⟨_, rfl, by rw [E.out]; rfl, hb⟩
theorem containsLit_c (l h l' h' g g2 n : Nat) (v vc : Value) (c d : List Lt) (q : Bool) (w : World) (he : c.any (overF (listL (d.getD n lt0))) = q) (hT : Tab w) (hx : shortC c) (hok : lowC c) (hn : n < d.length) (hsy : short (listL (d.getD n lt0))) (hly : lowL (listL (d.getD n lt0))) (hd : SlC l' h' w vc d)
    (hc1 : w.cell? ⟨g, 0, none⟩ = some vc) (hc2 : w.cell? ⟨g2, 0, none⟩ = some (.int .i64 n)) (hv : SlC l h w v c) :
    Calls Tryz.prog 83 #[v, .func (.func 82) #[] #[.pointer (some ⟨g, 0, none⟩), .pointer (some ⟨g2, 0, none⟩)]] w (RetV w (.bool q)) := by
  have HI := Lib.hid (indexLit_c l h l' h' g g2 n v vc c d w hT hx hok hn hsy hly hd hc1 hc2 hv)
  rw [he] at HI
  obtain ⟨ad, cap, rfl⟩ := hv.form
  clear he
  go_enter Tryz.func83, Tryz.ntmps83
  go_wp2_with fail
  refine HI.out.mono ?_; rintro e w1 ⟨x, rfl, hx, hb1⟩
  go_wp2_with fail
  go_ret
  subst hx
  exact ⟨rfl, hb1⟩

set_option maxRecDepth 100000 in
set_option maxHeartbeats 400000 in
theorem isMaximal_c (l h : Nat) (v : Value) (c : List Lt) (n : Nat) (w : World) (hT : Tab w) (hx : shortC c) (hok : lowC c) (hn : n < c.length) (hu : SlC l h w v c) :
    Calls Tryz.prog 45 #[v, .int .i64 n] w (RetV w (.bool (maxAt c n))) := by
  have hmf : ∀ (fn : Fn) (first cap : Array Value) (w : World), (Instr.makeFunc fn first cap).run Tryz.prog w = .ok (.func fn first cap) w := fun _ _ _ _ => rfl
  obtain ⟨ad, cap, rfl⟩ := hu.form
  obtain ⟨k1, k2⟩ := hok n hn
  have HC := Lib.hid (fun (w' : World) (hb' : Bel w w') (g1 : w'.cell? ⟨w.heap.size, 0, none⟩ = some (.slice ad c.length cap)) (g2 : w'.cell? ⟨w.heap.size + 1, 0, none⟩ = some (.int .i64 n)) => containsLit_c _ _ _ _ w.heap.size (w.heap.size + 1) n (.slice ad c.length cap) (.slice ad c.length cap) c c (!maxAt c n) w' over_max (hT.bel hb') hx hok hn k1 k2 (hu.below hb') g1 g2 (hu.below hb'))
  have hs := Bel.alloc2 w (.cells #[.slice ad c.length cap] 30) (.cells #[.int .i64 n] 3)
  have g1 : ((w.alloc (.cells #[.slice ad c.length cap] 30)).alloc (.cells #[.int .i64 n] 3)).cell? ⟨w.heap.size, 0, none⟩ = some (.slice ad c.length cap) := boxc (Bel.alloc0 _ _) 0 _ rfl
  have g2 : ((w.alloc (.cells #[.slice ad c.length cap] 30)).alloc (.cells #[.int .i64 n] 3)).cell? ⟨w.heap.size + 1, 0, none⟩ = some (.int .i64 n) := by
    have := boxc (Bel.rfl' ((w.alloc (.cells #[.slice ad c.length cap] 30)).alloc (.cells #[.int .i64 n] 3))) 0 _ rfl
    rw [World.size_alloc] at this
    exact this
  have HCC := Lib.hid (HC.out _ hs g1 g2)
  clear HC hu hx hok k1 k2
  generalize maxAt c n = q at *
  go_enter Tryz.func45, Tryz.ntmps45
  go_wp2_with fail
  refine HCC.out.mono ?_; rintro e w1 ⟨rfl, hb1⟩
  go_wp2_with fail
  go_ret
  exact ⟨by simp, hs.step hb1⟩
theorem isMaximal_v (l h : Nat) (v : Value) (c : List Lt) (n : Nat) (q : Bool) (w : World) (hq : maxAt c n = q) (hT : Tab w) (hx : shortC c) (hok : lowC c) (hn : n < c.length) (hu : SlC l h w v c) :
    Calls Tryz.prog 45 #[v, .int .i64 n] w (RetV w (.bool q)) := by subst hq; exact isMaximal_c l h v c n w hT hx hok hn hu
end Go.Proofs.YteegjnobmbcjiaaGreatDoor
end
section
/- Chapter 6: sides, literals that lead; both programs. -/
namespace Go.Proofs.YteegjnobmbcjiaaGreatDoor
open Go.RowKit

/-- The two words of a literal's sides, the given one first. -/
def SideV (s : Int) (u1 u2 : Value) (z1 z2 : SV) : Prop := (s = 0 ∧ u1 = encS z1 ∧ u2 = encS z2) ∨ (s = 1 ∧ u2 = encS z1 ∧ u1 = encS z2)
theorem sides_x {l h : Nat} {w : World} {x : Lt} {u1 u2 : Value} {s : Int} (hs : s = 0 ∨ s = 1) (h1 : SlI l h w u1 x.2.1) (h2 : SlI l h w u2 x.2.2) :
    ∃ z1 z2 : SV, SideV s u1 u2 z1 z2 ∧ SlI l h w (encS z1) (sideL x s) ∧ SlI l h w (encS z2) (sideR x s) := by
  obtain ⟨a1, c1, e1⟩ := h1.form
  obtain ⟨a2, c2, e2⟩ := h2.form
  rcases hs with rfl | rfl
  · refine ⟨(a1, _, c1), (a2, _, c2), .inl ⟨rfl, e1, e2⟩, ?_, ?_⟩
    · show SlI l h w (.slice a1 _ c1) _; rw [← e1]; exact h1
    · show SlI l h w (.slice a2 _ c2) _; rw [← e2]; exact h2
  · refine ⟨(a2, _, c2), (a1, _, c1), .inr ⟨rfl, e2, e1⟩, ?_, ?_⟩
    · show SlI l h w (.slice a2 _ c2) _; rw [← e2]; exact h2
    · show SlI l h w (.slice a1 _ c1) _; rw [← e1]; exact h1

set_option maxRecDepth 100000 in
set_option maxHeartbeats 400000 in
theorem turned_c (p : Bool) (u1 u2 : Value) (z1 z2 : SV) (s : Int) (w : World) (h : SideV s u1 u2 z1 z2) :
    Calls Tryz.prog 77 #[.agg #[.bool p, u1, u2], .int .i64 s] w (RetV w (.agg #[.bool p, encS z1, encS z2])) := by
  obtain ⟨a1, n1, c1⟩ := z1
  obtain ⟨a2, n2, c2⟩ := z2
  rcases h with ⟨rfl, rfl, rfl⟩ | ⟨rfl, rfl, rfl⟩ <;> simp only [encS]
  · go_enter Tryz.func77, Tryz.ntmps77
    go_wp2_with fail
    refine bodyPost_ret (v := .agg #[.bool p, .slice a1 n1 c1, .slice a2 n2 c2]) (by simp [results, Tryz.results77, go_sem]) rfl ⟨rfl, Bel.alloc2 _ _ _⟩
  · go_enter Tryz.func77, Tryz.ntmps77
    go_wp2_with fail
    refine bodyPost_ret (v := .agg #[.bool p, .slice a1 n1 c1, .slice a2 n2 c2]) (by simp [results, Tryz.results77, go_sem]) rfl ⟨rfl, Bel.alloc2 _ _ _⟩

set_option maxRecDepth 100000 in
set_option maxHeartbeats 400000 in
theorem l6Sides_c (p : Bool) (u1 u2 : Value) (z1 z2 : SV) (s : Int) (w : World) (h : SideV s u1 u2 z1 z2) :
    Calls Tryz.prog 67 #[.agg #[.bool p, u1, u2], .int .i64 s] w (RetV w (.tuple #[encS z1, encS z2])) := by
  obtain ⟨a1, n1, c1⟩ := z1
  obtain ⟨a2, n2, c2⟩ := z2
  rcases h with ⟨rfl, rfl, rfl⟩ | ⟨rfl, rfl, rfl⟩ <;> simp only [encS]
  · go_enter Tryz.func67, Tryz.ntmps67
    go_wp2_with fail
    have f1 : (w.alloc (.cells #[.bool p, .slice a1 n1 c1, .slice a2 n2 c2] 53)).drew.cell? ⟨w.heap.size, 1, none⟩ = some (.slice a1 n1 c1) := boxc ((Bel.rfl' _).drew) 1 _ rfl
    have f2 : (w.alloc (.cells #[.bool p, .slice a1 n1 c1, .slice a2 n2 c2] 53)).drew.cell? ⟨w.heap.size, 2, none⟩ = some (.slice a2 n2 c2) := boxc ((Bel.rfl' _).drew) 2 _ rfl
    go_region_held3 (fun w' => w'.cell? ⟨w.heap.size, 1, none⟩ = some (.slice a1 n1 c1) ∧ w'.cell? ⟨w.heap.size, 2, none⟩ = some (.slice a2 n2 c2)) (first | exact ⟨f1, f2⟩ | fail) (fail)
    all_goals
      go_wp2_with fail
      go_ret2
      exact ⟨rfl, (Bel.alloc0 _ _).drew⟩
  · go_enter Tryz.func67, Tryz.ntmps67
    go_wp2_with fail
    have f1 : (w.alloc (.cells #[.bool p, .slice a2 n2 c2, .slice a1 n1 c1] 53)).drew.cell? ⟨w.heap.size, 1, none⟩ = some (.slice a2 n2 c2) := boxc ((Bel.rfl' _).drew) 1 _ rfl
    have f2 : (w.alloc (.cells #[.bool p, .slice a2 n2 c2, .slice a1 n1 c1] 53)).drew.cell? ⟨w.heap.size, 2, none⟩ = some (.slice a1 n1 c1) := boxc ((Bel.rfl' _).drew) 2 _ rfl
    go_region_held3 (fun w' => w'.cell? ⟨w.heap.size, 1, none⟩ = some (.slice a2 n2 c2) ∧ w'.cell? ⟨w.heap.size, 2, none⟩ = some (.slice a1 n1 c1)) (first | exact ⟨f1, f2⟩ | fail) (fail)
    all_goals
      go_wp2_with fail
      go_ret2
      exact ⟨rfl, (Bel.alloc0 _ _).drew⟩

theorem cmpT_four (a b : List Int) : cmpT a b = 0 ∨ cmpT a b = 1 ∨ cmpT a b = -1 ∨ cmpT a b = 2 := by
  unfold cmpT
  split
  · exact .inl rfl
  · split
    · exact .inr (.inl rfl)
    · split
      · exact .inr (.inr (.inl rfl))
      · exact .inr (.inr (.inr rfl))

set_option maxRecDepth 100000 in
set_option maxHeartbeats 400000 in
theorem l6Over_v (l h l' h' : Nat) (v u : Value) (a b : List Int) (q : Bool) (w : World) (hq : overT a b = q) (ha : a.length ≤ 1048576) (hb : b.length ≤ 1048576) (hla : lowT a) (hlb : lowT b) (hv : SlI l h w v a) (hu : SlI l' h' w u b) :
    Calls Tryz.prog 71 #[v, u] w (RetV w (.bool q)) := by
  have HC := Lib.hid (l3Compare_c l h l' h' v u a b w ha hb hla hlb hv hu)
  obtain ⟨a1, c1, rfl⟩ := hv.form
  obtain ⟨a2, c2, rfl⟩ := hu.form
  have h4 := cmpT_four a b
  unfold overT at hq
  clear hv hu hla hlb
  generalize cmpT a b = n at *
  rcases h4 with rfl | rfl | rfl | rfl
  all_goals
    simp at hq
    subst hq
    go_enter Tryz.func71, Tryz.ntmps71
    go_wp2_with fail
    refine HC.out.mono ?_; rintro e w1 ⟨rfl, hb1⟩
    go_wp2_with fail
    go_ret
    exact ⟨rfl, hb1⟩

set_option maxRecDepth 100000 in
set_option maxHeartbeats 400000 in
theorem l6Lit_q (l h : Nat) (v : Value) (c : List Lt) (i s : Int) (q : Bool) (w : World) (hq : litOk c i s = q) (hx : c.length ≤ 1048576) (hv : SlC l h w v c) :
    Calls Tryz.prog 66 #[v, .int .i64 i, .int .i64 s] w (fun e w' => e = .returned (.bool q) ∧ w' = w) := by
  obtain ⟨ad, cap, rfl⟩ := hv.form
  unfold litOk at hq
  clear hv
  cases h1 : inB i 0 ((c.length : Int) - 1) with
  | false =>
    rw [h1, Bool.false_and] at hq
    have H1 := Lib.hid h1
    clear h1
    subst hq
    go_enter Tryz.func66, Tryz.ntmps66
    go_wp2_with fail
    refine (l1In_qv _ _ _ false H1.out _).mono ?_; rintro e w1 ⟨rfl, rfl⟩
    go_wp2_with fail
    go_ret
    exact ⟨rfl, rfl⟩
  | true =>
    rw [h1, Bool.true_and] at hq
    have H1 := Lib.hid h1
    have HQ := Lib.hid hq
    clear h1 hq
    go_enter Tryz.func66, Tryz.ntmps66
    go_wp2_with fail
    refine (l1In_qv _ _ _ true H1.out _).mono ?_; rintro e w1 ⟨rfl, rfl⟩
    go_wp2_with fail
    refine (l1In_qv _ _ _ q HQ.out _).mono ?_; rintro e w1 ⟨rfl, rfl⟩
    go_wp2_with fail
    go_ret
    exact ⟨rfl, rfl⟩

set_option maxRecDepth 100000 in
set_option maxHeartbeats 400000 in
theorem hasEquation_q (l h : Nat) (v : Value) (c : List Lt) (i s : Int) (q : Bool) (w : World) (hq : (litOk c i s && (c.getD i.toNat lt0).1) = q) (hx : c.length ≤ 1048576) (hv : SlC l h w v c) :
    Calls Tryz.prog 110 #[v, .int .i64 i, .int .i64 s] w (fun e w' => e = .returned (.bool q) ∧ w' = w) := by
  cases h1 : litOk c i s with
  | false =>
    have HS := Lib.hid (hasSide_q l h v c i s false w h1 hx hv)
    obtain ⟨ad, cap, rfl⟩ := hv.form
    rw [h1, Bool.false_and] at hq
    subst hq
    clear h1 hv
    go_enter Tryz.func110, Tryz.ntmps110
    go_wp2_with fail
    refine HS.out.mono ?_; rintro e w1 ⟨rfl, rfl⟩
    go_wp2_with fail
    go_ret
    exact ⟨rfl, rfl⟩
  | true =>
    have HS := Lib.hid (hasSide_q l h v c i s true w h1 hx hv)
    obtain ⟨ad, cap, rfl⟩ := hv.form
    rw [h1, Bool.true_and] at hq
    obtain ⟨⟨h0, hi⟩, -⟩ := litOk_iff.1 h1
    obtain ⟨k, rfl⟩ : ∃ k : Nat, i = (k : Int) := ⟨i.toNat, by omega⟩
    rw [Int.toNat_natCast] at hq
    obtain ⟨b, off, u1, u2, rfl, hbs, c1, c2, c3, s1, s2⟩ := hv.at (Bel.rfl' w) k (by omega)
    rw [hq] at c1
    clear h1 hv hq s1 s2 c2 c3
    go_enter Tryz.func110, Tryz.ntmps110
    go_wp2_with fail
    refine HS.out.mono ?_; rintro e w1 ⟨rfl, rfl⟩
    go_wp2_with fail
    go_ret
    exact ⟨rfl, rfl⟩

set_option maxRecDepth 100000 in
set_option maxHeartbeats 1000000 in
theorem leads_v (l h : Nat) (v : Value) (c : List Lt) (k : Nat) (s : Int) (q : Bool) (w : World) (hq : (overT (sideL (c.getD k lt0) s) (sideR (c.getD k lt0) s) && maxAt c k) = q) (hs : s = 0 ∨ s = 1) (hT : Tab w) (hx : shortC c) (hok : lowC c) (hl1 : ∀ j, j < c.length → lowT (c.getD j lt0).2.1 ∧ lowT (c.getD j lt0).2.2) (hk : k < c.length) (hv : SlC l h w v c) :
    Calls Tryz.prog 79 #[v, .int .i64 k, .int .i64 s] w (RetV w (.bool q)) := by
  have HM := Lib.hid (fun (w' : World) (hb : Bel w w') => isMaximal_c l h v c k w' (hT.bel hb) hx hok hk (hv.below hb))
  obtain ⟨ad, cap, rfl⟩ := hv.form
  have hkI : (k : Int) < c.length := by omega
  obtain ⟨b, off, u1, u2, rfl, hbs, c1, c2, c3, s1, s2⟩ := hv.at (Bel.rfl' w) k hk
  obtain ⟨z1, z2, hz, t1, t2⟩ := sides_x (s := s) hs s1 s2
  obtain ⟨lo1, lo2⟩ := hl1 k hk
  obtain ⟨ln1, ln2⟩ := hx.2 k hk
  have hlL : lowT (sideL (c.getD k lt0) s) ∧ lowT (sideR (c.getD k lt0) s) ∧ (sideL (c.getD k lt0) s).length ≤ 1048576 ∧ (sideR (c.getD k lt0) s).length ≤ 1048576 := by
    unfold sideL sideR
    rcases hs with rfl | rfl
    · exact ⟨lo1, lo2, ln1, ln2⟩
    · exact ⟨lo2, lo1, ln2, ln1⟩
  have HC := Lib.hid (fun (w' : World) (hb : Bel w w') => compared_c l h l h (encS z1) (encS z2) (sideL (c.getD k lt0) s) (sideR (c.getD k lt0) s) w' (hT.bel hb) hlL.2.2.1 hlL.2.2.2 hlL.1 hlL.2.1 (t1.below hb) (t2.below hb))
  have HTU := Lib.hid (fun (w' : World) => turned_c (c.getD k lt0).1 u1 u2 z1 z2 s w' hz)
  have h4 := cmpT_four (sideL (c.getD k lt0) s) (sideR (c.getD k lt0) s)
  unfold overT at hq
  clear hv hx hok hl1 hlL lo1 lo2 ln1 ln2 t1 t2
  generalize cmpT (sideL (c.getD k lt0) s) (sideR (c.getD k lt0) s) = n at *
  generalize maxAt c k = m at *
  generalize c.getD k lt0 = x at *
  obtain ⟨px, xl, xr⟩ := x
  simp only at *
  obtain ⟨a1, e1, f1⟩ := s1.form
  obtain ⟨a2, e2, f2⟩ := s2.form
  clear s1 s2
  obtain ⟨b1, m1, d1⟩ := z1
  obtain ⟨b2, m2, d2⟩ := z2
  simp only [encS] at *
  have HZ := Lib.hid hz
  clear hz
  subst f1 f2
  rcases h4 with rfl | rfl | rfl | rfl
  all_goals
    simp at hq
    have HQ := Lib.hid hq
    clear hq
    go_enter Tryz.func79, Tryz.ntmps79
    go_wp2_with fail
    refine (HTU.out _).mono ?_; rintro e w1 ⟨rfl, hb1⟩
    have HB1 := hb1.alloc (.cells #[.bool px, .slice b1 m1 d1, .slice b2 m2 d2] 53)
    go_wp2_with fail
    refine (HC.out _ HB1).mono ?_; rintro e w2 ⟨rfl, hb2⟩
    have HB2 := HB1.step hb2
    go_wp2_with fail
    try (refine (HM.out _ HB2).mono ?_; rintro e w3 ⟨rfl, hb3⟩; have HB3 := HB2.step hb3; go_wp2_with fail)
    go_ret
    first
      | exact ⟨by rw [HQ.out]; rfl, HB3⟩
      | exact ⟨by rw [← HQ.out]; rfl, HB2⟩
end Go.Proofs.YteegjnobmbcjiaaGreatDoor
end
section
/- Chapter 6, the reference: Factor. -/
namespace Go.Proofs.YteegjnobmbcjiaaGreatDoor
open Go.RowKit

/-- A store into a cell that holds no number keeps a slice of ints. -/
theorem SlI.setOther {lo hi : Nat} {w : World} {v : Value} {xs : List Int} (h : SlI lo hi w v xs) {p : Addr} {x : Value} (hp : w.cell? p = some x) (hx : ∀ n, x ≠ .int .i64 n) (u : Value) : SlI lo hi (w.setCell p u) v xs := by
  obtain ⟨ad, cap, rfl, hc, hm, hr⟩ := h
  refine ⟨ad, cap, rfl, hc, hm, fun hpos => ?_⟩
  obtain ⟨b, off, e, a1, a2, a3⟩ := hr hpos
  refine ⟨b, off, e, a1, a2, fun j hj => ?_⟩
  have hne : p ≠ ⟨b, off + j, none⟩ := fun h => by
    have := a3 j hj
    rw [← h, hp] at this
    exact hx _ (Option.some.inj this)
  rw [World.cell?_setCell_other (h := hne)]
  exact a3 j hj
theorem SlI.set3 {lo hi : Nat} {w : World} {v : Value} {xs : List Int} (h : SlI lo hi w v xs) {b o : Nat} {p q : Bool} {u1 u2 z1 z2 : Value} (h0 : w.cell? ⟨b, o, none⟩ = some (.bool p)) (h1 : w.cell? ⟨b, o + 1, none⟩ = some u1) (h2 : w.cell? ⟨b, o + 2, none⟩ = some u2)
    (n1 : ∀ n, u1 ≠ .int .i64 n) (n2 : ∀ n, u2 ≠ .int .i64 n) : SlI lo hi (((w.setCell ⟨b, o, none⟩ (.bool q)).setCell ⟨b, o + 1, none⟩ z1).setCell ⟨b, o + 2, none⟩ z2) v xs := by
  have d1 : (⟨b, o, none⟩ : Addr) ≠ ⟨b, o + 1, none⟩ := by intro h; simp at h
  have d2 : (⟨b, o, none⟩ : Addr) ≠ ⟨b, o + 2, none⟩ := by intro h; simp at h
  have d3 : (⟨b, o + 1, none⟩ : Addr) ≠ ⟨b, o + 2, none⟩ := by intro h; simp at h
  have s1 := h.setOther h0 (fun n => by simp) (.bool q)
  have s2 := s1.setOther (p := ⟨b, o + 1, none⟩) (x := u1) (by rw [World.cell?_setCell_other (h := d1)]; exact h1) n1 z1
  exact s2.setOther (p := ⟨b, o + 2, none⟩) (x := u2) (by rw [World.cell?_setCell_other (h := d3), World.cell?_setCell_other (h := d2)]; exact h2) n2 z2
/-- A literal stored. -/
theorem SlC.set3 {lo hi : Nat} {w : World} {b off n k : Nat} {c : List Lt} (h : SlC lo hi w (.slice (some ⟨b, off, none⟩) n k) c) (j : Nat) (hj : j < c.length) (q : Bool) (z1 z2 : Value) (t1 t2 : List Int) (g1 : SlI lo hi w z1 t1) (g2 : SlI lo hi w z2 t2) :
    SlC lo hi (((w.setCell ⟨b, off + j * 3, none⟩ (.bool q)).setCell ⟨b, off + j * 3 + 1, none⟩ z1).setCell ⟨b, off + j * 3 + 2, none⟩ z2) (.slice (some ⟨b, off, none⟩) n k) (c.set j (q, t1, t2)) := by
  obtain ⟨ad, cap, e, hc, hm, hr⟩ := h
  simp only [Value.slice.injEq] at e
  obtain ⟨rfl, rfl, rfl⟩ := e
  obtain ⟨b', off', e2, a1, a2, a3⟩ := hr (by omega)
  simp only [Option.some.injEq, Addr.mk.injEq, and_true] at e2
  obtain ⟨rfl, rfl⟩ := e2
  obtain ⟨u1, u2, c1, c2, c3, s1, s2⟩ := a3 j hj
  have n1 : ∀ n, u1 ≠ .int .i64 n := fun n h => by obtain ⟨_, _, e⟩ := s1.form; rw [e] at h; cases h
  have n2 : ∀ n, u2 ≠ .int .i64 n := fun n h => by obtain ⟨_, _, e⟩ := s2.form; rw [e] at h; cases h
  have K : ∀ {v : Value} {xs : List Int}, SlI lo hi w v xs → SlI lo hi (((w.setCell ⟨b, off + j * 3, none⟩ (.bool q)).setCell ⟨b, off + j * 3 + 1, none⟩ z1).setCell ⟨b, off + j * 3 + 2, none⟩ z2) v xs := fun h => h.set3 c1 c2 c3 n1 n2
  refine ⟨_, k, by rw [List.length_set], by rw [List.length_set]; exact hc, hm, fun _ => ⟨b, off, rfl, a1, a2, fun i hi => ?_⟩⟩
  rw [List.length_set] at hi
  have d1 : (⟨b, off + j * 3, none⟩ : Addr) ≠ ⟨b, off + j * 3 + 1, none⟩ := by intro h; simp at h
  have d2 : (⟨b, off + j * 3, none⟩ : Addr) ≠ ⟨b, off + j * 3 + 2, none⟩ := by intro h; simp at h
  have d3 : (⟨b, off + j * 3 + 1, none⟩ : Addr) ≠ ⟨b, off + j * 3 + 2, none⟩ := by intro h; simp at h
  by_cases hij : i = j
  · subst hij
    have eg : (c.set i (q, t1, t2)).getD i lt0 = (q, t1, t2) := by simp [List.getD, hj]
    rw [eg]
    refine ⟨z1, z2, ?_, ?_, ?_, K g1, K g2⟩
    · rw [World.cell?_setCell_other (h := d2.symm), World.cell?_setCell_other (h := d1.symm)]
      exact World.cell?_setCell_same (h := c1) ..
    · rw [World.cell?_setCell_other (h := d3.symm)]
      exact World.cell?_setCell_same (h := (by rw [World.cell?_setCell_other (h := d1)]; exact c2)) ..
    · exact World.cell?_setCell_same (h := (by rw [World.cell?_setCell_other (h := d3), World.cell?_setCell_other (h := d2)]; exact c3)) ..
  · have eg : (c.set j (q, t1, t2)).getD i lt0 = c.getD i lt0 := by simp [List.getD, List.getElem?_set_ne (Ne.symm hij)]
    rw [eg]
    obtain ⟨y1, y2, e1, e2, e3, k1, k2⟩ := a3 i hi
    have far : ∀ x y, x < 3 → y < 3 → (⟨b, off + j * 3 + x, none⟩ : Addr) ≠ ⟨b, off + i * 3 + y, none⟩ := fun x y hx hy h => by
      simp only [Addr.mk.injEq, and_true, true_and] at h
      omega
    have cell : ∀ y (hy : y < 3) x, w.cell? ⟨b, off + i * 3 + y, none⟩ = some x → (((w.setCell ⟨b, off + j * 3, none⟩ (.bool q)).setCell ⟨b, off + j * 3 + 1, none⟩ z1).setCell ⟨b, off + j * 3 + 2, none⟩ z2).cell? ⟨b, off + i * 3 + y, none⟩ = some x := fun y hy x hx => by
      rw [World.cell?_setCell_other (h := far 2 y (by omega) hy), World.cell?_setCell_other (h := far 1 y (by omega) hy), World.cell?_setCell_other (h := (by have := far 0 y (by omega) hy; rwa [Nat.add_zero] at this))]
      exact hx
    exact ⟨y1, y2, cell 0 (by omega) _ e1, cell 1 (by omega) _ e2, cell 2 (by omega) _ e3, K k1, K k2⟩
theorem OwnC.froz {lo hi : Nat} {w : World} {b off n k : Nat} {c : List Lt} (h : OwnC lo hi w (.slice (some ⟨b, off, none⟩) n k) c) (hp : 0 < c.length) : lo ≤ b ∧ b < hi ∧ ∀ i, w.frozen? ⟨b, i, none⟩ = false := by
  obtain ⟨ad, cap, e, hc, hm, hr⟩ := h
  simp only [Value.slice.injEq] at e
  obtain ⟨rfl, rfl, rfl⟩ := e
  obtain ⟨b', off', zs, bs, e2, a1, a2, _, _, hf, _⟩ := hr hp
  simp only [Option.some.injEq, Addr.mk.injEq, and_true] at e2
  obtain ⟨rfl, rfl⟩ := e2
  exact ⟨a1, a2, hf⟩
theorem facOut_ok {ar : List Int} {b : List (List Int)} {c : List Lt} {w : Wy} (hc : okLits ar (applyC b c) = true) (h1 : w.1.toNat < c.length) (h2 : w.2.2.1.toNat < c.length) : okLits ar (facOut b c w).1 = true := by
  obtain ⟨h8, hok⟩ := okLits_iff.1 hc
  have hget : ∀ k, k < c.length → okTerm ar (appT b (c.getD k lt0).2.1) = true ∧ okTerm ar (appT b (c.getD k lt0).2.2) = true := fun k hk => by
    have := okLits_get hok k (by simpa [applyC] using hk)
    have e : (applyC b c).getD k lt0 = ((c.getD k lt0).1, appT b (c.getD k lt0).2.1, appT b (c.getD k lt0).2.2) := by simp [applyC, List.getD, hk]
    rw [e] at this
    exact this
  refine okLits_iff.2 ⟨by unfold facOut; simpa using h8, fun x hx => ?_⟩
  rcases List.mem_or_eq_of_mem_set hx with h | rfl
  · exact hok x h
  · refine okLit_iff.2 ⟨?_, ?_⟩
    · show okTerm ar (appT b (facR c w)) = true
      unfold facR sideR
      split
      · exact (hget _ h1).2
      · exact (hget _ h1).1
    · show okTerm ar (appT b (facR2 c w)) = true
      unfold facR2 sideR
      split
      · exact (hget _ h2).2
      · exact (hget _ h2).1
theorem facIn_get {c : List Lt} {w : Wy} (h : facIn c w = true) : w.1.toNat < c.length ∧ w.2.2.1.toNat < c.length := by
  unfold facIn at h
  simp only [Bool.and_eq_true] at h
  have h1 := litOk_iff.1 h.1.1.1
  have h2 := litOk_iff.1 h.1.1.2
  omega
theorem facA_ok (ar : List Int) (c : List Lt) (w : Wy) : okLits ar (facA ar c w).1 = true := by
  unfold facA
  split
  · rename_i h
    split
    · split
      · rename_i h2; exact facOut_ok h2 (facIn_get h).1 (facIn_get h).2
      · rfl
    · rfl
  · rfl
def facAns (ar : List Int) (c : List Lt) (w : Wy) : List Lt := if goodClause ar c then concl (facA ar c w).1 else []
def facNo (ar : List Int) (c : List Lt) (w : Wy) : Int := if goodClause ar c then (facA ar c w).2 else 0
theorem facAns_len (ar : List Int) (c : List Lt) (w : Wy) : sumC (facAns ar c w) ≤ 1048576 := by
  unfold facAns
  split
  · rename_i h
    exact concl_len (goodClause_iff.1 h).1 (facA_ok ar c w)
  · simp [sumC]
theorem app_side {ar : List Int} {b : List (List Int)} {c : List Lt} (hc : okLits ar (applyC b c) = true) {k : Nat} (hk : k < c.length) (s : Int) : okTerm ar (appT b (sideL (c.getD k lt0) s)) = true ∧ okTerm ar (appT b (sideR (c.getD k lt0) s)) = true := by
  have := okLits_get (okLits_iff.1 hc).2 k (by simpa [applyC] using hk)
  have e : (applyC b c).getD k lt0 = ((c.getD k lt0).1, appT b (c.getD k lt0).2.1, appT b (c.getD k lt0).2.2) := by simp [applyC, List.getD, hk]
  rw [e] at this
  unfold sideL sideR
  split
  · exact this
  · exact ⟨this.2, this.1⟩
theorem lowT_ok {ar t : List Int} (h : okTerm ar t = true) : t.length ≤ 1024 ∧ ∀ k, k < t.length → -12 ≤ t.getD k 0 := ⟨by have := (okTerm_len h).2; omega, low_memC fun _ hn => ok_low h hn⟩

set_option maxRecDepth 100000 in
set_option maxHeartbeats 1500000 in
theorem l6Factor_c (l h l' h' : Nat) (v u : Value) (ar : List Int) (c : List Lt) (wy : Wy) (w : World) (hg : goodSign ar = true) (hc : okLits ar c = true) (hv : SlI l h w v ar) (hu : SlC l' h' w u c) :
    Calls Tryz.prog 34 #[.agg #[v], u, .agg #[.int .i64 wy.1, .int .i64 wy.2.1, .int .i64 wy.2.2.1, .int .i64 wy.2.2.2.1, .int .i64 wy.2.2.2.2]] w (RetCN w (concl (facA ar c wy).1) (facA ar c wy).2) := by
  obtain ⟨wi, ws, wj, wo, wa⟩ := wy
  dsimp only
  obtain ⟨h8, hokx⟩ := okLits_iff.1 hc
  obtain ⟨ad, cap, rfl⟩ := hu.form
  have B2 : Bel w ((w.alloc (.cells #[v] 33)).alloc (.cells #[.int .i64 wi, .int .i64 ws, .int .i64 wj, .int .i64 wo, .int .i64 wa] 36)) := Bel.alloc2 _ _ _
  cases h1 : litOk c wi ws with
  | false =>
    rw [facA_none (by unfold facIn; dsimp only; rw [h1]; rfl)]
    have HL1 := Lib.hid (l6Lit_q l' h' _ c wi ws false ((w.alloc (.cells #[v] 33)).alloc (.cells #[.int .i64 wi, .int .i64 ws, .int .i64 wj, .int .i64 wo, .int .i64 wa] 36)) h1 (by omega) (hu.below B2))
    clear h1 hu hv hokx
    go_enter Tryz.func34, Tryz.ntmps34
    go_wp2_with fail
    refine HL1.out.mono ?_; rintro e w1 ⟨rfl, rfl⟩
    go_wp2_with fail
    go_ret2
    exact ⟨_, _, _, rfl, OwnC.nil _ _ _, B2⟩
  | true =>
    have HL1 := Lib.hid (l6Lit_q l' h' _ c wi ws true ((w.alloc (.cells #[v] 33)).alloc (.cells #[.int .i64 wi, .int .i64 ws, .int .i64 wj, .int .i64 wo, .int .i64 wa] 36)) h1 (by omega) (hu.below B2))
    cases h2 : litOk c wj wo with
    | false =>
      rw [facA_none (by unfold facIn; dsimp only; rw [h1, h2]; rfl)]
      have HL2 := Lib.hid (l6Lit_q l' h' _ c wj wo false ((w.alloc (.cells #[v] 33)).alloc (.cells #[.int .i64 wi, .int .i64 ws, .int .i64 wj, .int .i64 wo, .int .i64 wa] 36)) h2 (by omega) (hu.below B2))
      clear h1 h2 hu hv hokx
      go_enter Tryz.func34, Tryz.ntmps34
      go_wp2_with fail
      refine HL1.out.mono ?_; rintro e w1 ⟨rfl, rfl⟩
      go_wp2_with fail
      refine HL2.out.mono ?_; rintro e w1 ⟨rfl, rfl⟩
      go_wp2_with fail
      go_ret2
      exact ⟨_, _, _, rfl, OwnC.nil _ _ _, B2⟩
    | true =>
      have HL2 := Lib.hid (l6Lit_q l' h' _ c wj wo true ((w.alloc (.cells #[v] 33)).alloc (.cells #[.int .i64 wi, .int .i64 ws, .int .i64 wj, .int .i64 wo, .int .i64 wa] 36)) h2 (by omega) (hu.below B2))
      by_cases hij : wi = wj
      · rw [facA_none (by unfold facIn; dsimp only; rw [h1, h2, decide_eq_true hij]; rfl)]
        clear h1 h2 hu hv hokx
        subst hij
        go_enter Tryz.func34, Tryz.ntmps34
        go_wp2_with fail
        refine HL1.out.mono ?_; rintro e w1 ⟨rfl, rfl⟩
        go_wp2_with fail
        refine HL2.out.mono ?_; rintro e w1 ⟨rfl, rfl⟩
        go_wp2_with fail
        go_ret2
        exact ⟨_, _, _, rfl, OwnC.nil _ _ _, B2⟩
      · by_cases hwa : ¬ wa = 0
        · rw [facA_none (by unfold facIn; dsimp only; rw [h1, h2, decide_eq_false hij, decide_eq_false hwa]; rfl)]
          clear h1 h2 hu hv hokx
          go_enter Tryz.func34, Tryz.ntmps34
          go_wp2_with fail
          refine HL1.out.mono ?_; rintro e w1 ⟨rfl, rfl⟩
          go_wp2_with fail
          refine HL2.out.mono ?_; rintro e w1 ⟨rfl, rfl⟩
          go_wp2_with fail
          go_ret2
          exact ⟨_, _, _, rfl, OwnC.nil _ _ _, B2⟩
        · have hwa := Classical.not_not.1 hwa
          subst hwa
          obtain ⟨⟨i0, i1⟩, hs1⟩ := litOk_iff.1 h1
          obtain ⟨⟨j0, j1⟩, hs2⟩ := litOk_iff.1 h2
          obtain ⟨k1, rfl⟩ : ∃ k : Nat, wi = (k : Int) := ⟨wi.toNat, by omega⟩
          obtain ⟨k2, rfl⟩ : ∃ k : Nat, wj = (k : Int) := ⟨wj.toNat, by omega⟩
          have hk1 : k1 < c.length := by omega
          have hk2 : k2 < c.length := by omega
          obtain ⟨b, off, u1, u2, rfl, hbs, c1, c2, c3, s1, s2⟩ := hu.at (Bel.rfl' w) k1 hk1
          obtain ⟨b', off', q1, q2, eb, hbs', d1, d2, d3, r1, r2⟩ := hu.at (Bel.rfl' w) k2 hk2
          cases eb
          have C1 := B2.at hbs c1
          have D1 := B2.at hbs d1
          cases hp1 : (c.getD k1 lt0).1 with
          | false =>
            rw [facA_none (by unfold facIn; dsimp only; rw [h1, h2, decide_eq_false hij, decide_eq_true rfl, Int.toNat_natCast, hp1]; rfl)]
            rw [hp1] at C1
            clear h1 h2 hu hv hokx s1 s2 r1 r2 c1 c2 c3 d1 d2 d3 D1 hp1
            go_enter Tryz.func34, Tryz.ntmps34
            go_wp2_with fail
            refine HL1.out.mono ?_; rintro e w1 ⟨rfl, rfl⟩
            go_wp2_with fail
            refine HL2.out.mono ?_; rintro e w1 ⟨rfl, rfl⟩
            go_wp2_with fail
            go_ret2
            exact ⟨_, _, _, rfl, OwnC.nil _ _ _, B2⟩
          | true =>
            cases hp2 : (c.getD k2 lt0).1 with
            | false =>
              rw [facA_none (by unfold facIn; dsimp only; rw [h1, h2, decide_eq_false hij, decide_eq_true rfl, Int.toNat_natCast, Int.toNat_natCast, hp1, hp2]; rfl)]
              rw [hp1] at C1
              rw [hp2] at D1
              clear h1 h2 hu hv hokx s1 s2 r1 r2 c1 c2 c3 d1 d2 d3 hp1 hp2
              go_enter Tryz.func34, Tryz.ntmps34
              go_wp2_with fail
              refine HL1.out.mono ?_; rintro e w1 ⟨rfl, rfl⟩
              go_wp2_with fail
              refine HL2.out.mono ?_; rintro e w1 ⟨rfl, rfl⟩
              go_wp2_with fail
              go_ret2
              exact ⟨_, _, _, rfl, OwnC.nil _ _ _, B2⟩
            | true =>
              have hin : facIn c ((k1 : Int), ws, (k2 : Int), wo, 0) = true := by unfold facIn; dsimp only; rw [h1, h2, decide_eq_false hij, decide_eq_true rfl, Int.toNat_natCast, Int.toNat_natCast, hp1, hp2]; rfl
              rw [hp1] at C1
              rw [hp2] at D1
              obtain ⟨z1, z2, hz, t1, t2⟩ := sides_x hs1 s1 s2
              obtain ⟨y1, y2, hy, t3, t4⟩ := sides_x hs2 r1 r2
              have ox1 := (okLits_get hokx k1 hk1)
              have ox2 := (okLits_get hokx k2 hk2)
              have eL : facL c ((k1 : Int), ws, (k2 : Int), wo, 0) = sideL (c.getD k1 lt0) ws := by unfold facL; dsimp only; rw [Int.toNat_natCast]
              have eR : facR c ((k1 : Int), ws, (k2 : Int), wo, 0) = sideR (c.getD k1 lt0) ws := by unfold facR; dsimp only; rw [Int.toNat_natCast]
              have eL2 : facL2 c ((k1 : Int), ws, (k2 : Int), wo, 0) = sideL (c.getD k2 lt0) wo := by unfold facL2; dsimp only; rw [Int.toNat_natCast]
              have eR2 : facR2 c ((k1 : Int), ws, (k2 : Int), wo, 0) = sideR (c.getD k2 lt0) wo := by unfold facR2; dsimp only; rw [Int.toNat_natCast]
              rw [← eL] at t1
              rw [← eR] at t2
              rw [← eL2] at t3
              rw [← eR2] at t4
              have ol1 : okTerm ar (facL c ((k1 : Int), ws, (k2 : Int), wo, 0)) = true := by rw [eL]; exact sideL_ok (okLit_iff.2 ox1) ws
              have or1 : okTerm ar (facR c ((k1 : Int), ws, (k2 : Int), wo, 0)) = true := by rw [eR]; exact sideR_ok (okLit_iff.2 ox1) ws
              have ol2 : okTerm ar (facL2 c ((k1 : Int), ws, (k2 : Int), wo, 0)) = true := by rw [eL2]; exact sideL_ok (okLit_iff.2 ox2) wo
              have or2 : okTerm ar (facR2 c ((k1 : Int), ws, (k2 : Int), wo, 0)) = true := by rw [eR2]; exact sideR_ok (okLit_iff.2 ox2) wo
              clear eL eR eL2 eR2 ox1 ox2 h1 h2 i0 j0
              obtain ⟨ea, eo⟩ := uni_ans (uniOk0_of hg ol1 ol2)
              have HU := Lib.hid (fun (w' : World) (hb : Bel w w') => (by
                have := l2Unify_c _ _ _ _ _ _ v (encS z1) (encS y1) ar _ _ w' hg ol1 ol2 (hv.below hb) (t1.below hb) (t3.below hb)
                rw [← ea, ← eo] at this
                exact this : Calls Tryz.prog 68 #[.agg #[v], encS z1, encS y1] w' (RetSSB w' (unifyAns ar (facL c ((k1 : Int), ws, (k2 : Int), wo, 0)) (facL2 c ((k1 : Int), ws, (k2 : Int), wo, 0))) (unifyOk ar (facL c ((k1 : Int), ws, (k2 : Int), wo, 0)) (facL2 c ((k1 : Int), ws, (k2 : Int), wo, 0))))))
              clear ea eo
              have HF := Lib.hid (fun (w' : World) (hb : Bel ((w.alloc (.cells #[v] 33)).alloc (.cells #[.int .i64 k1, .int .i64 ws, .int .i64 k2, .int .i64 wo, .int .i64 0] 36)) w') => (⟨boxc hb.of_alloc 0 _ rfl, hb.at (by simp) (by simp [go_sem]), hb.at (by simp) (by simp [go_sem]), hb.at (by simp) (by simp [go_sem]), hb.at (by simp) (by simp [go_sem]), hb.at (by simp; omega) (B2.at hbs c1), hb.at (by simp; omega) (B2.at hbs c2), hb.at (by simp; omega) (B2.at hbs c3), hb.at (by simp; omega) (B2.at hbs d1), hb.at (by simp; omega) (B2.at hbs d2), hb.at (by simp; omega) (B2.at hbs d3)⟩ : (w'.cell? ⟨w.heap.size, 0, none⟩ = some v ∧ w'.cell? ⟨w.heap.size + 1, 0, none⟩ = some (.int .i64 k1) ∧ w'.cell? ⟨w.heap.size + 1, 1, none⟩ = some (.int .i64 ws) ∧ w'.cell? ⟨w.heap.size + 1, 2, none⟩ = some (.int .i64 k2) ∧ w'.cell? ⟨w.heap.size + 1, 3, none⟩ = some (.int .i64 wo) ∧ w'.cell? ⟨b, off + k1 * 3, none⟩ = some (.bool (c.getD k1 lt0).1) ∧ w'.cell? ⟨b, off + k1 * 3 + 1, none⟩ = some u1 ∧ w'.cell? ⟨b, off + k1 * 3 + 2, none⟩ = some u2 ∧ w'.cell? ⟨b, off + k2 * 3, none⟩ = some (.bool (c.getD k2 lt0).1) ∧ w'.cell? ⟨b, off + k2 * 3 + 1, none⟩ = some q1 ∧ w'.cell? ⟨b, off + k2 * 3 + 2, none⟩ = some q2)))
              have HS1 := Lib.hid (fun (w' : World) => l6Sides_c (c.getD k1 lt0).1 u1 u2 z1 z2 ws w' hz)
              have HS2 := Lib.hid (fun (w' : World) => l6Sides_c (c.getD k2 lt0).1 q1 q2 y1 y2 wo w' hy)
              have HP := Lib.hid (And.intro hp1 hp2)
              clear hz hy c1 c2 c3 d1 d2 d3 hp1 hp2
              cases hun : unifyOk ar (facL c ((k1 : Int), ws, (k2 : Int), wo, 0)) (facL2 c ((k1 : Int), ws, (k2 : Int), wo, 0)) with
              | false =>
                rw [facA_apart hin hun]
                rw [hun] at HU
                have HUU := HU
                clear hin hu hv hokx hun HU
                obtain ⟨a1, e1, f1⟩ := s1.form
                obtain ⟨a2, e2, f2⟩ := s2.form
                obtain ⟨a3, e3, f3⟩ := r1.form
                obtain ⟨a4, e4, f4⟩ := r2.form
                rw [HP.out.1, HP.out.2] at HF
                rw [HP.out.1] at HS1
                rw [HP.out.2] at HS2
                clear s1 s2 r1 r2 t1 t2 t3 t4 HP
                obtain ⟨zb1, zm1, zd1⟩ := z1
                obtain ⟨zb2, zm2, zd2⟩ := z2
                obtain ⟨yb1, ym1, yd1⟩ := y1
                obtain ⟨yb2, ym2, yd2⟩ := y2
                simp only [encS] at *
                subst f1 f2 f3 f4
                generalize (c.getD k1 lt0).2.1.length = N1 at *
                generalize (c.getD k1 lt0).2.2.length = N2 at *
                generalize (c.getD k2 lt0).2.1.length = N3 at *
                generalize (c.getD k2 lt0).2.2.length = N4 at *
                go_enter Tryz.func34, Tryz.ntmps34
                go_wp2_with fail
                refine HL1.out.mono ?_; rintro e w1 ⟨rfl, rfl⟩
                go_wp2_with fail
                refine HL2.out.mono ?_; rintro e w1 ⟨rfl, rfl⟩
                go_wp2_with fail
                have BD0 := Bel.drew0 ((w.alloc (.cells #[v] 33)).alloc (.cells #[.int .i64 k1, .int .i64 ws, .int .i64 k2, .int .i64 wo, .int .i64 0] 36))
                obtain ⟨m0, m1, m2, m3, m4, m5, m6, m7, m8, m9, m10⟩ := HF.out _ BD0
                go_region_held3 (fun w' => w'.cell? ⟨w.heap.size + 1, 0, none⟩ = some (.int .i64 k1) ∧ w'.cell? ⟨w.heap.size + 1, 1, none⟩ = some (.int .i64 ws) ∧ w'.cell? ⟨b, off + k1 * 3, none⟩ = some (.bool true) ∧ w'.cell? ⟨b, off + k1 * 3 + 1, none⟩ = some (.slice a1 N1 e1) ∧ w'.cell? ⟨b, off + k1 * 3 + 2, none⟩ = some (.slice a2 N2 e2))
                  (first | exact ⟨m1, m2, m5, m6, m7⟩ | exact (fun h : _ ∧ _ ∧ _ ∧ _ ∧ _ ∧ _ ∧ _ ∧ _ ∧ _ ∧ _ ∧ _ => ⟨h.2.1, h.2.2.1, h.2.2.2.2.2.1, h.2.2.2.2.2.2.1, h.2.2.2.2.2.2.2.1⟩) (HF.out _ (BD0.step hb1)) | fail)
                  (first | (go_at_call 67; refine (HS1.out _).mono ?_; rintro e w1 ⟨rfl, hb1⟩) | fail)
                clear m0 m1 m2 m3 m4 m5 m6 m7 m8 m9 m10
                have BE0 := (BD0.step hb1).drew
                obtain ⟨m0, m1, m2, m3, m4, m5, m6, m7, m8, m9, m10⟩ := HF.out _ BE0
                go_wp2_with fail
                go_region_held3 (fun w' => w'.cell? ⟨w.heap.size + 1, 2, none⟩ = some (.int .i64 k2) ∧ w'.cell? ⟨w.heap.size + 1, 3, none⟩ = some (.int .i64 wo) ∧ w'.cell? ⟨b, off + k2 * 3, none⟩ = some (.bool true) ∧ w'.cell? ⟨b, off + k2 * 3 + 1, none⟩ = some (.slice a3 N3 e3) ∧ w'.cell? ⟨b, off + k2 * 3 + 2, none⟩ = some (.slice a4 N4 e4))
                  (first | exact ⟨m3, m4, m8, m9, m10⟩ | exact (fun h : _ ∧ _ ∧ _ ∧ _ ∧ _ ∧ _ ∧ _ ∧ _ ∧ _ ∧ _ ∧ _ => ⟨h.2.2.2.1, h.2.2.2.2.1, h.2.2.2.2.2.2.2.2.1, h.2.2.2.2.2.2.2.2.2.1, h.2.2.2.2.2.2.2.2.2.2⟩) (HF.out _ (BE0.step hb2)) | fail)
                  (first | (go_at_call 67; refine (HS2.out _).mono ?_; rintro e w2 ⟨rfl, hb2⟩) | fail)
                have BE1 := BE0.step hb2
                have m00 := (HF.out _ BE1).1
                have BW2 := B2.step BE1
                clear m0 m1 m2 m3 m4 m5 m6 m7 m8 m9 m10
                go_wp2_with fail
                refine (HUU.out _ BW2).mono ?_; rintro e w3 ⟨ua, un, uc, rfl, ho3, hb3⟩
                have BE3 := BE1.step hb3
                have BW3 := BW2.step hb3
                go_wp2_with fail
                go_ret2
                exact ⟨_, _, _, rfl, OwnC.nil _ _ _, BW3⟩
              | true =>
                have hsub := unify_subst hun
                obtain ⟨hl12, h40⟩ := unify_seat hun
                have hfr := flat_rows hc
                have hsa := applyC_short h40 hc
                have HA := Lib.hid (fun (w' : World) (y : Value) (lo hi : Nat) (hb : Bel w w') (hy : SlS lo hi w' y (unifyAns ar (facL c ((k1 : Int), ws, (k2 : Int), wo, 0)) (facL2 c ((k1 : Int), ws, (k2 : Int), wo, 0)))) => l4Apply_c l' h' lo hi _ y _ c w' hl12 h40 (by omega) hfr hy (hu.below hb))
                have HCL := Lib.hid (fun (w' : World) (y : Value) (lo hi : Nat) (q : Bool) (hb : Bel w w') (he : okLits ar (applyC (unifyAns ar (facL c ((k1 : Int), ws, (k2 : Int), wo, 0)) (facL2 c ((k1 : Int), ws, (k2 : Int), wo, 0))) c) = q) (hy : SlC lo hi w' y (applyC (unifyAns ar (facL c ((k1 : Int), ws, (k2 : Int), wo, 0)) (facL2 c ((k1 : Int), ws, (k2 : Int), wo, 0))) c)) => l4Clause_v l h lo hi v y ar _ q w' he hg hsa (hv.below hb) hy)
                have hlen : (applyC (unifyAns ar (facL c ((k1 : Int), ws, (k2 : Int), wo, 0)) (facL2 c ((k1 : Int), ws, (k2 : Int), wo, 0))) c).length = c.length := by simp [applyC]
                have HAP := Lib.hid (fun (w' : World) (y z : Value) (lo hi l2 h2 : Nat) (t : List Int) (ok : okTerm ar t = true) (hy : SlS lo hi w' y (unifyAns ar (facL c ((k1 : Int), ws, (k2 : Int), wo, 0)) (facL2 c ((k1 : Int), ws, (k2 : Int), wo, 0)))) (hz : SlI l2 h2 w' z t) => l2Apply_c l2 h2 lo hi z y _ t w' hl12 h40 (lowT_ok ok).1 (lowT_ok ok).2 hy hz)
                have HZ1 := Lib.hid (fun (w' : World) (hb : Bel w w') => t1.below hb)
                have HZ2 := Lib.hid (fun (w' : World) (hb : Bel w w') => t2.below hb)
                have HZ4 := Lib.hid (fun (w' : World) (hb : Bel w w') => t4.below hb)
                rw [hun] at HU
                have HUU := HU
                clear HU
                cases hbig : okLits ar (applyC (unifyAns ar (facL c ((k1 : Int), ws, (k2 : Int), wo, 0)) (facL2 c ((k1 : Int), ws, (k2 : Int), wo, 0))) c) with
                | false =>
                  rw [facA_big hin hun hbig]
                  have HB := Lib.hid hbig
                  clear hin hu hv hokx hun hsub hl12 h40 hfr hsa hlen hbig
                  generalize applyC (unifyAns ar (facL c ((k1 : Int), ws, (k2 : Int), wo, 0)) (facL2 c ((k1 : Int), ws, (k2 : Int), wo, 0))) c = cb at *
                  generalize (unifyAns ar (facL c ((k1 : Int), ws, (k2 : Int), wo, 0)) (facL2 c ((k1 : Int), ws, (k2 : Int), wo, 0))) = U at *
                  obtain ⟨a1, e1, f1⟩ := s1.form
                  obtain ⟨a2, e2, f2⟩ := s2.form
                  obtain ⟨a3, e3, f3⟩ := r1.form
                  obtain ⟨a4, e4, f4⟩ := r2.form
                  rw [HP.out.1, HP.out.2] at HF
                  rw [HP.out.1] at HS1
                  rw [HP.out.2] at HS2
                  clear s1 s2 r1 r2 t1 t2 t3 t4 HP
                  obtain ⟨zb1, zm1, zd1⟩ := z1
                  obtain ⟨zb2, zm2, zd2⟩ := z2
                  obtain ⟨yb1, ym1, yd1⟩ := y1
                  obtain ⟨yb2, ym2, yd2⟩ := y2
                  simp only [encS] at *
                  subst f1 f2 f3 f4
                  generalize (c.getD k1 lt0).2.1.length = N1 at *
                  generalize (c.getD k1 lt0).2.2.length = N2 at *
                  generalize (c.getD k2 lt0).2.1.length = N3 at *
                  generalize (c.getD k2 lt0).2.2.length = N4 at *
                  go_enter Tryz.func34, Tryz.ntmps34
                  go_wp2_with fail
                  refine HL1.out.mono ?_; rintro e w1 ⟨rfl, rfl⟩
                  go_wp2_with fail
                  refine HL2.out.mono ?_; rintro e w1 ⟨rfl, rfl⟩
                  go_wp2_with fail
                  have BD0 := Bel.drew0 ((w.alloc (.cells #[v] 33)).alloc (.cells #[.int .i64 k1, .int .i64 ws, .int .i64 k2, .int .i64 wo, .int .i64 0] 36))
                  obtain ⟨m0, m1, m2, m3, m4, m5, m6, m7, m8, m9, m10⟩ := HF.out _ BD0
                  go_region_held3 (fun w' => w'.cell? ⟨w.heap.size + 1, 0, none⟩ = some (.int .i64 k1) ∧ w'.cell? ⟨w.heap.size + 1, 1, none⟩ = some (.int .i64 ws) ∧ w'.cell? ⟨b, off + k1 * 3, none⟩ = some (.bool true) ∧ w'.cell? ⟨b, off + k1 * 3 + 1, none⟩ = some (.slice a1 N1 e1) ∧ w'.cell? ⟨b, off + k1 * 3 + 2, none⟩ = some (.slice a2 N2 e2))
                    (first | exact ⟨m1, m2, m5, m6, m7⟩ | exact (fun h : _ ∧ _ ∧ _ ∧ _ ∧ _ ∧ _ ∧ _ ∧ _ ∧ _ ∧ _ ∧ _ => ⟨h.2.1, h.2.2.1, h.2.2.2.2.2.1, h.2.2.2.2.2.2.1, h.2.2.2.2.2.2.2.1⟩) (HF.out _ (BD0.step hb1)) | fail)
                    (first | (go_at_call 67; refine (HS1.out _).mono ?_; rintro e w1 ⟨rfl, hb1⟩) | fail)
                  clear m0 m1 m2 m3 m4 m5 m6 m7 m8 m9 m10
                  have BE0 := (BD0.step hb1).drew
                  obtain ⟨m0, m1, m2, m3, m4, m5, m6, m7, m8, m9, m10⟩ := HF.out _ BE0
                  go_wp2_with fail
                  go_region_held3 (fun w' => w'.cell? ⟨w.heap.size + 1, 2, none⟩ = some (.int .i64 k2) ∧ w'.cell? ⟨w.heap.size + 1, 3, none⟩ = some (.int .i64 wo) ∧ w'.cell? ⟨b, off + k2 * 3, none⟩ = some (.bool true) ∧ w'.cell? ⟨b, off + k2 * 3 + 1, none⟩ = some (.slice a3 N3 e3) ∧ w'.cell? ⟨b, off + k2 * 3 + 2, none⟩ = some (.slice a4 N4 e4))
                    (first | exact ⟨m3, m4, m8, m9, m10⟩ | exact (fun h : _ ∧ _ ∧ _ ∧ _ ∧ _ ∧ _ ∧ _ ∧ _ ∧ _ ∧ _ ∧ _ => ⟨h.2.2.2.1, h.2.2.2.2.1, h.2.2.2.2.2.2.2.2.1, h.2.2.2.2.2.2.2.2.2.1, h.2.2.2.2.2.2.2.2.2.2⟩) (HF.out _ (BE0.step hb2)) | fail)
                    (first | (go_at_call 67; refine (HS2.out _).mono ?_; rintro e w2 ⟨rfl, hb2⟩) | fail)
                  have BE1 := BE0.step hb2
                  have m00 := (HF.out _ BE1).1
                  have BW2 := B2.step BE1
                  clear m0 m1 m2 m3 m4 m5 m6 m7 m8 m9 m10
                  go_wp2_with fail
                  refine (HUU.out _ BW2).mono ?_; rintro e w3 ⟨ua, un, uc, rfl, ho3, hb3⟩
                  have BE3 := BE1.step hb3
                  have BW3 := BW2.step hb3
                  have HAA := Lib.hid (HA.out _ _ _ _ BW3 ho3.sl)
                  clear HA
                  go_wp2_with fail
                  refine HAA.out.mono ?_; rintro e w4 ⟨a5, n5, e5, rfl, ho4, hb4⟩
                  have BW4 := BW3.step hb4
                  have m01 := (HF.out _ (BE3.step hb4)).1
                  have HCC := Lib.hid (HCL.out _ _ _ _ false BW4 HB.out ho4.sl)
                  clear HCL
                  go_wp2_with fail
                  refine HCC.out.mono ?_; rintro e w5 ⟨rfl, hb5⟩
                  go_wp2_with fail
                  go_ret2
                  exact ⟨_, _, _, rfl, OwnC.nil _ _ _, BW4.step hb5⟩
                | true =>
                  rw [facA_yes hin hun hbig]
                  have hfo := facOut_ok (w := ((k1 : Int), ws, (k2 : Int), wo, 0)) hbig (by dsimp only; rw [Int.toNat_natCast]; exact hk1) (by dsimp only; rw [Int.toNat_natCast]; exact hk2)
                  have HO := Lib.hid (fun (w' : World) (y : Value) (lo hi : Nat) (hy : SlC lo hi w' y (facOut (unifyAns ar (facL c ((k1 : Int), ws, (k2 : Int), wo, 0)) (facL2 c ((k1 : Int), ws, (k2 : Int), wo, 0))) c ((k1 : Int), ws, (k2 : Int), wo, 0)).1) => l6Out_c lo hi y ar _ w' hg hfo hy)
                  have HOW := Lib.hid (fun (w' : World) (y : Value) (lo hi : Nat) (hy : SlC lo hi w' y (applyC (unifyAns ar (facL c ((k1 : Int), ws, (k2 : Int), wo, 0)) (facL2 c ((k1 : Int), ws, (k2 : Int), wo, 0))) c)) => l4Own_c lo hi y _ w' hsa hy)
                  have HM := Lib.hid (fun (w' : World) (y : Value) (lo hi : Nat) (hy : SlC lo hi w' y (applyC (unifyAns ar (facL c ((k1 : Int), ws, (k2 : Int), wo, 0)) (facL2 c ((k1 : Int), ws, (k2 : Int), wo, 0))) c)) => l4Maximal_c lo hi y _ k1 w' hsa (by rw [hlen]; exact hk1) (okLits_low hbig) hy)
                  have oaL := (app_side hbig hk1 ws).1
                  have oaR := (app_side hbig hk1 ws).2
                  have eL : facL c ((k1 : Int), ws, (k2 : Int), wo, 0) = sideL (c.getD k1 lt0) ws := by unfold facL; dsimp only; rw [Int.toNat_natCast]
                  have eR : facR c ((k1 : Int), ws, (k2 : Int), wo, 0) = sideR (c.getD k1 lt0) ws := by unfold facR; dsimp only; rw [Int.toNat_natCast]
                  rw [← eL] at oaL
                  rw [← eR] at oaR
                  clear eL eR
                  have HOV := Lib.hid (fun (w' : World) (y z : Value) (lo hi l2 h2 : Nat) (q : Bool) (hq : overT (appT (unifyAns ar (facL c ((k1 : Int), ws, (k2 : Int), wo, 0)) (facL2 c ((k1 : Int), ws, (k2 : Int), wo, 0))) (facL c ((k1 : Int), ws, (k2 : Int), wo, 0))) (appT (unifyAns ar (facL c ((k1 : Int), ws, (k2 : Int), wo, 0)) (facL2 c ((k1 : Int), ws, (k2 : Int), wo, 0))) (facR c ((k1 : Int), ws, (k2 : Int), wo, 0))) = q) (hy : SlI lo hi w' y (appT (unifyAns ar (facL c ((k1 : Int), ws, (k2 : Int), wo, 0)) (facL2 c ((k1 : Int), ws, (k2 : Int), wo, 0))) (facL c ((k1 : Int), ws, (k2 : Int), wo, 0)))) (hz : SlI l2 h2 w' z (appT (unifyAns ar (facL c ((k1 : Int), ws, (k2 : Int), wo, 0)) (facL2 c ((k1 : Int), ws, (k2 : Int), wo, 0))) (facR c ((k1 : Int), ws, (k2 : Int), wo, 0)))) => l6Over_v lo hi l2 h2 y z _ _ q w' hq (by have := (okTerm_len oaL).2; omega) (by have := (okTerm_len oaR).2; omega) (lowT_ok oaL).2 (lowT_ok oaR).2 hy hz)
                  have HB := Lib.hid hbig
                  have HOUT : Hid ((applyC (unifyAns ar (facL c ((k1 : Int), ws, (k2 : Int), wo, 0)) (facL2 c ((k1 : Int), ws, (k2 : Int), wo, 0))) c).set k1 (false, appT (unifyAns ar (facL c ((k1 : Int), ws, (k2 : Int), wo, 0)) (facL2 c ((k1 : Int), ws, (k2 : Int), wo, 0))) (facR c ((k1 : Int), ws, (k2 : Int), wo, 0)), appT (unifyAns ar (facL c ((k1 : Int), ws, (k2 : Int), wo, 0)) (facL2 c ((k1 : Int), ws, (k2 : Int), wo, 0))) (facR2 c ((k1 : Int), ws, (k2 : Int), wo, 0))) = (facOut (unifyAns ar (facL c ((k1 : Int), ws, (k2 : Int), wo, 0)) (facL2 c ((k1 : Int), ws, (k2 : Int), wo, 0))) c ((k1 : Int), ws, (k2 : Int), wo, 0)).1) := Lib.hid rfl
                  generalize hN : (facOut (unifyAns ar (facL c ((k1 : Int), ws, (k2 : Int), wo, 0)) (facL2 c ((k1 : Int), ws, (k2 : Int), wo, 0))) c ((k1 : Int), ws, (k2 : Int), wo, 0)).2 = N at *
                  have HNN : Hid ((if overT (appT (unifyAns ar (facL c ((k1 : Int), ws, (k2 : Int), wo, 0)) (facL2 c ((k1 : Int), ws, (k2 : Int), wo, 0))) (facL c ((k1 : Int), ws, (k2 : Int), wo, 0))) (appT (unifyAns ar (facL c ((k1 : Int), ws, (k2 : Int), wo, 0)) (facL2 c ((k1 : Int), ws, (k2 : Int), wo, 0))) (facR c ((k1 : Int), ws, (k2 : Int), wo, 0))) && maxAt (applyC (unifyAns ar (facL c ((k1 : Int), ws, (k2 : Int), wo, 0)) (facL2 c ((k1 : Int), ws, (k2 : Int), wo, 0))) c) k1 then (0:Int) else 5) = N) := Lib.hid hN
                  clear hN hfo hin hu hv hokx hun hsub hl12 h40 hfr hsa hbig oaL oaR
                  generalize (facOut (unifyAns ar (facL c ((k1 : Int), ws, (k2 : Int), wo, 0)) (facL2 c ((k1 : Int), ws, (k2 : Int), wo, 0))) c ((k1 : Int), ws, (k2 : Int), wo, 0)).1 = out at *
                  generalize concl out = R at *
                  generalize overT (appT (unifyAns ar (facL c ((k1 : Int), ws, (k2 : Int), wo, 0)) (facL2 c ((k1 : Int), ws, (k2 : Int), wo, 0))) (facL c ((k1 : Int), ws, (k2 : Int), wo, 0))) (appT (unifyAns ar (facL c ((k1 : Int), ws, (k2 : Int), wo, 0)) (facL2 c ((k1 : Int), ws, (k2 : Int), wo, 0))) (facR c ((k1 : Int), ws, (k2 : Int), wo, 0))) = OV at *
                  generalize applyC (unifyAns ar (facL c ((k1 : Int), ws, (k2 : Int), wo, 0)) (facL2 c ((k1 : Int), ws, (k2 : Int), wo, 0))) c = cb at *
                  generalize maxAt cb k1 = M at *
                  generalize (unifyAns ar (facL c ((k1 : Int), ws, (k2 : Int), wo, 0)) (facL2 c ((k1 : Int), ws, (k2 : Int), wo, 0))) = U at *
                  obtain ⟨a1, e1, f1⟩ := s1.form
                  obtain ⟨a2, e2, f2⟩ := s2.form
                  obtain ⟨a3, e3, f3⟩ := r1.form
                  obtain ⟨a4, e4, f4⟩ := r2.form
                  rw [HP.out.1, HP.out.2] at HF
                  rw [HP.out.1] at HS1
                  rw [HP.out.2] at HS2
                  clear s1 s2 r1 r2 t1 t2 t3 t4 HP
                  obtain ⟨zb1, zm1, zd1⟩ := z1
                  obtain ⟨zb2, zm2, zd2⟩ := z2
                  obtain ⟨yb1, ym1, yd1⟩ := y1
                  obtain ⟨yb2, ym2, yd2⟩ := y2
                  simp only [encS] at *
                  subst f1 f2 f3 f4
                  generalize (c.getD k1 lt0).2.1.length = N1 at *
                  generalize (c.getD k1 lt0).2.2.length = N2 at *
                  generalize (c.getD k2 lt0).2.1.length = N3 at *
                  generalize (c.getD k2 lt0).2.2.length = N4 at *
                  go_enter Tryz.func34, Tryz.ntmps34
                  go_wp2_with fail
                  refine HL1.out.mono ?_; rintro e w1 ⟨rfl, rfl⟩
                  go_wp2_with fail
                  refine HL2.out.mono ?_; rintro e w1 ⟨rfl, rfl⟩
                  go_wp2_with fail
                  have BD0 := Bel.drew0 ((w.alloc (.cells #[v] 33)).alloc (.cells #[.int .i64 k1, .int .i64 ws, .int .i64 k2, .int .i64 wo, .int .i64 0] 36))
                  obtain ⟨m0, m1, m2, m3, m4, m5, m6, m7, m8, m9, m10⟩ := HF.out _ BD0
                  go_region_held3 (fun w' => w'.cell? ⟨w.heap.size + 1, 0, none⟩ = some (.int .i64 k1) ∧ w'.cell? ⟨w.heap.size + 1, 1, none⟩ = some (.int .i64 ws) ∧ w'.cell? ⟨b, off + k1 * 3, none⟩ = some (.bool true) ∧ w'.cell? ⟨b, off + k1 * 3 + 1, none⟩ = some (.slice a1 N1 e1) ∧ w'.cell? ⟨b, off + k1 * 3 + 2, none⟩ = some (.slice a2 N2 e2))
                    (first | exact ⟨m1, m2, m5, m6, m7⟩ | exact (fun h : _ ∧ _ ∧ _ ∧ _ ∧ _ ∧ _ ∧ _ ∧ _ ∧ _ ∧ _ ∧ _ => ⟨h.2.1, h.2.2.1, h.2.2.2.2.2.1, h.2.2.2.2.2.2.1, h.2.2.2.2.2.2.2.1⟩) (HF.out _ (BD0.step hb1)) | fail)
                    (first | (go_at_call 67; refine (HS1.out _).mono ?_; rintro e w1 ⟨rfl, hb1⟩) | fail)
                  clear m0 m1 m2 m3 m4 m5 m6 m7 m8 m9 m10
                  have BE0 := (BD0.step hb1).drew
                  obtain ⟨m0, m1, m2, m3, m4, m5, m6, m7, m8, m9, m10⟩ := HF.out _ BE0
                  go_wp2_with fail
                  go_region_held3 (fun w' => w'.cell? ⟨w.heap.size + 1, 2, none⟩ = some (.int .i64 k2) ∧ w'.cell? ⟨w.heap.size + 1, 3, none⟩ = some (.int .i64 wo) ∧ w'.cell? ⟨b, off + k2 * 3, none⟩ = some (.bool true) ∧ w'.cell? ⟨b, off + k2 * 3 + 1, none⟩ = some (.slice a3 N3 e3) ∧ w'.cell? ⟨b, off + k2 * 3 + 2, none⟩ = some (.slice a4 N4 e4))
                    (first | exact ⟨m3, m4, m8, m9, m10⟩ | exact (fun h : _ ∧ _ ∧ _ ∧ _ ∧ _ ∧ _ ∧ _ ∧ _ ∧ _ ∧ _ ∧ _ => ⟨h.2.2.2.1, h.2.2.2.2.1, h.2.2.2.2.2.2.2.2.1, h.2.2.2.2.2.2.2.2.2.1, h.2.2.2.2.2.2.2.2.2.2⟩) (HF.out _ (BE0.step hb2)) | fail)
                    (first | (go_at_call 67; refine (HS2.out _).mono ?_; rintro e w2 ⟨rfl, hb2⟩) | fail)
                  have BE1 := BE0.step hb2
                  have m00 := (HF.out _ BE1).1
                  have BW2 := B2.step BE1
                  clear m0 m1 m2 m3 m4 m5 m6 m7 m8 m9 m10
                  go_wp2_with fail
                  refine (HUU.out _ BW2).mono ?_; rintro e w3 ⟨ua, un, uc, rfl, ho3, hb3⟩
                  have BE3 := BE1.step hb3
                  have BW3 := BW2.step hb3
                  have HAA := Lib.hid (HA.out _ _ _ _ BW3 ho3.sl)
                  clear HA
                  go_wp2_with fail
                  refine HAA.out.mono ?_; rintro e w4 ⟨a5, n5, e5, rfl, ho4, hb4⟩
                  have BW4 := BW3.step hb4
                  have m01 := (HF.out _ (BE3.step hb4)).1
                  have HCC := Lib.hid (HCL.out _ _ _ _ true BW4 HB.out ho4.sl)
                  clear HCL
                  go_wp2_with fail
                  refine HCC.out.mono ?_; rintro e w5 ⟨rfl, hb5⟩
                  have BW5 := BW4.step hb5
                  have HOO := Lib.hid (HOW.out _ _ _ _ (ho4.sl.below hb5))
                  clear HOW
                  go_wp2_with fail
                  refine HOO.out.mono ?_; rintro e w6 ⟨a6, n6, e6, rfl, ho6, hb6⟩
                  have hkc : k1 < cb.length := by rw [hlen]; exact hk1
                  have hkcI : (k1 : Int) < cb.length := by omega
                  clear hlen
                  have hn6 := ho6.sl.len
                  subst hn6
                  obtain ⟨bq, oq, kq, eq6, hkq, hkm⟩ := ho6.sl.plain (by omega)
                  simp only [Value.slice.injEq] at eq6
                  obtain ⟨rfl, -, rfl⟩ := eq6
                  obtain ⟨bqa, bqb, hfz⟩ := ho6.froz (by omega)
                  obtain ⟨b6, o6, x1, x2, eb6, hb6s, g1, g2, g3, y1', y2'⟩ := ho6.sl.at (Bel.rfl' w6) k1 hkc
                  cases eb6
                  obtain ⟨xa1, xc1, fx1⟩ := y1'.form
                  obtain ⟨xa2, xc2, fx2⟩ := y2'.form
                  subst fx1 fx2
                  clear y1' y2'
                  generalize (cb.getD k1 lt0).1 = xp at *
                  generalize (cb.getD k1 lt0).2.1.length = xn1 at *
                  generalize (cb.getD k1 lt0).2.2.length = xn2 at *
                  have BE6 := ((BE3.step hb4).step hb5).step hb6
                  have BW6 := BW5.step hb6
                  have H36 := (hb4.step hb5).step hb6
                  have HP2 := Lib.hid (fun (w' : World) (hb : Bel w6 w') => HAP.out w' _ _ _ _ _ _ _ or1 (ho3.sl.below (H36.step hb)) (HZ2.out w' (BW6.step hb)))
                  have HP4 := Lib.hid (fun (w' : World) (hb : Bel w6 w') => HAP.out w' _ _ _ _ _ _ _ or2 (ho3.sl.below (H36.step hb)) (HZ4.out w' (BW6.step hb)))
                  have HS6 := Lib.hid (fun (w' : World) (hb : Bel w6 w') => (⟨(HF.out _ (BE6.step hb)).2.1, hb.at hb6s g1, hb.at hb6s g2, hb.at hb6s g3, (hb.frozen (p := ⟨bq, oq + k1 * 3, none⟩) hb6s).trans (hfz _), (hb.frozen (p := ⟨bq, oq + k1 * 3 + 1, none⟩) hb6s).trans (hfz _), (hb.frozen (p := ⟨bq, oq + k1 * 3 + 2, none⟩) hb6s).trans (hfz _)⟩ : (w'.cell? ⟨w.heap.size + 1, 0, none⟩ = some (.int .i64 k1) ∧ w'.cell? ⟨bq, oq + k1 * 3, none⟩ = some (.bool xp) ∧ w'.cell? ⟨bq, oq + k1 * 3 + 1, none⟩ = some (.slice xa1 xn1 xc1) ∧ w'.cell? ⟨bq, oq + k1 * 3 + 2, none⟩ = some (.slice xa2 xn2 xc2) ∧ w'.frozen? ⟨bq, oq + k1 * 3, none⟩ = false ∧ w'.frozen? ⟨bq, oq + k1 * 3 + 1, none⟩ = false ∧ w'.frozen? ⟨bq, oq + k1 * 3 + 2, none⟩ = false)))
                  have D6 := Bel.drew0 w6
                  clear HCC HAA HUU HOO HS1 HS2 m00 m01
                  go_wp2_with fail
                  obtain ⟨p1, p2, p3, p4, p5, p6, p7⟩ := HS6.out _ D6
                  go_region_law
                    (first
                      | (go_simp; go_at_call 70; refine (HP4.out _ D7).mono ?_; rintro e w8 ⟨ra2, rn2, rc2, rfl, ro2, hb8⟩; have D8 := D7.step hb8; have RO1 := ro1.sl.below hb8; have RO2 := ro2.sl; obtain ⟨r1, r2, r3, r4, r5, r6, r7⟩ := HS6.out _ D8)
                      | (go_simp; go_at_call 70; refine (HP2.out _ D7).mono ?_; rintro e w8 ⟨ra1, rn1, rc1, rfl, ro1, hb8⟩; have D8 := D7.step hb8; have RO2 := ro2.sl.below hb8; have RO1 := ro1.sl; obtain ⟨r1, r2, r3, r4, r5, r6, r7⟩ := HS6.out _ D8)
                      | (go_simp; go_at_call 70; refine (HP2.out _ D6).mono ?_; rintro e w7 ⟨ra1, rn1, rc1, rfl, ro1, hb7⟩; have D7 := D6.step hb7; obtain ⟨q1, q2, q3, q4, q5, q6, q7⟩ := HS6.out _ D7)
                      | (go_simp; go_at_call 70; refine (HP4.out _ D6).mono ?_; rintro e w7 ⟨ra2, rn2, rc2, rfl, ro2, hb7⟩; have D7 := D6.step hb7; obtain ⟨q1, q2, q3, q4, q5, q6, q7⟩ := HS6.out _ D7)
                      | fail)
                  all_goals
                    have HS9 := (ho6.sl.below D8).in'.set3 k1 hkc false _ _ _ _ RO1.in' RO2.in'
                    rw [HOUT.out] at HS9
                    have B59 := (((hb6.step D8).set (p := ⟨bq, oq + k1 * 3, none⟩) bqa (.bool false)).set (p := ⟨bq, oq + k1 * 3 + 1, none⟩) bqa (.slice ra1 rn1 rc1)).set (p := ⟨bq, oq + k1 * 3 + 2, none⟩) bqa (.slice ra2 rn2 rc2)
                    clear HS6 HP2 HP4 RO1 RO2 ro1 ro2 g1 g2 g3 hfz D7 D8 hb7 hb8 D6 p1 p2 p3 p4 p5 p6 p7 q1 q2 q3 q4 q5 q6 q7 r1 r2 r3 r4 r5 r6 r7 bqa bqb
                    generalize (((w8.setCell ⟨bq, oq + k1 * 3, none⟩ (.bool false)).setCell ⟨bq, oq + k1 * 3 + 1, none⟩ (.slice ra1 rn1 rc1)).setCell ⟨bq, oq + k1 * 3 + 2, none⟩ (.slice ra2 rn2 rc2)) = w9 at *
                    have BW9 := BW5.step B59
                    have H39 := (hb4.step hb5).step B59
                    have BE9 := BE3.step H39
                    have HP1 := Lib.hid (HAP.out w9 _ _ _ _ _ _ _ ol1 (ho3.sl.below H39) (HZ1.out _ BW9))
                    go_wp2_with fail
                    refine HP1.out.mono ?_; rintro e w10 ⟨sa1, sn1, sc1, rfl, so1, hb10⟩
                    have HP3 := Lib.hid (HAP.out w10 _ _ _ _ _ _ _ or1 (ho3.sl.below (H39.step hb10)) (HZ2.out _ (BW9.step hb10)))
                    go_wp2_with fail
                    refine HP3.out.mono ?_; rintro e w11 ⟨sa2, sn2, sc2, rfl, so2, hb11⟩
                    have B11 := hb10.step hb11
                    cases OV with
                    | false =>
                      have hN0 : N = 5 := HNN.out.symm.trans (if_neg (by simp))
                      subst hN0
                      have HV := Lib.hid (HOV.out w11 _ _ _ _ _ _ false rfl (so1.sl.below hb11) so2.sl)
                      clear HOV HM HP1 HP3 HAP
                      go_wp2_with fail
                      refine HV.out.mono ?_; rintro e w12 ⟨rfl, hb12⟩
                      have HQ := Lib.hid (HO.out w12 _ _ _ (HS9.below (B11.step hb12)))
                      go_wp2_with fail
                      refine HQ.out.mono ?_; rintro e w14 ⟨a8, n8, c8, rfl, ho8, hb14⟩
                      have BZ := BW9.step (B11.step hb12)
                      go_wp2_with fail
                      go_ret2
                      exact ⟨_, _, _, rfl, ho8.mono BZ.size (Nat.le_refl _), BZ.step hb14⟩
                    | true =>
                      have HV := Lib.hid (HOV.out w11 _ _ _ _ _ _ true rfl (so1.sl.below hb11) so2.sl)
                      clear HOV HP1 HP3 HAP
                      go_wp2_with fail
                      refine HV.out.mono ?_; rintro e w12 ⟨rfl, hb12⟩
                      have B12 := B11.step hb12
                      have mw := (HF.out _ (BE9.step B12)).2.1
                      have HMM := Lib.hid (HM.out w12 _ _ _ (ho4.sl.below ((hb5.step B59).step B12)))
                      clear HM
                      go_wp2_with fail
                      refine HMM.out.mono ?_; rintro e w13 ⟨rfl, hb13⟩
                      have BZ := BW9.step (B12.step hb13)
                      have HQ := Lib.hid (HO.out w13 _ _ _ (HS9.below (B12.step hb13)))
                      cases M with
                      | false =>
                        have hN0 : N = 5 := HNN.out.symm.trans (if_neg (by simp))
                        subst hN0
                        go_wp2_with fail
                        refine HQ.out.mono ?_; rintro e w14 ⟨a8, n8, c8, rfl, ho8, hb14⟩
                        go_wp2_with fail
                        go_ret2
                        exact ⟨_, _, _, rfl, ho8.mono BZ.size (Nat.le_refl _), BZ.step hb14⟩
                      | true =>
                        have hN0 : N = 0 := HNN.out.symm.trans (if_pos rfl)
                        subst hN0
                        go_wp2_with fail
                        refine HQ.out.mono ?_; rintro e w14 ⟨a8, n8, c8, rfl, ho8, hb14⟩
                        go_wp2_with fail
                        go_ret2
                        exact ⟨_, _, _, rfl, ho8.mono BZ.size (Nat.le_refl _), BZ.step hb14⟩
end Go.Proofs.YteegjnobmbcjiaaGreatDoor
end
section
/- slices.Concat and Clone of clauses. -/
namespace Go.Proofs.YteegjnobmbcjiaaGreatDoor
open Go.RowKit

/-- Slices of literals, as Concat reads them. -/
def PartsC (w : World) (B o : Nat) (L : List (List Lt)) : Prop :=
  ∀ j, j < L.length → ∃ ad c, w.cell? ⟨B, o + j, none⟩ = some (.slice ad (L.getD j []).length c) ∧ SlC 0 w.heap.size w (.slice ad (L.getD j []).length c) (L.getD j [])
theorem PartsC.below {w w' : World} {B o : Nat} {L : List (List Lt)} (h : PartsC w B o L) (hb : Bel w w') : ∀ j, j < L.length → ∃ ad c, w'.cell? ⟨B, o + j, none⟩ = some (.slice ad (L.getD j []).length c) ∧ SlC 0 w.heap.size w' (.slice ad (L.getD j []).length c) (L.getD j []) := fun j hj => by
  obtain ⟨ad, c, h1, h2⟩ := h j hj
  exact ⟨ad, c, hb.at (World.block_lt_of_cell? w ⟨B, o + j, none⟩ h1) h1, h2.below hb⟩
def sumLenC (L : List (List Lt)) : Nat := (L.map List.length).sum
theorem sumLenC_take (L : List (List Lt)) (j : Nat) (h : j < L.length) : sumLenC (L.take (j+1)) = sumLenC (L.take j) + (L.getD j []).length := by
  unfold sumLenC
  rw [List.take_succ_eq_append_getElem h, List.map_append, List.sum_append]
  simp only [List.map_cons, List.map_nil, List.sum_cons, List.sum_nil, Nat.add_zero]
  simp [List.getD, h]
theorem sumLenC_le (L : List (List Lt)) (j : Nat) : sumLenC (L.take j) ≤ sumLenC L := by
  unfold sumLenC
  conv => rhs; rw [← List.take_append_drop j L]
  rw [List.map_append, List.sum_append]
  exact Nat.le_add_right _ _
theorem flatCC_take (L : List (List Lt)) (j : Nat) (h : j < L.length) : (L.take (j+1)).flatten = (L.take j).flatten ++ L.getD j [] := by
  rw [List.take_succ_eq_append_getElem h, List.flatten_append]
  simp only [List.flatten_cons, List.flatten_nil, List.append_nil]
  simp [List.getD, h]
theorem flatCC_len (L : List (List Lt)) : L.flatten.length = sumLenC L := by simp [sumLenC, List.length_flatten]
theorem wp_app_lits {wr : World} {base : Nat} {vs : Value} {zs ys : List LV} {acc c : List Lt} {W' : World} {v' : Value}
    (hz : Lies base wr zs acc) (hy : Lies base wr ys c) (hown : RowC base wr vs zs) (hlo : base ≤ wr.heap.size) (h1 : W'.ownsRow base 53 3 v' (zs.length + ys.length) (cellsC zs ++ cellsC ys)) (hg : wr.grownBy W' vs.ownBlock) :
    RowC base W' v' (zs ++ ys) ∧ Lies base W' (zs ++ ys) (acc ++ c) := by
  refine ⟨by show World.ownsRow _ _ _ _ _ _ _; rw [cellsC_app, List.length_append]; exact h1, (hz.app hy).same fun b h2 h3 => hg.block b h3 fun e => ?_⟩
  have := own_base hown b e.symm
  omega

end Go.Proofs.YteegjnobmbcjiaaGreatDoor
end
