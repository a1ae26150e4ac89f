/- Texts merged, part 7. -/
import Derived.Test.YtikllmdmifecpaaMgApartClauses6
section
/- Chapter 4: the answers, as plain functions. No program. -/
namespace Go.Proofs.Ytikllmdmifecpaa
open Go.RowKit

def okLit (ar : List Int) (x : Lt) : Bool := okTerm ar x.2.1 && okTerm ar x.2.2
def okLits (ar : List Int) (c : List Lt) : Bool := decide (c.length ≤ 8) && c.all (okLit ar)
def goodClause (ar : List Int) (c : List Lt) : Bool := goodSign ar && okLits ar c
theorem okLit_iff {ar : List Int} {x : Lt} : okLit ar x = true ↔ okTerm ar x.2.1 = true ∧ okTerm ar x.2.2 = true := by simp [okLit]
theorem okLits_iff {ar : List Int} {c : List Lt} : okLits ar c = true ↔ c.length ≤ 8 ∧ ∀ x ∈ c, okLit ar x = true := by simp [okLits]
theorem goodClause_iff {ar : List Int} {c : List Lt} : goodClause ar c = true ↔ goodSign ar = true ∧ c.length ≤ 8 ∧ ∀ x ∈ c, okLit ar x = true := by simp [goodClause, okLits]
theorem okLits_get {ar : List Int} {c : List Lt} (h : ∀ x ∈ c, okLit ar x = true) (j : Nat) (hj : j < c.length) : okTerm ar (c.getD j lt0).2.1 = true ∧ okTerm ar (c.getD j lt0).2.2 = true :=
  okLit_iff.1 (h _ (by simp [List.getD, hj]))
theorem okLits_bad {ar : List Int} {c : List Lt} {j : Nat} (hj : j < c.length) (h : okLit ar (c.getD j lt0) = false) : okLits ar c = false := by
  rw [Bool.eq_false_iff]; intro k
  have := (okLits_iff.1 k).2 (c.getD j lt0) (by simp [List.getD, hj])
  rw [h] at this; simp at this
/-- The first k literals are valid. -/
def okTo (ar : List Int) (c : List Lt) (k : Nat) : Prop := ∀ j, j < k → okLit ar (c.getD j lt0) = true
theorem okTo.step {ar : List Int} {c : List Lt} {k : Nat} (h : okTo ar c k) (hk : okLit ar (c.getD k lt0) = true) : okTo ar c (k+1) := fun j hj => by
  by_cases e : j = k
  · subst e; exact hk
  · exact h j (by omega)
theorem okTo.done {ar : List Int} {c : List Lt} (h : okTo ar c c.length) : okLits ar c = decide (c.length ≤ 8) := by
  unfold okLits
  have : c.all (okLit ar) = true := by
    rw [List.all_eq_true]
    intro x hx
    obtain ⟨j, hj, rfl⟩ := List.getElem_of_mem hx
    have := h j hj
    simpa [List.getD, hj] using this
  rw [this, Bool.and_true]

/-- The same two terms, perhaps exchanged. -/
def sameTs (x y : Lt) : Bool := (decide (x.2.1 = y.2.1) && decide (x.2.2 = y.2.2)) || (decide (x.2.1 = y.2.2) && decide (x.2.2 = y.2.1))
def eqvL (x y : Lt) : Bool := (x.1 == y.1) && sameTs x y
def tidyStep (out : List Lt) (x : Lt) : List Lt := if !x.1 && decide (x.2.1 = x.2.2) then out else if out.any (eqvL x) then out else out ++ [x]
def tidyC (c : List Lt) : List Lt := c.foldl tidyStep []
theorem tidyC_snoc (c : List Lt) (k : Nat) (h : k < c.length) : tidyC (c.take (k+1)) = tidyStep (tidyC (c.take k)) (c.getD k lt0) := by
  unfold tidyC
  rw [List.take_succ_eq_append_getElem h, List.foldl_append]
  simp [List.getD, h]
def tidyAns (ar : List Int) (c : List Lt) : List Lt := if goodClause ar c then tidyC c else []

/-- A tautology's place: the literal k alone, or with an earlier one. -/
def tautAt (c : List Lt) (k : Nat) : Bool := ((c.getD k lt0).1 && decide ((c.getD k lt0).2.1 = (c.getD k lt0).2.2)) || (c.take k).any fun y => ((c.getD k lt0).1 != y.1) && sameTs (c.getD k lt0) y
def tautC (c : List Lt) : Bool := (List.range c.length).any (tautAt c)
def tautAns (ar : List Int) (c : List Lt) : Bool := goodClause ar c && tautC c

def weightAns (ar : List Int) (c : List Lt) : Int := if goodClause ar c then (sumL (flatC c) : Int) else 0

def listL (x : Lt) : List (List Int) := if x.1 then [x.2.1, x.2.2] else [x.2.1, x.2.2, x.2.1, x.2.2]
def litsOk (ar : List Int) (x y : Lt) : Bool := goodSign ar && (okLit ar x && okLit ar y)
def litsAns (ar : List Int) (x y : Lt) : Int := if litsOk ar x y then cmpL (listL x) (listL y) else 0
def maxAt (c : List Lt) (k : Nat) : Bool := (List.range c.length).all fun i => decide (i = k) || !decide (cmpL (listL (c.getD i lt0)) (listL (c.getD k lt0)) = 1)
def maxC (c : List Lt) : List Nat := (List.range c.length).filter (maxAt c)

/-- The signs of one, the terms of another list. -/
def zipC : List Lt → List (List Int) → List Lt
  | x :: c, l :: r :: ts => (x.1, l, r) :: zipC c ts
  | _, _ => []
end Go.Proofs.Ytikllmdmifecpaa
end
section
/- The places of a symbol's arguments: both functions' inner ones, and ArgsAt. -/
namespace Go.Proofs.Ytikllmdmifecpaa
open Go.RowKit

def natsI (l : List Nat) : List Int := l.map fun (n : Nat) => (n : Int)
theorem natsI_len (l : List Nat) : (natsI l).length = l.length := by simp [natsI]
theorem argsGo_succ {ar t : List Int} {k p q : Nat} (h : endOf ar t p = some q) : argsGo ar t (k + 1) p = p :: argsGo ar t k q := by simp [argsGo, h]

/-- Somewhere in the loop over the arguments: acc is done, k are still to come, from p on. -/
def ArgSt (ar t : List Int) (all : List Nat) (acc : List Nat) (k p : Nat) : Prop := all = acc ++ argsGo ar t k p ∧ ∃ e, endGo ar (t.drop p) k p = some e ∧ e ≤ t.length
theorem ArgSt.start {ar t : List Int} {i : Nat} (h : okTerm ar t = true) (hi : i < t.length) : ArgSt ar t (argsOf ar t i) [] (arOf ar (t.getD i 0)) (i + 1) := by
  obtain ⟨e, h1, h2⟩ := good_args ar t h i hi
  exact ⟨rfl, e, h1, h2⟩
theorem ArgSt.next {ar t : List Int} {all acc : List Nat} {k p : Nat} (h : ArgSt ar t all acc (k + 1) p) : ∃ q, endOf ar t p = some q ∧ p < t.length ∧ p < q ∧ q ≤ t.length ∧ ArgSt ar t all (acc ++ [p]) k q := by
  obtain ⟨h1, e, h2, h3⟩ := h
  obtain ⟨q, hq, hr, hpq, hqe⟩ := ends_step ar t p k e h2
  exact ⟨q, hq, by omega, hpq, by omega, by rw [h1, argsGo_succ hq]; simp, e, hr, h3⟩
theorem ArgSt.done {ar t : List Int} {all acc : List Nat} {p : Nat} (h : ArgSt ar t all acc 0 p) : all = acc := by rw [h.1]; simp [argsGo]
theorem argsOf_neg {ar t : List Int} {i : Nat} (h : t.getD i 0 < 0) : argsOf ar t i = [] := by unfold argsOf; rw [arOf_neg h]; rfl
theorem argsOf_len {ar t : List Int} {i : Nat} : (argsOf ar t i).length = arOf ar (t.getD i 0) := argsGo_len _ _ _ _

theorem natsI_snoc (l : List Nat) (p : Nat) : natsI (l ++ [p]) = natsI l ++ [(p : Int)] := by simp [natsI]

set_option maxRecDepth 100000 in
set_option maxHeartbeats 2000000 in
theorem argStarts_c (l h l' h' : Nat) (v u : Value) (ar t : List Int) (i : Nat) (w : World) (hg : goodSign ar = true) (hok : okTerm ar t = true) (hi : i < t.length) (hv : SlI l h w v ar) (hu : SlI l' h' w u t) :
    Calls Try.prog 176 #[.agg #[v], u, .int .i64 i] w (RetI w (natsI (argsOf ar t i))) := by
  have hv0 := hv; have hu0 := hu
  obtain ⟨ad, cap, rfl, -, -, hr⟩ := hv
  obtain ⟨ad', cap', rfl, -, -, hr'⟩ := hu
  have hlen := sign_len ar hg
  have htl := ((okTerm_iff ar t).1 hok).2.1
  have hst := ArgSt.start hok hi
  have hsym := good_sym ar t hok i hi
  have htc := fun (p : Nat) => termEnd_c l h l' h' (.slice ad ar.length cap) (.slice ad' t.length cap') ar t p
  obtain ⟨i0, hi0, hz0, hz1, hz2⟩ := info_parts Try.info3
  obtain ⟨b', off', rfl, hbl, hcell'⟩ := rd hr' (Bel.rfl' w) i hi
  have hE := fun h => argsOf_neg (ar := ar) (t := t) (i := i) h
  clear hr'
  have hn3 := arOf_le ar hg (t.getD i 0)
  generalize t.getD i 0 = x at *
  by_cases hx : x < 0
  · have E := Lib.hid (hE hx)
    clear hst hE htc
    go_enter Try.func176, Try.ntmps176
    go_wp2_with fail
    go_ret
    refine ⟨none, 0, 0, rfl, ?_, Bel.alloc0 _ _⟩
    rw [E.out]; exact OwnI.nil _ _ _
  · obtain ⟨k, rfl⟩ : ∃ k : Nat, x = k := ⟨x.toNat, by omega⟩
    have hk := okSym_lt hsym
    obtain ⟨b, off, rfl, hbl2, hcell⟩ := rd hr (Bel.rfl' w) k hk
    have hn := ar_nonneg ar hg k
    rw [arOf_nat] at hst hn3
    clear hr hsym
    obtain ⟨q, hq⟩ : ∃ q : Nat, ar.getD k 0 = q := ⟨(ar.getD k 0).toNat, by omega⟩
    rw [hq] at hcell hst hn hn3
    rw [show ((q : Int)).toNat = q from by omega] at hst hn3
    clear hq
    have hk2 : (k : Int) < ar.length := by omega
    have hi2 : (i : Int) < t.length := by omega
    have HST := Lib.hid hst
    have HTC := Lib.hid htc
    clear hst htc hE
    generalize argsOf ar t i = all at *
    go_enter Try.func176, Try.ntmps176
    go_wp2_with fail
    go_quiet (fail)
    go_wp2_with fail
    go_loopw [7, 8, 24] (fun vs a c wr => ∃ (acc : List Nat) (p j : Nat), j ≤ q ∧ acc.length = j ∧ a = .int .i64 p ∧ c = .int .i64 j ∧ ArgSt ar t all acc (q - j) p ∧
        wr.ownsRow (w.heap.size + 1) 3 1 vs (natsI acc).length ((natsI acc).map (Value.int .i64)) ∧ Bel (w.alloc (.cells #[.slice (some ⟨b, off, none⟩) ar.length cap] 29)) wr) (fun _ _ c _ => q - (intOf c).toNat)
    case atStart => exact ⟨[], i + 1, 0, Nat.zero_le _, rfl, by go_num, rfl, HST.out, World.ownsRow_nil _ _ _ _, (Bel.rfl' _).drewN _⟩
    case round =>
      obtain ⟨acc, p, j, hj, hacc, rfl, rfl, hst, hown, hb⟩ := hrel
      have hbox := boxc hb 0 _ rfl
      by_cases hlt : j < q
      · obtain ⟨q', hq', hpt, hpq, hqt, hst'⟩ := ArgSt.next (show ArgSt ar t all acc ((q - (j + 1)) + 1) p by rw [show q - (j + 1) + 1 = q - j from by omega]; exact hst)
        have HC := Lib.hid (fun w a b c d e => endP_some hq' ▸ HTC.out p w a b c d e)
        have HS2 := Lib.hid hst'
        have hal : (natsI acc).length ≤ 3 := by rw [natsI_len]; omega
        have HA := Lib.hid hacc
        clear hst hst' hq' hacc
        go_wp2_with (at_builtin; refine wpList_append_own _ rfl _ _ 22 rfl (w.heap.size + 1) 3 i0 (.int .i64 0) 1 8 Try.underlying22 hi0 hz0 hz1 hz2 rfl (by decide) _ _ _ rfl (hown.alloc _) ⟨wr.heap.size, 0, none⟩ 1 1 [.int .i64 p] rfl rfl (news_one _ _ _) (one_int _) (by unfold maxLen; omega) (by omega) (by have := hb.size; simp at *; omega) ?_; intro v' w1 hown' hgrow _; have hb1 := (hb.alloc (.cells #[.int .i64 p] 3)).grown hgrow (fun k hk => by have := own_base hown k hk; simp; omega); have hbox1 := boxc hb1 0 _ rfl)
        refine (HC.out _ hg (by omega) (by omega) (hv0.below hb1.of_alloc) (hu0.below hb1.of_alloc)).mono ?_; rintro e w2 ⟨rfl, hb2⟩
        have hown2 := ownsRow_bel (row_snoc hown') hb2
        rw [← natsI_snoc] at hown2
        go_wp2_with fail
        go_roundw
        case rel => exact ⟨acc ++ [p], q', j + 1, by omega, by simp [HA.out], rfl, by go_num, by rw [show q - (j + 1) = q - (j + 1) from rfl]; exact HS2.out, hown2, hb1.step hb2⟩
        case measure => simp [intOf]; omega
      · rw [show q - j = 0 from by omega] at hst
        have HS2 := Lib.hid hst.done
        clear hst
        go_wp2_with fail
        obtain ⟨g, n, c, hv'⟩ := own_form hown
        subst hv'
        go_ret
        exact ⟨_, _, _, rfl, by rw [HS2.out]; exact (OwnI.of_row hown).mono (by omega) (Nat.le_refl _), hb.of_alloc⟩
set_option maxRecDepth 100000 in
set_option maxHeartbeats 2000000 in
theorem l1Args_c (l h l' h' : Nat) (v u : Value) (ar t : List Int) (i : Nat) (w : World) (hg : goodSign ar = true) (hok : okTerm ar t = true) (hi : i < t.length) (hv : SlI l h w v ar) (hu : SlI l' h' w u t) :
    Calls Try.prog 181 #[.agg #[v], u, .int .i64 i] w (RetI w (natsI (argsOf ar t i))) := by
  have hv0 := hv; have hu0 := hu
  obtain ⟨ad, cap, rfl, -, -, hr⟩ := hv
  obtain ⟨ad', cap', rfl, -, -, hr'⟩ := hu
  have hlen := sign_len ar hg
  have htl := ((okTerm_iff ar t).1 hok).2.1
  have hst := ArgSt.start hok hi
  have hsym := good_sym ar t hok i hi
  have htc := fun (p : Nat) => l1End_c l h l' h' (.slice ad ar.length cap) (.slice ad' t.length cap') ar t p
  obtain ⟨i0, hi0, hz0, hz1, hz2⟩ := info_parts Try.info3
  obtain ⟨b', off', rfl, hbl, hcell'⟩ := rd hr' (Bel.rfl' w) i hi
  have hE := fun h => argsOf_neg (ar := ar) (t := t) (i := i) h
  clear hr'
  have hn3 := arOf_le ar hg (t.getD i 0)
  generalize t.getD i 0 = x at *
  by_cases hx : x < 0
  · have E := Lib.hid (hE hx)
    clear hst hE htc
    go_enter Try.func181, Try.ntmps181
    go_wp2_with fail
    go_ret
    refine ⟨none, 0, 0, rfl, ?_, Bel.alloc0 _ _⟩
    rw [E.out]; exact OwnI.nil _ _ _
  · obtain ⟨k, rfl⟩ : ∃ k : Nat, x = k := ⟨x.toNat, by omega⟩
    have hk := okSym_lt hsym
    obtain ⟨b, off, rfl, hbl2, hcell⟩ := rd hr (Bel.rfl' w) k hk
    have hn := ar_nonneg ar hg k
    rw [arOf_nat] at hst hn3
    clear hr hsym
    obtain ⟨q, hq⟩ : ∃ q : Nat, ar.getD k 0 = q := ⟨(ar.getD k 0).toNat, by omega⟩
    rw [hq] at hcell hst hn hn3
    rw [show ((q : Int)).toNat = q from by omega] at hst hn3
    clear hq
    have hk2 : (k : Int) < ar.length := by omega
    have hi2 : (i : Int) < t.length := by omega
    have HST := Lib.hid hst
    have HTC := Lib.hid htc
    clear hst htc hE
    generalize argsOf ar t i = all at *
    go_enter Try.func181, Try.ntmps181
    go_wp2_with fail
    go_quiet (fail)
    go_wp2_with fail
    go_loopw [7, 8, 9] (fun vs a c wr => ∃ (acc : List Nat) (p j : Nat), j ≤ q ∧ acc.length + j = q ∧ a = .int .i64 p ∧ c = .int .i64 j ∧ ArgSt ar t all acc j p ∧
        wr.ownsRow (w.heap.size + 1) 3 1 vs (natsI acc).length ((natsI acc).map (Value.int .i64)) ∧ Bel (w.alloc (.cells #[.slice (some ⟨b, off, none⟩) ar.length cap] 29)) wr) (fun _ _ c _ => (intOf c).toNat)
    case atStart => exact ⟨[], i + 1, q, Nat.le_refl _, by simp, by go_num, rfl, HST.out, World.ownsRow_nil _ _ _ _, (Bel.rfl' _).drewN _⟩
    case round =>
      obtain ⟨acc, p, j, hj, hacc, rfl, rfl, hst, hown, hb⟩ := hrel
      have hbox := boxc hb 0 _ rfl
      cases j with
      | succ j =>
        obtain ⟨q', hq', hpt, hpq, hqt, hst'⟩ := ArgSt.next hst
        have HC := Lib.hid (fun w a b c d e => endI_some hq' ▸ HTC.out p w a b c d e)
        have HS2 := Lib.hid hst'
        have hal : (natsI acc).length ≤ 3 := by rw [natsI_len]; omega
        have HA := Lib.hid hacc
        clear hst hst' hq' hacc
        rw [show ((j + 1 : Nat) : Int) = (j : Int) + 1 from by omega]
        go_wp2_with (at_builtin; refine wpList_append_own _ rfl _ _ 22 rfl (w.heap.size + 1) 3 i0 (.int .i64 0) 1 8 Try.underlying22 hi0 hz0 hz1 hz2 rfl (by decide) _ _ _ rfl (hown.alloc _) ⟨wr.heap.size, 0, none⟩ 1 1 [.int .i64 p] rfl rfl (news_one _ _ _) (one_int _) (by unfold maxLen; omega) (by omega) (by have := hb.size; simp at *; omega) ?_; intro v' w1 hown' hgrow _; have hb1 := (hb.alloc (.cells #[.int .i64 p] 3)).grown hgrow (fun k hk => by have := own_base hown k hk; simp; omega); have hbox1 := boxc hb1 0 _ rfl)
        refine (HC.out _ hg (by omega) (by omega) (hv0.below hb1.of_alloc) (hu0.below hb1.of_alloc)).mono ?_; rintro e w2 ⟨rfl, hb2⟩
        have hown2 := ownsRow_bel (row_snoc hown') hb2
        rw [← natsI_snoc] at hown2
        go_wp2_with fail
        go_roundw
        case rel => exact ⟨acc ++ [p], q', j, by omega, by have := HA.out; simp; omega, rfl, by go_num, HS2.out, hown2, hb1.step hb2⟩
        case measure => simp [intOf]
      | zero =>
        have HS2 := Lib.hid hst.done
        clear hst
        go_wp2_with fail
        obtain ⟨g, n, c, hv'⟩ := own_form hown
        subst hv'
        go_ret
        exact ⟨_, _, _, rfl, by rw [HS2.out]; exact (OwnI.of_row hown).mono (by omega) (Nat.le_refl _), hb.of_alloc⟩

/-- What ArgsAt answers. -/
def argsAns (ar t : List Int) (i : Int) : List Int := if askOk ar t i then natsI (argsOf ar t i.toNat) else []
theorem argsAns_len (ar t : List Int) (i : Int) : (argsAns ar t i).length ≤ 1048576 := by
  unfold argsAns
  split
  · rename_i h
    obtain ⟨k, e, rfl, _, _, _, _, _, hg, _⟩ := ask_yes h
    rw [natsI_len, argsOf_len]
    exact Nat.le_trans (arOf_le ar hg _) (by omega)
  · exact Nat.zero_le _

end Go.Proofs.Ytikllmdmifecpaa
end
section
/- VarsOf: both functions. -/
namespace Go.Proofs.Ytikllmdmifecpaa
open Go.RowKit

/-- Twelve bools. -/
def arr (f : Nat → Bool) : Array Value := #[.bool (f 0), .bool (f 1), .bool (f 2), .bool (f 3), .bool (f 4), .bool (f 5), .bool (f 6), .bool (f 7), .bool (f 8), .bool (f 9), .bool (f 10), .bool (f 11)]
def anyB (f : Nat → Bool) : Bool := f 0 || f 1 || f 2 || f 3 || f 4 || f 5 || f 6 || f 7 || f 8 || f 9 || f 10 || f 11
theorem arr_set (f : Nat → Bool) (j : Nat) (b : Bool) (h : j < 12) : (arr f).setIfInBounds j (.bool b) = arr (fun i => if i = j then b else f i) := by
  match j, h with
  | 0, _ => rfl
  | 1, _ => rfl
  | 2, _ => rfl
  | 3, _ => rfl
  | 4, _ => rfl
  | 5, _ => rfl
  | 6, _ => rfl
  | 7, _ => rfl
  | 8, _ => rfl
  | 9, _ => rfl
  | 10, _ => rfl
  | 11, _ => rfl
theorem arr_get (f : Nat → Bool) (j : Nat) (h : j < 12) : (arr f)[j]? = some (.bool (f j)) := by
  match j, h with
  | 0, _ => rfl
  | 1, _ => rfl
  | 2, _ => rfl
  | 3, _ => rfl
  | 4, _ => rfl
  | 5, _ => rfl
  | 6, _ => rfl
  | 7, _ => rfl
  | 8, _ => rfl
  | 9, _ => rfl
  | 10, _ => rfl
  | 11, _ => rfl

theorem eq12 (w : World) (b0 b1 b2 b3 b4 b5 b6 b7 b8 b9 b10 b11 : Bool) :
    (Op.equalIn 10000 155 (.agg #[.bool b0, .bool b1, .bool b2, .bool b3, .bool b4, .bool b5, .bool b6, .bool b7, .bool b8, .bool b9, .bool b10, .bool b11]) (.agg #[.bool false, .bool false, .bool false, .bool false, .bool false, .bool false, .bool false, .bool false, .bool false, .bool false, .bool false, .bool false])).run Try.prog w = .ok (!(b0 || b1 || b2 || b3 || b4 || b5 || b6 || b7 || b8 || b9 || b10 || b11)) w := by
  cases b0
  · cases b1
    · cases b2
      · cases b3
        · cases b4
          · cases b5
            · cases b6
              · cases b7
                · cases b8
                  · cases b9
                    · cases b10
                      · cases b11 <;> kernel_rfl
                      · kernel_rfl
                    · kernel_rfl
                  · kernel_rfl
                · kernel_rfl
              · kernel_rfl
            · kernel_rfl
          · kernel_rfl
        · kernel_rfl
      · kernel_rfl
    · kernel_rfl
  · kernel_rfl

def BlkIs (w : World) (B : Nat) (T : TypeId) (f : Nat → Bool) : Prop := w.heap[B]? = some (.cells (arr f) T (0, 0))
theorem BlkIs.cell {w : World} {B : Nat} {T : TypeId} {f : Nat → Bool} (h : BlkIs w B T f) (j : Nat) (hj : j < 12) : w.cell? ⟨B, j, none⟩ = some (.bool (f j)) := by
  unfold BlkIs at h
  simp [World.cell?, h, arr_get f j hj]
theorem BlkIs.free {w : World} {B : Nat} {T : TypeId} {f : Nat → Bool} (h : BlkIs w B T f) (j : Nat) : w.frozen? ⟨B, j, none⟩ = false := by
  unfold BlkIs at h
  simp [World.frozen?, h]
theorem BlkIs.lt {w : World} {B : Nat} {T : TypeId} {f : Nat → Bool} (h : BlkIs w B T f) : B < w.heap.size := (Array.getElem?_eq_some_iff.1 h).1
theorem BlkIs.bel {w w' : World} {B : Nat} {T : TypeId} {f : Nat → Bool} (h : BlkIs w B T f) (hb : Bel w w') : BlkIs w' B T f := (hb.block B h.lt).trans h
theorem BlkIs.set {w : World} {B : Nat} {T : TypeId} {f : Nat → Bool} (h : BlkIs w B T f) (j : Nat) (hj : j < 12) (b : Bool) : BlkIs (w.setCell ⟨B, j, none⟩ (.bool b)) B T (fun i => if i = j then b else f i) := by
  have hlt := h.lt
  have h' : w.heap[B] = .cells (arr f) T (0, 0) := by unfold BlkIs at h; simpa [Array.getElem?_eq_getElem hlt] using h
  show (w.heap.modify B _)[B]? = _
  rw [Array.getElem?_eq_getElem (by simpa using hlt), Array.getElem_modify_self, h']
  simp [arr_set f j b hj]
theorem BlkIs.other {w : World} {B : Nat} {T : TypeId} {f : Nat → Bool} (h : BlkIs w B T f) {p : Addr} (hp : p.block ≠ B) (v : Value) : BlkIs (w.setCell p v) B T f :=
  (Below.heap_setCell w p v B (by omega)).trans h

/-- .. while a row of the call's own, behind it, has grown. -/
theorem blk_grown {w w' : World} {o : Obj} {B : Nat} {T e : TypeId} {f : Nat → Bool} {v : Value} {n sz : Nat} {xs : List Value} (h : BlkIs w B T f) (hown : w.ownsRow (B + 1) e sz v n xs) (hg : (w.alloc o).grownBy w' v.ownBlock) : BlkIs w' B T f := by
  have hlt := h.lt
  refine (hg.block B (by simp; omega) (fun e => ?_)).trans ((Below.heap_alloc w o B hlt).trans h)
  have := own_base hown B e.symm
  omega
def mk (t : List Int) (j : Nat) : Bool := decide ((-1 - (j : Int)) ∈ t)
theorem mk_step (t : List Int) (k m : Nat) (hk : k < t.length) (hx : t.getD k 0 = -1 - (m : Int)) : (fun i => if i = m then true else mk (t.take k) i) = mk (t.take (k+1)) := by
  funext i
  unfold mk
  rw [List.take_succ_eq_append_getElem hk]
  have e : t[k] = -1 - (m : Int) := by simpa [List.getD, hk] using hx
  rw [e]
  by_cases h : i = m
  · subst h; simp
  · rw [if_neg h]
    have : (-1 - (i : Int)) ≠ -1 - (m : Int) := by omega
    simp [this]
theorem mk_skip (t : List Int) (k : Nat) (hk : k < t.length) (hx : 0 ≤ t.getD k 0) : mk (t.take k) = mk (t.take (k+1)) := by
  funext i
  unfold mk
  rw [List.take_succ_eq_append_getElem hk]
  have e : 0 ≤ t[k] := by simpa [List.getD, hk] using hx
  have h1 : (-1 - (i : Int)) ≠ t[k] := by omega
  have h2 : (-1 - (i : Int) ∈ t.take k) ↔ (-1 - (i : Int) ∈ t.take k ++ [t[k]]) := by
    rw [List.mem_append, List.mem_singleton]
    exact ⟨Or.inl, fun h => h.resolve_right h1⟩
  exact decide_eq_decide.2 h2

theorem results_cell_one {fn : Func} {p : Tmp} {ty : TypeId} (h : fn.results = #[.cell p ty]) (tmps : Array Value) (P : Program) (w : World) :
    (results fn tmps).run P w = ((asAddr (tmps.getD p undef)).run P w).andThen fun a w₁ => (loadVar ty a).run P w₁ := by
  simp only [results, h]
  simp [Sem.run_bind, Result.andThen]
theorem arr_all (f : Nat → Bool) : (arr f).all (·.oneCell') = true := by simp [arr, Value.oneCell']
theorem Try.info155 : (Try.prog.info? 155).map (·.size) = some 12 := by kernel_rfl
theorem zero12 : (#[.bool false, .bool false, .bool false, .bool false, .bool false, .bool false, .bool false, .bool false, .bool false, .bool false, .bool false, .bool false] : Array Value) = arr (fun _ => false) := rfl

set_option maxRecDepth 100000 in
set_option maxHeartbeats 400000 in
theorem marksOf_c (l h : Nat) (v : Value) (t : List Int) (w : World) (ht : t.length ≤ 1048576) (hlow : ∀ k, k < t.length → -12 ≤ t.getD k 0) (hv : SlI l h w v t) :
    Calls Try.prog 155 #[v] w (RetV w (.agg (arr (mk t)))) := by
  obtain ⟨ad, cap, rfl, -, -, hr⟩ := hv
  go_enter Try.func155, Try.ntmps155
  go_wp2_with fail
  go_loopw [8] (fun i wr => ∃ k : Nat, k ≤ t.length ∧ i = .int .i64 k ∧ BlkIs wr (w.heap.size + 1) 155 (mk (t.take k)) ∧ BlkIs wr w.heap.size 155 (fun _ => false) ∧ Bel w wr) (fun i _ => t.length - (intOf i).toNat)
  case atStart =>
    refine ⟨0, Nat.zero_le _, rfl, ?_, ?_, Bel.alloc2 _ _ _⟩
    · have e : mk (t.take 0) = fun _ => false := by funext i; simp [mk]
      rw [e]; unfold BlkIs; rw [← zero12]
      have := heap_alloc_new (w.alloc (.cells (arr fun _ => false) 155)) (.cells (arr fun _ => false) 155)
      simpa [zero12] using this
    · unfold BlkIs; rw [← zero12]
      rw [Below.heap_alloc _ _ _ (by simp)]
      exact heap_alloc_new w _
  case round =>
    obtain ⟨k, hk, rfl, hB1, hB0, hb⟩ := hrel
    by_cases hlt : k < t.length
    · obtain ⟨b, off, rfl, -, hcell⟩ := rd hr hb k hlt
      have hx12 := hlow k hlt
      have E1 := Lib.hid (fun m => mk_step t k m hlt)
      have E2 := Lib.hid (mk_skip t k hlt)
      clear hr hlow
      generalize t.getD k 0 = x at *
      by_cases hx : x < 0
      · have hm : (-1 - x).toNat < 12 := by omega
        have hc := hB1.cell _ hm
        have hf := hB1.free (-1 - x).toNat
        have hi0 : 0 ≤ -1 - x := by omega
        have hi1 : -1 - x < 12 := by omega
        have HS := Lib.hid (hB1.set _ hm true)
        have H0 := Lib.hid (hB0.other (p := ⟨w.heap.size + 1, (-1 - x).toNat, none⟩) (by simp) (.bool true))
        have hbs := hb.set (p := ⟨w.heap.size + 1, (-1 - x).toNat, none⟩) (by simp) (.bool true)
        have hbb := Lib.hid hbs
        clear hB1 hB0 hbs
        go_wp2_with fail
        go_roundw
        case rel => exact ⟨k+1, by omega, by go_num, by rw [← E1.out (-1 - x).toNat (by omega)]; exact HS.out, H0.out, hbb.out⟩
        case measure => simp [intOf]; omega
      · go_wp2_with fail
        go_roundw
        case rel => exact ⟨k+1, by omega, by go_num, by rw [← E2.out (by omega)]; exact hB1, hB0, hb⟩
        case measure => simp [intOf]; omega
    · rw [show t.take k = t from List.take_of_length_le (by omega)] at hB1
      go_wp2_with (first | (refine wpList_load_row rfl 155 (.tmp 3) rfl (w.heap.size + 1) rfl _ _ _ _ hB1 Try.underlying155 rfl Try.info155 ?_) | (refine wpList_store_row rfl 155 (.tmp 2) (.tmp 18) rfl w.heap.size (arr (mk t)) rfl rfl _ _ hB0 Try.info155 rfl (arr_all _) ?_))
      have hrun := run_loadVar_row (P := Try.prog) (wr.setRow w.heap.size (arr (mk t))) w.heap.size 155 155 (arr (mk t)) (0, 0) _ (setRow_heap wr w.heap.size _ (arr (mk t)) 155 (0, 0) hB0) Try.underlying155 rfl Try.info155
      refine bodyPost_ret (v := .agg (arr (mk t))) ?_ rfl ⟨rfl, below_setRow hb (Nat.le_refl _) _⟩
      rw [results_cell_one Try.results155]
      exact hrun
/-- From v on what is left of f. -/
def leftF (f : Nat → Bool) (v j : Nat) : Bool := f j && decide (v ≤ j)
def varsTo (f : Nat → Bool) (v : Nat) : List Nat := (List.range v).filter f
theorem varsTo_succ (f : Nat → Bool) (v : Nat) : varsTo f (v + 1) = if f v then varsTo f v ++ [v] else varsTo f v := by
  unfold varsTo
  rw [List.range_succ, List.filter_append]
  by_cases h : f v <;> simp [h]
theorem left_zero (f : Nat → Bool) : leftF f 0 = f := by funext j; simp [leftF]
theorem left_clear (f : Nat → Bool) (v : Nat) : (fun i => if i = v then false else leftF f v i) = leftF f (v + 1) := by
  funext i
  unfold leftF
  by_cases h : i = v
  · subst h; simp
  · rw [if_neg h]
    congr 1
    rw [decide_eq_decide]; omega
theorem left_skip (f : Nat → Bool) (v : Nat) (h : f v = false) : leftF f v = leftF f (v + 1) := by
  rw [← left_clear]
  funext i
  by_cases e : i = v
  · subst e; simp [leftF, h]
  · rw [if_neg e]
theorem anyB_iff (f : Nat → Bool) : anyB f = true ↔ ∃ j, j < 12 ∧ f j = true := by
  constructor
  · intro h
    simp only [anyB, Bool.or_eq_true] at h
    rcases h with ((((((((((( h | h) | h) | h) | h) | h) | h) | h) | h) | h) | h) | h)
    · exact ⟨0, by omega, h⟩
    · exact ⟨1, by omega, h⟩
    · exact ⟨2, by omega, h⟩
    · exact ⟨3, by omega, h⟩
    · exact ⟨4, by omega, h⟩
    · exact ⟨5, by omega, h⟩
    · exact ⟨6, by omega, h⟩
    · exact ⟨7, by omega, h⟩
    · exact ⟨8, by omega, h⟩
    · exact ⟨9, by omega, h⟩
    · exact ⟨10, by omega, h⟩
    · exact ⟨11, by omega, h⟩
  · rintro ⟨j, hj, h⟩
    match j, hj with
    | 0, _ => simp [anyB, h]
    | 1, _ => simp [anyB, h]
    | 2, _ => simp [anyB, h]
    | 3, _ => simp [anyB, h]
    | 4, _ => simp [anyB, h]
    | 5, _ => simp [anyB, h]
    | 6, _ => simp [anyB, h]
    | 7, _ => simp [anyB, h]
    | 8, _ => simp [anyB, h]
    | 9, _ => simp [anyB, h]
    | 10, _ => simp [anyB, h]
    | 11, _ => simp [anyB, h]
theorem left_some {f : Nat → Bool} {v : Nat} (h : anyB (leftF f v) = true) : v < 12 := by
  obtain ⟨j, hj, h1⟩ := (anyB_iff _).1 h
  simp [leftF] at h1
  omega
theorem left_none {f : Nat → Bool} {v : Nat} (h : anyB (leftF f v) = false) (hv : v ≤ 12) : varsTo f v = varsTo f 12 := by
  have hz : ∀ j, v ≤ j → j < 12 → f j = false := by
    intro j h1 h2
    cases hf : f j with
    | false => rfl
    | true =>
      have : anyB (leftF f v) = true := (anyB_iff _).2 ⟨j, h2, by simp [leftF, hf, h1]⟩
      rw [h] at this; simp at this
  have : ∀ n, v + n ≤ 12 → varsTo f (v + n) = varsTo f v := by
    intro n
    induction n with
    | zero => intro _; rfl
    | succ n ih =>
      intro hn
      rw [show v + (n + 1) = (v + n) + 1 from rfl, varsTo_succ, hz (v + n) (by omega) (by omega), if_neg (by simp), ih (by omega)]
  have h2 := this (12 - v) (by omega)
  rw [show v + (12 - v) = 12 from by omega] at h2
  exact h2.symm
theorem varsTo_len (f : Nat → Bool) (v : Nat) : (varsTo f v).length ≤ v := by
  have := List.length_filter_le f (List.range v)
  simpa [varsTo] using this

def varsAns (ar t : List Int) : List Int := if goodTerm ar t then natsI (varsTo (mk t) 12) else []
theorem varsAns_len (ar t : List Int) : (varsAns ar t).length ≤ 1048576 := by
  unfold varsAns
  split
  · rw [natsI_len]; exact Nat.le_trans (varsTo_len _ _) (by omega)
  · exact Nat.zero_le _
theorem vars_no {ar t : List Int} (h : goodTerm ar t = false) : varsAns ar t = [] := by simp [varsAns, h]
theorem vars_yes {ar t : List Int} (h : goodTerm ar t = true) : varsAns ar t = natsI (varsTo (mk t) 12) := by simp [varsAns, h]
theorem low_of_good {ar t : List Int} (h : goodTerm ar t = true) : ∀ k, k < t.length → -12 ≤ t.getD k 0 := by
  intro k hk
  have := good_sym ar t (goodTerm_iff.1 h).2 k hk
  simp [okSym, inB] at this
  simp only [List.getD]
  omega

set_option maxRecDepth 100000 in
set_option maxHeartbeats 1000000 in
theorem mvars_c (f : Nat → Bool) (w : World) : Calls Try.prog 157 #[.agg (arr f)] w (RetI w (natsI (varsTo f 12))) := by
  obtain ⟨i0, hi0, hz0, hz1, hz2⟩ := info_parts Try.info3
  have hneq := fun (W : World) (f : Nat → Bool) => eq12 W (f 0) (f 1) (f 2) (f 3) (f 4) (f 5) (f 6) (f 7) (f 8) (f 9) (f 10) (f 11)
  have HNEQ : Hid (∀ (W : World) (f : Nat → Bool), (Op.equalIn 10000 155 (.agg (arr f)) (.agg #[.bool false, .bool false, .bool false, .bool false, .bool false, .bool false, .bool false, .bool false, .bool false, .bool false, .bool false, .bool false])).run Try.prog W = .ok (!anyB f) W) := hneq
  clear hneq
  have HBB : Hid ((w.alloc (.cells (arr f) 155)).heap[w.heap.size]? = some (.cells (arr f) 155 (0, 0))) := heap_alloc_new w _
  go_enter Try.func157, Try.ntmps157
  go_wp2_with fail
  go_loopw [3, 4] (fun o x wr => ∃ vv : Nat, vv ≤ 12 ∧ x = .int .i64 vv ∧ BlkIs wr w.heap.size 155 (leftF f vv) ∧
      wr.ownsRow (w.heap.size + 1) 3 1 o (natsI (varsTo f vv)).length ((natsI (varsTo f vv)).map (Value.int .i64)) ∧ Bel w wr ∧ w.heap.size + 1 ≤ wr.heap.size) (fun _ x _ => 12 - (intOf x).toNat)
  case atStart => exact ⟨0, Nat.zero_le _, rfl, by rw [left_zero]; exact HBB.out, World.ownsRow_nil _ _ _ _, Bel.alloc0 w _, by simp⟩
  case round =>
    obtain ⟨vv, hvv, rfl, hB, hown, hbr, hsz⟩ := hrel
    have hq := HNEQ.out wr (leftF f vv)
    have hvl := varsTo_len f vv
    have ES := Lib.hid (varsTo_succ f vv)
    have hnl : (natsI (varsTo f vv)).length ≤ 12 := by rw [natsI_len]; omega
    cases hany : anyB (leftF f vv) with
    | false =>
      rw [hany] at hq
      have EN := Lib.hid (left_none hany hvv)
      clear hany
      obtain ⟨g, m2, c2, hv'⟩ := own_form hown
      subst hv'
      go_wp2_with (refine wpList_load_row rfl 155 (.tmp 1) rfl w.heap.size rfl _ _ _ _ hB Try.underlying155 rfl Try.info155 ?_)
      go_ret
      exact ⟨_, _, _, rfl, by rw [← EN.out]; exact (OwnI.of_row hown).mono (by omega) (Nat.le_refl _), hbr⟩
    | true =>
      rw [hany] at hq
      have hv12 := left_some hany
      have hcell := hB.cell vv hv12
      have hfree := hB.free vv
      have hvi : (vv : Int) < 12 := by omega
      cases hf : f vv with
      | false =>
        have hl : leftF f vv vv = false := by simp [leftF, hf]
        rw [hl] at hcell
        have EL := Lib.hid (left_skip f vv hf)
        have EV : Hid (varsTo f (vv + 1) = varsTo f vv) := by show _ = _; rw [ES.out, hf]; rfl
        have HB := Lib.hid hB
        clear hany hf hl
        go_wp2_with (refine wpList_load_row rfl 155 (.tmp 1) rfl w.heap.size rfl _ _ _ _ HB.out Try.underlying155 rfl Try.info155 ?_)
        go_roundw
        case rel => exact ⟨vv + 1, by omega, by go_num, by rw [← EL.out]; exact HB.out, by rw [EV.out]; exact hown, hbr, hsz⟩
        case measure => simp [intOf]; omega
      | true =>
        have hl : leftF f vv vv = true := by simp [leftF, hf]
        rw [hl] at hcell
        have EV : Hid (natsI (varsTo f (vv + 1)) = natsI (varsTo f vv) ++ [(vv : Int)]) := by show _ = _; rw [ES.out, hf, if_pos rfl, natsI_snoc]
        have HB := Lib.hid hB
        clear hany hf hl
        go_wp2_with (first | (at_builtin; refine wpList_append_own _ rfl _ _ 22 rfl (w.heap.size + 1) 3 i0 (.int .i64 0) 1 8 Try.underlying22 hi0 hz0 hz1 hz2 rfl (by decide) _ _ _ rfl (hown.alloc _) ⟨wr.heap.size, 0, none⟩ 1 1 [.int .i64 vv] rfl rfl (news_one _ _ _) (one_int _) (by unfold maxLen; omega) (by omega) (by simp; omega) ?_; intro v' w3 hown' hgrow _; have hB3 := blk_grown HB.out hown hgrow; have hcell3 := hB3.cell vv hv12; have hfree3 := hB3.free vv) | (refine wpList_load_row rfl 155 (.tmp 1) rfl w.heap.size rfl _ _ _ _ HB.out Try.underlying155 rfl Try.info155 ?_))
        have hB4 := hB3.set vv hv12 false
        rw [left_clear] at hB4
        have hown4 := ownsRow_setCell_below (row_snoc hown') (a := ⟨w.heap.size, vv, none⟩) (by simp) (.bool false)
        rw [← EV.out] at hown4
        have hbr4 := ((hbr.alloc (.cells #[.int .i64 (vv : Int)] 3)).grown hgrow (fun k hk => by have := own_base hown k hk; omega)).set (p := ⟨w.heap.size, vv, none⟩) (Nat.le_refl _) (.bool false)
        have hsz4 : w.heap.size + 1 ≤ (w3.setCell ⟨w.heap.size, vv, none⟩ (.bool false)).heap.size := by have := hgrow.size; simp at this ⊢; omega
        go_roundw
        case rel => exact ⟨vv + 1, by omega, by go_num, hB4, hown4, hbr4, hsz4⟩
        case measure => simp [intOf]; omega

end Go.Proofs.Ytikllmdmifecpaa
end
section
/- Chapter 4: facts on the answers. No program. -/
namespace Go.Proofs.Ytikllmdmifecpaa
open Go.RowKit

theorem flat_all (ar : List Int) (c : List Lt) : (flatC c).all (okTerm ar) = c.all (okLit ar) := by
  induction c with
  | nil => rfl
  | cons x r ih => rw [flatC_cons]; simp only [List.all_cons, ih, okLit, Bool.and_assoc]
theorem goodTerms_flat (ar : List Int) {c : List Lt} (h : c.length ≤ 8) : goodTerms ar (flatC c) 16 = goodClause ar c := by
  unfold goodTerms goodClause okLits
  rw [flat_all, flatC_len, decide_eq_true (show 2 * c.length ≤ 16 by omega), decide_eq_true h, Bool.and_true, Bool.true_and]
theorem goodClause_long (ar : List Int) {c : List Lt} (h : ¬ c.length ≤ 8) : goodClause ar c = false := by
  unfold goodClause okLits
  rw [decide_eq_false h]; simp
theorem flat_mem {c : List Lt} {t : List Int} (h : t ∈ flatC c) : ∃ x ∈ c, t = x.2.1 ∨ t = x.2.2 := by
  unfold flatC at h
  obtain ⟨x, hx, ht⟩ := List.mem_flatMap.1 h
  exact ⟨x, hx, by simpa using ht⟩
theorem flat_ok {ar : List Int} {c : List Lt} (h : ∀ x ∈ c, okLit ar x = true) {t : List Int} (ht : t ∈ flatC c) : okTerm ar t = true := by
  obtain ⟨x, hx, e⟩ := flat_mem ht
  have := okLit_iff.1 (h x hx)
  rcases e with rfl | rfl
  · exact this.1
  · exact this.2
theorem mem_getD {α : Type} (l : List α) (d : α) (j : Nat) (h : j < l.length) : l.getD j d ∈ l := by
  rw [List.getD_eq_getElem?_getD, List.getElem?_eq_getElem h]; exact List.getElem_mem h
theorem ok_litC {ar : List Int} {c : List Lt} (h : goodClause ar c = true) {j : Nat} (hj : j < c.length) : okTerm ar (c.getD j lt0).2.1 = true ∧ okTerm ar (c.getD j lt0).2.2 = true :=
  okLits_get (goodClause_iff.1 h).2.2 j hj

theorem low_memC {t : List Int} (h : ∀ n ∈ t, -12 ≤ n) : ∀ k, k < t.length → -12 ≤ t.getD k 0 := fun k hk => h _ (mem_getD t 0 k hk)
theorem ok_low {ar t : List Int} (h : okTerm ar t = true) {n : Int} (hn : n ∈ t) : -12 ≤ n := by
  obtain ⟨k, hk, rfl⟩ := List.getElem_of_mem hn
  have := good_sym ar t h k hk
  simp [okSym, inB, hk] at this
  exact this.1
theorem flat_low {ar : List Int} {c : List Lt} (h : goodClause ar c = true) : ∀ k, k < (flatC c).flatten.length → -12 ≤ (flatC c).flatten.getD k 0 := by
  refine low_memC fun n hn => ?_
  obtain ⟨t, ht, hnt⟩ := List.mem_flatten.1 hn
  exact ok_low (flat_ok (goodClause_iff.1 h).2.2 ht) hnt

/-- The signs of c, those terms. -/
theorem zipC_len (c : List Lt) : ∀ ts : List (List Int), ts.length = 2 * c.length → (zipC c ts).length = c.length := by
  induction c with
  | nil => intro ts _; rfl
  | cons x c ih =>
    intro ts h
    match ts, h with
    | l :: r :: ts, h => simp [zipC, ih ts (by simp at h; omega)]
theorem zipC_flat (c : List Lt) : ∀ ts : List (List Int), ts.length = 2 * c.length → flatC (zipC c ts) = ts := by
  induction c with
  | nil => intro ts h; simp at h; subst h; rfl
  | cons x c ih =>
    intro ts h
    match ts, h with
    | l :: r :: ts, h => simp only [zipC, flatC_cons]; rw [ih ts (by simp at h; omega)]
theorem zipC_signs (c : List Lt) : ∀ ts : List (List Int), ts.length = 2 * c.length → (zipC c ts).map (·.1) = c.map (·.1) := by
  induction c with
  | nil => intro ts _; rfl
  | cons x c ih =>
    intro ts h
    match ts, h with
    | l :: r :: ts, h => simp [zipC, ih ts (by simp at h; omega)]
theorem zipC_get (c : List Lt) : ∀ (ts : List (List Int)) (j : Nat), ts.length = 2 * c.length → j < c.length → (zipC c ts).getD j lt0 = ((c.getD j lt0).1, ts.getD (2*j) [], ts.getD (2*j+1) []) := by
  induction c with
  | nil => intro ts j _ h; simp at h
  | cons x c ih =>
    intro ts j h hj
    match ts, h with
    | l :: r :: ts, h =>
      cases j with
      | zero => simp [zipC]
      | succ j =>
        have := ih ts j (by simp at h; omega) (by simpa using hj)
        simpa [zipC, show 2 * (j + 1) = 2 * j + 1 + 1 from by omega] using this
theorem zipC_map (f : List Int → List Int) (c : List Lt) : zipC c ((flatC c).map f) = c.map fun x => (x.1, f x.2.1, f x.2.2) := by
  induction c with
  | nil => rfl
  | cons x c ih => rw [flatC_cons]; simp [zipC, ih]

def varsInAns (ar : List Int) (c : List Lt) : List Int := if goodClause ar c then natsI (varsTo (mk (flatC c).flatten) 12) else []
theorem varsInAns_len (ar : List Int) (c : List Lt) : (varsInAns ar c).length ≤ 1048576 := by
  unfold varsInAns
  split
  · rw [natsI_len]; exact Nat.le_trans (varsTo_len _ _) (by omega)
  · exact Nat.zero_le _

def applyC (b : List (List Int)) (c : List Lt) : List Lt := c.map fun x => (x.1, appT b x.2.1, appT b x.2.2)
def applyCok (ar : List Int) (b : List (List Int)) (c : List Lt) : Bool := (goodSubst ar b && okLits ar c) && okLits ar (applyC b c)
def applyCAns (ar : List Int) (b : List (List Int)) (c : List Lt) : List Lt := if applyCok ar b c then applyC b c else []
theorem applyC_flat (b : List (List Int)) (c : List Lt) : flatC (applyC b c) = (flatC c).map (appT b) := by
  induction c with
  | nil => rfl
  | cons x c ih => rw [flatC_cons, show applyC b (x :: c) = (x.1, appT b x.2.1, appT b x.2.2) :: applyC b c from rfl, flatC_cons, ih]; rfl
theorem applyC_ok {ar : List Int} {b : List (List Int)} {c : List Lt} (hb : goodSubst ar b = true) (hc : okLits ar c = true) : okLits ar (applyC b c) = (flatC c).all (app40ok b) := by
  obtain ⟨hl, h⟩ := okLits_iff.1 hc
  unfold okLits
  rw [← flat_all, applyC_flat, show (applyC b c).length = c.length from by simp [applyC], decide_eq_true hl, Bool.true_and, List.all_map]
  rw [Bool.eq_iff_iff, List.all_eq_true, List.all_eq_true]
  constructor
  · intro k t ht
    rw [← app_ok hb (flat_ok h ht)]; exact k t ht
  · intro k t ht
    show okTerm ar (appT b t) = true
    rw [app_ok hb (flat_ok h ht)]; exact k t ht

def renC (c : List Lt) : List Lt := zipC c (renS [] (flatC c))
def renCAns (ar : List Int) (c : List Lt) : List Lt := if goodClause ar c then renC c else []
end Go.Proofs.Ytikllmdmifecpaa
end
section
/- Chapter 4, the reference: literals and clauses that are valid, weights. -/
namespace Go.Proofs.Ytikllmdmifecpaa
open Go.RowKit

set_option maxRecDepth 100000 in
set_option maxHeartbeats 400000 in
theorem l4Lit_c (l h l' h' : Nat) (v u1 u2 : Value) (ar xl xr : List Int) (p : Bool) (w : World) (hg : goodSign ar = true) (hl : xl.length ≤ 1048576) (hr : xr.length ≤ 1048576) (hv : SlI l h w v ar) (h1 : SlI l' h' w u1 xl) (h2 : SlI l' h' w u2 xr) :
    Calls Try.prog 132 #[.agg #[v], .agg #[.bool p, u1, u2]] w (RetV w (.bool (okTerm ar xl && okTerm ar xr))) := by
  have HB : Bel w ((w.alloc (.cells #[v] 29)).alloc (.cells #[.bool p, u1, u2] 106)) := Bel.alloc2 _ _ _
  cases e1 : okTerm ar xl with
  | false =>
    have HC := Lib.hid (fun (w' : World) (hb : Bel w w') => l1Term_v l h l' h' v u1 ar xl false w' e1 hg hl (hv.below hb) (h1.below hb))
    clear hv h1 h2 e1
    go_enter Try.func132, Try.ntmps132
    go_wp2_with fail
    refine (HC.out _ HB).mono ?_; rintro e w1 ⟨rfl, hb1⟩
    go_wp2_with fail
    go_ret
    exact ⟨rfl, HB.step hb1⟩
  | true =>
    rw [Bool.true_and]
    have HC := Lib.hid (fun (w' : World) (hb : Bel w w') => l1Term_v l h l' h' v u1 ar xl true w' e1 hg hl (hv.below hb) (h1.below hb))
    have HD := Lib.hid (fun (w' : World) (hb : Bel w w') => l1Term_c l h l' h' v u2 ar xr w' hg hr (hv.below hb) (h2.below hb))
    clear hv h1 h2 e1
    go_enter Try.func132, Try.ntmps132
    go_wp2_with fail
    refine (HC.out _ HB).mono ?_; rintro e w1 ⟨rfl, hb1⟩
    have k0 := hb1.at (b := w.heap.size) (off := 0) (by simp; omega) (show World.cell? _ _ = some v by simp [go_sem])
    have k2 := hb1.at (b := w.heap.size + 1) (off := 2) (by simp) (show World.cell? _ _ = some u2 by simp [go_sem])
    go_wp2_with fail
    refine (HD.out _ (HB.step hb1)).mono ?_; rintro e w2 ⟨rfl, hb2⟩
    go_wp2_with fail
    go_ret
    exact ⟨rfl, (HB.step hb1).step hb2⟩
end Go.Proofs.Ytikllmdmifecpaa
end
section
/- The laws' helpers over literals and slices of literals, by contracts: sizes and copies. -/
namespace Go.Proofs.Ytikllmdmifecpaa
open Go.RowKit

set_option maxRecDepth 100000 in
set_option maxHeartbeats 400000 in
theorem szLit_c (l h : Nat) (p : Bool) (u1 u2 : Value) (xl xr : List Int) (left : Int) (w : World) (hl : xl.length ≤ 9223372036854775807) (hr : xr.length ≤ 9223372036854775807) (h0 : 0 ≤ left) (h1 : left ≤ 1048576) (hv1 : SlI l h w u1 xl) (hv2 : SlI l h w u2 xr) :
    Calls Try.prog 87 #[.agg #[.bool p, u1, u2], .int .i64 left] w (RetV w (.int .i64 (szI (xl.length + xr.length) left))) := by
  have HB := Bel.alloc0 w (.cells #[.bool p, u1, u2] 104)
  by_cases hs : left - xl.length < 0
  · have E : Hid (szI (xl.length + xr.length) left = -1) := by show szI _ _ = _; unfold szI; rw [if_pos (by omega)]
    have e1 : szI xl.length left = -1 := by unfold szI; rw [if_pos hs]
    have HC := Lib.hid (szIntS_c l h u1 xl left _ hl h0 h1 (hv1.below HB))
    rw [e1] at HC
    clear hv1 hv2 hs e1
    go_enter Try.func87, Try.ntmps87
    go_wp2_with (go_at_call 70; refine HC.out.mono ?_; rintro e w' ⟨rfl, hb1⟩)
    go_ret
    exact ⟨by rw [E.out]; rfl, HB.step hb1⟩
  · have e1 : szI xl.length left = left - xl.length := by unfold szI; rw [if_neg hs]
    have HC := Lib.hid (szIntS_c l h u1 xl left _ hl h0 h1 (hv1.below HB))
    rw [e1] at HC
    have hz0 : 0 ≤ left - (xl.length : Int) := by omega
    have hz1 : left - (xl.length : Int) ≤ 1048576 := by omega
    by_cases hs2 : left - xl.length - xr.length < 0
    · have E : Hid (szI (xl.length + xr.length) left = -1) := by show szI _ _ = _; unfold szI; rw [if_pos (by omega)]
      have e2 : szI xr.length (left - xl.length) = -1 := by unfold szI; rw [if_pos hs2]
      have HD := Lib.hid (fun (w' : World) (hb : Bel (w.alloc (.cells #[.bool p, u1, u2] 104)) w') => szIntS_c l h u2 xr (left - xl.length) w' hr hz0 hz1 ((hv2.below HB).below hb))
      rw [e2] at HD
      clear hv1 hv2 hs e1 hs2 e2
      generalize left - (xl.length : Int) = z at *
      go_enter Try.func87, Try.ntmps87
      go_wp2_with fail
      refine HC.out.mono ?_; rintro e w1 ⟨rfl, hb1⟩
      have hbx := hb1.at (b := w.heap.size) (off := 2) (by simp) (show (w.alloc (.cells #[.bool p, u1, u2] 104)).cell? ⟨w.heap.size, 2, none⟩ = some u2 by simp)
      go_wp2_with fail
      refine (HD.out _ hb1).mono ?_; rintro e w2 ⟨rfl, hb2⟩
      go_wp2_with fail
      go_ret
      exact ⟨by rw [E.out]; rfl, (HB.step hb1).step hb2⟩
    · have E : Hid (szI (xl.length + xr.length) left = left - xl.length - xr.length) := by show szI _ _ = _; unfold szI; rw [if_neg (by omega)]; omega
      have e2 : szI xr.length (left - xl.length) = left - xl.length - xr.length := by unfold szI; rw [if_neg hs2]
      have HD := Lib.hid (fun (w' : World) (hb : Bel (w.alloc (.cells #[.bool p, u1, u2] 104)) w') => szIntS_c l h u2 xr (left - xl.length) w' hr hz0 hz1 ((hv2.below HB).below hb))
      rw [e2] at HD
      have hy0 : 0 ≤ left - (xl.length : Int) - xr.length := by omega
      clear hv1 hv2 hs e1 hs2 e2
      generalize left - (xl.length : Int) - (xr.length : Int) = y at *
      generalize left - (xl.length : Int) = z at *
      go_enter Try.func87, Try.ntmps87
      go_wp2_with fail
      refine HC.out.mono ?_; rintro e w1 ⟨rfl, hb1⟩
      have hbx := hb1.at (b := w.heap.size) (off := 2) (by simp) (show (w.alloc (.cells #[.bool p, u1, u2] 104)).cell? ⟨w.heap.size, 2, none⟩ = some u2 by simp)
      go_wp2_with fail
      refine (HD.out _ hb1).mono ?_; rintro e w2 ⟨rfl, hb2⟩
      go_wp2_with fail
      go_ret
      exact ⟨by rw [E.out]; rfl, (HB.step hb1).step hb2⟩

def szC (c : List Lt) (left : Int) : Int := if left - (sumC c : Nat) < 0 then -1 else left - (sumC c : Nat)
def lenC (c : List Lt) : Nat := sumL (flatC c)
theorem sumC_eq (c : List Lt) : sumC c = c.length + lenC c := by
  unfold lenC
  induction c with
  | nil => rfl
  | cons x r ih => rw [flatC_cons]; simp only [sumC, sumL, List.map_cons, List.sum_cons, List.length_cons, wC] at *; omega
theorem lenC_take (c : List Lt) (k : Nat) (h : k < c.length) : lenC (c.take (k+1)) = lenC (c.take k) + ((c.getD k lt0).2.1.length + (c.getD k lt0).2.2.length) := by
  have h1 := sumC_take c k h
  rw [sumC_eq, sumC_eq] at h1
  have e1 : (c.take (k+1)).length = k + 1 := by rw [List.length_take]; omega
  have e2 : (c.take k).length = k := by rw [List.length_take]; omega
  unfold wC at h1
  omega
theorem lenC_all (c : List Lt) (k : Nat) (h : ¬ k < c.length) : lenC (c.take k) = lenC c := by rw [List.take_of_length_le (by omega)]
theorem lenC_get (c : List Lt) (k : Nat) (h : k < c.length) : lenC (c.take k) + ((c.getD k lt0).2.1.length + (c.getD k lt0).2.2.length) ≤ lenC c := by
  rw [← lenC_take c k h]
  conv => rhs; rw [← List.take_append_drop (k+1) c]
  unfold lenC
  rw [flatC_app]; unfold sumL; rw [List.map_append, List.sum_append]; omega
theorem SlC.max {lo hi w v c} (h : SlC lo hi w v c) : c.length ≤ 9223372036854775807 ∧ ∀ j, j < c.length → (c.getD j lt0).2.1.length ≤ 9223372036854775807 ∧ (c.getD j lt0).2.2.length ≤ 9223372036854775807 := by
  obtain ⟨ad, cap, e, hc, hm, hr⟩ := h
  have hml : maxLen = 9223372036854775807 := rfl
  refine ⟨by omega, fun j hj => ?_⟩
  obtain ⟨b, off, _, _, _, hx⟩ := hr (by omega)
  obtain ⟨u1, u2, _, _, _, ⟨ad2, cap2, _, hc2, hm2, _⟩, ⟨ad3, cap3, _, hc3, hm3, _⟩⟩ := hx j hj
  omega

set_option maxRecDepth 100000 in
set_option maxHeartbeats 400000 in
theorem szLitS_c (l h : Nat) (v : Value) (c : List Lt) (left : Int) (w : World) (h0 : 0 ≤ left) (h1 : left ≤ 1048576) (hv : SlC l h w v c) :
    Calls Try.prog 35 #[v, .int .i64 left] w (RetV w (.int .i64 (szC c left))) := by
  obtain ⟨ad, cap, rfl⟩ := hv.form
  obtain ⟨hx, hmax⟩ := hv.max
  have hse := sumC_eq c
  by_cases hs : left - c.length < 0
  · have E : Hid (szC c left = -1) := by show szC _ _ = _; unfold szC; rw [if_pos (by omega)]
    go_enter Try.func35, Try.ntmps35
    go_wp2_with fail
    go_ret
    exact ⟨by rw [E.out]; rfl, Bel.rfl' _⟩
  · have hw1 := IntWalk.i64_in (left - c.length) (by omega)
    go_enter Try.func35, Try.ntmps35
    go_wp2_with fail
    go_loopw [1, 5] (fun m i wr => ∃ (k : Nat) (z : Int), k ≤ c.length ∧ i = .int .i64 k ∧ m = .int .i64 z ∧ 0 ≤ z ∧ z = left - c.length - (lenC (c.take k) : Nat) ∧ Bel w wr) (fun _ i _ => c.length - (intOf i).toNat)
    case atStart => exact ⟨0, _, Nat.zero_le _, rfl, by go_num, by omega, by simp [lenC, flatC, sumL], Bel.rfl' _⟩
    case round =>
      obtain ⟨k, z, hk, rfl, rfl, hz0, hz, hb⟩ := hrel
      by_cases hlt : k < c.length
      · obtain ⟨b, off, u1, u2, rfl, -, c1, c2, c3, s1, s2⟩ := hv.at hb k hlt
        obtain ⟨hm1, hm2⟩ := hmax k hlt
        have hst := lenC_take c k hlt
        have hsl := lenC_get c k hlt
        have hcall := szLit_c l h (c.getD k lt0).1 u1 u2 (c.getD k lt0).2.1 (c.getD k lt0).2.2 z wr hm1 hm2 hz0 (by omega) s1 s2
        have hin0 : (0 : Int) ≤ k := by omega
        have hin1 : (k : Int) < c.length := by omega
        generalize hp : (c.getD k lt0).1 = p at *
        generalize hxl : (c.getD k lt0).2.1 = xl at *
        generalize hxr : (c.getD k lt0).2.2 = xr at *
        by_cases hneg : z - (xl.length + xr.length : Int) < 0
        · have e1 : szI (xl.length + xr.length) z = -1 := by unfold szI; rw [if_pos hneg]
          have E : Hid (szC c left = -1) := by show szC _ _ = _; unfold szC; rw [if_pos (by omega)]
          rw [e1] at hcall
          have HC := Lib.hid hcall
          clear hcall hv s1 s2 hmax hst hsl e1 hneg hz hse hxl hxr hp
          go_wp2_with (go_at_call 87; refine HC.out.mono ?_; rintro e w' ⟨rfl, hb1⟩)
          go_ret
          exact ⟨by rw [E.out]; rfl, hb.step hb1⟩
        · have e1 : szI (xl.length + xr.length) z = z - (xl.length + xr.length) := by unfold szI; rw [if_neg hneg]
          have hz' : z - ((xl.length : Int) + xr.length) = left - c.length - (lenC (c.take (k+1)) : Nat) := by omega
          rw [e1] at hcall
          have HC := Lib.hid hcall
          have HZ := Lib.hid hz'
          have hz2 : 0 ≤ z - ((xl.length : Int) + xr.length) := by omega
          clear hcall hv s1 s2 hmax hst hsl e1 hneg hz hz' hse hxl hxr hp
          generalize z - ((xl.length : Int) + xr.length) = z2 at *
          go_wp2_with (go_at_call 87; refine HC.out.mono ?_; rintro e w' ⟨rfl, hb1⟩)
          go_roundw
          case rel => exact ⟨k+1, z2, by omega, by go_num, rfl, hz2, HZ.out, hb.step hb1⟩
          case measure => simp [intOf]; omega
      · have E : Hid (szC c left = z) := by
          show szC _ _ = _
          rw [lenC_all c k hlt] at hz
          unfold szC; rw [if_neg (by omega)]; omega
        clear hz
        go_wp2_with fail
        go_ret
        exact ⟨by rw [E.out]; rfl, hb⟩
end Go.Proofs.Ytikllmdmifecpaa
end
