/- Texts merged, part 7. -/
import Derived.Laws.BytesString
import Derived.Lib.Bytealg
import Derived.Lib.Strings
import Derived.Test.YtajmjjandkdhiaaMgClauseText6
section
/- Chapter 4, the reference: GoodClause, WeightOf. -/
namespace Go.Proofs.Ytajmjjandkdhiaa
open Go.RowKit

set_option maxRecDepth 100000 in
set_option maxHeartbeats 400000 in
theorem sGoodClause_t {l h l' h' : Nat} {v u : Value} {ar : List Int} {c : List Lt} {w : World} (ha : ar.length ≤ 1048576) (hv : SlI l h w v ar) (hc : sumC c ≤ 1048576) (hu : SlC l' h' w u c) :
    Calls Try.prog 23 #[.agg #[v], u] w (RetV w (.bool (goodClause ar c))) := by
  unfold goodClause
  cases hg : goodSign ar with
  | false =>
    rw [Bool.false_and]
    have HG := Lib.hid hg; clear hg
    go_enter Try.func23, Try.ntmps23
    go_wp2_with fail
    refine (sGoodSign_v _ _ _ _ _ _ HG.out ha (hv.alloc _)).mono ?_; rintro e w1 ⟨rfl, hb1⟩
    go_wp2_with fail
    go_ret
    exact ⟨rfl, hb1.of_alloc⟩
  | true =>
    rw [Bool.true_and]
    have HG := Lib.hid hg
    have HC := Lib.hid (fun (w' : World) (hb : Bel w w') => l4Clause_c l h l' h' v u ar c w' hg (shortC_of_sum hc) (hv.below hb) (hu.below hb))
    clear hg hc
    go_enter Try.func23, Try.ntmps23
    go_wp2_with fail
    refine (sGoodSign_v _ _ _ _ _ _ HG.out ha (hv.alloc _)).mono ?_; rintro e w1 ⟨rfl, hb1⟩
    have hbox := boxc hb1 0 _ rfl
    go_wp2_with fail
    refine (HC.out _ hb1.of_alloc).mono ?_; rintro e w2 ⟨rfl, hb2⟩
    go_wp2_with fail
    go_ret
    exact ⟨rfl, hb1.of_alloc.step hb2⟩
theorem sGoodClause_v {l h l' h' : Nat} {v u : Value} {ar : List Int} {c : List Lt} {w : World} {q : Bool} (he : goodClause ar c = q) (ha : ar.length ≤ 1048576) (hv : SlI l h w v ar) (hc : sumC c ≤ 1048576) (hu : SlC l' h' w u c) :
    Calls Try.prog 23 #[.agg #[v], u] w (RetV w (.bool q)) := by subst he; exact sGoodClause_t ha hv hc hu

set_option maxRecDepth 100000 in
set_option maxHeartbeats 400000 in
theorem sWeightOf_t {l h l' h' : Nat} {v u : Value} {ar : List Int} {c : List Lt} {w : World} (ha : ar.length ≤ 1048576) (hv : SlI l h w v ar) (hc : sumC c ≤ 1048576) (hu : SlC l' h' w u c) :
    Calls Try.prog 49 #[.agg #[v], u] w (RetV w (.tuple #[.int .i64 (weightAns ar c), .bool (goodClause ar c)])) := by
  unfold weightAns
  cases hg : goodClause ar c with
  | false =>
    rw [if_neg (by simp)]
    have HG := Lib.hid hg; clear hg
    go_enter Try.func49, Try.ntmps49
    go_wp2_with fail
    refine (sGoodClause_v HG.out ha (hv.alloc _) hc (hu.alloc _)).mono ?_; rintro e w1 ⟨rfl, hb1⟩
    go_wp2_with fail
    go_ret2
    exact ⟨rfl, hb1.of_alloc⟩
  | true =>
    rw [if_pos rfl]
    have HG := Lib.hid hg; clear hg
    have HC := Lib.hid (fun (w' : World) (hb : Bel w w') => l4Weight_c l' h' u c w' hc (hu.below hb))
    go_enter Try.func49, Try.ntmps49
    go_wp2_with fail
    refine (sGoodClause_v HG.out ha (hv.alloc _) hc (hu.alloc _)).mono ?_; rintro e w1 ⟨rfl, hb1⟩
    clear hc
    go_wp2_with fail
    refine (HC.out _ hb1.of_alloc).mono ?_; rintro e w2 ⟨rfl, hb2⟩
    go_wp2_with fail
    go_ret2
    exact ⟨rfl, hb1.of_alloc.step hb2⟩
end Go.Proofs.Ytajmjjandkdhiaa
end
section
/- DepthOf: both functions. -/
namespace Go.Proofs.Ytajmjjandkdhiaa
open Go.RowKit

/-- The greatest of some numbers, from m on. -/
def maxL (m : Nat) : List Nat → Nat
  | [] => m
  | x :: l => maxL (max m x) l
theorem maxL_snoc (m : Nat) (l : List Nat) (x : Nat) : maxL m (l ++ [x]) = max (maxL m l) x := by
  induction l generalizing m with
  | nil => rfl
  | cons y l ih => exact ih _
theorem maxL_le (m n : Nat) (l : List Nat) (hm : m ≤ n) (h : ∀ x ∈ l, x ≤ n) : maxL m l ≤ n := by
  induction l generalizing m with
  | nil => exact hm
  | cons y l ih => exact ih _ (by have := h y (by simp); omega) (fun x hx => h x (by simp [hx]))

def depthF (ar t : List Int) : Nat → Nat → Nat
  | 0, _ => 0
  | f + 1, i => 1 + maxL 0 ((argsOf ar t i).map (depthF ar t f))
/-- The depth of the subterm at i. -/
def depthAt (ar t : List Int) (i : Nat) : Nat := depthF ar t (t.length - i) i

theorem argsGo_bd (ar t : List Int) : ∀ (k p e : Nat), endGo ar (t.drop p) k p = some e → ∀ a ∈ argsGo ar t k p, p ≤ a ∧ a < e := by
  intro k
  induction k with
  | zero => intro p e _ a ha; simp [argsGo] at ha
  | succ k ih =>
    intro p e h a ha
    obtain ⟨q, hq, hr, hpq, hqe⟩ := ends_step ar t p k e h
    rw [argsGo_succ hq] at ha
    rcases List.mem_cons.1 ha with rfl | ha
    · omega
    · have := ih q e hr a ha; omega
theorem argsOf_bd (ar t : List Int) (h : okTerm ar t = true) (i : Nat) (hi : i < t.length) : ∀ a ∈ argsOf ar t i, i < a ∧ a < t.length := by
  obtain ⟨e, h1, h2⟩ := good_args ar t h i hi
  intro a ha
  have := argsGo_bd ar t _ _ _ h1 a ha
  omega
theorem depthF_fuel (ar t : List Int) (h : okTerm ar t = true) : ∀ (n i : Nat), i < t.length → t.length - i ≤ n → ∀ f, t.length - i ≤ f → depthF ar t f i = depthAt ar t i := by
  intro n
  induction n with
  | zero => intro i hi hn; omega
  | succ n ih =>
    intro i hi hn f hf
    obtain ⟨f, rfl⟩ : ∃ f', f = f' + 1 := ⟨f - 1, by omega⟩
    unfold depthAt
    obtain ⟨g, hg⟩ : ∃ g, t.length - i = g + 1 := ⟨t.length - i - 1, by omega⟩
    rw [hg, depthF, depthF]
    congr 2
    apply List.map_congr_left
    intro a ha
    have hb := argsOf_bd ar t h i hi a ha
    rw [ih a hb.2 (by omega) f (by omega), ih a hb.2 (by omega) g (by omega)]
theorem depthAt_eq (ar t : List Int) (h : okTerm ar t = true) (i : Nat) (hi : i < t.length) : depthAt ar t i = 1 + maxL 0 ((argsOf ar t i).map (depthAt ar t)) := by
  conv => lhs; unfold depthAt
  obtain ⟨g, hg⟩ : ∃ g, t.length - i = g + 1 := ⟨t.length - i - 1, by omega⟩
  rw [hg, depthF]
  congr 2
  apply List.map_congr_left
  intro a ha
  have hb := argsOf_bd ar t h i hi a ha
  exact depthF_fuel ar t h t.length a hb.2 (by omega) g (by omega)
theorem depthF_le (ar t : List Int) : ∀ f i, depthF ar t f i ≤ f := by
  intro f
  induction f with
  | zero => intro i; exact Nat.le_refl _
  | succ f ih =>
    intro i
    rw [depthF]
    have := maxL_le 0 f ((argsOf ar t i).map (depthF ar t f)) (Nat.zero_le _) (by intro x hx; simp at hx; obtain ⟨a, _, rfl⟩ := hx; exact ih a)
    omega
theorem depthAt_le (ar t : List Int) (i : Nat) : depthAt ar t i ≤ t.length := Nat.le_trans (depthF_le ar t _ i) (by omega)

theorem maxD_le (ar t : List Int) (l : List Nat) : maxL 0 (l.map (depthAt ar t)) ≤ t.length :=
  maxL_le 0 t.length _ (Nat.zero_le _) (by intro x hx; rw [List.mem_map] at hx; obtain ⟨a, _, rfl⟩ := hx; exact depthAt_le ar t a)
theorem natsI_get (l : List Nat) (k : Nat) (h : k < l.length) : (natsI l).getD k 0 = ((l.getD k 0 : Nat) : Int) := by simp [natsI, List.getD, h]
theorem maxL_step (d : Nat → Nat) (l : List Nat) (k : Nat) (h : k < l.length) : maxL 0 ((l.take (k+1)).map d) = max (maxL 0 ((l.take k).map d)) (d (l.getD k 0)) := by
  rw [List.take_succ_eq_append_getElem h, List.map_append]
  simp only [List.map_cons, List.map_nil]
  rw [maxL_snoc]
  simp [List.getD, h]

def depthAns (ar t : List Int) : Int := if goodTerm ar t then depthAt ar t 0 else 0
theorem depth_no {ar t : List Int} (h : goodTerm ar t = false) : depthAns ar t = 0 := by simp [depthAns, h]
theorem depth_yes {ar t : List Int} (h : goodTerm ar t = true) : depthAns ar t = depthAt ar t 0 := by simp [depthAns, h]

end Go.Proofs.Ytajmjjandkdhiaa
end
section
namespace Go.Proofs.Ytajmjjandkdhiaa
open Go.RowKit
theorem conv1 (W : World) (m : Nat) (n : Int) (hm : m = W.heap.size) :
    (convert 22 9 (.slice (some ⟨m, 0, none⟩) 1 1)).run Try.prog (W.alloc (.cells #[.int .u8 n] 5)) = .ok (.string ⟨#[UInt8.ofNat n.toNat]⟩) (W.alloc (.cells #[.int .u8 n] 5)) := by
  subst hm
  rw [run_convert_bytes_string _ 22 9 5 _ _ _ Try.underlying22 Try.underlying5 Try.underlying9]
  rw [run_bytesToString _ _ 1 1 [n] ?_]
  · rfl
  · simp [loadCells, go_sem]
end Go.Proofs.Ytajmjjandkdhiaa
end
section
/- TermText: both functions. -/
namespace Go.Proofs.Ytajmjjandkdhiaa
open Go.RowKit

def letter (x : Int) : UInt8 := if x < 0 then (65 + (-1 - x)).toNat.toUInt8 else (97 + x).toNat.toUInt8
def bytesS (l : List UInt8) : Value := .string ⟨l.toArray⟩

theorem cut12 : ∀ k : Nat, k < 12 → (ByteArray.mk #[65, 66, 67, 68, 69, 70, 71, 72, 73, 74, 75, 76]).extract (-1 - (-1 - (k : Int))).toNat (-(-1 - (k : Int))).toNat = ⟨#[letter (-1 - (k : Int))]⟩ := by decide +kernel
theorem cut10 : ∀ k : Nat, k < 10 → (ByteArray.mk #[97, 98, 99, 100, 101, 102, 103, 104, 105, 106]).extract k (k + 1) = ⟨#[letter (k : Int)]⟩ := by decide +kernel

theorem letterOf_neg (k : Nat) (w : World) (h : k < 12) : Calls Try.prog 118 #[.int .i64 (-1 - (k : Int))] w (RetV w (bytesS [letter (-1 - (k : Int))])) := by
  have hneg : (-1 - (k : Int)) < 0 := by omega
  go_enter Try.func118, Try.ntmps118
  go_wp2_with fail
  go_ret
  refine ⟨?_, Bel.rfl' _⟩
  show Ending.returned (Value.string _) = _
  rw [cut12 k h]; rfl
theorem letterOf_pos (k : Nat) (w : World) (h : k < 10) : Calls Try.prog 118 #[.int .i64 k] w (RetV w (bytesS [letter k])) := by
  go_enter Try.func118, Try.ntmps118
  go_wp2_with fail
  go_ret
  refine ⟨?_, Bel.rfl' _⟩
  show Ending.returned (Value.string _) = _
  rw [cut10 k h]; rfl
theorem markBefore_0 (w : World) : Calls Try.prog 120 #[.int .i64 0] w (RetV w (bytesS [40])) := by
  go_enter Try.func120, Try.ntmps120
  go_wp2_with fail
  go_ret
  exact ⟨rfl, Bel.rfl' _⟩
theorem markBefore_n (k : Nat) (w : World) (h : k ≠ 0) : Calls Try.prog 120 #[.int .i64 k] w (RetV w (bytesS [44])) := by
  have h' : ((k : Int) == 0) = false := by simpa using h
  clear h
  go_enter Try.func120, Try.ntmps120
  go_wp2_with fail
  go_ret
  exact ⟨rfl, Bel.rfl' _⟩

def sepB (k : Nat) : UInt8 := if k = 0 then 40 else 44
def accT (g : Nat → List UInt8) (l : List Nat) : Nat → List UInt8
  | 0 => []
  | k + 1 => accT g l k ++ (sepB k :: g (l.getD k 0))
def textF (ar t : List Int) : Nat → Nat → List UInt8
  | 0, _ => []
  | f + 1, i => letter (t.getD i 0) :: (accT (textF ar t f) (argsOf ar t i) (argsOf ar t i).length ++ (if (argsOf ar t i).length = 0 then [] else [41]))
def textAt (ar t : List Int) (i : Nat) : List UInt8 := textF ar t (t.length - i) i

theorem accT_congr (g g' : Nat → List UInt8) (l : List Nat) (h : ∀ a ∈ l, g a = g' a) : ∀ k, k ≤ l.length → accT g l k = accT g' l k := by
  intro k
  induction k with
  | zero => intro _; rfl
  | succ k ih =>
    intro hk
    rw [accT, accT, ih (by omega), h (l.getD k 0) (by simp [List.getD, show k < l.length from by omega])]
theorem textF_fuel (ar t : List Int) (h : okTerm ar t = true) : ∀ (n i : Nat), i < t.length → t.length - i ≤ n → ∀ f, t.length - i ≤ f → textF ar t f i = textAt ar t i := by
  intro n
  induction n with
  | zero => intro i hi hn; omega
  | succ n ih =>
    intro i hi hn f hf
    obtain ⟨f, rfl⟩ : ∃ f', f = f' + 1 := ⟨f - 1, by omega⟩
    unfold textAt
    obtain ⟨g, hg⟩ : ∃ g, t.length - i = g + 1 := ⟨t.length - i - 1, by omega⟩
    rw [hg, textF, textF]
    congr 2
    refine accT_congr _ _ _ (fun a ha => ?_) _ (Nat.le_refl _)
    have hb := argsOf_bd ar t h i hi a ha
    rw [ih a hb.2 (by omega) f (by omega), ih a hb.2 (by omega) g (by omega)]
theorem textAt_eq (ar t : List Int) (h : okTerm ar t = true) (i : Nat) (hi : i < t.length) :
    textAt ar t i = letter (t.getD i 0) :: (accT (textAt ar t) (argsOf ar t i) (argsOf ar t i).length ++ (if (argsOf ar t i).length = 0 then [] else [41])) := by
  conv => lhs; unfold textAt
  obtain ⟨g, hg⟩ : ∃ g, t.length - i = g + 1 := ⟨t.length - i - 1, by omega⟩
  rw [hg, textF]
  congr 2
  refine accT_congr _ _ _ (fun a ha => ?_) _ (Nat.le_refl _)
  have hb := argsOf_bd ar t h i hi a ha
  exact textF_fuel ar t h t.length a hb.2 (by omega) g (by omega)

theorem accT_len (g : Nat → List UInt8) (l : List Nat) : ∀ k, k ≤ l.length → (accT g l k).length = ((l.take k).map fun a => (g a).length + 1).sum := by
  intro k
  induction k with
  | zero => intro _; rfl
  | succ k ih =>
    intro hk
    rw [accT, List.length_append, ih (by omega), List.take_succ_eq_append_getElem (by omega), List.map_append, List.sum_append]
    simp [List.getD, show k < l.length from by omega]
theorem sum_take_le (l : List Nat) (k : Nat) : (l.take k).sum ≤ l.sum := by
  conv => rhs; rw [← List.take_append_drop k l]
  rw [List.sum_append]; omega
theorem args_sum (ar t : List Int) (g : Nat → List UInt8) : ∀ (k p e : Nat), endGo ar (t.drop p) k p = some e → (∀ a ∈ argsGo ar t k p, ∀ q, endOf ar t a = some q → (g a).length + 1 ≤ 3 * (q - a)) → ((argsGo ar t k p).map fun a => (g a).length + 1).sum ≤ 3 * (e - p) := by
  intro k
  induction k with
  | zero => intro p e _ _; simp [argsGo]
  | succ k ih =>
    intro p e h hg
    obtain ⟨q, hq, hr, hpq, hqe⟩ := ends_step ar t p k e h
    rw [argsGo_succ hq] at hg ⊢
    have h1 := hg p (by simp) q hq
    have h2 := ih q e hr (fun a ha => hg a (by simp [ha]))
    simp only [List.map_cons, List.sum_cons]
    omega
theorem textAt_len (ar t : List Int) (h : okTerm ar t = true) : ∀ (n i : Nat), t.length - i ≤ n → i < t.length → ∀ q, endOf ar t i = some q → (textAt ar t i).length + 1 ≤ 3 * (q - i) := by
  intro n
  induction n with
  | zero => intro i hn hi; omega
  | succ n ih =>
    intro i hn hi q hq
    obtain ⟨e, h1, h2⟩ := good_args ar t h i hi
    have hs := good_sym ar t h i hi
    have he : e = q := by
      unfold endOf at hq
      rw [drop_cons t i hi, endGo_cons, if_pos hs, Nat.zero_add, h1] at hq
      simpa using hq
    subst he
    have hsum := args_sum ar t (textAt ar t) _ _ _ h1 (fun a ha q hq => ih a (by have := argsOf_bd ar t h i hi a ha; omega) (argsOf_bd ar t h i hi a ha).2 q hq)
    have hge := endGo_ge _ _ _ _ _ h1
    rw [textAt_eq ar t h i hi]
    simp only [List.length_cons, List.length_append]
    rw [accT_len _ _ _ (Nat.le_refl _), List.take_length]
    have e2 : argsOf ar t i = argsGo ar t (arOf ar (t.getD i 0)) (i + 1) := rfl
    rw [← e2] at hsum
    split <;> simp <;> omega
theorem textAt_le (ar t : List Int) (h : okTerm ar t = true) (i : Nat) (hi : i < t.length) : (textAt ar t i).length ≤ 120 := by
  obtain ⟨e, he, h1, h2⟩ := good_end ar t h i hi
  have := textAt_len ar t h t.length i (by omega) hi e he
  have := ((okTerm_iff ar t).1 h).2.1
  omega
theorem accT_le (g : Nat → List UInt8) (l : List Nat) (k n : Nat) (hk : k ≤ l.length) (h : (accT g l l.length).length ≤ n) : (accT g l k).length ≤ n := by
  rw [accT_len g l k hk]
  rw [accT_len g l _ (Nat.le_refl _), List.take_length] at h
  refine Nat.le_trans ?_ h
  rw [List.map_take]
  exact sum_take_le _ _
theorem acc_le (ar t : List Int) (h : okTerm ar t = true) (i : Nat) (hi : i < t.length) (k : Nat) (hk : k ≤ (argsOf ar t i).length) : (accT (textAt ar t) (argsOf ar t i) k).length ≤ 119 := by
  refine accT_le _ _ _ _ hk ?_
  have := textAt_le ar t h i hi
  rw [textAt_eq ar t h i hi] at this
  simp only [List.length_cons, List.length_append] at this
  omega

/-- A text. -/
def RetT (w : World) (l : List UInt8) (e : Ending) (w' : World) : Prop := ∃ A : ByteArray, e = .returned (.string A) ∧ A.data.toList = l ∧ Bel w w'
theorem ba_app (A B : ByteArray) : (A ++ B).data.toList = A.data.toList ++ B.data.toList := by rw [ByteArray.data_append, Array.toList_append]
theorem ba_size (A : ByteArray) : A.size = A.data.toList.length := by rw [Array.length_toList]; rfl
end Go.Proofs.Ytajmjjandkdhiaa
end
section
namespace Go.Proofs.Ytajmjjandkdhiaa
open Go.RowKit

theorem letter_u8_neg (x : Int) (h : x < 0) : (⟨#[UInt8.ofNat ((65 + (-1 - x)) : Int).toNat]⟩ : ByteArray).data.toList = [letter x] := by simp [letter, h]
theorem letter_u8_pos : ∀ k : Nat, k < 10 → (97 + UInt8.ofNat k) = letter (k : Int) := by decide +kernel

set_option maxRecDepth 100000 in
set_option maxHeartbeats 2000000 in
theorem l1TermText_c (l h l' h' : Nat) (v u : Value) (ar t : List Int) (hg : goodSign ar = true) (hok : okTerm ar t = true) :
    ∀ (n i : Nat) (w : World), t.length - i ≤ n → i < t.length → SlI l h w v ar → SlI l' h' w u t → Calls Try.prog 89 #[.agg #[v], u, .int .i64 i] w (RetT w (textAt ar t i)) := by
  intro n
  induction n with
  | zero => intro i w hn hi; omega
  | succ n ih =>
    intro i w hn hi hv hu
    have IH := Lib.hid ih; clear ih
    have hv0 := hv; have hu0 := hu
    obtain ⟨ad, cap, rfl, -, -, hr⟩ := hv
    obtain ⟨ad', cap', rfl, -, -, hr'⟩ := hu
    have E := Lib.hid (textAt_eq ar t hok i hi)
    have HA := Lib.hid (argsOf_bd ar t hok i hi)
    have hal : (argsOf ar t i).length ≤ 3 := by rw [argsOf_len]; exact arOf_le ar hg _
    have HL := Lib.hid (acc_le ar t hok i hi)
    have HT := Lib.hid (textAt_le ar t hok)
    have htl := ((okTerm_iff ar t).1 hok).2.1
    have hsym := good_sym ar t hok i hi
    have hlen2 := argsOf_len (ar := ar) (t := t) (i := i)
    have hE := argsOf_neg (ar := ar) (t := t) (i := i)
    have hargs := fun w a b => l1Args_c l h l' h' (.slice ad ar.length cap) (.slice ad' t.length cap') ar t i w hg hok hi a b
    obtain ⟨b', off', rfl, hbl, hcell'⟩ := rd hr' (Bel.rfl' w) i hi
    have hk := fun n : Int => conv1 (w.alloc (.cells #[.slice ad ar.length cap] 26)) (w.heap.size + 1) n (by simp)
    generalize t.getD i 0 = x at *
    by_cases hx : x < 0
    · have hx2 : -12 ≤ x := by simp [okSym, inB] at hsym; omega
      have E2 : Hid (textAt ar t i = [letter x]) := by show _ = _; rw [E.out, hE hx]; simp [accT]
      clear E hE hlen2 hargs hal HL HA hsym
      go_enter Try.func89, Try.ntmps89
      go_wp2_with fail
      go_ret
      exact ⟨_, rfl, by rw [E2.out]; exact letter_u8_neg x hx, Bel.alloc2 _ _ _⟩
    · obtain ⟨kk, rfl⟩ : ∃ k : Nat, x = k := ⟨x.toNat, by omega⟩
      have hkk := okSym_lt hsym
      obtain ⟨b, off, rfl, hbl2, hcell⟩ := rd hr (Bel.rfl' w) kk hkk
      have hn := ar_nonneg ar hg kk
      rw [arOf_nat] at hlen2
      have hlen := sign_len ar hg
      have hkk2 : (kk : Int) < ar.length := by omega
      have hkk10 : kk < 10 := by omega
      have HARGS := Lib.hid hargs
      clear hr hr' hsym hE hargs
      generalize argsOf ar t i = args at *
      generalize ar.getD kk 0 = q at *
      go_enter Try.func89, Try.ntmps89
      go_wp2_with fail
      refine (HARGS.out _ ((hv0.alloc _).alloc _) ((hu0.alloc _).alloc _)).mono ?_; rintro e w1 ⟨ad1, m, c, rfl, ho, hb⟩
      obtain ⟨ad2, cap2, e, -, -, hr1⟩ := ho.1
      simp only [Value.slice.injEq] at e
      obtain ⟨rfl, rfl, rfl⟩ := e
      rw [natsI_len] at hr1 ⊢
      have hb0 : Bel (w.alloc (.cells #[.slice (some ⟨b, off, none⟩) ar.length cap] 26)) w1 := hb.of_alloc
      have HL1 := Lib.hid (letter_u8_pos kk hkk10)
      clear hk
      go_wp2_with fail
      go_loopw [7, 37] (fun o j wr => ∃ (k : Nat) (A : ByteArray), k ≤ args.length ∧ j = .int .i64 k ∧ o = .string A ∧ A.data.toList = letter (kk : Int) :: accT (textAt ar t) args k ∧ Bel (w.alloc (.cells #[.slice (some ⟨b, off, none⟩) ar.length cap] 26)) wr ∧ Bel w1 wr) (fun _ j _ => args.length - (intOf j).toNat)
      case atStart => exact ⟨0, _, Nat.zero_le _, rfl, rfl, congrArg (fun z => [z]) HL1.out, hb0, Bel.rfl' _⟩
      case round =>
        obtain ⟨k, A, hk, rfl, rfl, hA, hbr, hbw⟩ := hrel
        have hbox := boxc hbr 0 _ rfl
        have hAs : A.size ≤ 120 := by
          have := HL.out k hk
          rw [ba_size, hA, List.length_cons]; omega
        have HAA := Lib.hid hA; clear hA
        by_cases hlt : k < args.length
        · obtain ⟨b3, off3, e2, -, -, hc⟩ := hr1 (by omega)
          subst e2
          have hcell3 := (hbw.cell (p := ⟨b3, off3 + k, none⟩) (World.block_lt_of_cell? w1 ⟨b3, off3 + k, none⟩ (hc k hlt))).trans (hc k hlt)
          rw [natsI_get _ _ hlt] at hcell3
          have hmem : args.getD k 0 ∈ args := by simp [List.getD, hlt]
          have hab := HA.out _ hmem
          have ES : Hid (accT (textAt ar t) args (k + 1) = accT (textAt ar t) args k ++ (sepB k :: textAt ar t (args.getD k 0))) := rfl
          have hBs := HT.out (args.getD k 0) hab.2
          clear hr1 hc hmem
          generalize args.getD k 0 = a at *
          by_cases hk0 : k = 0
          · have hk0' : ((k : Int) == 0) = true := by simpa using hk0
            have HK0 := Lib.hid hk0; clear hk0
            go_wp2_with fail
            refine (IH.out a _ (by omega) hab.2 (hv0.below hbr.of_alloc) (hu0.below hbr.of_alloc)).mono ?_; rintro e w2 ⟨B, rfl, hB, hb2⟩
            have hBs2 : B.size ≤ 120 := by rw [ba_size, hB]; exact hBs
            have HB := Lib.hid hB; clear hB
            go_wp2_with fail
            go_roundw
            case rel => exact ⟨k + 1, _, by omega, by go_num, rfl, by rw [ba_app, ba_app, HAA.out, HB.out, ES.out, HK0.out]; simp [sepB, accT], hbr.step hb2, hbw.step hb2⟩
            case measure => simp [intOf]; omega
          · have hk0' : ((k : Int) == 0) = false := by simpa using hk0
            have HK0 := Lib.hid hk0; clear hk0
            go_wp2_with fail
            refine (IH.out a _ (by omega) hab.2 (hv0.below hbr.of_alloc) (hu0.below hbr.of_alloc)).mono ?_; rintro e w2 ⟨B, rfl, hB, hb2⟩
            have hBs2 : B.size ≤ 120 := by rw [ba_size, hB]; exact hBs
            have HB := Lib.hid hB; clear hB
            go_wp2_with fail
            go_roundw
            case rel => exact ⟨k + 1, _, by omega, by go_num, rfl, by rw [ba_app, ba_app, HAA.out, HB.out, ES.out]; simp [sepB, HK0.out], hbr.step hb2, hbw.step hb2⟩
            case measure => simp [intOf]; omega
        · have hkl : Hid (k = args.length) := by show _ = _; omega
          have hcx := hbr.of_alloc.at hbl2 hcell
          have hcx' := hbr.of_alloc.at hbl hcell'
          have hi2 : (i : Int) < t.length := by omega
          by_cases hq : 0 < q
          · have E3 : Hid ((if args.length = 0 then ([] : List UInt8) else [41]) = [41]) := if_neg (by omega)
            go_wp2_with fail
            go_quiet (fail)
            go_wp2_with fail
            go_ret
            exact ⟨_, rfl, by rw [ba_app, HAA.out, E.out, E3.out, hkl.out]; simp, hbr.of_alloc.drewN _⟩
          · have E3 : Hid ((if args.length = 0 then ([] : List UInt8) else [41]) = []) := if_pos (by omega)
            go_wp2_with fail
            go_quiet (fail)
            go_wp2_with fail
            go_ret
            exact ⟨_, rfl, by rw [E.out, E3.out, ← hkl.out]; simpa using HAA.out, hbr.of_alloc.drewN _⟩
end Go.Proofs.Ytajmjjandkdhiaa
end
section
namespace Go.Proofs.Ytajmjjandkdhiaa
open Go.RowKit

theorem markBefore_q (k : Nat) (b : UInt8) (h : sepB k = b) (w : World) : Calls Try.prog 120 #[.int .i64 k] w fun e w' => e = .returned (.string ⟨#[b]⟩) ∧ w' = w := by
  subst h
  by_cases h : k = 0
  · subst h
    go_enter Try.func120, Try.ntmps120
    go_wp2_with fail
    go_ret
    exact ⟨rfl, rfl⟩
  · have h' : ((k : Int) == 0) = false := by simpa using h
    have E : Hid (sepB k = 44) := if_neg h
    clear h
    go_enter Try.func120, Try.ntmps120
    go_wp2_with fail
    go_ret
    exact ⟨by rw [E.out]; rfl, rfl⟩
theorem letterOf_c (x : Int) (ar : List Int) (w : World) (h : okSym ar x = true) (hl : ar.length ≤ 10) : Calls Try.prog 118 #[.int .i64 x] w (RetV w (.string ⟨#[letter x]⟩)) := by
  have h2 : -12 ≤ x ∧ x < 10 := by simp [okSym, inB] at h; omega
  by_cases hx : x < 0
  · obtain ⟨k, rfl⟩ : ∃ k : Nat, x = -1 - (k : Int) := ⟨(-1 - x).toNat, by omega⟩
    exact letterOf_neg k w (by omega)
  · obtain ⟨k, rfl⟩ : ∃ k : Nat, x = k := ⟨x.toNat, by omega⟩
    exact letterOf_pos k w (by omega)

set_option maxRecDepth 100000 in
set_option maxHeartbeats 4000000 in
theorem textAt_c (l h l' h' : Nat) (v u : Value) (ar t : List Int) (hg : goodSign ar = true) (hok : okTerm ar t = true) :
    ∀ (n i : Nat) (w : World), t.length - i ≤ n → i < t.length → SlI l h w v ar → SlI l' h' w u t → Calls Try.prog 87 #[.agg #[v], u, .int .i64 i] w (RetT w (textAt ar t i)) := by
  intro n
  induction n with
  | zero => intro i w hn hi; omega
  | succ n ih =>
    intro i w hn hi hv hu
    have IH := Lib.hid ih; clear ih
    have hv0 := hv; have hu0 := hu
    obtain ⟨ad', cap', rfl, -, -, hr'⟩ := hu
    have E := Lib.hid (textAt_eq ar t hok i hi)
    have HA := Lib.hid (argsOf_bd ar t hok i hi)
    have hal : (argsOf ar t i).length ≤ 3 := by rw [argsOf_len]; exact arOf_le ar hg _
    have HL := Lib.hid (acc_le ar t hok i hi)
    have HT := Lib.hid (textAt_le ar t hok)
    have htl := ((okTerm_iff ar t).1 hok).2.1
    have HSYM := Lib.hid (good_sym ar t hok i hi)
    have HARGS := Lib.hid (fun w a b => argStarts_c l h l' h' v (.slice ad' t.length cap') ar t i w hg hok hi a b)
    obtain ⟨b', off', rfl, hbl, hcell'⟩ := rd hr' (Bel.rfl' w) i hi
    have hlen := sign_len ar hg
    clear hr'
    generalize t.getD i 0 = x at *
    generalize argsOf ar t i = args at *
    go_enter Try.func87, Try.ntmps87
    go_wp2_with fail
    refine (letterOf_c x ar _ HSYM.out hlen.2).mono ?_; rintro e w1 ⟨rfl, hb1⟩
    have hx1 := boxc hb1 0 _ rfl
    go_wp2_with fail
    refine (HARGS.out _ (hv0.below hb1.of_alloc) (hu0.below hb1.of_alloc)).mono ?_; rintro e w2 ⟨ad1, m, c, rfl, ho, hb2⟩
    obtain ⟨ad2, cap2, e, -, -, hr1⟩ := ho.1
    simp only [Value.slice.injEq] at e
    obtain ⟨rfl, rfl, rfl⟩ := e
    rw [natsI_len] at hr1 ⊢
    have hb0 := hb1.step hb2
    by_cases h0 : args.length = 0
    · have E3 : Hid ((if args.length = 0 then ([] : List UInt8) else [41]) = []) := if_pos h0
      have h0' : ((args.length : Int) == 0) = true := by simpa using h0
      have H0 := Lib.hid h0; clear h0
      go_wp2_with fail
      go_ret
      exact ⟨_, rfl, by rw [E.out, E3.out, H0.out]; simp [accT], hb0.of_alloc⟩
    · have E3 : Hid ((if args.length = 0 then ([] : List UInt8) else [41]) = [41]) := if_neg h0
      have h0' : ((args.length : Int) == 0) = false := by simpa using h0
      clear h0
      go_wp2_with fail
      go_loopw [7, 26] (fun o j wr => ∃ (k : Nat) (A : ByteArray), k ≤ args.length ∧ j = .int .i64 k ∧ o = .string A ∧ A.data.toList = letter x :: accT (textAt ar t) args k ∧ Bel (w.alloc (.cells #[v] 26)) wr ∧ Bel w2 wr) (fun _ j _ => args.length - (intOf j).toNat)
      case atStart => exact ⟨0, _, Nat.zero_le _, rfl, rfl, rfl, hb0, Bel.rfl' _⟩
      case round =>
        obtain ⟨k, A, hk, rfl, rfl, hA, hbr, hbw⟩ := hrel
        have hbox := boxc hbr 0 _ rfl
        have hAs : A.size ≤ 120 := by
          have := HL.out k hk
          rw [ba_size, hA, List.length_cons]; omega
        have HAA := Lib.hid hA; clear hA
        by_cases hlt : k < args.length
        · obtain ⟨b3, off3, e2, -, -, hc⟩ := hr1 (by omega)
          subst e2
          have hcell3 := (hbw.cell (p := ⟨b3, off3 + k, none⟩) (World.block_lt_of_cell? w2 ⟨b3, off3 + k, none⟩ (hc k hlt))).trans (hc k hlt)
          rw [natsI_get _ _ hlt] at hcell3
          have hmem : args.getD k 0 ∈ args := by simp [List.getD, hlt]
          have hab := HA.out _ hmem
          have ES : Hid (accT (textAt ar t) args (k + 1) = accT (textAt ar t) args k ++ (sepB k :: textAt ar t (args.getD k 0))) := rfl
          have hBs := HT.out (args.getD k 0) hab.2
          clear hr1 hc hmem
          generalize args.getD k 0 = a at *
          have hone : (⟨#[sepB k]⟩ : ByteArray).size = 1 := rfl
          obtain ⟨M, hM⟩ : ∃ M : ByteArray, M = ⟨#[sepB k]⟩ := ⟨_, rfl⟩
          rw [← hM] at hone
          have hMl : Hid (M.data.toList = [sepB k]) := by show _ = _; rw [hM]
          have hmk := Lib.hid (fun W => hM ▸ markBefore_q k (sepB k) rfl W)
          have hMs : M.size ≤ 1 := by omega
          clear hM hone
          go_wp2_with fail
          go_region_held3 (fun w' => Bel wr w' ∧ w'.cell? ⟨w.heap.size, 0, none⟩ = some v)
            (first | exact ⟨Bel.drew0 _, hbox⟩ | exact ⟨hb5.of_drew, boxc (hbr.drew.step hb5) 0 _ rfl⟩)
            (first | (go_at_call 120; refine (hmk.out _).mono ?_; rintro e wa ⟨rfl, rfl⟩) | (go_at_call 87; refine (IH.out a _ (by omega) hab.2 (hv0.below hbr.of_alloc.drew) (hu0.below hbr.of_alloc.drew)).mono ?_; rintro e w5 ⟨B, rfl, hB, hb5⟩; have hBs2 : B.size ≤ 120 := (by rw [ba_size, hB]; exact hBs); have HB := Lib.hid hB; clear hB; have hr1 := fun (W : World) => run_string_add_sum (P := Try.prog) (w := W) M B (by omega); have hr2 := fun (W : World) => run_string_add_sum (P := Try.prog) (w := W) A (M ++ B) (by rw [ByteArray.size_append]; omega)))
          go_wp2_with fail
          go_roundw
          case rel => exact ⟨k + 1, _, by omega, by go_num, rfl, by rw [ba_app, ba_app, HAA.out, HB.out, ES.out, hMl.out]; simp, hbr.drew.step hb5, hbw.drew.step hb5⟩
          case measure => simp [intOf]; omega
        · have hkl : Hid (k = args.length) := by show _ = _; omega
          go_wp2_with fail
          go_ret
          exact ⟨_, rfl, by rw [ba_app, HAA.out, E.out, E3.out, hkl.out]; simp, hbr.of_alloc⟩

/-- The text of a term, as bytes. -/
def textBA (ar t : List Int) : ByteArray := if goodTerm ar t then ⟨(textAt ar t 0).toArray⟩ else ⟨#[]⟩
theorem ba_eq {A : ByteArray} {l : List UInt8} (h : A.data.toList = l) : A = ⟨l.toArray⟩ := by subst h; cases A; simp
theorem text_no {ar t : List Int} (h : goodTerm ar t = false) : textBA ar t = ⟨#[]⟩ := by simp [textBA, h]
theorem text_yes {ar t : List Int} (h : goodTerm ar t = true) : textBA ar t = ⟨(textAt ar t 0).toArray⟩ := by simp [textBA, h]

end Go.Proofs.Ytajmjjandkdhiaa
end
section
/- Reading a term, plainly. No program. -/
namespace Go.Proofs.Ytajmjjandkdhiaa

def sepC (k : Nat) : UInt8 := if k = 0 then 40 else 44
/-- What a letter stands for. -/
def symAt (ar : List Int) (b : UInt8) : Option Int :=
  if inB b.toNat 65 76 then some (-1 - ((b.toNat : Int) - 65)) else if inB b.toNat 97 (97 + (ar.length : Int) - 1) then some ((b.toNat : Int) - 97) else none

abbrev Scanned := List Int × Nat × Bool
def scanArgs (g : Nat → Scanned) (T : List UInt8) : Nat → Nat → List Int → Nat → Scanned
  | 0, _, acc, p => if T[p]? = some 41 then (acc, p + 1, true) else ([], p, false)
  | m + 1, k, acc, p => if T[p]? = some (sepC k) then (if (g (p + 1)).2.2 then scanArgs g T m (k + 1) (acc ++ (g (p + 1)).1) (g (p + 1)).2.1 else ([], (g (p + 1)).2.1, false)) else ([], p, false)
def scanF (ar : List Int) (T : List UInt8) : Nat → Nat → Scanned
  | 0, p => ([], p, false)
  | f + 1, p => match T[p]? with
    | none => ([], T.length, false)
    | some b => match symAt ar b with
      | none => ([], p, false)
      | some n => if arOf ar n = 0 then ([n], p + 1, true) else scanArgs (scanF ar T f) T (arOf ar n) 0 [n] (p + 1)

/-- What holds of a result that began at p. -/
def ScanOk (T : List UInt8) (p : Nat) (r : Scanned) : Prop := r.2.1 ≤ T.length ∧ (r.2.2 = true → p < r.2.1 ∧ r.1.length ≤ r.2.1 - p) ∧ (r.2.2 = false → r.1 = [])

theorem scanArgs_ok (g : Nat → Scanned) (T : List UInt8) (p0 : Nat) (hg : ∀ q, q ≤ T.length → ScanOk T q (g q)) : ∀ (m k : Nat) (acc : List Int) (p : Nat), p0 < p → p ≤ T.length → acc.length ≤ p - p0 → ScanOk T p0 (scanArgs g T m k acc p) := by
  intro m
  induction m with
  | zero =>
    intro k acc p h1 h2 h3
    unfold scanArgs
    by_cases h : T[p]? = some 41
    · have := (List.getElem?_eq_some_iff.1 h).1
      rw [if_pos h]; exact ⟨by simp; omega, fun _ => ⟨by simp; omega, by simp; omega⟩, fun h => by simp at h⟩
    · rw [if_neg h]; exact ⟨h2, fun h => by simp at h, fun _ => rfl⟩
  | succ m ih =>
    intro k acc p h1 h2 h3
    unfold scanArgs
    by_cases h : T[p]? = some (sepC k)
    · have hl := (List.getElem?_eq_some_iff.1 h).1
      rw [if_pos h]
      obtain ⟨a1, a2, a3⟩ := hg (p + 1) (by omega)
      cases hb : (g (p + 1)).2.2 with
      | true =>
        rw [if_pos rfl]
        obtain ⟨b1, b2⟩ := a2 hb
        exact ih _ _ _ (by omega) a1 (by simp; omega)
      | false =>
        rw [if_neg (by simp)]
        exact ⟨a1, fun h => by simp at h, fun _ => rfl⟩
    · rw [if_neg h]; exact ⟨h2, fun h => by simp at h, fun _ => rfl⟩

theorem scan_end {ar : List Int} {T : List UInt8} {f p : Nat} (h : ¬ p < T.length) : scanF ar T (f + 1) p = ([], T.length, false) := by
  unfold scanF; rw [List.getElem?_eq_none (by omega)]
theorem scan_bad {ar : List Int} {T : List UInt8} {f p : Nat} {b : UInt8} (h : T[p]? = some b) (hs : symAt ar b = none) : scanF ar T (f + 1) p = ([], p, false) := by
  unfold scanF; rw [h]; simp only [hs]
theorem scan_leaf {ar : List Int} {T : List UInt8} {f p : Nat} {b : UInt8} {n : Int} (h : T[p]? = some b) (hs : symAt ar b = some n) (h0 : arOf ar n = 0) : scanF ar T (f + 1) p = ([n], p + 1, true) := by
  unfold scanF; rw [h]; simp only [hs]; rw [if_pos h0]
theorem scan_args {ar : List Int} {T : List UInt8} {f p : Nat} {b : UInt8} {n : Int} (h : T[p]? = some b) (hs : symAt ar b = some n) (h0 : arOf ar n ≠ 0) : scanF ar T (f + 1) p = scanArgs (scanF ar T f) T (arOf ar n) 0 [n] (p + 1) := by
  unfold scanF; rw [h]; simp only [hs]; rw [if_neg h0]
theorem args_done {g : Nat → Scanned} {T : List UInt8} {k p : Nat} {acc : List Int} (h : T[p]? = some 41) : scanArgs g T 0 k acc p = (acc, p + 1, true) := by unfold scanArgs; rw [if_pos h]
theorem args_noclose {g : Nat → Scanned} {T : List UInt8} {k p : Nat} {acc : List Int} (h : T[p]? ≠ some 41) : scanArgs g T 0 k acc p = ([], p, false) := by unfold scanArgs; rw [if_neg h]
theorem args_nosep {g : Nat → Scanned} {T : List UInt8} {m k p : Nat} {acc : List Int} (h : T[p]? ≠ some (sepC k)) : scanArgs g T (m + 1) k acc p = ([], p, false) := by
  conv => lhs; unfold scanArgs
  rw [if_neg h]
theorem args_bad {g : Nat → Scanned} {T : List UInt8} {m k p : Nat} {acc : List Int} (h : T[p]? = some (sepC k)) (hb : (g (p + 1)).2.2 = false) : scanArgs g T (m + 1) k acc p = ([], (g (p + 1)).2.1, false) := by
  conv => lhs; unfold scanArgs
  rw [if_pos h, if_neg (by simp [hb])]
theorem args_next {g : Nat → Scanned} {T : List UInt8} {m k p : Nat} {acc : List Int} (h : T[p]? = some (sepC k)) (hb : (g (p + 1)).2.2 = true) : scanArgs g T (m + 1) k acc p = scanArgs g T m (k + 1) (acc ++ (g (p + 1)).1) (g (p + 1)).2.1 := by
  conv => lhs; unfold scanArgs
  rw [if_pos h, if_pos hb]
theorem scanF_ok (ar : List Int) (T : List UInt8) : ∀ (f p : Nat), p ≤ T.length → ScanOk T p (scanF ar T f p) := by
  intro f
  induction f with
  | zero => intro p hp; exact ⟨hp, fun h => by simp [scanF] at h, fun _ => rfl⟩
  | succ f ih =>
    intro p hp
    by_cases hl : p < T.length
    · obtain ⟨b, h⟩ : ∃ b, T[p]? = some b := ⟨T[p], List.getElem?_eq_getElem hl⟩
      cases hs : symAt ar b with
      | none => rw [scan_bad h hs]; exact ⟨hp, fun h => by simp at h, fun _ => rfl⟩
      | some n =>
        by_cases h0 : arOf ar n = 0
        · rw [scan_leaf h hs h0]; exact ⟨by simp; omega, fun _ => ⟨by simp, by simp⟩, fun h => by simp at h⟩
        · rw [scan_args h hs h0]; exact scanArgs_ok _ T p ih _ _ _ _ (by omega) (by omega) (by simp)
    · rw [scan_end hl]; exact ⟨Nat.le_refl _, fun h => by simp at h, fun _ => rfl⟩
end Go.Proofs.Ytajmjjandkdhiaa
end
section
namespace Go.Proofs.Ytajmjjandkdhiaa
open Go.RowKit

def RetScan (w : World) (r : Scanned) (e : Ending) (w' : World) : Prop := ∃ ad n c, e = .returned (.tuple #[.slice ad n c, .int .i64 r.2.1, .bool r.2.2]) ∧ OwnI w.heap.size w'.heap.size w' (.slice ad n c) r.1 ∧ Bel w w'

theorem sa_get (s : ByteArray) (p : Nat) (h : p < s.size) : s.data.toList[p]? = some s[p] := by
  rw [List.getElem?_eq_getElem (by simpa using h)]; rfl

theorem sub97 (m : Nat) (h : 97 ≤ m) : ((m : Int) - 97).toNat = m - 97 := by omega
/-- A new slice of one int. -/
theorem own1 (w : World) (x : Int) : (w.alloc (.cells #[.int .i64 x] 3)).ownsRow w.heap.size 3 1 (.slice (some ⟨w.heap.size, 0, none⟩) 1 1) [x].length ([x].map (Value.int .i64)) :=
  World.ownsRow_lit w #[.int .i64 x] 1 (Nat.le_refl _) (by unfold maxLen; omega) rfl
theorem own_mono {w : World} {base base' e s n : Nat} {v : Value} {xs : List Value} (h : w.ownsRow base e s v n xs) (hb : base' ≤ base) : w.ownsRow base' e s v n xs := by
  refine ⟨h.1, ?_⟩
  rcases h.2 with h0 | ⟨g, cap, cur, e1, e2, r⟩
  · exact .inl h0
  · exact .inr ⟨g, cap, cur, e1, by omega, r⟩
theorem u8_ne {a b : UInt8} (h : a ≠ b) : (((a.toNat : Nat) : Int) != ((b.toNat : Nat) : Int)) = true := by
  rw [bne_iff_ne]; intro h2; exact h (UInt8.toNat_inj.1 (by omega))

set_option maxRecDepth 100000 in
set_option maxHeartbeats 4000000 in
theorem l1ReadTerm_c (l h : Nat) (v : Value) (ar : List Int) (s : ByteArray) (hg : goodSign ar = true) (hs : s.size ≤ 1048576) :
    ∀ (n p : Nat) (w : World), s.data.toList.length + 1 - p ≤ n → p ≤ s.data.toList.length → SlI l h w v ar → Calls Try.prog 98 #[.agg #[v], .string s, .int .i64 p] w (RetScan w (scanF ar s.data.toList n p)) := by
  have hsz : s.data.toList.length = s.size := by rw [Array.length_toList]; rfl
  intro n
  induction n with
  | zero => intro p w hn hp; omega
  | succ n ih =>
    intro p w hn hp hv
    have IH := Lib.hid ih; clear ih
    have hv0 := hv
    obtain ⟨ad, cap, rfl, -, -, hr⟩ := hv
    have hlen := sign_len ar hg
    obtain ⟨i0, hi0, hz0, hz1, hz2⟩ := info_parts Try.info3
    rw [hsz] at hn hp
    by_cases hlt : p < s.size
    · have hget := sa_get s p hlt
      have hbb : ((s[p].toNat : Nat) : Int) < 256 := by have := s[p].toNat_lt; omega
      have hbb0 : (0 : Int) ≤ ((s[p].toNat : Nat) : Int) := by omega
      cases hsym : symAt ar s[p] with
      | none =>
        have E := Lib.hid (scan_bad (f := n) hget hsym)
        have h1 : inB (s[p].toNat) 65 76 = false := by
          unfold symAt at hsym; cases h : inB (s[p].toNat) 65 76 with
          | false => rfl
          | true => rw [h] at hsym; simp at hsym
        have h2 : inB (s[p].toNat) 97 (97 + (ar.length : Int) - 1) = false := by
          unfold symAt at hsym; rw [h1] at hsym; cases h : inB (s[p].toNat) 97 (97 + (ar.length : Int) - 1) with
          | false => rfl
          | true => rw [h] at hsym; simp at hsym
        have H1 := Lib.hid h1; have H2 := Lib.hid h2
        clear h1 h2 hsym hget hr
        go_enter Try.func98, Try.ntmps98
        go_wp2_with fail
        refine (l1In_f _ _ _ _ H1.out).mono ?_; rintro e w1 ⟨rfl, hb1⟩
        have hx1 := boxc hb1 0 _ rfl
        go_wp2_with fail
        refine (l1In_f _ _ _ _ H2.out).mono ?_; rintro e w2 ⟨rfl, hb2⟩
        go_wp2_with fail
        go_ret3
        exact ⟨_, _, _, by rw [E.out]; rfl, by rw [E.out]; exact OwnI.nil _ _ _, hb1.of_alloc.step hb2⟩
      | some x =>
        by_cases hvar : inB (s[p].toNat) 65 76 = true
        · have hx : x = -1 - ((s[p].toNat : Int) - 65) := by unfold symAt at hsym; rw [if_pos hvar] at hsym; simpa using hsym.symm
          have hneg : x < 0 := by simp [inB] at hvar; omega
          have E := Lib.hid (scan_leaf (f := n) hget hsym (arOf_neg hneg))
          have HX := Lib.hid hx
          have H1 := Lib.hid hvar
          clear hvar hsym hget hr hx
          go_enter Try.func98, Try.ntmps98
          go_wp2_with fail
          refine (l1In_t _ _ _ _ H1.out).mono ?_; rintro e w1 ⟨rfl, hb1⟩
          go_wp2_with fail
          go_ret3
          exact ⟨_, _, _, by rw [E.out]; rfl, by rw [E.out, HX.out]; exact (OwnI.of_row (own1 w1 _)).mono (by have := hb1.size; simp at this; omega) (Nat.le_refl _), hb1.of_alloc.alloc _⟩
        · have h1 : inB (s[p].toNat) 65 76 = false := by simpa using hvar
          have h2 : inB (s[p].toNat) 97 (97 + (ar.length : Int) - 1) = true := by
            unfold symAt at hsym; rw [if_neg hvar] at hsym; cases h : inB (s[p].toNat) 97 (97 + (ar.length : Int) - 1) with
            | true => rfl
            | false => rw [h] at hsym; simp at hsym
          have hx : x = (s[p].toNat : Int) - 97 := by unfold symAt at hsym; rw [if_neg hvar, if_pos h2] at hsym; simpa using hsym.symm
          have h97 : 97 ≤ s[p].toNat ∧ s[p].toNat - 97 < ar.length := by simp [inB] at h2; omega
          have h97a : (97 : Int) ≤ ((s[p].toNat : Nat) : Int) := by omega
          have h97b : ((s[p].toNat : Nat) : Int) - 97 < ar.length := by omega
          subst hx
          obtain ⟨b, off, rfl, hbl, hcell⟩ := rd hr (Bel.rfl' w) (s[p].toNat - 97) h97.2
          have har : arOf ar ((s[p].toNat : Int) - 97) = (ar.getD (s[p].toNat - 97) 0).toNat := by
            unfold arOf; rw [if_neg (by omega), sub97 _ h97.1]
          have hn03 := ar_nonneg ar hg (s[p].toNat - 97)
          obtain ⟨a, haq⟩ : ∃ a : Nat, ar.getD (s[p].toNat - 97) 0 = a := ⟨(ar.getD (s[p].toNat - 97) 0).toNat, by omega⟩
          rw [haq] at hcell har hn03
          rw [show ((a : Int)).toNat = a from by omega] at har
          have H1 := Lib.hid h1; have H2 := Lib.hid h2
          clear haq hr hvar h1 h2
          by_cases ha0 : a = 0
          · have E := Lib.hid (scan_leaf (f := n) hget hsym (by rw [har, ha0]))
            have ha1 : (a : Int) ≤ 0 := by omega
            clear hsym hget har ha0
            go_enter Try.func98, Try.ntmps98
            go_wp2_with fail
            refine (l1In_f _ _ _ _ H1.out).mono ?_; rintro e w1 ⟨rfl, hb1⟩
            have hx1 := boxc hb1 0 _ rfl
            go_wp2_with fail
            refine (l1In_t _ _ _ _ H2.out).mono ?_; rintro e w2 ⟨rfl, hb2⟩
            have hb12 := hb1.step hb2
            have hx2 := boxc hb12 0 _ rfl
            have hb13 := hb12.alloc (.cells #[.int .i64 ((s[p].toNat : Int) - 97)] 3)
            have hx3 := boxc hb13 0 _ rfl
            have hc3 := hb13.of_alloc.at hbl hcell
            go_wp2_with fail
            refine wp_loop_rounds 1 ?_
            rw [rounds_succ]
            go_wp2_with fail
            go_ret3
            exact ⟨_, _, _, by rw [E.out]; rfl, by rw [E.out]; exact (OwnI.of_row (own1 w2 _)).mono (by have := hb12.size; simp at this; omega) (Nat.le_refl _), hb12.of_alloc.alloc _⟩
          · have E := Lib.hid (scan_args (f := n) hget hsym (by rw [har]; exact ha0))
            rw [har] at E
            have ha1 : (1 : Int) ≤ (a : Int) := by omega
            have ha3 : (a : Int) ≤ 3 := hn03.2
            clear hsym hget har ha0
            go_enter Try.func98, Try.ntmps98
            go_wp2_with fail
            refine (l1In_f _ _ _ _ H1.out).mono ?_; rintro e w1 ⟨rfl, hb1⟩
            have hx1 := boxc hb1 0 _ rfl
            go_wp2_with fail
            refine (l1In_t _ _ _ _ H2.out).mono ?_; rintro e w2 ⟨rfl, hb2⟩
            have hb12 := hb1.step hb2
            have hx2 := boxc hb12 0 _ rfl
            go_wp2_with fail
            go_loopw [2, 10, 11] (fun at' o k' wr => ∃ (q k : Nat) (acc : List Int), k ≤ a ∧ p < q ∧ q ≤ s.size ∧ acc.length ≤ q - p ∧ at' = .int .i64 q ∧ k' = .int .i64 k ∧
                scanF ar s.data.toList (n + 1) p = scanArgs (scanF ar s.data.toList n) s.data.toList (a - k) k acc q ∧
                wr.ownsRow (w.heap.size + 1) 3 1 o acc.length (acc.map (Value.int .i64)) ∧ Bel (w.alloc (.cells #[.slice (some ⟨b, off, none⟩) ar.length cap] 26)) wr) (fun _ _ k' _ => a - (intOf k').toNat)
            case atStart => exact ⟨p + 1, 0, [(s[p].toNat : Int) - 97], Nat.zero_le _, by omega, by omega, by simp, by go_num, rfl, E.out, own_mono (own1 w2 _) (by have := hb12.size; simp at this; omega), hb12.alloc _⟩
            case round =>
              obtain ⟨q, k, acc, hka, hpq, hqs, hal, rfl, rfl, hsc, hown, hbr⟩ := hrel
              have hbox := boxc hbr 0 _ rfl
              have hcr := hbr.of_alloc.at hbl hcell
              have HSC := Lib.hid hsc
              clear hsc
              by_cases hka2 : k < a
              · have HAM := Lib.hid (show a - k = (a - (k + 1)) + 1 from by omega)
                by_cases hql : q < s.size
                · have hgq := sa_get s q hql
                  by_cases hsep : s[q] = sepC k
                  · have hgs : s.data.toList[q]? = some (sepC k) := by rw [hgq, hsep]
                    have hok := scanF_ok ar s.data.toList n (q + 1) (by omega)
                    have hcall : ∀ w2, SlI l h w2 (.slice (some ⟨b, off, none⟩) ar.length cap) ar → Calls Try.prog 98 #[.agg #[.slice (some ⟨b, off, none⟩) ar.length cap], .string s, .int .i64 ((q : Int) + 1)] w2 (RetScan w2 (scanF ar s.data.toList n (q + 1))) := fun w2 h => IH.out (q + 1) w2 (by omega) (by omega) h
                    have hbad : (scanF ar s.data.toList n (q + 1)).2.2 = false → scanF ar s.data.toList (n + 1) p = ([], (scanF ar s.data.toList n (q + 1)).2.1, false) := fun h => by rw [HSC.out, HAM.out]; exact args_bad hgs h
                    have hnext : (scanF ar s.data.toList n (q + 1)).2.2 = true → scanF ar s.data.toList (n + 1) p = scanArgs (scanF ar s.data.toList n) s.data.toList (a - (k + 1)) (k + 1) (acc ++ (scanF ar s.data.toList n (q + 1)).1) (scanF ar s.data.toList n (q + 1)).2.1 := fun h => by rw [HSC.out, HAM.out]; exact args_next hgs h
                    generalize scanF ar s.data.toList n (q + 1) = r at *
                    obtain ⟨rt, re, rb⟩ := r
                    rw [ScanOk, hsz] at hok
                    obtain ⟨hre, hok1, -⟩ := hok
                    have HCALL := Lib.hid hcall
                    have hsgn : (if k = 0 then ((((s[q].toNat : Nat) : Int) != 40) = false ∧ ((k : Int) == 0) = true) else ((((s[q].toNat : Nat) : Int) != 44) = false ∧ ((k : Int) == 0) = false)) := by
                      rw [hsep]
                      by_cases hk0 : k = 0
                      · simp [hk0, sepC]
                      · simp [hk0, sepC]
                    clear hcall hgs hgq hsep IH
                    by_cases hk0 : k = 0
                    all_goals
                      first | rw [if_pos hk0] at hsgn | rw [if_neg hk0] at hsgn
                      obtain ⟨hsg1, hsg2⟩ := hsgn
                      clear hk0
                      cases rb with
                      | false =>
                        have E4 := Lib.hid (hbad rfl)
                        clear hbad hnext hok1
                        go_wp2_with fail
                        refine (HCALL.out _ (hv0.below hbr.of_alloc)).mono ?_; rintro e w3 ⟨a3, n3, c3, rfl, ho3, hb3⟩
                        go_wp2_with fail
                        go_ret3
                        exact ⟨_, _, _, by rw [E4.out]; rfl, by rw [E4.out]; exact OwnI.nil _ _ _, hbr.of_alloc.step hb3⟩
                      | true =>
                        have E4 := Lib.hid (hnext rfl)
                        obtain ⟨hok2, hok3⟩ := hok1 rfl
                        simp only at hok2 hok3 hre
                        clear hbad hnext hok1
                        have hrt : rt.length ≤ 1048576 := by omega
                        have hac : acc.length ≤ 1048576 := by omega
                        go_wp2_with fail
                        refine (HCALL.out _ (hv0.below hbr.of_alloc)).mono ?_; rintro e w3 ⟨a3, n3, c3, rfl, ho3, hb3⟩
                        have hbox3 := boxc (hbr.step hb3) 0 _ rfl
                        have hown3 := ownsRow_bel hown hb3
                        simp only at ho3
                        obtain rfl : n3 = rt.length := by obtain ⟨_, _, e, _⟩ := ho3.1; simp at e; exact e.2.1
                        cases a3 with
                        | none =>
                          obtain ⟨ad', cap', e, -, hm, hr⟩ := ho3.1
                          simp only [Value.slice.injEq] at e
                          obtain ⟨rfl, -, rfl⟩ := e
                          obtain rfl : rt = [] := by
                            rcases Nat.eq_zero_or_pos rt.length with h0 | h0
                            · exact List.length_eq_zero_iff.1 h0
                            · obtain ⟨_, _, e, _⟩ := hr h0; simp at e
                          obtain rfl : c3 = 0 := hm.2 rfl
                          clear hr hm ho3
                          go_wp2_with (at_builtin; refine wpList_append_own_none rfl _ _ 24 rfl (w.heap.size + 1) 3 i0 1 Try.underlying24 hi0 _ _ _ rfl hown3 rfl ?_)
                          go_roundw
                          case rel => exact ⟨re, k + 1, acc, by omega, by omega, by omega, by omega, rfl, by go_num, by rw [E4.out]; simp, hown3, hbr.step hb3⟩
                          case measure => simp [intOf]; omega
                        | some ra =>
                          have hnw := news_of_sl ho3.sl
                          clear ho3
                          go_wp2_with (at_builtin; refine wpList_append_own _ rfl _ _ 24 rfl (w.heap.size + 1) 3 i0 (.int .i64 0) 1 8 Try.underlying24 hi0 hz0 hz1 hz2 rfl (by decide) _ _ _ rfl hown3 ra rt.length c3 (rt.map (Value.int .i64)) rfl (by simp) hnw (ones_int _) (by unfold maxLen; omega) (by omega) (by have := (hbr.step hb3).size; simp at this; omega) ?_; intro v' w4 hown' hgrow _)
                          have hb4 := (hbr.step hb3).grown hgrow (fun k hk => by have := own_base hown3 k hk; simp; omega)
                          have hown2 : w4.ownsRow (w.heap.size + 1) 3 1 v' (acc ++ rt).length ((acc ++ rt).map (Value.int .i64)) := by simpa using hown'
                          go_roundw
                          case rel => exact ⟨re, k + 1, acc ++ rt, by omega, by omega, by omega, by simp; omega, rfl, by go_num, E4.out, hown2, hb4⟩
                          case measure => simp [intOf]; omega
                  · have E4 : Hid (scanF ar s.data.toList (n + 1) p = ([], q, false)) := by
                      show _ = _; rw [HSC.out, HAM.out]; exact args_nosep (by rw [hgq]; simpa using hsep)
                    by_cases hk0 : k = 0
                    · have hk1 : ((k : Int) == 0) = true := by simpa using hk0
                      have hne : (((s[q].toNat : Nat) : Int) != 40) = true := u8_ne (a := s[q]) (b := 40) (by rw [show (40 : UInt8) = sepC k from by simp [sepC, hk0]]; exact hsep)
                      clear hsep hgq hk0
                      go_wp2_with fail
                      go_ret3
                      exact ⟨_, _, _, by rw [E4.out]; rfl, by rw [E4.out]; exact OwnI.nil _ _ _, hbr.of_alloc⟩
                    · have hk1 : ((k : Int) == 0) = false := by simpa using hk0
                      have hne : (((s[q].toNat : Nat) : Int) != 44) = true := u8_ne (a := s[q]) (b := 44) (by rw [show (44 : UInt8) = sepC k from by simp [sepC, hk0]]; exact hsep)
                      clear hsep hgq hk0
                      go_wp2_with fail
                      go_ret3
                      exact ⟨_, _, _, by rw [E4.out]; rfl, by rw [E4.out]; exact OwnI.nil _ _ _, hbr.of_alloc⟩
                · have E4 : Hid (scanF ar s.data.toList (n + 1) p = ([], q, false)) := by
                    show _ = _; rw [HSC.out, HAM.out]; exact args_nosep (by rw [List.getElem?_eq_none (by omega)]; simp)
                  have hqe : ((q : Int) == s.size) = true := by rw [beq_iff_eq]; omega
                  clear hql
                  go_wp2_with fail
                  all_goals
                    go_ret3
                    exact ⟨_, _, _, by rw [E4.out]; rfl, by rw [E4.out]; exact OwnI.nil _ _ _, hbr.of_alloc⟩
              · have HAM := Lib.hid (show a - k = 0 from by omega)
                by_cases hql : q < s.size
                · have hgq := sa_get s q hql
                  by_cases hsep : s[q] = 41
                  · have E4 : Hid (scanF ar s.data.toList (n + 1) p = (acc, q + 1, true)) := by
                      show _ = _; rw [HSC.out, HAM.out]; exact args_done (by rw [hgq, hsep])
                    have hne : (((s[q].toNat : Nat) : Int) != 41) = false := by rw [hsep]; rfl
                    obtain ⟨g, m, c, hv'⟩ := own_form hown
                    subst hv'
                    clear hsep hgq
                    go_wp2_with fail
                    go_ret3
                    exact ⟨_, _, _, by rw [E4.out]; rfl, by rw [E4.out]; exact (OwnI.of_row hown).mono (by omega) (Nat.le_refl _), hbr.of_alloc⟩
                  · have E4 : Hid (scanF ar s.data.toList (n + 1) p = ([], q, false)) := by
                      show _ = _; rw [HSC.out, HAM.out]; exact args_noclose (by rw [hgq]; simpa using hsep)
                    have hne : (((s[q].toNat : Nat) : Int) != 41) = true := u8_ne (a := s[q]) (b := 41) hsep
                    clear hsep hgq
                    go_wp2_with fail
                    go_ret3
                    exact ⟨_, _, _, by rw [E4.out]; rfl, by rw [E4.out]; exact OwnI.nil _ _ _, hbr.of_alloc⟩
                · have E4 : Hid (scanF ar s.data.toList (n + 1) p = ([], q, false)) := by
                    show _ = _; rw [HSC.out, HAM.out]; exact args_noclose (by rw [List.getElem?_eq_none (by omega)]; simp)
                  have hqe : ((q : Int) == s.size) = true := by rw [beq_iff_eq]; omega
                  clear hql
                  go_wp2_with fail
                  go_ret3
                  exact ⟨_, _, _, by rw [E4.out]; rfl, by rw [E4.out]; exact OwnI.nil _ _ _, hbr.of_alloc⟩
    · have E := Lib.hid (scan_end (ar := ar) (T := s.data.toList) (f := n) (p := p) (by omega))
      rw [hsz] at E
      clear hr
      go_enter Try.func98, Try.ntmps98
      go_wp2_with fail
      go_ret3
      exact ⟨_, _, _, by rw [E.out]; rfl, by rw [E.out]; exact OwnI.nil _ _ _, Bel.alloc0 _ _⟩
end Go.Proofs.Ytajmjjandkdhiaa
end
section
namespace Go.Proofs.Ytajmjjandkdhiaa
open Go.RowKit
set_option maxRecDepth 100000

theorem slIndex_q (s : ByteArray) (c : Int) (w : World) :
    Calls Try.prog 141 #[.string s, .int .u8 c] w fun e w' => e = .returned (.int .i64 (Lib.indexByte s.data.toList c.toNat.toUInt8)) ∧ w' = w := by
  go_enter Try.func141, Try.ntmps141
  go_wp2_with fail
  rw [run_callFunc_extern Try.func142 (by kernel_rfl) (by kernel_rfl) (by kernel_rfl) (e := Extern.BytealgIndexByte.indexByte) (by kernel_rfl), Lib.run_indexByteString]
  simp only [Result.andThen]
  rw [Oper.upon_value]
  go_wp2_with fail
  go_ret
  exact ⟨rfl, rfl⟩
theorem sIndex_q (s : ByteArray) (c : Int) (w : World) :
    Calls Try.prog 140 #[.string s, .int .u8 c] w fun e w' => e = .returned (.int .i64 (Lib.indexByte s.data.toList c.toNat.toUInt8)) ∧ w' = w := by
  go_enter Try.func140, Try.ntmps140
  go_wp2_with (go_at_call 141; refine (slIndex_q s c _).mono ?_; rintro e w' ⟨rfl, rfl⟩)
  go_ret
  exact ⟨rfl, rfl⟩

theorem varIdx : ∀ n : Nat, n < 256 → Lib.indexByte [65, 66, 67, 68, 69, 70, 71, 72, 73, 74, 75, 76] (UInt8.ofNat n) = if inB n 65 76 then (n : Int) - 65 else -1 := by decide +kernel
theorem symIdx : ∀ n : Nat, n < 256 → Lib.indexByte [97, 98, 99, 100, 101, 102, 103, 104, 105, 106] (UInt8.ofNat n) = if inB n 97 106 then (n : Int) - 97 else -1 := by decide +kernel
theorem varIdx_v (c : UInt8) (w : World) : Calls Try.prog 140 #[.string ⟨#[65, 66, 67, 68, 69, 70, 71, 72, 73, 74, 75, 76]⟩, .int .u8 (c.toNat : Int)] w fun e w' => e = .returned (.int .i64 (if inB c.toNat 65 76 then (c.toNat : Int) - 65 else -1)) ∧ w' = w := by
  have h := sIndex_q ⟨#[65, 66, 67, 68, 69, 70, 71, 72, 73, 74, 75, 76]⟩ (c.toNat : Int) w
  have h2 := varIdx c.toNat c.toNat_lt
  simp only [Int.toNat_natCast] at h
  rw [← h2]; exact h
theorem symIdx_v (c : UInt8) (w : World) : Calls Try.prog 140 #[.string ⟨#[97, 98, 99, 100, 101, 102, 103, 104, 105, 106]⟩, .int .u8 (c.toNat : Int)] w fun e w' => e = .returned (.int .i64 (if inB c.toNat 97 106 then (c.toNat : Int) - 97 else -1)) ∧ w' = w := by
  have h := sIndex_q ⟨#[97, 98, 99, 100, 101, 102, 103, 104, 105, 106]⟩ (c.toNat : Int) w
  have h2 := symIdx c.toNat c.toNat_lt
  simp only [Int.toNat_natCast] at h
  rw [← h2]; exact h

def numV (ar : List Int) (c : UInt8) : Value := match symAt ar c with | none => .tuple #[.int .i64 0, .bool false] | some x => .tuple #[.int .i64 x, .bool true]

set_option maxRecDepth 100000 in
theorem numberOf_c (l h : Nat) (v : Value) (ar : List Int) (c : UInt8) (w : World) (hg : goodSign ar = true) (hv : SlI l h w v ar) :
    Calls Try.prog 137 #[.agg #[v], .int .u8 (c.toNat : Int)] w (RetV w (numV ar c)) := by
  have hlen := sign_len ar hg
  obtain ⟨ad, cap, rfl⟩ := hv.form
  have hbb : ((c.toNat : Nat) : Int) < 256 := by have := c.toNat_lt; omega
  have hv1 := varIdx_v c
  have hs1 := symIdx_v c
  by_cases h1 : inB c.toNat 65 76 = true
  · have E : Hid (numV ar c = .tuple #[.int .i64 (-1 - ((c.toNat : Int) - 65)), .bool true]) := by show _ = _; unfold numV symAt; rw [if_pos h1]
    simp only [if_pos h1] at hv1
    have HV := Lib.hid hv1
    have h65 : (65 : Int) ≤ c.toNat := by simp [inB] at h1; omega
    clear hv1 hs1 h1
    go_enter Try.func137, Try.ntmps137
    go_wp2_with fail
    refine (HV.out _).mono ?_; rintro e w1 ⟨rfl, rfl⟩
    have hge : decide ((c.toNat : Int) - 65 ≥ 0) = true := by simp; omega
    go_wp2_with fail
    go_ret2
    exact ⟨by rw [E.out]; rfl, Bel.alloc0 _ _⟩
  · simp only [if_neg h1] at hv1
    have HV := Lib.hid hv1
    by_cases h2 : inB c.toNat 97 106 = true
    · simp only [if_pos h2] at hs1
      have HS := Lib.hid hs1
      by_cases h3 : (c.toNat : Int) - 97 < ar.length
      · have E : Hid (numV ar c = .tuple #[.int .i64 ((c.toNat : Int) - 97), .bool true]) := by
          show _ = _; unfold numV symAt; rw [if_neg h1, if_pos (by simp [inB] at h2 ⊢; omega)]
        have h97 : (97 : Int) ≤ c.toNat := by simp [inB] at h2; omega
        clear hv1 hs1 h1 h2
        go_enter Try.func137, Try.ntmps137
        go_wp2_with fail
        refine (HV.out _).mono ?_; rintro e w1 ⟨rfl, rfl⟩
        go_wp2_with fail
        refine (HS.out _).mono ?_; rintro e w1 ⟨rfl, rfl⟩
        go_wp2_with fail
        go_ret2
        exact ⟨by rw [E.out]; rfl, Bel.alloc0 _ _⟩
      · have E : Hid (numV ar c = .tuple #[.int .i64 0, .bool false]) := by
          show _ = _; unfold numV symAt; rw [if_neg h1, if_neg (by simp [inB] at h2 ⊢; omega)]
        have h97 : (97 : Int) ≤ c.toNat := by simp [inB] at h2; omega
        clear hv1 hs1 h1 h2
        go_enter Try.func137, Try.ntmps137
        go_wp2_with fail
        refine (HV.out _).mono ?_; rintro e w1 ⟨rfl, rfl⟩
        go_wp2_with fail
        refine (HS.out _).mono ?_; rintro e w1 ⟨rfl, rfl⟩
        go_wp2_with fail
        go_ret2
        exact ⟨by rw [E.out]; rfl, Bel.alloc0 _ _⟩
    · simp only [if_neg h2] at hs1
      have HS := Lib.hid hs1
      have E : Hid (numV ar c = .tuple #[.int .i64 0, .bool false]) := by
        show _ = _; unfold numV symAt; rw [if_neg h1, if_neg (by simp [inB] at h2 ⊢; omega)]
      clear hv1 hs1 h1 h2
      go_enter Try.func137, Try.ntmps137
      go_wp2_with fail
      refine (HV.out _).mono ?_; rintro e w1 ⟨rfl, rfl⟩
      go_wp2_with fail
      refine (HS.out _).mono ?_; rintro e w1 ⟨rfl, rfl⟩
      go_wp2_with fail
      go_ret2
      exact ⟨by rw [E.out]; rfl, Bel.alloc0 _ _⟩

theorem cut1 (s : ByteArray) (q : Nat) (h : q < s.size) : (s.extract q s.size).extract 0 1 = ⟨#[s[q]]⟩ := by
  apply ByteArray.ext
  simp only [ByteArray.data_extract]
  apply Array.ext
  · have h' : q < s.data.size := h
    simp; omega
  · intro i h1 h2
    simp at h2
    subst h2
    have h' : q < s.data.size := h
    simp only [Array.getElem_extract]
    rfl
theorem one_eq (a b : UInt8) : ((⟨#[a]⟩ : ByteArray).toList == [b]) = decide (some a = some b) := by
  have h : (⟨#[a]⟩ : ByteArray).toList = [a] := by rw [ByteArray.toList_eq]
  rw [h, Bool.eq_iff_iff]; simp

theorem slPrefix_q (s : ByteArray) (q : Nat) (b : UInt8) (hq : q ≤ s.size) (hs : s.size ≤ 1048576) (w : World) :
    Calls Try.prog 125 #[.string (s.extract q s.size), .string ⟨#[b]⟩] w fun e w' => e = .returned (.bool (decide (s.data.toList[q]? = some b))) ∧ w' = w := by
  by_cases h : q < s.size
  · have E : Hid ((((s.extract q s.size).extract 0 1).toList == [b]) = decide (s.data.toList[q]? = some b)) := by
      show _ = _; rw [cut1 s q h, one_eq, sa_get s q h]
    go_enter Try.func125, Try.ntmps125
    go_wp2_with fail
    go_ret
    exact ⟨by rw [← E.out]; rfl, rfl⟩
  · have E : Hid (decide (s.data.toList[q]? = some b) = false) := by
      show _ = _; rw [List.getElem?_eq_none (by rw [Array.length_toList]; show s.size ≤ q; omega)]; rfl
    go_enter Try.func125, Try.ntmps125
    go_wp2_with fail
    go_ret
    exact ⟨by first | (rw [E.out]; rfl) | rfl | (simp; rfl), rfl⟩
theorem sPrefix_v (s : ByteArray) (q : Nat) (b : UInt8) (r : Bool) (hr : decide (s.data.toList[q]? = some b) = r) (hq : q ≤ s.size) (hs : s.size ≤ 1048576) (w : World) :
    Calls Try.prog 90 #[.string (s.extract q s.size), .string ⟨#[b]⟩] w fun e w' => e = .returned (.bool r) ∧ w' = w := by
  have h := fun w => slPrefix_q s q b hq hs w
  rw [hr] at h
  have HH := Lib.hid h
  clear h hr
  go_enter Try.func90, Try.ntmps90
  go_wp2_with (go_at_call 125; refine (HH.out _).mono ?_; rintro e w' ⟨rfl, rfl⟩)
  go_ret
  exact ⟨rfl, rfl⟩
end Go.Proofs.Ytajmjjandkdhiaa
end
