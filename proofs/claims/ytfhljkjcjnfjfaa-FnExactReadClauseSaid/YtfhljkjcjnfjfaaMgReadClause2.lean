/- Texts merged, part 2. -/
import Derived.Laws.BytesString
import Derived.Laws.AppendOwnNone
import Derived.Lib.AppendZeros
import Derived.Test.YtfhljkjcjnfjfaaMgReadClause1
section
/- The places of a symbol's arguments: both functions' inner ones, and ArgsAt. -/
namespace Go.Proofs.Ytfhljkjcjnfjfaa
open Go.RowKit

def natsI (l : List Nat) : List Int := l.map fun (n : Nat) => (n : Int)
theorem natsI_len (l : List Nat) : (natsI l).length = l.length := by simp [natsI]
theorem argsGo_succ {ar t : List Int} {k p q : Nat} (h : endOf ar t p = some q) : argsGo ar t (k + 1) p = p :: argsGo ar t k q := by simp [argsGo, h]

/-- Somewhere in the loop over the arguments: acc is done, k are still to come, from p on. -/
def ArgSt (ar t : List Int) (all : List Nat) (acc : List Nat) (k p : Nat) : Prop := all = acc ++ argsGo ar t k p ∧ ∃ e, endGo ar (t.drop p) k p = some e ∧ e ≤ t.length
theorem ArgSt.start {ar t : List Int} {i : Nat} (h : okTerm ar t = true) (hi : i < t.length) : ArgSt ar t (argsOf ar t i) [] (arOf ar (t.getD i 0)) (i + 1) := by
  obtain ⟨e, h1, h2⟩ := good_args ar t h i hi
  exact ⟨rfl, e, h1, h2⟩
theorem ArgSt.next {ar t : List Int} {all acc : List Nat} {k p : Nat} (h : ArgSt ar t all acc (k + 1) p) : ∃ q, endOf ar t p = some q ∧ p < t.length ∧ p < q ∧ q ≤ t.length ∧ ArgSt ar t all (acc ++ [p]) k q := by
  obtain ⟨h1, e, h2, h3⟩ := h
  obtain ⟨q, hq, hr, hpq, hqe⟩ := ends_step ar t p k e h2
  exact ⟨q, hq, by omega, hpq, by omega, by rw [h1, argsGo_succ hq]; simp, e, hr, h3⟩
theorem ArgSt.done {ar t : List Int} {all acc : List Nat} {p : Nat} (h : ArgSt ar t all acc 0 p) : all = acc := by rw [h.1]; simp [argsGo]
theorem argsOf_neg {ar t : List Int} {i : Nat} (h : t.getD i 0 < 0) : argsOf ar t i = [] := by unfold argsOf; rw [arOf_neg h]; rfl
theorem argsOf_len {ar t : List Int} {i : Nat} : (argsOf ar t i).length = arOf ar (t.getD i 0) := argsGo_len _ _ _ _

theorem natsI_snoc (l : List Nat) (p : Nat) : natsI (l ++ [p]) = natsI l ++ [(p : Int)] := by simp [natsI]

set_option maxRecDepth 100000 in
set_option maxHeartbeats 2000000 in
theorem l1Args_c (l h l' h' : Nat) (v u : Value) (ar t : List Int) (i : Nat) (w : World) (hg : goodSign ar = true) (hok : okTerm ar t = true) (hi : i < t.length) (hv : SlI l h w v ar) (hu : SlI l' h' w u t) :
    Calls Try.prog 128 #[.agg #[v], u, .int .i64 i] w (RetI w (natsI (argsOf ar t i))) := by
  have hv0 := hv; have hu0 := hu
  obtain ⟨ad, cap, rfl, -, -, hr⟩ := hv
  obtain ⟨ad', cap', rfl, -, -, hr'⟩ := hu
  have hlen := sign_len ar hg
  have htl := ((okTerm_iff ar t).1 hok).2.1
  have hst := ArgSt.start hok hi
  have hsym := good_sym ar t hok i hi
  have htc := fun (p : Nat) => l1End_c l h l' h' (.slice ad ar.length cap) (.slice ad' t.length cap') ar t p
  obtain ⟨i0, hi0, hz0, hz1, hz2⟩ := info_parts Try.info3
  obtain ⟨b', off', rfl, hbl, hcell'⟩ := rd hr' (Bel.rfl' w) i hi
  have hE := fun h => argsOf_neg (ar := ar) (t := t) (i := i) h
  clear hr'
  have hn3 := arOf_le ar hg (t.getD i 0)
  generalize t.getD i 0 = x at *
  by_cases hx : x < 0
  · have E := Lib.hid (hE hx)
    clear hst hE htc
    go_enter Try.func128, Try.ntmps128
    go_wp2_with fail
    go_ret
    refine ⟨none, 0, 0, rfl, ?_, Bel.alloc0 _ _⟩
    rw [E.out]; exact OwnI.nil _ _ _
  · obtain ⟨k, rfl⟩ : ∃ k : Nat, x = k := ⟨x.toNat, by omega⟩
    have hk := okSym_lt hsym
    obtain ⟨b, off, rfl, hbl2, hcell⟩ := rd hr (Bel.rfl' w) k hk
    have hn := ar_nonneg ar hg k
    rw [arOf_nat] at hst hn3
    clear hr hsym
    obtain ⟨q, hq⟩ : ∃ q : Nat, ar.getD k 0 = q := ⟨(ar.getD k 0).toNat, by omega⟩
    rw [hq] at hcell hst hn hn3
    rw [show ((q : Int)).toNat = q from by omega] at hst hn3
    clear hq
    have hk2 : (k : Int) < ar.length := by omega
    have hi2 : (i : Int) < t.length := by omega
    have HST := Lib.hid hst
    have HTC := Lib.hid htc
    clear hst htc hE
    generalize argsOf ar t i = all at *
    go_enter Try.func128, Try.ntmps128
    go_wp2_with fail
    go_quiet (fail)
    go_wp2_with fail
    go_loopw [7, 8, 9] (fun vs a c wr => ∃ (acc : List Nat) (p j : Nat), j ≤ q ∧ acc.length + j = q ∧ a = .int .i64 p ∧ c = .int .i64 j ∧ ArgSt ar t all acc j p ∧
        wr.ownsRow (w.heap.size + 1) 3 1 vs (natsI acc).length ((natsI acc).map (Value.int .i64)) ∧ Bel (w.alloc (.cells #[.slice (some ⟨b, off, none⟩) ar.length cap] 30)) wr) (fun _ _ c _ => (intOf c).toNat)
    case atStart => exact ⟨[], i + 1, q, Nat.le_refl _, by simp, by go_num, rfl, HST.out, World.ownsRow_nil _ _ _ _, (Bel.rfl' _).drewN _⟩
    case round =>
      obtain ⟨acc, p, j, hj, hacc, rfl, rfl, hst, hown, hb⟩ := hrel
      have hbox := boxc hb 0 _ rfl
      cases j with
      | succ j =>
        obtain ⟨q', hq', hpt, hpq, hqt, hst'⟩ := ArgSt.next hst
        have HC := Lib.hid (fun w a b c d e => endI_some hq' ▸ HTC.out p w a b c d e)
        have HS2 := Lib.hid hst'
        have hal : (natsI acc).length ≤ 3 := by rw [natsI_len]; omega
        have HA := Lib.hid hacc
        clear hst hst' hq' hacc
        rw [show ((j + 1 : Nat) : Int) = (j : Int) + 1 from by omega]
        go_wp2_with (at_builtin; refine wpList_append_own _ rfl _ _ 22 rfl (w.heap.size + 1) 3 i0 (.int .i64 0) 1 8 Try.underlying22 hi0 hz0 hz1 hz2 rfl (by decide) _ _ _ rfl (hown.alloc _) ⟨wr.heap.size, 0, none⟩ 1 1 [.int .i64 p] rfl rfl (news_one _ _ _) (one_int _) (by unfold maxLen; omega) (by omega) (by have := hb.size; simp at *; omega) ?_; intro v' w1 hown' hgrow _; have hb1 := (hb.alloc (.cells #[.int .i64 p] 3)).grown hgrow (fun k hk => by have := own_base hown k hk; simp; omega); have hbox1 := boxc hb1 0 _ rfl)
        refine (HC.out _ hg (by omega) (by omega) (hv0.below hb1.of_alloc) (hu0.below hb1.of_alloc)).mono ?_; rintro e w2 ⟨rfl, hb2⟩
        have hown2 := ownsRow_bel (row_snoc hown') hb2
        rw [← natsI_snoc] at hown2
        go_wp2_with fail
        go_roundw
        case rel => exact ⟨acc ++ [p], q', j, by omega, by have := HA.out; simp; omega, rfl, by go_num, HS2.out, hown2, hb1.step hb2⟩
        case measure => simp [intOf]
      | zero =>
        have HS2 := Lib.hid hst.done
        clear hst
        go_wp2_with fail
        obtain ⟨g, n, c, hv'⟩ := own_form hown
        subst hv'
        go_ret
        exact ⟨_, _, _, rfl, by rw [HS2.out]; exact (OwnI.of_row hown).mono (by omega) (Nat.le_refl _), hb.of_alloc⟩

/-- What ArgsAt answers. -/
def argsAns (ar t : List Int) (i : Int) : List Int := if askOk ar t i then natsI (argsOf ar t i.toNat) else []
theorem argsAns_len (ar t : List Int) (i : Int) : (argsAns ar t i).length ≤ 1048576 := by
  unfold argsAns
  split
  · rename_i h
    obtain ⟨k, e, rfl, _, _, _, _, _, hg, _⟩ := ask_yes h
    rw [natsI_len, argsOf_len]
    exact Nat.le_trans (arOf_le ar hg _) (by omega)
  · exact Nat.zero_le _

end Go.Proofs.Ytfhljkjcjnfjfaa
end
section
/- DepthOf: both functions. -/
namespace Go.Proofs.Ytfhljkjcjnfjfaa
open Go.RowKit

/-- The greatest of some numbers, from m on. -/
def maxL (m : Nat) : List Nat → Nat
  | [] => m
  | x :: l => maxL (max m x) l
theorem maxL_snoc (m : Nat) (l : List Nat) (x : Nat) : maxL m (l ++ [x]) = max (maxL m l) x := by
  induction l generalizing m with
  | nil => rfl
  | cons y l ih => exact ih _
theorem maxL_le (m n : Nat) (l : List Nat) (hm : m ≤ n) (h : ∀ x ∈ l, x ≤ n) : maxL m l ≤ n := by
  induction l generalizing m with
  | nil => exact hm
  | cons y l ih => exact ih _ (by have := h y (by simp); omega) (fun x hx => h x (by simp [hx]))

def depthF (ar t : List Int) : Nat → Nat → Nat
  | 0, _ => 0
  | f + 1, i => 1 + maxL 0 ((argsOf ar t i).map (depthF ar t f))
/-- The depth of the subterm at i. -/
def depthAt (ar t : List Int) (i : Nat) : Nat := depthF ar t (t.length - i) i

theorem argsGo_bd (ar t : List Int) : ∀ (k p e : Nat), endGo ar (t.drop p) k p = some e → ∀ a ∈ argsGo ar t k p, p ≤ a ∧ a < e := by
  intro k
  induction k with
  | zero => intro p e _ a ha; simp [argsGo] at ha
  | succ k ih =>
    intro p e h a ha
    obtain ⟨q, hq, hr, hpq, hqe⟩ := ends_step ar t p k e h
    rw [argsGo_succ hq] at ha
    rcases List.mem_cons.1 ha with rfl | ha
    · omega
    · have := ih q e hr a ha; omega
theorem argsOf_bd (ar t : List Int) (h : okTerm ar t = true) (i : Nat) (hi : i < t.length) : ∀ a ∈ argsOf ar t i, i < a ∧ a < t.length := by
  obtain ⟨e, h1, h2⟩ := good_args ar t h i hi
  intro a ha
  have := argsGo_bd ar t _ _ _ h1 a ha
  omega
theorem depthF_fuel (ar t : List Int) (h : okTerm ar t = true) : ∀ (n i : Nat), i < t.length → t.length - i ≤ n → ∀ f, t.length - i ≤ f → depthF ar t f i = depthAt ar t i := by
  intro n
  induction n with
  | zero => intro i hi hn; omega
  | succ n ih =>
    intro i hi hn f hf
    obtain ⟨f, rfl⟩ : ∃ f', f = f' + 1 := ⟨f - 1, by omega⟩
    unfold depthAt
    obtain ⟨g, hg⟩ : ∃ g, t.length - i = g + 1 := ⟨t.length - i - 1, by omega⟩
    rw [hg, depthF, depthF]
    congr 2
    apply List.map_congr_left
    intro a ha
    have hb := argsOf_bd ar t h i hi a ha
    rw [ih a hb.2 (by omega) f (by omega), ih a hb.2 (by omega) g (by omega)]
theorem depthAt_eq (ar t : List Int) (h : okTerm ar t = true) (i : Nat) (hi : i < t.length) : depthAt ar t i = 1 + maxL 0 ((argsOf ar t i).map (depthAt ar t)) := by
  conv => lhs; unfold depthAt
  obtain ⟨g, hg⟩ : ∃ g, t.length - i = g + 1 := ⟨t.length - i - 1, by omega⟩
  rw [hg, depthF]
  congr 2
  apply List.map_congr_left
  intro a ha
  have hb := argsOf_bd ar t h i hi a ha
  exact depthF_fuel ar t h t.length a hb.2 (by omega) g (by omega)
theorem depthF_le (ar t : List Int) : ∀ f i, depthF ar t f i ≤ f := by
  intro f
  induction f with
  | zero => intro i; exact Nat.le_refl _
  | succ f ih =>
    intro i
    rw [depthF]
    have := maxL_le 0 f ((argsOf ar t i).map (depthF ar t f)) (Nat.zero_le _) (by intro x hx; simp at hx; obtain ⟨a, _, rfl⟩ := hx; exact ih a)
    omega
theorem depthAt_le (ar t : List Int) (i : Nat) : depthAt ar t i ≤ t.length := Nat.le_trans (depthF_le ar t _ i) (by omega)

theorem maxD_le (ar t : List Int) (l : List Nat) : maxL 0 (l.map (depthAt ar t)) ≤ t.length :=
  maxL_le 0 t.length _ (Nat.zero_le _) (by intro x hx; rw [List.mem_map] at hx; obtain ⟨a, _, rfl⟩ := hx; exact depthAt_le ar t a)
theorem l1Most_c (a b : Nat) (w : World) : Calls Try.prog 138 #[.int .i64 a, .int .i64 b] w (RetV w (.int .i64 ((max a b : Nat) : Int))) := by
  by_cases h : b < a
  · have E : Hid (max a b = a) := by show max a b = a; omega
    go_enter Try.func138, Try.ntmps138
    go_wp2_with fail
    go_ret
    exact ⟨by rw [E.out]; rfl, Bel.rfl' _⟩
  · have E : Hid (max a b = b) := by show max a b = b; omega
    go_enter Try.func138, Try.ntmps138
    go_wp2_with fail
    go_ret
    exact ⟨by rw [E.out]; rfl, Bel.rfl' _⟩

theorem natsI_get (l : List Nat) (k : Nat) (h : k < l.length) : (natsI l).getD k 0 = ((l.getD k 0 : Nat) : Int) := by simp [natsI, List.getD, h]
theorem maxL_step (d : Nat → Nat) (l : List Nat) (k : Nat) (h : k < l.length) : maxL 0 ((l.take (k+1)).map d) = max (maxL 0 ((l.take k).map d)) (d (l.getD k 0)) := by
  rw [List.take_succ_eq_append_getElem h, List.map_append]
  simp only [List.map_cons, List.map_nil]
  rw [maxL_snoc]
  simp [List.getD, h]

def depthAns (ar t : List Int) : Int := if goodTerm ar t then depthAt ar t 0 else 0
theorem depth_no {ar t : List Int} (h : goodTerm ar t = false) : depthAns ar t = 0 := by simp [depthAns, h]
theorem depth_yes {ar t : List Int} (h : goodTerm ar t = true) : depthAns ar t = depthAt ar t 0 := by simp [depthAns, h]

end Go.Proofs.Ytfhljkjcjnfjfaa
end
section
namespace Go.Proofs.Ytfhljkjcjnfjfaa
open Go.RowKit
theorem conv1 (W : World) (m : Nat) (n : Int) (hm : m = W.heap.size) :
    (convert 66 9 (.slice (some ⟨m, 0, none⟩) 1 1)).run Try.prog (W.alloc (.cells #[.int .u8 n] 5)) = .ok (.string ⟨#[UInt8.ofNat n.toNat]⟩) (W.alloc (.cells #[.int .u8 n] 5)) := by
  subst hm
  rw [run_convert_bytes_string _ 66 9 5 _ _ _ Try.underlying66 Try.underlying5 Try.underlying9]
  rw [run_bytesToString _ _ 1 1 [n] ?_]
  · rfl
  · simp [loadCells, go_sem]
end Go.Proofs.Ytfhljkjcjnfjfaa
end
section
/- TermText: both functions. -/
namespace Go.Proofs.Ytfhljkjcjnfjfaa
open Go.RowKit

def letter (x : Int) : UInt8 := if x < 0 then (65 + (-1 - x)).toNat.toUInt8 else (97 + x).toNat.toUInt8
def bytesS (l : List UInt8) : Value := .string ⟨l.toArray⟩

theorem cut12 : ∀ k : Nat, k < 12 → (ByteArray.mk #[65, 66, 67, 68, 69, 70, 71, 72, 73, 74, 75, 76]).extract (-1 - (-1 - (k : Int))).toNat (-(-1 - (k : Int))).toNat = ⟨#[letter (-1 - (k : Int))]⟩ := by decide +kernel
theorem cut10 : ∀ k : Nat, k < 10 → (ByteArray.mk #[97, 98, 99, 100, 101, 102, 103, 104, 105, 106]).extract k (k + 1) = ⟨#[letter (k : Int)]⟩ := by decide +kernel

theorem markBefore_0 (w : World) : Calls Try.prog 151 #[.int .i64 0] w (RetV w (bytesS [40])) := by
  go_enter Try.func151, Try.ntmps151
  go_wp2_with fail
  go_ret
  exact ⟨rfl, Bel.rfl' _⟩
theorem markBefore_n (k : Nat) (w : World) (h : k ≠ 0) : Calls Try.prog 151 #[.int .i64 k] w (RetV w (bytesS [44])) := by
  have h' : ((k : Int) == 0) = false := by simpa using h
  clear h
  go_enter Try.func151, Try.ntmps151
  go_wp2_with fail
  go_ret
  exact ⟨rfl, Bel.rfl' _⟩

def sepB (k : Nat) : UInt8 := if k = 0 then 40 else 44
def accT (g : Nat → List UInt8) (l : List Nat) : Nat → List UInt8
  | 0 => []
  | k + 1 => accT g l k ++ (sepB k :: g (l.getD k 0))
def textF (ar t : List Int) : Nat → Nat → List UInt8
  | 0, _ => []
  | f + 1, i => letter (t.getD i 0) :: (accT (textF ar t f) (argsOf ar t i) (argsOf ar t i).length ++ (if (argsOf ar t i).length = 0 then [] else [41]))
def textAt (ar t : List Int) (i : Nat) : List UInt8 := textF ar t (t.length - i) i

theorem accT_congr (g g' : Nat → List UInt8) (l : List Nat) (h : ∀ a ∈ l, g a = g' a) : ∀ k, k ≤ l.length → accT g l k = accT g' l k := by
  intro k
  induction k with
  | zero => intro _; rfl
  | succ k ih =>
    intro hk
    rw [accT, accT, ih (by omega), h (l.getD k 0) (by simp [List.getD, show k < l.length from by omega])]
theorem textF_fuel (ar t : List Int) (h : okTerm ar t = true) : ∀ (n i : Nat), i < t.length → t.length - i ≤ n → ∀ f, t.length - i ≤ f → textF ar t f i = textAt ar t i := by
  intro n
  induction n with
  | zero => intro i hi hn; omega
  | succ n ih =>
    intro i hi hn f hf
    obtain ⟨f, rfl⟩ : ∃ f', f = f' + 1 := ⟨f - 1, by omega⟩
    unfold textAt
    obtain ⟨g, hg⟩ : ∃ g, t.length - i = g + 1 := ⟨t.length - i - 1, by omega⟩
    rw [hg, textF, textF]
    congr 2
    refine accT_congr _ _ _ (fun a ha => ?_) _ (Nat.le_refl _)
    have hb := argsOf_bd ar t h i hi a ha
    rw [ih a hb.2 (by omega) f (by omega), ih a hb.2 (by omega) g (by omega)]
theorem textAt_eq (ar t : List Int) (h : okTerm ar t = true) (i : Nat) (hi : i < t.length) :
    textAt ar t i = letter (t.getD i 0) :: (accT (textAt ar t) (argsOf ar t i) (argsOf ar t i).length ++ (if (argsOf ar t i).length = 0 then [] else [41])) := by
  conv => lhs; unfold textAt
  obtain ⟨g, hg⟩ : ∃ g, t.length - i = g + 1 := ⟨t.length - i - 1, by omega⟩
  rw [hg, textF]
  congr 2
  refine accT_congr _ _ _ (fun a ha => ?_) _ (Nat.le_refl _)
  have hb := argsOf_bd ar t h i hi a ha
  exact textF_fuel ar t h t.length a hb.2 (by omega) g (by omega)

theorem accT_len (g : Nat → List UInt8) (l : List Nat) : ∀ k, k ≤ l.length → (accT g l k).length = ((l.take k).map fun a => (g a).length + 1).sum := by
  intro k
  induction k with
  | zero => intro _; rfl
  | succ k ih =>
    intro hk
    rw [accT, List.length_append, ih (by omega), List.take_succ_eq_append_getElem (by omega), List.map_append, List.sum_append]
    simp [List.getD, show k < l.length from by omega]
theorem sum_take_le (l : List Nat) (k : Nat) : (l.take k).sum ≤ l.sum := by
  conv => rhs; rw [← List.take_append_drop k l]
  rw [List.sum_append]; omega
theorem args_sum (ar t : List Int) (g : Nat → List UInt8) : ∀ (k p e : Nat), endGo ar (t.drop p) k p = some e → (∀ a ∈ argsGo ar t k p, ∀ q, endOf ar t a = some q → (g a).length + 1 ≤ 3 * (q - a)) → ((argsGo ar t k p).map fun a => (g a).length + 1).sum ≤ 3 * (e - p) := by
  intro k
  induction k with
  | zero => intro p e _ _; simp [argsGo]
  | succ k ih =>
    intro p e h hg
    obtain ⟨q, hq, hr, hpq, hqe⟩ := ends_step ar t p k e h
    rw [argsGo_succ hq] at hg ⊢
    have h1 := hg p (by simp) q hq
    have h2 := ih q e hr (fun a ha => hg a (by simp [ha]))
    simp only [List.map_cons, List.sum_cons]
    omega
theorem textAt_len (ar t : List Int) (h : okTerm ar t = true) : ∀ (n i : Nat), t.length - i ≤ n → i < t.length → ∀ q, endOf ar t i = some q → (textAt ar t i).length + 1 ≤ 3 * (q - i) := by
  intro n
  induction n with
  | zero => intro i hn hi; omega
  | succ n ih =>
    intro i hn hi q hq
    obtain ⟨e, h1, h2⟩ := good_args ar t h i hi
    have hs := good_sym ar t h i hi
    have he : e = q := by
      unfold endOf at hq
      rw [drop_cons t i hi, endGo_cons, if_pos hs, Nat.zero_add, h1] at hq
      simpa using hq
    subst he
    have hsum := args_sum ar t (textAt ar t) _ _ _ h1 (fun a ha q hq => ih a (by have := argsOf_bd ar t h i hi a ha; omega) (argsOf_bd ar t h i hi a ha).2 q hq)
    have hge := endGo_ge _ _ _ _ _ h1
    rw [textAt_eq ar t h i hi]
    simp only [List.length_cons, List.length_append]
    rw [accT_len _ _ _ (Nat.le_refl _), List.take_length]
    have e2 : argsOf ar t i = argsGo ar t (arOf ar (t.getD i 0)) (i + 1) := rfl
    rw [← e2] at hsum
    split <;> simp <;> omega
theorem textAt_le (ar t : List Int) (h : okTerm ar t = true) (i : Nat) (hi : i < t.length) : (textAt ar t i).length ≤ 120 := by
  obtain ⟨e, he, h1, h2⟩ := good_end ar t h i hi
  have := textAt_len ar t h t.length i (by omega) hi e he
  have := ((okTerm_iff ar t).1 h).2.1
  omega
theorem accT_le (g : Nat → List UInt8) (l : List Nat) (k n : Nat) (hk : k ≤ l.length) (h : (accT g l l.length).length ≤ n) : (accT g l k).length ≤ n := by
  rw [accT_len g l k hk]
  rw [accT_len g l _ (Nat.le_refl _), List.take_length] at h
  refine Nat.le_trans ?_ h
  rw [List.map_take]
  exact sum_take_le _ _
theorem acc_le (ar t : List Int) (h : okTerm ar t = true) (i : Nat) (hi : i < t.length) (k : Nat) (hk : k ≤ (argsOf ar t i).length) : (accT (textAt ar t) (argsOf ar t i) k).length ≤ 119 := by
  refine accT_le _ _ _ _ hk ?_
  have := textAt_le ar t h i hi
  rw [textAt_eq ar t h i hi] at this
  simp only [List.length_cons, List.length_append] at this
  omega

/-- A text. -/
def RetT (w : World) (l : List UInt8) (e : Ending) (w' : World) : Prop := ∃ A : ByteArray, e = .returned (.string A) ∧ A.data.toList = l ∧ Bel w w'
theorem ba_app (A B : ByteArray) : (A ++ B).data.toList = A.data.toList ++ B.data.toList := by rw [ByteArray.data_append, Array.toList_append]
theorem ba_size (A : ByteArray) : A.size = A.data.toList.length := by rw [Array.length_toList]; rfl
end Go.Proofs.Ytfhljkjcjnfjfaa
end
section
namespace Go.Proofs.Ytfhljkjcjnfjfaa
open Go.RowKit

theorem letter_u8_neg (x : Int) (h : x < 0) : (⟨#[UInt8.ofNat ((65 + (-1 - x)) : Int).toNat]⟩ : ByteArray).data.toList = [letter x] := by simp [letter, h]
theorem letter_u8_pos : ∀ k : Nat, k < 10 → (97 + UInt8.ofNat k) = letter (k : Int) := by decide +kernel

end Go.Proofs.Ytfhljkjcjnfjfaa
end
section
namespace Go.Proofs.Ytfhljkjcjnfjfaa
open Go.RowKit

theorem markBefore_q (k : Nat) (b : UInt8) (h : sepB k = b) (w : World) : Calls Try.prog 151 #[.int .i64 k] w fun e w' => e = .returned (.string ⟨#[b]⟩) ∧ w' = w := by
  subst h
  by_cases h : k = 0
  · subst h
    go_enter Try.func151, Try.ntmps151
    go_wp2_with fail
    go_ret
    exact ⟨rfl, rfl⟩
  · have h' : ((k : Int) == 0) = false := by simpa using h
    have E : Hid (sepB k = 44) := if_neg h
    clear h
    go_enter Try.func151, Try.ntmps151
    go_wp2_with fail
    go_ret
    exact ⟨by rw [E.out]; rfl, rfl⟩
/-- The text of a term, as bytes. -/
def textBA (ar t : List Int) : ByteArray := if goodTerm ar t then ⟨(textAt ar t 0).toArray⟩ else ⟨#[]⟩
theorem ba_eq {A : ByteArray} {l : List UInt8} (h : A.data.toList = l) : A = ⟨l.toArray⟩ := by subst h; cases A; simp
theorem text_no {ar t : List Int} (h : goodTerm ar t = false) : textBA ar t = ⟨#[]⟩ := by simp [textBA, h]
theorem text_yes {ar t : List Int} (h : goodTerm ar t = true) : textBA ar t = ⟨(textAt ar t 0).toArray⟩ := by simp [textBA, h]

end Go.Proofs.Ytfhljkjcjnfjfaa
end
section
/- Reading a term, plainly. No program. -/
namespace Go.Proofs.Ytfhljkjcjnfjfaa

def sepC (k : Nat) : UInt8 := if k = 0 then 40 else 44
/-- What a letter stands for. -/
def symAt (ar : List Int) (b : UInt8) : Option Int :=
  if inB b.toNat 65 76 then some (-1 - ((b.toNat : Int) - 65)) else if inB b.toNat 97 (97 + (ar.length : Int) - 1) then some ((b.toNat : Int) - 97) else none

abbrev Scanned := List Int × Nat × Bool
def scanArgs (g : Nat → Scanned) (T : List UInt8) : Nat → Nat → List Int → Nat → Scanned
  | 0, _, acc, p => if T[p]? = some 41 then (acc, p + 1, true) else ([], p, false)
  | m + 1, k, acc, p => if T[p]? = some (sepC k) then (if (g (p + 1)).2.2 then scanArgs g T m (k + 1) (acc ++ (g (p + 1)).1) (g (p + 1)).2.1 else ([], (g (p + 1)).2.1, false)) else ([], p, false)
def scanF (ar : List Int) (T : List UInt8) : Nat → Nat → Scanned
  | 0, p => ([], p, false)
  | f + 1, p => match T[p]? with
    | none => ([], T.length, false)
    | some b => match symAt ar b with
      | none => ([], p, false)
      | some n => if arOf ar n = 0 then ([n], p + 1, true) else scanArgs (scanF ar T f) T (arOf ar n) 0 [n] (p + 1)

/-- What holds of a result that began at p. -/
def ScanOk (T : List UInt8) (p : Nat) (r : Scanned) : Prop := r.2.1 ≤ T.length ∧ (r.2.2 = true → p < r.2.1 ∧ r.1.length ≤ r.2.1 - p) ∧ (r.2.2 = false → r.1 = [])

theorem scanArgs_ok (g : Nat → Scanned) (T : List UInt8) (p0 : Nat) (hg : ∀ q, q ≤ T.length → ScanOk T q (g q)) : ∀ (m k : Nat) (acc : List Int) (p : Nat), p0 < p → p ≤ T.length → acc.length ≤ p - p0 → ScanOk T p0 (scanArgs g T m k acc p) := by
  intro m
  induction m with
  | zero =>
    intro k acc p h1 h2 h3
    unfold scanArgs
    by_cases h : T[p]? = some 41
    · have := (List.getElem?_eq_some_iff.1 h).1
      rw [if_pos h]; exact ⟨by simp; omega, fun _ => ⟨by simp; omega, by simp; omega⟩, fun h => by simp at h⟩
    · rw [if_neg h]; exact ⟨h2, fun h => by simp at h, fun _ => rfl⟩
  | succ m ih =>
    intro k acc p h1 h2 h3
    unfold scanArgs
    by_cases h : T[p]? = some (sepC k)
    · have hl := (List.getElem?_eq_some_iff.1 h).1
      rw [if_pos h]
      obtain ⟨a1, a2, a3⟩ := hg (p + 1) (by omega)
      cases hb : (g (p + 1)).2.2 with
      | true =>
        rw [if_pos rfl]
        obtain ⟨b1, b2⟩ := a2 hb
        exact ih _ _ _ (by omega) a1 (by simp; omega)
      | false =>
        rw [if_neg (by simp)]
        exact ⟨a1, fun h => by simp at h, fun _ => rfl⟩
    · rw [if_neg h]; exact ⟨h2, fun h => by simp at h, fun _ => rfl⟩

theorem scan_end {ar : List Int} {T : List UInt8} {f p : Nat} (h : ¬ p < T.length) : scanF ar T (f + 1) p = ([], T.length, false) := by
  unfold scanF; rw [List.getElem?_eq_none (by omega)]
theorem scan_bad {ar : List Int} {T : List UInt8} {f p : Nat} {b : UInt8} (h : T[p]? = some b) (hs : symAt ar b = none) : scanF ar T (f + 1) p = ([], p, false) := by
  unfold scanF; rw [h]; simp only [hs]
theorem scan_leaf {ar : List Int} {T : List UInt8} {f p : Nat} {b : UInt8} {n : Int} (h : T[p]? = some b) (hs : symAt ar b = some n) (h0 : arOf ar n = 0) : scanF ar T (f + 1) p = ([n], p + 1, true) := by
  unfold scanF; rw [h]; simp only [hs]; rw [if_pos h0]
theorem scan_args {ar : List Int} {T : List UInt8} {f p : Nat} {b : UInt8} {n : Int} (h : T[p]? = some b) (hs : symAt ar b = some n) (h0 : arOf ar n ≠ 0) : scanF ar T (f + 1) p = scanArgs (scanF ar T f) T (arOf ar n) 0 [n] (p + 1) := by
  unfold scanF; rw [h]; simp only [hs]; rw [if_neg h0]
theorem args_done {g : Nat → Scanned} {T : List UInt8} {k p : Nat} {acc : List Int} (h : T[p]? = some 41) : scanArgs g T 0 k acc p = (acc, p + 1, true) := by unfold scanArgs; rw [if_pos h]
theorem args_noclose {g : Nat → Scanned} {T : List UInt8} {k p : Nat} {acc : List Int} (h : T[p]? ≠ some 41) : scanArgs g T 0 k acc p = ([], p, false) := by unfold scanArgs; rw [if_neg h]
theorem args_nosep {g : Nat → Scanned} {T : List UInt8} {m k p : Nat} {acc : List Int} (h : T[p]? ≠ some (sepC k)) : scanArgs g T (m + 1) k acc p = ([], p, false) := by
  conv => lhs; unfold scanArgs
  rw [if_neg h]
theorem args_bad {g : Nat → Scanned} {T : List UInt8} {m k p : Nat} {acc : List Int} (h : T[p]? = some (sepC k)) (hb : (g (p + 1)).2.2 = false) : scanArgs g T (m + 1) k acc p = ([], (g (p + 1)).2.1, false) := by
  conv => lhs; unfold scanArgs
  rw [if_pos h, if_neg (by simp [hb])]
theorem args_next {g : Nat → Scanned} {T : List UInt8} {m k p : Nat} {acc : List Int} (h : T[p]? = some (sepC k)) (hb : (g (p + 1)).2.2 = true) : scanArgs g T (m + 1) k acc p = scanArgs g T m (k + 1) (acc ++ (g (p + 1)).1) (g (p + 1)).2.1 := by
  conv => lhs; unfold scanArgs
  rw [if_pos h, if_pos hb]
theorem scanF_ok (ar : List Int) (T : List UInt8) : ∀ (f p : Nat), p ≤ T.length → ScanOk T p (scanF ar T f p) := by
  intro f
  induction f with
  | zero => intro p hp; exact ⟨hp, fun h => by simp [scanF] at h, fun _ => rfl⟩
  | succ f ih =>
    intro p hp
    by_cases hl : p < T.length
    · obtain ⟨b, h⟩ : ∃ b, T[p]? = some b := ⟨T[p], List.getElem?_eq_getElem hl⟩
      cases hs : symAt ar b with
      | none => rw [scan_bad h hs]; exact ⟨hp, fun h => by simp at h, fun _ => rfl⟩
      | some n =>
        by_cases h0 : arOf ar n = 0
        · rw [scan_leaf h hs h0]; exact ⟨by simp; omega, fun _ => ⟨by simp, by simp⟩, fun h => by simp at h⟩
        · rw [scan_args h hs h0]; exact scanArgs_ok _ T p ih _ _ _ _ (by omega) (by omega) (by simp)
    · rw [scan_end hl]; exact ⟨Nat.le_refl _, fun h => by simp at h, fun _ => rfl⟩
end Go.Proofs.Ytfhljkjcjnfjfaa
end
section
/- Copies and joins of slices of ints. -/
namespace Go.Proofs.Ytfhljkjcjnfjfaa
open Go.RowKit

theorem news_of_sl {lo hi : Nat} {w : World} {a : Addr} {n c : Nat} {xs : List Int} (h : SlI lo hi w (.slice (some a) n c) xs) : ∀ j u, (xs.map (Value.int .i64))[j]? = some u → w.cell? (a.add j) = some u := by
  intro j u hj
  obtain ⟨ad, cap, e, _, _, hr⟩ := h
  simp only [Value.slice.injEq] at e
  have hlt : j < xs.length := by
    have := List.getElem?_eq_some_iff.1 hj
    simpa using this.1
  obtain ⟨b, off, e2, _, _, hc⟩ := hr (by omega)
  rw [← e.1] at e2
  simp only [Option.some.injEq] at e2
  subst e2
  rw [addr_add, hc j hlt]
  simp [hlt] at hj
  simp [List.getD, hlt, hj]
theorem ones_int (xs : List Int) : ∀ u ∈ xs.map (Value.int .i64), u.oneCell' = true := by
  intro u hu; simp at hu; obtain ⟨n, _, rfl⟩ := hu; rfl

/-- A slice of ints that the call itself made, as a row that may grow. -/
def RetR (w : World) (xs : List Int) (e : Ending) (w' : World) : Prop := ∃ ad n c, e = .returned (.slice ad n c) ∧ w'.ownsRow w.heap.size 3 1 (.slice ad n c) xs.length (xs.map (Value.int .i64)) ∧ Bel w w'
theorem RetR.i {w : World} {xs : List Int} {e : Ending} {w' : World} (h : RetR w xs e w') : RetI w xs e w' := by
  obtain ⟨ad, n, c, h1, h2, h3⟩ := h
  exact ⟨ad, n, c, h1, OwnI.of_row h2, h3⟩

set_option maxRecDepth 100000 in
theorem l1Own_r (l h : Nat) (v : Value) (xs : List Int) (w : World) (hx : xs.length ≤ 1048576) (hv : SlI l h w v xs) :
    Calls Try.prog 148 #[v] w (RetR w xs) := by
  obtain ⟨i0, hi0, hz0, hz1, hz2⟩ := info_parts Try.info3
  have hv0 := hv
  obtain ⟨ad, cap, rfl, -, hm, hr⟩ := hv
  have hown : (w.alloc (.cells #[] 3)).ownsRow w.heap.size 3 1 (.slice (some ⟨w.heap.size, 0, none⟩) 0 0) ([] : List Int).length (([] : List Int).map (Value.int .i64)) :=
    World.ownsRow_lit w #[] 0 (Nat.le_refl _) (Nat.zero_le _) rfl
  cases ad with
  | none =>
    obtain rfl : xs = [] := by
      rcases Nat.eq_zero_or_pos xs.length with h0 | h0
      · exact List.length_eq_zero_iff.1 h0
      · obtain ⟨_, _, e, _⟩ := hr h0; simp at e
    obtain rfl : cap = 0 := hm.2 rfl
    clear hr hm hv0
    go_enter Try.func148, Try.ntmps148
    go_wp2_with (at_builtin; refine wpList_append_own_none rfl _ _ 22 rfl w.heap.size 3 i0 1 Try.underlying22 hi0 _ _ _ rfl hown rfl ?_)
    go_ret
    exact ⟨_, _, _, rfl, hown, Bel.alloc0 _ _⟩
  | some a =>
    have hn := news_of_sl (hv0.alloc (.cells #[] 3))
    clear hr hm
    go_enter Try.func148, Try.ntmps148
    go_wp2_with (at_builtin; refine wpList_append_own _ rfl _ _ 22 rfl w.heap.size 3 i0 (.int .i64 0) 1 8 Try.underlying22 hi0 hz0 hz1 hz2 rfl (by decide) _ _ _ rfl hown a xs.length cap (xs.map (Value.int .i64)) rfl (by simp) hn (ones_int _) (by unfold maxLen; simp; omega) (by simp; omega) (by simp) ?_; intro v' w1 hown' hgrow _)
    have hb1 := (Bel.alloc0 w (.cells #[] 3)).grown hgrow (fun k hk => own_base hown k hk)
    have hown2 : w1.ownsRow w.heap.size 3 1 v' xs.length (xs.map (Value.int .i64)) := by simpa using hown'
    obtain ⟨g, n, c, rfl⟩ := own_form hown2
    go_ret
    exact ⟨_, _, _, rfl, hown2, hb1⟩
theorem l1Own_c (l h : Nat) (v : Value) (xs : List Int) (w : World) (hx : xs.length ≤ 1048576) (hv : SlI l h w v xs) :
    Calls Try.prog 148 #[v] w (RetI w xs) := (l1Own_r l h v xs w hx hv).mono fun _ _ h => h.i

/-- A cut of a slice. -/
theorem SlI.cut {lo hi : Nat} {w : World} {b off n c : Nat} {xs : List Int} (h : SlI lo hi w (.slice (some ⟨b, off, none⟩) n c) xs) (i j : Nat) (hij : i ≤ j) (hj : j ≤ xs.length) :
    SlI lo hi w (.slice (some ⟨b, off + i, none⟩) (j - i) (c - i)) ((xs.drop i).take (j - i)) := by
  obtain ⟨ad, cap, e, hc, hm, hr⟩ := h
  simp only [Value.slice.injEq] at e
  obtain ⟨rfl, rfl, rfl⟩ := e
  have hl : ((xs.drop i).take (j - i)).length = j - i := by simp; omega
  refine ⟨_, c - i, by rw [hl], by rw [hl]; omega, ⟨by have := hm.1; omega, fun h => by simp at h⟩, fun hp => ?_⟩
  rw [hl] at hp
  obtain ⟨b', off', e2, a1, a2, a3⟩ := hr (by omega)
  simp only [Option.some.injEq, Addr.mk.injEq, and_true] at e2
  obtain ⟨rfl, rfl⟩ := e2
  refine ⟨b, off + i, rfl, a1, a2, fun k hk => ?_⟩
  rw [hl] at hk
  rw [show off + i + k = off + (i + k) from by omega, a3 (i + k) (by omega)]
  simp [List.getD, hk, List.getElem?_take, List.getElem?_drop]

/-- The head of a slice that is not nil lies at a plain address. -/
theorem SlI.plain {lo hi : Nat} {w : World} {v : Value} {xs : List Int} (h : SlI lo hi w v xs) (hp : 0 < xs.length) : ∃ b off c, v = .slice (some ⟨b, off, none⟩) xs.length c ∧ xs.length ≤ c := by
  obtain ⟨ad, cap, rfl, hc, hm, hr⟩ := h
  obtain ⟨b, off, rfl, _⟩ := hr hp
  exact ⟨b, off, cap, rfl, hc⟩

set_option maxRecDepth 100000 in
theorem grow_c (n : Nat) (w : World) (hn : n ≤ 1099511627776) :
    Calls Try.prog 144 #[.slice none 0 0, .int .i64 n] w fun e w' => ∃ ad m c, e = .returned (.slice ad m c) ∧ w'.ownsRow w.heap.size 3 1 (.slice ad m c) ([] : List Int).length (([] : List Int).map (Value.int .i64)) ∧ Bel w w' := by
  obtain ⟨i0, hi0, hz0, hz1, hz2⟩ := info_parts Try.info3
  rcases Nat.eq_zero_or_pos n with rfl | hp
  · go_enter Try.func144, Try.ntmps144
    go_wp2_with fail
    go_ret
    exact ⟨_, _, _, rfl, World.ownsRow_nil _ _ _ _, Bel.rfl' _⟩
  · have hrun := Lib.run_append_nil_zeros (P := Try.prog) w 22 3 22 3 i0 (.int .i64 0) .i64 .i64 Try.underlying22 Try.underlying3 hi0 hz0 n hp (by omega) (by omega) (by rw [hz2]; omega)
    go_enter Try.func144, Try.ntmps144
    go_wp2_with (at_builtin; refine Lib.wpList_append_run _ rfl _ _ _ _ rfl _ _ rfl rfl _ _ hrun ?_)
    go_ret
    refine ⟨_, _, _, rfl, ⟨by simp, .inr ⟨w.heap.size, grownCap w n 0 3, _, rfl, Nat.le_refl _, heap_alloc_new w _, Nat.zero_le _, grownCap_le_maxLen w n 0 3 (by unfold maxLen; omega), ?_, by simp⟩⟩, (Bel.alloc0 w _).drew⟩
    have := grownCap_ge w n 0 3
    simp [size_zeroCells]
    omega

/-- A slice of slices of ints, as Concat reads it. -/
def PartsAt (lo hi : Nat) (w : World) (B o : Nat) (L : List (List Int)) : Prop :=
  ∀ j, j < L.length → ∃ ad c, w.cell? ⟨B, o + j, none⟩ = some (.slice ad (L.getD j []).length c) ∧ SlI lo hi w (.slice ad (L.getD j []).length c) (L.getD j [])
theorem PartsAt.below {lo hi : Nat} {w w' : World} {B o : Nat} {L : List (List Int)} (h : PartsAt lo hi w B o L) (hb : Bel w w') : PartsAt lo hi w' B o L := fun j hj => by
  obtain ⟨ad, c, h1, h2⟩ := h j hj
  exact ⟨ad, c, hb.at (World.block_lt_of_cell? w ⟨B, o + j, none⟩ h1) h1, h2.below hb⟩
def sumLen (L : List (List Int)) : Nat := (L.map List.length).sum
theorem sumLen_take (L : List (List Int)) (j : Nat) (h : j < L.length) : sumLen (L.take (j+1)) = sumLen (L.take j) + (L.getD j []).length := by
  unfold sumLen
  rw [List.take_succ_eq_append_getElem h, List.map_append, List.sum_append]
  simp only [List.map_cons, List.map_nil, List.sum_cons, List.sum_nil, Nat.add_zero]
  simp [List.getD, h]
theorem sumLen_le (L : List (List Int)) (j : Nat) : sumLen (L.take j) ≤ sumLen L := by
  unfold sumLen
  conv => rhs; rw [← List.take_append_drop j L]
  rw [List.map_append, List.sum_append]
  exact Nat.le_add_right _ _
theorem flat_take (L : List (List Int)) (j : Nat) (h : j < L.length) : (L.take (j+1)).flatten = (L.take j).flatten ++ L.getD j [] := by
  rw [List.take_succ_eq_append_getElem h, List.flatten_append]
  simp only [List.flatten_cons, List.flatten_nil, List.append_nil]
  simp [List.getD, h]
theorem flat_len (L : List (List Int)) : L.flatten.length = sumLen L := by simp [sumLen, List.length_flatten]

set_option maxRecDepth 100000 in
set_option maxHeartbeats 1000000 in
theorem concat_c (lo hi B o c : Nat) (L : List (List Int)) (w : World) (hL : L.length ≤ 1048576) (hs : sumLen L ≤ 1099511627776) (hp : PartsAt lo hi w B o L) :
    Calls Try.prog 122 #[.slice (some ⟨B, o, none⟩) L.length c] w (RetI w L.flatten) := by
  obtain ⟨i0, hi0, hz0, hz1, hz2⟩ := info_parts Try.info3
  go_enter Try.func122, Try.ntmps122
  go_wp2_with fail
  go_loop [3, 11] (fun n i => ∃ j : Nat, j ≤ L.length ∧ i = .int .i64 j ∧ n = .int .i64 (sumLen (L.take j))) (fun _ i => L.length - (intOf i).toNat)
  case atStart => exact ⟨0, Nat.zero_le _, rfl, by simp [sumLen]⟩
  case round =>
    obtain ⟨j, hj, rfl, rfl⟩ := hrel
    have hle := sumLen_le L j
    by_cases hlt : j < L.length
    · obtain ⟨ad, cc, hcell, hsl⟩ := hp j hlt
      have E := Lib.hid (sumLen_take L j hlt)
      have hle2 := sumLen_le L (j + 1)
      rw [E.out] at hle2
      clear hp hsl
      generalize L.getD j [] = xs at *
      generalize sumLen (L.take j) = m at *
      go_wp2_with fail
      go_round
      case rel => exact ⟨j + 1, by omega, by go_num, by rw [E.out]; go_num⟩
      case measure => simp [intOf]; omega
    · have e1 : L.take j = L := List.take_of_length_le (by omega)
      rw [e1]
      clear e1
      go_wp2_with fail
      refine (grow_c (sumLen L) _ (by omega)).mono ?_; rintro e w1 ⟨ad, m, c1, rfl, hown, hb⟩
      go_wp2_with fail
      go_loopw [6, 27] (fun v i wr => ∃ j : Nat, j ≤ L.length ∧ i = .int .i64 j ∧ wr.ownsRow w.heap.size 3 1 v (L.take j).flatten.length ((L.take j).flatten.map (Value.int .i64)) ∧ Bel w wr) (fun _ i _ => L.length - (intOf i).toNat)
      case atStart => exact ⟨0, Nat.zero_le _, rfl, by simpa using hown, hb⟩
      case round =>
        obtain ⟨j, hj, rfl, hown, hb⟩ := hrel
        have hle := sumLen_le L j
        rw [← flat_len] at hle
        by_cases hlt : j < L.length
        · obtain ⟨ad, cc, hcell, hsl⟩ := (hp.below hb) j hlt
          have E := Lib.hid (flat_take L j hlt)
          have hle2 := sumLen_le L (j + 1)
          rw [← flat_len, E.out, List.length_append] at hle2
          clear hp
          generalize L.getD j [] = xs at *
          generalize (L.take j).flatten = acc at *
          cases ad with
          | none =>
            obtain ⟨ad', cap', e, -, hm, hr⟩ := hsl
            simp only [Value.slice.injEq] at e
            obtain ⟨rfl, -, rfl⟩ := e
            obtain rfl : xs = [] := by
              rcases Nat.eq_zero_or_pos xs.length with h0 | h0
              · exact List.length_eq_zero_iff.1 h0
              · obtain ⟨_, _, e, _⟩ := hr h0; simp at e
            obtain rfl : cc = 0 := hm.2 rfl
            have E2 := Lib.hid (show (L.take (j+1)).flatten = acc by rw [E.out]; simp)
            clear hr hm E
            go_wp2_with (at_builtin; refine wpList_append_own_none rfl _ _ 22 rfl w.heap.size 3 i0 1 Try.underlying22 hi0 _ _ _ rfl hown rfl ?_)
            go_roundw
            case rel => exact ⟨j + 1, by omega, by go_num, by rw [E2.out]; exact hown, hb⟩
            case measure => simp [intOf]; omega
          | some a =>
            have hn := news_of_sl hsl
            clear hsl
            go_wp2_with (at_builtin; refine wpList_append_own _ rfl _ _ 22 rfl w.heap.size 3 i0 (.int .i64 0) 1 8 Try.underlying22 hi0 hz0 hz1 hz2 rfl (by decide) _ _ _ rfl hown a xs.length cc (xs.map (Value.int .i64)) rfl (by simp) hn (ones_int _) (by unfold maxLen; omega) (by omega) hb.size ?_; intro v' w2 hown' hgrow _)
            have hb2 := hb.grown hgrow (fun k hk => own_base hown k hk)
            have hown2 : w2.ownsRow w.heap.size 3 1 v' (acc ++ xs).length ((acc ++ xs).map (Value.int .i64)) := by simpa using hown'
            go_roundw
            case rel => exact ⟨j + 1, by omega, by go_num, by rw [E.out]; exact hown2, hb2⟩
            case measure => simp [intOf]; omega
        · have e1 : L.take j = L := List.take_of_length_le (by omega)
          rw [e1] at hown
          clear e1
          go_wp2_with fail
          obtain ⟨g, n, c2, hv⟩ := own_form hown
          subst hv
          go_ret
          exact ⟨_, _, _, rfl, OwnI.of_row hown, hb⟩

/-- Three slices in a new block, joined. -/
theorem concat3_c (lo hi : Nat) (p0 p1 p2 : Option Addr) (n0 n1 n2 c0 c1 c2 : Nat) (x0 x1 x2 : List Int) (w : World) (hs : x0.length + x1.length + x2.length ≤ 1099511627776)
    (h0 : SlI lo hi w (.slice p0 n0 c0) x0) (h1 : SlI lo hi w (.slice p1 n1 c1) x1) (h2 : SlI lo hi w (.slice p2 n2 c2) x2) (t : TypeId) :
    Calls Try.prog 122 #[.slice (some ⟨w.heap.size, 0, none⟩) 3 3] (w.alloc (.cells #[.slice p0 n0 c0, .slice p1 n1 c1, .slice p2 n2 c2] t)).drew (RetI (w.alloc (.cells #[.slice p0 n0 c0, .slice p1 n1 c1, .slice p2 n2 c2] t)).drew (x0 ++ x1 ++ x2)) := by
  have e0 : n0 = x0.length := by obtain ⟨ad, c, e, _⟩ := h0; simp at e; exact e.2.1
  have e1 : n1 = x1.length := by obtain ⟨ad, c, e, _⟩ := h1; simp at e; exact e.2.1
  have e2 : n2 = x2.length := by obtain ⟨ad, c, e, _⟩ := h2; simp at e; exact e.2.1
  subst e0 e1 e2
  have hb : Bel w (w.alloc (.cells #[.slice p0 x0.length c0, .slice p1 x1.length c1, .slice p2 x2.length c2] t)).drew := (Bel.alloc0 w _).drew
  have hp : PartsAt lo hi (w.alloc (.cells #[.slice p0 x0.length c0, .slice p1 x1.length c1, .slice p2 x2.length c2] t)).drew w.heap.size 0 [x0, x1, x2] := by
    intro j hj
    match j, hj with
    | 0, _ => exact ⟨p0, c0, (World.cell?_alloc_new w _ t 0).trans (by simp), h0.below hb⟩
    | 1, _ => exact ⟨p1, c1, (World.cell?_alloc_new w _ t 1).trans (by simp), h1.below hb⟩
    | 2, _ => exact ⟨p2, c2, (World.cell?_alloc_new w _ t 2).trans (by simp), h2.below hb⟩
  have := concat_c lo hi w.heap.size 0 3 [x0, x1, x2] _ (by simp) (by simp [sumLen]; omega) hp
  simpa using this
end Go.Proofs.Ytfhljkjcjnfjfaa
end
section
namespace Go.Proofs.Ytfhljkjcjnfjfaa
open Go.RowKit

def RetScan (w : World) (r : Scanned) (e : Ending) (w' : World) : Prop := ∃ ad n c, e = .returned (.tuple #[.slice ad n c, .int .i64 r.2.1, .bool r.2.2]) ∧ OwnI w.heap.size w'.heap.size w' (.slice ad n c) r.1 ∧ Bel w w'

theorem sa_get (s : ByteArray) (p : Nat) (h : p < s.size) : s.data.toList[p]? = some s[p] := by
  rw [List.getElem?_eq_getElem (by simpa using h)]; rfl

theorem sub97 (m : Nat) (h : 97 ≤ m) : ((m : Int) - 97).toNat = m - 97 := by omega
/-- A new slice of one int. -/
theorem own1 (w : World) (x : Int) : (w.alloc (.cells #[.int .i64 x] 3)).ownsRow w.heap.size 3 1 (.slice (some ⟨w.heap.size, 0, none⟩) 1 1) [x].length ([x].map (Value.int .i64)) :=
  World.ownsRow_lit w #[.int .i64 x] 1 (Nat.le_refl _) (by unfold maxLen; omega) rfl
theorem own_mono {w : World} {base base' e s n : Nat} {v : Value} {xs : List Value} (h : w.ownsRow base e s v n xs) (hb : base' ≤ base) : w.ownsRow base' e s v n xs := by
  refine ⟨h.1, ?_⟩
  rcases h.2 with h0 | ⟨g, cap, cur, e1, e2, r⟩
  · exact .inl h0
  · exact .inr ⟨g, cap, cur, e1, by omega, r⟩
theorem u8_ne {a b : UInt8} (h : a ≠ b) : (((a.toNat : Nat) : Int) != ((b.toNat : Nat) : Int)) = true := by
  rw [bne_iff_ne]; intro h2; exact h (UInt8.toNat_inj.1 (by omega))

set_option maxRecDepth 100000 in
set_option maxHeartbeats 4000000 in
theorem l1ReadTerm_c (l h : Nat) (v : Value) (ar : List Int) (s : ByteArray) (hg : goodSign ar = true) (hs : s.size ≤ 1048576) :
    ∀ (n p : Nat) (w : World), s.data.toList.length + 1 - p ≤ n → p ≤ s.data.toList.length → SlI l h w v ar → Calls Try.prog 131 #[.agg #[v], .string s, .int .i64 p] w (RetScan w (scanF ar s.data.toList n p)) := by
  have hsz : s.data.toList.length = s.size := by rw [Array.length_toList]; rfl
  intro n
  induction n with
  | zero => intro p w hn hp; omega
  | succ n ih =>
    intro p w hn hp hv
    have IH := Lib.hid ih; clear ih
    have hv0 := hv
    obtain ⟨ad, cap, rfl, -, -, hr⟩ := hv
    have hlen := sign_len ar hg
    obtain ⟨i0, hi0, hz0, hz1, hz2⟩ := info_parts Try.info3
    rw [hsz] at hn hp
    by_cases hlt : p < s.size
    · have hget := sa_get s p hlt
      have hbb : ((s[p].toNat : Nat) : Int) < 256 := by have := s[p].toNat_lt; omega
      have hbb0 : (0 : Int) ≤ ((s[p].toNat : Nat) : Int) := by omega
      cases hsym : symAt ar s[p] with
      | none =>
        have E := Lib.hid (scan_bad (f := n) hget hsym)
        have h1 : inB (s[p].toNat) 65 76 = false := by
          unfold symAt at hsym; cases h : inB (s[p].toNat) 65 76 with
          | false => rfl
          | true => rw [h] at hsym; simp at hsym
        have h2 : inB (s[p].toNat) 97 (97 + (ar.length : Int) - 1) = false := by
          unfold symAt at hsym; rw [h1] at hsym; cases h : inB (s[p].toNat) 97 (97 + (ar.length : Int) - 1) with
          | false => rfl
          | true => rw [h] at hsym; simp at hsym
        have H1 := Lib.hid h1; have H2 := Lib.hid h2
        clear h1 h2 hsym hget hr
        go_enter Try.func131, Try.ntmps131
        go_wp2_with fail
        refine (l1In_f _ _ _ _ H1.out).mono ?_; rintro e w1 ⟨rfl, hb1⟩
        have hx1 := boxc hb1 0 _ rfl
        go_wp2_with fail
        refine (l1In_f _ _ _ _ H2.out).mono ?_; rintro e w2 ⟨rfl, hb2⟩
        go_wp2_with fail
        go_ret3
        exact ⟨_, _, _, by rw [E.out]; rfl, by rw [E.out]; exact OwnI.nil _ _ _, hb1.of_alloc.step hb2⟩
      | some x =>
        by_cases hvar : inB (s[p].toNat) 65 76 = true
        · have hx : x = -1 - ((s[p].toNat : Int) - 65) := by unfold symAt at hsym; rw [if_pos hvar] at hsym; simpa using hsym.symm
          have hneg : x < 0 := by simp [inB] at hvar; omega
          have E := Lib.hid (scan_leaf (f := n) hget hsym (arOf_neg hneg))
          have HX := Lib.hid hx
          have H1 := Lib.hid hvar
          clear hvar hsym hget hr hx
          go_enter Try.func131, Try.ntmps131
          go_wp2_with fail
          refine (l1In_t _ _ _ _ H1.out).mono ?_; rintro e w1 ⟨rfl, hb1⟩
          go_wp2_with fail
          go_ret3
          exact ⟨_, _, _, by rw [E.out]; rfl, by rw [E.out, HX.out]; exact (OwnI.of_row (own1 w1 _)).mono (by have := hb1.size; simp at this; omega) (Nat.le_refl _), hb1.of_alloc.alloc _⟩
        · have h1 : inB (s[p].toNat) 65 76 = false := by simpa using hvar
          have h2 : inB (s[p].toNat) 97 (97 + (ar.length : Int) - 1) = true := by
            unfold symAt at hsym; rw [if_neg hvar] at hsym; cases h : inB (s[p].toNat) 97 (97 + (ar.length : Int) - 1) with
            | true => rfl
            | false => rw [h] at hsym; simp at hsym
          have hx : x = (s[p].toNat : Int) - 97 := by unfold symAt at hsym; rw [if_neg hvar, if_pos h2] at hsym; simpa using hsym.symm
          have h97 : 97 ≤ s[p].toNat ∧ s[p].toNat - 97 < ar.length := by simp [inB] at h2; omega
          have h97a : (97 : Int) ≤ ((s[p].toNat : Nat) : Int) := by omega
          have h97b : ((s[p].toNat : Nat) : Int) - 97 < ar.length := by omega
          subst hx
          obtain ⟨b, off, rfl, hbl, hcell⟩ := rd hr (Bel.rfl' w) (s[p].toNat - 97) h97.2
          have har : arOf ar ((s[p].toNat : Int) - 97) = (ar.getD (s[p].toNat - 97) 0).toNat := by
            unfold arOf; rw [if_neg (by omega), sub97 _ h97.1]
          have hn03 := ar_nonneg ar hg (s[p].toNat - 97)
          obtain ⟨a, haq⟩ : ∃ a : Nat, ar.getD (s[p].toNat - 97) 0 = a := ⟨(ar.getD (s[p].toNat - 97) 0).toNat, by omega⟩
          rw [haq] at hcell har hn03
          rw [show ((a : Int)).toNat = a from by omega] at har
          have H1 := Lib.hid h1; have H2 := Lib.hid h2
          clear haq hr hvar h1 h2
          by_cases ha0 : a = 0
          · have E := Lib.hid (scan_leaf (f := n) hget hsym (by rw [har, ha0]))
            have ha1 : (a : Int) ≤ 0 := by omega
            clear hsym hget har ha0
            go_enter Try.func131, Try.ntmps131
            go_wp2_with fail
            refine (l1In_f _ _ _ _ H1.out).mono ?_; rintro e w1 ⟨rfl, hb1⟩
            have hx1 := boxc hb1 0 _ rfl
            go_wp2_with fail
            refine (l1In_t _ _ _ _ H2.out).mono ?_; rintro e w2 ⟨rfl, hb2⟩
            have hb12 := hb1.step hb2
            have hx2 := boxc hb12 0 _ rfl
            have hb13 := hb12.alloc (.cells #[.int .i64 ((s[p].toNat : Int) - 97)] 3)
            have hx3 := boxc hb13 0 _ rfl
            have hc3 := hb13.of_alloc.at hbl hcell
            go_wp2_with fail
            refine wp_loop_rounds 1 ?_
            rw [rounds_succ]
            go_wp2_with fail
            go_ret3
            exact ⟨_, _, _, by rw [E.out]; rfl, by rw [E.out]; exact (OwnI.of_row (own1 w2 _)).mono (by have := hb12.size; simp at this; omega) (Nat.le_refl _), hb12.of_alloc.alloc _⟩
          · have E := Lib.hid (scan_args (f := n) hget hsym (by rw [har]; exact ha0))
            rw [har] at E
            have ha1 : (1 : Int) ≤ (a : Int) := by omega
            have ha3 : (a : Int) ≤ 3 := hn03.2
            clear hsym hget har ha0
            go_enter Try.func131, Try.ntmps131
            go_wp2_with fail
            refine (l1In_f _ _ _ _ H1.out).mono ?_; rintro e w1 ⟨rfl, hb1⟩
            have hx1 := boxc hb1 0 _ rfl
            go_wp2_with fail
            refine (l1In_t _ _ _ _ H2.out).mono ?_; rintro e w2 ⟨rfl, hb2⟩
            have hb12 := hb1.step hb2
            have hx2 := boxc hb12 0 _ rfl
            go_wp2_with fail
            go_loopw [2, 10, 11] (fun at' o k' wr => ∃ (q k : Nat) (acc : List Int), k ≤ a ∧ p < q ∧ q ≤ s.size ∧ acc.length ≤ q - p ∧ at' = .int .i64 q ∧ k' = .int .i64 k ∧
                scanF ar s.data.toList (n + 1) p = scanArgs (scanF ar s.data.toList n) s.data.toList (a - k) k acc q ∧
                wr.ownsRow (w.heap.size + 1) 3 1 o acc.length (acc.map (Value.int .i64)) ∧ Bel (w.alloc (.cells #[.slice (some ⟨b, off, none⟩) ar.length cap] 30)) wr) (fun _ _ k' _ => a - (intOf k').toNat)
            case atStart => exact ⟨p + 1, 0, [(s[p].toNat : Int) - 97], Nat.zero_le _, by omega, by omega, by simp, by go_num, rfl, E.out, own_mono (own1 w2 _) (by have := hb12.size; simp at this; omega), hb12.alloc _⟩
            case round =>
              obtain ⟨q, k, acc, hka, hpq, hqs, hal, rfl, rfl, hsc, hown, hbr⟩ := hrel
              have hbox := boxc hbr 0 _ rfl
              have hcr := hbr.of_alloc.at hbl hcell
              have HSC := Lib.hid hsc
              clear hsc
              by_cases hka2 : k < a
              · have HAM := Lib.hid (show a - k = (a - (k + 1)) + 1 from by omega)
                by_cases hql : q < s.size
                · have hgq := sa_get s q hql
                  by_cases hsep : s[q] = sepC k
                  · have hgs : s.data.toList[q]? = some (sepC k) := by rw [hgq, hsep]
                    have hok := scanF_ok ar s.data.toList n (q + 1) (by omega)
                    have hcall : ∀ w2, SlI l h w2 (.slice (some ⟨b, off, none⟩) ar.length cap) ar → Calls Try.prog 131 #[.agg #[.slice (some ⟨b, off, none⟩) ar.length cap], .string s, .int .i64 ((q : Int) + 1)] w2 (RetScan w2 (scanF ar s.data.toList n (q + 1))) := fun w2 h => IH.out (q + 1) w2 (by omega) (by omega) h
                    have hbad : (scanF ar s.data.toList n (q + 1)).2.2 = false → scanF ar s.data.toList (n + 1) p = ([], (scanF ar s.data.toList n (q + 1)).2.1, false) := fun h => by rw [HSC.out, HAM.out]; exact args_bad hgs h
                    have hnext : (scanF ar s.data.toList n (q + 1)).2.2 = true → scanF ar s.data.toList (n + 1) p = scanArgs (scanF ar s.data.toList n) s.data.toList (a - (k + 1)) (k + 1) (acc ++ (scanF ar s.data.toList n (q + 1)).1) (scanF ar s.data.toList n (q + 1)).2.1 := fun h => by rw [HSC.out, HAM.out]; exact args_next hgs h
                    generalize scanF ar s.data.toList n (q + 1) = r at *
                    obtain ⟨rt, re, rb⟩ := r
                    rw [ScanOk, hsz] at hok
                    obtain ⟨hre, hok1, -⟩ := hok
                    have HCALL := Lib.hid hcall
                    have hsgn : (if k = 0 then ((((s[q].toNat : Nat) : Int) != 40) = false ∧ ((k : Int) == 0) = true) else ((((s[q].toNat : Nat) : Int) != 44) = false ∧ ((k : Int) == 0) = false)) := by
                      rw [hsep]
                      by_cases hk0 : k = 0
                      · simp [hk0, sepC]
                      · simp [hk0, sepC]
                    clear hcall hgs hgq hsep IH
                    by_cases hk0 : k = 0
                    all_goals
                      first | rw [if_pos hk0] at hsgn | rw [if_neg hk0] at hsgn
                      obtain ⟨hsg1, hsg2⟩ := hsgn
                      clear hk0
                      cases rb with
                      | false =>
                        have E4 := Lib.hid (hbad rfl)
                        clear hbad hnext hok1
                        go_wp2_with fail
                        refine (HCALL.out _ (hv0.below hbr.of_alloc)).mono ?_; rintro e w3 ⟨a3, n3, c3, rfl, ho3, hb3⟩
                        go_wp2_with fail
                        go_ret3
                        exact ⟨_, _, _, by rw [E4.out]; rfl, by rw [E4.out]; exact OwnI.nil _ _ _, hbr.of_alloc.step hb3⟩
                      | true =>
                        have E4 := Lib.hid (hnext rfl)
                        obtain ⟨hok2, hok3⟩ := hok1 rfl
                        simp only at hok2 hok3 hre
                        clear hbad hnext hok1
                        have hrt : rt.length ≤ 1048576 := by omega
                        have hac : acc.length ≤ 1048576 := by omega
                        go_wp2_with fail
                        refine (HCALL.out _ (hv0.below hbr.of_alloc)).mono ?_; rintro e w3 ⟨a3, n3, c3, rfl, ho3, hb3⟩
                        have hbox3 := boxc (hbr.step hb3) 0 _ rfl
                        have hown3 := ownsRow_bel hown hb3
                        simp only at ho3
                        obtain rfl : n3 = rt.length := by obtain ⟨_, _, e, _⟩ := ho3.1; simp at e; exact e.2.1
                        cases a3 with
                        | none =>
                          obtain ⟨ad', cap', e, -, hm, hr⟩ := ho3.1
                          simp only [Value.slice.injEq] at e
                          obtain ⟨rfl, -, rfl⟩ := e
                          obtain rfl : rt = [] := by
                            rcases Nat.eq_zero_or_pos rt.length with h0 | h0
                            · exact List.length_eq_zero_iff.1 h0
                            · obtain ⟨_, _, e, _⟩ := hr h0; simp at e
                          obtain rfl : c3 = 0 := hm.2 rfl
                          clear hr hm ho3
                          go_wp2_with (at_builtin; refine wpList_append_own_none rfl _ _ 22 rfl (w.heap.size + 1) 3 i0 1 Try.underlying22 hi0 _ _ _ rfl hown3 rfl ?_)
                          go_roundw
                          case rel => exact ⟨re, k + 1, acc, by omega, by omega, by omega, by omega, rfl, by go_num, by rw [E4.out]; simp, hown3, hbr.step hb3⟩
                          case measure => simp [intOf]; omega
                        | some ra =>
                          have hnw := news_of_sl ho3.sl
                          clear ho3
                          go_wp2_with (at_builtin; refine wpList_append_own _ rfl _ _ 22 rfl (w.heap.size + 1) 3 i0 (.int .i64 0) 1 8 Try.underlying22 hi0 hz0 hz1 hz2 rfl (by decide) _ _ _ rfl hown3 ra rt.length c3 (rt.map (Value.int .i64)) rfl (by simp) hnw (ones_int _) (by unfold maxLen; omega) (by omega) (by have := (hbr.step hb3).size; simp at this; omega) ?_; intro v' w4 hown' hgrow _)
                          have hb4 := (hbr.step hb3).grown hgrow (fun k hk => by have := own_base hown3 k hk; simp; omega)
                          have hown2 : w4.ownsRow (w.heap.size + 1) 3 1 v' (acc ++ rt).length ((acc ++ rt).map (Value.int .i64)) := by simpa using hown'
                          go_roundw
                          case rel => exact ⟨re, k + 1, acc ++ rt, by omega, by omega, by omega, by simp; omega, rfl, by go_num, E4.out, hown2, hb4⟩
                          case measure => simp [intOf]; omega
                  · have E4 : Hid (scanF ar s.data.toList (n + 1) p = ([], q, false)) := by
                      show _ = _; rw [HSC.out, HAM.out]; exact args_nosep (by rw [hgq]; simpa using hsep)
                    by_cases hk0 : k = 0
                    · have hk1 : ((k : Int) == 0) = true := by simpa using hk0
                      have hne : (((s[q].toNat : Nat) : Int) != 40) = true := u8_ne (a := s[q]) (b := 40) (by rw [show (40 : UInt8) = sepC k from by simp [sepC, hk0]]; exact hsep)
                      clear hsep hgq hk0
                      go_wp2_with fail
                      go_ret3
                      exact ⟨_, _, _, by rw [E4.out]; rfl, by rw [E4.out]; exact OwnI.nil _ _ _, hbr.of_alloc⟩
                    · have hk1 : ((k : Int) == 0) = false := by simpa using hk0
                      have hne : (((s[q].toNat : Nat) : Int) != 44) = true := u8_ne (a := s[q]) (b := 44) (by rw [show (44 : UInt8) = sepC k from by simp [sepC, hk0]]; exact hsep)
                      clear hsep hgq hk0
                      go_wp2_with fail
                      go_ret3
                      exact ⟨_, _, _, by rw [E4.out]; rfl, by rw [E4.out]; exact OwnI.nil _ _ _, hbr.of_alloc⟩
                · have E4 : Hid (scanF ar s.data.toList (n + 1) p = ([], q, false)) := by
                    show _ = _; rw [HSC.out, HAM.out]; exact args_nosep (by rw [List.getElem?_eq_none (by omega)]; simp)
                  have hqe : ((q : Int) == s.size) = true := by rw [beq_iff_eq]; omega
                  clear hql
                  go_wp2_with fail
                  all_goals
                    go_ret3
                    exact ⟨_, _, _, by rw [E4.out]; rfl, by rw [E4.out]; exact OwnI.nil _ _ _, hbr.of_alloc⟩
              · have HAM := Lib.hid (show a - k = 0 from by omega)
                by_cases hql : q < s.size
                · have hgq := sa_get s q hql
                  by_cases hsep : s[q] = 41
                  · have E4 : Hid (scanF ar s.data.toList (n + 1) p = (acc, q + 1, true)) := by
                      show _ = _; rw [HSC.out, HAM.out]; exact args_done (by rw [hgq, hsep])
                    have hne : (((s[q].toNat : Nat) : Int) != 41) = false := by rw [hsep]; rfl
                    obtain ⟨g, m, c, hv'⟩ := own_form hown
                    subst hv'
                    clear hsep hgq
                    go_wp2_with fail
                    go_ret3
                    exact ⟨_, _, _, by rw [E4.out]; rfl, by rw [E4.out]; exact (OwnI.of_row hown).mono (by omega) (Nat.le_refl _), hbr.of_alloc⟩
                  · have E4 : Hid (scanF ar s.data.toList (n + 1) p = ([], q, false)) := by
                      show _ = _; rw [HSC.out, HAM.out]; exact args_noclose (by rw [hgq]; simpa using hsep)
                    have hne : (((s[q].toNat : Nat) : Int) != 41) = true := u8_ne (a := s[q]) (b := 41) hsep
                    clear hsep hgq
                    go_wp2_with fail
                    go_ret3
                    exact ⟨_, _, _, by rw [E4.out]; rfl, by rw [E4.out]; exact OwnI.nil _ _ _, hbr.of_alloc⟩
                · have E4 : Hid (scanF ar s.data.toList (n + 1) p = ([], q, false)) := by
                    show _ = _; rw [HSC.out, HAM.out]; exact args_noclose (by rw [List.getElem?_eq_none (by omega)]; simp)
                  have hqe : ((q : Int) == s.size) = true := by rw [beq_iff_eq]; omega
                  clear hql
                  go_wp2_with fail
                  go_ret3
                  exact ⟨_, _, _, by rw [E4.out]; rfl, by rw [E4.out]; exact OwnI.nil _ _ _, hbr.of_alloc⟩
    · have E := Lib.hid (scan_end (ar := ar) (T := s.data.toList) (f := n) (p := p) (by omega))
      rw [hsz] at E
      clear hr
      go_enter Try.func131, Try.ntmps131
      go_wp2_with fail
      go_ret3
      exact ⟨_, _, _, by rw [E.out]; rfl, by rw [E.out]; exact OwnI.nil _ _ _, Bel.alloc0 _ _⟩
end Go.Proofs.Ytfhljkjcjnfjfaa
end
