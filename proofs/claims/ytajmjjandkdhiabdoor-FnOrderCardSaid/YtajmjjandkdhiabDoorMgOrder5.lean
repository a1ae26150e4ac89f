/- Texts merged, part 5. -/
import Derived.Test.YtajmjjandkdhiabDoorMgOrder4
section
/- PartAt, ReplaceAt: both functions. -/
namespace Go.Proofs.YtajmjjandkdhiabDoor
open Go.RowKit

theorem l1End_v (l h l' h' : Nat) (v u : Value) (ar t : List Int) (i q : Nat) (w : World) (he : endOf ar t i = some q) (hg : goodSign ar = true) (ht : t.length ≤ 1048576) (hi : i ≤ t.length) (hv : SlI l h w v ar) (hu : SlI l' h' w u t) :
    Calls Tryd.prog 51 #[.agg #[v], u, .int .i64 i] w (RetV w (.int .i64 q)) := endI_some he ▸ l1End_c l h l' h' v u ar t i w hg ht hi hv hu
theorem termEnd_v (l h l' h' : Nat) (v u : Value) (ar t : List Int) (i q : Nat) (w : World) (he : endOf ar t i = some q) (hg : goodSign ar = true) (ht : t.length ≤ 1048576) (hi : i ≤ t.length) (hv : SlI l h w v ar) (hu : SlI l' h' w u t) :
    Calls Tryd.prog 39 #[.agg #[v], u, .int .i64 i] w (RetV w (.tuple #[.int .i64 q, .bool true])) := endP_some he ▸ termEnd_c l h l' h' v u ar t i w hg ht hi hv hu

theorem l1Part_c (l h l' h' : Nat) (v u : Value) (ar t : List Int) (i q : Nat) (w : World) (hg : goodSign ar = true) (ht : t.length ≤ 1048576) (hi : i < t.length) (he : endOf ar t i = some q) (hq1 : i < q) (hq2 : q ≤ t.length) (hv : SlI l h w v ar) (hu : SlI l' h' w u t) :
    Calls Tryd.prog 46 #[.agg #[v], u, .int .i64 i] w (RetI w (partOf t i q)) := by
  obtain ⟨b, off, cap, rfl, hcap⟩ := hu.plain (by omega)
  have HE := Lib.hid he
  clear he
  have hpl : (partOf t i q).length ≤ 1048576 := by rw [partOf_len t i q hq2]; omega
  have hq3 : (i : Int) < q := by omega
  have hq4 : (q : Int) ≤ t.length := by omega
  go_enter Tryd.func46, Tryd.ntmps46
  go_wp2_with fail
  refine (l1End_v _ _ _ _ _ _ ar t i q _ HE.out hg ht (by omega) (hv.alloc _) (hu.alloc _)).mono ?_; rintro e w1 ⟨rfl, hb1⟩
  go_wp2_with fail
  refine (l1Own_c _ _ _ (partOf t i q) _ hpl ((hu.below hb1.of_alloc).cut i q (by omega) hq2)).mono ?_; rintro e w2 ⟨ad, n, c, rfl, ho, hb2⟩
  go_wp2_with fail
  go_ret
  exact ⟨_, _, _, rfl, ho.mono (by have := hb1.size; simp at this; omega) (Nat.le_refl _), hb1.of_alloc.step hb2⟩

/-- What PartAt answers. -/
def partAns (ar t : List Int) (i : Int) : List Int := if askOk ar t i then partOf t i.toNat ((endOf ar t i.toNat).getD 0) else []
theorem partAns_yes {ar t : List Int} {k q : Nat} (h : askOk ar t k = true) (he : endOf ar t k = some q) : partAns ar t k = partOf t k q := by simp [partAns, h, he]
theorem partAns_len (ar t : List Int) (i : Int) : (partAns ar t i).length ≤ 1048576 := by
  unfold partAns
  split
  · rename_i h
    obtain ⟨k, e, rfl, hk, he, _, hle, hl, _, _⟩ := ask_yes h
    simp only [Int.toNat_natCast, he, Option.getD_some]
    rw [partOf_len t k e hle]
    omega
  · exact Nat.zero_le _

theorem sPartAt_t {l h l' h' : Nat} {v u : Value} {ar t : List Int} {w : World} (ha : ar.length ≤ 1048576) (hv : SlI l h w v ar) (ht : t.length ≤ 1048576) (hu : SlI l' h' w u t) {i : Int} (_ : -9223372036854775808 ≤ i) (_ : i ≤ 9223372036854775807) :
    Calls Tryd.prog 22 #[.agg #[v], u, .int .i64 i] w (RetIB w (partAns ar t i) (askOk ar t i)) := by
  cases hs : askOk ar t i with
  | false =>
    have E : Hid (partAns ar t i = []) := by show partAns ar t i = []; simp [partAns, hs]
    have HS := Lib.hid hs; clear hs
    go_enter Tryd.func22, Tryd.ntmps22
    go_wp2_with fail
    refine (l1Asked_v _ _ _ _ _ _ _ _ _ _ _ HS.out ha ht (hv.alloc _) (hu.alloc _)).mono ?_; rintro e w' ⟨rfl, hb1⟩
    go_wp2_with fail
    go_ret2
    exact ⟨_, _, _, rfl, by rw [E.out]; exact OwnI.nil _ _ _, hb1.of_alloc⟩
  | true =>
    obtain ⟨k, q, rfl, hk, he, hq1, hq2, hlen, hg, hok⟩ := ask_yes hs
    have E := Lib.hid (partAns_yes hs he)
    have HS := Lib.hid hs; have HE := Lib.hid he; clear hs he
    go_enter Tryd.func22, Tryd.ntmps22
    go_wp2_with fail
    refine (l1Asked_v _ _ _ _ _ _ _ _ _ _ _ HS.out ha ht (hv.alloc _) (hu.alloc _)).mono ?_; rintro e w' ⟨rfl, hb1⟩
    have hx1 := boxc hb1 0 _ rfl
    go_wp2_with fail
    refine (l1Part_c _ _ _ _ _ _ ar t k q _ hg ht hk HE.out hq1 hq2 (hv.below hb1.of_alloc) (hu.below hb1.of_alloc)).mono ?_; rintro e w2 ⟨ad, n, c, rfl, ho, hb2⟩
    go_wp2_with fail
    go_ret2
    exact ⟨_, _, _, rfl, by rw [E.out]; exact ho.mono (by have := hb1.size; simp at this; omega) (Nat.le_refl _), hb1.of_alloc.step hb2⟩

theorem iPartAt_t {l h l' h' : Nat} {v u : Value} {ar t : List Int} {w : World} (ha : ar.length ≤ 1048576) (hv : SlI l h w v ar) (ht : t.length ≤ 1048576) (hu : SlI l' h' w u t) {i : Int} (_ : -9223372036854775808 ≤ i) (_ : i ≤ 9223372036854775807) :
    Calls Tryd.prog 18 #[.agg #[v], u, .int .i64 i] w (RetIB w (partAns ar t i) (askOk ar t i)) := by
  cases hs : askOk ar t i with
  | false =>
    have E : Hid (partAns ar t i = []) := by show partAns ar t i = []; simp [partAns, hs]
    have HS := Lib.hid hs; clear hs
    go_enter Tryd.func18, Tryd.ntmps18
    go_wp2_with fail
    refine (hasIndex_v _ _ _ _ _ _ _ _ _ _ _ HS.out ha ht (hv.alloc _) (hu.alloc _)).mono ?_; rintro e w' ⟨rfl, hb1⟩
    go_wp2_with fail
    go_ret2
    exact ⟨_, _, _, rfl, by rw [E.out]; exact OwnI.nil _ _ _, hb1.of_alloc⟩
  | true =>
    obtain ⟨k, q, rfl, hk, he, hq1, hq2, hlen, hg, hok⟩ := ask_yes hs
    obtain ⟨b, off, cap, rfl, hcap⟩ := hu.plain (by omega)
    have E := Lib.hid (partAns_yes hs he)
    have hpl : (partOf t k q).length ≤ 1048576 := by rw [partOf_len t k q hq2]; omega
    have hq3 : (k : Int) < q := by omega
    have hq4 : (q : Int) ≤ t.length := by omega
    have HS := Lib.hid hs; have HE := Lib.hid he; clear hs he
    go_enter Tryd.func18, Tryd.ntmps18
    go_wp2_with fail
    refine (hasIndex_v _ _ _ _ _ _ _ _ _ _ _ HS.out ha ht (hv.alloc _) (hu.alloc _)).mono ?_; rintro e w' ⟨rfl, hb1⟩
    have hx1 := boxc hb1 0 _ rfl
    go_wp2_with fail
    refine (termEnd_v _ _ _ _ _ _ ar t k q _ HE.out hg ht (by omega) (hv.below hb1.of_alloc) (hu.below hb1.of_alloc)).mono ?_; rintro e w2 ⟨rfl, hb2⟩
    go_wp2_with fail
    refine (clone_c _ _ _ (partOf t k q) _ hpl ((hu.below (hb1.of_alloc.step hb2)).cut k q (by omega) hq2)).mono ?_; rintro e w3 ⟨ad, n, c, rfl, ho, hb3⟩
    go_wp2_with fail
    go_ret2
    exact ⟨_, _, _, rfl, by rw [E.out]; exact ho.mono (by have := hb1.size; have := hb2.size; simp at *; omega) (Nat.le_refl _), (hb1.of_alloc.step hb2).step hb3⟩

theorem replaced_len_le (t r : List Int) (i q : Nat) (ht : t.length ≤ 1048576) (hr : r.length ≤ 1048576) : (replaced t i q r).length ≤ 1099511627776 := by
  simp [replaced]; omega

end Go.Proofs.YtajmjjandkdhiabDoor
end
section
/- CountOf, ShiftVars: both functions. -/
namespace Go.Proofs.YtajmjjandkdhiabDoor
open Go.RowKit

def cntI (t : List Int) (n : Int) : Nat := (t.filter (· == n)).length
theorem cntI_le (t : List Int) (n : Int) : cntI t n ≤ t.length := List.length_filter_le _ _
theorem cntI_yes (t : List Int) (n : Int) (k : Nat) (hk : k < t.length) (h : t.getD k 0 = n) : cntI (t.take (k+1)) n = cntI (t.take k) n + 1 := by
  unfold cntI
  rw [List.take_succ_eq_append_getElem hk, List.filter_append, List.length_append]
  have : (t[k] == n) = true := by simp [List.getD, hk] at h; simp [h]
  simp [List.filter_cons, this]
theorem cntI_no (t : List Int) (n : Int) (k : Nat) (hk : k < t.length) (h : t.getD k 0 ≠ n) : cntI (t.take (k+1)) n = cntI (t.take k) n := by
  unfold cntI
  rw [List.take_succ_eq_append_getElem hk, List.filter_append, List.length_append]
  have : (t[k] == n) = false := by simp [List.getD, hk] at h; simp [h]
  simp [List.filter_cons, this]

theorem l1Count_c (l h : Nat) (v : Value) (t : List Int) (n : Int) (w : World) (ht : t.length ≤ 1048576) (hv : SlI l h w v t) :
    Calls Tryd.prog 55 #[v, .int .i64 n] w (RetV w (.int .i64 (cntI t n))) := by
  obtain ⟨ad, cap, rfl, -, -, hr⟩ := hv
  go_enter Tryd.func55, Tryd.ntmps55
  go_wp2_with fail
  go_loop [5, 10] (fun m i => ∃ k : Nat, k ≤ t.length ∧ i = .int .i64 k ∧ m = .int .i64 (cntI (t.take k) n)) (fun _ i => t.length - (intOf i).toNat)
  case atStart => exact ⟨0, Nat.zero_le _, rfl, rfl⟩
  case round =>
    obtain ⟨k, hk, rfl, rfl⟩ := hrel
    have hle : cntI (t.take k) n ≤ k := by have := cntI_le (t.take k) n; simp at this; omega
    by_cases hlt : k < t.length
    · obtain ⟨b, off, rfl, -, hcell⟩ := rd hr (Bel.rfl' w) k hlt
      have E1 := Lib.hid (cntI_yes t n k hlt)
      have E2 := Lib.hid (cntI_no t n k hlt)
      clear hr
      generalize t.getD k 0 = x at *
      generalize cntI (t.take k) n = m at *
      by_cases hx : x = n
      · have E := Lib.hid (E1.out hx)
        have hx' : (x == n) = true := by simpa using hx
        clear hx E1 E2
        go_wp2_with fail
        go_round
        case rel => exact ⟨k+1, by omega, by go_num, by rw [E.out]; go_num⟩
        case measure => simp [intOf]; omega
      · have E := Lib.hid (E2.out hx)
        have hx' : (x == n) = false := by simpa using hx
        clear hx E1 E2
        go_wp2_with fail
        go_round
        case rel => exact ⟨k+1, by omega, by go_num, by rw [E.out]⟩
        case measure => simp [intOf]; omega
    · have E := Lib.hid (show t.take k = t from List.take_of_length_le (by omega))
      go_wp2_with fail
      go_ret
      exact ⟨by rw [E.out]; rfl, Bel.rfl' _⟩

def countAns (ar t : List Int) (n : Int) : Int := if goodTerm ar t then cntI t n else 0
theorem count_no {ar t : List Int} {n : Int} (h : goodTerm ar t = false) : countAns ar t n = 0 := by simp [countAns, h]
theorem count_yes {ar t : List Int} {n : Int} (h : goodTerm ar t = true) : countAns ar t n = cntI t n := by simp [countAns, h]

/-! ### ShiftVars -/
def shiftOne (d x : Int) : Int := if x < 0 then x - d else x
def shifted (t : List Int) (d : Int) : List Int := t.map (shiftOne d)
def mapDone (f : Int → Int) (t : List Int) (k : Nat) : List Int := (t.take k).map f ++ t.drop k
theorem mapDone_zero (f : Int → Int) (t : List Int) : mapDone f t 0 = t := by simp [mapDone]
theorem mapDone_len (f : Int → Int) (t : List Int) (k : Nat) : (mapDone f t k).length = t.length := by simp [mapDone]; omega
theorem mapDone_get (f : Int → Int) (t : List Int) (k : Nat) (h : k < t.length) : (mapDone f t k).getD k 0 = t.getD k 0 := by
  unfold mapDone
  have hl : ((t.take k).map f).length = k := by simp; omega
  simp only [List.getD]
  rw [List.getElem?_append_right (by omega), hl, Nat.sub_self]
  simp
theorem mapDone_succ (f : Int → Int) (t : List Int) (k : Nat) (h : k < t.length) : (mapDone f t k).set k (f (t.getD k 0)) = mapDone f t (k+1) := by
  unfold mapDone
  have hl : ((t.take k).map f).length = k := by simp; omega
  rw [List.set_append_right _ _ (by omega), hl, Nat.sub_self, List.drop_eq_getElem_cons h, List.set_cons_zero, List.take_succ_eq_append_getElem h, List.map_append, List.append_assoc]
  simp [List.getD, h]
theorem mapDone_same (f : Int → Int) (t : List Int) (k : Nat) (h : k < t.length) (e : f (t.getD k 0) = t.getD k 0) : mapDone f t k = mapDone f t (k+1) := by
  have h1 : k < (mapDone f t k).length := by rw [mapDone_len]; exact h
  have h2 : t.getD k 0 = (mapDone f t k)[k] := by rw [← mapDone_get f t k h]; simp [List.getD, h1]
  rw [← mapDone_succ f t k h, e, h2, List.set_getElem_self]
theorem mapDone_all (f : Int → Int) (t : List Int) (k : Nat) (h : ¬ k < t.length) : mapDone f t k = t.map f := by
  unfold mapDone; rw [List.take_of_length_le (by omega), List.drop_eq_nil_of_le (by omega), List.append_nil]

/-- The cell, the mark and the next state at a place of a slice of the call's own. -/
theorem OwnI.at {lo hi : Nat} {w : World} {ad : Option Addr} {n c : Nat} {xs : List Int} (h : OwnI lo hi w (.slice ad n c) xs) (j : Nat) (hj : j < xs.length) :
    ∃ b off, ad = some ⟨b, off, none⟩ ∧ lo ≤ b ∧ b < hi ∧ w.cell? ⟨b, off + j, none⟩ = some (.int .i64 (xs.getD j 0)) ∧ w.frozen? ⟨b, off + j, none⟩ = false ∧
      ∀ x : Int, OwnI lo hi (w.setCell ⟨b, off + j, none⟩ (.int .i64 x)) (.slice (some ⟨b, off, none⟩) n c) (xs.set j x) := by
  have h0 := h
  obtain ⟨⟨ad', cap, e, hc, hm, hr⟩, hf⟩ := h
  obtain ⟨b, off, rfl, a1, a2, a3⟩ := hr (by omega)
  simp only [Value.slice.injEq] at e
  obtain ⟨rfl, rfl, rfl⟩ := e
  exact ⟨b, off, rfl, a1, a2, a3 j hj, hf b off _ _ rfl (by omega) j, fun x => h0.stored j hj x⟩

def shiftOk (ar t : List Int) (d : Int) : Bool := goodTerm ar t && inB d 0 12 && okTerm ar (shifted t d)
def shiftAns (ar t : List Int) (d : Int) : List Int := if shiftOk ar t d then shifted t d else []
theorem shifted_len (t : List Int) (d : Int) : (shifted t d).length = t.length := by simp [shifted]
theorem shiftAns_len (ar t : List Int) (d : Int) : (shiftAns ar t d).length ≤ 1048576 := by
  unfold shiftAns
  split
  · rename_i h
    simp only [shiftOk, Bool.and_eq_true] at h
    have := ((okTerm_iff _ _).1 h.2).2.1
    omega
  · exact Nat.zero_le _
theorem shift_no {ar t : List Int} {d : Int} (h : shiftOk ar t d = false) : shiftAns ar t d = [] := by simp [shiftAns, h]
theorem shift_yes {ar t : List Int} {d : Int} (h : shiftOk ar t d = true) : shiftAns ar t d = shifted t d := by simp [shiftAns, h]
theorem good_low {ar t : List Int} (h : goodTerm ar t = true) : t.length ≤ 40 ∧ ∀ k, k < t.length → -12 ≤ t.getD k 0 := by
  obtain ⟨_, h2⟩ := goodTerm_iff.1 h
  refine ⟨((okTerm_iff _ _).1 h2).2.1, fun k hk => ?_⟩
  have := good_sym ar t h2 k hk
  simp [okSym, inB] at this
  simp only [List.getD]
  omega

end Go.Proofs.YtajmjjandkdhiabDoor
end
section
/- The ordering, plainly. No program. -/
namespace Go.Proofs.YtajmjjandkdhiabDoor
open Go.RowKit

theorem cntI_count (t : List Int) (n : Int) : cntI t n = t.count n := by unfold cntI; rw [List.count_eq_countP, List.countP_eq_length_filter]
/-- Every variable occurs in a at least as often. -/
def covers (a b : List Int) : Bool := b.all fun n => decide (0 ≤ n) || decide (cntI b n ≤ cntI a n)
theorem covers_iff {a b : List Int} : covers a b = true ↔ ∀ n, n < 0 → b.count n ≤ a.count n := by
  unfold covers
  rw [List.all_eq_true]
  constructor
  · intro h n hn
    by_cases hm : n ∈ b
    · have := h n hm
      simp only [Bool.or_eq_true, decide_eq_true_eq, cntI_count] at this
      omega
    · rw [List.count_eq_zero_of_not_mem hm]; omega
  · intro h n _
    by_cases hn : 0 ≤ n
    · simp [hn]
    · have := h n (by omega)
      simp only [Bool.or_eq_true, decide_eq_true_eq, cntI_count]
      omega
/-- At the first difference both have symbols, and the first's is the greater one. -/
def winF : List Int → List Int → Bool
  | x :: a, y :: b => if x = y then winF a b else decide (0 ≤ y) && decide (y < x)
  | _, _ => false
theorem winF_irrefl (a : List Int) : winF a a = false := by
  induction a with
  | nil => rfl
  | cons x a ih => simp [winF, ih]
theorem winF_asymm (a b : List Int) (h : winF a b = true) : winF b a = false := by
  induction a generalizing b with
  | nil => simp [winF] at h
  | cons x a ih =>
    cases b with
    | nil => simp [winF] at h
    | cons y b =>
      unfold winF at h ⊢
      by_cases e : x = y
      · rw [if_pos e] at h; rw [if_pos e.symm]; exact ih b h
      · rw [if_neg e] at h; rw [if_neg (Ne.symm e)]
        simp only [Bool.and_eq_true, decide_eq_true_eq] at h
        simp; omega
theorem winF_trans (a b c : List Int) (h : winF a b = true) (k : winF b c = true) : winF a c = true := by
  induction a generalizing b c with
  | nil => simp [winF] at h
  | cons x a ih =>
    cases b with
    | nil => simp [winF] at h
    | cons y b =>
      cases c with
      | nil => simp [winF] at k
      | cons z c =>
        unfold winF at h k ⊢
        by_cases e : x = y
        · rw [if_pos e] at h
          by_cases e2 : y = z
          · rw [if_pos e2] at k; rw [if_pos (e.trans e2)]; exact ih b c h k
          · rw [if_neg e2] at k; rw [if_neg (by rw [e]; exact e2), e]; exact k
        · rw [if_neg e] at h
          simp only [Bool.and_eq_true, decide_eq_true_eq] at h
          by_cases e2 : y = z
          · rw [if_neg (by omega)]; simp; omega
          · rw [if_neg e2] at k
            simp only [Bool.and_eq_true, decide_eq_true_eq] at k
            rw [if_neg (by omega)]; simp; omega
theorem winF_left (p a b : List Int) : winF (p ++ a) (p ++ b) = winF a b := by
  induction p with
  | nil => rfl
  | cons x p ih => simp [winF, ih]
theorem winF_right (a b q r : List Int) (h : winF a b = true) : winF (a ++ q) (b ++ r) = true := by
  induction a generalizing b with
  | nil => simp [winF] at h
  | cons x a ih =>
    cases b with
    | nil => simp [winF] at h
    | cons y b =>
      simp only [List.cons_append]
      unfold winF at h ⊢
      by_cases e : x = y
      · rw [if_pos e] at h ⊢; exact ih b h
      · rw [if_neg e] at h ⊢; exact h
theorem winF_total (a b : List Int) (hl : a.length = b.length) (ha : ∀ n ∈ a, 0 ≤ n) (hb : ∀ n ∈ b, 0 ≤ n) (hne : a ≠ b) : winF a b = true ∨ winF b a = true := by
  induction a generalizing b with
  | nil => cases b with
    | nil => exact absurd rfl hne
    | cons y b => simp at hl
  | cons x a ih =>
    cases b with
    | nil => simp at hl
    | cons y b =>
      unfold winF
      by_cases e : x = y
      · rw [if_pos e, if_pos e.symm]
        exact ih b (by simpa using hl) (fun n h => ha n (List.mem_cons_of_mem _ h)) (fun n h => hb n (List.mem_cons_of_mem _ h)) (by rintro rfl; exact hne (by rw [e]))
      · rw [if_neg e, if_neg (Ne.symm e)]
        have h1 := ha x List.mem_cons_self
        have h2 := hb y List.mem_cons_self
        simp only [Bool.and_eq_true, decide_eq_true_eq]
        omega
theorem one1_sym0 {s : List (List Int)} {n : Int} (h : 0 ≤ n) : one1 s n = [n] := by unfold one1; rw [if_neg (by omega)]
theorem one1_posK (s : List (List Int)) (n : Int) : 1 ≤ (one1 s n).length := by
  unfold one1; split
  · rename_i h; exact h.2
  · simp
theorem winF_app (s : List (List Int)) (a b : List Int) (h : winF a b = true) : winF (appT s a) (appT s b) = true := by
  induction a generalizing b with
  | nil => simp [winF] at h
  | cons x a ih =>
    cases b with
    | nil => simp [winF] at h
    | cons y b =>
      unfold winF at h
      by_cases e : x = y
      · rw [if_pos e] at h
        have := ih b h
        unfold appT at this ⊢
        rw [List.flatMap_cons, List.flatMap_cons, e, winF_left]; exact this
      · rw [if_neg e] at h
        simp only [Bool.and_eq_true, decide_eq_true_eq] at h
        unfold appT
        rw [List.flatMap_cons, List.flatMap_cons, one1_sym0 (s := s) h.1, one1_sym0 (s := s) (n := x) (by omega)]
        simp only [List.cons_append, List.nil_append]
        unfold winF
        rw [if_neg e]; simp; omega

/-- a is greater than b. -/
def above (a b : List Int) : Bool := covers a b && (decide (b.length < a.length) || (decide (a.length = b.length) && winF a b))
theorem above_iff {a b : List Int} : above a b = true ↔ (∀ n, n < 0 → b.count n ≤ a.count n) ∧ (b.length < a.length ∨ (a.length = b.length ∧ winF a b = true)) := by
  unfold above
  simp only [Bool.and_eq_true, Bool.or_eq_true, decide_eq_true_eq, covers_iff]
theorem above_irrefl (a : List Int) : above a a = false := by
  rw [Bool.eq_false_iff]; intro h
  obtain ⟨_, h | h⟩ := above_iff.1 h
  · omega
  · rw [winF_irrefl] at h; simp at h
theorem above_asymm {a b : List Int} (h : above a b = true) : above b a = false := by
  rw [Bool.eq_false_iff]; intro k
  obtain ⟨_, h⟩ := above_iff.1 h
  obtain ⟨_, k⟩ := above_iff.1 k
  rcases h with h | ⟨h, hw⟩ <;> rcases k with k | ⟨k, kw⟩
  · omega
  · omega
  · omega
  · rw [winF_asymm _ _ hw] at kw; simp at kw
theorem above_trans {a b c : List Int} (h : above a b = true) (k : above b c = true) : above a c = true := by
  obtain ⟨h1, h⟩ := above_iff.1 h
  obtain ⟨k1, k⟩ := above_iff.1 k
  refine above_iff.2 ⟨fun n hn => Nat.le_trans (k1 n hn) (h1 n hn), ?_⟩
  rcases h with h | ⟨h, hw⟩ <;> rcases k with k | ⟨k, kw⟩
  · left; omega
  · left; omega
  · left; omega
  · exact .inr ⟨by omega, winF_trans _ _ _ hw kw⟩
theorem above_total {a b : List Int} (ha : ∀ n ∈ a, 0 ≤ n) (hb : ∀ n ∈ b, 0 ≤ n) (hne : a ≠ b) : above a b = true ∨ above b a = true := by
  have z : ∀ (l : List Int), (∀ n ∈ l, 0 ≤ n) → ∀ n, n < 0 → l.count n = 0 := fun l hl n hn => List.count_eq_zero_of_not_mem fun hm => by have := hl n hm; omega
  have c1 : ∀ n, n < 0 → b.count n ≤ a.count n := fun n hn => by rw [z b hb n hn]; omega
  have c2 : ∀ n, n < 0 → a.count n ≤ b.count n := fun n hn => by rw [z a ha n hn]; omega
  rcases Nat.lt_trichotomy a.length b.length with h | h | h
  · exact .inr (above_iff.2 ⟨c2, .inl h⟩)
  · rcases winF_total a b h ha hb hne with k | k
    · exact .inl (above_iff.2 ⟨c1, .inr ⟨h, k⟩⟩)
    · exact .inr (above_iff.2 ⟨c2, .inr ⟨h.symm, k⟩⟩)
  · exact .inl (above_iff.2 ⟨c1, .inl h⟩)
theorem above_ctx {a b : List Int} (p q : List Int) (h : above a b = true) : above (p ++ a ++ q) (p ++ b ++ q) = true := by
  obtain ⟨h1, h⟩ := above_iff.1 h
  refine above_iff.2 ⟨fun n hn => ?_, ?_⟩
  · have := h1 n hn; simp only [List.count_append]; omega
  · rcases h with h | ⟨h, hw⟩
    · left; simp only [List.length_append]; omega
    · refine .inr ⟨by simp only [List.length_append]; omega, ?_⟩
      rw [List.append_assoc, List.append_assoc, winF_left]; exact winF_right _ _ _ _ hw
theorem above_part (p u q : List Int) (h : 0 < p.length + q.length) : above (p ++ u ++ q) u = true := by
  refine above_iff.2 ⟨fun n _ => ?_, .inl ?_⟩
  · simp only [List.count_append]; omega
  · simp only [List.length_append]; omega
theorem sum_perm {a b : List Int} (g : Int → Nat) (h : a.Perm b) : (a.map g).sum = (b.map g).sum := by
  induction h with
  | nil => rfl
  | cons x _ ih => simp [ih]
  | swap x y l => simp; omega
  | trans _ _ h1 h2 => exact h1.trans h2
theorem sum_mono (g : Int → Nat) (hg : ∀ n, 0 ≤ n → g n = 0) (a b : List Int) (h : ∀ n, n < 0 → b.count n ≤ a.count n) : (b.map g).sum ≤ (a.map g).sum := by
  induction b generalizing a with
  | nil => simp
  | cons n b ih =>
    by_cases hn : 0 ≤ n
    · have := ih a (fun m hm => by have h2 := h m hm; rw [List.count_cons] at h2; omega)
      simp [hg n hn]; exact this
    · have h1 := h n (by omega)
      rw [List.count_cons_self] at h1
      have hm : n ∈ a := List.count_pos_iff.1 (by omega)
      have hp := List.perm_cons_erase hm
      rw [sum_perm g hp]
      have := ih (a.erase n) (fun m hm => by
        have h2 := h m hm
        have h3 := hp.count_eq m
        rw [List.count_cons] at h2 h3
        omega)
      simp; exact this
theorem count_app (s : List (List Int)) (a : List Int) (n : Int) (hn : n < 0) : (appT s a).count n = (a.map fun m => if m < 0 then (one1 s m).count n else 0).sum := by
  unfold appT
  induction a with
  | nil => rfl
  | cons m a ih =>
    rw [List.flatMap_cons, List.count_append, ih, List.map_cons, List.sum_cons]
    congr 1
    by_cases hm : m < 0
    · rw [if_pos hm]
    · rw [if_neg hm, one1_sym0 (by omega)]
      exact List.count_eq_zero_of_not_mem (by simp; omega)
theorem len_app (s : List (List Int)) (a : List Int) : (appT s a).length = a.length + (a.map fun m => if m < 0 then (one1 s m).length - 1 else 0).sum := by
  unfold appT
  induction a with
  | nil => rfl
  | cons m a ih =>
    rw [List.flatMap_cons, List.length_append, ih, List.map_cons, List.sum_cons, List.length_cons]
    have := one1_posK s m
    by_cases hm : m < 0
    · rw [if_pos hm]; omega
    · rw [if_neg hm, one1_sym0 (by omega)]; simp; omega
theorem above_app {a b : List Int} (s : List (List Int)) (h : above a b = true) : above (appT s a) (appT s b) = true := by
  obtain ⟨h1, h⟩ := above_iff.1 h
  have hl := sum_mono (fun m => if m < 0 then (one1 s m).length - 1 else 0) (fun n hn => by show (if _ then _ else _) = 0; rw [if_neg (by omega)]) a b h1
  have e1 := len_app s a
  have e2 := len_app s b
  refine above_iff.2 ⟨fun n hn => ?_, ?_⟩
  · rw [count_app s a n hn, count_app s b n hn]
    exact sum_mono _ (fun m hm => by show (if _ then _ else _) = 0; rw [if_neg (by omega)]) a b h1
  · by_cases hlt : (appT s b).length < (appT s a).length
    · exact .inl hlt
    · rcases h with h | ⟨h, hw⟩
      · omega
      · exact .inr ⟨by omega, winF_app s a b hw⟩

/-- How two terms compare. -/
def cmpT (a b : List Int) : Int := if a = b then 0 else if above a b then 1 else if above b a then -1 else 2
theorem cmpT_one {a b : List Int} : cmpT a b = 1 ↔ above a b = true := by
  unfold cmpT
  by_cases e : a = b
  · rw [if_pos e, e, above_irrefl]; simp
  · rw [if_neg e]
    cases h : above a b
    · cases h2 : above b a <;> simp
    · simp
theorem cmpT_zero {a b : List Int} : cmpT a b = 0 ↔ a = b := by
  unfold cmpT
  by_cases e : a = b
  · simp [e]
  · rw [if_neg e]
    cases h : above a b
    · cases h2 : above b a <;> simp [e]
    · simp [e]
theorem cmpT_neg {a b : List Int} : cmpT a b = -1 ↔ above b a = true := by
  unfold cmpT
  by_cases e : a = b
  · rw [if_pos e, e, above_irrefl]; simp
  · rw [if_neg e]
    cases h : above a b
    · cases h2 : above b a <;> simp
    · have := above_asymm h; simp [this]
theorem cmpT_two {a b : List Int} : cmpT a b = 2 ↔ a ≠ b ∧ above a b = false ∧ above b a = false := by
  unfold cmpT
  by_cases e : a = b
  · simp [e]
  · rw [if_neg e]
    cases h : above a b
    · cases h2 : above b a <;> simp [e]
    · simp
theorem cmpT_flip {a b : List Int} : (cmpT a b = 1 → cmpT b a = -1) ∧ (cmpT a b = 0 → cmpT b a = 0) ∧ (cmpT a b = 2 → cmpT b a = 2) := by
  refine ⟨fun h => cmpT_neg.2 (cmpT_one.1 h), fun h => cmpT_zero.2 (cmpT_zero.1 h).symm, fun h => ?_⟩
  obtain ⟨h1, h2, h3⟩ := cmpT_two.1 h
  exact cmpT_two.2 ⟨Ne.symm h1, h3, h2⟩

/-- What remains of a. -/
def minus (a b : List (List Int)) : List (List Int) := b.foldl List.erase a
theorem minus_nil (a : List (List Int)) : minus a [] = a := rfl
theorem minus_cons (a : List (List Int)) (t : List Int) (b : List (List Int)) : minus a (t :: b) = minus (a.erase t) b := rfl
theorem minus_count (a b : List (List Int)) (t : List Int) : (minus a b).count t = a.count t - b.count t := by
  induction b generalizing a with
  | nil => simp [minus]
  | cons y b ih =>
    rw [minus_cons, ih, List.count_erase, List.count_cons]
    by_cases e : y = t
    · simp [e]; omega
    · simp [e]
theorem minus_mem {a b : List (List Int)} {t : List Int} : t ∈ minus a b ↔ b.count t < a.count t := by
  rw [← List.count_pos_iff, minus_count]; omega
theorem minus_len (a b : List (List Int)) : (minus a b).length ≤ a.length := by
  induction b generalizing a with
  | nil => exact Nat.le_refl _
  | cons y b ih => rw [minus_cons]; exact Nat.le_trans (ih _) (List.length_erase_le)
theorem minus_sub {a b : List (List Int)} {t : List Int} (h : t ∈ minus a b) : t ∈ a := List.count_pos_iff.1 (by have := minus_mem.1 h; omega)
/-- From the front of a: what b has is left out. -/
theorem minus_front (x : List Int) (a b : List (List Int)) : minus (x :: a) b = if x ∈ b then minus a (b.erase x) else x :: minus a b := by
  induction b generalizing a with
  | nil => simp [minus]
  | cons y b ih =>
    rw [minus_cons]
    by_cases e : x = y
    · subst e; simp
    · rw [List.erase_cons_tail (by simpa using e), ih]
      have h1 : (x ∈ y :: b) ↔ x ∈ b := by simp [e]
      have h2 : (y :: b).erase x = y :: b.erase x := List.erase_cons_tail (by simpa using Ne.symm e)
      by_cases h : x ∈ b
      · rw [if_pos h, if_pos (h1.2 h), h2, minus_cons]
      · rw [if_neg h, if_neg (fun k => h (h1.1 k)), minus_cons]
theorem minus_perm {b c : List (List Int)} (h : b.Perm c) (a : List (List Int)) : minus a b = minus a c := by
  induction h generalizing a with
  | nil => rfl
  | cons x _ ih => rw [minus_cons, minus_cons, ih]
  | swap x y l => rw [minus_cons, minus_cons, minus_cons, minus_cons, List.erase_comm]
  | trans _ _ h1 h2 => exact (h1 a).trans (h2 a)

def dom (a b : List (List Int)) : Bool := b.all fun t => a.any fun u => above u t
theorem dom_iff {a b : List (List Int)} : dom a b = true ↔ ∀ t ∈ b, ∃ u ∈ a, above u t = true := by
  unfold dom; simp only [List.all_eq_true, List.any_eq_true]
/-- Some element is below none. -/
theorem top_of (l : List (List Int)) (h : l ≠ []) : ∃ m ∈ l, ∀ x ∈ l, above x m = false := by
  induction l with
  | nil => exact absurd rfl h
  | cons y l ih =>
    by_cases hl : l = []
    · subst hl
      exact ⟨y, List.mem_cons_self, fun x hx => by simp at hx; subst hx; exact above_irrefl _⟩
    · obtain ⟨m, hm, hmax⟩ := ih hl
      cases hy : above y m with
      | false => exact ⟨m, List.mem_cons_of_mem _ hm, fun x hx => by rcases List.mem_cons.1 hx with rfl | hx; exact hy; exact hmax x hx⟩
      | true =>
        refine ⟨y, List.mem_cons_self, fun x hx => ?_⟩
        rcases List.mem_cons.1 hx with rfl | hx
        · exact above_irrefl _
        · rw [Bool.eq_false_iff]; intro hxy
          have := hmax x hx
          rw [above_trans hxy hy] at this; simp at this
theorem dom_asymm {a b : List (List Int)} (ha : a ≠ []) (h : dom a b = true) : dom b a = false := by
  rw [Bool.eq_false_iff]; intro k
  obtain ⟨m, hm, hmax⟩ := top_of a ha
  obtain ⟨u, hu, h1⟩ := dom_iff.1 k m hm
  obtain ⟨x, hx, h2⟩ := dom_iff.1 h u hu
  have := hmax x hx
  rw [above_trans h2 h1] at this; simp at this
/-- How two lists compare. -/
def cmpL (a b : List (List Int)) : Int := if minus a b = [] ∧ minus b a = [] then 0 else if dom (minus a b) (minus b a) then 1 else if dom (minus b a) (minus a b) then -1 else 2
theorem cmpL_zero {a b : List (List Int)} : cmpL a b = 0 ↔ minus a b = [] ∧ minus b a = [] := by
  unfold cmpL
  by_cases e : minus a b = [] ∧ minus b a = []
  · simp [e]
  · rw [if_neg e]; simp only [e, iff_false]; split
    · omega
    · split <;> omega
theorem cmpL_one {a b : List (List Int)} : cmpL a b = 1 ↔ minus a b ≠ [] ∧ dom (minus a b) (minus b a) = true := by
  unfold cmpL
  by_cases e : minus a b = [] ∧ minus b a = []
  · rw [if_pos e]; simp [e.1]
  · rw [if_neg e]
    cases h : dom (minus a b) (minus b a)
    · simp; split <;> omega
    · simp
      intro h0
      refine e ⟨h0, ?_⟩
      rw [h0] at h
      cases h2 : minus b a with
      | nil => rfl
      | cons t r => obtain ⟨u, hu, _⟩ := dom_iff.1 h t (by rw [h2]; exact List.mem_cons_self); simp at hu
theorem cmpL_neg {a b : List (List Int)} : cmpL a b = -1 ↔ minus b a ≠ [] ∧ dom (minus b a) (minus a b) = true := by
  constructor
  · intro h
    have h1 : cmpL a b ≠ 1 := by omega
    have h0 : cmpL a b ≠ 0 := by omega
    unfold cmpL at h
    by_cases e : minus a b = [] ∧ minus b a = []
    · rw [if_pos e] at h; omega
    · rw [if_neg e] at h
      cases hd : dom (minus a b) (minus b a)
      · rw [hd] at h
        cases hd2 : dom (minus b a) (minus a b)
        · rw [hd2] at h; simp at h
        · refine ⟨fun hb => e ⟨?_, hb⟩, rfl⟩
          rw [hb] at hd2
          cases h2 : minus a b with
          | nil => rfl
          | cons t r => obtain ⟨u, hu, _⟩ := dom_iff.1 hd2 t (by rw [h2]; exact List.mem_cons_self); simp at hu
      · rw [hd] at h; simp at h
  · rintro ⟨h1, h2⟩
    have h3 := dom_asymm h1 h2
    unfold cmpL
    rw [if_neg (fun e => h1 e.2), h3, h2]; simp
theorem cmpL_flip (a b : List (List Int)) : (cmpL a b = 1 ↔ cmpL b a = -1) ∧ (cmpL a b = 0 ↔ cmpL b a = 0) := by
  refine ⟨by rw [cmpL_one, cmpL_neg], by rw [cmpL_zero, cmpL_zero]; exact And.comm⟩
theorem nil_iff {l : List (List Int)} : l = [] ↔ ∀ t, t ∉ l := List.eq_nil_iff_forall_not_mem
theorem dom_congr {a b a' b' : List (List Int)} (h1 : ∀ t, t ∈ a ↔ t ∈ a') (h2 : ∀ t, t ∈ b ↔ t ∈ b') : dom a b = dom a' b' := by
  rw [Bool.eq_iff_iff, dom_iff, dom_iff]
  constructor
  · intro h t ht; obtain ⟨u, hu, k⟩ := h t ((h2 t).2 ht); exact ⟨u, (h1 u).1 hu, k⟩
  · intro h t ht; obtain ⟨u, hu, k⟩ := h t ((h2 t).1 ht); exact ⟨u, (h1 u).2 hu, k⟩
/-- What is put behind both changes nothing. -/
theorem cmpL_snoc (a b : List (List Int)) (g : List Int) : cmpL (a ++ [g]) (b ++ [g]) = cmpL a b := by
  have h1 : ∀ (a b : List (List Int)) t, t ∈ minus (a ++ [g]) (b ++ [g]) ↔ t ∈ minus a b := fun a b t => by
    rw [minus_mem, minus_mem, List.count_append, List.count_append]; omega
  unfold cmpL
  rw [dom_congr (h1 a b) (h1 b a), dom_congr (h1 b a) (h1 a b)]
  have h2 : ∀ a b : List (List Int), minus (a ++ [g]) (b ++ [g]) = [] ↔ minus a b = [] := fun a b => by
    rw [nil_iff, nil_iff]; exact forall_congr' fun t => not_congr (h1 a b t)
  simp only [h2]
def falls (l : List (List Int)) : Bool := (List.range (l.length - 1)).all fun i => above (l.getD i []) (l.getD (i+1) [])
theorem falls_pair {l : List (List Int)} (h : falls l = true) : ∀ (i j : Nat), j < i → i < l.length → above (l.getD j []) (l.getD i []) = true := by
  unfold falls at h
  rw [List.all_eq_true] at h
  intro i
  induction i with
  | zero => intro j hj; omega
  | succ i ih =>
    intro j hj hi
    have h1 := h i (by rw [List.mem_range]; omega)
    by_cases e : j = i
    · rw [e]; exact h1
    · exact above_trans (ih j (by omega) (by omega)) h1
end Go.Proofs.YtajmjjandkdhiabDoor
end
section
/- The ordering of two terms: the program's and the reference's inner functions. -/
namespace Go.Proofs.YtajmjjandkdhiabDoor
open Go.RowKit

/-- The table of weights: both are one. -/
def Tab (w : World) : Prop := w.cell? ⟨0, 0, none⟩ = some (.int .i64 1) ∧ w.cell? ⟨0, 1, none⟩ = some (.int .i64 1)
theorem Tab.bel {w w' : World} (h : Tab w) (hb : Bel w w') : Tab w' := ⟨hb.at (World.block_lt_of_cell? _ ⟨_, _, none⟩ h.1) h.1, hb.at (World.block_lt_of_cell? _ ⟨_, _, none⟩ h.2) h.2⟩
theorem Tab.k {w : World} (h : Tab w) : K Tab w := fun _ hb => h.bel hb

theorem weightOf_c (l h : Nat) (v : Value) (t : List Int) (w : World) (hT : Tab w) (ht : t.length ≤ 1048576) (hv : SlI l h w v t) :
    Calls Tryd.prog 29 #[v] w (RetV w (.int .i64 (t.length : Int))) := by
  obtain ⟨ad, cap, rfl, -, -, hr⟩ := hv
  obtain ⟨hT0, hT1⟩ := hT
  go_enter Tryd.func29, Tryd.ntmps29
  go_wp2_with fail
  go_loop [3, 8] (fun m i => ∃ k : Nat, k ≤ t.length ∧ i = .int .i64 k ∧ m = .int .i64 k) (fun _ i => t.length - (intOf i).toNat)
  case atStart => exact ⟨0, Nat.zero_le _, rfl, rfl⟩
  case round =>
    obtain ⟨k, hk, rfl, rfl⟩ := hrel
    by_cases hlt : k < t.length
    · obtain ⟨b, off, rfl, -, hcell⟩ := rd hr (Bel.rfl' w) k hlt
      clear hr
      generalize t.getD k 0 = x at *
      by_cases hx : x < 0
      · have hx' : decide (x < 0) = true := by simpa using hx
        go_wp2_with fail
        go_round
        case rel => exact ⟨k+1, by omega, by go_num, by go_num⟩
        case measure => simp [intOf]; omega
      · have hx' : decide (x < 0) = false := by simpa using hx
        go_wp2_with fail
        go_round
        case rel => exact ⟨k+1, by omega, by go_num, by go_num⟩
        case measure => simp [intOf]; omega
    · obtain rfl : k = t.length := by omega
      go_wp2_with fail
      go_ret
      exact ⟨rfl, Bel.rfl' _⟩

/-- All variables have numbers up to eleven. -/
def lowT (t : List Int) : Prop := ∀ k, k < t.length → -12 ≤ t.getD k 0
theorem lowT.mem {t : List Int} (h : lowT t) {n : Int} (hn : n ∈ t) : -12 ≤ n := by
  obtain ⟨i, hi, e⟩ := List.getElem_of_mem hn
  have := h i hi
  simpa [List.getD, hi, e] using this
theorem cntf_neg {t : List Int} {k : Nat} (hk : k < t.length) (hx : t.getD k 0 < 0) :
    (fun i : Nat => if i = (-1 - t.getD k 0).toNat then (cntI (t.take k) (t.getD k 0) : Int) + 1 else (cntI (t.take k) (-1 - (i : Int)) : Int)) = fun i : Nat => (cntI (t.take (k+1)) (-1 - (i : Int)) : Int) := by
  funext i
  by_cases e : i = (-1 - t.getD k 0).toNat
  · have e2 : -1 - (i : Int) = t.getD k 0 := by omega
    rw [if_pos e, e2, cntI_yes t _ k hk rfl]; omega
  · have e2 : t.getD k 0 ≠ -1 - (i : Int) := by omega
    rw [if_neg e, cntI_no t _ k hk e2]
theorem cntf_sym {t : List Int} {k : Nat} (hk : k < t.length) (hx : ¬ t.getD k 0 < 0) (i : Nat) : cntI (t.take (k+1)) (-1 - (i : Int)) = cntI (t.take k) (-1 - (i : Int)) :=
  cntI_no t _ k hk (by omega)
theorem cntd_neg {t : List Int} {k : Nat} (g : Int → Int) (hk : k < t.length) (hx : t.getD k 0 < 0) :
    (fun i : Nat => if i = (-1 - t.getD k 0).toNat then g (t.getD k 0) - (cntI (t.take k) (t.getD k 0) : Int) - 1 else g (-1 - (i : Int)) - (cntI (t.take k) (-1 - (i : Int)) : Int)) = fun i : Nat => g (-1 - (i : Int)) - (cntI (t.take (k+1)) (-1 - (i : Int)) : Int) := by
  funext i
  by_cases e : i = (-1 - t.getD k 0).toNat
  · have e2 : -1 - (i : Int) = t.getD k 0 := by omega
    rw [if_pos e, e2, cntI_yes t _ k hk rfl]; omega
  · have e2 : t.getD k 0 ≠ -1 - (i : Int) := by omega
    rw [if_neg e, cntI_no t _ k hk e2]
theorem cntI_take (t : List Int) (k : Nat) (n : Int) : cntI (t.take k) n ≤ cntI t n := by
  rw [cntI_count, cntI_count]
  exact (List.take_sublist k t).count_le n
theorem covers_no {a b : List Int} {k : Nat} (hk : k < b.length) (hx : b.getD k 0 < 0) (h : cntI a (b.getD k 0) < cntI (b.take k) (b.getD k 0) + 1) : covers a b = false := by
  rw [Bool.eq_false_iff]; intro hc
  have h1 := covers_iff.1 hc _ hx
  have h2 := cntI_take b (k+1) (b.getD k 0)
  rw [cntI_yes b _ k hk rfl] at h2
  rw [← cntI_count, ← cntI_count] at h1
  omega
def SoFar (a b : List Int) (k : Nat) : Prop := ∀ n, n < 0 → cntI (b.take k) n ≤ cntI a n
theorem SoFar.neg {a b : List Int} {k : Nat} (h : SoFar a b k) (hk : k < b.length) (hx : ¬ cntI a (b.getD k 0) < cntI (b.take k) (b.getD k 0) + 1) : SoFar a b (k+1) := fun n hn => by
  by_cases e : b.getD k 0 = n
  · rw [cntI_yes b n k hk e]; rw [e] at hx; omega
  · rw [cntI_no b n k hk e]; exact h n hn
theorem SoFar.sym {a b : List Int} {k : Nat} (h : SoFar a b k) (hk : k < b.length) (hx : ¬ b.getD k 0 < 0) : SoFar a b (k+1) := fun n hn => by
  rw [cntI_no b n k hk (by omega)]; exact h n hn
theorem SoFar.done {a b : List Int} {k : Nat} (h : SoFar a b k) (hk : ¬ k < b.length) : covers a b = true := covers_iff.2 fun n hn => by
  have := h n hn
  rw [List.take_of_length_le (by omega), cntI_count, cntI_count] at this
  exact this

set_option maxRecDepth 100000 in
set_option maxHeartbeats 400000 in
theorem coversVars_c (l h l' h' : Nat) (v u : Value) (a b : List Int) (w : World) (ha : a.length ≤ 1048576) (hb : b.length ≤ 1048576) (hla : lowT a) (hlb : lowT b) (hv : SlI l h w v a) (hu : SlI l' h' w u b) :
    Calls Tryd.prog 28 #[v, u] w (RetV w (.bool (covers a b))) := by
  obtain ⟨ad, cap, rfl, -, -, hr⟩ := hv
  obtain ⟨ad', cap', rfl, -, -, hr'⟩ := hu
  go_enter Tryd.func28, Tryd.ntmps28
  go_wp2_with fail
  go_loopw [12] (fun i wr => ∃ k : Nat, k ≤ a.length ∧ i = .int .i64 k ∧ BlkN wr w.heap.size 72 (fun i : Nat => (cntI (a.take k) (-1 - (i : Int)) : Int)) ∧ Bel w wr) (fun i _ => a.length - (intOf i).toNat)
  case atStart => exact ⟨0, Nat.zero_le _, rfl, by exact heap_alloc_new w _, Bel.alloc0 _ _⟩
  case round =>
    obtain ⟨k, hk, rfl, hN, hb1⟩ := hrel
    by_cases hlt : k < a.length
    · obtain ⟨b0, off, rfl, -, hcell⟩ := rd hr hb1 k hlt
      have hlow := hla k hlt
      have E1 := Lib.hid (cntf_neg hlt)
      have E2 := Lib.hid (cntf_sym hlt)
      have hc0 : cntI (a.take k) (a.getD k 0) ≤ 1048576 := Nat.le_trans (cntI_take a k _) (Nat.le_trans (cntI_le a _) ha)
      clear hr hr'
      generalize a.getD k 0 = x at *
      by_cases hx : x < 0
      · have hx' : decide (x < 0) = true := by simpa using hx
        have hm12 : (-1 - x).toNat < 12 := by omega
        have hi0 : 0 ≤ -1 - x := by omega
        have hi1 : -1 - x < 12 := by omega
        have hcN := hN.cell _ hm12
        have hfN := hN.free (-1 - x).toNat
        have e3 : -1 - (((-1 - x).toNat : Nat) : Int) = x := by omega
        simp only [e3] at hcN
        have E := Lib.hid (E1.out hx)
        clear E1 E2
        generalize hq : cntI (a.take k) x = c at *
        have HN := Lib.hid (hN.set _ hm12 ((c : Int) + 1))
        clear hN
        go_wp2_with fail
        go_roundw
        case rel => exact ⟨k+1, by omega, by go_num, by rw [← E.out]; exact HN.out, hb1.setCell (p := ⟨w.heap.size, (-1 - x).toNat, none⟩) (Nat.le_refl _) _⟩
        case measure => simp [intOf]; omega
      · have hx' : decide (x < 0) = false := by simpa using hx
        have E := Lib.hid (E2.out hx)
        clear E1 E2
        go_wp2_with fail
        go_roundw
        case rel => exact ⟨k+1, by omega, by go_num, by simp only [E.out]; exact hN, hb1⟩
        case measure => simp [intOf]; omega
    · rw [List.take_of_length_le (show a.length ≤ k by omega)] at hN
      go_wp2_with fail
      go_loopw [27] (fun i wr => ∃ k : Nat, k ≤ b.length ∧ i = .int .i64 k ∧ SoFar a b k ∧ BlkN wr w.heap.size 72 (fun i : Nat => (cntI a (-1 - (i : Int)) : Int) - (cntI (b.take k) (-1 - (i : Int)) : Int)) ∧ Bel w wr) (fun i _ => b.length - (intOf i).toNat)
      case atStart => exact ⟨0, Nat.zero_le _, rfl, fun n _ => by simp [cntI], by simpa [cntI] using hN, hb1⟩
      case round =>
        clear hN hb1
        obtain ⟨j, hj, rfl, hS, hN, hb2⟩ := hrel
        by_cases hlt2 : j < b.length
        · obtain ⟨b0, off, rfl, -, hcell⟩ := rd hr' hb2 j hlt2
          have hlow := hlb j hlt2
          have E1 := Lib.hid (cntd_neg (t := b) (fun n => (cntI a n : Int)) hlt2)
          have E2 := Lib.hid (cntf_sym hlt2)
          have E3 := Lib.hid (covers_no (a := a) hlt2)
          have E4 := Lib.hid (hS.neg hlt2)
          have E5 := Lib.hid (hS.sym hlt2)
          have hc0 : cntI (b.take j) (b.getD j 0) ≤ 1048576 := Nat.le_trans (cntI_take b j _) (Nat.le_trans (cntI_le b _) hb)
          have hc1 : cntI a (b.getD j 0) ≤ 1048576 := by have := cntI_le a (b.getD j 0); omega
          clear hr hr' hS
          generalize b.getD j 0 = x at *
          by_cases hx : x < 0
          · have hx' : decide (x ≥ 0) = false := by simp; omega
            have hm12 : (-1 - x).toNat < 12 := by omega
            have hi0 : 0 ≤ -1 - x := by omega
            have hi1 : -1 - x < 12 := by omega
            have hcN := hN.cell _ hm12
            have hfN := hN.free (-1 - x).toNat
            have e3 : -1 - (((-1 - x).toNat : Nat) : Int) = x := by omega
            simp only [e3] at hcN
            have E := Lib.hid (E1.out hx)
            clear E1 E2 E5
            generalize hq : cntI (b.take j) x = c at *
            generalize hq2 : cntI a x = d at *
            have hw1 := IntWalk.i64_in ((d : Int) - c - 1) (by omega)
            have hN2 := hN.set _ hm12 ((d : Int) - c - 1)
            have hcN2 := hN2.cell _ hm12
            simp only [if_true] at hcN2
            have HN := Lib.hid hN2
            clear hN hN2
            by_cases hdc : d < c + 1
            · have e1 := Lib.hid (E3.out hx hdc)
              have hd : decide ((d : Int) - c - 1 < 0) = true := by simp; omega
              clear E3 E4 E
              go_wp2_with fail
              go_ret
              exact ⟨by rw [e1.out]; rfl, hb2.setCell (p := ⟨w.heap.size, (-1 - x).toNat, none⟩) (Nat.le_refl _) _⟩
            · have e1 := Lib.hid (E4.out hdc)
              have hd : decide ((d : Int) - c - 1 < 0) = false := by simp; omega
              clear E3 E4
              go_wp2_with fail
              go_roundw
              case rel => exact ⟨j+1, by omega, by go_num, e1.out, by rw [← E.out]; exact HN.out, hb2.setCell (p := ⟨w.heap.size, (-1 - x).toNat, none⟩) (Nat.le_refl _) _⟩
              case measure => simp [intOf]; omega
          · have hx' : decide (x ≥ 0) = true := by simp; omega
            have E := Lib.hid (E2.out hx)
            have e1 := Lib.hid (E5.out hx)
            clear E1 E2 E3 E4 E5
            go_wp2_with fail
            go_roundw
            case rel => exact ⟨j+1, by omega, by go_num, e1.out, by simp only [E.out]; exact hN, hb2⟩
            case measure => simp [intOf]; omega
        · have e1 := Lib.hid (hS.done hlt2)
          clear hS
          go_wp2_with fail
          go_ret
          exact ⟨by rw [e1.out]; rfl, hb2⟩
theorem coversVars_v (l h l' h' : Nat) (v u : Value) (a b : List Int) (q : Bool) (w : World) (he : covers a b = q) (ha : a.length ≤ 1048576) (hb : b.length ≤ 1048576) (hla : lowT a) (hlb : lowT b) (hv : SlI l h w v a) (hu : SlI l' h' w u b) :
    Calls Tryd.prog 28 #[v, u] w (RetV w (.bool q)) := he ▸ coversVars_c l h l' h' v u a b w ha hb hla hlb hv hu

theorem winF_at {a b : List Int} {k : Nat} (h : a.take k = b.take k) (ha : k < a.length) (hb : k < b.length) (hne : a.getD k 0 ≠ b.getD k 0) : winF a b = (decide (0 ≤ b.getD k 0) && decide (b.getD k 0 < a.getD k 0)) := by
  have e1 : a = a.take k ++ a.getD k 0 :: a.drop (k+1) := by simp [List.getD, ha]
  have e2 : b = b.take k ++ b.getD k 0 :: b.drop (k+1) := by simp [List.getD, hb]
  generalize a.getD k 0 = x at *
  generalize b.getD k 0 = y at *
  rw [e1, e2, h, winF_left]
  simp [winF, hne]

set_option maxRecDepth 100000 in
set_option maxHeartbeats 400000 in
theorem winsFirst_c (l h l' h' : Nat) (v u : Value) (xs ys : List Int) (w : World) (hl : xs.length = ys.length) (hx : xs.length ≤ 1048576) (hv : SlI l h w v xs) (hu : SlI l' h' w u ys) :
    Calls Tryd.prog 59 #[v, u] w (RetV w (.bool (winF xs ys))) := by
  obtain ⟨ad, cap, rfl, -, -, hr⟩ := hv
  obtain ⟨ad', cap', rfl, -, -, hr'⟩ := hu
  have HL := Lib.hid hl
  clear hl
  go_enter Tryd.func59, Tryd.ntmps59
  go_wp2_with fail
  go_loopw [8] (fun i wr => ∃ k : Nat, k ≤ xs.length ∧ i = .int .i64 k ∧ xs.take k = ys.take k ∧ Bel w wr) (fun i _ => xs.length - (intOf i).toNat)
  case atStart => exact ⟨0, Nat.zero_le _, rfl, rfl, Bel.rfl' _⟩
  case round =>
    obtain ⟨k, hk, rfl, ha, hb⟩ := hrel
    by_cases hlt : k < xs.length
    · have hlt2 : k < ys.length := by rw [← HL.out]; exact hlt
      obtain ⟨b, off, rfl, -, hcell⟩ := rd hr hb k hlt
      obtain ⟨b', off', rfl, -, hcell'⟩ := rd hr' hb k hlt2
      have E1 := Lib.hid (take_eq_succ xs ys k hlt hlt2 ha)
      have E2 := Lib.hid (winF_at ha hlt hlt2)
      clear hr hr' ha
      generalize xs.getD k 0 = x at *
      generalize ys.getD k 0 = y at *
      by_cases hxy : x = y
      · have E3 := Lib.hid (E1.out hxy)
        clear E1 E2
        subst hxy
        go_wp2_with fail
        go_quiet (fail)
        go_wp2
        go_roundw
        case rel => exact ⟨k+1, by omega, by go_num, E3.out, hb.drewN _⟩
        case measure => simp [intOf]; omega
      · have e1 := Lib.hid (E2.out hxy)
        have hxy' : (x != y) = true := by simpa using hxy
        clear hxy E1 E2
        by_cases h0 : 0 ≤ y
        · by_cases h1 : y < x
          · have d0 : decide (y ≥ 0) = true := by simpa using h0
            have d1 : decide (x > y) = true := by simpa using h1
            have e2 : Hid (winF xs ys = true) := by show _ = _; rw [e1.out]; simp [h0, h1]
            clear e1
            go_wp2_with fail
            go_quiet (fail)
            go_wp2
            go_quiet (fail)
            go_wp2
            go_ret
            exact ⟨by rw [e2.out]; rfl, (hb.drewN _).drewN _⟩
          · have d0 : decide (y ≥ 0) = true := by simpa using h0
            have d1 : decide (x > y) = false := by simp; omega
            have e2 : Hid (winF xs ys = false) := by show _ = _; rw [e1.out]; simp [h1]
            clear e1
            go_wp2_with fail
            go_quiet (fail)
            go_wp2
            go_quiet (fail)
            go_wp2
            go_ret
            exact ⟨by rw [e2.out]; rfl, (hb.drewN _).drewN _⟩
        · have d0 : decide (y ≥ 0) = false := by simp; omega
          have e2 : Hid (winF xs ys = false) := by show _ = _; rw [e1.out]; simp [h0]
          clear e1
          go_wp2_with fail
          go_quiet (fail)
          go_wp2
          go_quiet (fail)
          go_wp2
          go_ret
          exact ⟨by rw [e2.out]; rfl, (hb.drewN _).drewN _⟩
    · have e1 : Hid (winF xs ys = false) := by
        show _ = _
        rw [List.take_of_length_le (by omega), List.take_of_length_le (by rw [← HL.out]; omega)] at ha
        rw [ha, winF_irrefl]
      clear ha
      go_wp2_with fail
      go_ret
      exact ⟨by rw [e1.out]; rfl, hb⟩
end Go.Proofs.YtajmjjandkdhiabDoor
end
