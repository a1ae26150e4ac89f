/- Texts merged, part 6. -/
import Derived.Test.YtikllmdmifecpaaMgApplyClause5
section
/- Apply, IsUnifier: both functions. -/
namespace Go.Proofs.Ytikllmdmifecpaa
open Go.RowKit

def unifAns (ar : List Int) (b : List (List Int)) (t r : List Int) : Bool := applyOk ar b t && applyOk ar b r && decide (applyAns ar b t = applyAns ar b r)

set_option maxRecDepth 100000 in
set_option maxHeartbeats 400000 in
theorem sApply_t {l h l' h' l2 h2 : Nat} {v u x : Value} {ar : List Int} {b : List (List Int)} {t : List Int} {w : World} (ha : ar.length ≤ 1048576) (hv : SlI l h w v ar) (hb : short b) (hu : SlS l' h' w u b) (ht : t.length ≤ 1048576) (hx : SlI l2 h2 w x t) :
    Calls Try.prog 80 #[.agg #[v], u, x] w (RetIB w (applyAns ar b t) (applyOk ar b t)) := by
  cases hs : goodSubst ar b with
  | false =>
    have E := Lib.hid (applyAns_no (show applyOk ar b t = false by simp [applyOk, hs]))
    have E2 : Hid (applyOk ar b t = false) := by show _ = _; simp [applyOk, hs]
    have HS := Lib.hid hs; clear hs
    go_enter Try.func80, Try.ntmps80
    go_wp2_with fail
    refine (sGoodSubst_v _ _ _ _ _ _ _ _ _ _ HS.out ha (hv.alloc _) hb (hu.alloc _)).mono ?_; rintro e w1 ⟨rfl, hb1⟩
    go_wp2_with fail
    go_ret2
    exact ⟨_, _, _, by rw [E2.out]; rfl, by rw [E.out]; exact OwnI.nil _ _ _, hb1.of_alloc⟩
  | true =>
    have hg := (goodSubst_iff.1 hs).1
    cases htt : okTerm ar t with
    | false =>
      have E := Lib.hid (applyAns_no (show applyOk ar b t = false by simp [applyOk, htt]))
      have E2 : Hid (applyOk ar b t = false) := by show _ = _; simp [applyOk, htt]
      have HS := Lib.hid hs
      have HT := Lib.hid htt
      clear hs htt
      go_enter Try.func80, Try.ntmps80
      go_wp2_with fail
      refine (sGoodSubst_v _ _ _ _ _ _ _ _ _ _ HS.out ha (hv.alloc _) hb (hu.alloc _)).mono ?_; rintro e w1 ⟨rfl, hb1⟩
      have hx1 := boxc hb1 0 _ rfl
      go_wp2_with fail
      refine (l1Term_v _ _ _ _ _ _ _ _ _ _ HT.out hg ht (hv.below hb1.of_alloc) (hx.below hb1.of_alloc)).mono ?_; rintro e w2 ⟨rfl, hb2⟩
      go_wp2_with fail
      go_ret2
      exact ⟨_, _, _, by rw [E2.out]; rfl, by rw [E.out]; exact OwnI.nil _ _ _, (hb1.step hb2).of_alloc⟩
    | true =>
      have hlow := okTerm_low htt
      have ht40 := ((okTerm_iff _ _).1 htt).2.1
      have h40 := goodSubst_len40 hs
      have hal := appT_len h40 t
      have h12 := (goodSubst_iff.1 hs).2.1
      have hok := app_ok hs htt
      have HS := Lib.hid hs
      have HT := Lib.hid htt
      cases h4 : app40ok b t with
      | false =>
        have E := Lib.hid (applyAns_no (show applyOk ar b t = false by simp [applyOk, h4]))
        have E2 : Hid (applyOk ar b t = false) := by show _ = _; simp [applyOk, h4]
        have HO := Lib.hid (hok.trans h4)
        clear hs htt h4 hok
        go_enter Try.func80, Try.ntmps80
        go_wp2_with fail
        refine (sGoodSubst_v _ _ _ _ _ _ _ _ _ _ HS.out ha (hv.alloc _) hb (hu.alloc _)).mono ?_; rintro e w1 ⟨rfl, hb1⟩
        have hx1 := boxc hb1 0 _ rfl
        go_wp2_with fail
        refine (l1Term_v _ _ _ _ _ _ _ _ _ _ HT.out hg ht (hv.below hb1.of_alloc) (hx.below hb1.of_alloc)).mono ?_; rintro e w2 ⟨rfl, hb2⟩
        have hb12 := hb1.step hb2
        have hx2 := boxc hb12 0 _ rfl
        go_wp2_with fail
        refine (l2Apply_c _ _ _ _ _ _ b t _ h12 h40 (by omega) hlow (hu.below hb12.of_alloc) (hx.below hb12.of_alloc)).mono ?_; rintro e w3 ⟨ao, no, co, rfl, ho, hb3⟩
        have hb13 := hb12.step hb3
        have hx3 := boxc hb13 0 _ rfl
        go_wp2_with fail
        refine (l1Term_v _ _ _ _ _ _ ar (appT b t) _ _ HO.out hg (by omega) (hv.below hb13.of_alloc) ho.sl).mono ?_; rintro e w4 ⟨rfl, hb4⟩
        go_wp2_with fail
        go_ret2
        exact ⟨_, _, _, by rw [E2.out]; rfl, by rw [E.out]; exact OwnI.nil _ _ _, (hb13.step hb4).of_alloc⟩
      | true =>
        have hyes : applyOk ar b t = true := by simp [applyOk, h4, hs, htt]
        have E := Lib.hid (applyAns_yes hyes)
        have E2 := Lib.hid hyes
        have HO := Lib.hid (hok.trans h4)
        clear hs htt h4 hok hyes
        go_enter Try.func80, Try.ntmps80
        go_wp2_with fail
        refine (sGoodSubst_v _ _ _ _ _ _ _ _ _ _ HS.out ha (hv.alloc _) hb (hu.alloc _)).mono ?_; rintro e w1 ⟨rfl, hb1⟩
        have hx1 := boxc hb1 0 _ rfl
        go_wp2_with fail
        refine (l1Term_v _ _ _ _ _ _ _ _ _ _ HT.out hg ht (hv.below hb1.of_alloc) (hx.below hb1.of_alloc)).mono ?_; rintro e w2 ⟨rfl, hb2⟩
        have hb12 := hb1.step hb2
        have hx2 := boxc hb12 0 _ rfl
        go_wp2_with fail
        refine (l2Apply_c _ _ _ _ _ _ b t _ h12 h40 (by omega) hlow (hu.below hb12.of_alloc) (hx.below hb12.of_alloc)).mono ?_; rintro e w3 ⟨ao, no, co, rfl, ho, hb3⟩
        have hb13 := hb12.step hb3
        have hx3 := boxc hb13 0 _ rfl
        go_wp2_with fail
        refine (l1Term_v _ _ _ _ _ _ ar (appT b t) _ _ HO.out hg (by omega) (hv.below hb13.of_alloc) ho.sl).mono ?_; rintro e w4 ⟨rfl, hb4⟩
        go_wp2_with fail
        go_ret2
        exact ⟨_, _, _, by rw [E2.out]; rfl, by rw [E.out]; exact (ho.mono (by have := hb12.size; simp at this; omega) hb4.size).below hb4, (hb13.step hb4).of_alloc⟩

set_option maxRecDepth 100000 in
set_option maxHeartbeats 400000 in
theorem iApply_t {l h l' h' l2 h2 : Nat} {v u x : Value} {ar : List Int} {b : List (List Int)} {t : List Int} {w : World} (ha : ar.length ≤ 1048576) (hv : SlI l h w v ar) (hb : short b) (hu : SlS l' h' w u b) (ht : t.length ≤ 1048576) (hx : SlI l2 h2 w x t) :
    Calls Try.prog 24 #[.agg #[v], u, x] w (RetIB w (applyAns ar b t) (applyOk ar b t)) := by
  cases hs : goodSubst ar b with
  | false =>
    have E := Lib.hid (applyAns_no (show applyOk ar b t = false by simp [applyOk, hs]))
    have E2 : Hid (applyOk ar b t = false) := by show _ = _; simp [applyOk, hs]
    have HS := Lib.hid hs; clear hs
    go_enter Try.func24, Try.ntmps24
    go_wp2_with fail
    refine (iGoodSubst_v _ _ _ _ _ _ _ _ _ _ HS.out ha (hv.alloc _) hb (hu.alloc _)).mono ?_; rintro e w1 ⟨rfl, hb1⟩
    go_wp2_with fail
    go_ret2
    exact ⟨_, _, _, by rw [E2.out]; rfl, by rw [E.out]; exact OwnI.nil _ _ _, hb1.of_alloc⟩
  | true =>
    have hg := (goodSubst_iff.1 hs).1
    cases htt : okTerm ar t with
    | false =>
      have E := Lib.hid (applyAns_no (show applyOk ar b t = false by simp [applyOk, htt]))
      have E2 : Hid (applyOk ar b t = false) := by show _ = _; simp [applyOk, htt]
      have HS := Lib.hid hs
      have HT := Lib.hid htt
      clear hs htt
      go_enter Try.func24, Try.ntmps24
      go_wp2_with fail
      refine (iGoodSubst_v _ _ _ _ _ _ _ _ _ _ HS.out ha (hv.alloc _) hb (hu.alloc _)).mono ?_; rintro e w1 ⟨rfl, hb1⟩
      have hx1 := boxc hb1 0 _ rfl
      go_wp2_with fail
      refine (iGoodTerm_vv _ _ _ _ _ _ _ _ _ _ HT.out hg ha ht (hv.below hb1.of_alloc) (hx.below hb1.of_alloc)).mono ?_; rintro e w2 ⟨rfl, hb2⟩
      go_wp2_with fail
      go_ret2
      exact ⟨_, _, _, by rw [E2.out]; rfl, by rw [E.out]; exact OwnI.nil _ _ _, (hb1.step hb2).of_alloc⟩
    | true =>
      have hlow := okTerm_low htt
      have ht40 := ((okTerm_iff _ _).1 htt).2.1
      have h40 := goodSubst_len40 hs
      have h12 := (goodSubst_iff.1 hs).2.1
      have E2 : Hid (applyOk ar b t = app40ok b t) := by show _ = _; simp [applyOk, hs, htt]
      have E : Hid (applyAns ar b t = app40 b t) := by
        show _ = _
        have := E2.out
        unfold applyAns
        rw [this]
        unfold app40 app40ok
        by_cases h : 40 < (appT b t).length <;> simp [h]
      have HS := Lib.hid hs
      have HT := Lib.hid htt
      clear hs htt
      go_enter Try.func24, Try.ntmps24
      go_wp2_with fail
      refine (iGoodSubst_v _ _ _ _ _ _ _ _ _ _ HS.out ha (hv.alloc _) hb (hu.alloc _)).mono ?_; rintro e w1 ⟨rfl, hb1⟩
      have hx1 := boxc hb1 0 _ rfl
      go_wp2_with fail
      refine (iGoodTerm_vv _ _ _ _ _ _ _ _ _ _ HT.out hg ha ht (hv.below hb1.of_alloc) (hx.below hb1.of_alloc)).mono ?_; rintro e w2 ⟨rfl, hb2⟩
      have hb12 := hb1.step hb2
      go_wp2_with fail
      refine (applied_c _ _ _ _ _ _ b t _ h12 h40 (by omega) hlow (hu.below hb12.of_alloc) (hx.below hb12.of_alloc)).mono ?_; rintro e w3 ⟨ao, no, co, rfl, ho, hb3⟩
      go_wp2_with fail
      go_ret2
      exact ⟨_, _, _, by rw [E2.out]; rfl, by rw [E.out]; exact ho.mono (by have := hb12.size; simp at this; omega) (Nat.le_refl _), (hb12.step hb3).of_alloc⟩

end Go.Proofs.Ytikllmdmifecpaa
end
section
/- RenameOf: both functions. -/
namespace Go.Proofs.Ytikllmdmifecpaa
open Go.RowKit

def renameOk (ar : List Int) (b : List (List Int)) : Bool := goodSign ar && decide (b.length ≤ 20) && b.all (okTerm ar)
def renameAns (ar : List Int) (b : List (List Int)) : List (List Int) := if renameOk ar b then renS [] b else []
theorem renameAns_no {ar : List Int} {b : List (List Int)} (h : renameOk ar b = false) : renameAns ar b = [] := by simp [renameAns, h]
theorem renameAns_yes {ar : List Int} {b : List (List Int)} (h : renameOk ar b = true) : renameAns ar b = renS [] b := by simp [renameAns, h]
theorem renameOk_iff {ar : List Int} {b : List (List Int)} : renameOk ar b = true ↔ goodSign ar = true ∧ b.length ≤ 20 ∧ ∀ t ∈ b, okTerm ar t = true := by
  simp only [renameOk, Bool.and_eq_true, decide_eq_true_eq, List.all_eq_true]
  constructor
  · rintro ⟨⟨h1, h2⟩, h3⟩; exact ⟨h1, h2, h3⟩
  · rintro ⟨h1, h2, h3⟩; exact ⟨⟨h1, h2⟩, h3⟩
theorem renameOk_rows {ar : List Int} {b : List (List Int)} (h : renameOk ar b = true) : rows40 b := by
  obtain ⟨_, h2, h3⟩ := renameOk_iff.1 h
  refine ⟨h2, fun j hj => ?_⟩
  have ho := h3 (b.getD j []) (by simp [List.getD, hj])
  exact ⟨((okTerm_iff _ _).1 ho).2.1, okTerm_low ho⟩
theorem sumL_le40 (l : List (List Int)) (h : ∀ t ∈ l, t.length ≤ 40) : sumL l ≤ 40 * l.length := by
  unfold sumL
  induction l with
  | nil => simp
  | cons x r ih =>
    have h1 := ih (fun t ht => h t (List.mem_cons_of_mem _ ht))
    have h2 := h x List.mem_cons_self
    simp only [List.map_cons, List.sum_cons, List.length_cons]
    omega
theorem renS_lens (met : List Int) (l : List (List Int)) (h : ∀ t ∈ l, t.length ≤ 40) : ∀ t ∈ renS met l, t.length ≤ 40 := by
  induction l generalizing met with
  | nil => intro t ht; simp [renS] at ht
  | cons x r ih =>
    intro t ht
    simp only [renS, List.mem_cons] at ht
    rcases ht with rfl | ht
    · rw [renT_len]; exact h x List.mem_cons_self
    · exact ih _ (fun t ht => h t (List.mem_cons_of_mem _ ht)) t ht
theorem renameAns_len (ar : List Int) (b : List (List Int)) : tot (renameAns ar b) ≤ 1048576 := by
  unfold renameAns
  split
  · rename_i h
    have hr := renameOk_rows h
    have h1 := sumL_le40 _ (renS_lens [] b hr.mem)
    have h2 := hr.1
    unfold tot
    rw [renS_len] at h1 ⊢
    omega
  · simp [tot, sumL]

end Go.Proofs.Ytikllmdmifecpaa
end
section
/- PartAt, ReplaceAt: both functions. -/
namespace Go.Proofs.Ytikllmdmifecpaa
open Go.RowKit

theorem l1End_v (l h l' h' : Nat) (v u : Value) (ar t : List Int) (i q : Nat) (w : World) (he : endOf ar t i = some q) (hg : goodSign ar = true) (ht : t.length ≤ 1048576) (hi : i ≤ t.length) (hv : SlI l h w v ar) (hu : SlI l' h' w u t) :
    Calls Try.prog 120 #[.agg #[v], u, .int .i64 i] w (RetV w (.int .i64 q)) := endI_some he ▸ l1End_c l h l' h' v u ar t i w hg ht hi hv hu
theorem termEnd_v (l h l' h' : Nat) (v u : Value) (ar t : List Int) (i q : Nat) (w : World) (he : endOf ar t i = some q) (hg : goodSign ar = true) (ht : t.length ≤ 1048576) (hi : i ≤ t.length) (hv : SlI l h w v ar) (hu : SlI l' h' w u t) :
    Calls Try.prog 123 #[.agg #[v], u, .int .i64 i] w (RetV w (.tuple #[.int .i64 q, .bool true])) := endP_some he ▸ termEnd_c l h l' h' v u ar t i w hg ht hi hv hu

theorem l1Part_c (l h l' h' : Nat) (v u : Value) (ar t : List Int) (i q : Nat) (w : World) (hg : goodSign ar = true) (ht : t.length ≤ 1048576) (hi : i < t.length) (he : endOf ar t i = some q) (hq1 : i < q) (hq2 : q ≤ t.length) (hv : SlI l h w v ar) (hu : SlI l' h' w u t) :
    Calls Try.prog 121 #[.agg #[v], u, .int .i64 i] w (RetI w (partOf t i q)) := by
  obtain ⟨b, off, cap, rfl, hcap⟩ := hu.plain (by omega)
  have HE := Lib.hid he
  clear he
  have hpl : (partOf t i q).length ≤ 1048576 := by rw [partOf_len t i q hq2]; omega
  have hq3 : (i : Int) < q := by omega
  have hq4 : (q : Int) ≤ t.length := by omega
  go_enter Try.func121, Try.ntmps121
  go_wp2_with fail
  refine (l1End_v _ _ _ _ _ _ ar t i q _ HE.out hg ht (by omega) (hv.alloc _) (hu.alloc _)).mono ?_; rintro e w1 ⟨rfl, hb1⟩
  go_wp2_with fail
  refine (l1Own_c _ _ _ (partOf t i q) _ hpl ((hu.below hb1.of_alloc).cut i q (by omega) hq2)).mono ?_; rintro e w2 ⟨ad, n, c, rfl, ho, hb2⟩
  go_wp2_with fail
  go_ret
  exact ⟨_, _, _, rfl, ho.mono (by have := hb1.size; simp at this; omega) (Nat.le_refl _), hb1.of_alloc.step hb2⟩

/-- What PartAt answers. -/
def partAns (ar t : List Int) (i : Int) : List Int := if askOk ar t i then partOf t i.toNat ((endOf ar t i.toNat).getD 0) else []
theorem partAns_yes {ar t : List Int} {k q : Nat} (h : askOk ar t k = true) (he : endOf ar t k = some q) : partAns ar t k = partOf t k q := by simp [partAns, h, he]
theorem partAns_len (ar t : List Int) (i : Int) : (partAns ar t i).length ≤ 1048576 := by
  unfold partAns
  split
  · rename_i h
    obtain ⟨k, e, rfl, hk, he, _, hle, hl, _, _⟩ := ask_yes h
    simp only [Int.toNat_natCast, he, Option.getD_some]
    rw [partOf_len t k e hle]
    omega
  · exact Nat.zero_le _

theorem replaced_len_le (t r : List Int) (i q : Nat) (ht : t.length ≤ 1048576) (hr : r.length ≤ 1048576) : (replaced t i q r).length ≤ 1099511627776 := by
  simp [replaced]; omega

end Go.Proofs.Ytikllmdmifecpaa
end
section
/- CountOf, ShiftVars: both functions. -/
namespace Go.Proofs.Ytikllmdmifecpaa
open Go.RowKit

def cntI (t : List Int) (n : Int) : Nat := (t.filter (· == n)).length
theorem cntI_le (t : List Int) (n : Int) : cntI t n ≤ t.length := List.length_filter_le _ _
theorem cntI_yes (t : List Int) (n : Int) (k : Nat) (hk : k < t.length) (h : t.getD k 0 = n) : cntI (t.take (k+1)) n = cntI (t.take k) n + 1 := by
  unfold cntI
  rw [List.take_succ_eq_append_getElem hk, List.filter_append, List.length_append]
  have : (t[k] == n) = true := by simp [List.getD, hk] at h; simp [h]
  simp [this]
theorem cntI_no (t : List Int) (n : Int) (k : Nat) (hk : k < t.length) (h : t.getD k 0 ≠ n) : cntI (t.take (k+1)) n = cntI (t.take k) n := by
  unfold cntI
  rw [List.take_succ_eq_append_getElem hk, List.filter_append, List.length_append]
  have : (t[k] == n) = false := by simp [List.getD, hk] at h; simp [h]
  simp [this]

def countAns (ar t : List Int) (n : Int) : Int := if goodTerm ar t then cntI t n else 0
theorem count_no {ar t : List Int} {n : Int} (h : goodTerm ar t = false) : countAns ar t n = 0 := by simp [countAns, h]
theorem count_yes {ar t : List Int} {n : Int} (h : goodTerm ar t = true) : countAns ar t n = cntI t n := by simp [countAns, h]

/-! ### ShiftVars -/
def shiftOne (d x : Int) : Int := if x < 0 then x - d else x
def shifted (t : List Int) (d : Int) : List Int := t.map (shiftOne d)
def mapDone (f : Int → Int) (t : List Int) (k : Nat) : List Int := (t.take k).map f ++ t.drop k
theorem mapDone_zero (f : Int → Int) (t : List Int) : mapDone f t 0 = t := by simp [mapDone]
theorem mapDone_len (f : Int → Int) (t : List Int) (k : Nat) : (mapDone f t k).length = t.length := by simp [mapDone]; omega
theorem mapDone_get (f : Int → Int) (t : List Int) (k : Nat) (h : k < t.length) : (mapDone f t k).getD k 0 = t.getD k 0 := by
  unfold mapDone
  have hl : ((t.take k).map f).length = k := by simp; omega
  simp only [List.getD]
  rw [List.getElem?_append_right (by omega), hl, Nat.sub_self]
  simp
theorem mapDone_succ (f : Int → Int) (t : List Int) (k : Nat) (h : k < t.length) : (mapDone f t k).set k (f (t.getD k 0)) = mapDone f t (k+1) := by
  unfold mapDone
  have hl : ((t.take k).map f).length = k := by simp; omega
  rw [List.set_append_right _ _ (by omega), hl, Nat.sub_self, List.drop_eq_getElem_cons h, List.set_cons_zero, List.take_succ_eq_append_getElem h, List.map_append, List.append_assoc]
  simp [List.getD, h]
theorem mapDone_same (f : Int → Int) (t : List Int) (k : Nat) (h : k < t.length) (e : f (t.getD k 0) = t.getD k 0) : mapDone f t k = mapDone f t (k+1) := by
  have h1 : k < (mapDone f t k).length := by rw [mapDone_len]; exact h
  have h2 : t.getD k 0 = (mapDone f t k)[k] := by rw [← mapDone_get f t k h]; simp [List.getD, h1]
  rw [← mapDone_succ f t k h, e, h2, List.set_getElem_self]
theorem mapDone_all (f : Int → Int) (t : List Int) (k : Nat) (h : ¬ k < t.length) : mapDone f t k = t.map f := by
  unfold mapDone; rw [List.take_of_length_le (by omega), List.drop_eq_nil_of_le (by omega), List.append_nil]

/-- The cell, the mark and the next state at a place of a slice of the call's own. -/
theorem OwnI.at {lo hi : Nat} {w : World} {ad : Option Addr} {n c : Nat} {xs : List Int} (h : OwnI lo hi w (.slice ad n c) xs) (j : Nat) (hj : j < xs.length) :
    ∃ b off, ad = some ⟨b, off, none⟩ ∧ lo ≤ b ∧ b < hi ∧ w.cell? ⟨b, off + j, none⟩ = some (.int .i64 (xs.getD j 0)) ∧ w.frozen? ⟨b, off + j, none⟩ = false ∧
      ∀ x : Int, OwnI lo hi (w.setCell ⟨b, off + j, none⟩ (.int .i64 x)) (.slice (some ⟨b, off, none⟩) n c) (xs.set j x) := by
  have h0 := h
  obtain ⟨⟨ad', cap, e, hc, hm, hr⟩, hf⟩ := h
  obtain ⟨b, off, rfl, a1, a2, a3⟩ := hr (by omega)
  simp only [Value.slice.injEq] at e
  obtain ⟨rfl, rfl, rfl⟩ := e
  exact ⟨b, off, rfl, a1, a2, a3 j hj, hf b off _ _ rfl (by omega) j, fun x => h0.stored j hj x⟩

set_option maxRecDepth 100000 in
theorem l1Shift_c (l h : Nat) (v : Value) (t : List Int) (d : Nat) (w : World) (ht : t.length ≤ 1048576) (hd : d ≤ 12) (hb12 : ∀ k, k < t.length → -12 ≤ t.getD k 0) (hv : SlI l h w v t) :
    Calls Try.prog 136 #[v, .int .i64 d] w (RetI w (shifted t d)) := by
  go_enter Try.func136, Try.ntmps136
  go_wp2_with fail
  refine (l1Own_c _ _ _ t _ ht hv).mono ?_; rintro e w1 ⟨ad, n, c, rfl, ho, hb⟩
  obtain rfl : n = t.length := by obtain ⟨_, _, e, _⟩ := ho.1; simp at e; exact e.2.1
  go_wp2_with fail
  go_loopw [12] (fun i wr => ∃ k : Nat, k ≤ t.length ∧ i = .int .i64 k ∧ OwnI w.heap.size w1.heap.size wr (.slice ad t.length c) (mapDone (shiftOne d) t k) ∧ Bel w wr ∧ w1.heap.size ≤ wr.heap.size) (fun i _ => t.length - (intOf i).toNat)
  case atStart => exact ⟨0, Nat.zero_le _, rfl, by rw [mapDone_zero]; exact ho, hb, Nat.le_refl _⟩
  case round =>
    obtain ⟨k, hk, rfl, hown, hbr, hsz⟩ := hrel
    by_cases hlt : k < t.length
    · obtain ⟨b, off, rfl, a1, a2, hcell, hfr, hst⟩ := hown.at k (by rw [mapDone_len]; exact hlt)
      rw [mapDone_get _ _ _ hlt] at hcell
      have hx12 := hb12 k hlt
      have E1 := Lib.hid (mapDone_succ (shiftOne d) t k hlt)
      have E2 := Lib.hid (mapDone_same (shiftOne d) t k hlt)
      have HST := Lib.hid hst
      have HO := Lib.hid hown
      clear hst hown hb12
      generalize t.getD k 0 = x at *
      by_cases hx : x < 0
      · have hbs := hbr.set (p := ⟨b, off + k, none⟩) a1 (.int .i64 (x - d))
        go_wp2_with fail
        go_roundw
        case rel => exact ⟨k+1, by omega, by go_num, by rw [← E1.out, show shiftOne d x = x - d from if_pos hx]; exact HST.out _, hbs, by simpa using hsz⟩
        case measure => simp [intOf]; omega
      · go_wp2_with fail
        go_roundw
        case rel => exact ⟨k+1, by omega, by go_num, by rw [← E2.out (if_neg hx)]; exact HO.out, hbr, hsz⟩
        case measure => simp [intOf]; omega
    · rw [mapDone_all _ _ _ hlt] at hown
      go_wp2_with fail
      go_ret
      exact ⟨_, _, _, rfl, hown.mono (Nat.le_refl _) hsz, hbr⟩

def shiftOk (ar t : List Int) (d : Int) : Bool := goodTerm ar t && inB d 0 12 && okTerm ar (shifted t d)
def shiftAns (ar t : List Int) (d : Int) : List Int := if shiftOk ar t d then shifted t d else []
theorem shifted_len (t : List Int) (d : Int) : (shifted t d).length = t.length := by simp [shifted]
theorem shiftAns_len (ar t : List Int) (d : Int) : (shiftAns ar t d).length ≤ 1048576 := by
  unfold shiftAns
  split
  · rename_i h
    simp only [shiftOk, Bool.and_eq_true] at h
    have := ((okTerm_iff _ _).1 h.2).2.1
    omega
  · exact Nat.zero_le _
theorem shift_no {ar t : List Int} {d : Int} (h : shiftOk ar t d = false) : shiftAns ar t d = [] := by simp [shiftAns, h]
theorem shift_yes {ar t : List Int} {d : Int} (h : shiftOk ar t d = true) : shiftAns ar t d = shifted t d := by simp [shiftAns, h]
theorem good_low {ar t : List Int} (h : goodTerm ar t = true) : t.length ≤ 40 ∧ ∀ k, k < t.length → -12 ≤ t.getD k 0 := by
  obtain ⟨_, h2⟩ := goodTerm_iff.1 h
  refine ⟨((okTerm_iff _ _).1 h2).2.1, fun k hk => ?_⟩
  have := good_sym ar t h2 k hk
  simp [okSym, inB] at this
  simp only [List.getD]
  omega

set_option maxRecDepth 100000 in
set_option maxHeartbeats 1000000 in
theorem iShiftVars_t {l h l' h' : Nat} {v u : Value} {ar t : List Int} {w : World} (ha : ar.length ≤ 1048576) (hv : SlI l h w v ar) (ht : t.length ≤ 1048576) (hu : SlI l' h' w u t) {i : Int} (_ : -9223372036854775808 ≤ i) (_ : i ≤ 9223372036854775807) :
    Calls Try.prog 139 #[.agg #[v], u, .int .i64 i] w (RetIB w (shiftAns ar t i) (shiftOk ar t i)) := by
  cases hs : goodTerm ar t with
  | false =>
    have h0 : shiftOk ar t i = false := by simp [shiftOk, hs]
    have E := Lib.hid (shift_no h0)
    have E2 := Lib.hid h0
    have HS := Lib.hid hs; clear hs h0
    go_enter Try.func139, Try.ntmps139
    go_wp2_with fail
    refine (iGoodTerm_v _ _ _ _ _ _ _ _ _ _ HS.out ha ht (hv.alloc _) (hu.alloc _)).mono ?_; rintro e w' ⟨rfl, hb1⟩
    go_wp2_with fail
    go_ret2
    exact ⟨_, _, _, by rw [E2.out]; rfl, by rw [E.out]; exact OwnI.nil _ _ _, hb1.of_alloc⟩
  | true =>
    have HS := Lib.hid hs
    by_cases hi0 : i < 0
    · have h0 : shiftOk ar t i = false := by simp [shiftOk, inB]; omega
      have E := Lib.hid (shift_no h0)
      have E2 := Lib.hid h0
      clear hs h0
      go_enter Try.func139, Try.ntmps139
      go_wp2_with fail
      refine (iGoodTerm_v _ _ _ _ _ _ _ _ _ _ HS.out ha ht (hv.alloc _) (hu.alloc _)).mono ?_; rintro e w' ⟨rfl, hb1⟩
      go_wp2_with fail
      go_ret2
      exact ⟨_, _, _, by rw [E2.out]; rfl, by rw [E.out]; exact OwnI.nil _ _ _, hb1.of_alloc⟩
    · by_cases hi1 : 12 < i
      · have h0 : shiftOk ar t i = false := by simp [shiftOk, inB]; omega
        have E := Lib.hid (shift_no h0)
        have E2 := Lib.hid h0
        clear hs h0
        go_enter Try.func139, Try.ntmps139
        go_wp2_with fail
        refine (iGoodTerm_v _ _ _ _ _ _ _ _ _ _ HS.out ha ht (hv.alloc _) (hu.alloc _)).mono ?_; rintro e w' ⟨rfl, hb1⟩
        go_wp2_with fail
        go_ret2
        exact ⟨_, _, _, by rw [E2.out]; rfl, by rw [E.out]; exact OwnI.nil _ _ _, hb1.of_alloc⟩
      · obtain ⟨k, rfl⟩ : ∃ k : Nat, i = k := ⟨i.toNat, by omega⟩
        have hd : inB k 0 12 = true := by simp [inB]; omega
        obtain ⟨hl40, hlow⟩ := good_low hs
        have h0 : shiftOk ar t k = goodTerm ar (shifted t k) := by
          show (goodTerm ar t && inB k 0 12 && okTerm ar (shifted t k)) = (goodSign ar && okTerm ar (shifted t k))
          rw [hs, hd, (goodTerm_iff.1 hs).1]; rfl
        have hsl := shifted_len t k
        have hsl2 : (shifted t k).length ≤ 1048576 := by omega
        have E : Hid (shiftAns ar t k = if goodTerm ar (shifted t k) then shifted t k else []) := by show _ = _; rw [← h0]; rfl
        have E2 := Lib.hid h0
        have HLOW := Lib.hid hlow
        have HSL := Lib.hid hsl
        clear hs hd h0 hsl hlow
        cases hok : goodTerm ar (shifted t k)
        all_goals
          have HOK := Lib.hid hok
          clear hok
          go_enter Try.func139, Try.ntmps139
          go_wp2_with fail
          refine (iGoodTerm_v _ _ _ _ _ _ _ _ _ _ HS.out ha ht (hv.alloc _) (hu.alloc _)).mono ?_; rintro e w1 ⟨rfl, hb1⟩
          go_wp2_with fail
          refine (clone_c _ _ _ t _ ht (hu.below hb1.of_alloc)).mono ?_; rintro e w2 ⟨ad, n, c, rfl, ho, hb2⟩
          obtain rfl : n = t.length := by obtain ⟨_, _, e, _⟩ := ho.1; simp at e; exact e.2.1
          have hb12 := hb1.step hb2
          have hz1 := hb1.size
          simp only [World.size_alloc] at hz1
          go_wp2_with fail
          go_loopw [27] (fun i wr => ∃ j : Nat, j ≤ t.length ∧ i = .int .i64 j ∧ OwnI w1.heap.size w2.heap.size wr (.slice ad t.length c) (mapDone (shiftOne k) t j) ∧ Bel (w.alloc (.cells #[v] 29)) wr ∧ w2.heap.size ≤ wr.heap.size) (fun i _ => t.length - (intOf i).toNat)
          case atStart => exact ⟨0, Nat.zero_le _, rfl, by rw [mapDone_zero]; exact ho, hb12, Nat.le_refl _⟩
          case round =>
            obtain ⟨j, hj, rfl, hown, hbr, hsz⟩ := hrel
            have hxr := boxc hbr 0 _ rfl
            by_cases hlt : j < t.length
            · obtain ⟨b, off, rfl, a1, a2, hcell, hfr, hst⟩ := hown.at j (by rw [mapDone_len]; exact hlt)
              rw [mapDone_get _ _ _ hlt] at hcell
              have hx12 := HLOW.out j hlt
              have E5 := Lib.hid (mapDone_succ (shiftOne k) t j hlt)
              have E6 := Lib.hid (mapDone_same (shiftOne k) t j hlt)
              have HST := Lib.hid hst
              have HO := Lib.hid hown
              clear hst hown
              generalize t.getD j 0 = x at *
              by_cases hx : x < 0
              · have hbs := hbr.set (p := ⟨b, off + j, none⟩) (by simp; omega) (.int .i64 (x - k))
                go_wp2_with fail
                go_roundw
                case rel => exact ⟨j+1, by omega, by go_num, by rw [← E5.out, show shiftOne k x = x - k from if_pos hx]; exact HST.out _, hbs, by simpa using hsz⟩
                case measure => simp [intOf]; omega
              · go_wp2_with fail
                go_roundw
                case rel => exact ⟨j+1, by omega, by go_num, by rw [← E6.out (if_neg hx)]; exact HO.out, hbr, hsz⟩
                case measure => simp [intOf]; omega
            · rw [mapDone_all _ _ _ hlt] at hown
              go_wp2_with fail
              refine (iGoodTerm_v _ _ _ _ _ _ ar (shifted t k) _ _ HOK.out ha hsl2 (hv.below hbr.of_alloc) hown.sl).mono ?_; rintro e w4 ⟨rfl, hb4⟩
              go_wp2_with fail
              go_ret2
              refine ⟨_, _, _, by rw [E2.out, HOK.out]; rfl, ?_, hbr.of_alloc.step hb4⟩
              rw [E.out, HOK.out]
              first | exact OwnI.nil _ _ _ | exact (hown.mono (by omega) (Nat.le_trans hsz hb4.size)).below hb4
end Go.Proofs.Ytikllmdmifecpaa
end
