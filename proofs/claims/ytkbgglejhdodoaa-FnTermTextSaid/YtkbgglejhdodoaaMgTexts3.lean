/- Texts merged, part 3. -/
import Derived.Test.YtkbgglejhdodoaaMgTexts2
section
namespace Go.Proofs.Ytkbgglejhdodoaa
open Go.RowKit

/-- The table of depths: forty numbers, those from k on are done. -/
def DepTab (ar t : List Int) (w : World) (B k : Nat) : Prop :=
  B < w.heap.size ∧ (∀ j, j < 40 → ∃ x : Int, w.cell? ⟨B, j, none⟩ = some (.int .i64 x) ∧ w.frozen? ⟨B, j, none⟩ = false) ∧ ∀ j, k ≤ j → j < t.length → w.cell? ⟨B, j, none⟩ = some (.int .i64 (depthAt ar t j))

theorem tab_new (ar t : List Int) (w : World) (T : TypeId) (cs : Array Value) (hcs : cs = Array.replicate 40 (.int .i64 0)) : DepTab ar t (w.alloc (.cells cs T)) w.heap.size t.length := by
  subst hcs
  refine ⟨by simp, fun j hj => ⟨0, ?_, ?_⟩, fun j h1 h2 => by omega⟩
  · rw [World.cell?_alloc_new w]; simp [hj]
  · exact World.frozen?_alloc_at _ _ _ _ rfl
theorem DepTab.below {ar t : List Int} {w w' : World} {B k : Nat} (h : DepTab ar t w B k) (hb : Bel w w') : DepTab ar t w' B k := by
  obtain ⟨h1, h2, h3⟩ := h
  refine ⟨Nat.lt_of_lt_of_le h1 hb.size, fun j hj => ?_, fun j a b => hb.at h1 (h3 j a b)⟩
  obtain ⟨x, e1, e2⟩ := h2 j hj
  exact ⟨x, hb.at h1 e1, (hb.frozen (p := ⟨B, j, none⟩) h1).trans e2⟩
theorem DepTab.store {ar t : List Int} {w : World} {B k : Nat} (h : DepTab ar t w B (k+1)) (hk : k < 40) : DepTab ar t (w.setCell ⟨B, k, none⟩ (.int .i64 (depthAt ar t k))) B k := by
  obtain ⟨h1, h2, h3⟩ := h
  obtain ⟨x, e1, e2⟩ := h2 k hk
  have hne : ∀ j, j ≠ k → (⟨B, k, none⟩ : Addr) ≠ ⟨B, j, none⟩ := by intro j h1 h2; simp only [Addr.mk.injEq, and_true, true_and] at h2; omega
  refine ⟨by simpa using h1, fun j hj => ?_, fun j a b => ?_⟩
  · by_cases e : j = k
    · subst e; exact ⟨_, World.cell?_setCell_same _ _ _ e1, by rw [World.frozen?_setCell]; exact e2⟩
    · obtain ⟨y, f1, f2⟩ := h2 j hj
      exact ⟨y, by rw [World.cell?_setCell_other (h := hne j e)]; exact f1, by rw [World.frozen?_setCell]; exact f2⟩
  · by_cases e : j = k
    · subst e; exact World.cell?_setCell_same _ _ _ e1
    · rw [World.cell?_setCell_other (h := hne j e)]; exact h3 j (by omega) b

end Go.Proofs.Ytkbgglejhdodoaa
end
section
/- Replaced: what replacing does. -/
namespace Go.Proofs.Ytkbgglejhdodoaa
open Go.RowKit

theorem repl_part {ar t : List Int} {z : Int} (h : askOk ar t z = true) :
    replOk ar t z (partAns ar t z) = true ∧ replAns ar t z (partAns ar t z) = t ∧ endN ar t z = z + (partAns ar t z).length ∧ goodTerm ar (partAns ar t z) = true ∧ (partAns ar t z).length ≤ 40 := by
  obtain ⟨k, e, rfl, hk, he, hke, het, h40, hg, hok⟩ := ask_yes h
  have hp := partAns_yes h he
  have hpo := partOf_ok ar t k e hok hk he
  have hlen := partOf_len t k e het
  have hre : replIn ar t k (partOf t k e) = t := by rw [replIn_eq he, replaced_self t k e (by omega)]
  have hro : replOk ar t k (partOf t k e) = true := by unfold replOk; rw [h, hpo, hre, hok]; rfl
  rw [hp]
  refine ⟨hro, by rw [repl_yes hro, hre], ?_, by unfold goodTerm; rw [hg, hpo]; rfl, by omega⟩
  have : endN ar t k = e := by simp [endN, h, endI, he]
  rw [this]
  omega
theorem part_repl {ar t u : List Int} {z : Int} (h : replOk ar t z u = true) :
    askOk ar (replAns ar t z u) z = true ∧ partAns ar (replAns ar t z u) z = u ∧ ((replAns ar t z u).length : Int) = t.length - (partAns ar t z).length + u.length := by
  have h0 := h
  unfold replOk at h0
  simp only [Bool.and_eq_true] at h0
  obtain ⟨⟨ha, hu⟩, hr⟩ := h0
  obtain ⟨k, e, rfl, hk, he, hke, het, h40, hg, hok⟩ := ask_yes ha
  have hp := partAns_yes ha he
  have hlen := partOf_len t k e het
  have hre := replIn_eq (ar := ar) (u := u) he
  have hr2 : okTerm ar (replaced t k e u) = true := by rw [← hre]; exact hr
  rw [repl_yes h, hre]
  have hrl := replaced_len t u k e (by omega) het
  have hu1 := ((okTerm_iff ar u).1 hu).1
  have hask : askOk ar (replaced t k e u) k = true := askOk_iff.2 ⟨by unfold goodTerm; rw [hg, hr2]; rfl, by omega, by omega⟩
  have hdrop : (replaced t k e u).drop k = u ++ t.drop e := by
    unfold replaced
    rw [List.append_assoc]
    have : (t.take k).length = k := by simp; omega
    rw [List.drop_append_of_le_length (by omega), List.drop_eq_nil_of_le (by omega), List.nil_append]
  have hend : endOf ar (replaced t k e u) k = some (k + u.length) := by
    unfold endOf
    rw [hdrop]
    have h4 := ((okTerm_iff ar u).1 hu).2.2
    unfold endOf at h4
    rw [List.drop_zero] at h4
    have h5 := endGo_shift ar (u ++ t.drop e) 1 0 k
    rw [Nat.zero_add, endGo_ext ar u _ _ _ _ h4] at h5
    rw [h5]; simp; omega
  refine ⟨hask, ?_, by rw [hrl, hp, hlen]; omega⟩
  rw [partAns_yes hask hend]
  unfold partOf
  rw [hdrop, show k + u.length - k = u.length by omega, List.take_left']
  rfl
theorem depthAns_le (ar t : List Int) : depthAns ar t ≤ t.length := by
  unfold depthAns
  split
  · have := depthAt_le ar t 0; omega
  · omega
end Go.Proofs.Ytkbgglejhdodoaa
end
section
/- CountOf, ShiftVars: both functions. -/
namespace Go.Proofs.Ytkbgglejhdodoaa
open Go.RowKit

def cntI (t : List Int) (n : Int) : Nat := (t.filter (· == n)).length
theorem cntI_le (t : List Int) (n : Int) : cntI t n ≤ t.length := List.length_filter_le _ _
theorem cntI_yes (t : List Int) (n : Int) (k : Nat) (hk : k < t.length) (h : t.getD k 0 = n) : cntI (t.take (k+1)) n = cntI (t.take k) n + 1 := by
  unfold cntI
  rw [List.take_succ_eq_append_getElem hk, List.filter_append, List.length_append]
  have : (t[k] == n) = true := by simp [List.getD, hk] at h; simp [h]
  simp [List.filter_cons, this]
theorem cntI_no (t : List Int) (n : Int) (k : Nat) (hk : k < t.length) (h : t.getD k 0 ≠ n) : cntI (t.take (k+1)) n = cntI (t.take k) n := by
  unfold cntI
  rw [List.take_succ_eq_append_getElem hk, List.filter_append, List.length_append]
  have : (t[k] == n) = false := by simp [List.getD, hk] at h; simp [h]
  simp [List.filter_cons, this]

def countAns (ar t : List Int) (n : Int) : Int := if goodTerm ar t then cntI t n else 0
theorem count_no {ar t : List Int} {n : Int} (h : goodTerm ar t = false) : countAns ar t n = 0 := by simp [countAns, h]
theorem count_yes {ar t : List Int} {n : Int} (h : goodTerm ar t = true) : countAns ar t n = cntI t n := by simp [countAns, h]

/-! ### ShiftVars -/
def shiftOne (d x : Int) : Int := if x < 0 then x - d else x
def shifted (t : List Int) (d : Int) : List Int := t.map (shiftOne d)
def mapDone (f : Int → Int) (t : List Int) (k : Nat) : List Int := (t.take k).map f ++ t.drop k
theorem mapDone_zero (f : Int → Int) (t : List Int) : mapDone f t 0 = t := by simp [mapDone]
theorem mapDone_len (f : Int → Int) (t : List Int) (k : Nat) : (mapDone f t k).length = t.length := by simp [mapDone]; omega
theorem mapDone_get (f : Int → Int) (t : List Int) (k : Nat) (h : k < t.length) : (mapDone f t k).getD k 0 = t.getD k 0 := by
  unfold mapDone
  have hl : ((t.take k).map f).length = k := by simp; omega
  simp only [List.getD]
  rw [List.getElem?_append_right (by omega), hl, Nat.sub_self]
  simp
theorem mapDone_succ (f : Int → Int) (t : List Int) (k : Nat) (h : k < t.length) : (mapDone f t k).set k (f (t.getD k 0)) = mapDone f t (k+1) := by
  unfold mapDone
  have hl : ((t.take k).map f).length = k := by simp; omega
  rw [List.set_append_right _ _ (by omega), hl, Nat.sub_self, List.drop_eq_getElem_cons h, List.set_cons_zero, List.take_succ_eq_append_getElem h, List.map_append, List.append_assoc]
  simp [List.getD, h]
theorem mapDone_same (f : Int → Int) (t : List Int) (k : Nat) (h : k < t.length) (e : f (t.getD k 0) = t.getD k 0) : mapDone f t k = mapDone f t (k+1) := by
  have h1 : k < (mapDone f t k).length := by rw [mapDone_len]; exact h
  have h2 : t.getD k 0 = (mapDone f t k)[k] := by rw [← mapDone_get f t k h]; simp [List.getD, h1]
  rw [← mapDone_succ f t k h, e, h2, List.set_getElem_self]
theorem mapDone_all (f : Int → Int) (t : List Int) (k : Nat) (h : ¬ k < t.length) : mapDone f t k = t.map f := by
  unfold mapDone; rw [List.take_of_length_le (by omega), List.drop_eq_nil_of_le (by omega), List.append_nil]

/-- The cell, the mark and the next state at a place of a slice of the call's own. -/
theorem OwnI.at {lo hi : Nat} {w : World} {ad : Option Addr} {n c : Nat} {xs : List Int} (h : OwnI lo hi w (.slice ad n c) xs) (j : Nat) (hj : j < xs.length) :
    ∃ b off, ad = some ⟨b, off, none⟩ ∧ lo ≤ b ∧ b < hi ∧ w.cell? ⟨b, off + j, none⟩ = some (.int .i64 (xs.getD j 0)) ∧ w.frozen? ⟨b, off + j, none⟩ = false ∧
      ∀ x : Int, OwnI lo hi (w.setCell ⟨b, off + j, none⟩ (.int .i64 x)) (.slice (some ⟨b, off, none⟩) n c) (xs.set j x) := by
  have h0 := h
  obtain ⟨⟨ad', cap, e, hc, hm, hr⟩, hf⟩ := h
  obtain ⟨b, off, rfl, a1, a2, a3⟩ := hr (by omega)
  simp only [Value.slice.injEq] at e
  obtain ⟨rfl, rfl, rfl⟩ := e
  exact ⟨b, off, rfl, a1, a2, a3 j hj, hf b off _ _ rfl (by omega) j, fun x => h0.stored j hj x⟩

set_option maxRecDepth 100000 in
theorem l1Shift_c (l h : Nat) (v : Value) (t : List Int) (d : Nat) (w : World) (ht : t.length ≤ 1048576) (hd : d ≤ 12) (hb12 : ∀ k, k < t.length → -12 ≤ t.getD k 0) (hv : SlI l h w v t) :
    Calls Try.prog 75 #[v, .int .i64 d] w (RetI w (shifted t d)) := by
  go_enter Try.func75, Try.ntmps75
  go_wp2_with fail
  refine (l1Own_c _ _ _ t _ ht hv).mono ?_; rintro e w1 ⟨ad, n, c, rfl, ho, hb⟩
  obtain rfl : n = t.length := by obtain ⟨_, _, e, _⟩ := ho.1; simp at e; exact e.2.1
  go_wp2_with fail
  go_loopw [12] (fun i wr => ∃ k : Nat, k ≤ t.length ∧ i = .int .i64 k ∧ OwnI w.heap.size w1.heap.size wr (.slice ad t.length c) (mapDone (shiftOne d) t k) ∧ Bel w wr ∧ w1.heap.size ≤ wr.heap.size) (fun i _ => t.length - (intOf i).toNat)
  case atStart => exact ⟨0, Nat.zero_le _, rfl, by rw [mapDone_zero]; exact ho, hb, Nat.le_refl _⟩
  case round =>
    obtain ⟨k, hk, rfl, hown, hbr, hsz⟩ := hrel
    by_cases hlt : k < t.length
    · obtain ⟨b, off, rfl, a1, a2, hcell, hfr, hst⟩ := hown.at k (by rw [mapDone_len]; exact hlt)
      rw [mapDone_get _ _ _ hlt] at hcell
      have hx12 := hb12 k hlt
      have E1 := Lib.hid (mapDone_succ (shiftOne d) t k hlt)
      have E2 := Lib.hid (mapDone_same (shiftOne d) t k hlt)
      have HST := Lib.hid hst
      have HO := Lib.hid hown
      clear hst hown hb12
      generalize t.getD k 0 = x at *
      by_cases hx : x < 0
      · have hbs := hbr.set (p := ⟨b, off + k, none⟩) a1 (.int .i64 (x - d))
        go_wp2_with fail
        go_roundw
        case rel => exact ⟨k+1, by omega, by go_num, by rw [← E1.out, show shiftOne d x = x - d from if_pos hx]; exact HST.out _, hbs, by simpa using hsz⟩
        case measure => simp [intOf]; omega
      · go_wp2_with fail
        go_roundw
        case rel => exact ⟨k+1, by omega, by go_num, by rw [← E2.out (if_neg hx)]; exact HO.out, hbr, hsz⟩
        case measure => simp [intOf]; omega
    · rw [mapDone_all _ _ _ hlt] at hown
      go_wp2_with fail
      go_ret
      exact ⟨_, _, _, rfl, hown.mono (Nat.le_refl _) hsz, hbr⟩

def shiftOk (ar t : List Int) (d : Int) : Bool := goodTerm ar t && inB d 0 12 && okTerm ar (shifted t d)
def shiftAns (ar t : List Int) (d : Int) : List Int := if shiftOk ar t d then shifted t d else []
theorem shifted_len (t : List Int) (d : Int) : (shifted t d).length = t.length := by simp [shifted]
theorem shiftAns_len (ar t : List Int) (d : Int) : (shiftAns ar t d).length ≤ 1048576 := by
  unfold shiftAns
  split
  · rename_i h
    simp only [shiftOk, Bool.and_eq_true] at h
    have := ((okTerm_iff _ _).1 h.2).2.1
    omega
  · exact Nat.zero_le _
theorem shift_no {ar t : List Int} {d : Int} (h : shiftOk ar t d = false) : shiftAns ar t d = [] := by simp [shiftAns, h]
theorem shift_yes {ar t : List Int} {d : Int} (h : shiftOk ar t d = true) : shiftAns ar t d = shifted t d := by simp [shiftAns, h]
theorem good_low {ar t : List Int} (h : goodTerm ar t = true) : t.length ≤ 40 ∧ ∀ k, k < t.length → -12 ≤ t.getD k 0 := by
  obtain ⟨_, h2⟩ := goodTerm_iff.1 h
  refine ⟨((okTerm_iff _ _).1 h2).2.1, fun k hk => ?_⟩
  have := good_sym ar t h2 k hk
  simp [okSym, inB] at this
  simp only [List.getD]
  omega

theorem sShiftVars_t {l h l' h' : Nat} {v u : Value} {ar t : List Int} {w : World} (ha : ar.length ≤ 1048576) (hv : SlI l h w v ar) (ht : t.length ≤ 1048576) (hu : SlI l' h' w u t) {i : Int} (_ : -9223372036854775808 ≤ i) (_ : i ≤ 9223372036854775807) :
    Calls Try.prog 37 #[.agg #[v], u, .int .i64 i] w (RetIB w (shiftAns ar t i) (shiftOk ar t i)) := by
  cases hs : goodTerm ar t with
  | false =>
    have h0 : shiftOk ar t i = false := by simp [shiftOk, hs]
    have E := Lib.hid (shift_no h0)
    have E2 := Lib.hid h0
    have HS := Lib.hid hs; clear hs h0
    go_enter Try.func37, Try.ntmps37
    go_wp2_with fail
    refine (sGoodTerm_v _ _ _ _ _ _ _ _ _ _ HS.out ha ht (hv.alloc _) (hu.alloc _)).mono ?_; rintro e w' ⟨rfl, hb1⟩
    go_wp2_with fail
    go_ret2
    exact ⟨_, _, _, by rw [E2.out]; rfl, by rw [E.out]; exact OwnI.nil _ _ _, hb1.of_alloc⟩
  | true =>
    have HS := Lib.hid hs
    cases hd : inB i 0 12 with
    | false =>
      have h0 : shiftOk ar t i = false := by simp [shiftOk, hd]
      have E := Lib.hid (shift_no h0)
      have E2 := Lib.hid h0
      have HD := Lib.hid hd; clear hd hs h0
      go_enter Try.func37, Try.ntmps37
      go_wp2_with fail
      refine (sGoodTerm_v _ _ _ _ _ _ _ _ _ _ HS.out ha ht (hv.alloc _) (hu.alloc _)).mono ?_; rintro e w' ⟨rfl, hb1⟩
      go_wp2_with fail
      refine (l1In_f _ _ _ _ HD.out).mono ?_; rintro e w2 ⟨rfl, hb2⟩
      go_wp2_with fail
      go_ret2
      exact ⟨_, _, _, by rw [E2.out]; rfl, by rw [E.out]; exact OwnI.nil _ _ _, hb1.of_alloc.step hb2⟩
    | true =>
      obtain ⟨k, rfl⟩ : ∃ k : Nat, i = k := ⟨i.toNat, by simp [inB] at hd; omega⟩
      have hk : k ≤ 12 := by simp [inB] at hd; omega
      obtain ⟨hl40, hlow⟩ := good_low hs
      have HD := Lib.hid hd
      have h0 : shiftOk ar t k = okTerm ar (shifted t k) := by simp [shiftOk, hs, hd]
      have hg := (goodTerm_iff.1 hs).1
      have hsl := shifted_len t k
      have hsl2 : (shifted t k).length ≤ 1048576 := by omega
      have E : Hid (shiftAns ar t k = if okTerm ar (shifted t k) then shifted t k else []) := by show _ = _; rw [← h0]; rfl
      have E2 := Lib.hid h0
      have HLOW := Lib.hid hlow
      clear hs hd h0 hsl hlow
      have hc := fun a b c d => l1Term_c a b c d
      cases hok : okTerm ar (shifted t k)
      all_goals
        have HOK := Lib.hid hok
        clear hok hc
        go_enter Try.func37, Try.ntmps37
        go_wp2_with fail
        refine (sGoodTerm_v _ _ _ _ _ _ _ _ _ _ HS.out ha ht (hv.alloc _) (hu.alloc _)).mono ?_; rintro e w1 ⟨rfl, hb1⟩
        have hx1 := boxc hb1 0 _ rfl
        go_wp2_with fail
        refine (l1In_t _ _ _ _ HD.out).mono ?_; rintro e w2 ⟨rfl, hb2⟩
        have hx2 := boxc (hb1.step hb2) 0 _ rfl
        have hb12 := hb1.of_alloc.step hb2
        go_wp2_with fail
        refine (l1Shift_c _ _ _ t k _ ht hk HLOW.out (hu.below hb12)).mono ?_; rintro e w3 ⟨ad, n, c, rfl, ho, hb3⟩
        have hx3 := boxc ((hb1.step hb2).step hb3) 0 _ rfl
        go_wp2_with fail
        refine (l1Term_v _ _ _ _ _ _ ar (shifted t k) _ _ HOK.out hg hsl2 (hv.below (hb12.step hb3)) ho.sl).mono ?_; rintro e w4 ⟨rfl, hb4⟩
        go_wp2_with fail
        go_ret2
        refine ⟨_, _, _, by rw [E2.out, HOK.out]; rfl, ?_, (hb12.step hb3).step hb4⟩
        rw [E.out, HOK.out]
        first | exact OwnI.nil _ _ _ | exact (ho.mono (by have := hb12.size; omega) hb4.size).below hb4

set_option maxRecDepth 100000 in
set_option maxHeartbeats 1000000 in
theorem iShiftVars_t {l h l' h' : Nat} {v u : Value} {ar t : List Int} {w : World} (ha : ar.length ≤ 1048576) (hv : SlI l h w v ar) (ht : t.length ≤ 1048576) (hu : SlI l' h' w u t) {i : Int} (_ : -9223372036854775808 ≤ i) (_ : i ≤ 9223372036854775807) :
    Calls Try.prog 36 #[.agg #[v], u, .int .i64 i] w (RetIB w (shiftAns ar t i) (shiftOk ar t i)) := by
  cases hs : goodTerm ar t with
  | false =>
    have h0 : shiftOk ar t i = false := by simp [shiftOk, hs]
    have E := Lib.hid (shift_no h0)
    have E2 := Lib.hid h0
    have HS := Lib.hid hs; clear hs h0
    go_enter Try.func36, Try.ntmps36
    go_wp2_with fail
    refine (iGoodTerm_v _ _ _ _ _ _ _ _ _ _ HS.out ha ht (hv.alloc _) (hu.alloc _)).mono ?_; rintro e w' ⟨rfl, hb1⟩
    go_wp2_with fail
    go_ret2
    exact ⟨_, _, _, by rw [E2.out]; rfl, by rw [E.out]; exact OwnI.nil _ _ _, hb1.of_alloc⟩
  | true =>
    have HS := Lib.hid hs
    by_cases hi0 : i < 0
    · have h0 : shiftOk ar t i = false := by simp [shiftOk, inB]; omega
      have E := Lib.hid (shift_no h0)
      have E2 := Lib.hid h0
      clear hs h0
      go_enter Try.func36, Try.ntmps36
      go_wp2_with fail
      refine (iGoodTerm_v _ _ _ _ _ _ _ _ _ _ HS.out ha ht (hv.alloc _) (hu.alloc _)).mono ?_; rintro e w' ⟨rfl, hb1⟩
      go_wp2_with fail
      go_ret2
      exact ⟨_, _, _, by rw [E2.out]; rfl, by rw [E.out]; exact OwnI.nil _ _ _, hb1.of_alloc⟩
    · by_cases hi1 : 12 < i
      · have h0 : shiftOk ar t i = false := by simp [shiftOk, inB]; omega
        have E := Lib.hid (shift_no h0)
        have E2 := Lib.hid h0
        clear hs h0
        go_enter Try.func36, Try.ntmps36
        go_wp2_with fail
        refine (iGoodTerm_v _ _ _ _ _ _ _ _ _ _ HS.out ha ht (hv.alloc _) (hu.alloc _)).mono ?_; rintro e w' ⟨rfl, hb1⟩
        go_wp2_with fail
        go_ret2
        exact ⟨_, _, _, by rw [E2.out]; rfl, by rw [E.out]; exact OwnI.nil _ _ _, hb1.of_alloc⟩
      · obtain ⟨k, rfl⟩ : ∃ k : Nat, i = k := ⟨i.toNat, by omega⟩
        have hd : inB k 0 12 = true := by simp [inB]; omega
        obtain ⟨hl40, hlow⟩ := good_low hs
        have h0 : shiftOk ar t k = goodTerm ar (shifted t k) := by
          show (goodTerm ar t && inB k 0 12 && okTerm ar (shifted t k)) = (goodSign ar && okTerm ar (shifted t k))
          rw [hs, hd, (goodTerm_iff.1 hs).1]; rfl
        have hsl := shifted_len t k
        have hsl2 : (shifted t k).length ≤ 1048576 := by omega
        have E : Hid (shiftAns ar t k = if goodTerm ar (shifted t k) then shifted t k else []) := by show _ = _; rw [← h0]; rfl
        have E2 := Lib.hid h0
        have HLOW := Lib.hid hlow
        have HSL := Lib.hid hsl
        clear hs hd h0 hsl hlow
        cases hok : goodTerm ar (shifted t k)
        all_goals
          have HOK := Lib.hid hok
          clear hok
          go_enter Try.func36, Try.ntmps36
          go_wp2_with fail
          refine (iGoodTerm_v _ _ _ _ _ _ _ _ _ _ HS.out ha ht (hv.alloc _) (hu.alloc _)).mono ?_; rintro e w1 ⟨rfl, hb1⟩
          go_wp2_with fail
          refine (clone_c _ _ _ t _ ht (hu.below hb1.of_alloc)).mono ?_; rintro e w2 ⟨ad, n, c, rfl, ho, hb2⟩
          obtain rfl : n = t.length := by obtain ⟨_, _, e, _⟩ := ho.1; simp at e; exact e.2.1
          have hb12 := hb1.step hb2
          have hz1 := hb1.size
          simp only [World.size_alloc] at hz1
          go_wp2_with fail
          go_loopw [27] (fun i wr => ∃ j : Nat, j ≤ t.length ∧ i = .int .i64 j ∧ OwnI w1.heap.size w2.heap.size wr (.slice ad t.length c) (mapDone (shiftOne k) t j) ∧ Bel (w.alloc (.cells #[v] 28)) wr ∧ w2.heap.size ≤ wr.heap.size) (fun i _ => t.length - (intOf i).toNat)
          case atStart => exact ⟨0, Nat.zero_le _, rfl, by rw [mapDone_zero]; exact ho, hb12, Nat.le_refl _⟩
          case round =>
            obtain ⟨j, hj, rfl, hown, hbr, hsz⟩ := hrel
            have hxr := boxc hbr 0 _ rfl
            by_cases hlt : j < t.length
            · obtain ⟨b, off, rfl, a1, a2, hcell, hfr, hst⟩ := hown.at j (by rw [mapDone_len]; exact hlt)
              rw [mapDone_get _ _ _ hlt] at hcell
              have hx12 := HLOW.out j hlt
              have E5 := Lib.hid (mapDone_succ (shiftOne k) t j hlt)
              have E6 := Lib.hid (mapDone_same (shiftOne k) t j hlt)
              have HST := Lib.hid hst
              have HO := Lib.hid hown
              clear hst hown
              generalize t.getD j 0 = x at *
              by_cases hx : x < 0
              · have hbs := hbr.set (p := ⟨b, off + j, none⟩) (by simp; omega) (.int .i64 (x - k))
                go_wp2_with fail
                go_roundw
                case rel => exact ⟨j+1, by omega, by go_num, by rw [← E5.out, show shiftOne k x = x - k from if_pos hx]; exact HST.out _, hbs, by simpa using hsz⟩
                case measure => simp [intOf]; omega
              · go_wp2_with fail
                go_roundw
                case rel => exact ⟨j+1, by omega, by go_num, by rw [← E6.out (if_neg hx)]; exact HO.out, hbr, hsz⟩
                case measure => simp [intOf]; omega
            · rw [mapDone_all _ _ _ hlt] at hown
              go_wp2_with fail
              refine (iGoodTerm_v _ _ _ _ _ _ ar (shifted t k) _ _ HOK.out ha hsl2 (hv.below hbr.of_alloc) hown.sl).mono ?_; rintro e w4 ⟨rfl, hb4⟩
              go_wp2_with fail
              go_ret2
              refine ⟨_, _, _, by rw [E2.out, HOK.out]; rfl, ?_, hbr.of_alloc.step hb4⟩
              rw [E.out, HOK.out]
              first | exact OwnI.nil _ _ _ | exact (hown.mono (by omega) (Nat.le_trans hsz hb4.size)).below hb4
end Go.Proofs.Ytkbgglejhdodoaa
end
section
/- VarsOf: both functions. -/
namespace Go.Proofs.Ytkbgglejhdodoaa
open Go.RowKit

/-- Twelve bools. -/
def arr (f : Nat → Bool) : Array Value := #[.bool (f 0), .bool (f 1), .bool (f 2), .bool (f 3), .bool (f 4), .bool (f 5), .bool (f 6), .bool (f 7), .bool (f 8), .bool (f 9), .bool (f 10), .bool (f 11)]
def anyB (f : Nat → Bool) : Bool := f 0 || f 1 || f 2 || f 3 || f 4 || f 5 || f 6 || f 7 || f 8 || f 9 || f 10 || f 11
theorem arr_set (f : Nat → Bool) (j : Nat) (b : Bool) (h : j < 12) : (arr f).setIfInBounds j (.bool b) = arr (fun i => if i = j then b else f i) := by
  match j, h with
  | 0, _ => rfl
  | 1, _ => rfl
  | 2, _ => rfl
  | 3, _ => rfl
  | 4, _ => rfl
  | 5, _ => rfl
  | 6, _ => rfl
  | 7, _ => rfl
  | 8, _ => rfl
  | 9, _ => rfl
  | 10, _ => rfl
  | 11, _ => rfl
theorem arr_get (f : Nat → Bool) (j : Nat) (h : j < 12) : (arr f)[j]? = some (.bool (f j)) := by
  match j, h with
  | 0, _ => rfl
  | 1, _ => rfl
  | 2, _ => rfl
  | 3, _ => rfl
  | 4, _ => rfl
  | 5, _ => rfl
  | 6, _ => rfl
  | 7, _ => rfl
  | 8, _ => rfl
  | 9, _ => rfl
  | 10, _ => rfl
  | 11, _ => rfl

def BlkIs (w : World) (B : Nat) (T : TypeId) (f : Nat → Bool) : Prop := w.heap[B]? = some (.cells (arr f) T (0, 0))
theorem BlkIs.cell {w : World} {B : Nat} {T : TypeId} {f : Nat → Bool} (h : BlkIs w B T f) (j : Nat) (hj : j < 12) : w.cell? ⟨B, j, none⟩ = some (.bool (f j)) := by
  unfold BlkIs at h
  simp [World.cell?, h, arr_get f j hj]
theorem BlkIs.free {w : World} {B : Nat} {T : TypeId} {f : Nat → Bool} (h : BlkIs w B T f) (j : Nat) : w.frozen? ⟨B, j, none⟩ = false := by
  unfold BlkIs at h
  simp [World.frozen?, h]
theorem BlkIs.lt {w : World} {B : Nat} {T : TypeId} {f : Nat → Bool} (h : BlkIs w B T f) : B < w.heap.size := (Array.getElem?_eq_some_iff.1 h).1
theorem BlkIs.bel {w w' : World} {B : Nat} {T : TypeId} {f : Nat → Bool} (h : BlkIs w B T f) (hb : Bel w w') : BlkIs w' B T f := (hb.block B h.lt).trans h
theorem BlkIs.set {w : World} {B : Nat} {T : TypeId} {f : Nat → Bool} (h : BlkIs w B T f) (j : Nat) (hj : j < 12) (b : Bool) : BlkIs (w.setCell ⟨B, j, none⟩ (.bool b)) B T (fun i => if i = j then b else f i) := by
  have hlt := h.lt
  have h' : w.heap[B] = .cells (arr f) T (0, 0) := by unfold BlkIs at h; simpa [Array.getElem?_eq_getElem hlt] using h
  show (w.heap.modify B _)[B]? = _
  rw [Array.getElem?_eq_getElem (by simpa using hlt), Array.getElem_modify_self, h']
  simp [arr_set f j b hj]
theorem BlkIs.other {w : World} {B : Nat} {T : TypeId} {f : Nat → Bool} (h : BlkIs w B T f) {p : Addr} (hp : p.block ≠ B) (v : Value) : BlkIs (w.setCell p v) B T f :=
  (Below.heap_setCell w p v B (by omega)).trans h

/-- .. while a row of the call's own, behind it, has grown. -/
theorem blk_grown {w w' : World} {o : Obj} {B : Nat} {T e : TypeId} {f : Nat → Bool} {v : Value} {n sz : Nat} {xs : List Value} (h : BlkIs w B T f) (hown : w.ownsRow (B + 1) e sz v n xs) (hg : (w.alloc o).grownBy w' v.ownBlock) : BlkIs w' B T f := by
  have hlt := h.lt
  refine (hg.block B (by simp; omega) (fun e => ?_)).trans ((Below.heap_alloc w o B hlt).trans h)
  have := own_base hown B e.symm
  omega
def mk (t : List Int) (j : Nat) : Bool := decide ((-1 - (j : Int)) ∈ t)
theorem mk_step (t : List Int) (k m : Nat) (hk : k < t.length) (hx : t.getD k 0 = -1 - (m : Int)) : (fun i => if i = m then true else mk (t.take k) i) = mk (t.take (k+1)) := by
  funext i
  unfold mk
  rw [List.take_succ_eq_append_getElem hk]
  have e : t[k] = -1 - (m : Int) := by simpa [List.getD, hk] using hx
  rw [e]
  by_cases h : i = m
  · subst h; simp
  · rw [if_neg h]
    have : (-1 - (i : Int)) ≠ -1 - (m : Int) := by omega
    simp [this]
theorem mk_skip (t : List Int) (k : Nat) (hk : k < t.length) (hx : 0 ≤ t.getD k 0) : mk (t.take k) = mk (t.take (k+1)) := by
  funext i
  unfold mk
  rw [List.take_succ_eq_append_getElem hk]
  have e : 0 ≤ t[k] := by simpa [List.getD, hk] using hx
  have h1 : (-1 - (i : Int)) ≠ t[k] := by omega
  have h2 : (-1 - (i : Int) ∈ t.take k) ↔ (-1 - (i : Int) ∈ t.take k ++ [t[k]]) := by
    rw [List.mem_append, List.mem_singleton]
    exact ⟨Or.inl, fun h => h.resolve_right h1⟩
  exact decide_eq_decide.2 h2

theorem results_cell_one {fn : Func} {p : Tmp} {ty : TypeId} (h : fn.results = #[.cell p ty]) (tmps : Array Value) (P : Program) (w : World) :
    (results fn tmps).run P w = ((asAddr (tmps.getD p undef)).run P w).andThen fun a w₁ => (loadVar ty a).run P w₁ := by
  simp only [results, h]
  simp [Sem.run_bind, Result.andThen]
theorem arr_all (f : Nat → Bool) : (arr f).all (·.oneCell') = true := by simp [arr, Value.oneCell']
theorem zero12 : (#[.bool false, .bool false, .bool false, .bool false, .bool false, .bool false, .bool false, .bool false, .bool false, .bool false, .bool false, .bool false] : Array Value) = arr (fun _ => false) := rfl

/-- From v on what is left of f. -/
def leftF (f : Nat → Bool) (v j : Nat) : Bool := f j && decide (v ≤ j)
def varsTo (f : Nat → Bool) (v : Nat) : List Nat := (List.range v).filter f
theorem varsTo_succ (f : Nat → Bool) (v : Nat) : varsTo f (v + 1) = if f v then varsTo f v ++ [v] else varsTo f v := by
  unfold varsTo
  rw [List.range_succ, List.filter_append]
  by_cases h : f v <;> simp [List.filter_cons, h]
theorem left_zero (f : Nat → Bool) : leftF f 0 = f := by funext j; simp [leftF]
theorem left_clear (f : Nat → Bool) (v : Nat) : (fun i => if i = v then false else leftF f v i) = leftF f (v + 1) := by
  funext i
  unfold leftF
  by_cases h : i = v
  · subst h; simp
  · rw [if_neg h]
    congr 1
    rw [decide_eq_decide]; omega
theorem left_skip (f : Nat → Bool) (v : Nat) (h : f v = false) : leftF f v = leftF f (v + 1) := by
  rw [← left_clear]
  funext i
  by_cases e : i = v
  · subst e; simp [leftF, h]
  · rw [if_neg e]
theorem anyB_iff (f : Nat → Bool) : anyB f = true ↔ ∃ j, j < 12 ∧ f j = true := by
  constructor
  · intro h
    simp only [anyB, Bool.or_eq_true] at h
    rcases h with ((((((((((( h | h) | h) | h) | h) | h) | h) | h) | h) | h) | h) | h)
    · exact ⟨0, by omega, h⟩
    · exact ⟨1, by omega, h⟩
    · exact ⟨2, by omega, h⟩
    · exact ⟨3, by omega, h⟩
    · exact ⟨4, by omega, h⟩
    · exact ⟨5, by omega, h⟩
    · exact ⟨6, by omega, h⟩
    · exact ⟨7, by omega, h⟩
    · exact ⟨8, by omega, h⟩
    · exact ⟨9, by omega, h⟩
    · exact ⟨10, by omega, h⟩
    · exact ⟨11, by omega, h⟩
  · rintro ⟨j, hj, h⟩
    match j, hj with
    | 0, _ => simp [anyB, h]
    | 1, _ => simp [anyB, h]
    | 2, _ => simp [anyB, h]
    | 3, _ => simp [anyB, h]
    | 4, _ => simp [anyB, h]
    | 5, _ => simp [anyB, h]
    | 6, _ => simp [anyB, h]
    | 7, _ => simp [anyB, h]
    | 8, _ => simp [anyB, h]
    | 9, _ => simp [anyB, h]
    | 10, _ => simp [anyB, h]
    | 11, _ => simp [anyB, h]
theorem left_some {f : Nat → Bool} {v : Nat} (h : anyB (leftF f v) = true) : v < 12 := by
  obtain ⟨j, hj, h1⟩ := (anyB_iff _).1 h
  simp [leftF] at h1
  omega
theorem left_none {f : Nat → Bool} {v : Nat} (h : anyB (leftF f v) = false) (hv : v ≤ 12) : varsTo f v = varsTo f 12 := by
  have hz : ∀ j, v ≤ j → j < 12 → f j = false := by
    intro j h1 h2
    cases hf : f j with
    | false => rfl
    | true =>
      have : anyB (leftF f v) = true := (anyB_iff _).2 ⟨j, h2, by simp [leftF, hf, h1]⟩
      rw [h] at this; simp at this
  have : ∀ n, v + n ≤ 12 → varsTo f (v + n) = varsTo f v := by
    intro n
    induction n with
    | zero => intro _; rfl
    | succ n ih =>
      intro hn
      rw [show v + (n + 1) = (v + n) + 1 from rfl, varsTo_succ, hz (v + n) (by omega) (by omega), if_neg (by simp), ih (by omega)]
  have h2 := this (12 - v) (by omega)
  rw [show v + (12 - v) = 12 from by omega] at h2
  exact h2.symm
theorem varsTo_len (f : Nat → Bool) (v : Nat) : (varsTo f v).length ≤ v := by
  have := List.length_filter_le f (List.range v)
  simpa [varsTo] using this

def varsAns (ar t : List Int) : List Int := if goodTerm ar t then natsI (varsTo (mk t) 12) else []
theorem varsAns_len (ar t : List Int) : (varsAns ar t).length ≤ 1048576 := by
  unfold varsAns
  split
  · rw [natsI_len]; exact Nat.le_trans (varsTo_len _ _) (by omega)
  · exact Nat.zero_le _
theorem vars_no {ar t : List Int} (h : goodTerm ar t = false) : varsAns ar t = [] := by simp [varsAns, h]
theorem vars_yes {ar t : List Int} (h : goodTerm ar t = true) : varsAns ar t = natsI (varsTo (mk t) 12) := by simp [varsAns, h]
theorem low_of_good {ar t : List Int} (h : goodTerm ar t = true) : ∀ k, k < t.length → -12 ≤ t.getD k 0 := by
  intro k hk
  have := good_sym ar t (goodTerm_iff.1 h).2 k hk
  simp [okSym, inB] at this
  simp only [List.getD]
  omega

end Go.Proofs.Ytkbgglejhdodoaa
end
section
/- VarsOf: the reference's side. -/
namespace Go.Proofs.Ytkbgglejhdodoaa
open Go.RowKit

def setF (f : Nat → Bool) (m : Nat) (i : Nat) : Bool := if i = m then true else f i
def tailF (f : Nat → Bool) (m : Nat) : List Nat := ((List.range 12).drop (m + 1)).filter f
theorem tail_gt {f : Nat → Bool} {m x : Nat} (h : x ∈ tailF f m) : m < x := by
  unfold tailF at h
  have h1 := (List.mem_filter.1 h).1
  rw [List.mem_iff_getElem?] at h1
  obtain ⟨i, hi⟩ := h1
  rw [List.getElem?_drop] at hi
  have h2 := (List.getElem?_eq_some_iff.1 hi)
  obtain ⟨h3, h4⟩ := h2
  simp at h4
  omega
theorem vars_split (f : Nat → Bool) (m : Nat) (h : m < 12) : varsTo f 12 = varsTo f m ++ (if f m then m :: tailF f m else tailF f m) := by
  unfold varsTo tailF
  conv => lhs; rw [← List.take_append_drop m (List.range 12)]
  rw [List.filter_append, List.take_range, Nat.min_eq_left (by omega), List.drop_eq_getElem_cons (by simpa using h), List.filter_cons]
  simp
theorem vars_lt {f : Nat → Bool} {m x : Nat} (h : x ∈ varsTo f m) : x < m := by
  unfold varsTo at h
  have := (List.mem_filter.1 h).1
  simpa using this
theorem set_to (f : Nat → Bool) (m : Nat) : varsTo (setF f m) m = varsTo f m := by
  unfold varsTo
  apply List.filter_congr
  intro x hx
  have : x < m := by simpa using hx
  unfold setF; rw [if_neg (by omega)]
theorem set_tail (f : Nat → Bool) (m : Nat) : tailF (setF f m) m = tailF f m := by
  unfold tailF
  apply List.filter_congr
  intro x hx
  have : m < x := by
    rw [List.mem_iff_getElem?] at hx
    obtain ⟨i, hi⟩ := hx
    rw [List.getElem?_drop] at hi
    obtain ⟨h3, h4⟩ := (List.getElem?_eq_some_iff.1 hi)
    simp at h4
    omega
  unfold setF; rw [if_neg (by omega)]
theorem set_vars (f : Nat → Bool) (m : Nat) (h : m < 12) : varsTo (setF f m) 12 = varsTo f m ++ m :: tailF f m := by
  rw [vars_split _ m h, set_to, set_tail, if_pos (by simp [setF])]
theorem set_same (f : Nat → Bool) (m : Nat) (h : f m = true) : setF f m = f := by
  funext i
  unfold setF
  by_cases e : i = m
  · subst e; rw [if_pos rfl, h]
  · rw [if_neg e]

theorem own_fix {w : World} {base e n n' : Nat} {v : Value} {vs : List Value} {xs : List Int} (hn : n' = n) (hx : vs = xs.map (Value.int .i64)) (h : w.ownsRow base e 1 v n' vs) : w.ownsRow base e 1 v n (xs.map (Value.int .i64)) := by subst hn hx; exact h
/-- A slice of ints: one's own from lo on. -/
def RetO (lo : Nat) (w : World) (xs : List Int) (e : Ending) (w' : World) : Prop := ∃ ad n c, e = .returned (.slice ad n c) ∧ OwnI lo w'.heap.size w' (.slice ad n c) xs ∧ Bel w w'

theorem nget (l : List Nat) (k : Nat) (h : k < l.length) : (natsI l).getD k 0 = (l.getD k 0 : Nat) := by simp [natsI, List.getD, h]

end Go.Proofs.Ytkbgglejhdodoaa
end
section
namespace Go.Proofs.Ytkbgglejhdodoaa
open Go.RowKit

theorem put_empty {f : Nat → Bool} {m : Nat} (hm : m < 12) (h : varsTo f 12 = []) : natsI (varsTo (setF f m) 12) = [(m : Int)] := by
  have h1 := vars_split f m hm
  rw [h] at h1
  have h2 := List.append_eq_nil_iff.1 h1.symm
  have h3 : tailF f m = [] := by
    have := h2.2
    split at this
    · simp at this
    · exact this
  rw [set_vars f m hm, h2.1, h3]; rfl
theorem put_some (f : Nat → Bool) (m : Nat) (hm : m < 12) : 0 < (varsTo (setF f m) 12).length := by rw [set_vars f m hm]; simp; omega

end Go.Proofs.Ytkbgglejhdodoaa
end
