/- CountOf, ShiftVars: both functions. -/
import Derived.Test.YtngdhpelnjckjaaPart
namespace Go.Proofs.Ytngdhpelnjckjaa
open Go.RowKit

def cntI (t : List Int) (n : Int) : Nat := (t.filter (· == n)).length
theorem cntI_le (t : List Int) (n : Int) : cntI t n ≤ t.length := List.length_filter_le _ _
theorem cntI_yes (t : List Int) (n : Int) (k : Nat) (hk : k < t.length) (h : t.getD k 0 = n) : cntI (t.take (k+1)) n = cntI (t.take k) n + 1 := by
  unfold cntI
  rw [List.take_succ_eq_append_getElem hk, List.filter_append, List.length_append]
  have : (t[k] == n) = true := by simp [List.getD, hk] at h; simp [h]
  simp [List.filter_cons, this]
theorem cntI_no (t : List Int) (n : Int) (k : Nat) (hk : k < t.length) (h : t.getD k 0 ≠ n) : cntI (t.take (k+1)) n = cntI (t.take k) n := by
  unfold cntI
  rw [List.take_succ_eq_append_getElem hk, List.filter_append, List.length_append]
  have : (t[k] == n) = false := by simp [List.getD, hk] at h; simp [h]
  simp [List.filter_cons, this]

theorem l1Count_c (l h : Nat) (v : Value) (t : List Int) (n : Int) (w : World) (ht : t.length ≤ 1048576) (hv : SlI l h w v t) :
    Calls Try.prog 103 #[v, .int .i64 n] w (RetV w (.int .i64 (cntI t n))) := by
  obtain ⟨ad, cap, rfl, -, -, hr⟩ := hv
  go_enter Try.func103, Try.ntmps103
  go_wp2_with fail
  go_loop [5, 10] (fun m i => ∃ k : Nat, k ≤ t.length ∧ i = .int .i64 k ∧ m = .int .i64 (cntI (t.take k) n)) (fun _ i => t.length - (intOf i).toNat)
  case atStart => exact ⟨0, Nat.zero_le _, rfl, rfl⟩
  case round =>
    obtain ⟨k, hk, rfl, rfl⟩ := hrel
    have hle : cntI (t.take k) n ≤ k := by have := cntI_le (t.take k) n; simp at this; omega
    by_cases hlt : k < t.length
    · obtain ⟨b, off, rfl, -, hcell⟩ := rd hr (Bel.rfl' w) k hlt
      have E1 := Lib.hid (cntI_yes t n k hlt)
      have E2 := Lib.hid (cntI_no t n k hlt)
      clear hr
      generalize t.getD k 0 = x at *
      generalize cntI (t.take k) n = m at *
      by_cases hx : x = n
      · have E := Lib.hid (E1.out hx)
        have hx' : (x == n) = true := by simpa using hx
        clear hx E1 E2
        go_wp2_with fail
        go_round
        case rel => exact ⟨k+1, by omega, by go_num, by rw [E.out]; go_num⟩
        case measure => simp [intOf]; omega
      · have E := Lib.hid (E2.out hx)
        have hx' : (x == n) = false := by simpa using hx
        clear hx E1 E2
        go_wp2_with fail
        go_round
        case rel => exact ⟨k+1, by omega, by go_num, by rw [E.out]⟩
        case measure => simp [intOf]; omega
    · have E := Lib.hid (show t.take k = t from List.take_of_length_le (by omega))
      go_wp2_with fail
      go_ret
      exact ⟨by rw [E.out]; rfl, Bel.rfl' _⟩

def countAns (ar t : List Int) (n : Int) : Int := if goodTerm ar t then cntI t n else 0
theorem count_no {ar t : List Int} {n : Int} (h : goodTerm ar t = false) : countAns ar t n = 0 := by simp [countAns, h]
theorem count_yes {ar t : List Int} {n : Int} (h : goodTerm ar t = true) : countAns ar t n = cntI t n := by simp [countAns, h]

theorem sCountOf_t {l h l' h' : Nat} {v u : Value} {ar t : List Int} {w : World} (ha : ar.length ≤ 1048576) (hv : SlI l h w v ar) (ht : t.length ≤ 1048576) (hu : SlI l' h' w u t) {i : Int} (_ : -9223372036854775808 ≤ i) (_ : i ≤ 9223372036854775807) :
    Calls Try.prog 34 #[.agg #[v], u, .int .i64 i] w (RetV w (.tuple #[.int .i64 (countAns ar t i), .bool (goodTerm ar t)])) := by
  cases hs : goodTerm ar t with
  | false =>
    have E := Lib.hid (count_no (n := i) hs)
    have HS := Lib.hid hs; clear hs
    go_enter Try.func34, Try.ntmps34
    go_wp2_with fail
    refine (sGoodTerm_v _ _ _ _ _ _ _ _ _ _ HS.out ha ht (hv.alloc _) (hu.alloc _)).mono ?_; rintro e w' ⟨rfl, hb1⟩
    go_wp2_with fail
    go_ret2
    exact ⟨by rw [E.out]; rfl, hb1.of_alloc⟩
  | true =>
    have E := Lib.hid (count_yes (n := i) hs)
    have HS := Lib.hid hs; clear hs
    go_enter Try.func34, Try.ntmps34
    go_wp2_with fail
    refine (sGoodTerm_v _ _ _ _ _ _ _ _ _ _ HS.out ha ht (hv.alloc _) (hu.alloc _)).mono ?_; rintro e w' ⟨rfl, hb1⟩
    go_wp2_with fail
    refine (l1Count_c _ _ _ t i _ ht (hu.below hb1.of_alloc)).mono ?_; rintro e w2 ⟨rfl, hb2⟩
    go_wp2_with fail
    go_ret2
    exact ⟨by rw [E.out]; rfl, hb1.of_alloc.step hb2⟩

theorem iCountOf_t {l h l' h' : Nat} {v u : Value} {ar t : List Int} {w : World} (ha : ar.length ≤ 1048576) (hv : SlI l h w v ar) (ht : t.length ≤ 1048576) (hu : SlI l' h' w u t) {i : Int} (_ : -9223372036854775808 ≤ i) (_ : i ≤ 9223372036854775807) :
    Calls Try.prog 33 #[.agg #[v], u, .int .i64 i] w (RetV w (.tuple #[.int .i64 (countAns ar t i), .bool (goodTerm ar t)])) := by
  have hu0 := hu
  obtain ⟨ad, cap, rfl, -, -, hr⟩ := hu
  cases hs : goodTerm ar t with
  | false =>
    have E := Lib.hid (count_no (n := i) hs)
    have HS := Lib.hid hs; clear hs hr
    go_enter Try.func33, Try.ntmps33
    go_wp2_with fail
    refine (iGoodTerm_v _ _ _ _ _ _ _ _ _ _ HS.out ha ht (hv.alloc _) (hu0.alloc _)).mono ?_; rintro e w' ⟨rfl, hb1⟩
    go_wp2_with fail
    go_ret2
    exact ⟨by rw [E.out]; rfl, hb1.of_alloc⟩
  | true =>
    have EE := Lib.hid (count_yes (n := i) hs)
    have HS := Lib.hid hs; clear hs
    go_enter Try.func33, Try.ntmps33
    go_wp2_with fail
    refine (iGoodTerm_v _ _ _ _ _ _ _ _ _ _ HS.out ha ht (hv.alloc _) (hu0.alloc _)).mono ?_; rintro e w1 ⟨rfl, hb1⟩
    go_wp2_with fail
    go_loop [8, 17] (fun m j => ∃ k : Nat, k ≤ t.length ∧ j = .int .i64 k ∧ m = .int .i64 (cntI (t.take k) i)) (fun _ j => t.length - (intOf j).toNat)
    case atStart => exact ⟨0, Nat.zero_le _, rfl, rfl⟩
    case round =>
      obtain ⟨k, hk, rfl, rfl⟩ := hrel
      have hle : cntI (t.take k) i ≤ k := by have := cntI_le (t.take k) i; simp at this; omega
      by_cases hlt : k < t.length
      · obtain ⟨b, off, rfl, -, hcell⟩ := rd hr hb1.of_alloc k hlt
        have E1 := Lib.hid (cntI_yes t i k hlt)
        have E2 := Lib.hid (cntI_no t i k hlt)
        clear hr
        generalize t.getD k 0 = x at *
        generalize cntI (t.take k) i = m at *
        by_cases hx : x = i
        · have E := Lib.hid (E1.out hx)
          have hx' : (x == i) = true := by simpa using hx
          clear hx E1 E2
          go_wp2_with fail
          go_round
          case rel => exact ⟨k+1, by omega, by go_num, by rw [E.out]; go_num⟩
          case measure => simp [intOf]; omega
        · have E := Lib.hid (E2.out hx)
          have hx' : (x == i) = false := by simpa using hx
          clear hx E1 E2
          go_wp2_with fail
          go_round
          case rel => exact ⟨k+1, by omega, by go_num, by rw [E.out]⟩
          case measure => simp [intOf]; omega
      · have E := Lib.hid (show t.take k = t from List.take_of_length_le (by omega))
        go_wp2_with fail
        go_ret2
        exact ⟨by rw [EE.out]; rw [E.out]; rfl, hb1.of_alloc⟩

/-! ### ShiftVars -/
def shiftOne (d x : Int) : Int := if x < 0 then x - d else x
def shifted (t : List Int) (d : Int) : List Int := t.map (shiftOne d)
def mapDone (f : Int → Int) (t : List Int) (k : Nat) : List Int := (t.take k).map f ++ t.drop k
theorem mapDone_zero (f : Int → Int) (t : List Int) : mapDone f t 0 = t := by simp [mapDone]
theorem mapDone_len (f : Int → Int) (t : List Int) (k : Nat) : (mapDone f t k).length = t.length := by simp [mapDone]; omega
theorem mapDone_get (f : Int → Int) (t : List Int) (k : Nat) (h : k < t.length) : (mapDone f t k).getD k 0 = t.getD k 0 := by
  unfold mapDone
  have hl : ((t.take k).map f).length = k := by simp; omega
  simp only [List.getD]
  rw [List.getElem?_append_right (by omega), hl, Nat.sub_self]
  simp
theorem mapDone_succ (f : Int → Int) (t : List Int) (k : Nat) (h : k < t.length) : (mapDone f t k).set k (f (t.getD k 0)) = mapDone f t (k+1) := by
  unfold mapDone
  have hl : ((t.take k).map f).length = k := by simp; omega
  rw [List.set_append_right _ _ (by omega), hl, Nat.sub_self, List.drop_eq_getElem_cons h, List.set_cons_zero, List.take_succ_eq_append_getElem h, List.map_append, List.append_assoc]
  simp [List.getD, h]
theorem mapDone_same (f : Int → Int) (t : List Int) (k : Nat) (h : k < t.length) (e : f (t.getD k 0) = t.getD k 0) : mapDone f t k = mapDone f t (k+1) := by
  have h1 : k < (mapDone f t k).length := by rw [mapDone_len]; exact h
  have h2 : t.getD k 0 = (mapDone f t k)[k] := by rw [← mapDone_get f t k h]; simp [List.getD, h1]
  rw [← mapDone_succ f t k h, e, h2, List.set_getElem_self]
theorem mapDone_all (f : Int → Int) (t : List Int) (k : Nat) (h : ¬ k < t.length) : mapDone f t k = t.map f := by
  unfold mapDone; rw [List.take_of_length_le (by omega), List.drop_eq_nil_of_le (by omega), List.append_nil]

/-- The cell, the mark and the next state at a place of a slice of the call's own. -/
theorem OwnI.at {lo hi : Nat} {w : World} {ad : Option Addr} {n c : Nat} {xs : List Int} (h : OwnI lo hi w (.slice ad n c) xs) (j : Nat) (hj : j < xs.length) :
    ∃ b off, ad = some ⟨b, off, none⟩ ∧ lo ≤ b ∧ b < hi ∧ w.cell? ⟨b, off + j, none⟩ = some (.int .i64 (xs.getD j 0)) ∧ w.frozen? ⟨b, off + j, none⟩ = false ∧
      ∀ x : Int, OwnI lo hi (w.setCell ⟨b, off + j, none⟩ (.int .i64 x)) (.slice (some ⟨b, off, none⟩) n c) (xs.set j x) := by
  have h0 := h
  obtain ⟨⟨ad', cap, e, hc, hm, hr⟩, hf⟩ := h
  obtain ⟨b, off, rfl, a1, a2, a3⟩ := hr (by omega)
  simp only [Value.slice.injEq] at e
  obtain ⟨rfl, rfl, rfl⟩ := e
  exact ⟨b, off, rfl, a1, a2, a3 j hj, hf b off _ _ rfl (by omega) j, fun x => h0.stored j hj x⟩

set_option maxRecDepth 100000 in
theorem l1Shift_c (l h : Nat) (v : Value) (t : List Int) (d : Nat) (w : World) (ht : t.length ≤ 1048576) (hd : d ≤ 12) (hb12 : ∀ k, k < t.length → -12 ≤ t.getD k 0) (hv : SlI l h w v t) :
    Calls Try.prog 115 #[v, .int .i64 d] w (RetI w (shifted t d)) := by
  go_enter Try.func115, Try.ntmps115
  go_wp2_with fail
  refine (l1Own_c _ _ _ t _ ht hv).mono ?_; rintro e w1 ⟨ad, n, c, rfl, ho, hb⟩
  obtain rfl : n = t.length := by obtain ⟨_, _, e, _⟩ := ho.1; simp at e; exact e.2.1
  go_wp2_with fail
  go_loopw [12] (fun i wr => ∃ k : Nat, k ≤ t.length ∧ i = .int .i64 k ∧ OwnI w.heap.size w1.heap.size wr (.slice ad t.length c) (mapDone (shiftOne d) t k) ∧ Bel w wr ∧ w1.heap.size ≤ wr.heap.size) (fun i _ => t.length - (intOf i).toNat)
  case atStart => exact ⟨0, Nat.zero_le _, rfl, by rw [mapDone_zero]; exact ho, hb, Nat.le_refl _⟩
  case round =>
    obtain ⟨k, hk, rfl, hown, hbr, hsz⟩ := hrel
    by_cases hlt : k < t.length
    · obtain ⟨b, off, rfl, a1, a2, hcell, hfr, hst⟩ := hown.at k (by rw [mapDone_len]; exact hlt)
      rw [mapDone_get _ _ _ hlt] at hcell
      have hx12 := hb12 k hlt
      have E1 := Lib.hid (mapDone_succ (shiftOne d) t k hlt)
      have E2 := Lib.hid (mapDone_same (shiftOne d) t k hlt)
      have HST := Lib.hid hst
      have HO := Lib.hid hown
      clear hst hown hb12
      generalize t.getD k 0 = x at *
      by_cases hx : x < 0
      · have hbs := hbr.set (p := ⟨b, off + k, none⟩) a1 (.int .i64 (x - d))
        go_wp2_with fail
        go_roundw
        case rel => exact ⟨k+1, by omega, by go_num, by rw [← E1.out, show shiftOne d x = x - d from if_pos hx]; exact HST.out _, hbs, by simpa using hsz⟩
        case measure => simp [intOf]; omega
      · go_wp2_with fail
        go_roundw
        case rel => exact ⟨k+1, by omega, by go_num, by rw [← E2.out (if_neg hx)]; exact HO.out, hbr, hsz⟩
        case measure => simp [intOf]; omega
    · rw [mapDone_all _ _ _ hlt] at hown
      go_wp2_with fail
      go_ret
      exact ⟨_, _, _, rfl, hown.mono (Nat.le_refl _) hsz, hbr⟩

def shiftOk (ar t : List Int) (d : Int) : Bool := goodTerm ar t && inB d 0 12 && okTerm ar (shifted t d)
def shiftAns (ar t : List Int) (d : Int) : List Int := if shiftOk ar t d then shifted t d else []
theorem shifted_len (t : List Int) (d : Int) : (shifted t d).length = t.length := by simp [shifted]
theorem shiftAns_len (ar t : List Int) (d : Int) : (shiftAns ar t d).length ≤ 1048576 := by
  unfold shiftAns
  split
  · rename_i h
    simp only [shiftOk, Bool.and_eq_true] at h
    have := ((okTerm_iff _ _).1 h.2).2.1
    omega
  · exact Nat.zero_le _
theorem shift_no {ar t : List Int} {d : Int} (h : shiftOk ar t d = false) : shiftAns ar t d = [] := by simp [shiftAns, h]
theorem shift_yes {ar t : List Int} {d : Int} (h : shiftOk ar t d = true) : shiftAns ar t d = shifted t d := by simp [shiftAns, h]
theorem good_low {ar t : List Int} (h : goodTerm ar t = true) : t.length ≤ 40 ∧ ∀ k, k < t.length → -12 ≤ t.getD k 0 := by
  obtain ⟨_, h2⟩ := goodTerm_iff.1 h
  refine ⟨((okTerm_iff _ _).1 h2).2.1, fun k hk => ?_⟩
  have := good_sym ar t h2 k hk
  simp [okSym, inB] at this
  simp only [List.getD]
  omega

theorem sShiftVars_t {l h l' h' : Nat} {v u : Value} {ar t : List Int} {w : World} (ha : ar.length ≤ 1048576) (hv : SlI l h w v ar) (ht : t.length ≤ 1048576) (hu : SlI l' h' w u t) {i : Int} (_ : -9223372036854775808 ≤ i) (_ : i ≤ 9223372036854775807) :
    Calls Try.prog 47 #[.agg #[v], u, .int .i64 i] w (RetIB w (shiftAns ar t i) (shiftOk ar t i)) := by
  cases hs : goodTerm ar t with
  | false =>
    have h0 : shiftOk ar t i = false := by simp [shiftOk, hs]
    have E := Lib.hid (shift_no h0)
    have E2 := Lib.hid h0
    have HS := Lib.hid hs; clear hs h0
    go_enter Try.func47, Try.ntmps47
    go_wp2_with fail
    refine (sGoodTerm_v _ _ _ _ _ _ _ _ _ _ HS.out ha ht (hv.alloc _) (hu.alloc _)).mono ?_; rintro e w' ⟨rfl, hb1⟩
    go_wp2_with fail
    go_ret2
    exact ⟨_, _, _, by rw [E2.out]; rfl, by rw [E.out]; exact OwnI.nil _ _ _, hb1.of_alloc⟩
  | true =>
    have HS := Lib.hid hs
    cases hd : inB i 0 12 with
    | false =>
      have h0 : shiftOk ar t i = false := by simp [shiftOk, hd]
      have E := Lib.hid (shift_no h0)
      have E2 := Lib.hid h0
      have HD := Lib.hid hd; clear hd hs h0
      go_enter Try.func47, Try.ntmps47
      go_wp2_with fail
      refine (sGoodTerm_v _ _ _ _ _ _ _ _ _ _ HS.out ha ht (hv.alloc _) (hu.alloc _)).mono ?_; rintro e w' ⟨rfl, hb1⟩
      go_wp2_with fail
      refine (l1In_f _ _ _ _ HD.out).mono ?_; rintro e w2 ⟨rfl, hb2⟩
      go_wp2_with fail
      go_ret2
      exact ⟨_, _, _, by rw [E2.out]; rfl, by rw [E.out]; exact OwnI.nil _ _ _, hb1.of_alloc.step hb2⟩
    | true =>
      obtain ⟨k, rfl⟩ : ∃ k : Nat, i = k := ⟨i.toNat, by simp [inB] at hd; omega⟩
      have hk : k ≤ 12 := by simp [inB] at hd; omega
      obtain ⟨hl40, hlow⟩ := good_low hs
      have HD := Lib.hid hd
      have h0 : shiftOk ar t k = okTerm ar (shifted t k) := by simp [shiftOk, hs, hd]
      have hg := (goodTerm_iff.1 hs).1
      have hsl := shifted_len t k
      have hsl2 : (shifted t k).length ≤ 1048576 := by omega
      have E : Hid (shiftAns ar t k = if okTerm ar (shifted t k) then shifted t k else []) := by show _ = _; rw [← h0]; rfl
      have E2 := Lib.hid h0
      have HLOW := Lib.hid hlow
      clear hs hd h0 hsl hlow
      have hc := fun a b c d => l1Term_c a b c d
      cases hok : okTerm ar (shifted t k)
      all_goals
        have HOK := Lib.hid hok
        clear hok hc
        go_enter Try.func47, Try.ntmps47
        go_wp2_with fail
        refine (sGoodTerm_v _ _ _ _ _ _ _ _ _ _ HS.out ha ht (hv.alloc _) (hu.alloc _)).mono ?_; rintro e w1 ⟨rfl, hb1⟩
        have hx1 := boxc hb1 0 _ rfl
        go_wp2_with fail
        refine (l1In_t _ _ _ _ HD.out).mono ?_; rintro e w2 ⟨rfl, hb2⟩
        have hx2 := boxc (hb1.step hb2) 0 _ rfl
        have hb12 := hb1.of_alloc.step hb2
        go_wp2_with fail
        refine (l1Shift_c _ _ _ t k _ ht hk HLOW.out (hu.below hb12)).mono ?_; rintro e w3 ⟨ad, n, c, rfl, ho, hb3⟩
        have hx3 := boxc ((hb1.step hb2).step hb3) 0 _ rfl
        go_wp2_with fail
        refine (l1Term_v _ _ _ _ _ _ ar (shifted t k) _ _ HOK.out hg hsl2 (hv.below (hb12.step hb3)) ho.sl).mono ?_; rintro e w4 ⟨rfl, hb4⟩
        go_wp2_with fail
        go_ret2
        refine ⟨_, _, _, by rw [E2.out, HOK.out]; rfl, ?_, (hb12.step hb3).step hb4⟩
        rw [E.out, HOK.out]
        first | exact OwnI.nil _ _ _ | exact (ho.mono (by have := hb12.size; omega) hb4.size).below hb4

set_option maxRecDepth 100000 in
set_option maxHeartbeats 1000000 in
theorem iShiftVars_t {l h l' h' : Nat} {v u : Value} {ar t : List Int} {w : World} (ha : ar.length ≤ 1048576) (hv : SlI l h w v ar) (ht : t.length ≤ 1048576) (hu : SlI l' h' w u t) {i : Int} (_ : -9223372036854775808 ≤ i) (_ : i ≤ 9223372036854775807) :
    Calls Try.prog 46 #[.agg #[v], u, .int .i64 i] w (RetIB w (shiftAns ar t i) (shiftOk ar t i)) := by
  cases hs : goodTerm ar t with
  | false =>
    have h0 : shiftOk ar t i = false := by simp [shiftOk, hs]
    have E := Lib.hid (shift_no h0)
    have E2 := Lib.hid h0
    have HS := Lib.hid hs; clear hs h0
    go_enter Try.func46, Try.ntmps46
    go_wp2_with fail
    refine (iGoodTerm_v _ _ _ _ _ _ _ _ _ _ HS.out ha ht (hv.alloc _) (hu.alloc _)).mono ?_; rintro e w' ⟨rfl, hb1⟩
    go_wp2_with fail
    go_ret2
    exact ⟨_, _, _, by rw [E2.out]; rfl, by rw [E.out]; exact OwnI.nil _ _ _, hb1.of_alloc⟩
  | true =>
    have HS := Lib.hid hs
    by_cases hi0 : i < 0
    · have h0 : shiftOk ar t i = false := by simp [shiftOk, inB]; omega
      have E := Lib.hid (shift_no h0)
      have E2 := Lib.hid h0
      clear hs h0
      go_enter Try.func46, Try.ntmps46
      go_wp2_with fail
      refine (iGoodTerm_v _ _ _ _ _ _ _ _ _ _ HS.out ha ht (hv.alloc _) (hu.alloc _)).mono ?_; rintro e w' ⟨rfl, hb1⟩
      go_wp2_with fail
      go_ret2
      exact ⟨_, _, _, by rw [E2.out]; rfl, by rw [E.out]; exact OwnI.nil _ _ _, hb1.of_alloc⟩
    · by_cases hi1 : 12 < i
      · have h0 : shiftOk ar t i = false := by simp [shiftOk, inB]; omega
        have E := Lib.hid (shift_no h0)
        have E2 := Lib.hid h0
        clear hs h0
        go_enter Try.func46, Try.ntmps46
        go_wp2_with fail
        refine (iGoodTerm_v _ _ _ _ _ _ _ _ _ _ HS.out ha ht (hv.alloc _) (hu.alloc _)).mono ?_; rintro e w' ⟨rfl, hb1⟩
        go_wp2_with fail
        go_ret2
        exact ⟨_, _, _, by rw [E2.out]; rfl, by rw [E.out]; exact OwnI.nil _ _ _, hb1.of_alloc⟩
      · obtain ⟨k, rfl⟩ : ∃ k : Nat, i = k := ⟨i.toNat, by omega⟩
        have hd : inB k 0 12 = true := by simp [inB]; omega
        obtain ⟨hl40, hlow⟩ := good_low hs
        have h0 : shiftOk ar t k = goodTerm ar (shifted t k) := by
          show (goodTerm ar t && inB k 0 12 && okTerm ar (shifted t k)) = (goodSign ar && okTerm ar (shifted t k))
          rw [hs, hd, (goodTerm_iff.1 hs).1]; rfl
        have hsl := shifted_len t k
        have hsl2 : (shifted t k).length ≤ 1048576 := by omega
        have E : Hid (shiftAns ar t k = if goodTerm ar (shifted t k) then shifted t k else []) := by show _ = _; rw [← h0]; rfl
        have E2 := Lib.hid h0
        have HLOW := Lib.hid hlow
        have HSL := Lib.hid hsl
        clear hs hd h0 hsl hlow
        cases hok : goodTerm ar (shifted t k)
        all_goals
          have HOK := Lib.hid hok
          clear hok
          go_enter Try.func46, Try.ntmps46
          go_wp2_with fail
          refine (iGoodTerm_v _ _ _ _ _ _ _ _ _ _ HS.out ha ht (hv.alloc _) (hu.alloc _)).mono ?_; rintro e w1 ⟨rfl, hb1⟩
          go_wp2_with fail
          refine (clone_c _ _ _ t _ ht (hu.below hb1.of_alloc)).mono ?_; rintro e w2 ⟨ad, n, c, rfl, ho, hb2⟩
          obtain rfl : n = t.length := by obtain ⟨_, _, e, _⟩ := ho.1; simp at e; exact e.2.1
          have hb12 := hb1.step hb2
          have hz1 := hb1.size
          simp only [World.size_alloc] at hz1
          go_wp2_with fail
          go_loopw [27] (fun i wr => ∃ j : Nat, j ≤ t.length ∧ i = .int .i64 j ∧ OwnI w1.heap.size w2.heap.size wr (.slice ad t.length c) (mapDone (shiftOne k) t j) ∧ Bel (w.alloc (.cells #[v] 26)) wr ∧ w2.heap.size ≤ wr.heap.size) (fun i _ => t.length - (intOf i).toNat)
          case atStart => exact ⟨0, Nat.zero_le _, rfl, by rw [mapDone_zero]; exact ho, hb12, Nat.le_refl _⟩
          case round =>
            obtain ⟨j, hj, rfl, hown, hbr, hsz⟩ := hrel
            have hxr := boxc hbr 0 _ rfl
            by_cases hlt : j < t.length
            · obtain ⟨b, off, rfl, a1, a2, hcell, hfr, hst⟩ := hown.at j (by rw [mapDone_len]; exact hlt)
              rw [mapDone_get _ _ _ hlt] at hcell
              have hx12 := HLOW.out j hlt
              have E5 := Lib.hid (mapDone_succ (shiftOne k) t j hlt)
              have E6 := Lib.hid (mapDone_same (shiftOne k) t j hlt)
              have HST := Lib.hid hst
              have HO := Lib.hid hown
              clear hst hown
              generalize t.getD j 0 = x at *
              by_cases hx : x < 0
              · have hbs := hbr.set (p := ⟨b, off + j, none⟩) (by simp; omega) (.int .i64 (x - k))
                go_wp2_with fail
                go_roundw
                case rel => exact ⟨j+1, by omega, by go_num, by rw [← E5.out, show shiftOne k x = x - k from if_pos hx]; exact HST.out _, hbs, by simpa using hsz⟩
                case measure => simp [intOf]; omega
              · go_wp2_with fail
                go_roundw
                case rel => exact ⟨j+1, by omega, by go_num, by rw [← E6.out (if_neg hx)]; exact HO.out, hbr, hsz⟩
                case measure => simp [intOf]; omega
            · rw [mapDone_all _ _ _ hlt] at hown
              go_wp2_with fail
              refine (iGoodTerm_v _ _ _ _ _ _ ar (shifted t k) _ _ HOK.out ha hsl2 (hv.below hbr.of_alloc) hown.sl).mono ?_; rintro e w4 ⟨rfl, hb4⟩
              go_wp2_with fail
              go_ret2
              refine ⟨_, _, _, by rw [E2.out, HOK.out]; rfl, ?_, hbr.of_alloc.step hb4⟩
              rw [E.out, HOK.out]
              first | exact OwnI.nil _ _ _ | exact (hown.mono (by omega) (Nat.le_trans hsz hb4.size)).below hb4
end Go.Proofs.Ytngdhpelnjckjaa
