/- Texts merged, part 4. -/
import Derived.Test.YteegjnobmbcjiaaMgChooseOf3
section
/- Replacing a subterm in a valid term. No program. -/
namespace Go.Proofs.Yteegjnobmbcjiaa

theorem endGo_shift (ar : List Int) : ∀ (r : List Int) (n p d : Nat), endGo ar r n (p + d) = (endGo ar r n p).map (· + d) := by
  intro r
  induction r with
  | nil => intro n p d; cases n <;> simp [endGo]
  | cons x r ih =>
    intro n p d
    cases n with
    | zero => simp [endGo_zero]
    | succ n =>
      rw [endGo_cons, endGo_cons]
      split
      · rw [show p + d + 1 = (p + 1) + d from by omega, ih]
      · rfl

theorem endGo_ext (ar : List Int) : ∀ (r s : List Int) (n p e : Nat), endGo ar r n p = some e → endGo ar (r ++ s) n p = some e := by
  intro r
  induction r with
  | nil =>
    intro s n p e h
    cases n with
    | zero => rw [endGo_zero] at h ⊢; exact h
    | succ n => simp [endGo_nil] at h
  | cons x r ih =>
    intro s n p e h
    cases n with
    | zero => rw [endGo_zero] at h ⊢; exact h
    | succ n =>
      rw [endGo_cons] at h
      rw [List.cons_append, endGo_cons]
      split at h
      · rw [if_pos ‹_›]; exact ih _ _ _ _ h
      · simp at h

/-- What is cut off behind the end does not matter. -/
theorem endGo_cut (ar : List Int) : ∀ (r s : List Int) (n p e : Nat), endGo ar (r ++ s) n p = some e → e ≤ p + r.length → endGo ar r n p = some e := by
  intro r
  induction r with
  | nil =>
    intro s n p e h he
    cases n with
    | zero => rw [endGo_zero] at h ⊢; exact h
    | succ n => have := endGo_gt _ _ _ _ _ h; simp at he; omega
  | cons x r ih =>
    intro s n p e h he
    cases n with
    | zero => rw [endGo_zero] at h ⊢; exact h
    | succ n =>
      rw [List.cons_append, endGo_cons] at h
      rw [endGo_cons]
      split at h
      · rw [if_pos ‹_›]; exact ih s _ _ _ h (by simp at he; omega)
      · simp at h

/-- Behind a head that does not come to the end. -/
theorem endGo_head (ar : List Int) : ∀ (a : List Int) (n p : Nat) (r : List Int) (e : Nat), endGo ar (a ++ r) n p = some e → p + a.length < e → ∃ m, ∀ s, endGo ar (a ++ s) n p = endGo ar s (m + 1) (p + a.length) := by
  intro a
  induction a with
  | nil =>
    intro n p r e h he
    cases n with
    | zero => rw [endGo_zero] at h; simp at h he; omega
    | succ n => exact ⟨n, fun s => by simp⟩
  | cons x a ih =>
    intro n p r e h he
    cases n with
    | zero => rw [endGo_zero] at h; simp at h he; omega
    | succ n =>
      rw [List.cons_append, endGo_cons] at h
      split at h
      · rename_i hx
        obtain ⟨m, hm⟩ := ih _ _ _ _ h (by simp at he; omega)
        exact ⟨m, fun s => by rw [List.cons_append, endGo_cons, if_pos hx, hm, List.length_cons]; congr 1; omega⟩
      · simp at h

/-- The term with the subterm at i, which ends at e, replaced by u. -/
def replaced (t : List Int) (i e : Nat) (u : List Int) : List Int := t.take i ++ u ++ t.drop e
theorem replaced_len (t u : List Int) (i e : Nat) (h1 : i ≤ e) (h2 : e ≤ t.length) : (replaced t i e u).length = i + u.length + (t.length - e) := by
  simp [replaced]; omega

theorem replaced_end (ar t u : List Int) (i e : Nat) (ht : okTerm ar t = true) (hu : okTerm ar u = true) (hi : i < t.length) (he : endOf ar t i = some e) :
    endOf ar (replaced t i e u) 0 = some (replaced t i e u).length := by
  obtain ⟨_, _, h3⟩ := (okTerm_iff ar t).1 ht
  obtain ⟨hu1, _, h4⟩ := (okTerm_iff ar u).1 hu
  unfold endOf at h3 h4 he ⊢
  rw [List.drop_zero] at h3 h4 ⊢
  have hge := endGo_ge _ _ _ _ _ he
  have hgt := endGo_gt _ _ _ _ _ he
  simp at hge
  have hcut : t = t.take i ++ t.drop i := (List.take_append_drop i t).symm
  rw [hcut] at h3
  have hl : (t.take i).length = i := by simp; omega
  obtain ⟨m, hm⟩ := endGo_head ar (t.take i) 1 0 (t.drop i) _ h3 (by rw [hl]; simp; omega)
  rw [hm, hl, Nat.zero_add, show m + 1 = 1 + m from by omega, endGo_add, he] at h3
  simp only [Option.bind_some, List.drop_drop, show i + (e - i) = e from by omega] at h3
  unfold replaced
  rw [List.append_assoc, hm, hl, Nat.zero_add, show m + 1 = 1 + m from by omega, endGo_add]
  have h5 : endGo ar (u ++ t.drop e) 1 i = some (u.length + i) := by
    have := endGo_shift ar (u ++ t.drop e) 1 0 i
    rw [Nat.zero_add] at this
    rw [this, endGo_ext ar u _ _ _ _ h4]; rfl
  rw [h5]
  simp only [Option.bind_some, show u.length + i - i = u.length from by omega, List.drop_left']
  have h6 := endGo_shift ar (t.drop e) m 0 e
  rw [Nat.zero_add, h3] at h6
  have h7 := endGo_shift ar (t.drop e) m 0 (u.length + i)
  rw [Nat.zero_add] at h7
  rw [h7]
  cases h8 : endGo ar (t.drop e) m 0 with
  | none => rw [h8] at h6; simp at h6
  | some z =>
    rw [h8] at h6
    simp only [Option.map_some, Option.some.injEq] at h6 ⊢
    simp at h6 ⊢
    omega

theorem replaced_ok (ar t u : List Int) (i e : Nat) (ht : okTerm ar t = true) (hu : okTerm ar u = true) (hi : i < t.length) (he : endOf ar t i = some e) :
    okTerm ar (replaced t i e u) = decide ((replaced t i e u).length ≤ 40) := by
  have h1 := replaced_end ar t u i e ht hu hi he
  have h2 := ((okTerm_iff ar u).1 hu).1
  have hge := endGo_ge _ _ _ _ _ he
  simp at hge
  have h3 := replaced_len t u i e (by omega) (by omega)
  rw [Bool.eq_iff_iff, okTerm_iff, decide_eq_true_eq]
  constructor
  · exact fun h => h.2.1
  · exact fun h => ⟨by omega, h, h1⟩

/-- A subterm is a term. -/
def partOf (t : List Int) (i e : Nat) : List Int := (t.drop i).take (e - i)
theorem partOf_len (t : List Int) (i e : Nat) (h : e ≤ t.length) : (partOf t i e).length = e - i := by simp [partOf]; omega
theorem partOf_ok (ar t : List Int) (i e : Nat) (ht : okTerm ar t = true) (hi : i < t.length) (he : endOf ar t i = some e) : okTerm ar (partOf t i e) = true := by
  have h1 := ((okTerm_iff ar t).1 ht).2.1
  have hge := endGo_ge _ _ _ _ _ he
  have hgt := endGo_gt _ _ _ _ _ he
  simp at hge
  have hl := partOf_len t i e (by omega)
  rw [okTerm_iff]
  refine ⟨by omega, by omega, ?_⟩
  unfold endOf at he ⊢
  rw [List.drop_zero, hl]
  have h2 : t.drop i = partOf t i e ++ (t.drop i).drop (e - i) := by unfold partOf; rw [List.take_append_drop]
  rw [h2] at he
  have h3 := endGo_cut ar _ _ _ _ _ he (by omega)
  have h4 := endGo_shift ar (partOf t i e) 1 0 i
  rw [Nat.zero_add, h3] at h4
  cases h5 : endGo ar (partOf t i e) 1 0 with
  | none => rw [h5] at h4; simp at h4
  | some z => rw [h5] at h4; simp at h4 ⊢; omega
theorem replaced_self (t : List Int) (i e : Nat) (h1 : i ≤ e) : replaced t i e (partOf t i e) = t := by
  unfold replaced partOf
  rw [List.append_assoc]
  have : List.take (e - i) (List.drop i t) ++ List.drop e t = List.drop i t := by
    have h := List.take_append_drop (e - i) (List.drop i t)
    rw [List.drop_drop, show i + (e - i) = e from by omega] at h
    exact h
  rw [this, List.take_append_drop]
end Go.Proofs.Yteegjnobmbcjiaa
end
section
/- Putting terms for variables keeps terms. No program. -/
namespace Go.Proofs.Yteegjnobmbcjiaa

theorem goodSubst_iff {ar : List Int} {b : List (List Int)} : goodSubst ar b = true ↔ goodSign ar = true ∧ b.length = 12 ∧ ∀ t ∈ b, okEmpty ar t = true := by
  simp only [goodSubst, Bool.and_eq_true, beq_iff_eq, List.all_eq_true]
  constructor
  · rintro ⟨⟨h1, h2⟩, h3⟩; exact ⟨h1, h2, h3⟩
  · rintro ⟨h1, h2, h3⟩; exact ⟨⟨h1, h2⟩, h3⟩
theorem okEmpty_get {ar : List Int} {b : List (List Int)} (h : ∀ t ∈ b, okEmpty ar t = true) (j : Nat) (hp : 0 < (b.getD j []).length) : okTerm ar (b.getD j []) = true := by
  have hj : j < b.length := by
    rcases Nat.lt_or_ge j b.length with h1 | h1
    · exact h1
    · simp [List.getD, h1] at hp
  have := h (b.getD j []) (by simp [List.getD, hj])
  rwa [okEmpty_pos hp] at this
theorem goodSubst_len40 {ar : List Int} {b : List (List Int)} (h : goodSubst ar b = true) : lens40 b := by
  obtain ⟨_, _, h3⟩ := goodSubst_iff.1 h
  intro j hj
  by_cases hp : 0 < (b.getD j []).length
  · have := ((okTerm_iff _ _).1 (okEmpty_get h3 j hp)).2.1; omega
  · omega
theorem okSym_low {ar : List Int} {x : Int} (h : okSym ar x = true) : -12 ≤ x := by simp [okSym, inB] at h; omega
theorem okTerm_low {ar t : List Int} (h : okTerm ar t = true) : ∀ k, k < t.length → -12 ≤ t.getD k 0 := fun k hk => okSym_low (good_sym ar t h k hk)

/-- What is put for an entry takes the place of one term. -/
theorem endGo_one1 (ar : List Int) (b : List (List Int)) (hb : ∀ t ∈ b, okEmpty ar t = true) (x : Int) (hx : okSym ar x = true) (s : List Int) (n p : Nat) :
    endGo ar (one1 b x ++ s) (n + 1) p = endGo ar s (n + arOf ar x) (p + (one1 b x).length) := by
  by_cases h : x < 0 ∧ 0 < (b.getD (-1 - x).toNat []).length
  · have ho := okEmpty_get hb _ h.2
    have e : one1 b x = b.getD (-1 - x).toNat [] := by unfold one1; rw [if_pos h]
    rw [e]
    generalize b.getD (-1 - x).toNat [] = T at *
    obtain ⟨h1, h2, h3⟩ := (okTerm_iff _ _).1 ho
    unfold endOf at h3
    rw [List.drop_zero] at h3
    have h4 := endGo_ext ar T s 1 0 _ h3
    have h5 := endGo_shift ar (T ++ s) 1 0 p
    rw [h4] at h5
    rw [Nat.zero_add] at h5
    rw [show n + 1 = 1 + n from by omega, endGo_add, h5, arOf_neg h.1]
    simp only [Option.map_some, Option.bind_some]
    rw [show T.length + p - p = T.length from by omega, List.drop_left, show p + T.length = T.length + p from by omega]
    rfl
  · have e : one1 b x = [x] := by unfold one1; rw [if_neg h]
    rw [e, List.singleton_append, endGo_cons, if_pos hx]
    rfl
theorem endGo_app (ar : List Int) (b : List (List Int)) (hb : ∀ t ∈ b, okEmpty ar t = true) : ∀ (r : List Int) (n p q : Nat), endGo ar r n p = some (p + r.length) → endGo ar (appT b r) n q = some (q + (appT b r).length) := by
  intro r
  induction r with
  | nil =>
    intro n p q h
    cases n with
    | zero => rw [endGo_zero]; rfl
    | succ n => simp [endGo_nil] at h
  | cons x r ih =>
    intro n p q h
    cases n with
    | zero => rw [endGo_zero] at h; simp at h
    | succ n =>
      rw [endGo_cons] at h
      split at h
      · rename_i hx
        have := ih _ (p+1) (q + (one1 b x).length) (by rw [h]; simp; omega)
        show endGo ar (one1 b x ++ appT b r) (n+1) q = _
        rw [endGo_one1 ar b hb x hx, this]
        show _ = some (q + (one1 b x ++ appT b r).length)
        rw [List.length_append]; congr 1; omega
      · simp at h
theorem one1_pos (b : List (List Int)) (x : Int) : 0 < (one1 b x).length := by
  unfold one1; split
  · rename_i h; exact h.2
  · simp
theorem appT_pos (b : List (List Int)) (t : List Int) (h : 0 < t.length) : 0 < (appT b t).length := by
  cases t with
  | nil => simp at h
  | cons x r =>
    show 0 < (one1 b x ++ appT b r).length
    rw [List.length_append]; have := one1_pos b x; omega
theorem app_end {ar t : List Int} {b : List (List Int)} (hb : ∀ t ∈ b, okEmpty ar t = true) (ht : okTerm ar t = true) : endOf ar (appT b t) 0 = some (appT b t).length := by
  obtain ⟨h1, h2, h3⟩ := (okTerm_iff _ _).1 ht
  have := endGo_app ar b hb t 1 0 0 (by unfold endOf at h3; simpa using h3)
  unfold endOf; simpa using this
theorem app_ok {ar t : List Int} {b : List (List Int)} (hb : goodSubst ar b = true) (ht : okTerm ar t = true) : okTerm ar (appT b t) = app40ok b t := by
  obtain ⟨_, _, h3⟩ := goodSubst_iff.1 hb
  have he := app_end h3 ht
  have hp := appT_pos b t (by have := ((okTerm_iff _ _).1 ht).1; omega)
  rw [Bool.eq_iff_iff, okTerm_iff]
  simp [app40ok]
  constructor
  · rintro ⟨_, h, _⟩; exact h
  · intro h; exact ⟨by omega, h, he⟩
def applyOk (ar : List Int) (b : List (List Int)) (t : List Int) : Bool := goodSubst ar b && okTerm ar t && app40ok b t
def applyAns (ar : List Int) (b : List (List Int)) (t : List Int) : List Int := if applyOk ar b t then appT b t else []
theorem applyAns_no {ar t : List Int} {b : List (List Int)} (h : applyOk ar b t = false) : applyAns ar b t = [] := by simp [applyAns, h]
theorem applyAns_yes {ar t : List Int} {b : List (List Int)} (h : applyOk ar b t = true) : applyAns ar b t = appT b t := by simp [applyAns, h]
theorem applyAns_len (ar : List Int) (b : List (List Int)) (t : List Int) : (applyAns ar b t).length ≤ 1048576 := by
  unfold applyAns
  split
  · rename_i h; simp [applyOk, app40ok] at h; omega
  · simp
theorem applyAns_len40 (ar : List Int) (b : List (List Int)) (t : List Int) : (applyAns ar b t).length ≤ 40 := by
  unfold applyAns
  split
  · rename_i h; simp [applyOk, app40ok] at h; omega
  · simp
end Go.Proofs.Yteegjnobmbcjiaa
end
section
/- Slices of ints compared: three functions of one shape. -/
namespace Go.Proofs.Yteegjnobmbcjiaa
open Go.RowKit

set_option maxRecDepth 100000 in
set_option maxHeartbeats 400000 in
theorem l1Same_c (l h l' h' : Nat) (v u : Value) (xs ys : List Int) (w : World) (hx : xs.length ≤ 1048576) (hy : ys.length ≤ 1048576) (hv : SlI l h w v xs) (hu : SlI l' h' w u ys) :
    Calls Try.prog 118 #[v, u] w (RetV w (.bool (decide (xs = ys)))) := by
  obtain ⟨ad, cap, rfl, -, -, hr⟩ := hv
  obtain ⟨ad', cap', rfl, -, -, hr'⟩ := hu
  by_cases hl : (xs.length : Int) = ys.length
  · have hl1 : xs.length = ys.length := by omega
    have hl' : ((xs.length : Int) != ys.length) = false := by simpa using hl
    have HL := Lib.hid hl1
    clear hl hl1
    go_enter Try.func118, Try.ntmps118
    go_wp2_with fail
    go_loopw [13] (fun i wr => ∃ k : Nat, k ≤ xs.length ∧ i = .int .i64 k ∧ xs.take k = ys.take k ∧ Bel w wr) (fun i _ => xs.length - (intOf i).toNat)
    case atStart => exact ⟨0, Nat.zero_le _, rfl, rfl, Bel.rfl' _⟩
    case round =>
      obtain ⟨k, hk, rfl, ha, hb⟩ := hrel
      by_cases hlt : k < xs.length
      · have hlt2 : k < ys.length := by rw [← HL.out]; exact hlt
        obtain ⟨b, off, rfl, -, hcell⟩ := rd hr hb k hlt
        obtain ⟨b', off', rfl, -, hcell'⟩ := rd hr' hb k hlt2
        have E1 := Lib.hid (take_eq_succ xs ys k hlt hlt2 ha)
        have E2 := Lib.hid (take_ne xs ys k)
        clear hr hr' ha
        generalize xs.getD k 0 = x at *
        generalize ys.getD k 0 = y at *
        by_cases hxy : x = y
        · have E3 := Lib.hid (E1.out hxy)
          clear E1 E2
          subst hxy
          go_wp2_with fail
          go_quiet (fail)
          go_wp2
          go_roundw
          case rel => exact ⟨k+1, by omega, by go_num, E3.out, hb.drewN _⟩
          case measure => simp [intOf]; omega
        · have e1 : Hid (decide (xs = ys) = false) := by show decide (xs = ys) = false; simpa using E2.out hlt hlt2 hxy
          have hxy' : (x != y) = true := by simpa using hxy
          clear hxy
          go_wp2_with fail
          go_quiet (fail)
          go_wp2
          go_ret
          exact ⟨by rw [e1.out]; rfl, hb.drewN _⟩
      · have HA := Lib.hid ha; clear ha
        have e1 : Hid (decide (xs = ys) = true) := by
          show decide (xs = ys) = true
          have h1 := HA.out
          rw [List.take_of_length_le (by omega), List.take_of_length_le (by rw [← HL.out]; omega)] at h1
          simpa using h1
        go_wp2_with fail
        go_ret
        exact ⟨by rw [e1.out]; rfl, hb⟩
  · have e1 : Hid (decide (xs = ys) = false) := by show decide (xs = ys) = false; simp; rintro rfl; exact hl rfl
    have hl' : ((xs.length : Int) != ys.length) = true := by simpa using hl
    clear hl
    go_enter Try.func118, Try.ntmps118
    go_wp2_with fail
    go_ret
    exact ⟨by rw [e1.out]; rfl, Bel.rfl' _⟩
theorem l1Same_v (l h l' h' : Nat) (v u : Value) (xs ys : List Int) (q : Bool) (w : World) (he : decide (xs = ys) = q) (hx : xs.length ≤ 1048576) (hy : ys.length ≤ 1048576) (hv : SlI l h w v xs) (hu : SlI l' h' w u ys) :
    Calls Try.prog 118 #[v, u] w (RetV w (.bool q)) := he ▸ l1Same_c l h l' h' v u xs ys w hx hy hv hu
theorem l1Same_same (l h l' h' : Nat) (v u : Value) (xs : List Int) (w : World) (hx : xs.length ≤ 1048576) (hv : SlI l h w v xs) (hu : SlI l' h' w u xs) :
    Calls Try.prog 118 #[v, u] w (RetV w (.bool true)) := l1Same_v l h l' h' v u xs xs true w (by simp) hx hx hv hu

set_option maxRecDepth 100000 in
set_option maxHeartbeats 400000 in
theorem sameInts_c (l h l' h' : Nat) (v u : Value) (xs ys : List Int) (w : World) (hx : xs.length ≤ 1048576) (hy : ys.length ≤ 1048576) (hv : SlI l h w v xs) (hu : SlI l' h' w u ys) :
    Calls Try.prog 43 #[v, u] w (RetV w (.bool (decide (xs = ys)))) := by
  obtain ⟨ad, cap, rfl, -, -, hr⟩ := hv
  obtain ⟨ad', cap', rfl, -, -, hr'⟩ := hu
  by_cases hl : (xs.length : Int) = ys.length
  · have hl1 : xs.length = ys.length := by omega
    have hl' : ((xs.length : Int) != ys.length) = false := by simpa using hl
    have HL := Lib.hid hl1
    clear hl hl1
    go_enter Try.func43, Try.ntmps43
    go_wp2_with fail
    go_loopw [13] (fun i wr => ∃ k : Nat, k ≤ xs.length ∧ i = .int .i64 k ∧ xs.take k = ys.take k ∧ Bel w wr) (fun i _ => xs.length - (intOf i).toNat)
    case atStart => exact ⟨0, Nat.zero_le _, rfl, rfl, Bel.rfl' _⟩
    case round =>
      obtain ⟨k, hk, rfl, ha, hb⟩ := hrel
      by_cases hlt : k < xs.length
      · have hlt2 : k < ys.length := by rw [← HL.out]; exact hlt
        obtain ⟨b, off, rfl, -, hcell⟩ := rd hr hb k hlt
        obtain ⟨b', off', rfl, -, hcell'⟩ := rd hr' hb k hlt2
        have E1 := Lib.hid (take_eq_succ xs ys k hlt hlt2 ha)
        have E2 := Lib.hid (take_ne xs ys k)
        clear hr hr' ha
        generalize xs.getD k 0 = x at *
        generalize ys.getD k 0 = y at *
        by_cases hxy : x = y
        · have E3 := Lib.hid (E1.out hxy)
          clear E1 E2
          subst hxy
          go_wp2_with fail
          go_quiet (fail)
          go_wp2
          go_roundw
          case rel => exact ⟨k+1, by omega, by go_num, E3.out, hb.drewN _⟩
          case measure => simp [intOf]; omega
        · have e1 : Hid (decide (xs = ys) = false) := by show decide (xs = ys) = false; simpa using E2.out hlt hlt2 hxy
          have hxy' : (x != y) = true := by simpa using hxy
          clear hxy
          go_wp2_with fail
          go_quiet (fail)
          go_wp2
          go_ret
          exact ⟨by rw [e1.out]; rfl, hb.drewN _⟩
      · have HA := Lib.hid ha; clear ha
        have e1 : Hid (decide (xs = ys) = true) := by
          show decide (xs = ys) = true
          have h1 := HA.out
          rw [List.take_of_length_le (by omega), List.take_of_length_le (by rw [← HL.out]; omega)] at h1
          simpa using h1
        go_wp2_with fail
        go_ret
        exact ⟨by rw [e1.out]; rfl, hb⟩
  · have e1 : Hid (decide (xs = ys) = false) := by show decide (xs = ys) = false; simp; rintro rfl; exact hl rfl
    have hl' : ((xs.length : Int) != ys.length) = true := by simpa using hl
    clear hl
    go_enter Try.func43, Try.ntmps43
    go_wp2_with fail
    go_ret
    exact ⟨by rw [e1.out]; rfl, Bel.rfl' _⟩
theorem sameInts_v (l h l' h' : Nat) (v u : Value) (xs ys : List Int) (q : Bool) (w : World) (he : decide (xs = ys) = q) (hx : xs.length ≤ 1048576) (hy : ys.length ≤ 1048576) (hv : SlI l h w v xs) (hu : SlI l' h' w u ys) :
    Calls Try.prog 43 #[v, u] w (RetV w (.bool q)) := he ▸ sameInts_c l h l' h' v u xs ys w hx hy hv hu
theorem sameInts_same (l h l' h' : Nat) (v u : Value) (xs : List Int) (w : World) (hx : xs.length ≤ 1048576) (hv : SlI l h w v xs) (hu : SlI l' h' w u xs) :
    Calls Try.prog 43 #[v, u] w (RetV w (.bool true)) := sameInts_v l h l' h' v u xs xs true w (by simp) hx hx hv hu

theorem sameTerm_same (l h l' h' : Nat) (v u : Value) (xs : List Int) (w : World) (hx : xs.length ≤ 1048576) (hv : SlI l h w v xs) (hu : SlI l' h' w u xs) :
    Calls Try.prog 73 #[v, u] w (RetV w (.bool true)) := by
  have HC := Lib.hid (sameInts_same l h l' h' v u xs w hx hv hu)
  clear hv hu
  go_enter Try.func73, Try.ntmps73
  go_wp2_with (go_at_call 43; refine HC.out.mono ?_; rintro e w' ⟨rfl, hb1⟩)
  go_ret
  exact ⟨rfl, hb1⟩
end Go.Proofs.Yteegjnobmbcjiaa
end
section
/- Apply, IsUnifier: both functions. -/
namespace Go.Proofs.Yteegjnobmbcjiaa
open Go.RowKit

def unifAns (ar : List Int) (b : List (List Int)) (t r : List Int) : Bool := applyOk ar b t && applyOk ar b r && decide (applyAns ar b t = applyAns ar b r)

set_option maxRecDepth 100000 in
set_option maxHeartbeats 400000 in
theorem iApply_t {l h l' h' l2 h2 : Nat} {v u x : Value} {ar : List Int} {b : List (List Int)} {t : List Int} {w : World} (ha : ar.length ≤ 1048576) (hv : SlI l h w v ar) (hb : short b) (hu : SlS l' h' w u b) (ht : t.length ≤ 1048576) (hx : SlI l2 h2 w x t) :
    Calls Try.prog 45 #[.agg #[v], u, x] w (RetIB w (applyAns ar b t) (applyOk ar b t)) := by
  cases hs : goodSubst ar b with
  | false =>
    have E := Lib.hid (applyAns_no (show applyOk ar b t = false by simp [applyOk, hs]))
    have E2 : Hid (applyOk ar b t = false) := by show _ = _; simp [applyOk, hs]
    have HS := Lib.hid hs; clear hs
    go_enter Try.func45, Try.ntmps45
    go_wp2_with fail
    refine (iGoodSubst_v _ _ _ _ _ _ _ _ _ _ HS.out ha (hv.alloc _) hb (hu.alloc _)).mono ?_; rintro e w1 ⟨rfl, hb1⟩
    go_wp2_with fail
    go_ret2
    exact ⟨_, _, _, by rw [E2.out]; rfl, by rw [E.out]; exact OwnI.nil _ _ _, hb1.of_alloc⟩
  | true =>
    have hg := (goodSubst_iff.1 hs).1
    cases htt : okTerm ar t with
    | false =>
      have E := Lib.hid (applyAns_no (show applyOk ar b t = false by simp [applyOk, htt]))
      have E2 : Hid (applyOk ar b t = false) := by show _ = _; simp [applyOk, htt]
      have HS := Lib.hid hs
      have HT := Lib.hid htt
      clear hs htt
      go_enter Try.func45, Try.ntmps45
      go_wp2_with fail
      refine (iGoodSubst_v _ _ _ _ _ _ _ _ _ _ HS.out ha (hv.alloc _) hb (hu.alloc _)).mono ?_; rintro e w1 ⟨rfl, hb1⟩
      have hx1 := boxc hb1 0 _ rfl
      go_wp2_with fail
      refine (iGoodTerm_vv _ _ _ _ _ _ _ _ _ _ HT.out hg ha ht (hv.below hb1.of_alloc) (hx.below hb1.of_alloc)).mono ?_; rintro e w2 ⟨rfl, hb2⟩
      go_wp2_with fail
      go_ret2
      exact ⟨_, _, _, by rw [E2.out]; rfl, by rw [E.out]; exact OwnI.nil _ _ _, (hb1.step hb2).of_alloc⟩
    | true =>
      have hlow := okTerm_low htt
      have ht40 := ((okTerm_iff _ _).1 htt).2.1
      have h40 := goodSubst_len40 hs
      have h12 := (goodSubst_iff.1 hs).2.1
      have E2 : Hid (applyOk ar b t = app40ok b t) := by show _ = _; simp [applyOk, hs, htt]
      have E : Hid (applyAns ar b t = app40 b t) := by
        show _ = _
        have := E2.out
        unfold applyAns
        rw [this]
        unfold app40 app40ok
        by_cases h : 40 < (appT b t).length <;> simp [h]
      have HS := Lib.hid hs
      have HT := Lib.hid htt
      clear hs htt
      go_enter Try.func45, Try.ntmps45
      go_wp2_with fail
      refine (iGoodSubst_v _ _ _ _ _ _ _ _ _ _ HS.out ha (hv.alloc _) hb (hu.alloc _)).mono ?_; rintro e w1 ⟨rfl, hb1⟩
      have hx1 := boxc hb1 0 _ rfl
      go_wp2_with fail
      refine (iGoodTerm_vv _ _ _ _ _ _ _ _ _ _ HT.out hg ha ht (hv.below hb1.of_alloc) (hx.below hb1.of_alloc)).mono ?_; rintro e w2 ⟨rfl, hb2⟩
      have hb12 := hb1.step hb2
      go_wp2_with fail
      refine (applied_c _ _ _ _ _ _ b t _ h12 h40 (by omega) hlow (hu.below hb12.of_alloc) (hx.below hb12.of_alloc)).mono ?_; rintro e w3 ⟨ao, no, co, rfl, ho, hb3⟩
      go_wp2_with fail
      go_ret2
      exact ⟨_, _, _, by rw [E2.out]; rfl, by rw [E.out]; exact ho.mono (by have := hb12.size; simp at this; omega) (Nat.le_refl _), (hb12.step hb3).of_alloc⟩

end Go.Proofs.Yteegjnobmbcjiaa
end
section
/- RenameOf: both functions. -/
namespace Go.Proofs.Yteegjnobmbcjiaa
open Go.RowKit

def renameOk (ar : List Int) (b : List (List Int)) : Bool := goodSign ar && decide (b.length ≤ 20) && b.all (okTerm ar)
def renameAns (ar : List Int) (b : List (List Int)) : List (List Int) := if renameOk ar b then renS [] b else []
theorem renameAns_no {ar : List Int} {b : List (List Int)} (h : renameOk ar b = false) : renameAns ar b = [] := by simp [renameAns, h]
theorem renameAns_yes {ar : List Int} {b : List (List Int)} (h : renameOk ar b = true) : renameAns ar b = renS [] b := by simp [renameAns, h]
theorem renameOk_iff {ar : List Int} {b : List (List Int)} : renameOk ar b = true ↔ goodSign ar = true ∧ b.length ≤ 20 ∧ ∀ t ∈ b, okTerm ar t = true := by
  simp only [renameOk, Bool.and_eq_true, decide_eq_true_eq, List.all_eq_true]
  constructor
  · rintro ⟨⟨h1, h2⟩, h3⟩; exact ⟨h1, h2, h3⟩
  · rintro ⟨h1, h2, h3⟩; exact ⟨⟨h1, h2⟩, h3⟩
theorem renameOk_rows {ar : List Int} {b : List (List Int)} (h : renameOk ar b = true) : rows40 b := by
  obtain ⟨_, h2, h3⟩ := renameOk_iff.1 h
  refine ⟨h2, fun j hj => ?_⟩
  have ho := h3 (b.getD j []) (by simp [List.getD, hj])
  exact ⟨((okTerm_iff _ _).1 ho).2.1, okTerm_low ho⟩
theorem sumL_le40 (l : List (List Int)) (h : ∀ t ∈ l, t.length ≤ 40) : sumL l ≤ 40 * l.length := by
  unfold sumL
  induction l with
  | nil => simp
  | cons x r ih =>
    have h1 := ih (fun t ht => h t (List.mem_cons_of_mem _ ht))
    have h2 := h x List.mem_cons_self
    simp only [List.map_cons, List.sum_cons, List.length_cons]
    omega
theorem renS_lens (met : List Int) (l : List (List Int)) (h : ∀ t ∈ l, t.length ≤ 40) : ∀ t ∈ renS met l, t.length ≤ 40 := by
  induction l generalizing met with
  | nil => intro t ht; simp [renS] at ht
  | cons x r ih =>
    intro t ht
    simp only [renS, List.mem_cons] at ht
    rcases ht with rfl | ht
    · rw [renT_len]; exact h x List.mem_cons_self
    · exact ih _ (fun t ht => h t (List.mem_cons_of_mem _ ht)) t ht
theorem renameAns_len (ar : List Int) (b : List (List Int)) : tot (renameAns ar b) ≤ 1048576 := by
  unfold renameAns
  split
  · rename_i h
    have hr := renameOk_rows h
    have h1 := sumL_le40 _ (renS_lens [] b hr.mem)
    have h2 := hr.1
    unfold tot
    rw [renS_len] at h1 ⊢
    omega
  · simp [tot, sumL]

end Go.Proofs.Yteegjnobmbcjiaa
end
section
/- PartAt, ReplaceAt: both functions. -/
namespace Go.Proofs.Yteegjnobmbcjiaa
open Go.RowKit

theorem l1End_v (l h l' h' : Nat) (v u : Value) (ar t : List Int) (i q : Nat) (w : World) (he : endOf ar t i = some q) (hg : goodSign ar = true) (ht : t.length ≤ 1048576) (hi : i ≤ t.length) (hv : SlI l h w v ar) (hu : SlI l' h' w u t) :
    Calls Try.prog 141 #[.agg #[v], u, .int .i64 i] w (RetV w (.int .i64 q)) := endI_some he ▸ l1End_c l h l' h' v u ar t i w hg ht hi hv hu
theorem termEnd_v (l h l' h' : Nat) (v u : Value) (ar t : List Int) (i q : Nat) (w : World) (he : endOf ar t i = some q) (hg : goodSign ar = true) (ht : t.length ≤ 1048576) (hi : i ≤ t.length) (hv : SlI l h w v ar) (hu : SlI l' h' w u t) :
    Calls Try.prog 138 #[.agg #[v], u, .int .i64 i] w (RetV w (.tuple #[.int .i64 q, .bool true])) := endP_some he ▸ termEnd_c l h l' h' v u ar t i w hg ht hi hv hu

/-- What PartAt answers. -/
def partAns (ar t : List Int) (i : Int) : List Int := if askOk ar t i then partOf t i.toNat ((endOf ar t i.toNat).getD 0) else []
theorem partAns_yes {ar t : List Int} {k q : Nat} (h : askOk ar t k = true) (he : endOf ar t k = some q) : partAns ar t k = partOf t k q := by simp [partAns, h, he]
theorem partAns_len (ar t : List Int) (i : Int) : (partAns ar t i).length ≤ 1048576 := by
  unfold partAns
  split
  · rename_i h
    obtain ⟨k, e, rfl, hk, he, _, hle, hl, _, _⟩ := ask_yes h
    simp only [Int.toNat_natCast, he, Option.getD_some]
    rw [partOf_len t k e hle]
    omega
  · exact Nat.zero_le _

theorem replaced_len_le (t r : List Int) (i q : Nat) (ht : t.length ≤ 1048576) (hr : r.length ≤ 1048576) : (replaced t i q r).length ≤ 1099511627776 := by
  simp [replaced]; omega

end Go.Proofs.Yteegjnobmbcjiaa
end
section
/- CountOf, ShiftVars: both functions. -/
namespace Go.Proofs.Yteegjnobmbcjiaa
open Go.RowKit

def cntI (t : List Int) (n : Int) : Nat := (t.filter (· == n)).length
theorem cntI_le (t : List Int) (n : Int) : cntI t n ≤ t.length := List.length_filter_le _ _
theorem cntI_yes (t : List Int) (n : Int) (k : Nat) (hk : k < t.length) (h : t.getD k 0 = n) : cntI (t.take (k+1)) n = cntI (t.take k) n + 1 := by
  unfold cntI
  rw [List.take_succ_eq_append_getElem hk, List.filter_append, List.length_append]
  have : (t[k] == n) = true := by simp [List.getD, hk] at h; simp [h]
  simp [this]
theorem cntI_no (t : List Int) (n : Int) (k : Nat) (hk : k < t.length) (h : t.getD k 0 ≠ n) : cntI (t.take (k+1)) n = cntI (t.take k) n := by
  unfold cntI
  rw [List.take_succ_eq_append_getElem hk, List.filter_append, List.length_append]
  have : (t[k] == n) = false := by simp [List.getD, hk] at h; simp [h]
  simp [this]

def countAns (ar t : List Int) (n : Int) : Int := if goodTerm ar t then cntI t n else 0
theorem count_no {ar t : List Int} {n : Int} (h : goodTerm ar t = false) : countAns ar t n = 0 := by simp [countAns, h]
theorem count_yes {ar t : List Int} {n : Int} (h : goodTerm ar t = true) : countAns ar t n = cntI t n := by simp [countAns, h]

/-! ### ShiftVars -/
def shiftOne (d x : Int) : Int := if x < 0 then x - d else x
def shifted (t : List Int) (d : Int) : List Int := t.map (shiftOne d)
def mapDone (f : Int → Int) (t : List Int) (k : Nat) : List Int := (t.take k).map f ++ t.drop k
theorem mapDone_zero (f : Int → Int) (t : List Int) : mapDone f t 0 = t := by simp [mapDone]
theorem mapDone_len (f : Int → Int) (t : List Int) (k : Nat) : (mapDone f t k).length = t.length := by simp [mapDone]; omega
theorem mapDone_get (f : Int → Int) (t : List Int) (k : Nat) (h : k < t.length) : (mapDone f t k).getD k 0 = t.getD k 0 := by
  unfold mapDone
  have hl : ((t.take k).map f).length = k := by simp; omega
  simp only [List.getD]
  rw [List.getElem?_append_right (by omega), hl, Nat.sub_self]
  simp
theorem mapDone_succ (f : Int → Int) (t : List Int) (k : Nat) (h : k < t.length) : (mapDone f t k).set k (f (t.getD k 0)) = mapDone f t (k+1) := by
  unfold mapDone
  have hl : ((t.take k).map f).length = k := by simp; omega
  rw [List.set_append_right _ _ (by omega), hl, Nat.sub_self, List.drop_eq_getElem_cons h, List.set_cons_zero, List.take_succ_eq_append_getElem h, List.map_append, List.append_assoc]
  simp [List.getD, h]
theorem mapDone_same (f : Int → Int) (t : List Int) (k : Nat) (h : k < t.length) (e : f (t.getD k 0) = t.getD k 0) : mapDone f t k = mapDone f t (k+1) := by
  have h1 : k < (mapDone f t k).length := by rw [mapDone_len]; exact h
  have h2 : t.getD k 0 = (mapDone f t k)[k] := by rw [← mapDone_get f t k h]; simp [List.getD, h1]
  rw [← mapDone_succ f t k h, e, h2, List.set_getElem_self]
theorem mapDone_all (f : Int → Int) (t : List Int) (k : Nat) (h : ¬ k < t.length) : mapDone f t k = t.map f := by
  unfold mapDone; rw [List.take_of_length_le (by omega), List.drop_eq_nil_of_le (by omega), List.append_nil]

/-- The cell, the mark and the next state at a place of a slice of the call's own. -/
theorem OwnI.at {lo hi : Nat} {w : World} {ad : Option Addr} {n c : Nat} {xs : List Int} (h : OwnI lo hi w (.slice ad n c) xs) (j : Nat) (hj : j < xs.length) :
    ∃ b off, ad = some ⟨b, off, none⟩ ∧ lo ≤ b ∧ b < hi ∧ w.cell? ⟨b, off + j, none⟩ = some (.int .i64 (xs.getD j 0)) ∧ w.frozen? ⟨b, off + j, none⟩ = false ∧
      ∀ x : Int, OwnI lo hi (w.setCell ⟨b, off + j, none⟩ (.int .i64 x)) (.slice (some ⟨b, off, none⟩) n c) (xs.set j x) := by
  have h0 := h
  obtain ⟨⟨ad', cap, e, hc, hm, hr⟩, hf⟩ := h
  obtain ⟨b, off, rfl, a1, a2, a3⟩ := hr (by omega)
  simp only [Value.slice.injEq] at e
  obtain ⟨rfl, rfl, rfl⟩ := e
  exact ⟨b, off, rfl, a1, a2, a3 j hj, hf b off _ _ rfl (by omega) j, fun x => h0.stored j hj x⟩

def shiftOk (ar t : List Int) (d : Int) : Bool := goodTerm ar t && inB d 0 12 && okTerm ar (shifted t d)
def shiftAns (ar t : List Int) (d : Int) : List Int := if shiftOk ar t d then shifted t d else []
theorem shifted_len (t : List Int) (d : Int) : (shifted t d).length = t.length := by simp [shifted]
theorem shiftAns_len (ar t : List Int) (d : Int) : (shiftAns ar t d).length ≤ 1048576 := by
  unfold shiftAns
  split
  · rename_i h
    simp only [shiftOk, Bool.and_eq_true] at h
    have := ((okTerm_iff _ _).1 h.2).2.1
    omega
  · exact Nat.zero_le _
theorem shift_no {ar t : List Int} {d : Int} (h : shiftOk ar t d = false) : shiftAns ar t d = [] := by simp [shiftAns, h]
theorem shift_yes {ar t : List Int} {d : Int} (h : shiftOk ar t d = true) : shiftAns ar t d = shifted t d := by simp [shiftAns, h]
theorem good_low {ar t : List Int} (h : goodTerm ar t = true) : t.length ≤ 40 ∧ ∀ k, k < t.length → -12 ≤ t.getD k 0 := by
  obtain ⟨_, h2⟩ := goodTerm_iff.1 h
  refine ⟨((okTerm_iff _ _).1 h2).2.1, fun k hk => ?_⟩
  have := good_sym ar t h2 k hk
  simp [okSym, inB] at this
  simp only [List.getD]
  omega

end Go.Proofs.Yteegjnobmbcjiaa
end
