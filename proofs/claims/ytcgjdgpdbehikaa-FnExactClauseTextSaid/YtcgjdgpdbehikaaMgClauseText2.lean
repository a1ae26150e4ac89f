/- Texts merged, part 2. -/
import Derived.Maps.AppendAt
import Derived.Test.YtcgjdgpdbehikaaMgClauseText1
section
namespace Go.Proofs.Ytcgjdgpdbehikaa
open Go.RowKit

def endP (ar t : List Int) (i : Nat) : Value := match endOf ar t i with | none => .tuple #[.int .i64 0, .bool false] | some e => .tuple #[.int .i64 e, .bool true]
theorem endP_none {ar t : List Int} {i : Nat} (h : endOf ar t i = none) : endP ar t i = .tuple #[.int .i64 0, .bool false] := by simp [endP, h]
theorem endP_some {ar t : List Int} {i e : Nat} (h : endOf ar t i = some e) : endP ar t i = .tuple #[.int .i64 e, .bool true] := by simp [endP, h]

set_option maxRecDepth 100000 in
set_option maxHeartbeats 1000000 in
theorem termEnd_c (l h l' h' : Nat) (v u : Value) (ar t : List Int) (i : Nat) (w : World) (hg : goodSign ar = true) (ht : t.length ≤ 1048576) (hi : i ≤ t.length) (hv : SlI l h w v ar) (hu : SlI l' h' w u t) :
    Calls Try.prog 43 #[.agg #[v], u, .int .i64 i] w (RetV w (endP ar t i)) := by
  obtain ⟨ad, cap, rfl, -, -, hr⟩ := hv
  obtain ⟨ad', cap', rfl, -, -, hr'⟩ := hu
  have hlen := sign_len ar hg
  go_enter Try.func43, Try.ntmps43
  go_wp2_with fail
  go_step3
  go_wp2_with fail
  go_step3
  go_wp2_with fail
  go_loopw [8, 9] (fun n a wr => ∃ p m : Nat, p ≤ t.length ∧ m ≤ 3 * p ∧ a = .int .i64 p ∧ n = .int .i64 ((m : Int) + 1) ∧ endGo ar (t.drop p) (m + 1) p = endOf ar t i ∧ Bel (w.alloc (.cells #[.slice ad ar.length cap] 30)) wr) (fun _ a _ => t.length + 1 - (intOf a).toNat)
  case atStart => exact ⟨i, 0, hi, by omega, rfl, rfl, rfl, Bel.rfl' _⟩
  case round =>
    obtain ⟨p, m, hp, hm, rfl, rfl, hgo, hb⟩ := hrel
    have hbox := boxc hb 0 _ rfl
    by_cases hlt : p < t.length
    · obtain ⟨b', off', rfl, -, hcell'⟩ := rd hr' hb.of_alloc p hlt
      have E1 := go_step_ok hgo hlt
      have E2 := go_step_no hgo hlt
      have ha3 := arOf_le ar hg (t.getD p 0)
      clear hgo hr'
      generalize t.getD p 0 = x at *
      cases hs : okSym ar x with
      | false =>
        have E := Lib.hid (endP_none (E2 hs))
        have hs2 : (0 ≤ x ∧ (ar.length : Int) ≤ x) ∨ (x < 0 ∧ x < -12) := by simp [okSym, inB] at hs; omega
        clear E1 E2 hs
        rcases hs2 with ⟨h1, h2⟩ | ⟨h1, h2⟩
        · have h3 : decide (x ≥ 0) = true := by simpa using h1
          have h4 : decide (x < 0) = false := by simp; omega
          go_wp2_with fail
          try rw [Exit.noGoto_ret]
          go_ret2
          exact ⟨by rw [E.out]; rfl, hb.of_alloc⟩
        · have h3 : decide (x ≥ 0) = false := by simp; omega
          go_wp2_with fail
          try rw [Exit.noGoto_ret]
          go_ret2
          exact ⟨by rw [E.out]; rfl, hb.of_alloc⟩
      | true =>
        by_cases hx : x < 0
        · have E := E1 hs
          rw [arOf_neg hx] at E
          have hs2 : -12 ≤ x := by simp [okSym, inB] at hs; omega
          clear hs E1 E2
          have hx' : decide (x ≥ 0) = false := by simp; omega
          cases m with
          | zero =>
            have EE := Lib.hid (endP_some (go_step_done E))
            clear E
            go_wp2_with fail
            try rw [Exit.noGoto_ret]
            go_ret2
            exact ⟨by rw [EE.out]; rfl, hb.of_alloc⟩
          | succ m =>
            have EE := Lib.hid E
            clear E
            rw [show ((m + 1 : Nat) : Int) = (m : Int) + 1 from by omega]
            go_wp2_with fail
            go_roundw
            case rel => exact ⟨p+1, m, by omega, by omega, by go_num, by go_num, EE.out, hb⟩
            case measure => simp [intOf]; omega
        · obtain ⟨k, rfl⟩ : ∃ k : Nat, x = k := ⟨x.toNat, by omega⟩
          have E := E1 hs
          have hk := okSym_lt hs
          clear hs
          obtain ⟨b, off, rfl, -, hcell⟩ := rd hr hb.of_alloc k hk
          have hn := ar_nonneg ar hg k
          rw [arOf_nat] at E
          clear hr E1 E2 ha3
          obtain ⟨q, hq⟩ : ∃ q : Nat, ar.getD k 0 = q := ⟨(ar.getD k 0).toNat, by omega⟩
          rw [hq] at hcell E hn
          rw [show ((q : Int)).toNat = q from by omega] at E
          clear hq
          have hk2 : (k : Int) < ar.length := by omega
          have h3 : decide ((k : Int) ≥ 0) = true := by simp
          by_cases hz : m + q < 1
          · rw [show m + q = 0 from by omega] at E
            have EE := Lib.hid (endP_some (go_step_done E))
            clear E
            go_wp2_with fail
            try rw [Exit.noGoto_ret]
            go_ret2
            exact ⟨by rw [EE.out]; rfl, hb.of_alloc⟩
          · have E' : endGo ar (t.drop (p+1)) ((m + q - 1) + 1) (p+1) = endOf ar t i := by rw [← E]; congr 1; omega
            have EE := Lib.hid E'
            clear E E'
            go_wp2_with fail
            go_roundw
            case rel => exact ⟨p+1, m + q - 1, by omega, by omega, by go_num, by go_num, EE.out, hb⟩
            case measure => simp [intOf]; omega
    · have E := Lib.hid (endP_none (go_step_end hgo hlt))
      clear hgo
      go_wp2_with fail
      try rw [Exit.noGoto_ret]
      go_ret2
      exact ⟨by rw [E.out]; rfl, hb.of_alloc⟩
end Go.Proofs.Ytcgjdgpdbehikaa
end
section
namespace Go.Proofs.Ytcgjdgpdbehikaa
open Go.RowKit

theorem sGoodSign_v (l h : Nat) (v : Value) (xs : List Int) (b : Bool) (w : World) (he : goodSign xs = b) (hx : xs.length ≤ 1048576) (hv : SlI l h w v xs) :
    Calls Try.prog 22 #[.agg #[v]] w (RetV w (.bool b)) := he ▸ sGoodSign_c l h v xs w hx hv
theorem iGoodSign_v (l h : Nat) (v : Value) (xs : List Int) (b : Bool) (w : World) (he : goodSign xs = b) (hx : xs.length ≤ 1048576) (hv : SlI l h w v xs) :
    Calls Try.prog 33 #[.agg #[v]] w (RetV w (.bool b)) := he ▸ iGoodSign_c l h v xs w hx hv

theorem okTerm_short {ar t : List Int} (h : inB t.length 1 40 = false) : okTerm ar t = false := by simp [okTerm, h]
theorem okTerm_eq {ar t : List Int} (h : inB t.length 1 40 = true) : okTerm ar t = (endI ar t 0 == (t.length : Int)) := by
  simp only [okTerm, h, Bool.true_and, endI]
  cases endOf ar t 0 with
  | none => simp
  | some e => simp; rw [Bool.eq_iff_iff]; simp; omega

theorem l1Term_c (l h l' h' : Nat) (v u : Value) (ar t : List Int) (w : World) (hg : goodSign ar = true) (ht : t.length ≤ 1048576) (hv : SlI l h w v ar) (hu : SlI l' h' w u t) :
    Calls Try.prog 41 #[.agg #[v], u] w (RetV w (.bool (okTerm ar t))) := by
  have hu0 := hu
  obtain ⟨ad', cap', rfl⟩ := hu.form
  cases hs : inB t.length 1 40 with
  | false =>
    have E := Lib.hid (okTerm_short (ar := ar) hs)
    have HS := Lib.hid hs; clear hs
    go_enter Try.func41, Try.ntmps41
    go_wp2_with (go_at_call 29; refine (l1In_f _ _ _ _ HS.out).mono ?_; rintro e w' ⟨rfl, hb1⟩)
    go_ret
    exact ⟨by rw [E.out]; rfl, hb1.of_alloc⟩
  | true =>
    have E := Lib.hid (okTerm_eq (ar := ar) hs)
    have HS := Lib.hid hs; clear hs
    have hc := l1End_c l h l' h' v (.slice ad' t.length cap') ar t 0
    have HC := Lib.hid hc; clear hc
    generalize endI ar t 0 = r at *
    go_enter Try.func41, Try.ntmps41
    go_wp2_with fail
    refine (l1In_t _ _ _ _ HS.out).mono ?_; rintro e w' ⟨rfl, hb1⟩
    have hx1 := boxc hb1 0 _ rfl
    go_wp2_with fail
    refine (HC.out _ hg ht (by omega) (hv.below hb1.of_alloc) (hu0.below hb1.of_alloc)).mono ?_; rintro e w2 ⟨rfl, hb2⟩
    go_wp2_with fail
    go_ret
    exact ⟨by rw [E.out]; rfl, hb1.of_alloc.step hb2⟩
theorem l1Term_v (l h l' h' : Nat) (v u : Value) (ar t : List Int) (b : Bool) (w : World) (he : okTerm ar t = b) (hg : goodSign ar = true) (ht : t.length ≤ 1048576) (hv : SlI l h w v ar) (hu : SlI l' h' w u t) :
    Calls Try.prog 41 #[.agg #[v], u] w (RetV w (.bool b)) := he ▸ l1Term_c l h l' h' v u ar t w hg ht hv hu

theorem goodTerm_iff {ar t : List Int} : goodTerm ar t = true ↔ goodSign ar = true ∧ okTerm ar t = true := by simp [goodTerm]
theorem good_long {ar t : List Int} (h : 40 < t.length) : goodTerm ar t = false := by
  simp [goodTerm, okTerm, inB]; omega

theorem iGoodTerm_c (l h l' h' : Nat) (v u : Value) (ar t : List Int) (w : World) (ha : ar.length ≤ 1048576) (ht : t.length ≤ 1048576) (hv : SlI l h w v ar) (hu : SlI l' h' w u t) :
    Calls Try.prog 34 #[.agg #[v], u] w (RetV w (.bool (goodTerm ar t))) := by
  have hu0 := hu
  obtain ⟨ad', cap', rfl⟩ := hu.form
  by_cases hl : 40 < t.length
  · have E := Lib.hid (good_long (ar := ar) hl)
    go_enter Try.func34, Try.ntmps34
    go_wp2_with fail
    go_ret
    exact ⟨by rw [E.out]; rfl, Bel.alloc0 _ _⟩
  · cases hs : goodSign ar with
    | false =>
      have E : Hid (goodTerm ar t = false) := by show goodTerm ar t = false; simp [goodTerm, hs]
      have HS := Lib.hid hs; clear hs
      go_enter Try.func34, Try.ntmps34
      go_wp2_with fail
      refine (iGoodSign_v _ _ _ _ _ _ HS.out ha (hv.alloc _)).mono ?_; rintro e w' ⟨rfl, hb1⟩
      go_wp2_with fail
      go_ret
      exact ⟨by rw [E.out]; rfl, hb1.of_alloc⟩
    | true =>
      have E : Hid (goodTerm ar t = okTerm ar t) := by show goodTerm ar t = okTerm ar t; simp [goodTerm, hs]
      have hc := termEnd_c l h l' h' v (.slice ad' t.length cap') ar t 0
      have HS := Lib.hid hs; clear hs
      cases he : endOf ar t 0 with
      | none =>
        have HC := Lib.hid (fun w a b c d e => endP_none he ▸ hc w a b c d e)
        have E2 : Hid (okTerm ar t = false) := by show okTerm ar t = false; simp [okTerm, he]
        clear hc he
        go_enter Try.func34, Try.ntmps34
        go_wp2_with fail
        refine (iGoodSign_v _ _ _ _ _ _ HS.out ha (hv.alloc _)).mono ?_; rintro e w' ⟨rfl, hb1⟩
        have hx1 := boxc hb1 0 _ rfl
        go_wp2_with fail
        refine (HC.out _ HS.out ht (by omega) (hv.below hb1.of_alloc) (hu0.below hb1.of_alloc)).mono ?_; rintro e w2 ⟨rfl, hb2⟩
        go_wp2_with fail
        go_ret
        exact ⟨by rw [E.out, E2.out]; rfl, hb1.of_alloc.step hb2⟩
      | some q =>
        have HC := Lib.hid (fun w a b c d e => endP_some he ▸ hc w a b c d e)
        have E2 : Hid (okTerm ar t = ((q : Int) == (t.length : Int))) := by
          show okTerm ar t = _
          have hq := endGo_gt ar (t.drop 0) 0 0 q he
          have hq2 := endGo_ge ar (t.drop 0) 1 0 q he
          simp at hq2
          rw [Bool.eq_iff_iff]
          simp only [okTerm, inB, he, Bool.and_eq_true, decide_eq_true_eq, beq_iff_eq, Option.some.injEq]
          omega
        clear hc he
        go_enter Try.func34, Try.ntmps34
        go_wp2_with fail
        refine (iGoodSign_v _ _ _ _ _ _ HS.out ha (hv.alloc _)).mono ?_; rintro e w' ⟨rfl, hb1⟩
        have hx1 := boxc hb1 0 _ rfl
        go_wp2_with fail
        refine (HC.out _ HS.out ht (by omega) (hv.below hb1.of_alloc) (hu0.below hb1.of_alloc)).mono ?_; rintro e w2 ⟨rfl, hb2⟩
        go_wp2_with fail
        go_ret
        exact ⟨by rw [E.out, E2.out]; rfl, hb1.of_alloc.step hb2⟩
theorem iGoodTerm_v (l h l' h' : Nat) (v u : Value) (ar t : List Int) (b : Bool) (w : World) (he : goodTerm ar t = b) (ha : ar.length ≤ 1048576) (ht : t.length ≤ 1048576) (hv : SlI l h w v ar) (hu : SlI l' h' w u t) :
    Calls Try.prog 34 #[.agg #[v], u] w (RetV w (.bool b)) := he ▸ iGoodTerm_c l h l' h' v u ar t w ha ht hv hu

/-- A valid term and an index in it. -/
def askOk (ar t : List Int) (i : Int) : Bool := goodTerm ar t && inB i 0 ((t.length : Int) - 1)
theorem askOk_iff {ar t : List Int} {i : Int} : askOk ar t i = true ↔ goodTerm ar t = true ∧ 0 ≤ i ∧ i < t.length := by
  simp [askOk, inB]; omega

/-- What EndOf answers. -/
def endN (ar t : List Int) (i : Int) : Int := if askOk ar t i then endI ar t i.toNat else 0
def endAns (ar t : List Int) (i : Int) : Value := .tuple #[.int .i64 (endN ar t i), .bool (askOk ar t i)]
theorem endAns_no {ar t : List Int} {i : Int} (h : askOk ar t i = false) : endAns ar t i = .tuple #[.int .i64 0, .bool false] := by simp [endAns, endN, h]
/-- An index that is asked for: as a natural number, with the end of its subterm. -/
theorem ask_yes {ar t : List Int} {i : Int} (h : askOk ar t i = true) : ∃ k e : Nat, i = k ∧ k < t.length ∧ endOf ar t k = some e ∧ k < e ∧ e ≤ t.length ∧ t.length ≤ 40 ∧ goodSign ar = true ∧ okTerm ar t = true := by
  obtain ⟨h1, h2, h3⟩ := askOk_iff.1 h
  obtain ⟨h4, h5⟩ := goodTerm_iff.1 h1
  obtain ⟨k, rfl⟩ : ∃ k : Nat, i = k := ⟨i.toNat, by omega⟩
  obtain ⟨e, he, hl, hu⟩ := good_end ar t h5 k (by omega)
  exact ⟨k, e, rfl, by omega, he, hl, hu, ((okTerm_iff ar t).1 h5).2.1, h4, h5⟩
theorem endAns_yes {ar t : List Int} {k e : Nat} (h : askOk ar t k = true) (he : endOf ar t k = some e) : endAns ar t k = .tuple #[.int .i64 e, .bool true] := by simp [endAns, endN, h, endI, he]

theorem sGoodSign_t {l h : Nat} {v : Value} {ar : List Int} {w : World} (ha : ar.length ≤ 1048576) (hv : SlI l h w v ar) :
    Calls Try.prog 22 #[.agg #[v]] w (RetV w (.bool (goodSign ar))) := sGoodSign_c l h v ar w ha hv
theorem iGoodSign_t {l h : Nat} {v : Value} {ar : List Int} {w : World} (ha : ar.length ≤ 1048576) (hv : SlI l h w v ar) :
    Calls Try.prog 33 #[.agg #[v]] w (RetV w (.bool (goodSign ar))) := iGoodSign_c l h v ar w ha hv
theorem iGoodTerm_t {l h l' h' : Nat} {v u : Value} {ar t : List Int} {w : World} (ha : ar.length ≤ 1048576) (hv : SlI l h w v ar) (ht : t.length ≤ 1048576) (hu : SlI l' h' w u t) :
    Calls Try.prog 34 #[.agg #[v], u] w (RetV w (.bool (goodTerm ar t))) := iGoodTerm_c l h l' h' v u ar t w ha ht hv hu
end Go.Proofs.Ytcgjdgpdbehikaa
end
section
/- GoodSubst: both functions. -/
namespace Go.Proofs.Ytcgjdgpdbehikaa
open Go.RowKit

def okEmpty (ar t : List Int) : Bool := t.isEmpty || okTerm ar t
def goodSubst (ar : List Int) (b : List (List Int)) : Bool := goodSign ar && (b.length == 12) && b.all (okEmpty ar)

theorem iGoodTerm_vv (l h l' h' : Nat) (v u : Value) (ar t : List Int) (b : Bool) (w : World) (he : okTerm ar t = b) (hg : goodSign ar = true) (ha : ar.length ≤ 1048576) (ht : t.length ≤ 1048576) (hv : SlI l h w v ar) (hu : SlI l' h' w u t) :
    Calls Try.prog 34 #[.agg #[v], u] w (RetV w (.bool b)) := iGoodTerm_v l h l' h' v u ar t b w (by simp [goodTerm, hg, he]) ha ht hv hu
theorem all_falseS (xs : List (List Int)) (p : List Int → Bool) (k : Nat) (hk : k < xs.length) (h : p (xs.getD k []) = false) : xs.all p = false := by
  rw [List.all_eq_false]
  exact ⟨xs[k], List.getElem_mem hk, by simpa [List.getD, hk] using h⟩
theorem all_splitS (xs : List (List Int)) (p : List Int → Bool) (k : Nat) (hk : k < xs.length) (h : (xs.take k).all p = true) : (xs.take (k+1)).all p = p (xs.getD k []) := by
  rw [List.take_succ_eq_append_getElem hk, List.all_append, h]
  simp [List.getD, hk]
theorem all_doneS (xs : List (List Int)) (p : List Int → Bool) (k : Nat) (hk : k ≤ xs.length) (h1 : ¬ k < xs.length) (h : (xs.take k).all p = true) : xs.all p = true := by
  obtain rfl : k = xs.length := by omega
  rwa [List.take_length] at h
theorem okEmpty_nil {ar t : List Int} (h : ¬ 0 < t.length) : okEmpty ar t = true := by rw [len0 h]; rfl
theorem okEmpty_pos {ar t : List Int} (h : 0 < t.length) : okEmpty ar t = okTerm ar t := by
  unfold okEmpty
  cases t with
  | nil => simp at h
  | cons x r => simp

end Go.Proofs.Ytcgjdgpdbehikaa
end
section
/- Lists of terms that are valid: both functions; the reference's also at signs that are not. -/
namespace Go.Proofs.Ytcgjdgpdbehikaa
open Go.RowKit

def goodTerms (ar : List Int) (b : List (List Int)) (m : Nat) : Bool := goodSign ar && decide (b.length ≤ m) && b.all (okTerm ar)
theorem goodTerms_iff {ar : List Int} {b : List (List Int)} {m : Nat} : goodTerms ar b m = true ↔ goodSign ar = true ∧ b.length ≤ m ∧ ∀ t ∈ b, okTerm ar t = true := by
  simp only [goodTerms, Bool.and_eq_true, decide_eq_true_eq, List.all_eq_true]
  constructor
  · rintro ⟨⟨h1, h2⟩, h3⟩; exact ⟨h1, h2, h3⟩
  · rintro ⟨h1, h2, h3⟩; exact ⟨⟨h1, h2⟩, h3⟩

set_option maxRecDepth 100000 in
set_option maxHeartbeats 400000 in
theorem goodTerms_c (l h l' h' : Nat) (v u : Value) (ar : List Int) (b : List (List Int)) (m : Nat) (w : World) (hmm : m ≤ 1000) (ha : ar.length ≤ 1048576) (hv : SlI l h w v ar) (hb : short b) (hu : SlS l' h' w u b) :
    Calls Try.prog 25 #[.agg #[v], u, .int .i64 m] w (RetV w (.bool (goodTerms ar b m))) := by
  obtain ⟨ad', cap', rfl⟩ := hu.form
  obtain ⟨-, hm⟩ := hb
  by_cases hl : b.length ≤ m
  · have hl2 : decide (m < b.length) = false := by simp; omega
    cases hs : goodSign ar with
    | false =>
      have E : Hid (goodTerms ar b m = false) := by show _ = _; simp [goodTerms, hs]
      have HS := Lib.hid hs; clear hs
      go_enter Try.func25, Try.ntmps25
      go_wp2_with fail
      refine (iGoodSign_v _ _ _ _ _ _ HS.out ha (hv.alloc _)).mono ?_; rintro e w' ⟨rfl, hb1⟩
      go_wp2_with fail
      go_ret
      exact ⟨by rw [E.out]; rfl, hb1.of_alloc⟩
    | true =>
      have hG : Hid (goodTerms ar b m = b.all (okTerm ar)) := by show _ = _; simp [goodTerms, hs, hl]
      have hg := hs
      have HS := Lib.hid hs; clear hs
      go_enter Try.func25, Try.ntmps25
      go_wp2_with fail
      refine (iGoodSign_v _ _ _ _ _ _ HS.out ha (hv.alloc _)).mono ?_; rintro e w1 ⟨rfl, hb1⟩
      have hbox := boxc hb1 0 _ rfl
      go_wp2_with fail
      go_loopw [20] (fun i wr => ∃ k : Nat, k ≤ b.length ∧ i = .int .i64 k ∧ (b.take k).all (okTerm ar) = true ∧ Bel (w.alloc (.cells #[v] 30)) wr) (fun i _ => b.length - (intOf i).toNat)
      case atStart => exact ⟨0, Nat.zero_le _, rfl, rfl, hb1⟩
      case round =>
        obtain ⟨k, hk, rfl, hall, hb2⟩ := hrel
        have hbox2 := boxc hb2 0 _ rfl
        by_cases hlt : k < b.length
        · obtain ⟨bb, off, p, rfl, -, hc, hp⟩ := hu.at hb2.of_alloc k hlt
          have hmk := hm k hlt
          have hsp := all_splitS b (okTerm ar) k hlt hall
          have hfs := all_falseS b (okTerm ar) k hlt
          clear hm hu hbox hall
          generalize b.getD k [] = t at *
          obtain ⟨ap, cp, rfl⟩ := hp.form
          cases ht : okTerm ar t with
          | false =>
            have E : Hid (goodTerms ar b m = false) := by show _ = _; rw [hG.out]; exact hfs ht
            have HT := Lib.hid ht
            clear ht hsp hfs
            go_wp2_with fail
            refine (iGoodTerm_vv _ _ _ _ _ _ _ _ _ _ HT.out hg ha (by omega) (hv.below hb2.of_alloc) hp).mono ?_; rintro e w2 ⟨rfl, hb3⟩
            go_wp2_with fail
            go_ret
            exact ⟨by rw [E.out]; rfl, hb2.of_alloc.step hb3⟩
          | true =>
            have HA := Lib.hid (hsp.trans ht)
            have HT := Lib.hid ht
            clear ht hsp hfs
            go_wp2_with fail
            refine (iGoodTerm_vv _ _ _ _ _ _ _ _ _ _ HT.out hg ha (by omega) (hv.below hb2.of_alloc) hp).mono ?_; rintro e w2 ⟨rfl, hb3⟩
            go_wp2_with fail
            go_roundw
            case rel => exact ⟨k+1, by omega, by go_num, HA.out, hb2.step hb3⟩
            case measure => simp [intOf]; omega
        · have E : Hid (goodTerms ar b m = true) := by show _ = _; rw [hG.out]; exact all_doneS b _ k hk hlt hall
          clear hall
          go_wp2_with fail
          go_ret
          exact ⟨by rw [E.out]; rfl, hb2.of_alloc⟩
  · have E : Hid (goodTerms ar b m = false) := by show _ = _; simp [goodTerms, hl]
    have hl2 : decide (m < b.length) = true := by simp; omega
    go_enter Try.func25, Try.ntmps25
    go_wp2_with fail
    go_ret
    exact ⟨by rw [E.out]; rfl, Bel.alloc0 _ _⟩
theorem goodTerms_v (l h l' h' : Nat) (v u : Value) (ar : List Int) (b : List (List Int)) (m : Nat) (q : Bool) (w : World) (he : goodTerms ar b m = q) (hmm : m ≤ 1000) (ha : ar.length ≤ 1048576) (hv : SlI l h w v ar) (hb : short b) (hu : SlS l' h' w u b) :
    Calls Try.prog 25 #[.agg #[v], u, .int .i64 m] w (RetV w (.bool q)) := he ▸ goodTerms_c l h l' h' v u ar b m w hmm ha hv hb hu

/-- Whatever the sign: an answer comes. -/
def RetN (w : World) (e : Ending) (w' : World) : Prop := ∃ x : Int, e = .returned (.int .i64 x) ∧ Bel w w'
def RetB (w : World) (e : Ending) (w' : World) : Prop := ∃ b, e = .returned (.bool b) ∧ Bel w w'
theorem l1End_any (l h l' h' : Nat) (v u : Value) (ar t : List Int) (w : World) (ha : ar.length ≤ 1048576) (ht : t.length ≤ 1048576) (hv : SlI l h w v ar) (hu : SlI l' h' w u t) :
    Calls Try.prog 42 #[.agg #[v], u, .int .i64 0] w (RetN w) := by
  obtain ⟨ad, cap, rfl, -, -, hr⟩ := hv
  obtain ⟨ad', cap', rfl, -, -, hr'⟩ := hu
  go_enter Try.func42, Try.ntmps42
  go_wp2_with fail
  go_loopw [2, 7] (fun a n wr => ∃ (p : Nat) (m : Int), p ≤ t.length ∧ a = .int .i64 p ∧ n = .int .i64 m ∧ Bel (w.alloc (.cells #[.slice ad ar.length cap] 30)) wr) (fun a _ _ => t.length + 1 - (intOf a).toNat)
  case atStart => exact ⟨0, 1, Nat.zero_le _, rfl, rfl, Bel.rfl' _⟩
  case round =>
    obtain ⟨p, m, hp, rfl, rfl, hb⟩ := hrel
    have hbox := boxc hb 0 _ rfl
    by_cases hm : 0 < m
    · have hm1 : decide (m > 0) = true := by simpa using hm
      by_cases hlt : p < t.length
      · obtain ⟨b', off', rfl, -, hcell'⟩ := rd hr' hb.of_alloc p hlt
        clear hr'
        generalize t.getD p 0 = x at *
        have hw1 := IntWalk.i64_in ((ar.length : Int) - 1) (by omega)
        cases hs : inB x (-12) ((ar.length : Int) - 1) with
        | false =>
          have HS := Lib.hid hs; clear hs
          go_wp2_with fail
          go_quiet ((go_at_call 29; exact Calls.quiet_of_same (l1In_qv _ _ _ _ HS.out _)))
          go_wp2
          go_ret
          exact ⟨_, rfl, hb.of_alloc.drewN _⟩
        | true =>
          have HS := Lib.hid hs
          by_cases hx : x < 0
          · clear hs
            have hx' : decide (x ≥ 0) = false := by simp; omega
            go_wp2_with fail
            go_quiet ((go_at_call 29; exact Calls.quiet_of_same (l1In_qv _ _ _ _ HS.out _)))
            go_wp2
            go_roundw
            case rel => exact ⟨p+1, _, by omega, by go_num, rfl, hb.drewN _⟩
            case measure => simp [intOf]; omega
          · obtain ⟨k, rfl⟩ : ∃ k : Nat, x = k := ⟨x.toNat, by omega⟩
            have hk : k < ar.length := by simp [inB] at hs; omega
            clear hs
            obtain ⟨b, off, rfl, -, hcell⟩ := rd hr hb.of_alloc k hk
            clear hr
            generalize ar.getD k 0 = q at *
            have hk2 : (k : Int) < ar.length := by omega
            go_wp2_with fail
            go_quiet ((go_at_call 29; exact Calls.quiet_of_same (l1In_qv _ _ _ _ HS.out _)))
            go_wp2
            go_quiet (fail)
            go_wp2
            go_roundw
            case rel => exact ⟨p+1, _, by omega, by go_num, rfl, hb.drewN _⟩
            case measure => simp [intOf]; omega
      · have hge : decide ((p : Int) ≥ t.length) = true := by simp; omega
        go_wp2_with fail
        go_quiet (fail)
        go_wp2
        go_ret
        exact ⟨_, rfl, hb.of_alloc.drewN _⟩
    · have hm1 : decide (m > 0) = false := by simpa using hm
      go_wp2_with fail
      go_ret
      exact ⟨_, rfl, hb.of_alloc⟩
theorem l1Term_any (l h l' h' : Nat) (v u : Value) (ar t : List Int) (w : World) (ha : ar.length ≤ 1048576) (ht : t.length ≤ 1048576) (hv : SlI l h w v ar) (hu : SlI l' h' w u t) :
    Calls Try.prog 41 #[.agg #[v], u] w (RetB w) := by
  have hu0 := hu
  obtain ⟨ad', cap', rfl⟩ := hu.form
  cases hs : inB t.length 1 40 with
  | false =>
    have HS := Lib.hid hs; clear hs
    go_enter Try.func41, Try.ntmps41
    go_wp2_with (go_at_call 29; refine (l1In_f _ _ _ _ HS.out).mono ?_; rintro e w' ⟨rfl, hb1⟩)
    go_ret
    exact ⟨_, rfl, hb1.of_alloc⟩
  | true =>
    have HS := Lib.hid hs; clear hs
    go_enter Try.func41, Try.ntmps41
    go_wp2_with fail
    refine (l1In_t _ _ _ _ HS.out).mono ?_; rintro e w' ⟨rfl, hb1⟩
    have hx1 := boxc hb1 0 _ rfl
    go_wp2_with fail
    refine (l1End_any _ _ _ _ _ _ ar t _ ha ht (hv.below hb1.of_alloc) (hu0.below hb1.of_alloc)).mono ?_; rintro e w2 ⟨x, rfl, hb2⟩
    go_wp2_with fail
    go_ret
    exact ⟨_, rfl, hb1.of_alloc.step hb2⟩

end Go.Proofs.Ytcgjdgpdbehikaa
end
section
/- Several rows of the call's own, kept apart by a tag on each block. No program. -/
namespace Go.Proofs.Ytcgjdgpdbehikaa
open Go.RowKit

/-- v owns the elements xs; its block, if it has one, bears the tag t. -/
def OwnT (base : Nat) (tag : Nat → Nat) (t : Nat) (e : TypeId) (w : World) (v : Value) (xs : List Value) : Prop :=
  w.ownsRow base e 1 v xs.length xs ∧ ∀ g, v.ownBlock = some g → tag g = t
/-- All rows of other tags than t are as they were. -/
def Tags (base : Nat) (tag : Nat → Nat) (w : World) (tag' : Nat → Nat) (w' : World) (t : Nat) : Prop :=
  ∀ t' e u zs, t' ≠ t → OwnT base tag t' e w u zs → OwnT base tag' t' e w' u zs

theorem OwnT.lt {base tag t e w v xs} (h : OwnT base tag t e w v xs) {g : Nat} (hg : v.ownBlock = some g) : g < w.heap.size := by
  rcases h.1.2 with ⟨rfl, _⟩ | ⟨g', cap, cur, rfl, _, hh, _⟩
  · simp [Value.ownBlock] at hg
  · simp [Value.ownBlock] at hg; subst hg; exact (Array.getElem?_eq_some_iff.1 hh).1
theorem OwnT.bel {base tag t e w w' v xs} (h : OwnT base tag t e w v xs) (hb : Bel w w') : OwnT base tag t e w' v xs := ⟨ownsRow_bel h.1 hb, h.2⟩
theorem OwnT.alloc {base tag t e w v xs} (h : OwnT base tag t e w v xs) (o : Obj) : OwnT base tag t e (w.alloc o) v xs := h.bel (Bel.alloc0 w o)
theorem OwnT.nil (base : Nat) (tag : Nat → Nat) (t : Nat) (e : TypeId) (w : World) : OwnT base tag t e w (.slice none 0 0) [] := ⟨World.ownsRow_nil _ _ _ _, fun g h => by simp [Value.ownBlock] at h⟩
theorem Tags.of_bel {base tag w w' t} (hb : Bel w w') : Tags base tag w tag w' t := fun _ _ _ _ _ h => h.bel hb
theorem Tags.trans {base tag w tag1 w1 tag2 w2 t} (h : Tags base tag w tag1 w1 t) (k : Tags base tag1 w1 tag2 w2 t) : Tags base tag w tag2 w2 t := fun t' e u zs hn ho => k t' e u zs hn (h t' e u zs hn ho)

theorem tag_append {base tag t e w w1 v v' xs ys} (h : OwnT base tag t e w v xs) (hown : w1.ownsRow base e 1 v' ys.length ys) (hg : w.grownBy w1 v.ownBlock) (hat : v'.ownBlock = v.ownBlock ∨ v'.ownBlock = some w.heap.size) :
    ∃ tag', OwnT base tag' t e w1 v' ys ∧ Tags base tag w tag' w1 t := by
  refine ⟨fun g => if g = w.heap.size then t else tag g, ⟨hown, fun g hgb => ?_⟩, fun t' e' u zs hn ho => ⟨?_, fun g hgb => ?_⟩⟩
  · show (if g = w.heap.size then t else tag g) = t
    rcases hat with h1 | h1
    · rw [h1] at hgb
      have := h.lt hgb
      rw [if_neg (by omega)]; exact h.2 g hgb
    · rw [h1] at hgb; simp at hgb; rw [if_pos hgb.symm]
  · refine ho.1.kept hg ?_
    cases hu : u.ownBlock with
    | none => exact .inl rfl
    | some g =>
      right
      intro e1
      exact hn ((ho.2 g hu).symm.trans (h.2 g e1.symm))
  · show (if g = w.heap.size then t else tag g) = t'
    have := ho.lt hgb
    rw [if_neg (by omega)]; exact ho.2 g hgb
theorem row_mono {w : World} {base base' e n : Nat} {v : Value} {xs : List Value} (h : w.ownsRow base e 1 v n xs) (hb : base' ≤ base) : w.ownsRow base' e 1 v n xs := by
  refine ⟨h.1, ?_⟩
  rcases h.2 with h0 | ⟨g, cap, cur, e1, e2, r⟩
  · exact .inl h0
  · exact .inr ⟨g, cap, cur, e1, by omega, r⟩
theorem row_len {w : World} {base e n m c : Nat} {ad : Option Addr} {xs : List Value} (h : w.ownsRow base e 1 (.slice ad n c) m xs) : n = m := by
  rcases h.2 with ⟨e1, h0⟩ | ⟨g, cap, cur, e1, _⟩
  · simp at e1; omega
  · simp at e1; exact e1.2.1
theorem tag_new {base tag e w w1 v xs} (t : Nat) (hown : w1.ownsRow w.heap.size e 1 v xs.length xs) (hb : Bel w w1) (hbase : base ≤ w.heap.size) :
    ∃ tag', OwnT base tag' t e w1 v xs ∧ ∀ t' e' u zs, OwnT base tag t' e' w u zs → OwnT base tag' t' e' w1 u zs := by
  refine ⟨fun g => if w.heap.size ≤ g then t else tag g, ⟨row_mono hown hbase, fun g hg => ?_⟩, fun t' e' u zs ho => ⟨ownsRow_bel ho.1 hb, fun g hg => ?_⟩⟩
  · have := own_base hown g hg
    simp [this]
  · have := ho.lt hg
    show (if w.heap.size ≤ g then t else tag g) = t'
    rw [if_neg (by omega)]; exact ho.2 g hg
theorem tag_re {base tag t e w v xs} (t2 : Nat) (h : OwnT base tag t e w v xs) : ∃ tag', OwnT base tag' t2 e w v xs ∧ ∀ t' e' u zs, t' ≠ t → OwnT base tag t' e' w u zs → OwnT base tag' t' e' w u zs := by
  refine ⟨fun g => if v.ownBlock = some g then t2 else tag g, ⟨h.1, fun g hg => by simp [hg]⟩, fun t' e' u zs hn ho => ⟨ho.1, fun g hg => ?_⟩⟩
  show (if v.ownBlock = some g then t2 else tag g) = t'
  rw [if_neg (fun e1 => hn ((ho.2 g hg).symm.trans (h.2 g e1)))]
  exact ho.2 g hg
theorem tag_store {base tag t e w g n cap xs} (h : OwnT base tag t e w (.slice (some ⟨g, 0, none⟩) n cap) xs) (j : Nat) (u : Value) :
    OwnT base tag t e (w.setCell ⟨g, j, none⟩ u) (.slice (some ⟨g, 0, none⟩) n cap) (xs.set j u) ∧ Tags base tag w tag (w.setCell ⟨g, j, none⟩ u) t := by
  have hl := row_len h.1
  subst hl
  have hst := h.1.stored j u
  refine ⟨⟨by rw [List.length_set]; exact hst.1, h.2⟩, fun t' e' u' zs hn ho => ⟨ho.1.kept hst.2 ?_, ho.2⟩⟩
  cases hu : u'.ownBlock with
  | none => exact .inl rfl
  | some g' =>
    right
    intro e1
    exact hn ((ho.2 g' hu).symm.trans (h.2 g' e1.symm))
/-- A store into a block of lower number: all rows stay. -/
theorem Tags.low {base tag w t} {p : Addr} (hp : p.block < base) (u : Value) : ∀ e v xs, OwnT base tag t e w v xs → OwnT base tag t e (w.setCell p u) v xs := by
  intro e v xs h
  refine ⟨⟨h.1.1, ?_⟩, h.2⟩
  rcases h.1.2 with h0 | ⟨g, cap, cur, e1, e2, hh, r⟩
  · exact .inl h0
  · exact .inr ⟨g, cap, cur, e1, e2, by rw [Below.heap_setCell w p u g (by omega)]; exact hh, r⟩

theorem row_oneCell {w : World} {base e : Nat} {v : Value} {xs : List Int} (h : w.ownsRow base e 1 v xs.length (xs.map (Value.int .i64))) {n c : Nat} {a : Addr} (hv : v = .slice (some a) n c) (hp : 0 < xs.length) : OwnI a.block (a.block + 1) w v xs := by
  have ho := OwnI.of_row h
  obtain ⟨⟨ad, cap, e1, hc, hm, hr⟩, hf⟩ := ho
  obtain ⟨b, off, e2, h1, h2, h3⟩ := hr hp
  have e3 : some a = some ⟨b, off, none⟩ := by rw [hv] at e1; simp only [Value.slice.injEq] at e1; rw [e1.1, e2]
  simp only [Option.some.injEq] at e3
  subst e3
  exact ⟨⟨ad, cap, e1, hc, hm, fun _ => ⟨b, off, e2, Nat.le_refl _, Nat.lt_succ_self _, h3⟩⟩, hf⟩
/-- The rows of the elements. -/
def InT (base : Nat) (tag : Nat → Nat) (ei : TypeId) (w : World) (us : List Value) (xss : List (List Int)) : Prop :=
  us.length = xss.length ∧ ∀ j u, us[j]? = some u → OwnT base tag (10 + j) ei w u ((xss.getD j []).map (Value.int .i64))
theorem InT.step {base tag ei w tag' w' us xss t} (h : InT base tag ei w us xss) (ht : t < 10) (k : Tags base tag w tag' w' t) : InT base tag' ei w' us xss := ⟨h.1, fun j u hj => k _ _ _ _ (by omega) (h.2 j u hj)⟩
theorem InT.all {base tag ei w tag' w' us xss} (h : InT base tag ei w us xss) (k : ∀ t' e' u zs, OwnT base tag t' e' w u zs → OwnT base tag' t' e' w' u zs) : InT base tag' ei w' us xss := ⟨h.1, fun j u hj => k _ _ _ _ (h.2 j u hj)⟩
theorem InT.nil (base : Nat) (tag : Nat → Nat) (ei : TypeId) (w : World) : InT base tag ei w [] [] := ⟨rfl, fun j u h => by simp at h⟩
theorem InT.bel {base tag ei w w' us xss} (h : InT base tag ei w us xss) (hb : Bel w w') : InT base tag ei w' us xss := ⟨h.1, fun j u hj => (h.2 j u hj).bel hb⟩
/-- A row of tag t becomes the next element. -/
theorem InT.snoc {base tag ei w us xss t v} {xs : List Int} (h : InT base tag ei w us xss) (ho : OwnT base tag t ei w v (xs.map (Value.int .i64))) (ht : t < 10) :
    ∃ tag', InT base tag' ei w (us ++ [v]) (xss ++ [xs]) ∧ ∀ t' e' u zs, t' ≠ t → OwnT base tag t' e' w u zs → OwnT base tag' t' e' w u zs := by
  obtain ⟨tag', h1, h2⟩ := tag_re (10 + us.length) ho
  refine ⟨tag', ⟨by simp [h.1], fun j u hj => ?_⟩, h2⟩
  by_cases e : j < us.length
  · rw [List.getElem?_append_left e] at hj
    have := h2 _ _ _ _ (by omega) (h.2 j u hj)
    rwa [show (xss ++ [xs]).getD j [] = xss.getD j [] from by simp [List.getD, List.getElem?_append_left (show j < xss.length by rw [← h.1]; exact e)]]
  · have hlt := (List.getElem?_eq_some_iff.1 hj).1
    simp at hlt
    obtain rfl : j = us.length := by omega
    rw [List.getElem?_append_right (Nat.le_refl _), Nat.sub_self] at hj
    simp at hj
    subst hj
    rwa [show (xss ++ [xs]).getD us.length [] = xs from by rw [h.1]; simp [List.getD]]
theorem OwnS.of_tag {base tag eo ei w v us xss t} (ho : OwnT base tag t eo w v us) (hi : InT base tag ei w us xss) (ht : t < 10) : OwnS base w.heap.size w v xss := by
  have h1 := ho.1
  rw [hi.1] at h1
  have hblk : ∀ j u, us[j]? = some u → 0 < (xss.getD j []).length → ∃ a n c, u = .slice (some a) n c ∧ u.ownBlock = some a.block ∧ base ≤ a.block ∧ a.block < w.heap.size ∧ tag a.block = 10 + j := by
    intro j u hj hp
    have hx := hi.2 j u hj
    rcases hx.1.2 with ⟨rfl, h0⟩ | ⟨g, cap, cur, rfl, hb, hh, _⟩
    · rw [List.length_map] at h0; omega
    · have hb2 : (Value.slice (some ⟨g, 0, none⟩) ((xss.getD j []).map (Value.int .i64)).length cap).ownBlock = some g := rfl
      exact ⟨⟨g, 0, none⟩, _, cap, rfl, hb2, hb, hx.lt hb2, hx.2 g hb2⟩
  let bs : Nat → Nat := fun j => match us[j]? with | some (.slice (some a) _ _) => a.block | _ => 0
  have hbs : ∀ j u, us[j]? = some u → 0 < (xss.getD j []).length → base ≤ bs j ∧ bs j < w.heap.size ∧ tag (bs j) = 10 + j := by
    intro j u hj hp
    obtain ⟨a, n, c, rfl, _, b1, b2, b3⟩ := hblk j u hj hp
    have : bs j = a.block := by simp only [bs, hj]
    rw [this]; exact ⟨b1, b2, b3⟩
  refine OwnS.of_row (bs := bs) h1 (Nat.le_refl _) fun g hg => ⟨hi.1, fun j hj hp => ?_, fun i j hij hj hpi hpj => ?_, fun j u hj => ?_⟩
  · obtain ⟨u, hu⟩ : ∃ u, us[j]? = some u := ⟨_, List.getElem?_eq_getElem (by rw [hi.1]; exact hj)⟩
    obtain ⟨a1, a2, a3⟩ := hbs j u hu hp
    refine ⟨a1, a2, fun e => ?_⟩
    have := ho.2 g hg
    rw [e] at a3
    omega
  · obtain ⟨u, hu⟩ : ∃ u, us[i]? = some u := ⟨_, List.getElem?_eq_getElem (by rw [hi.1]; omega)⟩
    obtain ⟨u2, hu2⟩ : ∃ u, us[j]? = some u := ⟨_, List.getElem?_eq_getElem (by rw [hi.1]; exact hj)⟩
    obtain ⟨_, _, a3⟩ := hbs i u hu hpi
    obtain ⟨_, _, b3⟩ := hbs j u2 hu2 hpj
    intro e
    rw [e] at a3
    omega
  · have hx := hi.2 j u hj
    by_cases hp : 0 < (xss.getD j []).length
    · obtain ⟨a, n, c, rfl, _, b1, b2, b3⟩ := hblk j u hj hp
      have : bs j = a.block := by simp only [bs, hj]
      rw [this]
      exact row_oneCell (by simpa using hx.1) rfl hp
    · have h0 := len0 hp
      rw [h0] at hx ⊢
      have := OwnI.of_row (xs := []) (by simpa using hx.1)
      exact this.empty
end Go.Proofs.Ytcgjdgpdbehikaa
end
section
/- Renaming variables in the order in which they are met. No program. -/
namespace Go.Proofs.Ytcgjdgpdbehikaa
open Go.RowKit

def stepM (met : List Int) (n : Int) : List Int := if n < 0 ∧ n ∉ met then met ++ [n] else met
def valM (met : List Int) (n : Int) : Int := if n < 0 then -1 - (met.idxOf n : Int) else n
def metT (met : List Int) (t : List Int) : List Int := t.foldl stepM met
def renT : List Int → List Int → List Int
  | _, [] => []
  | met, x :: r => valM (stepM met x) x :: renT (stepM met x) r
def metS (met : List Int) (l : List (List Int)) : List Int := l.foldl metT met
def renS : List Int → List (List Int) → List (List Int)
  | _, [] => []
  | met, t :: r => renT met t :: renS (metT met t) r

theorem renT_app (met a b : List Int) : renT met (a ++ b) = renT met a ++ renT (metT met a) b := by
  induction a generalizing met with
  | nil => rfl
  | cons x a ih => simp [renT, ih, metT]
theorem renS_app (met : List Int) (a b : List (List Int)) : renS met (a ++ b) = renS met a ++ renS (metS met a) b := by
  induction a generalizing met with
  | nil => rfl
  | cons x a ih => simp [renS, ih, metS]
theorem renT_len (met t : List Int) : (renT met t).length = t.length := by
  induction t generalizing met with
  | nil => rfl
  | cons x t ih => simp [renT, ih]
theorem renS_len (met : List Int) (l : List (List Int)) : (renS met l).length = l.length := by
  induction l generalizing met with
  | nil => rfl
  | cons x t ih => simp [renS, ih]
theorem metT_succ (met t : List Int) (k : Nat) (h : k < t.length) : metT met (t.take (k+1)) = stepM (metT met (t.take k)) (t.getD k 0) := by
  unfold metT
  rw [List.take_succ_eq_append_getElem h, List.foldl_append]
  simp [List.getD, h]
theorem renT_succ (met t : List Int) (k : Nat) (h : k < t.length) : renT met (t.take (k+1)) = renT met (t.take k) ++ [valM (stepM (metT met (t.take k)) (t.getD k 0)) (t.getD k 0)] := by
  rw [List.take_succ_eq_append_getElem h, renT_app]
  simp [renT, List.getD, h]
theorem metS_succ (met : List Int) (l : List (List Int)) (k : Nat) (h : k < l.length) : metS met (l.take (k+1)) = metT (metS met (l.take k)) (l.getD k []) := by
  unfold metS
  rw [List.take_succ_eq_append_getElem h, List.foldl_append]
  simp [List.getD, h]
theorem renS_succ (met : List Int) (l : List (List Int)) (k : Nat) (h : k < l.length) : renS met (l.take (k+1)) = renS met (l.take k) ++ [renT (metS met (l.take k)) (l.getD k [])] := by
  rw [List.take_succ_eq_append_getElem h, renS_app]
  simp [renS, List.getD, h]
/-- Those met are negative. -/
def negM (met : List Int) : Prop := ∀ x ∈ met, x < 0
theorem negM.step {met : List Int} (h : negM met) (n : Int) : negM (stepM met n) := by
  unfold stepM
  split
  · rename_i h1
    intro x hx
    rcases List.mem_append.1 hx with h2 | h2
    · exact h x h2
    · simp at h2; omega
  · exact h
theorem negM.metT {met : List Int} (h : negM met) (t : List Int) : negM (metT met t) := by
  unfold Go.Proofs.Ytcgjdgpdbehikaa.metT
  induction t generalizing met with
  | nil => exact h
  | cons x t ih => exact ih (h.step x)
theorem negM.metS {met : List Int} (h : negM met) (l : List (List Int)) : negM (metS met l) := by
  unfold Go.Proofs.Ytcgjdgpdbehikaa.metS
  induction l generalizing met with
  | nil => exact h
  | cons x t ih => exact ih (h.metT x)
theorem stepM_mem (met : List Int) (n : Int) (h : n < 0) : n ∈ stepM met n := by
  unfold stepM
  split
  · simp
  · rename_i h1
    exact Classical.byContradiction fun h2 => h1 ⟨h, h2⟩
theorem stepM_len (met : List Int) (n : Int) : (stepM met n).length ≤ met.length + 1 := by unfold stepM; split <;> simp
theorem metT_len (met t : List Int) : (metT met t).length ≤ met.length + t.length := by
  unfold metT
  induction t generalizing met with
  | nil => simp
  | cons x t ih =>
    have h1 := ih (stepM met x)
    have h2 := stepM_len met x
    simp only [List.foldl_cons, List.length_cons]
    omega
theorem metS_len {l : List (List Int)} (met : List Int) (h : ∀ t ∈ l, t.length ≤ 40) : (metS met l).length ≤ met.length + 40 * l.length := by
  unfold metS
  induction l generalizing met with
  | nil => simp
  | cons x t ih =>
    have h1 := ih (metT met x) (fun t ht => h t (List.mem_cons_of_mem _ ht))
    have h2 := metT_len met x
    have h3 := h x List.mem_cons_self
    simp only [List.foldl_cons, List.length_cons]
    omega
theorem stepM_new {met : List Int} {n : Int} (h : n < 0) (h2 : n ∉ met) : stepM met n = met ++ [n] := by unfold stepM; rw [if_pos ⟨h, h2⟩]
theorem stepM_old {met : List Int} {n : Int} (h2 : n ∈ met) : stepM met n = met := by unfold stepM; rw [if_neg (fun h => h.2 h2)]
theorem stepM_sym {met : List Int} {n : Int} (h2 : ¬ n < 0) : stepM met n = met := by unfold stepM; rw [if_neg (fun h => h2 h.1)]
theorem idx_first {M : List Int} {n : Int} {k : Nat} (hk : k < M.length) (he : M.getD k 0 = n) (hn : n ∉ M.take k) : M.idxOf n = k := by
  conv => lhs; rw [← List.take_append_drop k M]
  rw [List.idxOf_append, if_neg hn, List.drop_eq_getElem_cons hk]
  have : M[k] = n := by simpa [List.getD, hk] using he
  rw [this, List.idxOf_cons_self]
  simp; omega
theorem val_found {M : List Int} {n : Int} {k : Nat} (h : negM M) (hk : k < M.length) (he : M.getD k 0 = n) (hn : n ∉ M.take k) : valM M n = -1 - (k : Int) := by
  have h1 : n < 0 := by rw [← he]; exact h _ (by simp [List.getD, hk])
  unfold valM
  rw [if_pos h1, idx_first hk he hn]
theorem val_end {M : List Int} {n : Int} (h : n < 0 → n ∈ M) (hn : n ∉ M) : valM M n = n := by
  unfold valM
  rw [if_neg (fun h1 => hn (h h1))]
theorem not_take_succ {M : List Int} {n : Int} {k : Nat} (hk : k < M.length) (he : M.getD k 0 ≠ n) (hn : n ∉ M.take k) : n ∉ M.take (k+1) := by
  rw [List.take_succ_eq_append_getElem hk, List.mem_append, List.mem_singleton]
  rintro (h | h)
  · exact hn h
  · exact he (by simpa [List.getD, hk] using h.symm)

theorem tag_snoc {base tag t e w w1 v v'} {acc : List Int} {x : Int} (h : OwnT base tag t e w v (acc.map (Value.int .i64))) (hown : w1.ownsRow base e 1 v' ((acc.map (Value.int .i64)).length + 1) (acc.map (Value.int .i64) ++ [.int .i64 x])) (hg : w.grownBy w1 v.ownBlock) (hat : v'.ownBlock = v.ownBlock ∨ v'.ownBlock = some w.heap.size) :
    ∃ tag', OwnT base tag' t e w1 v' ((acc ++ [x]).map (Value.int .i64)) ∧ Tags base tag w tag' w1 t := tag_append h (by simpa using hown) hg hat
theorem tag_snocV {base tag t e w w1 v v' u} {us : List Value} (h : OwnT base tag t e w v us) (hown : w1.ownsRow base e 1 v' (us.length + 1) (us ++ [u])) (hg : w.grownBy w1 v.ownBlock) (hat : v'.ownBlock = v.ownBlock ∨ v'.ownBlock = some w.heap.size) :
    ∃ tag', OwnT base tag' t e w1 v' (us ++ [u]) ∧ Tags base tag w tag' w1 t := tag_append h (by simpa using hown) hg hat
theorem SlI.at {lo hi : Nat} {w : World} {ad : Option Addr} {n c : Nat} {xs : List Int} (h : SlI lo hi w (.slice ad n c) xs) (k : Nat) (hk : k < xs.length) :
    ∃ b off, ad = some ⟨b, off, none⟩ ∧ b < w.heap.size ∧ w.cell? ⟨b, off + k, none⟩ = some (.int .i64 (xs.getD k 0)) := by
  obtain ⟨ad', cap, e, _, _, hr⟩ := h
  obtain ⟨b, off, e2, _, _, hc⟩ := hr (by omega)
  simp only [Value.slice.injEq] at e
  exact ⟨b, off, e.1.trans e2, World.block_lt_of_cell? w ⟨b, off + k, none⟩ (hc k hk), hc k hk⟩
theorem OwnT.sl {base tag t e w v} {xs : List Int} (h : OwnT base tag t e w v (xs.map (Value.int .i64))) : SlI base w.heap.size w v xs := (OwnI.of_row (by simpa using h.1)).sl
theorem Bel.grownT {base tag t e w0 w v xs w' o} (hb : Bel w0 w) (h : OwnT base tag t e w v xs) (hbase : w0.heap.size ≤ base) (g : (w.alloc o).grownBy w' v.ownBlock) : Bel w0 w' :=
  (hb.alloc o).grown g (fun k hk => by have := own_base h.1 k hk; omega)
end Go.Proofs.Ytcgjdgpdbehikaa
end
