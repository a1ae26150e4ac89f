import Derived.Test.YtnldienjkejfcaaGood
namespace Go.Proofs.Ytnldienjkejfcaa
open Go.RowKit

theorem sGoodSign_v (l h : Nat) (v : Value) (xs : List Int) (b : Bool) (w : World) (he : goodSign xs = b) (hx : xs.length ≤ 1048576) (hv : SlI l h w v xs) :
    Calls Try.prog 39 #[.agg #[v]] w (RetV w (.bool b)) := he ▸ sGoodSign_c l h v xs w hx hv
theorem iGoodSign_v (l h : Nat) (v : Value) (xs : List Int) (b : Bool) (w : World) (he : goodSign xs = b) (hx : xs.length ≤ 1048576) (hv : SlI l h w v xs) :
    Calls Try.prog 59 #[.agg #[v]] w (RetV w (.bool b)) := he ▸ iGoodSign_c l h v xs w hx hv

theorem okTerm_short {ar t : List Int} (h : inB t.length 1 40 = false) : okTerm ar t = false := by simp [okTerm, h]
theorem okTerm_eq {ar t : List Int} (h : inB t.length 1 40 = true) : okTerm ar t = (endI ar t 0 == (t.length : Int)) := by
  simp only [okTerm, h, Bool.true_and, endI]
  cases endOf ar t 0 with
  | none => simp
  | some e => simp; rw [Bool.eq_iff_iff]; simp; omega

theorem l1Term_c (l h l' h' : Nat) (v u : Value) (ar t : List Int) (w : World) (hg : goodSign ar = true) (ht : t.length ≤ 1048576) (hv : SlI l h w v ar) (hu : SlI l' h' w u t) :
    Calls Try.prog 68 #[.agg #[v], u] w (RetV w (.bool (okTerm ar t))) := by
  have hu0 := hu
  obtain ⟨ad', cap', rfl⟩ := hu.form
  cases hs : inB t.length 1 40 with
  | false =>
    have E := Lib.hid (okTerm_short (ar := ar) hs)
    have HS := Lib.hid hs; clear hs
    go_enter Try.func68, Try.ntmps68
    go_wp2_with (go_at_call 56; refine (l1In_f _ _ _ _ HS.out).mono ?_; rintro e w' ⟨rfl, hb1⟩)
    go_ret
    exact ⟨by rw [E.out]; rfl, hb1.of_alloc⟩
  | true =>
    have E := Lib.hid (okTerm_eq (ar := ar) hs)
    have HS := Lib.hid hs; clear hs
    have hc := l1End_c l h l' h' v (.slice ad' t.length cap') ar t 0
    have HC := Lib.hid hc; clear hc
    generalize endI ar t 0 = r at *
    go_enter Try.func68, Try.ntmps68
    go_wp2_with fail
    refine (l1In_t _ _ _ _ HS.out).mono ?_; rintro e w' ⟨rfl, hb1⟩
    have hx1 := boxc hb1 0 _ rfl
    go_wp2_with fail
    refine (HC.out _ hg ht (by omega) (hv.below hb1.of_alloc) (hu0.below hb1.of_alloc)).mono ?_; rintro e w2 ⟨rfl, hb2⟩
    go_wp2_with fail
    go_ret
    exact ⟨by rw [E.out]; rfl, hb1.of_alloc.step hb2⟩
theorem l1Term_v (l h l' h' : Nat) (v u : Value) (ar t : List Int) (b : Bool) (w : World) (he : okTerm ar t = b) (hg : goodSign ar = true) (ht : t.length ≤ 1048576) (hv : SlI l h w v ar) (hu : SlI l' h' w u t) :
    Calls Try.prog 68 #[.agg #[v], u] w (RetV w (.bool b)) := he ▸ l1Term_c l h l' h' v u ar t w hg ht hv hu

theorem goodTerm_iff {ar t : List Int} : goodTerm ar t = true ↔ goodSign ar = true ∧ okTerm ar t = true := by simp [goodTerm]
theorem good_long {ar t : List Int} (h : 40 < t.length) : goodTerm ar t = false := by
  simp [goodTerm, okTerm, inB]; omega

theorem iGoodTerm_c (l h l' h' : Nat) (v u : Value) (ar t : List Int) (w : World) (ha : ar.length ≤ 1048576) (ht : t.length ≤ 1048576) (hv : SlI l h w v ar) (hu : SlI l' h' w u t) :
    Calls Try.prog 67 #[.agg #[v], u] w (RetV w (.bool (goodTerm ar t))) := by
  have hu0 := hu
  obtain ⟨ad', cap', rfl⟩ := hu.form
  by_cases hl : 40 < t.length
  · have E := Lib.hid (good_long (ar := ar) hl)
    go_enter Try.func67, Try.ntmps67
    go_wp2_with fail
    go_ret
    exact ⟨by rw [E.out]; rfl, Bel.alloc0 _ _⟩
  · cases hs : goodSign ar with
    | false =>
      have E : Hid (goodTerm ar t = false) := by show goodTerm ar t = false; simp [goodTerm, hs]
      have HS := Lib.hid hs; clear hs
      go_enter Try.func67, Try.ntmps67
      go_wp2_with fail
      refine (iGoodSign_v _ _ _ _ _ _ HS.out ha (hv.alloc _)).mono ?_; rintro e w' ⟨rfl, hb1⟩
      go_wp2_with fail
      go_ret
      exact ⟨by rw [E.out]; rfl, hb1.of_alloc⟩
    | true =>
      have E : Hid (goodTerm ar t = okTerm ar t) := by show goodTerm ar t = okTerm ar t; simp [goodTerm, hs]
      have hc := termEnd_c l h l' h' v (.slice ad' t.length cap') ar t 0
      have HS := Lib.hid hs; clear hs
      cases he : endOf ar t 0 with
      | none =>
        have HC := Lib.hid (fun w a b c d e => endP_none he ▸ hc w a b c d e)
        have E2 : Hid (okTerm ar t = false) := by show okTerm ar t = false; simp [okTerm, he]
        clear hc he
        go_enter Try.func67, Try.ntmps67
        go_wp2_with fail
        refine (iGoodSign_v _ _ _ _ _ _ HS.out ha (hv.alloc _)).mono ?_; rintro e w' ⟨rfl, hb1⟩
        have hx1 := boxc hb1 0 _ rfl
        go_wp2_with fail
        refine (HC.out _ HS.out ht (by omega) (hv.below hb1.of_alloc) (hu0.below hb1.of_alloc)).mono ?_; rintro e w2 ⟨rfl, hb2⟩
        go_wp2_with fail
        go_ret
        exact ⟨by rw [E.out, E2.out]; rfl, hb1.of_alloc.step hb2⟩
      | some q =>
        have HC := Lib.hid (fun w a b c d e => endP_some he ▸ hc w a b c d e)
        have E2 : Hid (okTerm ar t = ((q : Int) == (t.length : Int))) := by
          show okTerm ar t = _
          have hq := endGo_gt ar (t.drop 0) 0 0 q he
          have hq2 := endGo_ge ar (t.drop 0) 1 0 q he
          simp at hq2
          rw [Bool.eq_iff_iff]
          simp only [okTerm, inB, he, Bool.and_eq_true, decide_eq_true_eq, beq_iff_eq, Option.some.injEq]
          omega
        clear hc he
        go_enter Try.func67, Try.ntmps67
        go_wp2_with fail
        refine (iGoodSign_v _ _ _ _ _ _ HS.out ha (hv.alloc _)).mono ?_; rintro e w' ⟨rfl, hb1⟩
        have hx1 := boxc hb1 0 _ rfl
        go_wp2_with fail
        refine (HC.out _ HS.out ht (by omega) (hv.below hb1.of_alloc) (hu0.below hb1.of_alloc)).mono ?_; rintro e w2 ⟨rfl, hb2⟩
        go_wp2_with fail
        go_ret
        exact ⟨by rw [E.out, E2.out]; rfl, hb1.of_alloc.step hb2⟩
theorem iGoodTerm_v (l h l' h' : Nat) (v u : Value) (ar t : List Int) (b : Bool) (w : World) (he : goodTerm ar t = b) (ha : ar.length ≤ 1048576) (ht : t.length ≤ 1048576) (hv : SlI l h w v ar) (hu : SlI l' h' w u t) :
    Calls Try.prog 67 #[.agg #[v], u] w (RetV w (.bool b)) := he ▸ iGoodTerm_c l h l' h' v u ar t w ha ht hv hu

/-- A valid term and an index in it. -/
def askOk (ar t : List Int) (i : Int) : Bool := goodTerm ar t && inB i 0 ((t.length : Int) - 1)
theorem askOk_iff {ar t : List Int} {i : Int} : askOk ar t i = true ↔ goodTerm ar t = true ∧ 0 ≤ i ∧ i < t.length := by
  simp [askOk, inB]; omega

/-- What EndOf answers. -/
def endN (ar t : List Int) (i : Int) : Int := if askOk ar t i then endI ar t i.toNat else 0
def endAns (ar t : List Int) (i : Int) : Value := .tuple #[.int .i64 (endN ar t i), .bool (askOk ar t i)]
theorem endAns_no {ar t : List Int} {i : Int} (h : askOk ar t i = false) : endAns ar t i = .tuple #[.int .i64 0, .bool false] := by simp [endAns, endN, h]
/-- An index that is asked for: as a natural number, with the end of its subterm. -/
theorem ask_yes {ar t : List Int} {i : Int} (h : askOk ar t i = true) : ∃ k e : Nat, i = k ∧ k < t.length ∧ endOf ar t k = some e ∧ k < e ∧ e ≤ t.length ∧ t.length ≤ 40 ∧ goodSign ar = true ∧ okTerm ar t = true := by
  obtain ⟨h1, h2, h3⟩ := askOk_iff.1 h
  obtain ⟨h4, h5⟩ := goodTerm_iff.1 h1
  obtain ⟨k, rfl⟩ : ∃ k : Nat, i = k := ⟨i.toNat, by omega⟩
  obtain ⟨e, he, hl, hu⟩ := good_end ar t h5 k (by omega)
  exact ⟨k, e, rfl, by omega, he, hl, hu, ((okTerm_iff ar t).1 h5).2.1, h4, h5⟩
theorem endAns_yes {ar t : List Int} {k e : Nat} (h : askOk ar t k = true) (he : endOf ar t k = some e) : endAns ar t k = .tuple #[.int .i64 e, .bool true] := by simp [endAns, endN, h, endI, he]

theorem sGoodSign_t {l h : Nat} {v : Value} {ar : List Int} {w : World} (ha : ar.length ≤ 1048576) (hv : SlI l h w v ar) :
    Calls Try.prog 39 #[.agg #[v]] w (RetV w (.bool (goodSign ar))) := sGoodSign_c l h v ar w ha hv
theorem iGoodSign_t {l h : Nat} {v : Value} {ar : List Int} {w : World} (ha : ar.length ≤ 1048576) (hv : SlI l h w v ar) :
    Calls Try.prog 59 #[.agg #[v]] w (RetV w (.bool (goodSign ar))) := iGoodSign_c l h v ar w ha hv
theorem iGoodTerm_t {l h l' h' : Nat} {v u : Value} {ar t : List Int} {w : World} (ha : ar.length ≤ 1048576) (hv : SlI l h w v ar) (ht : t.length ≤ 1048576) (hu : SlI l' h' w u t) :
    Calls Try.prog 67 #[.agg #[v], u] w (RetV w (.bool (goodTerm ar t))) := iGoodTerm_c l h l' h' v u ar t w ha ht hv hu
end Go.Proofs.Ytnldienjkejfcaa
