/- Lists of terms that are valid: both functions; the reference's also at signs that are not. -/
import Derived.Test.YtnldienjkejfcaaSubst
namespace Go.Proofs.Ytnldienjkejfcaa
open Go.RowKit

def goodTerms (ar : List Int) (b : List (List Int)) (m : Nat) : Bool := goodSign ar && decide (b.length ≤ m) && b.all (okTerm ar)
theorem goodTerms_iff {ar : List Int} {b : List (List Int)} {m : Nat} : goodTerms ar b m = true ↔ goodSign ar = true ∧ b.length ≤ m ∧ ∀ t ∈ b, okTerm ar t = true := by
  simp only [goodTerms, Bool.and_eq_true, decide_eq_true_eq, List.all_eq_true]
  constructor
  · rintro ⟨⟨h1, h2⟩, h3⟩; exact ⟨h1, h2, h3⟩
  · rintro ⟨h1, h2, h3⟩; exact ⟨⟨h1, h2⟩, h3⟩

set_option maxRecDepth 100000 in
set_option maxHeartbeats 400000 in
theorem goodTerms_c (l h l' h' : Nat) (v u : Value) (ar : List Int) (b : List (List Int)) (m : Nat) (w : World) (hmm : m ≤ 1000) (ha : ar.length ≤ 1048576) (hv : SlI l h w v ar) (hb : short b) (hu : SlS l' h' w u b) :
    Calls Try.prog 54 #[.agg #[v], u, .int .i64 m] w (RetV w (.bool (goodTerms ar b m))) := by
  obtain ⟨ad', cap', rfl⟩ := hu.form
  obtain ⟨-, hm⟩ := hb
  by_cases hl : b.length ≤ m
  · have hl2 : decide (m < b.length) = false := by simp; omega
    cases hs : goodSign ar with
    | false =>
      have E : Hid (goodTerms ar b m = false) := by show _ = _; simp [goodTerms, hs]
      have HS := Lib.hid hs; clear hs
      go_enter Try.func54, Try.ntmps54
      go_wp2_with fail
      refine (iGoodSign_v _ _ _ _ _ _ HS.out ha (hv.alloc _)).mono ?_; rintro e w' ⟨rfl, hb1⟩
      go_wp2_with fail
      go_ret
      exact ⟨by rw [E.out]; rfl, hb1.of_alloc⟩
    | true =>
      have hG : Hid (goodTerms ar b m = b.all (okTerm ar)) := by show _ = _; simp [goodTerms, hs, hl]
      have hg := hs
      have HS := Lib.hid hs; clear hs
      go_enter Try.func54, Try.ntmps54
      go_wp2_with fail
      refine (iGoodSign_v _ _ _ _ _ _ HS.out ha (hv.alloc _)).mono ?_; rintro e w1 ⟨rfl, hb1⟩
      have hbox := boxc hb1 0 _ rfl
      go_wp2_with fail
      go_loopw [20] (fun i wr => ∃ k : Nat, k ≤ b.length ∧ i = .int .i64 k ∧ (b.take k).all (okTerm ar) = true ∧ Bel (w.alloc (.cells #[v] 30)) wr) (fun i _ => b.length - (intOf i).toNat)
      case atStart => exact ⟨0, Nat.zero_le _, rfl, rfl, hb1⟩
      case round =>
        obtain ⟨k, hk, rfl, hall, hb2⟩ := hrel
        have hbox2 := boxc hb2 0 _ rfl
        by_cases hlt : k < b.length
        · obtain ⟨bb, off, p, rfl, -, hc, hp⟩ := hu.at hb2.of_alloc k hlt
          have hmk := hm k hlt
          have hsp := all_splitS b (okTerm ar) k hlt hall
          have hfs := all_falseS b (okTerm ar) k hlt
          clear hm hu hbox hall
          generalize b.getD k [] = t at *
          obtain ⟨ap, cp, rfl⟩ := hp.form
          cases ht : okTerm ar t with
          | false =>
            have E : Hid (goodTerms ar b m = false) := by show _ = _; rw [hG.out]; exact hfs ht
            have HT := Lib.hid ht
            clear ht hsp hfs
            go_wp2_with fail
            refine (iGoodTerm_vv _ _ _ _ _ _ _ _ _ _ HT.out hg ha (by omega) (hv.below hb2.of_alloc) hp).mono ?_; rintro e w2 ⟨rfl, hb3⟩
            go_wp2_with fail
            go_ret
            exact ⟨by rw [E.out]; rfl, hb2.of_alloc.step hb3⟩
          | true =>
            have HA := Lib.hid (hsp.trans ht)
            have HT := Lib.hid ht
            clear ht hsp hfs
            go_wp2_with fail
            refine (iGoodTerm_vv _ _ _ _ _ _ _ _ _ _ HT.out hg ha (by omega) (hv.below hb2.of_alloc) hp).mono ?_; rintro e w2 ⟨rfl, hb3⟩
            go_wp2_with fail
            go_roundw
            case rel => exact ⟨k+1, by omega, by go_num, HA.out, hb2.step hb3⟩
            case measure => simp [intOf]; omega
        · have E : Hid (goodTerms ar b m = true) := by show _ = _; rw [hG.out]; exact all_doneS b _ k hk hlt hall
          clear hall
          go_wp2_with fail
          go_ret
          exact ⟨by rw [E.out]; rfl, hb2.of_alloc⟩
  · have E : Hid (goodTerms ar b m = false) := by show _ = _; simp [goodTerms, hl]
    have hl2 : decide (m < b.length) = true := by simp; omega
    go_enter Try.func54, Try.ntmps54
    go_wp2_with fail
    go_ret
    exact ⟨by rw [E.out]; rfl, Bel.alloc0 _ _⟩
theorem goodTerms_v (l h l' h' : Nat) (v u : Value) (ar : List Int) (b : List (List Int)) (m : Nat) (q : Bool) (w : World) (he : goodTerms ar b m = q) (hmm : m ≤ 1000) (ha : ar.length ≤ 1048576) (hv : SlI l h w v ar) (hb : short b) (hu : SlS l' h' w u b) :
    Calls Try.prog 54 #[.agg #[v], u, .int .i64 m] w (RetV w (.bool q)) := he ▸ goodTerms_c l h l' h' v u ar b m w hmm ha hv hb hu

/-- Whatever the sign: an answer comes. -/
def RetN (w : World) (e : Ending) (w' : World) : Prop := ∃ x : Int, e = .returned (.int .i64 x) ∧ Bel w w'
def RetB (w : World) (e : Ending) (w' : World) : Prop := ∃ b, e = .returned (.bool b) ∧ Bel w w'
theorem l1End_any (l h l' h' : Nat) (v u : Value) (ar t : List Int) (w : World) (ha : ar.length ≤ 1048576) (ht : t.length ≤ 1048576) (hv : SlI l h w v ar) (hu : SlI l' h' w u t) :
    Calls Try.prog 76 #[.agg #[v], u, .int .i64 0] w (RetN w) := by
  obtain ⟨ad, cap, rfl, -, -, hr⟩ := hv
  obtain ⟨ad', cap', rfl, -, -, hr'⟩ := hu
  go_enter Try.func76, Try.ntmps76
  go_wp2_with fail
  go_loopw [2, 7] (fun a n wr => ∃ (p : Nat) (m : Int), p ≤ t.length ∧ a = .int .i64 p ∧ n = .int .i64 m ∧ Bel (w.alloc (.cells #[.slice ad ar.length cap] 30)) wr) (fun a _ _ => t.length + 1 - (intOf a).toNat)
  case atStart => exact ⟨0, 1, Nat.zero_le _, rfl, rfl, Bel.rfl' _⟩
  case round =>
    obtain ⟨p, m, hp, rfl, rfl, hb⟩ := hrel
    have hbox := boxc hb 0 _ rfl
    by_cases hm : 0 < m
    · have hm1 : decide (m > 0) = true := by simpa using hm
      by_cases hlt : p < t.length
      · obtain ⟨b', off', rfl, -, hcell'⟩ := rd hr' hb.of_alloc p hlt
        clear hr'
        generalize t.getD p 0 = x at *
        have hw1 := IntWalk.i64_in ((ar.length : Int) - 1) (by omega)
        cases hs : inB x (-12) ((ar.length : Int) - 1) with
        | false =>
          have HS := Lib.hid hs; clear hs
          go_wp2_with fail
          go_quiet ((go_at_call 56; exact Calls.quiet_of_same (l1In_qv _ _ _ _ HS.out _)))
          go_wp2
          go_ret
          exact ⟨_, rfl, hb.of_alloc.drewN _⟩
        | true =>
          have HS := Lib.hid hs
          by_cases hx : x < 0
          · clear hs
            have hx' : decide (x ≥ 0) = false := by simp; omega
            go_wp2_with fail
            go_quiet ((go_at_call 56; exact Calls.quiet_of_same (l1In_qv _ _ _ _ HS.out _)))
            go_wp2
            go_roundw
            case rel => exact ⟨p+1, _, by omega, by go_num, rfl, hb.drewN _⟩
            case measure => simp [intOf]; omega
          · obtain ⟨k, rfl⟩ : ∃ k : Nat, x = k := ⟨x.toNat, by omega⟩
            have hk : k < ar.length := by simp [inB] at hs; omega
            clear hs
            obtain ⟨b, off, rfl, -, hcell⟩ := rd hr hb.of_alloc k hk
            clear hr
            generalize ar.getD k 0 = q at *
            have hk2 : (k : Int) < ar.length := by omega
            go_wp2_with fail
            go_quiet ((go_at_call 56; exact Calls.quiet_of_same (l1In_qv _ _ _ _ HS.out _)))
            go_wp2
            go_quiet (fail)
            go_wp2
            go_roundw
            case rel => exact ⟨p+1, _, by omega, by go_num, rfl, hb.drewN _⟩
            case measure => simp [intOf]; omega
      · have hge : decide ((p : Int) ≥ t.length) = true := by simp; omega
        go_wp2_with fail
        go_quiet (fail)
        go_wp2
        go_ret
        exact ⟨_, rfl, hb.of_alloc.drewN _⟩
    · have hm1 : decide (m > 0) = false := by simpa using hm
      go_wp2_with fail
      go_ret
      exact ⟨_, rfl, hb.of_alloc⟩
theorem l1Term_any (l h l' h' : Nat) (v u : Value) (ar t : List Int) (w : World) (ha : ar.length ≤ 1048576) (ht : t.length ≤ 1048576) (hv : SlI l h w v ar) (hu : SlI l' h' w u t) :
    Calls Try.prog 68 #[.agg #[v], u] w (RetB w) := by
  have hu0 := hu
  obtain ⟨ad', cap', rfl⟩ := hu.form
  cases hs : inB t.length 1 40 with
  | false =>
    have HS := Lib.hid hs; clear hs
    go_enter Try.func68, Try.ntmps68
    go_wp2_with (go_at_call 56; refine (l1In_f _ _ _ _ HS.out).mono ?_; rintro e w' ⟨rfl, hb1⟩)
    go_ret
    exact ⟨_, rfl, hb1.of_alloc⟩
  | true =>
    have HS := Lib.hid hs; clear hs
    go_enter Try.func68, Try.ntmps68
    go_wp2_with fail
    refine (l1In_t _ _ _ _ HS.out).mono ?_; rintro e w' ⟨rfl, hb1⟩
    have hx1 := boxc hb1 0 _ rfl
    go_wp2_with fail
    refine (l1End_any _ _ _ _ _ _ ar t _ ha ht (hv.below hb1.of_alloc) (hu0.below hb1.of_alloc)).mono ?_; rintro e w2 ⟨x, rfl, hb2⟩
    go_wp2_with fail
    go_ret
    exact ⟨_, rfl, hb1.of_alloc.step hb2⟩

end Go.Proofs.Ytnldienjkejfcaa
