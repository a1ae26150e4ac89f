/- Texts merged, part 4. -/
import Derived.Deep.RegionWith
import Derived.Maps.AppendAt
import Derived.Test.YtnldienjkejfcaaMgHoldsIn3
section
/- Chapter 5, the reference: GoodWorld. -/
namespace Go.Proofs.Ytnldienjkejfcaa
open Go.RowKit

theorem pw_le {Z k : Nat} (h1 : Z ≤ 3) (h2 : k ≤ 3) : Z ^ k ≤ 27 :=
  Nat.le_trans (Nat.pow_le_pow_left h1 _) (Nat.pow_le_pow_right (n := 3) (by omega) h2)
theorem pw_succ (Z k : Nat) : ((Z ^ k : Nat) : Int) * (Z : Int) = ((Z ^ (k + 1) : Nat) : Int) := by rw [Nat.pow_succ]; simp

set_option maxRecDepth 100000 in
set_option maxHeartbeats 400000 in
theorem l5Long_c (Z A : Nat) (w : World) (h2 : Z ≤ 3) (h3 : A ≤ 3) :
    Calls Try.prog 58 #[.int .i64 (Z : Int), .int .i64 (A : Int)] w (RetV w (.int .i64 ((Z ^ A : Nat) : Int))) := by
  go_enter Try.func58, Try.ntmps58
  go_wp2_with fail
  go_loop [1, 5] (fun a n => ∃ k : Nat, k ≤ A ∧ a = .int .i64 ((A - k : Nat) : Int) ∧ n = .int .i64 ((Z ^ k : Nat) : Int)) (fun a _ => (intOf a).toNat)
  case atStart => exact ⟨0, Nat.zero_le _, rfl, rfl⟩
  case round =>
    obtain ⟨k, hk, rfl, rfl⟩ := hrel
    by_cases hlt : k < A
    · have E := Lib.hid (pw_succ Z k)
      have hb := pw_le h2 (show k + 1 ≤ 3 by omega)
      have hw : -9223372036854775808 ≤ ((Z ^ k : Nat) : Int) * (Z : Int) ∧ ((Z ^ k : Nat) : Int) * (Z : Int) ≤ 9223372036854775807 := by rw [E.out]; omega
      have hw1 := IntWalk.i64_in (((Z ^ k : Nat) : Int) * (Z : Int)) hw
      have hpos : (0 : Int) < ((A - k : Nat) : Int) := by omega
      have hg3 : ((A - k : Nat) : Int) ≤ 3 := by omega
      have hsub : ((A - k : Nat) : Int) - 1 = ((A - (k + 1) : Nat) : Int) := by omega
      have HS := Lib.hid hsub
      clear hw hb hsub
      generalize ((A - k : Nat) : Int) = g at *
      generalize ((Z ^ k : Nat) : Int) = y at *
      go_wp2_with fail
      go_round
      case rel => exact ⟨k+1, by omega, by rw [← HS.out], by rw [← E.out]⟩
      case measure => simp [intOf]; omega
    · obtain rfl : k = A := by omega
      have hz : ((k - k : Nat) : Int) = 0 := by simp
      rw [hz]
      generalize ((Z ^ k : Nat) : Int) = y at *
      go_wp2_with fail
      go_ret
      exact ⟨rfl, Bel.rfl' _⟩
end Go.Proofs.Ytnldienjkejfcaa
end
section
/- Chapter 5, the reference: GoodWorld. -/
namespace Go.Proofs.Ytnldienjkejfcaa
open Go.RowKit

/-- The length of the k-th table and its elements, as the loop asks. -/
theorem ne_len {a b : Nat} (h : a = b) : ((a : Int) != (b : Int)) = false := by subst h; simp
theorem ne_len' {a b : Nat} (h : a ≠ b) : ((a : Int) != (b : Int)) = true := by rw [bne, beq_eq_false_iff_ne.2 (by omega)]; rfl

set_option maxRecDepth 100000 in
set_option maxHeartbeats 1000000 in
theorem l5World_c (l h l' h' : Nat) (v u : Value) (ar : List Int) (sz : Int) (tb : List (List Int)) (w : World) (hg : goodSign ar = true) (hx : short tb) (hv : SlI l h w v ar) (hu : SlS l' h' w u tb) :
    Calls Try.prog 40 #[.agg #[v], .agg #[.int .i64 sz, u]] w (RetV w (.bool (isWorld ar sz tb))) := by
  obtain ⟨ad, cap, rfl, -, -, hr⟩ := hv
  obtain ⟨au, cu, rfl⟩ := hu.form
  have hlen := (sign_len ar hg).2
  by_cases h1 : inB sz 1 3 = true
  · by_cases h2 : tb.length = ar.length
    · have hn := Lib.hid (ne_len h2)
      have E0 : isWorld ar sz tb = okTabs ar sz tb tb.length := by unfold isWorld; rw [h1, decide_eq_true h2, Bool.true_and, Bool.true_and]
      obtain ⟨z1, z3⟩ : 1 ≤ sz ∧ sz ≤ 3 := by unfold inB at h1; simpa using h1
      obtain ⟨Z, rfl⟩ : ∃ Z : Nat, sz = (Z : Int) := ⟨sz.toNat, by omega⟩
      have HI := Lib.hid h1
      have H2 := Lib.hid h2
      rw [E0]
      have hnn := hn.out
      clear h1 h2 E0 hn
      go_enter Try.func40, Try.ntmps40
      go_wp2_with fail
      refine (l1In_qv _ _ _ _ HI.out _).mono ?_; rintro e w1 ⟨rfl, rfl⟩
      go_wp2_with fail
      obtain ⟨W, hW⟩ : ∃ W, W = (w.alloc (.cells #[.slice ad ar.length cap] 30)).alloc (.cells #[.int .i64 (Z : Int), .slice au tb.length cu] 44) := ⟨_, rfl⟩
      rw [← hW]
      have hB : Bel w W := by rw [hW]; exact Bel.alloc2 _ _ _
      have k0 : w.heap.size + 1 < W.heap.size ∧ W.cell? ⟨w.heap.size, 0, none⟩ = some (.slice ad ar.length cap) ∧ W.cell? ⟨w.heap.size + 1, 0, none⟩ = some (.int .i64 (Z : Int)) ∧ W.cell? ⟨w.heap.size + 1, 1, none⟩ = some (.slice au tb.length cu) := by rw [hW]; simp [go_sem]
      clear hW
      go_loopw [23] (fun j wr => ∃ k : Nat, k ≤ tb.length ∧ j = .int .i64 k ∧ okTabs ar Z tb k = true ∧ Bel W wr) (fun j _ => tb.length - (intOf j).toNat)
      case atStart => exact ⟨0, Nat.zero_le _, rfl, okTabs_zero _ _ _, Bel.rfl' _⟩
      case round =>
        obtain ⟨k, hk, rfl, hall, hb⟩ := hrel
        have q0 := hb.at (b := w.heap.size) (by omega) k0.2.1
        have q1 := hb.at k0.1 k0.2.2.1
        have q2 := hb.at k0.1 k0.2.2.2
        by_cases hlt : k < tb.length
        · obtain ⟨b, off, u1, rfl, hbs, c1, s1⟩ := hu.at (hB.step hb) k hlt
          obtain ⟨b2, off2, rfl, hb2l, hc2⟩ := rd hr (hB.step hb) k (by rw [← H2.out]; exact hlt)
          have h03 := ar_nonneg ar hg k
          obtain ⟨A, hA⟩ : ∃ A : Nat, ar.getD k 0 = (A : Int) := ⟨(ar.getD k 0).toNat, by omega⟩
          have hxl := hx.2 k hlt
          have zl1 : w.heap.size + 1 < wr.heap.size := Nat.lt_of_lt_of_le k0.1 hb.size
          have zl0 : w.heap.size < wr.heap.size := by omega
          have zlc : b2 < wr.heap.size := World.block_lt_of_cell? _ ⟨_, _, none⟩ hc2
          have hkl : (k : Int) < ar.length := by rw [← H2.out]; omega
          have EO : okTab Z (ar.getD k 0) (tb.getD k []) = (decide ((tb.getD k []).length = Z ^ A) && (tb.getD k []).all (fun x => inB x 0 ((Z : Int) - 1))) := by rw [hA]; rfl
          have ES := okTabs_succ ar Z tb k
          have EF := fun (h : okTab Z (ar.getD k 0) (tb.getD k []) = false) => okTabs_false (tb := tb) (n := tb.length) h hlt
          rw [EO] at ES EF
          rw [hall, Bool.true_and] at ES
          rw [hA] at hc2 h03
          have hA3 : A ≤ 3 := by omega
          obtain ⟨d1, e1, rfl⟩ := s1.form
          have HL := Lib.hid (fun (w' : World) => l5Long_c Z A w' (by omega) hA3)
          have hi1 := IntWalk.i64_in ((Z : Int) - 1) (by omega)
          clear hA EO hall h03
          generalize tb.getD k [] = x at *
          by_cases hxz : x.length = Z ^ A
          · have hne := ne_len hxz
            have HA := Lib.hid (fun (q : Bool) (w' : World) (hq : x.all (fun x => inB x 0 ((Z : Int) - 1)) = q) (hb' : Bel wr w') => l1All_v _ _ _ x 0 ((Z : Int) - 1) w' q hq hxl (s1.below hb'))
            rw [decide_eq_true hxz, Bool.true_and] at ES EF
            clear s1 hxl hxz
            generalize hyy : Z ^ A = y at *
            clear hyy
            cases hq : x.all (fun x => inB x 0 ((Z : Int) - 1)) with
            | true =>
              have HQ := Lib.hid hq
              have ES2 := Lib.hid (ES.trans hq)
              clear hq ES EF
              go_wp2_with fail
              go_region_held3 (fun w' => Bel wr w' ∧ w'.cell? ⟨w.heap.size + 1, 0, none⟩ = some (.int .i64 (Z : Int)) ∧ w'.cell? ⟨w.heap.size, 0, none⟩ = some (.slice (some ⟨b2, off2, none⟩) ar.length cap) ∧ w'.cell? ⟨b2, off2 + k, none⟩ = some (.int .i64 (A : Int)))
                (first | exact ⟨Bel.drew0 _, q1, q0, hc2⟩ | exact ⟨HB8, p1, p0, pc⟩ | exact ⟨HB8.step hb9, hb9.at pl1 p1, hb9.at pl0 p0, hb9.at plc pc⟩ | fail)
                (first | (go_at_call 57; refine (HA.out _ _ HQ.out HB8).mono ?_; rintro e w9 ⟨rfl, hb9⟩) | (go_at_call 58; refine (HL.out _).mono ?_; rintro e w8 ⟨rfl, hb8⟩; have HB8 := hb8.of_drew; have hz8 := HB8.size; have p1 := HB8.at zl1 q1; have p0 := HB8.at zl0 q0; have pc := HB8.at zlc hc2; have pl1 : w.heap.size + 1 < w8.heap.size := Nat.lt_of_lt_of_le zl1 hz8; have pl0 : w.heap.size < w8.heap.size := Nat.lt_of_lt_of_le zl0 hz8; have plc : b2 < w8.heap.size := Nat.lt_of_lt_of_le zlc hz8) | fail)
              go_wp2_with fail
              go_roundw
              case rel => exact ⟨k+1, by omega, by go_num, ES2.out, (hb.step HB8).step hb9⟩
              case measure => simp [intOf]; omega
            | false =>
              have HQ := Lib.hid hq
              have EF2 := Lib.hid (EF hq)
              clear hq ES EF
              go_wp2_with fail
              go_region_held3 (fun w' => Bel wr w' ∧ w'.cell? ⟨w.heap.size + 1, 0, none⟩ = some (.int .i64 (Z : Int)) ∧ w'.cell? ⟨w.heap.size, 0, none⟩ = some (.slice (some ⟨b2, off2, none⟩) ar.length cap) ∧ w'.cell? ⟨b2, off2 + k, none⟩ = some (.int .i64 (A : Int)))
                (first | exact ⟨Bel.drew0 _, q1, q0, hc2⟩ | exact ⟨HB8, p1, p0, pc⟩ | exact ⟨HB8.step hb9, hb9.at pl1 p1, hb9.at pl0 p0, hb9.at plc pc⟩ | fail)
                (first | (go_at_call 57; refine (HA.out _ _ HQ.out HB8).mono ?_; rintro e w9 ⟨rfl, hb9⟩) | (go_at_call 58; refine (HL.out _).mono ?_; rintro e w8 ⟨rfl, hb8⟩; have HB8 := hb8.of_drew; have hz8 := HB8.size; have p1 := HB8.at zl1 q1; have p0 := HB8.at zl0 q0; have pc := HB8.at zlc hc2; have pl1 : w.heap.size + 1 < w8.heap.size := Nat.lt_of_lt_of_le zl1 hz8; have pl0 : w.heap.size < w8.heap.size := Nat.lt_of_lt_of_le zl0 hz8; have plc : b2 < w8.heap.size := Nat.lt_of_lt_of_le zlc hz8) | fail)
              go_wp2_with fail
              go_ret
              exact ⟨by rw [EF2.out]; rfl, (hB.step hb).step (HB8.step hb9)⟩
          · have hne := ne_len' hxz
            have EF2 := Lib.hid (EF (by rw [decide_eq_false hxz]; rfl))
            clear s1 hxl EF ES
            generalize hyy : Z ^ A = y at *
            clear hyy hxz
            go_wp2_with fail
            first | (go_region_with (first | (go_at_call 58; refine (HL.out _).mono ?_; rintro e w8 ⟨rfl, hb8⟩) | fail)) | fail
            all_goals
              have HB8 := hb8.of_drew
              go_wp2_with fail
              go_ret
              exact ⟨by rw [EF2.out]; rfl, (hB.step hb).step HB8⟩
        · obtain rfl : k = tb.length := by omega
          have HALL := Lib.hid hall
          clear hall hlt
          go_wp2_with fail
          go_ret
          exact ⟨by rw [HALL.out]; rfl, hB.step hb⟩
    · have E0 : Hid (isWorld ar sz tb = false) := by show _ = _; unfold isWorld; rw [decide_eq_false h2]; simp
      have HI := Lib.hid h1
      have hnn := ne_len' h2
      clear h1 h2
      go_enter Try.func40, Try.ntmps40
      go_wp2_with fail
      refine (l1In_qv _ _ _ _ HI.out _).mono ?_; rintro e w1 ⟨rfl, rfl⟩
      go_wp2_with fail
      go_ret
      exact ⟨by rw [E0.out]; rfl, Bel.alloc2 _ _ _⟩
  · have h1' : inB sz 1 3 = false := by simpa using h1
    have E0 : Hid (isWorld ar sz tb = false) := by show _ = _; unfold isWorld; rw [h1']; rfl
    have HI := Lib.hid h1'
    clear h1 h1'
    go_enter Try.func40, Try.ntmps40
    go_wp2_with fail
    refine (l1In_qv _ _ _ _ HI.out _).mono ?_; rintro e w1 ⟨rfl, rfl⟩
    go_wp2_with fail
    go_ret
    exact ⟨by rw [E0.out]; rfl, Bel.alloc2 _ _ _⟩

theorem l5World_v (l h l' h' : Nat) (v u : Value) (ar : List Int) (sz : Int) (tb : List (List Int)) (q : Bool) (w : World) (he : isWorld ar sz tb = q) (hg : goodSign ar = true) (hx : short tb) (hv : SlI l h w v ar) (hu : SlS l' h' w u tb) :
    Calls Try.prog 40 #[.agg #[v], .agg #[.int .i64 sz, u]] w (RetV w (.bool q)) := by subst he; exact l5World_c l h l' h' v u ar sz tb w hg hx hv hu

set_option maxRecDepth 100000 in
set_option maxHeartbeats 400000 in
theorem sGoodWorld_t {l h l' h' : Nat} {v u : Value} {ar : List Int} {sz : Int} {tb : List (List Int)} {w : World} (ha : ar.length ≤ 1048576) (hv : SlI l h w v ar) (hx : short tb) (hu : SlS l' h' w u tb) :
    Calls Try.prog 19 #[.agg #[v], .agg #[.int .i64 sz, u]] w (RetV w (.bool (goodWorld ar sz tb))) := by
  unfold goodWorld
  have HB : Bel w ((w.alloc (.cells #[v] 30)).alloc (.cells #[.int .i64 sz, u] 44)) := Bel.alloc2 _ _ _
  cases hg : goodSign ar with
  | false =>
    rw [Bool.false_and]
    have HC := Lib.hid (fun (w' : World) (hb : Bel w w') => sGoodSign_v l h v ar false w' hg ha (hv.below hb)); clear hg
    go_enter Try.func19, Try.ntmps19
    go_wp2_with fail
    refine (HC.out _ HB).mono ?_; rintro e w1 ⟨rfl, hb1⟩
    go_wp2_with fail
    go_ret
    exact ⟨rfl, HB.step hb1⟩
  | true =>
    rw [Bool.true_and]
    have HC := Lib.hid (fun (w' : World) (hb : Bel w w') => sGoodSign_v l h v ar true w' hg ha (hv.below hb))
    have HD := Lib.hid (fun (w' : World) (hb : Bel w w') => l5World_c l h l' h' v u ar sz tb w' hg hx (hv.below hb) (hu.below hb)); clear hg hx
    go_enter Try.func19, Try.ntmps19
    go_wp2_with fail
    refine (HC.out _ HB).mono ?_; rintro e w1 ⟨rfl, hb1⟩
    have k0 := hb1.at (b := w.heap.size) (off := 0) (by simp; omega) (show World.cell? _ _ = some v by simp [go_sem])
    have k1 := hb1.at (b := w.heap.size + 1) (off := 0) (by simp) (show World.cell? _ _ = some (.int .i64 sz) by simp [go_sem])
    have k2 := hb1.at (b := w.heap.size + 1) (off := 1) (by simp) (show World.cell? _ _ = some u by simp [go_sem])
    go_wp2_with fail
    refine (HD.out _ (HB.step hb1)).mono ?_; rintro e w2 ⟨rfl, hb2⟩
    go_wp2_with fail
    go_ret
    exact ⟨rfl, (HB.step hb1).step hb2⟩
theorem sGoodWorld_v {l h l' h' : Nat} {v u : Value} {ar : List Int} {sz : Int} {tb : List (List Int)} {w : World} {q : Bool} (he : goodWorld ar sz tb = q) (ha : ar.length ≤ 1048576) (hv : SlI l h w v ar) (hx : short tb) (hu : SlS l' h' w u tb) :
    Calls Try.prog 19 #[.agg #[v], .agg #[.int .i64 sz, u]] w (RetV w (.bool q)) := by subst he; exact sGoodWorld_t ha hv hx hu
end Go.Proofs.Ytnldienjkejfcaa
end
section
/- Chapter 5, the reference: the value of a term, EvalIn. -/
namespace Go.Proofs.Ytnldienjkejfcaa
open Go.RowKit

theorem evF_eq {ar t : List Int} {sz : Int} {tb : List (List Int)} {env : List Int} (h : okTerm ar t = true) {i : Nat} (hi : i < t.length) (h0 : ¬ t.getD i 0 < 0) :
    evF ar t sz tb env (t.length - i) i = entry sz tb (t.getD i 0) ((argsOf ar t i).map fun a => evF ar t sz tb env (t.length - a) a) := by
  obtain ⟨g, hg⟩ : ∃ g, t.length - i = g + 1 := ⟨t.length - i - 1, by omega⟩
  rw [hg, evF, if_neg h0]
  congr 1
  apply List.map_congr_left
  intro a ha
  have hb := argsOf_bd ar t h i hi a ha
  exact evF_fuel h g a (by omega) hb.2
theorem noOf_take {sz : Int} (f : Nat → Int) (l : List Nat) (k : Nat) (hk : k < l.length) : noOf sz ((l.take (k+1)).map f) = noOf sz ((l.take k).map f) * sz + f (l.getD k 0) := by
  rw [List.take_succ_eq_append_getElem hk, List.map_append]
  simp only [List.map_cons, List.map_nil]
  rw [noOf_snoc]
  simp [List.getD, hk]
end Go.Proofs.Ytnldienjkejfcaa
end
section
/- Chapter 5, the reference: the value of a term. -/
namespace Go.Proofs.Ytnldienjkejfcaa
open Go.RowKit

theorem evA_bd {ar t : List Int} {sz : Int} {tb : List (List Int)} {env : List Int} (hg : goodSign ar = true) (hw : isWorld ar sz tb = true) (he : okEnv sz env = true) (h : okTerm ar t = true) {i : Nat} (hi : i < t.length) :
    0 ≤ evF ar t sz tb env (t.length - i) i ∧ evF ar t sz tb env (t.length - i) i ≤ sz - 1 := by
  obtain ⟨e, he', _⟩ := good_end ar t h i hi
  exact (evT_bd hg hw he (ev_at (sz := sz) (tb := tb) (env := env) h _ i e (Nat.le_refl _) hi he')).1 _ (by simp)
theorem sub_ex {a b : Nat} (h : b < a) : ∃ g, a - b = g + 1 := ⟨a - b - 1, by omega⟩
theorem sub_lt2 {L i a n : Nat} (h1 : L - i ≤ n + 1) (h2 : i < a) : L - a ≤ n := by omega
theorem noOf_le {sz : Int} (h1 : 1 ≤ sz) (h3 : sz ≤ 3) (vs : List Int) (h : ∀ v ∈ vs, 0 ≤ v ∧ v ≤ sz - 1) (hl : vs.length ≤ 3) : 0 ≤ noOf sz vs ∧ noOf sz vs ≤ 26 := by
  have := noOf_bd h1 vs h
  have h2 := longW_le h3 (show ((vs.length : Nat) : Int) ≤ 3 by omega)
  omega

set_option maxRecDepth 100000 in
set_option maxHeartbeats 2000000 in
theorem l5Eval_c (l h l' h' l2 h2 l3 h3 : Nat) (v u vt ve : Value) (ar : List Int) (sz : Int) (tb : List (List Int)) (t env : List Int) (hg : goodSign ar = true) (hw : isWorld ar sz tb = true) (he : okEnv sz env = true) (hok : okTerm ar t = true) :
    ∀ (n i : Nat) (w : World), t.length - i ≤ n → i < t.length → SlI l h w v ar → SlS l' h' w u tb → SlI l2 h2 w vt t → SlI l3 h3 w ve env →
      Calls Try.prog 61 #[.agg #[v], .agg #[.int .i64 sz, u], vt, .int .i64 i, ve] w (RetV w (.int .i64 (evF ar t sz tb env (t.length - i) i))) := by
  intro n
  induction n with
  | zero => intro i w hn hi; omega
  | succ n ih =>
    intro i w hn hi hv hu ht hve
    obtain ⟨w1, w2, w3, w4⟩ := isWorld_iff.1 hw
    obtain ⟨e1, e2⟩ := okEnv_iff.1 he
    have hs := good_sym ar t hok i hi
    have htl := ((okTerm_iff ar t).1 hok).2.1
    have ht0 := ht
    have hve0 := hve
    have IH := Lib.hid ih; clear ih
    have HB : Bel w ((w.alloc (.cells #[v] 30)).alloc (.cells #[.int .i64 sz, u] 44)) := Bel.alloc2 _ _ _
    obtain ⟨at', ct, rfl, -, -, hrt⟩ := ht
    obtain ⟨bt, offt, rfl, hbtl, hct⟩ := rd hrt (Bel.rfl' w) i hi
    by_cases hneg : t.getD i 0 < 0
    · have E : Hid (evF ar t sz tb env (t.length - i) i = env.getD (-1 - t.getD i 0).toNat 0) := by
        show _ = _
        obtain ⟨g, hg'⟩ := sub_ex hi
        rw [hg', evF, if_pos hneg]
      rw [E.out]
      obtain ⟨j, hj⟩ : ∃ j : Nat, t.getD i 0 = -1 - (j : Int) := ⟨(-1 - t.getD i 0).toNat, by omega⟩
      have hj12 : j < 12 := by unfold okSym inB at hs; simp at hs; rw [← List.getD_eq_getElem?_getD, hj] at hs; omega
      rw [hj] at hct ⊢
      rw [show (-1 - (-1 - (j : Int))).toNat = j by omega]
      obtain ⟨ae, ce, rfl, -, -, hre⟩ := hve
      obtain ⟨be, offe, rfl, hbel, hce⟩ := rd hre (Bel.rfl' w) j (by omega)
      have hct' := HB.at hbtl hct
      have hce' := HB.at hbel hce
      have hw1 := IntWalk.i64_in (-1 - (-1 - (j : Int))) (by omega)
      have hjj : -1 - (-1 - (j : Int)) = (j : Int) := by omega
      rw [hjj] at hw1
      have hjl : (j : Int) < env.length := by omega
      have hneg2 : decide ((-1 - (j : Int)) < 0) = true := by simp; omega
      generalize env.getD j 0 = val at *
      clear hrt hre hve0 ht0 IH E hneg hj
      go_enter Try.func61, Try.ntmps61
      go_wp2_with fail
      go_ret
      exact ⟨rfl, HB⟩
    · obtain ⟨m, hm⟩ : ∃ m : Nat, t.getD i 0 = (m : Int) := ⟨(t.getD i 0).toNat, by omega⟩
      have EE := evF_eq (sz := sz) (tb := tb) (env := env) hok hi hneg
      have hargs := argsOf_bd ar t hok i hi
      have hal : (argsOf ar t i).length ≤ 3 := by rw [argsOf_len]; exact arOf_le ar hg _
      have hal2 : (argsOf ar t i).length = (ar.getD m 0).toNat := by rw [argsOf_len, hm, arOf_nat]
      have hmt : m < tb.length := by rw [hm] at hs; have := okSym_lt hs; omega
      clear w3
      have HA := Lib.hid (fun (w' : World) (hb : Bel w w') => l1Args_c l h l2 h2 v _ ar t i w' hg hok hi (hv.below hb) (ht0.below hb))
      have HE := Lib.hid (fun (a : Nat) (w' : World) (ha : a ∈ argsOf ar t i) (hb : Bel w w') => IH.out a w' (sub_lt2 hn (hargs a ha).1) (hargs a ha).2 (hv.below hb) (hu.below hb) (ht0.below hb) (hve0.below hb))
      have HV := Lib.hid (fun (a : Nat) (ha : a ∈ argsOf ar t i) => evA_bd (env := env) hg hw he hok (hargs a ha).2)
      have HN : Hid (∀ k, k ≤ (argsOf ar t i).length → 0 ≤ noOf sz (((argsOf ar t i).take k).map fun a => evF ar t sz tb env (t.length - a) a) ∧ noOf sz (((argsOf ar t i).take k).map fun a => evF ar t sz tb env (t.length - a) a) ≤ 26) := fun k hk => by
        refine noOf_le w1 w2 _ (fun x hx => ?_) (by simp; omega)
        obtain ⟨a, ha, rfl⟩ := List.mem_map.1 hx
        exact HV.out a (List.mem_of_mem_take ha)
      have HT : Hid (∀ k, k < (argsOf ar t i).length → noOf sz (((argsOf ar t i).take (k+1)).map fun a => evF ar t sz tb env (t.length - a) a) = noOf sz (((argsOf ar t i).take k).map fun a => evF ar t sz tb env (t.length - a) a) * sz + evF ar t sz tb env (t.length - (argsOf ar t i).getD k 0) ((argsOf ar t i).getD k 0)) := fun k hk => noOf_take _ _ k hk
      have HTB := Lib.hid (w4 m hmt)
      have HNL : Hid (noOf sz ((argsOf ar t i).map fun a => evF ar t sz tb env (t.length - a) a) < ((tb.getD m []).length : Nat)) := by
        show _ < _
        have := noOf_bd w1 ((argsOf ar t i).map fun a => evF ar t sz tb env (t.length - a) a) (fun x hx => by obtain ⟨a, ha, rfl⟩ := List.mem_map.1 hx; exact HV.out a ha)
        rw [(w4 m hmt).1]
        rw [List.length_map, hal2] at this
        exact this.2
      rw [hm] at EE hct
      unfold entry at EE
      simp only [Int.toNat_natCast] at EE
      have HEE := Lib.hid EE
      rw [EE]
      clear EE hs hneg hm hrt hal2
      generalize hFF : (fun a => evF ar t sz tb env (t.length - a) a) = F at *
      have HE2 : Hid (∀ (a : Nat) (w' : World), a ∈ argsOf ar t i → Bel w w' → Calls Try.prog 61 #[.agg #[v], .agg #[.int .i64 sz, u], .slice (some ⟨bt, offt, none⟩) t.length ct, .int .i64 a, ve] w' (RetV w' (.int .i64 (F a)))) := fun a w' ha hb => by have := HE.out a w' ha hb; rw [← hFF]; exact this
      have HV2 : Hid (∀ a, a ∈ argsOf ar t i → 0 ≤ F a ∧ F a ≤ sz - 1) := fun a ha => by have := HV.out a ha; rw [← hFF]; exact this
      have HT2 : Hid (∀ k, k < (argsOf ar t i).length → noOf sz (((argsOf ar t i).take (k+1)).map F) = noOf sz (((argsOf ar t i).take k).map F) * sz + F ((argsOf ar t i).getD k 0)) := fun k hk => by have := HT.out k hk; rw [this, ← hFF]
      clear HE HV HT HEE hFF
      obtain ⟨au, cu, rfl⟩ := hu.form
      go_enter Try.func61, Try.ntmps61
      have hct' := HB.at hbtl hct
      go_wp2_with fail
      refine (HA.out _ HB).mono ?_; rintro e W ⟨ad, q, c, rfl, ho, hb1⟩
      have HW := HB.step hb1
      have zW : w.heap.size + 1 < W.heap.size := by have := hb1.size; simp at this; omega
      have k0 := hb1.at (b := w.heap.size) (off := 0) (by simp; omega) (show World.cell? _ _ = some v by simp [go_sem])
      have k1 := hb1.at (b := w.heap.size + 1) (off := 0) (by simp) (show World.cell? _ _ = some (.int .i64 sz) by simp [go_sem])
      have k2 := hb1.at (b := w.heap.size + 1) (off := 1) (by simp) (show World.cell? _ _ = some (.slice au tb.length cu) by simp [go_sem])
      obtain ⟨ad', cap', e, -, -, hr⟩ := ho.1
      simp only [Value.slice.injEq] at e
      obtain ⟨rfl, rfl, rfl⟩ := e
      rw [natsI_len] at hr ⊢
      generalize argsOf ar t i = args at *
      clear HA hb1 ho
      go_wp2_with fail
      go_loopw [11, 32] (fun no j wr => ∃ k : Nat, k ≤ args.length ∧ j = .int .i64 k ∧ no = .int .i64 (noOf sz ((args.take k).map F)) ∧ Bel W wr) (fun _ j _ => args.length - (intOf j).toNat)
      case atStart => exact ⟨0, Nat.zero_le _, rfl, rfl, Bel.rfl' _⟩
      case round =>
        obtain ⟨k, hk, rfl, rfl, hbw⟩ := hrel
        have q0 := hbw.at (by omega) k0
        have q1 := hbw.at zW k1
        have q2 := hbw.at zW k2
        have hn0 := HN.out k hk
        have hbt2 : bt < wr.heap.size := Nat.lt_of_lt_of_le hbtl (HW.step hbw).size
        have zr1 : w.heap.size + 1 < wr.heap.size := Nat.lt_of_lt_of_le zW hbw.size
        have zr0 : w.heap.size < wr.heap.size := by omega
        by_cases hlt : k < args.length
        · obtain ⟨b, off, e2, -, -, hc⟩ := hr (by omega)
          subst e2
          have hcell := (hbw.cell (p := ⟨b, off + k, none⟩) (World.block_lt_of_cell? W ⟨b, off + k, none⟩ (hc k hlt))).trans (hc k hlt)
          rw [natsI_get _ _ hlt] at hcell
          have hmem : args.getD k 0 ∈ args := by simp [List.getD, hlt]
          have hva := HV2.out _ hmem
          have HS := Lib.hid (HT2.out k hlt)
          have HC := Lib.hid (fun (w' : World) (hb : Bel w w') => HE2.out _ w' hmem hb)
          have hmul : noOf sz ((args.take k).map F) * sz ≤ noOf sz ((args.take k).map F) * 3 := Int.mul_le_mul_of_nonneg_left w2 hn0.1
          have hmul0 := Int.mul_nonneg hn0.1 (show 0 ≤ sz by omega)
          clear hr hc hmem HE2 HV2 HT2 HN
          generalize noOf sz ((args.take k).map F) = no at *
          generalize args.getD k 0 = a at *
          generalize F a = fa at *
          have i1 := IntWalk.i64_in (no * sz) (by omega)
          have i2 := IntWalk.i64_in (no * sz + fa) (by omega)
          clear hmul hmul0
          go_wp2_with fail
          go_region_held3 (fun w' => Bel wr w' ∧ w'.cell? ⟨w.heap.size + 1, 0, none⟩ = some (.int .i64 sz) ∧ w'.cell? ⟨w.heap.size + 1, 1, none⟩ = some (.slice au tb.length cu) ∧ w'.cell? ⟨w.heap.size, 0, none⟩ = some v)
            (first | exact ⟨Bel.drew0 _, q1, q2, q0⟩ | exact ⟨HB8, HB8.at zr1 q1, HB8.at zr1 q2, HB8.at zr0 q0⟩ | fail)
            (first | (go_at_call 61; refine (HC.out _ ((HW.step hbw).step (Bel.drew0 _))).mono ?_; rintro e w8 ⟨rfl, hb8⟩; have HB8 := hb8.of_drew) | fail)
          go_wp2_with fail
          go_roundw
          case rel => exact ⟨k+1, by omega, by go_num, by rw [HS.out], hbw.step HB8⟩
          case measure => simp [intOf]; omega
        · obtain rfl : k = args.length := by omega
          rw [List.take_length] at hn0 ⊢
          obtain ⟨bb, off, u1, rfl, hbs, c1, s1⟩ := hu.at (HW.step hbw) m hmt
          obtain ⟨x1, x2, rfl, -, -, hrx⟩ := s1
          obtain ⟨N, hN⟩ : ∃ N : Nat, noOf sz (args.map F) = (N : Int) := ⟨(noOf sz (args.map F)).toNat, by omega⟩
          have HVAL : Hid ((tb.getD m []).getD (noOf sz (args.map F)).toNat 0 = (tb.getD m []).getD N 0) := by show _ = _; rw [hN, Int.toNat_natCast]
          have hnl := HNL.out
          rw [hN] at hnl hn0 ⊢
          rw [Int.toNat_natCast]
          have hNL : N < (tb.getD m []).length := by omega
          obtain ⟨bx, ofy, rfl, hyl, hcy⟩ := rd hrx (Bel.rfl' _) N hNL
          have hct2 := (HW.step hbw).at hbtl hct
          clear hr hrx HE2 HV2 HT2 HN HNL HTB
          generalize (tb.getD m []).getD N 0 = val at *
          generalize (tb.getD m []).length = xl at *
          have hil : (i : Int) < t.length := by omega
          have hml : (m : Int) < tb.length := by omega
          go_wp2_with fail
          go_region_held3 (fun w' => Bel wr w' ∧ w'.cell? ⟨w.heap.size + 1, 1, none⟩ = some (.slice (some ⟨bb, off, none⟩) tb.length cu) ∧ w'.cell? ⟨bt, offt + i, none⟩ = some (.int .i64 m) ∧ w'.cell? ⟨bb, off + m, none⟩ = some (.slice (some ⟨bx, ofy, none⟩) xl x2) ∧ w'.cell? ⟨bx, ofy + N, none⟩ = some (.int .i64 val))
            (first | exact ⟨Bel.drew0 _, q2, hct2, c1, hcy⟩ | fail)
            (first | fail)
          go_wp2_with fail
          go_ret
          exact ⟨by rw [HVAL.out]; rfl, (HW.step hbw).step (Bel.drew0 _)⟩
end Go.Proofs.Ytnldienjkejfcaa
end
section
/- Chapter 5, the reference: EvalIn, HoldsAt. -/
namespace Go.Proofs.Ytnldienjkejfcaa
open Go.RowKit

def evalOk (ar : List Int) (sz : Int) (tb : List (List Int)) (t env : List Int) : Bool := goodWorld ar sz tb && (okTerm ar t && okEnv sz env)
def evalAns (ar : List Int) (sz : Int) (tb : List (List Int)) (t env : List Int) : Int := if evalOk ar sz tb t env then evT ar sz tb env t else 0

set_option maxRecDepth 100000 in
set_option maxHeartbeats 400000 in
theorem l5Env_c (l h : Nat) (u v : Value) (sz : Int) (env : List Int) (w : World) (h1 : 1 ≤ sz) (h3 : sz ≤ 3) (hx : env.length ≤ 1048576) (hv : SlI l h w v env) :
    Calls Try.prog 47 #[.agg #[.int .i64 sz, u], v] w (RetV w (.bool (okEnv sz env))) := by
  unfold okEnv
  have hv0 := hv
  obtain ⟨ad, cap, rfl⟩ := hv.form
  by_cases h12 : env.length = 12
  · rw [decide_eq_true h12, Bool.true_and]
    have he : ((env.length : Int) == 12) = true := by rw [h12]; rfl
    have hw1 := IntWalk.i64_in (sz - 1) (by omega)
    cases hq : env.all (fun x => inB x 0 (sz - 1)) with
    | false =>
      have HA := Lib.hid (fun (w' : World) (hb : Bel w w') => l1All_v _ _ _ env 0 (sz - 1) w' false hq hx (hv0.below hb))
      clear hq hv hv0 h12
      go_enter Try.func47, Try.ntmps47
      go_wp2_with fail
      refine (HA.out _ (Bel.alloc0 _ _)).mono ?_; rintro e w1 ⟨rfl, hb1⟩
      go_wp2_with fail
      go_ret
      exact ⟨rfl, hb1.of_alloc⟩
    | true =>
      have HA := Lib.hid (fun (w' : World) (hb : Bel w w') => l1All_v _ _ _ env 0 (sz - 1) w' true hq hx (hv0.below hb))
      clear hq hv hv0 h12
      go_enter Try.func47, Try.ntmps47
      go_wp2_with fail
      refine (HA.out _ (Bel.alloc0 _ _)).mono ?_; rintro e w1 ⟨rfl, hb1⟩
      go_wp2_with fail
      go_ret
      exact ⟨rfl, hb1.of_alloc⟩
  · rw [decide_eq_false h12, Bool.false_and]
    have he : ((env.length : Int) == 12) = false := beq_eq_false_iff_ne.2 (by omega)
    clear h12
    go_enter Try.func47, Try.ntmps47
    go_wp2_with fail
    go_ret
    exact ⟨rfl, Bel.alloc0 _ _⟩
theorem l5Env_v (l h : Nat) (u v : Value) (sz : Int) (env : List Int) (q : Bool) (w : World) (he : okEnv sz env = q) (h1 : 1 ≤ sz) (h3 : sz ≤ 3) (hx : env.length ≤ 1048576) (hv : SlI l h w v env) :
    Calls Try.prog 47 #[.agg #[.int .i64 sz, u], v] w (RetV w (.bool q)) := by subst he; exact l5Env_c l h u v sz env w h1 h3 hx hv

end Go.Proofs.Ytnldienjkejfcaa
end
section
/- Slices of literals (a sign and two slices of ints): read (SlC), or of the call's own (OwnC); marks. No program. -/
namespace Go.Proofs.Ytnldienjkejfcaa
open Go.RowKit

/-- A literal: its sign, its two terms. -/
abbrev Lt := Bool × List Int × List Int
def lt0 : Lt := (false, [], [])
def wC (x : Lt) : Nat := 1 + x.2.1.length + x.2.2.length
def sumC (c : List Lt) : Nat := (c.map wC).sum
theorem sumC_take (c : List Lt) (k : Nat) (h : k < c.length) : sumC (c.take (k+1)) = sumC (c.take k) + wC (c.getD k lt0) := by
  unfold sumC
  rw [List.take_succ_eq_append_getElem h, List.map_append, List.sum_append]
  simp [List.getD, h]
theorem sumC_all (c : List Lt) (k : Nat) (h : ¬ k < c.length) : sumC (c.take k) = sumC c := by rw [List.take_of_length_le (by omega)]
theorem sumC_le (c : List Lt) (k : Nat) : sumC (c.take k) ≤ sumC c := by
  conv => rhs; rw [← List.take_append_drop k c]
  unfold sumC
  rw [List.map_append, List.sum_append]
  omega
theorem sumC_get (c : List Lt) (k : Nat) (h : k < c.length) : sumC (c.take k) + wC (c.getD k lt0) ≤ sumC c := by
  rw [← sumC_take c k h]; exact sumC_le _ _
theorem sumC_len (c : List Lt) : c.length ≤ sumC c := by
  induction c with
  | nil => simp [sumC]
  | cons x r ih => simp only [sumC, List.map_cons, List.sum_cons, List.length_cons, wC] at *; omega
def shortC (c : List Lt) : Prop := c.length ≤ 1048576 ∧ ∀ j, j < c.length → (c.getD j lt0).2.1.length ≤ 1048576 ∧ (c.getD j lt0).2.2.length ≤ 1048576
theorem shortC_of_sum {c : List Lt} (h : sumC c ≤ 1048576) : shortC c := by
  have := sumC_len c
  refine ⟨by omega, fun j hj => ?_⟩
  have := sumC_get c j hj
  unfold wC at this
  omega
/-- Its terms, literal by literal. -/
def flatC (c : List Lt) : List (List Int) := c.flatMap fun x => [x.2.1, x.2.2]
theorem flatC_nil : flatC [] = [] := rfl
theorem flatC_cons (x : Lt) (c : List Lt) : flatC (x :: c) = x.2.1 :: x.2.2 :: flatC c := rfl
theorem flatC_len (c : List Lt) : (flatC c).length = 2 * c.length := by
  induction c with
  | nil => rfl
  | cons x r ih => rw [flatC_cons]; simp [ih]; omega
theorem flatC_app (c d : List Lt) : flatC (c ++ d) = flatC c ++ flatC d := by simp [flatC]
theorem flatC_get (c : List Lt) (j : Nat) : (flatC c).getD (2*j) [] = (c.getD j lt0).2.1 ∧ (flatC c).getD (2*j+1) [] = (c.getD j lt0).2.2 := by
  induction c generalizing j with
  | nil => simp [flatC, lt0]
  | cons x r ih =>
    cases j with
    | zero => simp [flatC_cons]
    | succ j =>
      rw [flatC_cons, show 2 * (j+1) = (2*j+1) + 1 from by omega]
      simpa [List.getD] using ih j

def marksC (k : Nat) : List Lt → List Lt
  | [] => []
  | x :: r => (decide (k % 3 = 0), marks (k+1) x.2.1.length, marks (k+1+x.2.1.length) x.2.2.length) :: marksC (k + wC x) r
theorem marksC_len (k : Nat) (c : List Lt) : (marksC k c).length = c.length := by
  induction c generalizing k with
  | nil => rfl
  | cons x r ih => simp [marksC, ih]
theorem marksC_app (k : Nat) (c d : List Lt) : marksC k (c ++ d) = marksC k c ++ marksC (k + sumC c) d := by
  induction c generalizing k with
  | nil => simp [marksC, sumC]
  | cons x r ih => simp [marksC, ih, sumC, Nat.add_assoc]
def mark1 (k : Nat) (x : Lt) : Lt := (decide (k % 3 = 0), marks (k+1) x.2.1.length, marks (k+1+x.2.1.length) x.2.2.length)
theorem marksC_get (k : Nat) (c : List Lt) (j : Nat) (h : j < c.length) : (marksC k c).getD j lt0 = mark1 (k + sumC (c.take j)) (c.getD j lt0) := by
  conv => lhs; rw [← List.take_append_drop j c, marksC_app, List.drop_eq_getElem_cons h]
  have hl : (marksC k (c.take j)).length = j := by rw [marksC_len, List.length_take]; omega
  simp only [List.getD]
  rw [List.getElem?_append_right (by omega), hl, Nat.sub_self]
  simp [marksC, mark1, h]
/-- The first j are marked. -/
def markedC (c : List Lt) (k j : Nat) : List Lt := marksC k (c.take j) ++ c.drop j
theorem markedC_zero (c : List Lt) (k : Nat) : markedC c k 0 = c := by simp [markedC, marksC]
theorem markedC_len (c : List Lt) (k j : Nat) (h : j ≤ c.length) : (markedC c k j).length = c.length := by simp [markedC, marksC_len]; omega
theorem markedC_all (c : List Lt) (k j : Nat) (h : ¬ j < c.length) : markedC c k j = marksC k c := by
  unfold markedC
  rw [List.take_of_length_le (by omega), List.drop_eq_nil_of_le (by omega), List.append_nil]
theorem markedC_get (c : List Lt) (k j : Nat) (h : j < c.length) : (markedC c k j).getD j lt0 = c.getD j lt0 := by
  have hl : (marksC k (c.take j)).length = j := by rw [marksC_len, List.length_take]; omega
  unfold markedC
  simp only [List.getD]
  rw [List.getElem?_append_right (by omega), hl, Nat.sub_self]
  simp
theorem markedC_succ (c : List Lt) (k j : Nat) (h : j < c.length) : (markedC c k j).set j (mark1 (k + sumC (c.take j)) (c.getD j lt0)) = markedC c k (j+1) := by
  have hl : (marksC k (c.take j)).length = j := by rw [marksC_len, List.length_take]; omega
  unfold markedC
  rw [List.set_append_right _ _ (by omega), hl, Nat.sub_self, List.drop_eq_getElem_cons h, List.set_cons_zero, List.take_succ_eq_append_getElem h, marksC_app]
  simp [marksC, mark1, List.getD, h]

/-- The slice value v holds literals. -/
def SlC (lo hi : Nat) (w : World) (v : Value) (c : List Lt) : Prop :=
  ∃ ad cap, v = .slice ad c.length cap ∧ c.length ≤ cap ∧ (cap ≤ maxLen ∧ (ad = none → cap = 0)) ∧
    (0 < c.length → ∃ b off, ad = some ⟨b, off, none⟩ ∧ lo ≤ b ∧ b < hi ∧ ∀ j, j < c.length → ∃ u1 u2, w.cell? ⟨b, off + j * 3, none⟩ = some (.bool (c.getD j lt0).1) ∧ w.cell? ⟨b, off + j * 3 + 1, none⟩ = some u1 ∧ w.cell? ⟨b, off + j * 3 + 2, none⟩ = some u2 ∧ SlI lo hi w u1 (c.getD j lt0).2.1 ∧ SlI lo hi w u2 (c.getD j lt0).2.2)
theorem SlC.form {lo hi w v c} (h : SlC lo hi w v c) : ∃ ad k, v = .slice ad c.length k := by obtain ⟨ad, k, h, _⟩ := h; exact ⟨ad, k, h⟩
theorem SlC.mono {lo hi lo' hi' w v c} (h : SlC lo hi w v c) (h1 : lo' ≤ lo) (h2 : hi ≤ hi') : SlC lo' hi' w v c := by
  obtain ⟨ad, cap, rfl, hc, hm, hr⟩ := h
  refine ⟨ad, cap, rfl, hc, hm, fun hp => ?_⟩
  obtain ⟨b, off, e, a1, a2, a3⟩ := hr hp
  refine ⟨b, off, e, by omega, by omega, fun j hj => ?_⟩
  obtain ⟨u1, u2, c1, c2, c3, s1, s2⟩ := a3 j hj
  exact ⟨u1, u2, c1, c2, c3, s1.mono h1 h2, s2.mono h1 h2⟩
theorem cell_same {w w' : World} {a : Addr} {v : Value} (hs : a.block < w.heap.size → w'.heap[a.block]? = w.heap[a.block]?) (h : w.cell? a = some v) : w'.cell? a = some v := by
  rw [World.cell?_of_block (w := w) (a := a) (hs (World.block_lt_of_cell? w a h))]; exact h
theorem SlC.same {lo hi w w' v c} (h : SlC lo hi w v c) (hs : ∀ b, lo ≤ b → b < hi → b < w.heap.size → w'.heap[b]? = w.heap[b]?) : SlC lo hi w' v c := by
  obtain ⟨ad, cap, rfl, hc, hm, hr⟩ := h
  refine ⟨ad, cap, rfl, hc, hm, fun hp => ?_⟩
  obtain ⟨b, off, e, a1, a2, a3⟩ := hr hp
  refine ⟨b, off, e, a1, a2, fun j hj => ?_⟩
  obtain ⟨u1, u2, c1, c2, c3, s1, s2⟩ := a3 j hj
  exact ⟨u1, u2, cell_same (hs b a1 a2) c1, cell_same (hs b a1 a2) c2, cell_same (hs b a1 a2) c3, s1.same hs, s2.same hs⟩
theorem SlC.below {lo hi w w' v c} (h : SlC lo hi w v c) (hb : Bel w w') : SlC lo hi w' v c := h.same fun b _ _ h3 => hb.block b h3
theorem SlC.alloc {lo hi w v c} (h : SlC lo hi w v c) (o : Obj) : SlC lo hi (w.alloc o) v c := h.below (Bel.alloc0 w o)
theorem SlC.k {lo hi w v c} (h : SlC lo hi w v c) : K (fun w => SlC lo hi w v c) w := fun _ hb => h.below hb
theorem SlC.chg {lo hi lo' hi' w w' v c} (h : SlC lo hi w v c) (k : Chg lo' hi' w w') (hd : hi ≤ lo' ∨ hi' ≤ lo) : SlC lo hi w' v c :=
  h.same fun b h1 h2 h3 => k.block b h3 (by omega)
theorem SlC.nil (lo hi : Nat) (w : World) : SlC lo hi w (.slice none 0 0) [] := ⟨none, 0, rfl, Nat.le_refl _, ⟨Nat.zero_le _, fun _ => rfl⟩, fun h => absurd h (by simp)⟩
theorem SlC.len {lo hi : Nat} {w : World} {ad : Option Addr} {k n : Nat} {c : List Lt} (h : SlC lo hi w (.slice ad n k) c) : n = c.length := by
  obtain ⟨ad', cap, e, _⟩ := h
  simp only [Value.slice.injEq] at e
  exact e.2.1
/-- Reading the j-th. -/
theorem SlC.at {lo hi : Nat} {w wr : World} {ad : Option Addr} {k n : Nat} {c : List Lt} (h : SlC lo hi w (.slice ad n k) c) (hb : Bel w wr) (j : Nat) (hj : j < c.length) :
    ∃ b off u1 u2, ad = some ⟨b, off, none⟩ ∧ b < w.heap.size ∧ wr.cell? ⟨b, off + j * 3, none⟩ = some (.bool (c.getD j lt0).1) ∧ wr.cell? ⟨b, off + j * 3 + 1, none⟩ = some u1 ∧ wr.cell? ⟨b, off + j * 3 + 2, none⟩ = some u2 ∧ SlI lo hi wr u1 (c.getD j lt0).2.1 ∧ SlI lo hi wr u2 (c.getD j lt0).2.2 := by
  obtain ⟨ad', cap, e, _, _, hr⟩ := h
  obtain ⟨b, off, e2, _, _, hc⟩ := hr (by omega)
  obtain ⟨u1, u2, c1, c2, c3, s1, s2⟩ := hc j hj
  have h1 := World.block_lt_of_cell? w ⟨b, off + j * 3, none⟩ c1
  simp only [Value.slice.injEq] at e
  exact ⟨b, off, u1, u2, e.1.trans e2, h1, cell_same (fun h => hb.block b h) c1, cell_same (fun h => hb.block b h) c2, cell_same (fun h => hb.block b h) c3, s1.below hb, s2.below hb⟩

/-- A literal's three cells. -/
abbrev LV := Bool × Value × Value
def cellsC (zs : List LV) : List Value := zs.flatMap fun z => [.bool z.1, z.2.1, z.2.2]
def rowsC (zs : List LV) : List Value := zs.flatMap fun z => [z.2.1, z.2.2]
theorem cellsC_len (zs : List LV) : (cellsC zs).length = zs.length * 3 := by
  induction zs with
  | nil => rfl
  | cons x r ih => show (_ :: _ :: _ :: cellsC r).length = _; simp [ih]; omega
theorem rowsC_len (zs : List LV) : (rowsC zs).length = 2 * zs.length := by
  induction zs with
  | nil => rfl
  | cons x r ih => show (_ :: _ :: rowsC r).length = _; simp [ih]; omega
theorem cellsC_get (zs : List LV) (j : Nat) (z : LV) (h : zs[j]? = some z) : (cellsC zs)[j * 3]? = some (.bool z.1) ∧ (cellsC zs)[j * 3 + 1]? = some z.2.1 ∧ (cellsC zs)[j * 3 + 2]? = some z.2.2 := by
  induction zs generalizing j with
  | nil => simp at h
  | cons x r ih =>
    have e : cellsC (x :: r) = .bool x.1 :: x.2.1 :: x.2.2 :: cellsC r := rfl
    cases j with
    | zero => simp at h; subst h; rw [e]; simp
    | succ j =>
      rw [e, show (j + 1) * 3 = j * 3 + 1 + 1 + 1 from by omega]
      simpa using ih j (by simpa using h)
theorem rowsC_get (zs : List LV) (j : Nat) (z : LV) (h : zs[j]? = some z) : (rowsC zs)[2 * j]? = some z.2.1 ∧ (rowsC zs)[2 * j + 1]? = some z.2.2 := by
  induction zs generalizing j with
  | nil => simp at h
  | cons x r ih =>
    have e : rowsC (x :: r) = x.2.1 :: x.2.2 :: rowsC r := rfl
    cases j with
    | zero => simp at h; subst h; rw [e]; simp
    | succ j =>
      rw [e, show 2 * (j + 1) = 2 * j + 1 + 1 from by omega]
      simpa using ih j (by simpa using h)
theorem rowsC_app (zs ys : List LV) : rowsC (zs ++ ys) = rowsC zs ++ rowsC ys := by simp [rowsC]
theorem cellsC_app (zs ys : List LV) : cellsC (zs ++ ys) = cellsC zs ++ cellsC ys := by simp [cellsC]
theorem cellsC_one (zs : List LV) (h : ∀ z ∈ zs, z.2.1.oneCell' = true ∧ z.2.2.oneCell' = true) : ∀ u ∈ cellsC zs, u.oneCell' = true := by
  intro u hu
  obtain ⟨z, hz, hm⟩ := List.mem_flatMap.1 hu
  have := h z hz
  simp at hm
  rcases hm with rfl | rfl | rfl
  · rfl
  · exact this.1
  · exact this.2

/-- Literals of the call's own, each term in a block of its own. -/
def OwnC (lo hi : Nat) (w : World) (v : Value) (c : List Lt) : Prop :=
  ∃ ad cap, v = .slice ad c.length cap ∧ c.length ≤ cap ∧ (cap ≤ maxLen ∧ (ad = none → cap = 0)) ∧
    (0 < c.length → ∃ b off zs bs, ad = some ⟨b, off, none⟩ ∧ lo ≤ b ∧ b < hi ∧ zs.length = c.length ∧
      (∀ j z, zs[j]? = some z → z.1 = (c.getD j lt0).1 ∧ w.cell? ⟨b, off + j * 3, none⟩ = some (.bool z.1) ∧ w.cell? ⟨b, off + j * 3 + 1, none⟩ = some z.2.1 ∧ w.cell? ⟨b, off + j * 3 + 2, none⟩ = some z.2.2) ∧
      (∀ i, w.frozen? ⟨b, i, none⟩ = false) ∧ Ins lo hi b w (rowsC zs) (flatC c) bs)
theorem OwnC.sl {lo hi w v c} (h : OwnC lo hi w v c) : SlC lo hi w v c := by
  obtain ⟨ad, cap, rfl, hc, hm, hr⟩ := h
  refine ⟨ad, cap, rfl, hc, hm, fun hp => ?_⟩
  obtain ⟨b, off, zs, bs, e, a1, a2, hl, a3, _, hi⟩ := hr hp
  refine ⟨b, off, e, a1, a2, fun j hj => ?_⟩
  have hz : zs[j]? = some zs[j] := List.getElem?_eq_getElem (by omega)
  obtain ⟨e1, c1, c2, c3⟩ := a3 j _ hz
  obtain ⟨r1, r2⟩ := rowsC_get zs j _ hz
  have s1 := hi.sl _ _ r1
  have s2 := hi.sl _ _ r2
  rw [(flatC_get c j).1] at s1
  rw [(flatC_get c j).2] at s2
  exact ⟨_, _, by rw [← e1]; exact c1, c2, c3, s1, s2⟩
theorem OwnC.same {lo hi w w' v c} (h : OwnC lo hi w v c) (hs : ∀ b, lo ≤ b → b < hi → b < w.heap.size → w'.heap[b]? = w.heap[b]?) : OwnC lo hi w' v c := by
  obtain ⟨ad, cap, rfl, hc, hm, hr⟩ := h
  refine ⟨ad, cap, rfl, hc, hm, fun hp => ?_⟩
  obtain ⟨b, off, zs, bs, e, a1, a2, hl, a3, hf, hi⟩ := hr hp
  have hb : b < w.heap.size := by
    have hz : zs[0]? = some zs[0] := List.getElem?_eq_getElem (by omega)
    exact World.block_lt_of_cell? w ⟨b, off + 0 * 3, none⟩ (a3 0 _ hz).2.1
  refine ⟨b, off, zs, bs, e, a1, a2, hl, fun j z hz => ?_, fun i => ?_, hi.same hs⟩
  · obtain ⟨e1, c1, c2, c3⟩ := a3 j z hz
    exact ⟨e1, cell_same (hs b a1 a2) c1, cell_same (hs b a1 a2) c2, cell_same (hs b a1 a2) c3⟩
  · rw [World.frozen?_of_block (w := w) (a := ⟨b, i, none⟩) (hs b a1 a2 hb)]; exact hf i
theorem OwnC.below {lo hi w w' v c} (h : OwnC lo hi w v c) (hb : Bel w w') : OwnC lo hi w' v c := h.same fun b _ _ h3 => hb.block b h3
theorem OwnC.alloc {lo hi w v c} (h : OwnC lo hi w v c) (o : Obj) : OwnC lo hi (w.alloc o) v c := h.below (Bel.alloc0 w o)
theorem OwnC.k {lo hi w v c} (h : OwnC lo hi w v c) : K (fun w => OwnC lo hi w v c) w := fun _ hb => h.below hb
theorem OwnC.chg {lo hi lo' hi' w w' v c} (h : OwnC lo hi w v c) (k : Chg lo' hi' w w') (hd : hi ≤ lo' ∨ hi' ≤ lo) : OwnC lo hi w' v c :=
  h.same fun b h1 h2 h3 => k.block b h3 (by omega)
theorem OwnC.mono {lo hi lo' hi' w v c} (h : OwnC lo hi w v c) (h1 : lo' ≤ lo) (h2 : hi ≤ hi') : OwnC lo' hi' w v c := by
  obtain ⟨ad, cap, rfl, hc, hm, hr⟩ := h
  refine ⟨ad, cap, rfl, hc, hm, fun hp => ?_⟩
  obtain ⟨b, off, zs, bs, e, a1, a2, hl, a3, hf, hi⟩ := hr hp
  exact ⟨b, off, zs, bs, e, by omega, by omega, hl, a3, hf, hi.mono h1 h2⟩
theorem OwnC.nil (lo hi : Nat) (w : World) : OwnC lo hi w (.slice none 0 0) [] := ⟨none, 0, rfl, Nat.le_refl _, ⟨Nat.zero_le _, fun _ => rfl⟩, fun h => absurd h (by simp)⟩
/-- A row that the call itself made, as a slice of literals. -/
theorem OwnC.of_row {w : World} {base e hi : Nat} {v : Value} {zs : List LV} {c : List Lt} {bs : Nat → Nat} (h : w.ownsRow base e 3 v c.length (cellsC zs)) (hi' : w.heap.size ≤ hi)
    (hp : zs.map (·.1) = c.map (·.1)) (hin : ∀ g, v.ownBlock = some g → Ins base hi g w (rowsC zs) (flatC c) bs) : OwnC base hi w v c := by
  have h0 := h
  have hzl : zs.length = c.length := by simpa using congrArg List.length hp
  obtain ⟨h1, h2⟩ := h
  rcases h2 with ⟨rfl, hn⟩ | ⟨g, cap, cur, rfl, hg, hh, hn, hc, hs, ht⟩
  · obtain rfl : c = [] := List.length_eq_zero_iff.1 hn
    exact OwnC.nil _ _ _
  · have hgs : g < w.heap.size := (Array.getElem?_eq_some_iff.1 hh).1
    refine ⟨_, cap, rfl, hn, ⟨hc, fun h => by simp at h⟩, fun _ => ⟨g, 0, zs, bs, rfl, hg, by omega, hzl, fun j z hz => ?_, fun i => ?_, hin g rfl⟩⟩
    · have hj : j < zs.length := (List.getElem?_eq_some_iff.1 hz).1
      obtain ⟨c1, c2, c3⟩ := cellsC_get zs j z hz
      have hcell : ∀ i, i < c.length * 3 → w.cell? ⟨g, 0 + i, none⟩ = (cellsC zs)[i]? := fun i hi => by rw [Nat.zero_add]; exact h0.cellAt i hi
      refine ⟨?_, by rw [hcell _ (by omega)]; exact c1, by rw [Nat.add_assoc, hcell _ (by omega)]; exact c2, by rw [Nat.add_assoc, hcell _ (by omega)]; exact c3⟩
      have := congrArg (fun l => l[j]?) hp
      simp only [List.getElem?_map, hz, Option.map_some] at this
      rw [List.getD_eq_getElem?_getD]
      cases hcj : c[j]? with
      | none => rw [hcj] at this; simp at this
      | some y => rw [hcj] at this; simpa using this
    · simp [World.frozen?, hh]
def RetC (w : World) (c : List Lt) (e : Ending) (w' : World) : Prop := ∃ ad n k, e = .returned (.slice ad n k) ∧ OwnC w.heap.size w'.heap.size w' (.slice ad n k) c ∧ Bel w w'
def RetCB (w : World) (c : List Lt) (ok : Bool) (e : Ending) (w' : World) : Prop := ∃ ad n k, e = .returned (.tuple #[.slice ad n k, .bool ok]) ∧ OwnC w.heap.size w'.heap.size w' (.slice ad n k) c ∧ Bel w w'
end Go.Proofs.Ytnldienjkejfcaa
end
section
/- Lists of terms that are valid: both functions; the reference's also at signs that are not. -/
namespace Go.Proofs.Ytnldienjkejfcaa
open Go.RowKit

def goodTerms (ar : List Int) (b : List (List Int)) (m : Nat) : Bool := goodSign ar && decide (b.length ≤ m) && b.all (okTerm ar)
theorem goodTerms_iff {ar : List Int} {b : List (List Int)} {m : Nat} : goodTerms ar b m = true ↔ goodSign ar = true ∧ b.length ≤ m ∧ ∀ t ∈ b, okTerm ar t = true := by
  simp only [goodTerms, Bool.and_eq_true, decide_eq_true_eq, List.all_eq_true]
  constructor
  · rintro ⟨⟨h1, h2⟩, h3⟩; exact ⟨h1, h2, h3⟩
  · rintro ⟨h1, h2, h3⟩; exact ⟨⟨h1, h2⟩, h3⟩

set_option maxRecDepth 100000 in
set_option maxHeartbeats 400000 in
theorem goodTerms_c (l h l' h' : Nat) (v u : Value) (ar : List Int) (b : List (List Int)) (m : Nat) (w : World) (hmm : m ≤ 1000) (ha : ar.length ≤ 1048576) (hv : SlI l h w v ar) (hb : short b) (hu : SlS l' h' w u b) :
    Calls Try.prog 54 #[.agg #[v], u, .int .i64 m] w (RetV w (.bool (goodTerms ar b m))) := by
  obtain ⟨ad', cap', rfl⟩ := hu.form
  obtain ⟨-, hm⟩ := hb
  by_cases hl : b.length ≤ m
  · have hl2 : decide (m < b.length) = false := by simp; omega
    cases hs : goodSign ar with
    | false =>
      have E : Hid (goodTerms ar b m = false) := by show _ = _; simp [goodTerms, hs]
      have HS := Lib.hid hs; clear hs
      go_enter Try.func54, Try.ntmps54
      go_wp2_with fail
      refine (iGoodSign_v _ _ _ _ _ _ HS.out ha (hv.alloc _)).mono ?_; rintro e w' ⟨rfl, hb1⟩
      go_wp2_with fail
      go_ret
      exact ⟨by rw [E.out]; rfl, hb1.of_alloc⟩
    | true =>
      have hG : Hid (goodTerms ar b m = b.all (okTerm ar)) := by show _ = _; simp [goodTerms, hs, hl]
      have hg := hs
      have HS := Lib.hid hs; clear hs
      go_enter Try.func54, Try.ntmps54
      go_wp2_with fail
      refine (iGoodSign_v _ _ _ _ _ _ HS.out ha (hv.alloc _)).mono ?_; rintro e w1 ⟨rfl, hb1⟩
      have hbox := boxc hb1 0 _ rfl
      go_wp2_with fail
      go_loopw [20] (fun i wr => ∃ k : Nat, k ≤ b.length ∧ i = .int .i64 k ∧ (b.take k).all (okTerm ar) = true ∧ Bel (w.alloc (.cells #[v] 30)) wr) (fun i _ => b.length - (intOf i).toNat)
      case atStart => exact ⟨0, Nat.zero_le _, rfl, rfl, hb1⟩
      case round =>
        obtain ⟨k, hk, rfl, hall, hb2⟩ := hrel
        have hbox2 := boxc hb2 0 _ rfl
        by_cases hlt : k < b.length
        · obtain ⟨bb, off, p, rfl, -, hc, hp⟩ := hu.at hb2.of_alloc k hlt
          have hmk := hm k hlt
          have hsp := all_splitS b (okTerm ar) k hlt hall
          have hfs := all_falseS b (okTerm ar) k hlt
          clear hm hu hbox hall
          generalize b.getD k [] = t at *
          obtain ⟨ap, cp, rfl⟩ := hp.form
          cases ht : okTerm ar t with
          | false =>
            have E : Hid (goodTerms ar b m = false) := by show _ = _; rw [hG.out]; exact hfs ht
            have HT := Lib.hid ht
            clear ht hsp hfs
            go_wp2_with fail
            refine (iGoodTerm_vv _ _ _ _ _ _ _ _ _ _ HT.out hg ha (by omega) (hv.below hb2.of_alloc) hp).mono ?_; rintro e w2 ⟨rfl, hb3⟩
            go_wp2_with fail
            go_ret
            exact ⟨by rw [E.out]; rfl, hb2.of_alloc.step hb3⟩
          | true =>
            have HA := Lib.hid (hsp.trans ht)
            have HT := Lib.hid ht
            clear ht hsp hfs
            go_wp2_with fail
            refine (iGoodTerm_vv _ _ _ _ _ _ _ _ _ _ HT.out hg ha (by omega) (hv.below hb2.of_alloc) hp).mono ?_; rintro e w2 ⟨rfl, hb3⟩
            go_wp2_with fail
            go_roundw
            case rel => exact ⟨k+1, by omega, by go_num, HA.out, hb2.step hb3⟩
            case measure => simp [intOf]; omega
        · have E : Hid (goodTerms ar b m = true) := by show _ = _; rw [hG.out]; exact all_doneS b _ k hk hlt hall
          clear hall
          go_wp2_with fail
          go_ret
          exact ⟨by rw [E.out]; rfl, hb2.of_alloc⟩
  · have E : Hid (goodTerms ar b m = false) := by show _ = _; simp [goodTerms, hl]
    have hl2 : decide (m < b.length) = true := by simp; omega
    go_enter Try.func54, Try.ntmps54
    go_wp2_with fail
    go_ret
    exact ⟨by rw [E.out]; rfl, Bel.alloc0 _ _⟩
theorem goodTerms_v (l h l' h' : Nat) (v u : Value) (ar : List Int) (b : List (List Int)) (m : Nat) (q : Bool) (w : World) (he : goodTerms ar b m = q) (hmm : m ≤ 1000) (ha : ar.length ≤ 1048576) (hv : SlI l h w v ar) (hb : short b) (hu : SlS l' h' w u b) :
    Calls Try.prog 54 #[.agg #[v], u, .int .i64 m] w (RetV w (.bool q)) := he ▸ goodTerms_c l h l' h' v u ar b m w hmm ha hv hb hu

/-- Whatever the sign: an answer comes. -/
def RetN (w : World) (e : Ending) (w' : World) : Prop := ∃ x : Int, e = .returned (.int .i64 x) ∧ Bel w w'
def RetB (w : World) (e : Ending) (w' : World) : Prop := ∃ b, e = .returned (.bool b) ∧ Bel w w'
theorem l1End_any (l h l' h' : Nat) (v u : Value) (ar t : List Int) (w : World) (ha : ar.length ≤ 1048576) (ht : t.length ≤ 1048576) (hv : SlI l h w v ar) (hu : SlI l' h' w u t) :
    Calls Try.prog 76 #[.agg #[v], u, .int .i64 0] w (RetN w) := by
  obtain ⟨ad, cap, rfl, -, -, hr⟩ := hv
  obtain ⟨ad', cap', rfl, -, -, hr'⟩ := hu
  go_enter Try.func76, Try.ntmps76
  go_wp2_with fail
  go_loopw [2, 7] (fun a n wr => ∃ (p : Nat) (m : Int), p ≤ t.length ∧ a = .int .i64 p ∧ n = .int .i64 m ∧ Bel (w.alloc (.cells #[.slice ad ar.length cap] 30)) wr) (fun a _ _ => t.length + 1 - (intOf a).toNat)
  case atStart => exact ⟨0, 1, Nat.zero_le _, rfl, rfl, Bel.rfl' _⟩
  case round =>
    obtain ⟨p, m, hp, rfl, rfl, hb⟩ := hrel
    have hbox := boxc hb 0 _ rfl
    by_cases hm : 0 < m
    · have hm1 : decide (m > 0) = true := by simpa using hm
      by_cases hlt : p < t.length
      · obtain ⟨b', off', rfl, -, hcell'⟩ := rd hr' hb.of_alloc p hlt
        clear hr'
        generalize t.getD p 0 = x at *
        have hw1 := IntWalk.i64_in ((ar.length : Int) - 1) (by omega)
        cases hs : inB x (-12) ((ar.length : Int) - 1) with
        | false =>
          have HS := Lib.hid hs; clear hs
          go_wp2_with fail
          go_quiet ((go_at_call 56; exact Calls.quiet_of_same (l1In_qv _ _ _ _ HS.out _)))
          go_wp2
          go_ret
          exact ⟨_, rfl, hb.of_alloc.drewN _⟩
        | true =>
          have HS := Lib.hid hs
          by_cases hx : x < 0
          · clear hs
            have hx' : decide (x ≥ 0) = false := by simp; omega
            go_wp2_with fail
            go_quiet ((go_at_call 56; exact Calls.quiet_of_same (l1In_qv _ _ _ _ HS.out _)))
            go_wp2
            go_roundw
            case rel => exact ⟨p+1, _, by omega, by go_num, rfl, hb.drewN _⟩
            case measure => simp [intOf]; omega
          · obtain ⟨k, rfl⟩ : ∃ k : Nat, x = k := ⟨x.toNat, by omega⟩
            have hk : k < ar.length := by simp [inB] at hs; omega
            clear hs
            obtain ⟨b, off, rfl, -, hcell⟩ := rd hr hb.of_alloc k hk
            clear hr
            generalize ar.getD k 0 = q at *
            have hk2 : (k : Int) < ar.length := by omega
            go_wp2_with fail
            go_quiet ((go_at_call 56; exact Calls.quiet_of_same (l1In_qv _ _ _ _ HS.out _)))
            go_wp2
            go_quiet (fail)
            go_wp2
            go_roundw
            case rel => exact ⟨p+1, _, by omega, by go_num, rfl, hb.drewN _⟩
            case measure => simp [intOf]; omega
      · have hge : decide ((p : Int) ≥ t.length) = true := by simp; omega
        go_wp2_with fail
        go_quiet (fail)
        go_wp2
        go_ret
        exact ⟨_, rfl, hb.of_alloc.drewN _⟩
    · have hm1 : decide (m > 0) = false := by simpa using hm
      go_wp2_with fail
      go_ret
      exact ⟨_, rfl, hb.of_alloc⟩
theorem l1Term_any (l h l' h' : Nat) (v u : Value) (ar t : List Int) (w : World) (ha : ar.length ≤ 1048576) (ht : t.length ≤ 1048576) (hv : SlI l h w v ar) (hu : SlI l' h' w u t) :
    Calls Try.prog 68 #[.agg #[v], u] w (RetB w) := by
  have hu0 := hu
  obtain ⟨ad', cap', rfl⟩ := hu.form
  cases hs : inB t.length 1 40 with
  | false =>
    have HS := Lib.hid hs; clear hs
    go_enter Try.func68, Try.ntmps68
    go_wp2_with (go_at_call 56; refine (l1In_f _ _ _ _ HS.out).mono ?_; rintro e w' ⟨rfl, hb1⟩)
    go_ret
    exact ⟨_, rfl, hb1.of_alloc⟩
  | true =>
    have HS := Lib.hid hs; clear hs
    go_enter Try.func68, Try.ntmps68
    go_wp2_with fail
    refine (l1In_t _ _ _ _ HS.out).mono ?_; rintro e w' ⟨rfl, hb1⟩
    have hx1 := boxc hb1 0 _ rfl
    go_wp2_with fail
    refine (l1End_any _ _ _ _ _ _ ar t _ ha ht (hv.below hb1.of_alloc) (hu0.below hb1.of_alloc)).mono ?_; rintro e w2 ⟨x, rfl, hb2⟩
    go_wp2_with fail
    go_ret
    exact ⟨_, rfl, hb1.of_alloc.step hb2⟩

end Go.Proofs.Ytnldienjkejfcaa
end
section
/- Several rows of the call's own, kept apart by a tag on each block. No program. -/
namespace Go.Proofs.Ytnldienjkejfcaa
open Go.RowKit

/-- v owns the elements xs; its block, if it has one, bears the tag t. -/
def OwnT (base : Nat) (tag : Nat → Nat) (t : Nat) (e : TypeId) (w : World) (v : Value) (xs : List Value) : Prop :=
  w.ownsRow base e 1 v xs.length xs ∧ ∀ g, v.ownBlock = some g → tag g = t
/-- All rows of other tags than t are as they were. -/
def Tags (base : Nat) (tag : Nat → Nat) (w : World) (tag' : Nat → Nat) (w' : World) (t : Nat) : Prop :=
  ∀ t' e u zs, t' ≠ t → OwnT base tag t' e w u zs → OwnT base tag' t' e w' u zs

theorem OwnT.lt {base tag t e w v xs} (h : OwnT base tag t e w v xs) {g : Nat} (hg : v.ownBlock = some g) : g < w.heap.size := by
  rcases h.1.2 with ⟨rfl, _⟩ | ⟨g', cap, cur, rfl, _, hh, _⟩
  · simp [Value.ownBlock] at hg
  · simp [Value.ownBlock] at hg; subst hg; exact (Array.getElem?_eq_some_iff.1 hh).1
theorem OwnT.bel {base tag t e w w' v xs} (h : OwnT base tag t e w v xs) (hb : Bel w w') : OwnT base tag t e w' v xs := ⟨ownsRow_bel h.1 hb, h.2⟩
theorem OwnT.alloc {base tag t e w v xs} (h : OwnT base tag t e w v xs) (o : Obj) : OwnT base tag t e (w.alloc o) v xs := h.bel (Bel.alloc0 w o)
theorem OwnT.nil (base : Nat) (tag : Nat → Nat) (t : Nat) (e : TypeId) (w : World) : OwnT base tag t e w (.slice none 0 0) [] := ⟨World.ownsRow_nil _ _ _ _, fun g h => by simp [Value.ownBlock] at h⟩
theorem Tags.of_bel {base tag w w' t} (hb : Bel w w') : Tags base tag w tag w' t := fun _ _ _ _ _ h => h.bel hb
theorem Tags.trans {base tag w tag1 w1 tag2 w2 t} (h : Tags base tag w tag1 w1 t) (k : Tags base tag1 w1 tag2 w2 t) : Tags base tag w tag2 w2 t := fun t' e u zs hn ho => k t' e u zs hn (h t' e u zs hn ho)

theorem tag_append {base tag t e w w1 v v' xs ys} (h : OwnT base tag t e w v xs) (hown : w1.ownsRow base e 1 v' ys.length ys) (hg : w.grownBy w1 v.ownBlock) (hat : v'.ownBlock = v.ownBlock ∨ v'.ownBlock = some w.heap.size) :
    ∃ tag', OwnT base tag' t e w1 v' ys ∧ Tags base tag w tag' w1 t := by
  refine ⟨fun g => if g = w.heap.size then t else tag g, ⟨hown, fun g hgb => ?_⟩, fun t' e' u zs hn ho => ⟨?_, fun g hgb => ?_⟩⟩
  · show (if g = w.heap.size then t else tag g) = t
    rcases hat with h1 | h1
    · rw [h1] at hgb
      have := h.lt hgb
      rw [if_neg (by omega)]; exact h.2 g hgb
    · rw [h1] at hgb; simp at hgb; rw [if_pos hgb.symm]
  · refine ho.1.kept hg ?_
    cases hu : u.ownBlock with
    | none => exact .inl rfl
    | some g =>
      right
      intro e1
      exact hn ((ho.2 g hu).symm.trans (h.2 g e1.symm))
  · show (if g = w.heap.size then t else tag g) = t'
    have := ho.lt hgb
    rw [if_neg (by omega)]; exact ho.2 g hgb
theorem row_mono {w : World} {base base' e n : Nat} {v : Value} {xs : List Value} (h : w.ownsRow base e 1 v n xs) (hb : base' ≤ base) : w.ownsRow base' e 1 v n xs := by
  refine ⟨h.1, ?_⟩
  rcases h.2 with h0 | ⟨g, cap, cur, e1, e2, r⟩
  · exact .inl h0
  · exact .inr ⟨g, cap, cur, e1, by omega, r⟩
theorem row_len {w : World} {base e n m c : Nat} {ad : Option Addr} {xs : List Value} (h : w.ownsRow base e 1 (.slice ad n c) m xs) : n = m := by
  rcases h.2 with ⟨e1, h0⟩ | ⟨g, cap, cur, e1, _⟩
  · simp at e1; omega
  · simp at e1; exact e1.2.1
theorem tag_new {base tag e w w1 v xs} (t : Nat) (hown : w1.ownsRow w.heap.size e 1 v xs.length xs) (hb : Bel w w1) (hbase : base ≤ w.heap.size) :
    ∃ tag', OwnT base tag' t e w1 v xs ∧ ∀ t' e' u zs, OwnT base tag t' e' w u zs → OwnT base tag' t' e' w1 u zs := by
  refine ⟨fun g => if w.heap.size ≤ g then t else tag g, ⟨row_mono hown hbase, fun g hg => ?_⟩, fun t' e' u zs ho => ⟨ownsRow_bel ho.1 hb, fun g hg => ?_⟩⟩
  · have := own_base hown g hg
    simp [this]
  · have := ho.lt hg
    show (if w.heap.size ≤ g then t else tag g) = t'
    rw [if_neg (by omega)]; exact ho.2 g hg
theorem tag_re {base tag t e w v xs} (t2 : Nat) (h : OwnT base tag t e w v xs) : ∃ tag', OwnT base tag' t2 e w v xs ∧ ∀ t' e' u zs, t' ≠ t → OwnT base tag t' e' w u zs → OwnT base tag' t' e' w u zs := by
  refine ⟨fun g => if v.ownBlock = some g then t2 else tag g, ⟨h.1, fun g hg => by simp [hg]⟩, fun t' e' u zs hn ho => ⟨ho.1, fun g hg => ?_⟩⟩
  show (if v.ownBlock = some g then t2 else tag g) = t'
  rw [if_neg (fun e1 => hn ((ho.2 g hg).symm.trans (h.2 g e1)))]
  exact ho.2 g hg
theorem tag_store {base tag t e w g n cap xs} (h : OwnT base tag t e w (.slice (some ⟨g, 0, none⟩) n cap) xs) (j : Nat) (u : Value) :
    OwnT base tag t e (w.setCell ⟨g, j, none⟩ u) (.slice (some ⟨g, 0, none⟩) n cap) (xs.set j u) ∧ Tags base tag w tag (w.setCell ⟨g, j, none⟩ u) t := by
  have hl := row_len h.1
  subst hl
  have hst := h.1.stored j u
  refine ⟨⟨by rw [List.length_set]; exact hst.1, h.2⟩, fun t' e' u' zs hn ho => ⟨ho.1.kept hst.2 ?_, ho.2⟩⟩
  cases hu : u'.ownBlock with
  | none => exact .inl rfl
  | some g' =>
    right
    intro e1
    exact hn ((ho.2 g' hu).symm.trans (h.2 g' e1.symm))
/-- A store into a block of lower number: all rows stay. -/
theorem Tags.low {base tag w t} {p : Addr} (hp : p.block < base) (u : Value) : ∀ e v xs, OwnT base tag t e w v xs → OwnT base tag t e (w.setCell p u) v xs := by
  intro e v xs h
  refine ⟨⟨h.1.1, ?_⟩, h.2⟩
  rcases h.1.2 with h0 | ⟨g, cap, cur, e1, e2, hh, r⟩
  · exact .inl h0
  · exact .inr ⟨g, cap, cur, e1, e2, by rw [Below.heap_setCell w p u g (by omega)]; exact hh, r⟩

theorem row_oneCell {w : World} {base e : Nat} {v : Value} {xs : List Int} (h : w.ownsRow base e 1 v xs.length (xs.map (Value.int .i64))) {n c : Nat} {a : Addr} (hv : v = .slice (some a) n c) (hp : 0 < xs.length) : OwnI a.block (a.block + 1) w v xs := by
  have ho := OwnI.of_row h
  obtain ⟨⟨ad, cap, e1, hc, hm, hr⟩, hf⟩ := ho
  obtain ⟨b, off, e2, h1, h2, h3⟩ := hr hp
  have e3 : some a = some ⟨b, off, none⟩ := by rw [hv] at e1; simp only [Value.slice.injEq] at e1; rw [e1.1, e2]
  simp only [Option.some.injEq] at e3
  subst e3
  exact ⟨⟨ad, cap, e1, hc, hm, fun _ => ⟨b, off, e2, Nat.le_refl _, Nat.lt_succ_self _, h3⟩⟩, hf⟩
/-- The rows of the elements. -/
def InT (base : Nat) (tag : Nat → Nat) (ei : TypeId) (w : World) (us : List Value) (xss : List (List Int)) : Prop :=
  us.length = xss.length ∧ ∀ j u, us[j]? = some u → OwnT base tag (10 + j) ei w u ((xss.getD j []).map (Value.int .i64))
theorem InT.step {base tag ei w tag' w' us xss t} (h : InT base tag ei w us xss) (ht : t < 10) (k : Tags base tag w tag' w' t) : InT base tag' ei w' us xss := ⟨h.1, fun j u hj => k _ _ _ _ (by omega) (h.2 j u hj)⟩
theorem InT.all {base tag ei w tag' w' us xss} (h : InT base tag ei w us xss) (k : ∀ t' e' u zs, OwnT base tag t' e' w u zs → OwnT base tag' t' e' w' u zs) : InT base tag' ei w' us xss := ⟨h.1, fun j u hj => k _ _ _ _ (h.2 j u hj)⟩
theorem InT.nil (base : Nat) (tag : Nat → Nat) (ei : TypeId) (w : World) : InT base tag ei w [] [] := ⟨rfl, fun j u h => by simp at h⟩
theorem InT.bel {base tag ei w w' us xss} (h : InT base tag ei w us xss) (hb : Bel w w') : InT base tag ei w' us xss := ⟨h.1, fun j u hj => (h.2 j u hj).bel hb⟩
/-- A row of tag t becomes the next element. -/
theorem InT.snoc {base tag ei w us xss t v} {xs : List Int} (h : InT base tag ei w us xss) (ho : OwnT base tag t ei w v (xs.map (Value.int .i64))) (ht : t < 10) :
    ∃ tag', InT base tag' ei w (us ++ [v]) (xss ++ [xs]) ∧ ∀ t' e' u zs, t' ≠ t → OwnT base tag t' e' w u zs → OwnT base tag' t' e' w u zs := by
  obtain ⟨tag', h1, h2⟩ := tag_re (10 + us.length) ho
  refine ⟨tag', ⟨by simp [h.1], fun j u hj => ?_⟩, h2⟩
  by_cases e : j < us.length
  · rw [List.getElem?_append_left e] at hj
    have := h2 _ _ _ _ (by omega) (h.2 j u hj)
    rwa [show (xss ++ [xs]).getD j [] = xss.getD j [] from by simp [List.getD, List.getElem?_append_left (show j < xss.length by rw [← h.1]; exact e)]]
  · have hlt := (List.getElem?_eq_some_iff.1 hj).1
    simp at hlt
    obtain rfl : j = us.length := by omega
    rw [List.getElem?_append_right (Nat.le_refl _), Nat.sub_self] at hj
    simp at hj
    subst hj
    rwa [show (xss ++ [xs]).getD us.length [] = xs from by rw [h.1]; simp [List.getD]]
theorem OwnS.of_tag {base tag eo ei w v us xss t} (ho : OwnT base tag t eo w v us) (hi : InT base tag ei w us xss) (ht : t < 10) : OwnS base w.heap.size w v xss := by
  have h1 := ho.1
  rw [hi.1] at h1
  have hblk : ∀ j u, us[j]? = some u → 0 < (xss.getD j []).length → ∃ a n c, u = .slice (some a) n c ∧ u.ownBlock = some a.block ∧ base ≤ a.block ∧ a.block < w.heap.size ∧ tag a.block = 10 + j := by
    intro j u hj hp
    have hx := hi.2 j u hj
    rcases hx.1.2 with ⟨rfl, h0⟩ | ⟨g, cap, cur, rfl, hb, hh, _⟩
    · rw [List.length_map] at h0; omega
    · have hb2 : (Value.slice (some ⟨g, 0, none⟩) ((xss.getD j []).map (Value.int .i64)).length cap).ownBlock = some g := rfl
      exact ⟨⟨g, 0, none⟩, _, cap, rfl, hb2, hb, hx.lt hb2, hx.2 g hb2⟩
  let bs : Nat → Nat := fun j => match us[j]? with | some (.slice (some a) _ _) => a.block | _ => 0
  have hbs : ∀ j u, us[j]? = some u → 0 < (xss.getD j []).length → base ≤ bs j ∧ bs j < w.heap.size ∧ tag (bs j) = 10 + j := by
    intro j u hj hp
    obtain ⟨a, n, c, rfl, _, b1, b2, b3⟩ := hblk j u hj hp
    have : bs j = a.block := by simp only [bs, hj]
    rw [this]; exact ⟨b1, b2, b3⟩
  refine OwnS.of_row (bs := bs) h1 (Nat.le_refl _) fun g hg => ⟨hi.1, fun j hj hp => ?_, fun i j hij hj hpi hpj => ?_, fun j u hj => ?_⟩
  · obtain ⟨u, hu⟩ : ∃ u, us[j]? = some u := ⟨_, List.getElem?_eq_getElem (by rw [hi.1]; exact hj)⟩
    obtain ⟨a1, a2, a3⟩ := hbs j u hu hp
    refine ⟨a1, a2, fun e => ?_⟩
    have := ho.2 g hg
    rw [e] at a3
    omega
  · obtain ⟨u, hu⟩ : ∃ u, us[i]? = some u := ⟨_, List.getElem?_eq_getElem (by rw [hi.1]; omega)⟩
    obtain ⟨u2, hu2⟩ : ∃ u, us[j]? = some u := ⟨_, List.getElem?_eq_getElem (by rw [hi.1]; exact hj)⟩
    obtain ⟨_, _, a3⟩ := hbs i u hu hpi
    obtain ⟨_, _, b3⟩ := hbs j u2 hu2 hpj
    intro e
    rw [e] at a3
    omega
  · have hx := hi.2 j u hj
    by_cases hp : 0 < (xss.getD j []).length
    · obtain ⟨a, n, c, rfl, _, b1, b2, b3⟩ := hblk j u hj hp
      have : bs j = a.block := by simp only [bs, hj]
      rw [this]
      exact row_oneCell (by simpa using hx.1) rfl hp
    · have h0 := len0 hp
      rw [h0] at hx ⊢
      have := OwnI.of_row (xs := []) (by simpa using hx.1)
      exact this.empty
end Go.Proofs.Ytnldienjkejfcaa
end
