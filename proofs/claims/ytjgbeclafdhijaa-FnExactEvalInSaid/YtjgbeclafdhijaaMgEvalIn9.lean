/- Texts merged, part 9. -/
import Derived.Test.YtjgbeclafdhijaaMgEvalIn8
section
/- Chapter 5, the program: the value of a term. -/
namespace Go.Proofs.Ytjgbeclafdhijaa
open Go.RowKit

theorem noOf_tk {sz : Int} (l : List Int) (k : Nat) (hk : k < l.length) : noOf sz (l.take (k+1)) = noOf sz (l.take k) * sz + l.getD k 0 := by
  rw [List.take_succ_eq_append_getElem hk, noOf_snoc]
  simp [List.getD, hk]
theorem stk_at {w : World} {B : Nat} {vs : List Int} (h : Stk w B vs) (q : Nat) (hq : q < vs.length) : w.cell? ⟨B, vs.length - (q + 1), none⟩ = some (.int .i64 (vs.getD q 0)) := by
  have := h.2.2 q hq
  rwa [show vs.length - 1 - q = vs.length - (q + 1) by omega] at this

set_option maxRecDepth 100000 in
set_option maxHeartbeats 2000000 in
theorem valueIn_c (l h l' h' l2 h2 l3 h3 : Nat) (v u vt ve : Value) (ar : List Int) (sz : Int) (tb : List (List Int)) (t env : List Int) (w : World) (hg : goodSign ar = true) (hw : isWorld ar sz tb = true) (he : okEnv sz env = true) (hok : okTerm ar t = true)
    (hv : SlI l h w v ar) (hu : SlS l' h' w u tb) (ht : SlI l2 h2 w vt t) (hve : SlI l3 h3 w ve env) :
    Calls Try.prog 30 #[.agg #[v], .agg #[.int .i64 sz, u], vt, ve] w (RetV w (.int .i64 (evT ar sz tb env t))) := by
  obtain ⟨w1, w2, w3, w4⟩ := isWorld_iff.1 hw
  obtain ⟨e1, e2⟩ := okEnv_iff.1 he
  have htl := ((okTerm_iff ar t).1 hok).2.1
  have ht1 := ((okTerm_iff ar t).1 hok).1
  have HM : Hid (∀ m : Nat, okSym ar (m : Int) = true → m < tb.length) := fun m hm => by have := okSym_lt hm; omega
  have HALL := Lib.hid (suf_all (sz := sz) (tb := tb) (env := env) hok)
  have HBD := Lib.hid (fun i hi => suf_bd (tb := tb) (env := env) hg hw he hok i hi)
  have HARG := Lib.hid (fun i hi hn => suf_args (sz := sz) (tb := tb) (env := env) hok i hi hn)
  have HLEN := Lib.hid (fun y => sufV_len (ar := ar) (sz := sz) (tb := tb) (env := env) y)
  have HSYM := Lib.hid (good_sym ar t hok)
  have HTB := Lib.hid w4
  clear w3 w4 hok hw he
  obtain ⟨av, cv, rfl, -, -, hrv⟩ := hv
  obtain ⟨at', ct, rfl, -, -, hrt⟩ := ht
  obtain ⟨ae, ce, rfl, -, -, hre⟩ := hve
  obtain ⟨au, cu, rfl⟩ := hu.form
  go_enter Try.func30, Try.ntmps30
  go_wp2_with fail
  obtain ⟨W, hW⟩ : ∃ W, W = (w.alloc (.cells #[.slice av ar.length cv] 32)).alloc (.cells #[.int .i64 sz, .slice au tb.length cu] 34) := ⟨_, rfl⟩
  have hB : Bel w W := by rw [hW]; exact Bel.alloc2 _ _ _
  have zW : W.heap.size = w.heap.size + 1 + 1 := by rw [hW]; simp
  have k0 : W.cell? ⟨w.heap.size, 0, none⟩ = some (.slice av ar.length cv) := by rw [hW]; simp [go_sem]
  have k1 : W.cell? ⟨w.heap.size + 1, 0, none⟩ = some (.int .i64 sz) := by rw [hW]; simp [go_sem]
  have k2 : W.cell? ⟨w.heap.size + 1, 1, none⟩ = some (.slice au tb.length cu) := by rw [hW]; simp [go_sem]
  rw [← hW, ← zW]
  replace zW : w.heap.size + 1 < W.heap.size := by omega
  clear hW
  go_loopw [10, 11] (fun top i wr => ∃ k : Nat, k ≤ t.length ∧ i = .int .i64 ((k : Int) - 1) ∧ top = .int .i64 (((sufV ar sz tb env (t.drop k)).length : Nat) : Int) ∧ Stk wr W.heap.size (sufV ar sz tb env (t.drop k)) ∧ Bel W wr) (fun _ i _ => (intOf i + 1).toNat)
  case atStart =>
    refine ⟨t.length, Nat.le_refl _, rfl, ?_, ?_, Bel.alloc0 _ _⟩
    · rw [List.drop_length]; rfl
    · rw [List.drop_length]; exact Stk.new W _ _ rfl
  case round =>
    obtain ⟨k, hk, rfl, rfl, hst, hb⟩ := hrel
    have q0 := hb.at (by omega) k0
    have q1 := hb.at (by omega) k1
    have q2 := hb.at (by omega) k2
    cases k with
    | zero =>
      rw [List.drop_zero, HALL.out] at hst
      have hc0 : wr.cell? ⟨W.heap.size, 0, none⟩ = some (.int .i64 (evT ar sz tb env t)) := hst.2.2 0 (by simp)
      have hz : decide (((0 : Nat) : Int) - 1 ≥ 0) = false := by simp
      clear hst HALL HBD HARG
      go_wp2_with fail
      go_ret
      exact ⟨rfl, hB.step hb⟩
    | succ k =>
      rw [show ((k + 1 : Nat) : Int) - 1 = (k : Int) from by omega]
      obtain ⟨bt, offt, rfl, hbtl, hct⟩ := rd hrt (hB.step hb) k (by omega)
      have hsym := HSYM.out k (by omega)
      have hvl := HLEN.out (t.drop (k+1))
      rw [List.length_drop] at hvl
      have hbd := Lib.hid (HBD.out (k+1) (by omega))
      have harg := Lib.hid (HARG.out k (by omega))
      have hdrop : Hid (sufV ar sz tb env (t.drop k) = sufV ar sz tb env (t.getD k 0 :: t.drop (k+1))) := by show _ = _; rw [drop_cons t k (by omega)]
      have hkt : (k : Int) < t.length := by omega
      by_cases hneg : t.getD k 0 < 0
      · have E := Lib.hid (hdrop.out.trans (sufV_neg hneg))
        obtain ⟨j, hj⟩ : ∃ j : Nat, t.getD k 0 = -1 - (j : Int) := ⟨(-1 - t.getD k 0).toNat, by omega⟩
        have hj12 : j < 12 := by rw [hj] at hsym; unfold okSym inB at hsym; simp at hsym; omega
        rw [hj] at hct E
        obtain ⟨be, offe, rfl, hbel, hce⟩ := rd hre (hB.step hb) j (by omega)
        have hw1 := IntWalk.i64_in (-1 - (-1 - (j : Int))) (by omega)
        have hjj : -1 - (-1 - (j : Int)) = (j : Int) := by omega
        rw [hjj] at hw1
        have hjE : (-1 - (-1 - (j : Int))).toNat = j := by omega
        rw [hjE] at E
        have hneg2 : decide ((-1 - (j : Int)) < 0) = true := by simp; omega
        have hjl : (j : Int) < 12 := by omega
        clear harg hbd hdrop hneg hj hsym hjE hrt hre HALL HBD HARG HLEN HSYM HTB
        generalize env.getD j 0 = val at *
        generalize sufV ar sz tb env (t.drop (k+1)) = vs at *
        have hst2 := Lib.hid (hst.push val (by omega))
        obtain ⟨x, hcx, hfx⟩ := hst.2.1 vs.length (by omega)
        have hl40 : ((vs.length : Nat) : Int) < 40 := by omega
        have hbs := Lib.hid (hb.set (p := ⟨W.heap.size, vs.length, none⟩) (Nat.le_refl _) (.int .i64 val))
        clear hst hvl
        go_wp2_with fail
        go_roundw
        case rel => exact ⟨k, by omega, by go_num, by rw [E.out]; simp, by rw [E.out]; exact hst2.out, hbs.out⟩
        case measure => simp [intOf]
      · have E := Lib.hid (hdrop.out.trans (sufV_sym hneg))
        have hal := harg.out (by omega)
        obtain ⟨m, hm⟩ : ∃ m : Nat, t.getD k 0 = (m : Int) := ⟨(t.getD k 0).toNat, by omega⟩
        rw [hm] at hct E hal hsym
        have hma := okSym_lt hsym
        have hmt := HM.out m hsym
        obtain ⟨ba, offa, rfl, hbal, hca⟩ := rd hrv (hB.step hb) m hma
        have h03 := ar_nonneg ar hg m
        obtain ⟨A, hA⟩ : ∃ A : Nat, ar.getD m 0 = (A : Int) := ⟨(ar.getD m 0).toNat, by omega⟩
        have hTT := HTB.out m hmt
        have hAA : arOf ar (m : Int) = A := by rw [arOf_nat, hA]; simp
        rw [hAA] at E hal
        rw [hA] at hca h03 hTT
        have hA3 : A ≤ 3 := by omega
        have hneg2 : decide ((m : Int) < 0) = false := by simp
        have hmal : (m : Int) < ar.length := by omega
        have hmtl : (m : Int) < tb.length := by omega
        unfold entry at E
        rw [Int.toNat_natCast] at E
        obtain ⟨bb, off, u1, rfl, hbs, c1, s1⟩ := hu.at (hB.step hb) m hmt
        obtain ⟨x1, x2, rfl, -, -, hrx⟩ := s1
        clear harg hdrop hneg hm hsym hA hAA hrt hre hrv HALL HBD HARG HLEN HSYM HTB HM
        generalize sufV ar sz tb env (t.drop (k+1)) = vs at *
        have HNO : Hid (∀ q, q ≤ A → 0 ≤ noOf sz (vs.take q) ∧ noOf sz (vs.take q) ≤ 26) := fun q hq => noOf_le w1 w2 _ (fun x hx => hbd.out x (List.mem_of_mem_take hx)) (by rw [List.length_take]; omega)
        have HNL : Hid (noOf sz (vs.take A) < ((tb.getD m []).length : Nat)) := by
          show _ < _
          have := noOf_bd w1 (vs.take A) (fun x hx => hbd.out x (List.mem_of_mem_take hx))
          rw [hTT.1]
          rw [List.length_take, show min A vs.length = A by omega] at this
          exact this.2
        have HVB : Hid (∀ q, q < vs.length → 0 ≤ vs.getD q 0 ∧ vs.getD q 0 ≤ sz - 1) := fun q hq => hbd.out _ (mem_gd vs 0 q hq)
        have hvl40 : vs.length < 40 := by omega
        clear hTT hbd hvl
        go_wp2_with fail
        obtain ⟨wo, hwo⟩ : ∃ wo, wo = wr := ⟨_, rfl⟩
        subst hwo
        have zB : W.heap.size < wo.heap.size := hst.1
        go_loopw [10, 13, 41] (fun top no j w2' => ∃ q : Nat, q ≤ A ∧ j = .int .i64 q ∧ no = .int .i64 (noOf sz (vs.take q)) ∧ top = .int .i64 ((vs.length - q : Nat) : Int) ∧ Bel wo w2') (fun _ _ j _ => A - (intOf j).toNat)
        case atStart => exact ⟨0, Nat.zero_le _, rfl, by simp [noOf], rfl, Bel.rfl' _⟩
        case round =>
          obtain ⟨q, hq, rfl, rfl, rfl, hbq⟩ := hrel
          have hn0 := HNO.out q hq
          by_cases hqA : q < A
          · have hv0 := HVB.out q (by omega)
            have hs1 := hbq.at zB (stk_at hst q (by omega))
            have HS := Lib.hid (noOf_tk (sz := sz) vs q (by omega))
            have r1 := hbq.at (by omega) q1
            have hsub : ((vs.length - q : Nat) : Int) - 1 = ((vs.length - (q + 1) : Nat) : Int) := by omega
            have hs40 : ((vs.length - (q + 1) : Nat) : Int) < 40 := by omega
            have hs41 : ((vs.length - q : Nat) : Int) ≤ 40 := by omega
            have hs42 : (1 : Int) ≤ ((vs.length - q : Nat) : Int) := by omega
            have hmul : noOf sz (vs.take q) * sz ≤ noOf sz (vs.take q) * 3 := Int.mul_le_mul_of_nonneg_left w2 hn0.1
            have hmul0 := Int.mul_nonneg hn0.1 (show 0 ≤ sz by omega)
            generalize vs.getD q 0 = x at *
            generalize noOf sz (vs.take q) = no at *
            have i1 := IntWalk.i64_in (no * sz) (by omega)
            have i2 := IntWalk.i64_in (no * sz + x) (by omega)
            have i3 := IntWalk.i64_in (((vs.length - q : Nat) : Int) - 1) (by omega)
            rw [hsub] at i3
            have HSUB := Lib.hid hsub
            have hsz := Lib.hid hst
            clear hmul hmul0 HNO HNL HVB hst hrx hsub
            generalize hP : vs.length - (q + 1) = P at *
            generalize hQ : vs.length - q = Q at *
            have HP := Lib.hid hP
            have hPQ : (Q : Int) - 1 = (P : Int) := HSUB.out
            clear hP hQ
            go_wp2_with fail
            go_region_held3 (fun w' => Bel wr w' ∧ w'.cell? ⟨w.heap.size + 1, 0, none⟩ = some (.int .i64 sz) ∧ w'.cell? ⟨W.heap.size, P, none⟩ = some (.int .i64 x))
              (first | exact ⟨Bel.drew0 _, r1, hs1⟩ | fail)
              (first | fail)
            go_wp2_with fail
            go_roundw
            case rel => exact ⟨q+1, by omega, by go_num, by rw [HS.out], by rw [HP.out], hbq.step (Bel.drew0 _)⟩
            case measure => simp [intOf]; omega
          · obtain rfl : q = A := by omega
            obtain ⟨N, hN⟩ : ∃ N : Nat, noOf sz (vs.take q) = (N : Int) := ⟨(noOf sz (vs.take q)).toNat, by omega⟩
            have hnl := HNL.out
            rw [hN] at hnl hn0 E ⊢
            rw [Int.toNat_natCast] at E
            have hNL : N < (tb.getD m []).length := by omega
            obtain ⟨bx, ofx, rfl, hxl, hcx⟩ := rd hrx hbq N hNL
            have r2 := hbq.at (by omega) q2
            have c2 := hbq.at (World.block_lt_of_cell? _ ⟨_, _, none⟩ c1) c1
            have hst2 := (hst.below hbq).drop q hal
            have hdl : (vs.drop q).length = vs.length - q := List.length_drop
            obtain ⟨y, hcy, hfy⟩ := hst2.2.1 (vs.length - q) (by omega)
            have hl40 : ((vs.length - q : Nat) : Int) < 40 := by omega
            generalize (tb.getD m []).getD N 0 = val at *
            have hst3 := Lib.hid (hst2.push val (by omega))
            have hbs2 := Lib.hid ((hb.step hbq).set (p := ⟨W.heap.size, vs.length - q, none⟩) (Nat.le_refl _) (.int .i64 val))
            have HDL := Lib.hid hdl
            clear HNO HNL HVB hst hst2 hrx hN hnl hdl
            generalize (tb.getD m []).length = xl at *
            generalize hQ : vs.length - q = Q at *
            clear hQ
            go_wp2_with fail
            go_roundw
            case rel => exact ⟨k, by omega, by go_num, by rw [E.out, List.length_cons, HDL.out]; simp, by have h9 := hst3.out; rw [HDL.out] at h9; rw [E.out]; exact h9, hbs2.out⟩
            case measure => simp [intOf]
end Go.Proofs.Ytjgbeclafdhijaa
end
section
/- Chapter 5, the program: tables and their elements, GoodWorld. -/
namespace Go.Proofs.Ytjgbeclafdhijaa
open Go.RowKit

set_option maxRecDepth 100000 in
set_option maxHeartbeats 400000 in
theorem tableLength_c (Z A : Nat) (w : World) (h2 : Z ≤ 3) (h3 : A ≤ 3) :
    Calls Try.prog 46 #[.int .i64 (A : Int), .int .i64 (Z : Int)] w (RetV w (.int .i64 ((Z ^ A : Nat) : Int))) := by
  go_enter Try.func46, Try.ntmps46
  go_wp2_with fail
  go_loop [5, 7] (fun n a => ∃ k : Nat, k ≤ A ∧ a = .int .i64 k ∧ n = .int .i64 ((Z ^ k : Nat) : Int)) (fun _ a => A - (intOf a).toNat)
  case atStart => exact ⟨0, Nat.zero_le _, rfl, rfl⟩
  case round =>
    obtain ⟨k, hk, rfl, rfl⟩ := hrel
    by_cases hlt : k < A
    · have E := Lib.hid (pw_succ Z k)
      have hb := pw_le h2 (show k + 1 ≤ 3 by omega)
      have hw : -9223372036854775808 ≤ ((Z ^ k : Nat) : Int) * (Z : Int) ∧ ((Z ^ k : Nat) : Int) * (Z : Int) ≤ 9223372036854775807 := by rw [E.out]; omega
      have hw1 := IntWalk.i64_in (((Z ^ k : Nat) : Int) * (Z : Int)) hw
      clear hw hb
      generalize ((Z ^ k : Nat) : Int) = y at *
      go_wp2_with fail
      go_round
      case rel => exact ⟨k+1, by omega, by go_num, by rw [← E.out]⟩
      case measure => simp [intOf]; omega
    · obtain rfl : k = A := by omega
      generalize ((Z ^ k : Nat) : Int) = y at *
      go_wp2_with fail
      go_ret
      exact ⟨rfl, Bel.rfl' _⟩

theorem elem_in (x sz : Int) : inB x 0 (sz - 1) = (decide (0 ≤ x) && decide (x < sz)) := by
  unfold inB
  rw [show decide (x ≤ sz - 1) = decide (x < sz) from by rw [Bool.eq_iff_iff]; simp; omega]

set_option maxRecDepth 100000 in
set_option maxHeartbeats 400000 in
theorem areElements_c (l h : Nat) (v : Value) (xs : List Int) (sz : Int) (w : World) (hx : xs.length ≤ 1048576) (hv : SlI l h w v xs) :
    Calls Try.prog 47 #[v, .int .i64 sz] w (RetV w (.bool (xs.all (fun x => inB x 0 (sz - 1))))) := by
  obtain ⟨ad, cap, rfl, -, -, hr⟩ := hv
  go_enter Try.func47, Try.ntmps47
  go_wp2_with fail
  go_loop [9] (fun i => ∃ k : Nat, k ≤ xs.length ∧ i = .int .i64 k ∧ (xs.take k).all (fun x => inB x 0 (sz - 1)) = true) (fun i => xs.length - (intOf i).toNat)
  case atStart => exact ⟨0, Nat.zero_le _, rfl, by simp⟩
  case round =>
    obtain ⟨k, hk, rfl, hall⟩ := hrel
    by_cases hlt : k < xs.length
    · obtain ⟨b, off, rfl, hbl, hc⟩ := rd hr (Bel.rfl' w) k hlt
      have ES : (xs.take (k+1)).all (fun x => inB x 0 (sz - 1)) = (decide (0 ≤ xs.getD k 0) && decide (xs.getD k 0 < sz)) := (all_split xs (fun x => inB x 0 (sz - 1)) k hlt hall).trans (elem_in _ _)
      have EF : (decide (0 ≤ xs.getD k 0) && decide (xs.getD k 0 < sz)) = false → xs.all (fun x => inB x 0 (sz - 1)) = false := fun h => all_false xs (fun x => inB x 0 (sz - 1)) k hlt ((elem_in _ _).trans h)
      generalize xs.getD k 0 = x at *
      by_cases h0 : x < 0
      · have E := Lib.hid (EF (by rw [decide_eq_false (show ¬ 0 ≤ x by omega)]; rfl))
        clear ES EF hall hr
        go_wp2_with fail
        go_ret
        exact ⟨by rw [E.out]; rfl, Bel.rfl' _⟩
      · by_cases h1 : x < sz
        · have E := Lib.hid (ES.trans (by rw [decide_eq_true (show 0 ≤ x by omega), decide_eq_true h1, Bool.true_and]))
          clear ES EF hall hr
          go_wp2_with fail
          go_round
          case rel => exact ⟨k+1, by omega, by go_num, E.out⟩
          case measure => simp [intOf]; omega
        · have E := Lib.hid (EF (by rw [decide_eq_false h1, Bool.and_false]))
          clear ES EF hall hr
          go_wp2_with fail
          go_ret
          exact ⟨by rw [E.out]; rfl, Bel.rfl' _⟩
    · have E := Lib.hid (all_done xs _ k hk hlt hall)
      clear hall hr
      go_wp2_with fail
      go_ret
      exact ⟨by rw [E.out]; rfl, Bel.rfl' _⟩
theorem areElements_v (l h : Nat) (v : Value) (xs : List Int) (sz : Int) (q : Bool) (w : World) (he : xs.all (fun x => inB x 0 (sz - 1)) = q) (hx : xs.length ≤ 1048576) (hv : SlI l h w v xs) :
    Calls Try.prog 47 #[v, .int .i64 sz] w (RetV w (.bool q)) := by subst he; exact areElements_c l h v xs sz w hx hv

set_option maxRecDepth 100000 in
set_option maxHeartbeats 400000 in
theorem hasWorlds_c (l h : Nat) (v : Value) (ar : List Int) (sz : Int) (w : World) (ha : ar.length ≤ 1048576) (hv : SlI l h w v ar) :
    Calls Try.prog 45 #[.agg #[v], .int .i64 sz] w (RetV w (.bool (goodSign ar && inB sz 1 3))) := by
  cases hg : goodSign ar with
  | false =>
    have HC := Lib.hid (fun (w' : World) (hb : Bel w w') => iGoodSign_v l h v ar false w' hg ha (hv.below hb)); clear hg
    go_enter Try.func45, Try.ntmps45
    go_wp2_with fail
    refine (HC.out _ (Bel.alloc0 _ _)).mono ?_; rintro e w1 ⟨rfl, hb1⟩
    go_wp2_with fail
    go_ret
    exact ⟨rfl, hb1.of_alloc⟩
  | true =>
    rw [Bool.true_and]
    have HC := Lib.hid (fun (w' : World) (hb : Bel w w') => iGoodSign_v l h v ar true w' hg ha (hv.below hb)); clear hg
    by_cases h1 : 1 ≤ sz
    · by_cases h2 : sz ≤ 3
      · have E : Hid (inB sz 1 3 = true) := by show _ = _; unfold inB; simp [h1, h2]
        go_enter Try.func45, Try.ntmps45
        go_wp2_with fail
        refine (HC.out _ (Bel.alloc0 _ _)).mono ?_; rintro e w1 ⟨rfl, hb1⟩
        go_wp2_with fail
        go_ret
        exact ⟨by rw [E.out]; rfl, hb1.of_alloc⟩
      · have E : Hid (inB sz 1 3 = decide (sz ≤ 3)) := by show _ = _; unfold inB; rw [decide_eq_true h1, Bool.true_and]
        go_enter Try.func45, Try.ntmps45
        go_wp2_with fail
        refine (HC.out _ (Bel.alloc0 _ _)).mono ?_; rintro e w1 ⟨rfl, hb1⟩
        go_wp2_with fail
        go_ret
        exact ⟨by rw [E.out]; rfl, hb1.of_alloc⟩
    · have E : Hid (inB sz 1 3 = false) := by show _ = _; unfold inB; simp; omega
      go_enter Try.func45, Try.ntmps45
      go_wp2_with fail
      refine (HC.out _ (Bel.alloc0 _ _)).mono ?_; rintro e w1 ⟨rfl, hb1⟩
      go_wp2_with fail
      go_ret
      exact ⟨by rw [E.out]; rfl, hb1.of_alloc⟩
theorem hasWorlds_v (l h : Nat) (v : Value) (ar : List Int) (sz : Int) (q : Bool) (w : World) (he : (goodSign ar && inB sz 1 3) = q) (ha : ar.length ≤ 1048576) (hv : SlI l h w v ar) :
    Calls Try.prog 45 #[.agg #[v], .int .i64 sz] w (RetV w (.bool q)) := by subst he; exact hasWorlds_c l h v ar sz w ha hv
end Go.Proofs.Ytjgbeclafdhijaa
end
section
/- Chapter 5, the program: GoodWorld. -/
namespace Go.Proofs.Ytjgbeclafdhijaa
open Go.RowKit

set_option maxRecDepth 100000 in
set_option maxHeartbeats 1000000 in
theorem iGoodWorld_t {l h l' h' : Nat} {v u : Value} {ar : List Int} {sz : Int} {tb : List (List Int)} {w : World} (ha : ar.length ≤ 1048576) (hv : SlI l h w v ar) (hx : short tb) (hu : SlS l' h' w u tb) :
    Calls Try.prog 27 #[.agg #[v], .agg #[.int .i64 sz, u]] w (RetV w (.bool (goodWorld ar sz tb))) := by
  have hv0 := hv
  obtain ⟨ad, cap, rfl, -, -, hr⟩ := hv
  obtain ⟨au, cu, rfl⟩ := hu.form
  by_cases h1 : (goodSign ar && inB sz 1 3) = true
  · have hg : goodSign ar = true := by revert h1; cases goodSign ar <;> simp
    have h1b : inB sz 1 3 = true := by revert h1; cases inB sz 1 3 <;> simp
    have hlen := (sign_len ar hg).2
    have HH := Lib.hid (fun (w' : World) (hb : Bel w w') => hasWorlds_v l h _ ar sz true w' h1 ha (hv0.below hb))
    by_cases h2 : tb.length = ar.length
    · have hn := Lib.hid (ne_len h2)
      have E0 : goodWorld ar sz tb = okTabs ar sz tb tb.length := by unfold goodWorld isWorld; rw [hg, h1b, decide_eq_true h2, Bool.true_and, Bool.true_and, Bool.true_and]
      obtain ⟨z1, z3⟩ : 1 ≤ sz ∧ sz ≤ 3 := by unfold inB at h1b; simpa using h1b
      obtain ⟨Z, rfl⟩ : ∃ Z : Nat, sz = (Z : Int) := ⟨sz.toNat, by omega⟩
      have H2 := Lib.hid h2
      rw [E0]
      have hnn := hn.out
      clear h1 h1b h2 E0 hn hv0
      go_enter Try.func27, Try.ntmps27
      go_wp2_with fail
      refine (HH.out _ (Bel.alloc2 _ _ _)).mono ?_; rintro e W ⟨rfl, hb0⟩
      have hB : Bel w W := (Bel.alloc2 w _ _).step hb0
      have zW : w.heap.size + 1 < W.heap.size := by have := hb0.size; simp at this; omega
      have k0 := hb0.at (b := w.heap.size) (off := 0) (by simp; omega) (show World.cell? _ _ = some (.slice ad ar.length cap) by simp [go_sem])
      have k1 := hb0.at (b := w.heap.size + 1) (off := 0) (by simp) (show World.cell? _ _ = some (.int .i64 (Z : Int)) by simp [go_sem])
      have k2 := hb0.at (b := w.heap.size + 1) (off := 1) (by simp) (show World.cell? _ _ = some (.slice au tb.length cu) by simp [go_sem])
      clear HH hb0
      go_wp2_with fail
      go_loopw [24] (fun j wr => ∃ k : Nat, k ≤ tb.length ∧ j = .int .i64 k ∧ okTabs ar Z tb k = true ∧ Bel W wr) (fun j _ => tb.length - (intOf j).toNat)
      case atStart => exact ⟨0, Nat.zero_le _, rfl, okTabs_zero _ _ _, Bel.rfl' _⟩
      case round =>
        obtain ⟨k, hk, rfl, hall, hb⟩ := hrel
        have q0 := hb.at (b := w.heap.size) (by omega) k0
        have q1 := hb.at zW k1
        have q2 := hb.at zW k2
        by_cases hlt : k < tb.length
        · obtain ⟨b, off, u1, rfl, hbs, c1, s1⟩ := hu.at (hB.step hb) k hlt
          obtain ⟨b2, off2, rfl, hb2l, hc2⟩ := rd hr (hB.step hb) k (by rw [← H2.out]; exact hlt)
          have h03 := ar_nonneg ar hg k
          obtain ⟨A, hA⟩ : ∃ A : Nat, ar.getD k 0 = (A : Int) := ⟨(ar.getD k 0).toNat, by omega⟩
          have hxl := hx.2 k hlt
          have zl1 : w.heap.size + 1 < wr.heap.size := Nat.lt_of_lt_of_le zW hb.size
          have zl0 : w.heap.size < wr.heap.size := by omega
          have zlc : b2 < wr.heap.size := World.block_lt_of_cell? _ ⟨_, _, none⟩ hc2
          have hkl : (k : Int) < ar.length := by rw [← H2.out]; omega
          have EO : okTab Z (ar.getD k 0) (tb.getD k []) = (decide ((tb.getD k []).length = Z ^ A) && (tb.getD k []).all (fun x => inB x 0 ((Z : Int) - 1))) := by rw [hA]; rfl
          have ES := okTabs_succ ar Z tb k
          have EF := fun (h : okTab Z (ar.getD k 0) (tb.getD k []) = false) => okTabs_false (tb := tb) (n := tb.length) h hlt
          rw [EO] at ES EF
          rw [hall, Bool.true_and] at ES
          rw [hA] at hc2 h03
          have hA3 : A ≤ 3 := by omega
          obtain ⟨d1, e1, rfl⟩ := s1.form
          have HL := Lib.hid (fun (w' : World) => tableLength_c Z A w' (by omega) hA3)
          clear hA EO hall h03
          generalize tb.getD k [] = x at *
          by_cases hxz : x.length = Z ^ A
          · have hne := ne_len hxz
            have HA := Lib.hid (fun (q : Bool) (w' : World) (hq : x.all (fun x => inB x 0 ((Z : Int) - 1)) = q) (hb' : Bel wr w') => areElements_v _ _ _ x Z q w' hq hxl (s1.below hb'))
            rw [decide_eq_true hxz, Bool.true_and] at ES EF
            clear s1 hxl hxz
            generalize hyy : Z ^ A = y at *
            clear hyy
            cases hq : x.all (fun x => inB x 0 ((Z : Int) - 1)) with
            | true =>
              have HQ := Lib.hid hq
              have ES2 := Lib.hid (ES.trans hq)
              clear hq ES EF
              go_wp2_with fail
              go_region_held3 (fun w' => Bel wr w' ∧ w'.cell? ⟨w.heap.size + 1, 0, none⟩ = some (.int .i64 (Z : Int)) ∧ w'.cell? ⟨w.heap.size, 0, none⟩ = some (.slice (some ⟨b2, off2, none⟩) ar.length cap) ∧ w'.cell? ⟨b2, off2 + k, none⟩ = some (.int .i64 (A : Int)))
                (first | exact ⟨Bel.drew0 _, q1, q0, hc2⟩ | exact ⟨HB8, p1, p0, pc⟩ | exact ⟨HB8.step hb9, hb9.at pl1 p1, hb9.at pl0 p0, hb9.at plc pc⟩ | fail)
                (first | (go_at_call 47; refine (HA.out _ _ HQ.out HB8).mono ?_; rintro e w9 ⟨rfl, hb9⟩) | (go_at_call 46; refine (HL.out _).mono ?_; rintro e w8 ⟨rfl, hb8⟩; have HB8 := hb8.of_drew; have hz8 := HB8.size; have p1 := HB8.at zl1 q1; have p0 := HB8.at zl0 q0; have pc := HB8.at zlc hc2; have pl1 : w.heap.size + 1 < w8.heap.size := Nat.lt_of_lt_of_le zl1 hz8; have pl0 : w.heap.size < w8.heap.size := Nat.lt_of_lt_of_le zl0 hz8; have plc : b2 < w8.heap.size := Nat.lt_of_lt_of_le zlc hz8) | fail)
              go_wp2_with fail
              go_roundw
              case rel => exact ⟨k+1, by omega, by go_num, ES2.out, (hb.step HB8).step hb9⟩
              case measure => simp [intOf]; omega
            | false =>
              have HQ := Lib.hid hq
              have EF2 := Lib.hid (EF hq)
              clear hq ES EF
              go_wp2_with fail
              go_region_held3 (fun w' => Bel wr w' ∧ w'.cell? ⟨w.heap.size + 1, 0, none⟩ = some (.int .i64 (Z : Int)) ∧ w'.cell? ⟨w.heap.size, 0, none⟩ = some (.slice (some ⟨b2, off2, none⟩) ar.length cap) ∧ w'.cell? ⟨b2, off2 + k, none⟩ = some (.int .i64 (A : Int)))
                (first | exact ⟨Bel.drew0 _, q1, q0, hc2⟩ | exact ⟨HB8, p1, p0, pc⟩ | exact ⟨HB8.step hb9, hb9.at pl1 p1, hb9.at pl0 p0, hb9.at plc pc⟩ | fail)
                (first | (go_at_call 47; refine (HA.out _ _ HQ.out HB8).mono ?_; rintro e w9 ⟨rfl, hb9⟩) | (go_at_call 46; refine (HL.out _).mono ?_; rintro e w8 ⟨rfl, hb8⟩; have HB8 := hb8.of_drew; have hz8 := HB8.size; have p1 := HB8.at zl1 q1; have p0 := HB8.at zl0 q0; have pc := HB8.at zlc hc2; have pl1 : w.heap.size + 1 < w8.heap.size := Nat.lt_of_lt_of_le zl1 hz8; have pl0 : w.heap.size < w8.heap.size := Nat.lt_of_lt_of_le zl0 hz8; have plc : b2 < w8.heap.size := Nat.lt_of_lt_of_le zlc hz8) | fail)
              go_wp2_with fail
              go_ret
              exact ⟨by rw [EF2.out]; rfl, (hB.step hb).step (HB8.step hb9)⟩
          · have hne := ne_len' hxz
            have EF2 := Lib.hid (EF (by rw [decide_eq_false hxz]; rfl))
            clear s1 hxl EF ES
            generalize hyy : Z ^ A = y at *
            clear hyy hxz
            go_wp2_with fail
            first | (go_region_with (first | (go_at_call 46; refine (HL.out _).mono ?_; rintro e w8 ⟨rfl, hb8⟩) | fail)) | fail
            all_goals
              have HB8 := hb8.of_drew
              go_wp2_with fail
              go_ret
              exact ⟨by rw [EF2.out]; rfl, (hB.step hb).step HB8⟩
        · obtain rfl : k = tb.length := by omega
          have HALL := Lib.hid hall
          clear hall hlt
          go_wp2_with fail
          go_ret
          exact ⟨by rw [HALL.out]; rfl, hB.step hb⟩
    · have E0 : Hid (goodWorld ar sz tb = false) := by show _ = _; unfold goodWorld isWorld; rw [decide_eq_false h2]; simp
      have hnn := ne_len' h2
      clear h1 h1b h2 hv0
      go_enter Try.func27, Try.ntmps27
      go_wp2_with fail
      refine (HH.out _ (Bel.alloc2 _ _ _)).mono ?_; rintro e W ⟨rfl, hb0⟩
      have k0 := hb0.at (b := w.heap.size) (off := 0) (by simp; omega) (show World.cell? _ _ = some (.slice ad ar.length cap) by simp [go_sem])
      have k2 := hb0.at (b := w.heap.size + 1) (off := 1) (by simp) (show World.cell? _ _ = some (.slice au tb.length cu) by simp [go_sem])
      go_wp2_with fail
      go_ret
      exact ⟨by rw [E0.out]; rfl, (Bel.alloc2 w _ _).step hb0⟩
  · have h1' : (goodSign ar && inB sz 1 3) = false := by simpa using h1
    have HH := Lib.hid (fun (w' : World) (hb : Bel w w') => hasWorlds_v l h _ ar sz false w' h1' ha (hv0.below hb))
    have E0 : Hid (goodWorld ar sz tb = false) := by show _ = _; unfold goodWorld isWorld; rw [← Bool.and_assoc, h1']; rfl
    clear h1 h1' hv0
    go_enter Try.func27, Try.ntmps27
    go_wp2_with fail
    refine (HH.out _ (Bel.alloc2 _ _ _)).mono ?_; rintro e W ⟨rfl, hb0⟩
    go_wp2_with fail
    go_ret
    exact ⟨by rw [E0.out]; rfl, (Bel.alloc2 w _ _).step hb0⟩
theorem iGoodWorld_v {l h l' h' : Nat} {v u : Value} {ar : List Int} {sz : Int} {tb : List (List Int)} {w : World} {q : Bool} (he : goodWorld ar sz tb = q) (ha : ar.length ≤ 1048576) (hv : SlI l h w v ar) (hx : short tb) (hu : SlS l' h' w u tb) :
    Calls Try.prog 27 #[.agg #[v], .agg #[.int .i64 sz, u]] w (RetV w (.bool q)) := by subst he; exact iGoodWorld_t ha hv hx hu
end Go.Proofs.Ytjgbeclafdhijaa
end
