/- Chapter 5, the program: the value of a term. -/
import Derived.Test.YtfhljkjcjnfjfaaEvT
namespace Go.Proofs.Ytfhljkjcjnfjfaa
open Go.RowKit

theorem noOf_tk {sz : Int} (l : List Int) (k : Nat) (hk : k < l.length) : noOf sz (l.take (k+1)) = noOf sz (l.take k) * sz + l.getD k 0 := by
  rw [List.take_succ_eq_append_getElem hk, noOf_snoc]
  simp [List.getD, hk]
theorem stk_at {w : World} {B : Nat} {vs : List Int} (h : Stk w B vs) (q : Nat) (hq : q < vs.length) : w.cell? ⟨B, vs.length - (q + 1), none⟩ = some (.int .i64 (vs.getD q 0)) := by
  have := h.2.2 q hq
  rwa [show vs.length - 1 - q = vs.length - (q + 1) by omega] at this

set_option maxRecDepth 100000 in
set_option maxHeartbeats 2000000 in
theorem valueIn_c (l h l' h' l2 h2 l3 h3 : Nat) (v u vt ve : Value) (ar : List Int) (sz : Int) (tb : List (List Int)) (t env : List Int) (w : World) (hg : goodSign ar = true) (hw : isWorld ar sz tb = true) (he : okEnv sz env = true) (hok : okTerm ar t = true)
    (hv : SlI l h w v ar) (hu : SlS l' h' w u tb) (ht : SlI l2 h2 w vt t) (hve : SlI l3 h3 w ve env) :
    Calls Try.prog 93 #[.agg #[v], .agg #[.int .i64 sz, u], vt, ve] w (RetV w (.int .i64 (evT ar sz tb env t))) := by
  obtain ⟨w1, w2, w3, w4⟩ := isWorld_iff.1 hw
  obtain ⟨e1, e2⟩ := okEnv_iff.1 he
  have htl := ((okTerm_iff ar t).1 hok).2.1
  have ht1 := ((okTerm_iff ar t).1 hok).1
  have HM : Hid (∀ m : Nat, okSym ar (m : Int) = true → m < tb.length) := fun m hm => by have := okSym_lt hm; omega
  have HALL := Lib.hid (suf_all (sz := sz) (tb := tb) (env := env) hok)
  have HBD := Lib.hid (fun i hi => suf_bd (tb := tb) (env := env) hg hw he hok i hi)
  have HARG := Lib.hid (fun i hi hn => suf_args (sz := sz) (tb := tb) (env := env) hok i hi hn)
  have HLEN := Lib.hid (fun y => sufV_len (ar := ar) (sz := sz) (tb := tb) (env := env) y)
  have HSYM := Lib.hid (good_sym ar t hok)
  have HTB := Lib.hid w4
  clear w3 w4 hok hw he
  obtain ⟨av, cv, rfl, -, -, hrv⟩ := hv
  obtain ⟨at', ct, rfl, -, -, hrt⟩ := ht
  obtain ⟨ae, ce, rfl, -, -, hre⟩ := hve
  obtain ⟨au, cu, rfl⟩ := hu.form
  go_enter Try.func93, Try.ntmps93
  go_wp2_with fail
  obtain ⟨W, hW⟩ : ∃ W, W = (w.alloc (.cells #[.slice av ar.length cv] 30)).alloc (.cells #[.int .i64 sz, .slice au tb.length cu] 46) := ⟨_, rfl⟩
  have hB : Bel w W := by rw [hW]; exact Bel.alloc2 _ _ _
  have zW : W.heap.size = w.heap.size + 1 + 1 := by rw [hW]; simp
  have k0 : W.cell? ⟨w.heap.size, 0, none⟩ = some (.slice av ar.length cv) := by rw [hW]; simp [go_sem]
  have k1 : W.cell? ⟨w.heap.size + 1, 0, none⟩ = some (.int .i64 sz) := by rw [hW]; simp [go_sem]
  have k2 : W.cell? ⟨w.heap.size + 1, 1, none⟩ = some (.slice au tb.length cu) := by rw [hW]; simp [go_sem]
  rw [← hW, ← zW]
  replace zW : w.heap.size + 1 < W.heap.size := by omega
  clear hW
  go_loopw [10, 11] (fun top i wr => ∃ k : Nat, k ≤ t.length ∧ i = .int .i64 ((k : Int) - 1) ∧ top = .int .i64 (((sufV ar sz tb env (t.drop k)).length : Nat) : Int) ∧ Stk wr W.heap.size (sufV ar sz tb env (t.drop k)) ∧ Bel W wr) (fun _ i _ => (intOf i + 1).toNat)
  case atStart =>
    refine ⟨t.length, Nat.le_refl _, rfl, ?_, ?_, Bel.alloc0 _ _⟩
    · rw [List.drop_length]; rfl
    · rw [List.drop_length]; exact Stk.new W _ _ rfl
  case round =>
    obtain ⟨k, hk, rfl, rfl, hst, hb⟩ := hrel
    have q0 := hb.at (by omega) k0
    have q1 := hb.at (by omega) k1
    have q2 := hb.at (by omega) k2
    cases k with
    | zero =>
      rw [List.drop_zero, HALL.out] at hst
      have hc0 : wr.cell? ⟨W.heap.size, 0, none⟩ = some (.int .i64 (evT ar sz tb env t)) := hst.2.2 0 (by simp)
      have hz : decide (((0 : Nat) : Int) - 1 ≥ 0) = false := by simp
      clear hst HALL HBD HARG
      go_wp2_with fail
      go_ret
      exact ⟨rfl, hB.step hb⟩
    | succ k =>
      rw [show ((k + 1 : Nat) : Int) - 1 = (k : Int) from by omega]
      obtain ⟨bt, offt, rfl, hbtl, hct⟩ := rd hrt (hB.step hb) k (by omega)
      have hsym := HSYM.out k (by omega)
      have hvl := HLEN.out (t.drop (k+1))
      rw [List.length_drop] at hvl
      have hbd := Lib.hid (HBD.out (k+1) (by omega))
      have harg := Lib.hid (HARG.out k (by omega))
      have hdrop : Hid (sufV ar sz tb env (t.drop k) = sufV ar sz tb env (t.getD k 0 :: t.drop (k+1))) := by show _ = _; rw [drop_cons t k (by omega)]
      have hkt : (k : Int) < t.length := by omega
      by_cases hneg : t.getD k 0 < 0
      · have E := Lib.hid (hdrop.out.trans (sufV_neg hneg))
        obtain ⟨j, hj⟩ : ∃ j : Nat, t.getD k 0 = -1 - (j : Int) := ⟨(-1 - t.getD k 0).toNat, by omega⟩
        have hj12 : j < 12 := by rw [hj] at hsym; unfold okSym inB at hsym; simp at hsym; omega
        rw [hj] at hct E
        obtain ⟨be, offe, rfl, hbel, hce⟩ := rd hre (hB.step hb) j (by omega)
        have hw1 := IntWalk.i64_in (-1 - (-1 - (j : Int))) (by omega)
        have hjj : -1 - (-1 - (j : Int)) = (j : Int) := by omega
        rw [hjj] at hw1
        have hjE : (-1 - (-1 - (j : Int))).toNat = j := by omega
        rw [hjE] at E
        have hneg2 : decide ((-1 - (j : Int)) < 0) = true := by simp; omega
        have hjl : (j : Int) < 12 := by omega
        clear harg hbd hdrop hneg hj hsym hjE hrt hre HALL HBD HARG HLEN HSYM HTB
        generalize env.getD j 0 = val at *
        generalize sufV ar sz tb env (t.drop (k+1)) = vs at *
        have hst2 := Lib.hid (hst.push val (by omega))
        obtain ⟨x, hcx, hfx⟩ := hst.2.1 vs.length (by omega)
        have hl40 : ((vs.length : Nat) : Int) < 40 := by omega
        have hbs := Lib.hid (hb.set (p := ⟨W.heap.size, vs.length, none⟩) (Nat.le_refl _) (.int .i64 val))
        clear hst hvl
        go_wp2_with fail
        go_roundw
        case rel => exact ⟨k, by omega, by go_num, by rw [E.out]; simp, by rw [E.out]; exact hst2.out, hbs.out⟩
        case measure => simp [intOf]
      · have E := Lib.hid (hdrop.out.trans (sufV_sym hneg))
        have hal := harg.out (by omega)
        obtain ⟨m, hm⟩ : ∃ m : Nat, t.getD k 0 = (m : Int) := ⟨(t.getD k 0).toNat, by omega⟩
        rw [hm] at hct E hal hsym
        have hma := okSym_lt hsym
        have hmt := HM.out m hsym
        obtain ⟨ba, offa, rfl, hbal, hca⟩ := rd hrv (hB.step hb) m hma
        have h03 := ar_nonneg ar hg m
        obtain ⟨A, hA⟩ : ∃ A : Nat, ar.getD m 0 = (A : Int) := ⟨(ar.getD m 0).toNat, by omega⟩
        have hTT := HTB.out m hmt
        have hAA : arOf ar (m : Int) = A := by rw [arOf_nat, hA]; simp
        rw [hAA] at E hal
        rw [hA] at hca h03 hTT
        have hA3 : A ≤ 3 := by omega
        have hneg2 : decide ((m : Int) < 0) = false := by simp
        have hmal : (m : Int) < ar.length := by omega
        have hmtl : (m : Int) < tb.length := by omega
        unfold entry at E
        rw [Int.toNat_natCast] at E
        obtain ⟨bb, off, u1, rfl, hbs, c1, s1⟩ := hu.at (hB.step hb) m hmt
        obtain ⟨x1, x2, rfl, -, -, hrx⟩ := s1
        clear harg hdrop hneg hm hsym hA hAA hrt hre hrv HALL HBD HARG HLEN HSYM HTB HM
        generalize sufV ar sz tb env (t.drop (k+1)) = vs at *
        have HNO : Hid (∀ q, q ≤ A → 0 ≤ noOf sz (vs.take q) ∧ noOf sz (vs.take q) ≤ 26) := fun q hq => noOf_le w1 w2 _ (fun x hx => hbd.out x (List.mem_of_mem_take hx)) (by rw [List.length_take]; omega)
        have HNL : Hid (noOf sz (vs.take A) < ((tb.getD m []).length : Nat)) := by
          show _ < _
          have := noOf_bd w1 (vs.take A) (fun x hx => hbd.out x (List.mem_of_mem_take hx))
          rw [hTT.1]
          rw [List.length_take, show min A vs.length = A by omega] at this
          exact this.2
        have HVB : Hid (∀ q, q < vs.length → 0 ≤ vs.getD q 0 ∧ vs.getD q 0 ≤ sz - 1) := fun q hq => hbd.out _ (mem_gd vs 0 q hq)
        have hvl40 : vs.length < 40 := by omega
        clear hTT hbd hvl
        go_wp2_with fail
        obtain ⟨wo, hwo⟩ : ∃ wo, wo = wr := ⟨_, rfl⟩
        subst hwo
        have zB : W.heap.size < wo.heap.size := hst.1
        go_loopw [10, 13, 41] (fun top no j w2' => ∃ q : Nat, q ≤ A ∧ j = .int .i64 q ∧ no = .int .i64 (noOf sz (vs.take q)) ∧ top = .int .i64 ((vs.length - q : Nat) : Int) ∧ Bel wo w2') (fun _ _ j _ => A - (intOf j).toNat)
        case atStart => exact ⟨0, Nat.zero_le _, rfl, by simp [noOf], rfl, Bel.rfl' _⟩
        case round =>
          obtain ⟨q, hq, rfl, rfl, rfl, hbq⟩ := hrel
          have hn0 := HNO.out q hq
          by_cases hqA : q < A
          · have hv0 := HVB.out q (by omega)
            have hs1 := hbq.at zB (stk_at hst q (by omega))
            have HS := Lib.hid (noOf_tk (sz := sz) vs q (by omega))
            have r1 := hbq.at (by omega) q1
            have hsub : ((vs.length - q : Nat) : Int) - 1 = ((vs.length - (q + 1) : Nat) : Int) := by omega
            have hs40 : ((vs.length - (q + 1) : Nat) : Int) < 40 := by omega
            have hs41 : ((vs.length - q : Nat) : Int) ≤ 40 := by omega
            have hs42 : (1 : Int) ≤ ((vs.length - q : Nat) : Int) := by omega
            have hmul : noOf sz (vs.take q) * sz ≤ noOf sz (vs.take q) * 3 := Int.mul_le_mul_of_nonneg_left w2 hn0.1
            have hmul0 := Int.mul_nonneg hn0.1 (show 0 ≤ sz by omega)
            generalize vs.getD q 0 = x at *
            generalize noOf sz (vs.take q) = no at *
            have i1 := IntWalk.i64_in (no * sz) (by omega)
            have i2 := IntWalk.i64_in (no * sz + x) (by omega)
            have i3 := IntWalk.i64_in (((vs.length - q : Nat) : Int) - 1) (by omega)
            rw [hsub] at i3
            have HSUB := Lib.hid hsub
            have hsz := Lib.hid hst
            clear hmul hmul0 HNO HNL HVB hst hrx hsub
            generalize hP : vs.length - (q + 1) = P at *
            generalize hQ : vs.length - q = Q at *
            have HP := Lib.hid hP
            have hPQ : (Q : Int) - 1 = (P : Int) := HSUB.out
            clear hP hQ
            go_wp2_with fail
            go_region_held3 (fun w' => Bel wr w' ∧ w'.cell? ⟨w.heap.size + 1, 0, none⟩ = some (.int .i64 sz) ∧ w'.cell? ⟨W.heap.size, P, none⟩ = some (.int .i64 x))
              (first | exact ⟨Bel.drew0 _, r1, hs1⟩ | fail)
              (first | fail)
            go_wp2_with fail
            go_roundw
            case rel => exact ⟨q+1, by omega, by go_num, by rw [HS.out], by rw [HP.out], hbq.step (Bel.drew0 _)⟩
            case measure => simp [intOf]; omega
          · obtain rfl : q = A := by omega
            obtain ⟨N, hN⟩ : ∃ N : Nat, noOf sz (vs.take q) = (N : Int) := ⟨(noOf sz (vs.take q)).toNat, by omega⟩
            have hnl := HNL.out
            rw [hN] at hnl hn0 E ⊢
            rw [Int.toNat_natCast] at E
            have hNL : N < (tb.getD m []).length := by omega
            obtain ⟨bx, ofx, rfl, hxl, hcx⟩ := rd hrx hbq N hNL
            have r2 := hbq.at (by omega) q2
            have c2 := hbq.at (World.block_lt_of_cell? _ ⟨_, _, none⟩ c1) c1
            have hst2 := (hst.below hbq).drop q hal
            have hdl : (vs.drop q).length = vs.length - q := List.length_drop
            obtain ⟨y, hcy, hfy⟩ := hst2.2.1 (vs.length - q) (by omega)
            have hl40 : ((vs.length - q : Nat) : Int) < 40 := by omega
            generalize (tb.getD m []).getD N 0 = val at *
            have hst3 := Lib.hid (hst2.push val (by omega))
            have hbs2 := Lib.hid ((hb.step hbq).set (p := ⟨W.heap.size, vs.length - q, none⟩) (Nat.le_refl _) (.int .i64 val))
            have HDL := Lib.hid hdl
            clear HNO HNL HVB hst hst2 hrx hN hnl hdl
            generalize (tb.getD m []).length = xl at *
            generalize hQ : vs.length - q = Q at *
            clear hQ
            go_wp2_with fail
            go_roundw
            case rel => exact ⟨k, by omega, by go_num, by rw [E.out, List.length_cons, HDL.out]; simp, by have h9 := hst3.out; rw [HDL.out] at h9; rw [E.out]; exact h9, hbs2.out⟩
            case measure => simp [intOf]
end Go.Proofs.Ytfhljkjcjnfjfaa
