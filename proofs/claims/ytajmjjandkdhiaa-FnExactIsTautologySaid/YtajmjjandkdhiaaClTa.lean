/- Chapter 4, the reference: tautologies. -/
import Derived.Test.YtajmjjandkdhiaaClSm
import Derived.Test.YtajmjjandkdhiaaClTm
namespace Go.Proofs.Ytajmjjandkdhiaa
open Go.RowKit

theorem taut_out {c : List Lt} {k : Nat} (hk : k < c.length) (h : tautAt c k = true) : tautC c = true := List.any_eq_true.2 ⟨k, by simpa using hk, h⟩
theorem taut_none {c : List Lt} (h : ∀ k, k < c.length → tautAt c k = false) : tautC c = false := by
  unfold tautC
  rw [List.any_eq_false]
  intro k hk
  simp [h k (by simpa using hk)]

set_option maxRecDepth 100000 in
set_option maxHeartbeats 2000000 in
theorem l4Taut_c (l h : Nat) (v : Value) (c : List Lt) (w : World) (hx : shortC c) (hv : SlC l h w v c) :
    Calls Try.prog 84 #[v] w (RetV w (.bool (tautC c))) := by
  obtain ⟨ad, cap, rfl⟩ := hv.form
  have hx0 := hx.1
  have HCAP : Hid (c.length ≤ cap) := by
    obtain ⟨_, k, e, h2, _⟩ := hv
    simp only [Value.slice.injEq] at e
    show _ ≤ _
    omega
  go_enter Try.func84, Try.ntmps84
  go_wp2_with fail
  go_loopw [9] (fun i wr => ∃ k : Nat, k ≤ c.length ∧ i = .int .i64 k ∧ (∀ j, j < k → tautAt c j = false) ∧ Bel w wr) (fun i _ => c.length - (intOf i).toNat)
  case atStart => exact ⟨0, Nat.zero_le _, rfl, fun j hj => absurd hj (by omega), Bel.rfl' _⟩
  case round =>
    obtain ⟨k, hk, rfl, hno, hb⟩ := hrel
    by_cases hlt : k < c.length
    · obtain ⟨b, off, u1, u2, rfl, hbs, c1, c2, c3, s1, s2⟩ := hv.at hb k hlt
      obtain ⟨hm1, hm2⟩ := hx.2 k hlt
      have hin1 : (k : Int) < c.length := by omega
      have hin2 : (k : Int) ≤ cap := by have := HCAP.out; omega
      have HYES := Lib.hid (taut_out hlt)
      have HNO : Hid (tautAt c k = false → ∀ j, j < k + 1 → tautAt c j = false) := fun h j hj => by
        by_cases e : j = k
        · subst e; exact h
        · exact hno j (by omega)
      obtain ⟨a1, d1, rfl⟩ := s1.form
      obtain ⟨a2, d2, rfl⟩ := s2.form
      have HA : Hid (tautAt c k = (((c.getD k lt0).1 && decide ((c.getD k lt0).2.1 = (c.getD k lt0).2.2)) || (c.take k).any fun y => ((c.getD k lt0).1 != y.1) && sameTs (c.getD k lt0) y)) := rfl
      have HSM := Lib.hid (fun (w' : World) (hq : Bel wr w') (y : Lt) (q1 q2 : Value) (g3 : y.2.1.length ≤ 1048576) (g4 : y.2.2.length ≤ 1048576) (t1 : SlI l h w' q1 y.2.1) (t2 : SlI l h w' q2 y.2.2) =>
        l4SameTerms_c l h l h (c.getD k lt0) y _ _ q1 q2 w' hm1 hm2 g3 g4 (s1.below hq) (s2.below hq) t1 t2)
      have HL1 := Lib.hid (fun (q : Bool) (hq : decide ((c.getD k lt0).2.1 = (c.getD k lt0).2.2) = q) (w' : World) (hb' : Bel wr w') => l1Same_w l h l h _ _ _ _ q w' hq hm1 hm2 (s1.below hb') (s2.below hb'))
      generalize c.getD k lt0 = x at *
      obtain ⟨p, xl, xr⟩ := x
      simp only at c1 c2 c3 hm1 hm2 HSM HL1 HA
      have HK : Hid (∀ w', Bel (wr.alloc (.cells #[.bool p, .slice a1 xl.length d1, .slice a2 xr.length d2] 68)) w' → w'.cell? ⟨wr.heap.size, 0, none⟩ = some (.bool p) ∧ w'.cell? ⟨wr.heap.size, 1, none⟩ = some (.slice a1 xl.length d1) ∧ w'.cell? ⟨wr.heap.size, 2, none⟩ = some (.slice a2 xr.length d2)) := fun w' hb => ⟨boxc hb 0 _ rfl, boxc hb 1 _ rfl, boxc hb 2 _ rfl⟩
      clear s1 s2 hno
      cases p with
      | true =>
        simp only [Bool.true_and] at HA
        generalize decide (xl = xr) = e1 at *
        have HL := Lib.hid (HL1.out e1 rfl)
        cases e1 with
        | true =>
          have E := Lib.hid (HYES.out (by rw [HA.out]; rfl))
          clear HYES HNO HA HSM hv
          go_wp2_with fail
          refine (HL.out _ (Bel.alloc0 _ _)).mono ?_; rintro e w1 ⟨rfl, hb1⟩
          go_wp2_with fail
          go_ret
          exact ⟨by rw [E.out]; rfl, hb.step hb1.of_alloc⟩
        | false =>
          simp only [Bool.false_or] at HA
          go_wp2_with fail
          refine (HL.out _ (Bel.alloc0 _ _)).mono ?_; rintro e w1 ⟨rfl, hb1⟩
          obtain ⟨y0, y1, y2⟩ := HK.out _ hb1
          clear HL HL1
          go_wp2_with fail
          go_loopw [27] (fun i w6 => ∃ j : Nat, j ≤ k ∧ i = .int .i64 j ∧ ((c.take k).take j).any (fun y => (true != y.1) && sameTs (true, xl, xr) y) = false ∧ Bel (wr.alloc (.cells #[.bool true, .slice a1 xl.length d1, .slice a2 xr.length d2] 68)) w6) (fun i _ => k - (intOf i).toNat)
          case atStart => exact ⟨0, Nat.zero_le _, rfl, by simp, hb1⟩
          case round =>
            obtain ⟨j, hj, rfl, hany, h0⟩ := hrel
            by_cases hjk : j < k
            · obtain ⟨b', off', v1, v2, eb, hbs', f0, f1', f2', r1, r2⟩ := hv.at (hb.step h0.of_alloc) j (by omega)
              simp only [Option.some.injEq, Addr.mk.injEq, and_true] at eb
              obtain ⟨rfl, rfl⟩ := eb
              obtain ⟨hn1, hn2⟩ := hx.2 j (by omega)
              have hin3 : (j : Int) < k := by omega
              have HTK : Hid ((c.take k).take (j+1) = (c.take k).take j ++ [c.getD j lt0]) := by
                show _ = _
                rw [List.take_succ_eq_append_getElem (by rw [List.length_take]; omega)]
                simp [List.getD, show j < c.length by omega]
              have hmem : c.getD j lt0 ∈ c.take k := by
                have : (c.take k)[j]? = some (c.getD j lt0) := by rw [List.getElem?_take, if_pos hjk, List.getElem?_eq_getElem (by omega)]; simp [List.getD, show j < c.length by omega]
                exact List.mem_of_getElem? this
              have HY2 : Hid (((true != (c.getD j lt0).1) && sameTs (true, xl, xr) (c.getD j lt0)) = true → tautC c = true) := fun h => HYES.out (by rw [HA.out]; exact List.any_eq_true.2 ⟨_, hmem, h⟩)
              clear hmem
              generalize c.getD j lt0 = y at *
              obtain ⟨q, yl, yr⟩ := y
              simp only at f0 f1' f2' r1 r2 hn1 hn2
              obtain ⟨g1, f1, rfl⟩ := r1.form
              obtain ⟨g2, f2, rfl⟩ := r2.form
              have hcall := fun (w' : World) (hq : Bel wr w') => HSM.out w' (h0.of_alloc.step hq) (q, yl, yr) _ _ hn1 hn2 (r1.below hq) (r2.below hq)
              obtain ⟨x0, x1, x2⟩ := HK.out _ (h0.alloc (.cells #[.bool q, .slice g1 yl.length f1, .slice g2 yr.length f2] 68))
              cases q with
              | true =>
                simp only [bne_self_eq_false, Bool.false_and] at HY2
                clear hcall r1 r2
                have E : Hid (((c.take k).take (j+1)).any (fun y => (true != y.1) && sameTs (true, xl, xr) y) = false) := by show _ = _; rw [HTK.out, List.any_append, hany]; simp
                clear HY2 hany
                go_wp2_with fail


                go_roundw
                case rel => exact ⟨j+1, by omega, by go_num, E.out, h0.alloc _⟩
                case measure => simp [intOf]; omega
              | false =>
                simp only [show (true != false) = true from rfl, Bool.true_and] at HY2
                have HS0 : Hid (sameTs (true, xl, xr) (false, yl, yr) = sameTs (true, xl, xr) (false, yl, yr)) := rfl
                clear HS0
                cases hsm : sameTs (true, xl, xr) (false, yl, yr) with
                | true =>
                  have E := Lib.hid (HY2.out hsm)
                  simp only [hsm] at hcall
                  have HC := Lib.hid (fun (w' : World) (hq : Bel wr w') => hcall w' hq)
                  clear HY2 hany hcall hsm r1 r2
                  go_wp2_with fail
                  refine (HC.out _ (Bel.alloc0 _ _)).mono ?_; rintro e w5 ⟨rfl, hb5⟩
                  go_wp2_with fail
                  go_ret
                  exact ⟨by rw [E.out]; rfl, (hb.step h0.of_alloc).step hb5.of_alloc⟩
                | false =>
                  have E : Hid (((c.take k).take (j+1)).any (fun y => (true != y.1) && sameTs (true, xl, xr) y) = false) := by show _ = _; rw [HTK.out, List.any_append, hany]; simp [hsm]
                  simp only [hsm] at hcall
                  have HC := Lib.hid (fun (w' : World) (hq : Bel wr w') => hcall w' hq)
                  clear HY2 hany hcall hsm r1 r2
                  go_wp2_with fail
                  refine (HC.out _ (Bel.alloc0 _ _)).mono ?_; rintro e w5 ⟨rfl, hb5⟩
                  go_wp2_with fail
                  go_roundw
                  case rel => exact ⟨j+1, by omega, by go_num, E.out, h0.step hb5.of_alloc⟩
                  case measure => simp [intOf]; omega
            · have hjk2 : j = k := by omega
              subst hjk2
              rw [List.take_of_length_le (by rw [List.length_take]; omega)] at hany
              have E := Lib.hid (HNO.out (by rw [HA.out]; exact hany))
              clear hany hv
              go_wp2_with fail
              go_roundw
              case rel => exact ⟨j+1, by omega, by go_num, E.out, hb.step h0.of_alloc⟩
              case measure => simp [intOf]; omega
      | false =>
        simp only [Bool.false_and, Bool.false_or] at HA
        clear HL1
        go_wp2_with fail
        go_loopw [27] (fun i w6 => ∃ j : Nat, j ≤ k ∧ i = .int .i64 j ∧ ((c.take k).take j).any (fun y => (false != y.1) && sameTs (false, xl, xr) y) = false ∧ Bel (wr.alloc (.cells #[.bool false, .slice a1 xl.length d1, .slice a2 xr.length d2] 68)) w6) (fun i _ => k - (intOf i).toNat)
        case atStart => exact ⟨0, Nat.zero_le _, rfl, by simp, Bel.rfl' _⟩
        case round =>
          obtain ⟨j, hj, rfl, hany, h0⟩ := hrel
          by_cases hjk : j < k
          · obtain ⟨b', off', v1, v2, eb, hbs', f0, f1', f2', r1, r2⟩ := hv.at (hb.step h0.of_alloc) j (by omega)
            simp only [Option.some.injEq, Addr.mk.injEq, and_true] at eb
            obtain ⟨rfl, rfl⟩ := eb
            obtain ⟨hn1, hn2⟩ := hx.2 j (by omega)
            have hin3 : (j : Int) < k := by omega
            have HTK : Hid ((c.take k).take (j+1) = (c.take k).take j ++ [c.getD j lt0]) := by
              show _ = _
              rw [List.take_succ_eq_append_getElem (by rw [List.length_take]; omega)]
              simp [List.getD, show j < c.length by omega]
            have hmem : c.getD j lt0 ∈ c.take k := by
              have : (c.take k)[j]? = some (c.getD j lt0) := by rw [List.getElem?_take, if_pos hjk, List.getElem?_eq_getElem (by omega)]; simp [List.getD, show j < c.length by omega]
              exact List.mem_of_getElem? this
            have HY2 : Hid (((false != (c.getD j lt0).1) && sameTs (false, xl, xr) (c.getD j lt0)) = true → tautC c = true) := fun h => HYES.out (by rw [HA.out]; exact List.any_eq_true.2 ⟨_, hmem, h⟩)
            clear hmem
            generalize c.getD j lt0 = y at *
            obtain ⟨q, yl, yr⟩ := y
            simp only at f0 f1' f2' r1 r2 hn1 hn2
            obtain ⟨g1, f1, rfl⟩ := r1.form
            obtain ⟨g2, f2, rfl⟩ := r2.form
            have hcall := fun (w' : World) (hq : Bel wr w') => HSM.out w' (h0.of_alloc.step hq) (q, yl, yr) _ _ hn1 hn2 (r1.below hq) (r2.below hq)
            obtain ⟨x0, x1, x2⟩ := HK.out _ (h0.alloc (.cells #[.bool q, .slice g1 yl.length f1, .slice g2 yr.length f2] 68))
            cases q with
            | false =>
              simp only [bne_self_eq_false, Bool.false_and] at HY2
              clear hcall r1 r2
              have E : Hid (((c.take k).take (j+1)).any (fun y => (false != y.1) && sameTs (false, xl, xr) y) = false) := by show _ = _; rw [HTK.out, List.any_append, hany]; simp
              clear HY2 hany
              go_wp2_with fail


              go_roundw
              case rel => exact ⟨j+1, by omega, by go_num, E.out, h0.alloc _⟩
              case measure => simp [intOf]; omega
            | true =>
              simp only [show (false != true) = true from rfl, Bool.true_and] at HY2
              have HS0 : Hid (sameTs (false, xl, xr) (true, yl, yr) = sameTs (false, xl, xr) (true, yl, yr)) := rfl
              clear HS0
              cases hsm : sameTs (false, xl, xr) (true, yl, yr) with
              | true =>
                have E := Lib.hid (HY2.out hsm)
                simp only [hsm] at hcall
                have HC := Lib.hid (fun (w' : World) (hq : Bel wr w') => hcall w' hq)
                clear HY2 hany hcall hsm r1 r2
                go_wp2_with fail
                refine (HC.out _ (Bel.alloc0 _ _)).mono ?_; rintro e w5 ⟨rfl, hb5⟩
                go_wp2_with fail
                go_ret
                exact ⟨by rw [E.out]; rfl, (hb.step h0.of_alloc).step hb5.of_alloc⟩
              | false =>
                have E : Hid (((c.take k).take (j+1)).any (fun y => (false != y.1) && sameTs (false, xl, xr) y) = false) := by show _ = _; rw [HTK.out, List.any_append, hany]; simp [hsm]
                simp only [hsm] at hcall
                have HC := Lib.hid (fun (w' : World) (hq : Bel wr w') => hcall w' hq)
                clear HY2 hany hcall hsm r1 r2
                go_wp2_with fail
                refine (HC.out _ (Bel.alloc0 _ _)).mono ?_; rintro e w5 ⟨rfl, hb5⟩
                go_wp2_with fail
                go_roundw
                case rel => exact ⟨j+1, by omega, by go_num, E.out, h0.step hb5.of_alloc⟩
                case measure => simp [intOf]; omega
          · have hjk2 : j = k := by omega
            subst hjk2
            rw [List.take_of_length_le (by rw [List.length_take]; omega)] at hany
            have E := Lib.hid (HNO.out (by rw [HA.out]; exact hany))
            clear hany hv
            go_wp2_with fail
            go_roundw
            case rel => exact ⟨j+1, by omega, by go_num, E.out, hb.step h0.of_alloc⟩
            case measure => simp [intOf]; omega
    · have hkc : k = c.length := by omega
      subst hkc
      have E := Lib.hid (taut_none hno)
      clear hno hv
      go_wp2_with fail
      go_ret
      exact ⟨by rw [E.out]; rfl, hb⟩
end Go.Proofs.Ytajmjjandkdhiaa
