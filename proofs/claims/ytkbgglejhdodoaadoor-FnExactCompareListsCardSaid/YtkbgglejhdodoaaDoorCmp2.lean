/- The ordering of two terms: comparing, both functions. -/
import Derived.Test.YtkbgglejhdodoaaDoorCmp
import Derived.Test.YtkbgglejhdodoaaDoorVars3
namespace Go.Proofs.YtkbgglejhdodoaaDoor
open Go.RowKit

set_option maxRecDepth 100000 in
set_option maxHeartbeats 400000 in
theorem isAbove_c (l h l' h' : Nat) (v u : Value) (a b : List Int) (w : World) (hT : Tab w) (ha : a.length ≤ 1048576) (hb : b.length ≤ 1048576) (hla : lowT a) (hlb : lowT b) (hv : SlI l h w v a) (hu : SlI l' h' w u b) :
    Calls Tryd.prog 72 #[v, u] w (RetV w (.bool (above a b))) := by
  cases hc : covers a b with
  | false =>
    have E : Hid (above a b = false) := by show _ = _; simp [above, hc]
    have HC := Lib.hid (coversVars_v l h l' h' v u a b false w hc ha hb hla hlb hv hu)
    clear hc
    go_enter Tryd.func72, Tryd.ntmps72
    go_wp2_with fail
    refine HC.out.mono ?_; rintro e w1 ⟨rfl, hb1⟩
    go_wp2_with fail
    go_ret
    exact ⟨by rw [E.out]; rfl, hb1⟩
  | true =>
    have HC := Lib.hid (coversVars_v l h l' h' v u a b true w hc ha hb hla hlb hv hu)
    have HW := Lib.hid (fun (w' : World) (hq : Bel w w') => weightOf_c l h v a w' (hT.bel hq) ha (hv.below hq))
    have HX := Lib.hid (fun (w' : World) (hq : Bel w w') => weightOf_c l' h' u b w' (hT.bel hq) hb (hu.below hq))
    have hw0 := IntWalk.i64_in ((a.length : Int) - b.length) (by omega)
    rcases Nat.lt_trichotomy a.length b.length with hl | hl | hl
    · have E : Hid (above a b = false) := by show _ = _; rw [Bool.eq_false_iff, ne_eq, above_iff]; omega
      have d0 : decide (b.length < a.length) = false := by simp; omega
      have d1 : ((a.length : Int) - b.length == 0) = false := by simp; omega
      clear hc
      go_enter Tryd.func72, Tryd.ntmps72
      go_wp2_with fail
      refine HC.out.mono ?_; rintro e w1 ⟨rfl, hb1⟩
      go_wp2_with fail
      refine (HW.out _ hb1).mono ?_; rintro e w2 ⟨rfl, hb2⟩
      go_wp2_with fail
      refine (HX.out _ (hb1.step hb2)).mono ?_; rintro e w3 ⟨rfl, hb3⟩
      go_wp2_with fail
      go_ret
      exact ⟨by rw [E.out]; rfl, (hb1.step hb2).step hb3⟩
    · have E : Hid (above a b = winF a b) := by show _ = _; unfold above; simp [hc, hl]
      have HF := Lib.hid (fun (w' : World) (hq : Bel w w') => winsFirst_c l h l' h' v u a b w' hl ha (hv.below hq) (hu.below hq))
      have d0 : decide (b.length < a.length) = false := by simp; omega
      have d1 : ((a.length : Int) - b.length == 0) = true := by simp; omega
      clear hc
      generalize winF a b = q at *
      cases q
      all_goals
        go_enter Tryd.func72, Tryd.ntmps72
        go_wp2_with fail
        refine HC.out.mono ?_; rintro e w1 ⟨rfl, hb1⟩
        go_wp2_with fail
        refine (HW.out _ hb1).mono ?_; rintro e w2 ⟨rfl, hb2⟩
        go_wp2_with fail
        refine (HX.out _ (hb1.step hb2)).mono ?_; rintro e w3 ⟨rfl, hb3⟩
        go_wp2_with fail
        refine (HF.out _ ((hb1.step hb2).step hb3)).mono ?_; rintro e w4 ⟨rfl, hb4⟩
        go_wp2_with fail
        go_ret
        exact ⟨by rw [E.out]; rfl, ((hb1.step hb2).step hb3).step hb4⟩
    · have E : Hid (above a b = true) := by show _ = _; rw [above_iff]; exact ⟨covers_iff.1 hc, .inl hl⟩
      have d0 : decide (b.length < a.length) = true := by simp; omega
      clear hc
      go_enter Tryd.func72, Tryd.ntmps72
      go_wp2_with fail
      refine HC.out.mono ?_; rintro e w1 ⟨rfl, hb1⟩
      go_wp2_with fail
      refine (HW.out _ hb1).mono ?_; rintro e w2 ⟨rfl, hb2⟩
      go_wp2_with fail
      refine (HX.out _ (hb1.step hb2)).mono ?_; rintro e w3 ⟨rfl, hb3⟩
      go_wp2_with fail
      go_ret
      exact ⟨by rw [E.out]; rfl, (hb1.step hb2).step hb3⟩
theorem isAbove_v (l h l' h' : Nat) (v u : Value) (a b : List Int) (q : Bool) (w : World) (he : above a b = q) (hT : Tab w) (ha : a.length ≤ 1048576) (hb : b.length ≤ 1048576) (hla : lowT a) (hlb : lowT b) (hv : SlI l h w v a) (hu : SlI l' h' w u b) :
    Calls Tryd.prog 72 #[v, u] w (RetV w (.bool q)) := he ▸ isAbove_c l h l' h' v u a b w hT ha hb hla hlb hv hu

/-- The reference's. -/
def wt (a b : List Int) (v : Int) : Bool := decide (cntI b (-1 - v) ≤ cntI a (-1 - v))
theorem covers_vars {a b : List Int} (hb : lowT b) : covers a b = (natsI (varsTo (mk b) 12)).all (wt a b) := by
  rw [Bool.eq_iff_iff, covers_iff, List.all_eq_true]
  constructor
  · intro h v hv
    obtain ⟨n, hn, rfl⟩ := List.mem_map.1 hv
    have := h (-1 - (n : Int)) (by omega)
    rw [← cntI_count, ← cntI_count] at this
    simpa [wt] using this
  · intro h n hn
    by_cases hm : n ∈ b
    · have hl := hb.mem hm
      have hv : (((-1 - n).toNat : Nat) : Int) ∈ natsI (varsTo (mk b) 12) := by
        refine List.mem_map.2 ⟨(-1 - n).toNat, ?_, rfl⟩
        unfold varsTo
        rw [List.mem_filter, List.mem_range]
        refine ⟨by omega, ?_⟩
        unfold mk
        rw [show -1 - (((-1 - n).toNat : Nat) : Int) = n by omega]
        simpa using hm
      have := h _ hv
      unfold wt at this
      rw [show -1 - (((-1 - n).toNat : Nat) : Int) = n by omega] at this
      rw [← cntI_count, ← cntI_count]
      simpa using this
    · rw [List.count_eq_zero_of_not_mem hm]; omega
theorem vars_bound {b : List Int} {k : Nat} (hk : k < (natsI (varsTo (mk b) 12)).length) : 0 ≤ (natsI (varsTo (mk b) 12)).getD k 0 ∧ (natsI (varsTo (mk b) 12)).getD k 0 ≤ 11 := by
  have hm : (natsI (varsTo (mk b) 12)).getD k 0 ∈ natsI (varsTo (mk b) 12) := by simp [List.getD, hk]
  obtain ⟨n, hn, e⟩ := List.mem_map.1 hm
  unfold varsTo at hn
  rw [List.mem_filter, List.mem_range] at hn
  rw [← e]; omega

set_option maxRecDepth 100000 in
set_option maxHeartbeats 400000 in
theorem l3Weighs_c (l h l' h' : Nat) (v u : Value) (a b : List Int) (w : World) (ha : a.length ≤ 1048576) (hb : b.length ≤ 1048576) (hlb : lowT b) (hv : SlI l h w v a) (hu : SlI l' h' w u b) :
    Calls Tryd.prog 52 #[v, u] w (RetV w (.bool (covers a b))) := by
  have hcv := covers_vars (a := a) hlb
  have hvb := fun k => vars_bound (b := b) (k := k)
  have HV := Lib.hid (l1Vars_c l' h' u b w hb hlb hu)
  have hvl : (natsI (varsTo (mk b) 12)).length ≤ 12 := by rw [natsI_len]; exact varsTo_len _ _
  have HA := Lib.hid (fun (w' : World) (hq : Bel w w') (n : Int) => l1Count_c l h v a n w' ha (hv.below hq))
  have HB := Lib.hid (fun (w' : World) (hq : Bel w w') (n : Int) => l1Count_c l' h' u b n w' hb (hu.below hq))
  generalize natsI (varsTo (mk b) 12) = L at *
  go_enter Tryd.func52, Tryd.ntmps52
  go_wp2_with fail
  refine HV.out.mono ?_; rintro e w1 ⟨ad, n, c, rfl, ho, hb1⟩
  have hn := ho.sl
  obtain ⟨ad2, c2, e2, -, -, hr⟩ := hn
  simp only [Value.slice.injEq] at e2
  obtain ⟨rfl, rfl, rfl⟩ := e2
  go_wp2_with fail
  go_loopw [10] (fun i wr => ∃ k : Nat, k ≤ L.length ∧ i = .int .i64 k ∧ (L.take k).all (wt a b) = true ∧ Bel w1 wr) (fun i _ => L.length - (intOf i).toNat)
  case atStart => exact ⟨0, Nat.zero_le _, rfl, rfl, Bel.rfl' _⟩
  case round =>
    obtain ⟨k, hk, rfl, hall, hb2⟩ := hrel
    by_cases hlt : k < L.length
    · obtain ⟨b0, off, rfl, -, hcell⟩ := rd hr hb2 k hlt
      have hx := hvb k hlt
      have hsp := Lib.hid (all_split L (wt a b) k hlt hall)
      have hfs := Lib.hid (all_false L (wt a b) k hlt)
      clear hr hvb hall
      generalize L.getD k 0 = x at *
      have hw0 := IntWalk.i64_in (-1 - x) (by omega)
      by_cases hlt2 : cntI a (-1 - x) < cntI b (-1 - x)
      · have E : Hid (covers a b = false) := by show _ = _; rw [hcv]; refine hfs.out ?_; simp [wt]; omega
        have hd : decide ((cntI a (-1 - x) : Int) < cntI b (-1 - x)) = true := by simp; omega
        clear hcv
        go_wp2_with fail
        refine (HA.out _ (hb1.step hb2) _).mono ?_; rintro e w2 ⟨rfl, hb3⟩
        go_wp2_with fail
        refine (HB.out _ ((hb1.step hb2).step hb3) _).mono ?_; rintro e w3 ⟨rfl, hb4⟩
        go_wp2_with fail
        go_ret
        exact ⟨by rw [E.out]; rfl, ((hb1.step hb2).step hb3).step hb4⟩
      · have E : Hid ((L.take (k+1)).all (wt a b) = true) := by show _ = _; rw [hsp.out]; simp [wt]; omega
        have hd : decide ((cntI a (-1 - x) : Int) < cntI b (-1 - x)) = false := by simp; omega
        clear hcv
        go_wp2_with fail
        refine (HA.out _ (hb1.step hb2) _).mono ?_; rintro e w2 ⟨rfl, hb3⟩
        go_wp2_with fail
        refine (HB.out _ ((hb1.step hb2).step hb3) _).mono ?_; rintro e w3 ⟨rfl, hb4⟩
        go_wp2_with fail
        go_roundw
        case rel => exact ⟨k+1, by omega, by go_num, E.out, (hb2.step hb3).step hb4⟩
        case measure => simp [intOf]; omega
    · have E : Hid (covers a b = true) := by show _ = _; rw [hcv]; exact all_done L _ k hk hlt hall
      clear hall hcv
      go_wp2_with fail
      go_ret
      exact ⟨by rw [E.out]; rfl, hb1.step hb2⟩
theorem l3Weighs_v (l h l' h' : Nat) (v u : Value) (a b : List Int) (q : Bool) (w : World) (he : covers a b = q) (ha : a.length ≤ 1048576) (hb : b.length ≤ 1048576) (hlb : lowT b) (hv : SlI l h w v a) (hu : SlI l' h' w u b) :
    Calls Tryd.prog 52 #[v, u] w (RetV w (.bool q)) := he ▸ l3Weighs_c l h l' h' v u a b w ha hb hlb hv hu

set_option maxRecDepth 100000 in
set_option maxHeartbeats 400000 in
theorem l3Greater_c (l h l' h' : Nat) (v u : Value) (xs ys : List Int) (w : World) (ha : xs.length ≤ 1048576) (hb : ys.length ≤ 1048576) (hlb : lowT ys) (hv : SlI l h w v xs) (hu : SlI l' h' w u ys) :
    Calls Tryd.prog 73 #[v, u] w (RetV w (.bool (above xs ys))) := by
  have hv0 := hv
  have hu0 := hu
  obtain ⟨ad, cap, rfl, -, -, hr⟩ := hv
  obtain ⟨ad', cap', rfl, -, -, hr'⟩ := hu
  cases hc : covers xs ys with
  | false =>
    have E : Hid (above xs ys = false) := by show _ = _; simp [above, hc]
    have HC := Lib.hid (l3Weighs_v l h l' h' _ _ xs ys false w hc ha hb hlb hv0 hu0)
    clear hc hr hr'
    go_enter Tryd.func73, Tryd.ntmps73
    go_wp2_with fail
    refine HC.out.mono ?_; rintro e w1 ⟨rfl, hb1⟩
    go_wp2_with fail
    go_ret
    exact ⟨by rw [E.out]; rfl, hb1⟩
  | true =>
    have HC := Lib.hid (l3Weighs_v l h l' h' _ _ xs ys true w hc ha hb hlb hv0 hu0)
    rcases Nat.lt_trichotomy xs.length ys.length with hl | hl | hl
    · have E : Hid (above xs ys = false) := by show _ = _; rw [Bool.eq_false_iff, ne_eq, above_iff]; omega
      have d0 : decide (xs.length < ys.length) = true := by simp; omega
      clear hc hr hr'
      go_enter Tryd.func73, Tryd.ntmps73
      go_wp2_with fail
      refine HC.out.mono ?_; rintro e w1 ⟨rfl, hb1⟩
      go_wp2_with fail
      go_ret
      exact ⟨by rw [E.out]; rfl, hb1⟩
    · have E : Hid (above xs ys = winF xs ys) := by show _ = _; unfold above; simp [hc, hl]
      have d0 : decide (xs.length < ys.length) = false := by simp; omega
      have d1 : decide (ys.length < xs.length) = false := by simp; omega
      have HL := Lib.hid hl
      clear hc hl
      go_enter Tryd.func73, Tryd.ntmps73
      go_wp2_with fail
      refine HC.out.mono ?_; rintro e w1 ⟨rfl, hb1⟩
      go_wp2_with fail
      go_loopw [24] (fun i wr => ∃ k : Nat, k ≤ xs.length ∧ i = .int .i64 k ∧ xs.take k = ys.take k ∧ Bel w wr) (fun i _ => xs.length - (intOf i).toNat)
      case atStart => exact ⟨0, Nat.zero_le _, rfl, rfl, hb1⟩
      case round =>
        obtain ⟨k, hk, rfl, ha2, hb2⟩ := hrel
        by_cases hlt : k < xs.length
        · have hlt2 : k < ys.length := by rw [← HL.out]; exact hlt
          obtain ⟨b, off, rfl, -, hcell⟩ := rd hr hb2 k hlt
          obtain ⟨b', off', rfl, -, hcell'⟩ := rd hr' hb2 k hlt2
          have E1 := Lib.hid (take_eq_succ xs ys k hlt hlt2 ha2)
          have E2 := Lib.hid (winF_at ha2 hlt hlt2)
          clear hr hr' ha2 hv0 hu0
          generalize xs.getD k 0 = x at *
          generalize ys.getD k 0 = y at *
          by_cases hxy : x = y
          · have E3 := Lib.hid (E1.out hxy)
            clear E1 E2
            subst hxy
            go_wp2_with fail
            go_quiet (fail)
            go_wp2
            go_roundw
            case rel => exact ⟨k+1, by omega, by go_num, E3.out, hb2.drewN _⟩
            case measure => simp [intOf]; omega
          · have e1 := Lib.hid (E2.out hxy)
            have hxy' : (x != y) = true := by simpa using hxy
            clear hxy E1 E2
            by_cases hx0 : 0 ≤ x
            · have dx : decide (x ≥ 0) = true := by simpa using hx0
              by_cases h0 : 0 ≤ y
              · have d2 : decide (y ≥ 0) = true := by simpa using h0
                by_cases h1 : y < x
                · have d3 : decide (x > y) = true := by simpa using h1
                  have e2 : Hid (above xs ys = true) := by show _ = _; rw [E.out, e1.out]; simp [h0, h1]
                  clear e1
                  go_wp2_with fail
                  go_quiet (fail)
                  go_wp2
                  go_quiet (fail)
                  go_wp2
                  go_ret
                  exact ⟨by rw [e2.out]; rfl, (hb2.drewN _).drewN _⟩
                · have d3 : decide (x > y) = false := by simp; omega
                  have e2 : Hid (above xs ys = false) := by show _ = _; rw [E.out, e1.out]; simp [h1]
                  clear e1
                  go_wp2_with fail
                  go_quiet (fail)
                  go_wp2
                  go_quiet (fail)
                  go_wp2
                  go_ret
                  exact ⟨by rw [e2.out]; rfl, (hb2.drewN _).drewN _⟩
              · have d2 : decide (y ≥ 0) = false := by simp; omega
                have e2 : Hid (above xs ys = false) := by show _ = _; rw [E.out, e1.out]; simp [h0]
                clear e1
                go_wp2_with fail
                go_quiet (fail)
                go_wp2
                go_quiet (fail)
                go_wp2
                go_ret
                exact ⟨by rw [e2.out]; rfl, (hb2.drewN _).drewN _⟩
            · have dx : decide (x ≥ 0) = false := by simp; omega
              have e2 : Hid (above xs ys = false) := by show _ = _; rw [E.out, e1.out]; simp; omega
              clear e1
              go_wp2_with fail
              go_quiet (fail)
              go_wp2
              go_quiet (fail)
              go_wp2
              go_ret
              exact ⟨by rw [e2.out]; rfl, (hb2.drewN _).drewN _⟩
        · have e1 : Hid (above xs ys = false) := by
            show _ = _
            rw [List.take_of_length_le (by omega), List.take_of_length_le (by rw [← HL.out]; omega)] at ha2
            rw [E.out, ha2, winF_irrefl]
          clear ha2
          go_wp2_with fail
          go_ret
          exact ⟨by rw [e1.out]; rfl, hb2⟩
    · have E : Hid (above xs ys = true) := by show _ = _; rw [above_iff]; exact ⟨covers_iff.1 hc, .inl hl⟩
      have d0 : decide (xs.length < ys.length) = false := by simp; omega
      have d1 : decide (ys.length < xs.length) = true := by simp; omega
      clear hc hr hr'
      go_enter Tryd.func73, Tryd.ntmps73
      go_wp2_with fail
      refine HC.out.mono ?_; rintro e w1 ⟨rfl, hb1⟩
      go_wp2_with fail
      go_ret
      exact ⟨by rw [E.out]; rfl, hb1⟩
theorem l3Greater_v (l h l' h' : Nat) (v u : Value) (xs ys : List Int) (q : Bool) (w : World) (he : above xs ys = q) (ha : xs.length ≤ 1048576) (hb : ys.length ≤ 1048576) (hlb : lowT ys) (hv : SlI l h w v xs) (hu : SlI l' h' w u ys) :
    Calls Tryd.prog 73 #[v, u] w (RetV w (.bool q)) := he ▸ l3Greater_c l h l' h' v u xs ys w ha hb hlb hv hu
end Go.Proofs.YtkbgglejhdodoaaDoor
