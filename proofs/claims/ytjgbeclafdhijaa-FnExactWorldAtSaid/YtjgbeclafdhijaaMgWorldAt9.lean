/- Texts merged, part 9. -/
import Derived.Test.YtjgbeclafdhijaaMgWorldAt8
section
/- Chapter 5: CountWorlds, the program. -/
namespace Go.Proofs.Ytjgbeclafdhijaa
open Go.RowKit

theorem cw_succ' (sz : Int) (m : Nat) : (if (10000 : Int) < cwN sz m * sz then 10000 else cwN sz m * sz) = cwN sz (m+1) := by
  rw [cwN]; split <;> omega
theorem cw_succ (sz : Int) (m : Nat) : min (cwN sz m * sz) 10000 = cwN sz (m+1) := rfl

set_option maxRecDepth 100000 in
set_option maxHeartbeats 1000000 in
theorem iCountWorlds_t {l h : Nat} {v : Value} {ar : List Int} {sz : Int} {w : World} (ha : ar.length ≤ 1048576) (hv : SlI l h w v ar) (_ : -9223372036854775808 ≤ sz) (_ : sz ≤ 9223372036854775807) :
    Calls Try.prog 35 #[.agg #[v], .int .i64 sz] w (RetV w (.tuple #[.int .i64 (worldsAns ar sz), .bool (goodSign ar && inB sz 1 3)])) := by
  unfold worldsAns
  cases hq : (goodSign ar && inB sz 1 3) with
  | false =>
    rw [if_neg (by simp)]
    have HC := Lib.hid (fun (w' : World) (hb : Bel w w') => hasWorlds_v l h v ar sz false w' hq ha (hv.below hb)); clear hq
    go_enter Try.func35, Try.ntmps35
    go_wp2_with fail
    refine (HC.out _ (Bel.alloc0 _ _)).mono ?_; rintro e w1 ⟨rfl, hb1⟩
    go_wp2_with fail
    go_ret2
    exact ⟨rfl, hb1.of_alloc⟩
  | true =>
    rw [if_pos rfl]
    have HC := Lib.hid (fun (w' : World) (hb : Bel w w') => hasWorlds_v l h v ar sz true w' hq ha (hv.below hb))
    have hg : goodSign ar = true := by revert hq; cases goodSign ar <;> simp
    have h1 : inB sz 1 3 = true := by revert hq; cases inB sz 1 3 <;> simp
    obtain ⟨ad, cap, rfl, -, -, hr⟩ := hv
    have hlen := (sign_len ar hg).2
    obtain ⟨z1, z3⟩ : 1 ≤ sz ∧ sz ≤ 3 := by unfold inB at h1; simpa using h1
    obtain ⟨Z, rfl⟩ : ∃ Z : Nat, sz = (Z : Int) := ⟨sz.toNat, by omega⟩
    clear h1 hq
    go_enter Try.func35, Try.ntmps35
    go_wp2_with fail
    refine (HC.out _ (Bel.alloc0 _ _)).mono ?_; rintro e W ⟨rfl, hb1⟩
    have hbox := boxc hb1 0 _ rfl
    have hB := hb1.of_alloc
    clear HC hb1
    go_wp2_with fail
    go_loopw [6, 16] (fun n i wr => ∃ k : Nat, k ≤ ar.length ∧ i = .int .i64 k ∧ n = .int .i64 (cwN Z (sumW ar Z k)) ∧ Bel W wr) (fun _ i _ => ar.length - (intOf i).toNat)
    case atStart => exact ⟨0, Nat.zero_le _, rfl, rfl, Bel.rfl' _⟩
    case round =>
      obtain ⟨k, hk, rfl, rfl, hb⟩ := hrel
      by_cases hlt : k < ar.length
      · obtain ⟨b2, off2, rfl, hb2l, hc2⟩ := rd hr (hB.step hb) k hlt
        have h03 := ar_nonneg ar hg k
        obtain ⟨A, hA⟩ : ∃ A : Nat, ar.getD k 0 = (A : Int) := ⟨(ar.getD k 0).toNat, by omega⟩
        have HS : Hid (sumW ar Z (k+1) = sumW ar Z k + Z ^ A) := by show _ = _; rw [sumW_pos, hA]; rfl
        rw [hA] at hc2 h03
        have hA3 : A ≤ 3 := by omega
        have hL27 := pw_le (Z := Z) (by omega) hA3
        have HL := Lib.hid (fun (w' : World) => tableLength_c Z A w' (by omega) hA3)
        clear hA h03
        generalize Z ^ A = L at *
        go_wp2_with fail
        refine (HL.out _).mono ?_; rintro e w2 ⟨rfl, hb2⟩
        go_wp2_with fail
        go_loop [6, 23] (fun n i => ∃ d : Nat, d ≤ L ∧ i = .int .i64 d ∧ n = .int .i64 (cwN Z (sumW ar Z k + d))) (fun _ i => L - (intOf i).toNat)
        case atStart => exact ⟨0, Nat.zero_le _, rfl, rfl⟩
        case round =>
          obtain ⟨d, hd, rfl, rfl⟩ := hrel
          by_cases hdl : d < L
          · have hb := cwN_bd z1 (sumW ar Z k + d)
            have HST := Lib.hid (cw_succ Z (sumW ar Z k + d))
            have HST' := Lib.hid (cw_succ' Z (sumW ar Z k + d))
            generalize cwN Z (sumW ar Z k + d) = M at *
            have hmul : M * 1 ≤ M * (Z : Int) := Int.mul_le_mul_of_nonneg_left z1 (by omega)
            have hmul2 : M * (Z : Int) ≤ M * 3 := Int.mul_le_mul_of_nonneg_left z3 (by omega)
            have hw1 := IntWalk.i64_in (M * (Z : Int)) (by omega)
            clear hmul hmul2
            go_wp2_with fail
            go_round
            case rel => exact ⟨d+1, by omega, by go_num, by rw [← Nat.add_assoc]; first | exact congrArg (Value.int .i64) HST.out | exact congrArg (Value.int .i64) HST'.out⟩
            case measure => simp [intOf]; omega
          · obtain rfl : d = L := by omega
            have HST : Hid (cwN Z (sumW ar Z k + d) = cwN Z (sumW ar Z (k+1))) := by show _ = _; rw [HS.out]
            rw [HST.out]
            go_wp2_with fail
            go_roundw
            case rel => exact ⟨k+1, by omega, by go_num, rfl, hb.step hb2⟩
            case measure => simp [intOf]; omega
      · obtain rfl : k = ar.length := by omega
        go_wp2_with fail
        go_ret2
        exact ⟨rfl, hB.step hb⟩
end Go.Proofs.Ytjgbeclafdhijaa
end
section
/- Chapter 5, the program: the world of a number. -/
namespace Go.Proofs.Ytjgbeclafdhijaa
open Go.RowKit

theorem madeD (Z M L d : Nat) (h : d < L) : ((madeI (digN Z M L) d).map (Value.int .i64)).set d (.int .i64 (((M / Z ^ d : Nat) : Int) % (Z : Int))) = (madeI (digN Z M L) (d+1)).map (Value.int .i64) := by
  rw [← madeI_succ _ _ (by rw [digN_len]; exact h), digN_get Z M L d h, Int.natCast_emod]

set_option maxRecDepth 100000 in
set_option maxHeartbeats 2000000 in
theorem worldAt_c (l h : Nat) (v : Value) (ar : List Int) (Z N : Nat) (w : World) (hg : goodSign ar = true) (z1 : 1 ≤ Z) (z3 : Z ≤ 3) (hN : N ≤ 10000) (hv : SlI l h w v ar) :
    Calls Try.prog 36 #[.agg #[v], .int .i64 (Z : Int), .int .i64 (N : Int)] w (RetW w Z (tabN ar Z N ar.length)) := by
  obtain ⟨ad, cap, rfl, -, -, hr⟩ := hv
  have hlen := (sign_len ar hg).2
  obtain ⟨i0, hi0, hz0, hz1, hz2⟩ := info_parts Try.info3
  obtain ⟨j0, hj0, hy0, hy1, hy2⟩ := info_parts Try.info22
  go_enter Try.func36, Try.ntmps36
  go_wp2_with fail
  obtain ⟨W, hW⟩ : ∃ W, W = ((w.alloc (.cells #[.slice ad ar.length cap] 32)).alloc (.cells #[.int .i64 0, .slice none 0 0] 34)).alloc (.cells #[.int .i64 (Z : Int), .slice none 0 0] 34) := ⟨_, rfl⟩
  have hB : Bel w W := by rw [hW]; exact Bel.alloc3 _ _ _ _
  have zW : w.heap.size + 1 + 1 < W.heap.size := by rw [hW]; simp
  have kr : W.cell? ⟨w.heap.size + 1, 0, none⟩ = some (.int .i64 0) ∧ W.cell? ⟨w.heap.size + 1, 1, none⟩ = some (.slice none 0 0) ∧ ∀ i, W.frozen? ⟨w.heap.size + 1, i, none⟩ = false := by rw [hW]; simp [go_sem]
  have kb : W.cell? ⟨w.heap.size + 1 + 1, 0, none⟩ = some (.int .i64 (Z : Int)) ∧ W.cell? ⟨w.heap.size + 1 + 1, 1, none⟩ = some (.slice none 0 0) ∧ ∀ i, W.frozen? ⟨w.heap.size + 1 + 1, i, none⟩ = false := by rw [hW]; simp [go_sem]
  rw [← hW]
  clear hW
  have HKR := Lib.hid kr
  have HKB := Lib.hid kb
  clear kr kb
  go_loopw [2, 17] (fun no i wr => ∃ (k : Nat) (tv : Value), k ≤ ar.length ∧ i = .int .i64 k ∧ no = .int .i64 ((N / Z ^ sumW ar Z k : Nat) : Int) ∧ wr.cell? ⟨w.heap.size + 1 + 1, 0, none⟩ = some (.int .i64 (Z : Int)) ∧ wr.cell? ⟨w.heap.size + 1 + 1, 1, none⟩ = some tv ∧ wr.frozen? ⟨w.heap.size + 1 + 1, 1, none⟩ = false ∧ RowO (w.heap.size + 1 + 1 + 1) wr tv (tabN ar Z N k) ∧ Below (w.heap.size + 1 + 1) W wr) (fun _ i _ => ar.length - (intOf i).toNat)
  case atStart => exact ⟨0, _, Nat.zero_le _, rfl, by simp [sumW], HKB.out.1, HKB.out.2.1, HKB.out.2.2 1, RowO.nil _ _, Below.refl _ _⟩
  case round =>
    obtain ⟨k, tv, hk, rfl, rfl, hc0, hc1, hf1, hrow, hch⟩ := hrel
    have hBr : Bel w wr := hB.trans (hch.mono (by omega))
    have zr : w.heap.size + 1 + 1 < wr.heap.size := Nat.lt_of_lt_of_le zW hch.size
    by_cases hlt : k < ar.length
    · obtain ⟨b2, off2, rfl, hb2l, hc2⟩ := rd hr hBr k hlt
      have h03 := ar_nonneg ar hg k
      obtain ⟨A, hA⟩ : ∃ A : Nat, ar.getD k 0 = (A : Int) := ⟨(ar.getD k 0).toNat, by omega⟩
      have HS : Hid (sumW ar Z (k+1) = sumW ar Z k + Z ^ A) := by show _ = _; rw [sumW_pos, hA]; rfl
      have HTB : Hid (tabN ar Z N (k+1) = tabN ar Z N k ++ [digN Z (N / Z ^ sumW ar Z k) (Z ^ A)]) := by show _ = _; rw [tabN, hA]; rfl
      rw [hA] at hc2 h03
      have hA3 : A ≤ 3 := by omega
      have hL27 := pw_le (Z := Z) z3 hA3
      have HL := Lib.hid (fun (w' : World) => tableLength_c Z A w' z3 hA3)
      have hNN : N / Z ^ sumW ar Z k ≤ 10000 := Nat.le_trans (Nat.div_le_self _ _) hN
      have HDIV := Lib.hid (div_sum Z N (sumW ar Z k) (Z ^ A))
      have htl := Lib.hid (tabN_len ar Z N k)
      clear hA h03
      generalize Z ^ A = L at *
      generalize N / Z ^ sumW ar Z k = M at *
      generalize tabN ar Z N k = T at *
      go_wp2_with fail
      refine (HL.out _).mono ?_; rintro e w2 ⟨rfl, hb2⟩
      have hc0' := hb2.at zr hc0
      have hc1' := hb2.at zr hc1
      have hf1' := (hb2.frozen (p := ⟨w.heap.size + 1 + 1, 1, none⟩) zr).trans hf1
      have hrow2 := hrow.bel hb2
      have hdl := digN_len Z M L
      have hL0 : (0 : Int) ≤ (L : Int) := by omega
      go_wp2_with (at_make; refine wpList_make_full _ rfl _ _ 22 rfl w2.heap.size 3 i0 (.int .i64 0) 1 Try.underlying22 hi0 hz0 hz1 _ _ _ _ L rfl rfl rfl rfl (by rw [hz2]; omega) (by unfold maxLen; omega) (Nat.le_refl _) ?_; intro w3 hown hg3)
      have hown0 : w3.ownsRow w2.heap.size 3 1 (.slice (some ⟨w2.heap.size, 0, none⟩) L L) L ((madeI (digN Z M L) 0).map (Value.int .i64)) := by
        have h := madeI_0 (digN Z M L)
        rw [hdl] at h
        rw [← h]; exact hown
      have hb03 : Bel w2 w3 := (Bel.rfl' w2).grown hg3 (by simp)
      have HDL := Lib.hid hdl
      clear hown hg3 hdl
      go_loopw [2, 27] (fun no i wi => ∃ d : Nat, d ≤ L ∧ no = .int .i64 ((M / Z ^ d : Nat) : Int) ∧ i = .int .i64 d ∧ wi.ownsRow w2.heap.size 3 1 (.slice (some ⟨w2.heap.size, 0, none⟩) L L) L ((madeI (digN Z M L) d).map (Value.int .i64)) ∧ Bel w2 wi) (fun _ i _ => L - (intOf i).toNat)
      case atStart => exact ⟨0, Nat.zero_le _, by simp, rfl, hown0, hb03⟩
      case round =>
        obtain ⟨d, hd, rfl, rfl, hown, hbi⟩ := hrel
        by_cases hdl : d < L
        · have hdm : M / Z ^ d ≤ 10000 := Nat.le_trans (Nat.div_le_self _ _) hNN
          have HD2 := Lib.hid (div_step Z M d)
          obtain ⟨y, hcy⟩ := own_cell hown d (by rw [madeI_len _ _ (by rw [HDL.out]; omega), HDL.out]; exact hdl)
          have hst := hown.stored d (.int .i64 (((M / Z ^ d : Nat) : Int) % (Z : Int)))
          rw [madeD Z M L d hdl] at hst
          have hf2 := hown.frozenAt d
          have hbs := hbi.setCell (p := ⟨w2.heap.size, d, none⟩) (Nat.le_refl _) (.int .i64 (((M / Z ^ d : Nat) : Int) % (Z : Int)))
          generalize M / Z ^ d = Q at *
          have hZ0 : ((Z : Int) == 0) = false := beq_eq_false_iff_ne.2 (by omega)
          have HQ1 : Hid (((Q / Z : Nat) : Int) = (Q : Int) / (Z : Int)) := Int.natCast_ediv _ _
          have hw9 := IntWalk.i64_in ((Q : Int) / (Z : Int)) (by have h9 : Q / Z ≤ 10000 := Nat.le_trans (Nat.div_le_self _ _) hdm
                                                                 rw [← HQ1.out]; generalize Q / Z = y at h9 ⊢; omega)
          clear hown
          go_wp2_with fail
          go_roundw
          case rel => exact ⟨d+1, by omega, by rw [← HD2.out, HQ1.out], by go_num, hst.1, hbs⟩
          case measure => simp [intOf]; omega
        · obtain rfl : d = L := by omega
          rw [madeI_all _ _ (by rw [HDL.out]; omega)] at hown
          have hown : wr.ownsRow w2.heap.size 3 1 (.slice (some ⟨w2.heap.size, 0, none⟩) d d) (digN Z M d).length ((digN Z M d).map (Value.int .i64)) := by rw [HDL.out]; exact hown
          have HMD : Hid (M / Z ^ d = N / Z ^ sumW ar Z (k+1)) := by show _ = _; rw [HS.out]; exact HDIV.out
          have hmd : M / Z ^ d ≤ 10000 := Nat.le_trans (Nat.div_le_self _ _) hNN
          generalize M / Z ^ d = Q at *
          generalize digN Z M d = D at *
          have hoI : OwnI w2.heap.size wr.heap.size wr (.slice (some ⟨w2.heap.size, 0, none⟩) d d) D := OwnI.of_row hown
          have zi := hbi.size
          have z2 := hb2.size
          have hd0 := hbi.at (Nat.lt_of_lt_of_le zr z2) hc0'
          have hd1 := hbi.at (Nat.lt_of_lt_of_le zr z2) hc1'
          have hdf := (hbi.frozen (p := ⟨w.heap.size + 1 + 1, 1, none⟩) (Nat.lt_of_lt_of_le zr z2)).trans hf1'
          obtain ⟨us, hown2, hul, hnext⟩ := hrow2.step hbi (Bel.alloc0 wr (.cells #[.slice (some ⟨w2.heap.size, 0, none⟩) d d] 22)) hoI (by omega)
          have HNX := Lib.hid hnext
          have hul2 : us.length ≤ 10 := by have := htl.out; omega
          clear hul
          obtain ⟨atv, ctv, htv⟩ := hrow2.form
          subst htv
          have HFR := Lib.hid ((hch.trans (hb2.mono (by omega))).trans (hbi.mono (by omega)))
          clear hown hoI hnext hrow2 hrow
          go_wp2_with (at_builtin; refine wpList_append_own_at _ rfl _ _ 25 rfl (w.heap.size + 1 + 1 + 1) 22 j0 (.slice none 0 0) 1 24 Try.underlying25 hj0 hy0 hy1 hy2 rfl (by decide) _ _ _ rfl hown2 _ _ _ [.slice (some ⟨w2.heap.size, 0, none⟩) d d] rfl rfl (news_oneV _ _ _) (one_slice _ _ _) (by unfold maxLen; omega) (by omega) (by simp; omega) ?_; intro v' w4 hown' hgrow _ hat; have hR5 := HNX.out w4 v' hown' hgrow hat; obtain ⟨av9, cv9, hvv⟩ := hR5.form; subst hvv; have hbase := own_base hown2; have HB5 : Below (w.heap.size + 1 + 1 + 1) wr w4 := ((Below.refl (w.heap.size + 1 + 1 + 1) wr).alloc (by omega) _).grown hgrow (by simp; omega) hbase; have hx0 := (HB5.cell (p := ⟨w.heap.size + 1 + 1, 0, none⟩) (Nat.lt_succ_self _)).trans hd0; have hx1 := (HB5.cell (p := ⟨w.heap.size + 1 + 1, 1, none⟩) (Nat.lt_succ_self _)).trans hd1; have hxf := (HB5.frozen (p := ⟨w.heap.size + 1 + 1, 1, none⟩) (Nat.lt_succ_self _)).trans hdf)
          go_roundw
          case rel =>
            refine ⟨k+1, _, by omega, by go_num, by rw [HMD.out], ?_, World.cell?_setCell_same _ _ _ hx1, by rw [World.frozen?_setCell]; exact hxf, ?_, Below.setCell (HFR.out.trans (HB5.mono (by omega))) (Nat.le_refl _) _⟩
            · rw [World.cell?_setCell_other (h := by intro h; simp at h)]; exact hx0
            · have h9 := hR5.cur (b := w.heap.size + 1 + 1) (Nat.lt_succ_self _) (Chg.set (p := ⟨w.heap.size + 1 + 1, 1, none⟩) w4 (Nat.le_refl _) (Nat.lt_succ_self _) (.slice av9 (T ++ [D]).length cv9))
              rw [HTB.out]
              simp only [List.length_append, List.length_cons, List.length_nil, Nat.zero_add] at h9
              exact h9
          case measure => simp [intOf]; omega
    · obtain rfl : k = ar.length := by omega
      obtain ⟨atv, ctv, htv⟩ := hrow.form
      subst htv
      have hr0 := (hch.cell (p := ⟨w.heap.size + 1, 0, none⟩) (Nat.lt_succ_self _)).trans HKR.out.1
      have hr1 := (hch.cell (p := ⟨w.heap.size + 1, 1, none⟩) (Nat.lt_succ_self _)).trans HKR.out.2.1
      have hrf := fun i => (hch.frozen (p := ⟨w.heap.size + 1, i, none⟩) (Nat.lt_succ_self _)).trans (HKR.out.2.2 i)
      have hoS := hrow.own
      go_wp2_with fail
      refine bodyPost_ret (v := .agg #[.int .i64 (Z : Int), .slice atv (tabN ar Z N ar.length).length ctv]) (by simp [results, Try.results36, go_sem, hr0, hr1]) rfl ⟨_, _, _, rfl, ?_, ?_⟩
      · exact ((hoS.set (p := ⟨w.heap.size + 1, 0, none⟩) (.inl (by simp)) _).set (p := ⟨w.heap.size + 1, 1, none⟩) (.inl (by simp)) _).mono (by omega) (by simp)
      · exact (hBr.set (p := ⟨w.heap.size + 1, 0, none⟩) (by simp) _).set (p := ⟨w.heap.size + 1, 1, none⟩) (by simp) _
end Go.Proofs.Ytjgbeclafdhijaa
end
section
/- Chapter 5: WorldAt, both functions. -/
namespace Go.Proofs.Ytjgbeclafdhijaa
open Go.RowKit

def worldAtOk (ar : List Int) (sz no : Int) : Bool := (goodSign ar && inB sz 1 3) && (decide (worldsAns ar sz ≠ 10000) && inB no 0 (worldsAns ar sz - 1))
def worldAtZ (ar : List Int) (sz no : Int) : Int := if worldAtOk ar sz no then sz else 0
def worldAtT (ar : List Int) (sz no : Int) : List (List Int) := if worldAtOk ar sz no then tabN ar sz.toNat no.toNat ar.length else []
theorem worldAtT_tot (ar : List Int) (sz no : Int) : tot (worldAtT ar sz no) ≤ 1048576 := by
  unfold worldAtT
  split
  · rename_i h
    unfold worldAtOk at h
    simp only [Bool.and_eq_true] at h
    obtain ⟨⟨hg, hs⟩, _⟩ := h
    have hlen := (sign_len ar hg).2
    have hs2 : 1 ≤ sz ∧ sz ≤ 3 := by unfold inB at hs; simpa using hs
    have := tabN_tot ar sz.toNat no.toNat (fun k => longW_le (by omega) (ar_nonneg ar hg k).2) ar.length
    omega
  · simp [tot, sumL]
theorem worlds_le (ar : List Int) (sz : Int) (h : 1 ≤ sz) : worldsAns ar sz ≤ 10000 := by
  unfold worldsAns
  split
  · exact (cwN_bd h _).2
  · omega

set_option maxRecDepth 100000 in
set_option maxHeartbeats 1000000 in
theorem sWorldAt_t {l h : Nat} {v : Value} {ar : List Int} {sz no : Int} {w : World} (ha : ar.length ≤ 1048576) (hv : SlI l h w v ar) (b1 : -9223372036854775808 ≤ sz) (b2 : sz ≤ 9223372036854775807) (b3 : -9223372036854775808 ≤ no) (b4 : no ≤ 9223372036854775807) :
    Calls Try.prog 15 #[.agg #[v], .int .i64 sz, .int .i64 no] w (RetWB w (worldAtZ ar sz no) (worldAtT ar sz no) (worldAtOk ar sz no)) := by
  have HB : Bel w ((w.alloc (.cells #[v] 32)).alloc (.cells #[.int .i64 0, .slice none 0 0] 34)) := Bel.alloc2 _ _ _
  have HC := Lib.hid (fun (w' : World) (hb : Bel w w') => sCountWorlds_t (sz := sz) ha (hv.below hb) b1 b2)
  have KX : Hid (∀ w', Bel ((w.alloc (.cells #[v] 32)).alloc (.cells #[.int .i64 0, .slice none 0 0] 34)) w' → w'.cell? ⟨w.heap.size, 0, none⟩ = some v ∧ w'.cell? ⟨w.heap.size + 1, 0, none⟩ = some (.int .i64 0) ∧ w'.cell? ⟨w.heap.size + 1, 1, none⟩ = some (.slice none 0 0) ∧ w.heap.size + 1 < w'.heap.size ∧ ∀ i, w'.frozen? ⟨w.heap.size + 1, i, none⟩ = false) := fun w' hq =>
    ⟨hq.at (by simp; omega) (by simp [go_sem]), hq.at (by simp) (by simp [go_sem]), hq.at (by simp) (by simp [go_sem]), by have := hq.size; simp at this; omega, fun i => (hq.frozen (p := ⟨w.heap.size + 1, i, none⟩) (by simp)).trans (by simp [go_sem])⟩
  have HNO : ∀ w', Bel w w' → Bel w ((w'.setCell ⟨w.heap.size + 1, 0, none⟩ (.int .i64 0)).setCell ⟨w.heap.size + 1, 1, none⟩ (.slice none 0 0)) := fun w' hb => (hb.set (p := ⟨w.heap.size + 1, 0, none⟩) (by simp) _).set (p := ⟨w.heap.size + 1, 1, none⟩) (by simp) _
  have HNO := Lib.hid HNO
  cases hq : (goodSign ar && inB sz 1 3) with
  | false =>
    have E : Hid (worldAtOk ar sz no = false) := by show _ = _; unfold worldAtOk; rw [hq]; rfl
    rw [hq] at HC
    unfold worldAtZ worldAtT
    rw [E.out, if_neg (by simp), if_neg (by simp)]
    generalize worldsAns ar sz = m at *
    clear hq
    go_enter Try.func15, Try.ntmps15
    go_wp2_with fail
    refine (HC.out _ HB).mono ?_; rintro e w1 ⟨rfl, hb1⟩
    obtain ⟨x0, x1, x2, x3, x4⟩ := KX.out _ hb1
    go_wp2_with fail
    refine bodyPost_ret (v := .tuple #[.agg #[.int .i64 0, .slice none 0 0], .bool false]) (by simp [results, Try.results15, go_sem, x1, x2]) rfl ⟨_, _, _, rfl, OwnS.nil _ _ _, HNO.out _ (HB.step hb1)⟩
  | true =>
    have hg : goodSign ar = true := by revert hq; cases goodSign ar <;> simp
    have h1 : inB sz 1 3 = true := by revert hq; cases inB sz 1 3 <;> simp
    obtain ⟨z1, z3⟩ : 1 ≤ sz ∧ sz ≤ 3 := by unfold inB at h1; simpa using h1
    have hm := worlds_le ar sz z1
    have hm0 : 0 ≤ worldsAns ar sz := by unfold worldsAns; rw [hq, if_pos rfl]; exact Int.le_trans (by decide) (cwN_bd z1 _).1
    rw [hq] at HC
    have EOK : worldAtOk ar sz no = (decide (worldsAns ar sz ≠ 10000) && inB no 0 (worldsAns ar sz - 1)) := by unfold worldAtOk; rw [hq]; rfl
    by_cases ht : worldsAns ar sz = 10000
    · have E : Hid (worldAtOk ar sz no = false) := by show _ = _; rw [EOK, ht]; rfl
      unfold worldAtZ worldAtT
      rw [E.out, if_neg (by simp), if_neg (by simp)]
      rw [ht] at HC
      clear hq EOK ht hm hm0
      go_enter Try.func15, Try.ntmps15
      go_wp2_with fail
      refine (HC.out _ HB).mono ?_; rintro e w1 ⟨rfl, hb1⟩
      obtain ⟨x0, x1, x2, x3, x4⟩ := KX.out _ hb1
      go_wp2_with fail
      refine bodyPost_ret (v := .tuple #[.agg #[.int .i64 0, .slice none 0 0], .bool false]) (by simp [results, Try.results15, go_sem, x1, x2]) rfl ⟨_, _, _, rfl, OwnS.nil _ _ _, HNO.out _ (HB.step hb1)⟩
    · have hne : (worldsAns ar sz == 10000) = false := beq_eq_false_iff_ne.2 ht
      have hw1 := IntWalk.i64_in (worldsAns ar sz - 1) (by omega)
      cases hp : inB no 0 (worldsAns ar sz - 1) with
      | false =>
        have E : Hid (worldAtOk ar sz no = false) := by show _ = _; rw [EOK, hp, Bool.and_false]
        unfold worldAtZ worldAtT
        rw [E.out, if_neg (by simp), if_neg (by simp)]
        have HP := Lib.hid hp
        clear hq EOK ht hp
        generalize worldsAns ar sz = m at *
        go_enter Try.func15, Try.ntmps15
        go_wp2_with fail
        refine (HC.out _ HB).mono ?_; rintro e w1 ⟨rfl, hb1⟩
        obtain ⟨x0, x1, x2, x3, x4⟩ := KX.out _ hb1
        go_wp2_with fail
        refine (l1In_qv _ _ _ _ HP.out _).mono ?_; rintro e w2 ⟨rfl, rfl⟩
        go_wp2_with fail
        refine bodyPost_ret (v := .tuple #[.agg #[.int .i64 0, .slice none 0 0], .bool false]) (by simp [results, Try.results15, go_sem, x1, x2]) rfl ⟨_, _, _, rfl, OwnS.nil _ _ _, HNO.out _ (HB.step hb1)⟩
      | true =>
        have E : Hid (worldAtOk ar sz no = true) := by show _ = _; rw [EOK, hp, Bool.and_true, decide_eq_true ht]
        unfold worldAtZ worldAtT
        rw [E.out, if_pos rfl, if_pos rfl]
        have hp2 : 0 ≤ no ∧ no ≤ worldsAns ar sz - 1 := by unfold inB at hp; simpa using hp
        obtain ⟨Z, rfl⟩ : ∃ Z : Nat, sz = (Z : Int) := ⟨sz.toNat, by omega⟩
        obtain ⟨N, rfl⟩ : ∃ N : Nat, no = (N : Int) := ⟨no.toNat, by omega⟩
        have HP := Lib.hid hp
        have HD := Lib.hid (fun (w' : World) (hb : Bel w w') => l5WorldAt_c l h v ar Z N w' hg (by omega) (by omega) (by omega) (hv.below hb))
        rw [Int.toNat_natCast, Int.toNat_natCast]
        clear hq EOK ht hp
        generalize worldsAns ar Z = m at *
        generalize tabN ar Z N ar.length = T at *
        go_enter Try.func15, Try.ntmps15
        go_wp2_with fail
        refine (HC.out _ HB).mono ?_; rintro e w1 ⟨rfl, hb1⟩
        obtain ⟨x0, x1, x2, x3, x4⟩ := KX.out _ hb1
        go_wp2_with fail
        refine (l1In_qv _ _ _ _ HP.out _).mono ?_; rintro e w2 ⟨rfl, rfl⟩
        go_wp2_with fail
        refine (HD.out _ (HB.step hb1)).mono ?_; rintro e w3 ⟨a3, n3, c3, rfl, o3, hb3⟩
        obtain ⟨y0, y1, y2, y3, y4⟩ := KX.out _ (hb1.step hb3)
        have hz1 := hb1.size
        simp only [World.size_alloc] at hz1
        go_wp2_with fail
        refine bodyPost_ret (v := .tuple #[.agg #[.int .i64 (Z : Int), .slice a3 n3 c3], .bool true]) (by simp [results, Try.results15, go_sem, y1, y2]) rfl ⟨_, _, _, rfl, ?_, ?_⟩
        · exact ((o3.set (p := ⟨w.heap.size + 1, 0, none⟩) (.inl x3) _).set (p := ⟨w.heap.size + 1, 1, none⟩) (.inl x3) _).mono (by omega) (by simp)
        · exact ((HB.step (hb1.step hb3)).set (p := ⟨w.heap.size + 1, 0, none⟩) (by simp) _).set (p := ⟨w.heap.size + 1, 1, none⟩) (by simp) _
end Go.Proofs.Ytjgbeclafdhijaa
end
section
/- Chapter 5: WorldAt, the program. -/
namespace Go.Proofs.Ytjgbeclafdhijaa
open Go.RowKit

set_option maxRecDepth 100000 in
set_option maxHeartbeats 1000000 in
theorem iWorldAt_t {l h : Nat} {v : Value} {ar : List Int} {sz no : Int} {w : World} (ha : ar.length ≤ 1048576) (hv : SlI l h w v ar) (b1 : -9223372036854775808 ≤ sz) (b2 : sz ≤ 9223372036854775807) (b3 : -9223372036854775808 ≤ no) (b4 : no ≤ 9223372036854775807) :
    Calls Try.prog 16 #[.agg #[v], .int .i64 sz, .int .i64 no] w (RetWB w (worldAtZ ar sz no) (worldAtT ar sz no) (worldAtOk ar sz no)) := by
  have HB : Bel w ((w.alloc (.cells #[v] 32)).alloc (.cells #[.int .i64 0, .slice none 0 0] 34)) := Bel.alloc2 _ _ _
  have HC := Lib.hid (fun (w' : World) (hb : Bel w w') => iCountWorlds_t (sz := sz) ha (hv.below hb) b1 b2)
  have KX : Hid (∀ w', Bel ((w.alloc (.cells #[v] 32)).alloc (.cells #[.int .i64 0, .slice none 0 0] 34)) w' → w'.cell? ⟨w.heap.size, 0, none⟩ = some v ∧ w'.cell? ⟨w.heap.size + 1, 0, none⟩ = some (.int .i64 0) ∧ w'.cell? ⟨w.heap.size + 1, 1, none⟩ = some (.slice none 0 0) ∧ w.heap.size + 1 < w'.heap.size ∧ ∀ i, w'.frozen? ⟨w.heap.size + 1, i, none⟩ = false) := fun w' hq =>
    ⟨hq.at (by simp; omega) (by simp [go_sem]), hq.at (by simp) (by simp [go_sem]), hq.at (by simp) (by simp [go_sem]), by have := hq.size; simp at this; omega, fun i => (hq.frozen (p := ⟨w.heap.size + 1, i, none⟩) (by simp)).trans (by simp [go_sem])⟩
  have HNO : ∀ w', Bel w w' → Bel w ((w'.setCell ⟨w.heap.size + 1, 0, none⟩ (.int .i64 0)).setCell ⟨w.heap.size + 1, 1, none⟩ (.slice none 0 0)) := fun w' hb => (hb.set (p := ⟨w.heap.size + 1, 0, none⟩) (by simp) _).set (p := ⟨w.heap.size + 1, 1, none⟩) (by simp) _
  have HNO := Lib.hid HNO
  cases hq : (goodSign ar && inB sz 1 3) with
  | false =>
    have E : Hid (worldAtOk ar sz no = false) := by show _ = _; unfold worldAtOk; rw [hq]; rfl
    rw [hq] at HC
    unfold worldAtZ worldAtT
    rw [E.out, if_neg (by simp), if_neg (by simp)]
    generalize worldsAns ar sz = m at *
    clear hq
    go_enter Try.func16, Try.ntmps16
    go_wp2_with fail
    refine (HC.out _ HB).mono ?_; rintro e w1 ⟨rfl, hb1⟩
    obtain ⟨x0, x1, x2, x3, x4⟩ := KX.out _ hb1
    go_wp2_with fail
    refine bodyPost_ret (v := .tuple #[.agg #[.int .i64 0, .slice none 0 0], .bool false]) (by simp [results, Try.results16, go_sem, x1, x2]) rfl ⟨_, _, _, rfl, OwnS.nil _ _ _, HNO.out _ (HB.step hb1)⟩
  | true =>
    have hg : goodSign ar = true := by revert hq; cases goodSign ar <;> simp
    have h1 : inB sz 1 3 = true := by revert hq; cases inB sz 1 3 <;> simp
    obtain ⟨z1, z3⟩ : 1 ≤ sz ∧ sz ≤ 3 := by unfold inB at h1; simpa using h1
    have hm := worlds_le ar sz z1
    have hm0 : 0 ≤ worldsAns ar sz := by unfold worldsAns; rw [hq, if_pos rfl]; exact Int.le_trans (by decide) (cwN_bd z1 _).1
    rw [hq] at HC
    have EOK : worldAtOk ar sz no = (decide (worldsAns ar sz ≠ 10000) && inB no 0 (worldsAns ar sz - 1)) := by unfold worldAtOk; rw [hq]; rfl
    by_cases ht : worldsAns ar sz = 10000
    · have E : Hid (worldAtOk ar sz no = false) := by show _ = _; rw [EOK, ht]; rfl
      unfold worldAtZ worldAtT
      rw [E.out, if_neg (by simp), if_neg (by simp)]
      rw [ht] at HC
      clear hq EOK ht hm hm0
      go_enter Try.func16, Try.ntmps16
      go_wp2_with fail
      refine (HC.out _ HB).mono ?_; rintro e w1 ⟨rfl, hb1⟩
      obtain ⟨x0, x1, x2, x3, x4⟩ := KX.out _ hb1
      go_wp2_with fail
      refine bodyPost_ret (v := .tuple #[.agg #[.int .i64 0, .slice none 0 0], .bool false]) (by simp [results, Try.results16, go_sem, x1, x2]) rfl ⟨_, _, _, rfl, OwnS.nil _ _ _, HNO.out _ (HB.step hb1)⟩
    · have hlt : worldsAns ar sz < 10000 := by omega
      cases hp : inB no 0 (worldsAns ar sz - 1) with
      | false =>
        have E : Hid (worldAtOk ar sz no = false) := by show _ = _; rw [EOK, hp, Bool.and_false]
        unfold worldAtZ worldAtT
        rw [E.out, if_neg (by simp), if_neg (by simp)]
        clear hq EOK ht
        have hp3 : no < 0 ∨ (0 ≤ no ∧ worldsAns ar sz ≤ no) := by
          unfold inB at hp
          simp only [Bool.and_eq_false_iff, decide_eq_false_iff_not] at hp
          omega
        clear hp
        generalize worldsAns ar sz = m at *
        rcases hp3 with hp4 | ⟨hp4, hp5⟩
        all_goals
          go_enter Try.func16, Try.ntmps16
          go_wp2_with fail
          refine (HC.out _ HB).mono ?_; rintro e w1 ⟨rfl, hb1⟩
          obtain ⟨x0, x1, x2, x3, x4⟩ := KX.out _ hb1
          go_wp2_with fail
          refine bodyPost_ret (v := .tuple #[.agg #[.int .i64 0, .slice none 0 0], .bool false]) (by simp [results, Try.results16, go_sem, x1, x2]) rfl ⟨_, _, _, rfl, OwnS.nil _ _ _, HNO.out _ (HB.step hb1)⟩
      | true =>
        have E : Hid (worldAtOk ar sz no = true) := by show _ = _; rw [EOK, hp, Bool.and_true, decide_eq_true ht]
        unfold worldAtZ worldAtT
        rw [E.out, if_pos rfl, if_pos rfl]
        have hp2 : 0 ≤ no ∧ no ≤ worldsAns ar sz - 1 := by unfold inB at hp; simpa using hp
        obtain ⟨Z, rfl⟩ : ∃ Z : Nat, sz = (Z : Int) := ⟨sz.toNat, by omega⟩
        obtain ⟨N, rfl⟩ : ∃ N : Nat, no = (N : Int) := ⟨no.toNat, by omega⟩
        have HD := Lib.hid (fun (w' : World) (hb : Bel w w') => worldAt_c l h v ar Z N w' hg (by omega) (by omega) (by omega) (hv.below hb))
        rw [Int.toNat_natCast, Int.toNat_natCast]
        clear hq EOK ht hp
        generalize worldsAns ar Z = m at *
        generalize tabN ar Z N ar.length = T at *
        go_enter Try.func16, Try.ntmps16
        go_wp2_with fail
        refine (HC.out _ HB).mono ?_; rintro e w1 ⟨rfl, hb1⟩
        obtain ⟨x0, x1, x2, x3, x4⟩ := KX.out _ hb1
        go_wp2_with fail
        refine (HD.out _ (HB.step hb1)).mono ?_; rintro e w3 ⟨a3, n3, c3, rfl, o3, hb3⟩
        obtain ⟨y0, y1, y2, y3, y4⟩ := KX.out _ (hb1.step hb3)
        have hz1 := hb1.size
        simp only [World.size_alloc] at hz1
        go_wp2_with fail
        refine bodyPost_ret (v := .tuple #[.agg #[.int .i64 (Z : Int), .slice a3 n3 c3], .bool true]) (by simp [results, Try.results16, go_sem, y1, y2]) rfl ⟨_, _, _, rfl, ?_, ?_⟩
        · exact ((o3.set (p := ⟨w.heap.size + 1, 0, none⟩) (.inl x3) _).set (p := ⟨w.heap.size + 1, 1, none⟩) (.inl x3) _).mono (by omega) (by simp)
        · exact ((HB.step (hb1.step hb3)).set (p := ⟨w.heap.size + 1, 0, none⟩) (by simp) _).set (p := ⟨w.heap.size + 1, 1, none⟩) (by simp) _
end Go.Proofs.Ytjgbeclafdhijaa
end
