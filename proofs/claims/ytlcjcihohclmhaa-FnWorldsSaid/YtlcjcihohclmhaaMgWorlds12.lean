/- Texts merged, part 12. -/
import Derived.Test.YtlcjcihohclmhaaMgWorlds11
section
/- A law's helpers for worlds: sizes, copies, marks. -/
namespace Go.Proofs.Ytlcjcihohclmhaa
open Go.RowKit

theorem cell_ko {w : World} {b off : Nat} {v : Value} (h : b < w.heap.size ∧ w.cell? ⟨b, off, none⟩ = some v) : K (fun w => b < w.heap.size ∧ w.cell? ⟨b, off, none⟩ = some v) w :=
  fun _ hb => ⟨Nat.lt_of_lt_of_le h.1 hb.size, hb.at h.1 h.2⟩
theorem boxk1 {w w' : World} {cs : Array Value} {t : TypeId} (hb : Bel (w.alloc (.cells cs t)) w') (v : Value) (hv : cs[1]? = some v) : w.heap.size < w'.heap.size ∧ w'.cell? ⟨w.heap.size, 1, none⟩ = some v :=
  ⟨by have := hb.size; simp at this; omega, boxc hb 1 v hv⟩
theorem boxk2 {w w' : World} {o : Obj} {cs : Array Value} {t : TypeId} (hb : Bel ((w.alloc o).alloc (.cells cs t)) w') (i : Nat) (v : Value) (hv : cs[i]? = some v) : w.heap.size + 1 < w'.heap.size ∧ w'.cell? ⟨w.heap.size + 1, i, none⟩ = some v :=
  ⟨by have := hb.size; simp at this; omega, by have := boxc hb i v hv; simpa using this⟩

/-- A world of the call's own. -/
def RetW (w : World) (z : Int) (tb : List (List Int)) (e : Ending) (w' : World) : Prop := ∃ ad n c, e = .returned (.agg #[.int .i64 z, .slice ad n c]) ∧ OwnS w.heap.size w'.heap.size w' (.slice ad n c) tb ∧ Bel w w'
def RetWB (w : World) (z : Int) (tb : List (List Int)) (ok : Bool) (e : Ending) (w' : World) : Prop := ∃ ad n c, e = .returned (.tuple #[.agg #[.int .i64 z, .slice ad n c], .bool ok]) ∧ OwnS w.heap.size w'.heap.size w' (.slice ad n c) tb ∧ Bel w w'
theorem OwnS.set {lo hi w v xss} (h : OwnS lo hi w v xss) {p : Addr} (hp : p.block < lo ∨ hi ≤ p.block) (u : Value) : OwnS lo hi (w.setCell p u) v xss :=
  h.same fun b h1 h2 _ => Below.heap_setCell w p u b (by omega)

end Go.Proofs.Ytlcjcihohclmhaa
end
section
/- Chapter 5, the reference: the world of a number. -/
namespace Go.Proofs.Ytlcjcihohclmhaa
open Go.RowKit

set_option maxRecDepth 100000 in
set_option maxHeartbeats 2000000 in
theorem l5WorldAt_c (l h : Nat) (v : Value) (ar : List Int) (Z N : Nat) (w : World) (hg : goodSign ar = true) (z1 : 1 ≤ Z) (z3 : Z ≤ 3) (hN : N ≤ 10000) (hv : SlI l h w v ar) :
    Calls Try.prog 42 #[.agg #[v], .int .i64 (Z : Int), .int .i64 (N : Int)] w (RetW w Z (tabN ar Z N ar.length)) := by
  obtain ⟨ad, cap, rfl, -, -, hr⟩ := hv
  have hlen := (sign_len ar hg).2
  obtain ⟨i0, hi0, hz0, hz1, hz2⟩ := info_parts Try.info3
  obtain ⟨j0, hj0, hy0, hy1, hy2⟩ := info_parts Try.info24
  go_enter Try.func42, Try.ntmps42
  go_wp2_with fail
  obtain ⟨W, hW⟩ : ∃ W, W = ((w.alloc (.cells #[.slice ad ar.length cap] 26)).alloc (.cells #[.int .i64 0, .slice none 0 0] 29)).alloc (.cells #[.int .i64 (Z : Int), .slice none 0 0] 29) := ⟨_, rfl⟩
  have hB : Bel w W := by rw [hW]; exact Bel.alloc3 _ _ _ _
  have zW : w.heap.size + 1 + 1 < W.heap.size := by rw [hW]; simp
  have kr : W.cell? ⟨w.heap.size + 1, 0, none⟩ = some (.int .i64 0) ∧ W.cell? ⟨w.heap.size + 1, 1, none⟩ = some (.slice none 0 0) ∧ ∀ i, W.frozen? ⟨w.heap.size + 1, i, none⟩ = false := by rw [hW]; simp [go_sem]
  have kb : W.cell? ⟨w.heap.size + 1 + 1, 0, none⟩ = some (.int .i64 (Z : Int)) ∧ W.cell? ⟨w.heap.size + 1 + 1, 1, none⟩ = some (.slice none 0 0) ∧ ∀ i, W.frozen? ⟨w.heap.size + 1 + 1, i, none⟩ = false := by rw [hW]; simp [go_sem]
  rw [← hW]
  clear hW
  have HKR := Lib.hid kr
  have HKB := Lib.hid kb
  clear kr kb
  go_loopw [2, 17] (fun no i wr => ∃ (k : Nat) (tv : Value), k ≤ ar.length ∧ i = .int .i64 k ∧ no = .int .i64 ((N / Z ^ sumW ar Z k : Nat) : Int) ∧ wr.cell? ⟨w.heap.size + 1 + 1, 0, none⟩ = some (.int .i64 (Z : Int)) ∧ wr.cell? ⟨w.heap.size + 1 + 1, 1, none⟩ = some tv ∧ wr.frozen? ⟨w.heap.size + 1 + 1, 1, none⟩ = false ∧ RowO (w.heap.size + 1 + 1 + 1) wr tv (tabN ar Z N k) ∧ Below (w.heap.size + 1 + 1) W wr) (fun _ i _ => ar.length - (intOf i).toNat)
  case atStart => exact ⟨0, _, Nat.zero_le _, rfl, by simp [sumW], HKB.out.1, HKB.out.2.1, HKB.out.2.2 1, RowO.nil _ _, Below.refl _ _⟩
  case round =>
    obtain ⟨k, tv, hk, rfl, rfl, hc0, hc1, hf1, hrow, hch⟩ := hrel
    have hBr : Bel w wr := hB.trans (hch.mono (by omega))
    have zr : w.heap.size + 1 + 1 < wr.heap.size := Nat.lt_of_lt_of_le zW hch.size
    by_cases hlt : k < ar.length
    · obtain ⟨b2, off2, rfl, hb2l, hc2⟩ := rd hr hBr k hlt
      have h03 := ar_nonneg ar hg k
      obtain ⟨A, hA⟩ : ∃ A : Nat, ar.getD k 0 = (A : Int) := ⟨(ar.getD k 0).toNat, by omega⟩
      have HS : Hid (sumW ar Z (k+1) = sumW ar Z k + Z ^ A) := by show _ = _; rw [sumW_pos, hA]; rfl
      have HTB : Hid (tabN ar Z N (k+1) = tabN ar Z N k ++ [digN Z (N / Z ^ sumW ar Z k) (Z ^ A)]) := by show _ = _; rw [tabN, hA]; rfl
      rw [hA] at hc2 h03
      have hA3 : A ≤ 3 := by omega
      have hL27 := pw_le (Z := Z) z3 hA3
      have HL := Lib.hid (fun (w' : World) => l5Long_c Z A w' z3 hA3)
      have hNN : N / Z ^ sumW ar Z k ≤ 10000 := Nat.le_trans (Nat.div_le_self _ _) hN
      have HDIV := Lib.hid (div_sum Z N (sumW ar Z k) (Z ^ A))
      have htl := Lib.hid (tabN_len ar Z N k)
      clear hA h03
      generalize Z ^ A = L at *
      generalize N / Z ^ sumW ar Z k = M at *
      generalize tabN ar Z N k = T at *
      go_wp2_with fail
      refine (HL.out _).mono ?_; rintro e w2 ⟨rfl, hb2⟩
      have hc0' := hb2.at zr hc0
      have hc1' := hb2.at zr hc1
      have hf1' := (hb2.frozen (p := ⟨w.heap.size + 1 + 1, 1, none⟩) zr).trans hf1
      have hrow2 := hrow.bel hb2
      go_wp2_with fail
      go_loopw [2, 10, 11] (fun no t kk wi => ∃ d : Nat, d ≤ L ∧ no = .int .i64 ((M / Z ^ d : Nat) : Int) ∧ kk = .int .i64 ((L - d : Nat) : Int) ∧ wi.ownsRow w2.heap.size 3 1 t (digN Z M d).length ((digN Z M d).map (Value.int .i64)) ∧ Bel w2 wi) (fun _ _ kk _ => (intOf kk).toNat)
      case atStart => exact ⟨0, Nat.zero_le _, by simp, rfl, World.ownsRow_nil _ _ _ _, Bel.rfl' _⟩
      case round =>
        obtain ⟨d, hd, rfl, rfl, hown, hbi⟩ := hrel
        by_cases hdl : d < L
        · have hdm : M / Z ^ d ≤ 10000 := Nat.le_trans (Nat.div_le_self _ _) hNN
          have HD2 := Lib.hid (div_step Z M d)
          have HDG : Hid (digN Z M (d+1) = digN Z M d ++ [((M / Z ^ d % Z : Nat) : Int)]) := rfl
          have hdl2 := digN_len Z M d
          generalize M / Z ^ d = Q at *
          generalize digN Z M d = D at *
          have hpos : (0 : Int) < ((L - d : Nat) : Int) := by omega
          have hg27 : ((L - d : Nat) : Int) ≤ 27 := by omega
          have hsub : Hid (((L - d : Nat) : Int) - 1 = ((L - (d + 1) : Nat) : Int)) := by show _ = _; omega
          generalize ((L - d : Nat) : Int) = g at *
          have hZ0 : ((Z : Int) == 0) = false := beq_eq_false_iff_ne.2 (by omega)
          have HQ1 : Hid (((Q / Z : Nat) : Int) = (Q : Int) / (Z : Int)) := Int.natCast_ediv _ _
          have HQ2 : Hid (((Q % Z : Nat) : Int) = (Q : Int) % (Z : Int)) := Int.natCast_emod _ _
          have hal : D.length ≤ 27 := by omega
          have hw9 := IntWalk.i64_in ((Q : Int) / (Z : Int)) (by have h9 : Q / Z ≤ 10000 := Nat.le_trans (Nat.div_le_self _ _) hdm
                                                                 rw [← HQ1.out]; generalize Q / Z = y at h9 ⊢; omega)
          go_wp2_with (at_builtin; refine wpList_append_own _ rfl _ _ 24 rfl w2.heap.size 3 i0 (.int .i64 0) 1 8 Try.underlying24 hi0 hz0 hz1 hz2 rfl (by decide) _ _ _ rfl (hown.alloc _) ⟨wr.heap.size, 0, none⟩ 1 1 [.int .i64 ((Q : Int) % (Z : Int))] rfl rfl (news_one _ _ _) (one_int _) (by unfold maxLen; omega) (by omega) (by have := hbi.size; simp at *; omega) ?_; intro v' w3 hown' hgrow _; have hb3 := (hbi.alloc (.cells #[.int .i64 ((Q : Int) % (Z : Int))] 3)).grown hgrow (fun k hk => own_base hown k hk))
          go_roundw
          case rel => exact ⟨d+1, by omega, by rw [← HD2.out, HQ1.out], by rw [← hsub.out], by rw [HDG.out, HQ2.out]; exact row_snoc hown', hb3⟩
          case measure => simp [intOf]; omega
        · obtain rfl : d = L := by omega
          have hz : ((d - d : Nat) : Int) = 0 := by simp
          rw [hz]
          have hdl3 := digN_len Z M d
          have HMD : Hid (M / Z ^ d = N / Z ^ sumW ar Z (k+1)) := by show _ = _; rw [HS.out]; exact HDIV.out
          have hmd : M / Z ^ d ≤ 10000 := Nat.le_trans (Nat.div_le_self _ _) hNN
          generalize M / Z ^ d = Q at *
          generalize digN Z M d = D at *
          obtain ⟨ad9, n9, c9, rfl⟩ := own_form hown
          have hoI : OwnI w2.heap.size wr.heap.size wr (.slice ad9 n9 c9) D := OwnI.of_row hown
          have zi := hbi.size
          have z2 := hb2.size
          have hd0 := hbi.at (Nat.lt_of_lt_of_le zr z2) hc0'
          have hd1 := hbi.at (Nat.lt_of_lt_of_le zr z2) hc1'
          have hdf := (hbi.frozen (p := ⟨w.heap.size + 1 + 1, 1, none⟩) (Nat.lt_of_lt_of_le zr z2)).trans hf1'
          obtain ⟨us, hown2, hul, hnext⟩ := hrow2.step hbi (Bel.alloc0 wr (.cells #[.slice ad9 n9 c9] 24)) hoI (by omega)
          have HNX := Lib.hid hnext
          have hul2 : us.length ≤ 10 := by have := htl.out; omega
          clear hul
          obtain ⟨atv, ctv, htv⟩ := hrow2.form
          subst htv
          have HFR := Lib.hid ((hch.trans (hb2.mono (by omega))).trans (hbi.mono (by omega)))
          clear hown hoI hnext hrow2 hrow
          go_wp2_with (at_builtin; refine wpList_append_own_at _ rfl _ _ 27 rfl (w.heap.size + 1 + 1 + 1) 24 j0 (.slice none 0 0) 1 24 Try.underlying27 hj0 hy0 hy1 hy2 rfl (by decide) _ _ _ rfl hown2 _ _ _ [.slice ad9 n9 c9] rfl rfl (news_oneV _ _ _) (one_slice _ _ _) (by unfold maxLen; omega) (by omega) (by simp; omega) ?_; intro v' w4 hown' hgrow _ hat; have hR5 := HNX.out w4 v' hown' hgrow hat; obtain ⟨av9, cv9, hvv⟩ := hR5.form; subst hvv; have hbase := own_base hown2; have HB5 : Below (w.heap.size + 1 + 1 + 1) wr w4 := ((Below.refl (w.heap.size + 1 + 1 + 1) wr).alloc (by omega) _).grown hgrow (by simp; omega) hbase; have hx0 := (HB5.cell (p := ⟨w.heap.size + 1 + 1, 0, none⟩) (Nat.lt_succ_self _)).trans hd0; have hx1 := (HB5.cell (p := ⟨w.heap.size + 1 + 1, 1, none⟩) (Nat.lt_succ_self _)).trans hd1; have hxf := (HB5.frozen (p := ⟨w.heap.size + 1 + 1, 1, none⟩) (Nat.lt_succ_self _)).trans hdf)
          go_roundw
          case rel =>
            refine ⟨k+1, _, by omega, by go_num, by rw [HMD.out], ?_, World.cell?_setCell_same _ _ _ hx1, by rw [World.frozen?_setCell]; exact hxf, ?_, Below.setCell (HFR.out.trans (HB5.mono (by omega))) (Nat.le_refl _) _⟩
            · rw [World.cell?_setCell_other (h := by intro h; simp at h)]; exact hx0
            · have h9 := hR5.cur (b := w.heap.size + 1 + 1) (Nat.lt_succ_self _) (Chg.set (p := ⟨w.heap.size + 1 + 1, 1, none⟩) w4 (Nat.le_refl _) (Nat.lt_succ_self _) (.slice av9 (T ++ [D]).length cv9))
              rw [HTB.out]
              simp only [List.length_append, List.length_cons, List.length_nil, Nat.zero_add] at h9
              exact h9
          case measure => simp [intOf]; omega
    · obtain rfl : k = ar.length := by omega
      obtain ⟨atv, ctv, htv⟩ := hrow.form
      subst htv
      have hr0 := (hch.cell (p := ⟨w.heap.size + 1, 0, none⟩) (Nat.lt_succ_self _)).trans HKR.out.1
      have hr1 := (hch.cell (p := ⟨w.heap.size + 1, 1, none⟩) (Nat.lt_succ_self _)).trans HKR.out.2.1
      have hrf := fun i => (hch.frozen (p := ⟨w.heap.size + 1, i, none⟩) (Nat.lt_succ_self _)).trans (HKR.out.2.2 i)
      have hoS := hrow.own
      go_wp2_with fail
      refine bodyPost_ret (v := .agg #[.int .i64 (Z : Int), .slice atv (tabN ar Z N ar.length).length ctv]) (by simp [results, Try.results42, go_sem, hr0, hr1]) rfl ⟨_, _, _, rfl, ?_, ?_⟩
      · exact ((hoS.set (p := ⟨w.heap.size + 1, 0, none⟩) (.inl (by simp)) _).set (p := ⟨w.heap.size + 1, 1, none⟩) (.inl (by simp)) _).mono (by omega) (by simp)
      · exact (hBr.set (p := ⟨w.heap.size + 1, 0, none⟩) (by simp) _).set (p := ⟨w.heap.size + 1, 1, none⟩) (by simp) _
end Go.Proofs.Ytlcjcihohclmhaa
end
section
/- Chapter 5: CountWorlds, the program. -/
namespace Go.Proofs.Ytlcjcihohclmhaa
open Go.RowKit

theorem cw_succ' (sz : Int) (m : Nat) : (if (10000 : Int) < cwN sz m * sz then 10000 else cwN sz m * sz) = cwN sz (m+1) := by
  rw [cwN]; split <;> omega
theorem cw_succ (sz : Int) (m : Nat) : min (cwN sz m * sz) 10000 = cwN sz (m+1) := rfl

set_option maxRecDepth 100000 in
set_option maxHeartbeats 1000000 in
theorem iCountWorlds_t {l h : Nat} {v : Value} {ar : List Int} {sz : Int} {w : World} (ha : ar.length ≤ 1048576) (hv : SlI l h w v ar) (_ : -9223372036854775808 ≤ sz) (_ : sz ≤ 9223372036854775807) :
    Calls Try.prog 21 #[.agg #[v], .int .i64 sz] w (RetV w (.tuple #[.int .i64 (worldsAns ar sz), .bool (goodSign ar && inB sz 1 3)])) := by
  unfold worldsAns
  cases hq : (goodSign ar && inB sz 1 3) with
  | false =>
    rw [if_neg (by simp)]
    have HC := Lib.hid (fun (w' : World) (hb : Bel w w') => hasWorlds_v l h v ar sz false w' hq ha (hv.below hb)); clear hq
    go_enter Try.func21, Try.ntmps21
    go_wp2_with fail
    refine (HC.out _ (Bel.alloc0 _ _)).mono ?_; rintro e w1 ⟨rfl, hb1⟩
    go_wp2_with fail
    go_ret2
    exact ⟨rfl, hb1.of_alloc⟩
  | true =>
    rw [if_pos rfl]
    have HC := Lib.hid (fun (w' : World) (hb : Bel w w') => hasWorlds_v l h v ar sz true w' hq ha (hv.below hb))
    have hg : goodSign ar = true := by revert hq; cases goodSign ar <;> simp
    have h1 : inB sz 1 3 = true := by revert hq; cases inB sz 1 3 <;> simp
    obtain ⟨ad, cap, rfl, -, -, hr⟩ := hv
    have hlen := (sign_len ar hg).2
    obtain ⟨z1, z3⟩ : 1 ≤ sz ∧ sz ≤ 3 := by unfold inB at h1; simpa using h1
    obtain ⟨Z, rfl⟩ : ∃ Z : Nat, sz = (Z : Int) := ⟨sz.toNat, by omega⟩
    clear h1 hq
    go_enter Try.func21, Try.ntmps21
    go_wp2_with fail
    refine (HC.out _ (Bel.alloc0 _ _)).mono ?_; rintro e W ⟨rfl, hb1⟩
    have hbox := boxc hb1 0 _ rfl
    have hB := hb1.of_alloc
    clear HC hb1
    go_wp2_with fail
    go_loopw [6, 16] (fun n i wr => ∃ k : Nat, k ≤ ar.length ∧ i = .int .i64 k ∧ n = .int .i64 (cwN Z (sumW ar Z k)) ∧ Bel W wr) (fun _ i _ => ar.length - (intOf i).toNat)
    case atStart => exact ⟨0, Nat.zero_le _, rfl, rfl, Bel.rfl' _⟩
    case round =>
      obtain ⟨k, hk, rfl, rfl, hb⟩ := hrel
      by_cases hlt : k < ar.length
      · obtain ⟨b2, off2, rfl, hb2l, hc2⟩ := rd hr (hB.step hb) k hlt
        have h03 := ar_nonneg ar hg k
        obtain ⟨A, hA⟩ : ∃ A : Nat, ar.getD k 0 = (A : Int) := ⟨(ar.getD k 0).toNat, by omega⟩
        have HS : Hid (sumW ar Z (k+1) = sumW ar Z k + Z ^ A) := by show _ = _; rw [sumW_pos, hA]; rfl
        rw [hA] at hc2 h03
        have hA3 : A ≤ 3 := by omega
        have hL27 := pw_le (Z := Z) (by omega) hA3
        have HL := Lib.hid (fun (w' : World) => tableLength_c Z A w' (by omega) hA3)
        clear hA h03
        generalize Z ^ A = L at *
        go_wp2_with fail
        refine (HL.out _).mono ?_; rintro e w2 ⟨rfl, hb2⟩
        go_wp2_with fail
        go_loop [6, 23] (fun n i => ∃ d : Nat, d ≤ L ∧ i = .int .i64 d ∧ n = .int .i64 (cwN Z (sumW ar Z k + d))) (fun _ i => L - (intOf i).toNat)
        case atStart => exact ⟨0, Nat.zero_le _, rfl, rfl⟩
        case round =>
          obtain ⟨d, hd, rfl, rfl⟩ := hrel
          by_cases hdl : d < L
          · have hb := cwN_bd z1 (sumW ar Z k + d)
            have HST := Lib.hid (cw_succ Z (sumW ar Z k + d))
            have HST' := Lib.hid (cw_succ' Z (sumW ar Z k + d))
            generalize cwN Z (sumW ar Z k + d) = M at *
            have hmul : M * 1 ≤ M * (Z : Int) := Int.mul_le_mul_of_nonneg_left z1 (by omega)
            have hmul2 : M * (Z : Int) ≤ M * 3 := Int.mul_le_mul_of_nonneg_left z3 (by omega)
            have hw1 := IntWalk.i64_in (M * (Z : Int)) (by omega)
            clear hmul hmul2
            go_wp2_with fail
            go_round
            case rel => exact ⟨d+1, by omega, by go_num, by rw [← Nat.add_assoc]; first | exact congrArg (Value.int .i64) HST.out | exact congrArg (Value.int .i64) HST'.out⟩
            case measure => simp [intOf]; omega
          · obtain rfl : d = L := by omega
            have HST : Hid (cwN Z (sumW ar Z k + d) = cwN Z (sumW ar Z (k+1))) := by show _ = _; rw [HS.out]
            rw [HST.out]
            go_wp2_with fail
            go_roundw
            case rel => exact ⟨k+1, by omega, by go_num, rfl, hb.step hb2⟩
            case measure => simp [intOf]; omega
      · obtain rfl : k = ar.length := by omega
        go_wp2_with fail
        go_ret2
        exact ⟨rfl, hB.step hb⟩
end Go.Proofs.Ytlcjcihohclmhaa
end
section
/- Chapter 5, the program: the world of a number. -/
namespace Go.Proofs.Ytlcjcihohclmhaa
open Go.RowKit

theorem madeD (Z M L d : Nat) (h : d < L) : ((madeI (digN Z M L) d).map (Value.int .i64)).set d (.int .i64 (((M / Z ^ d : Nat) : Int) % (Z : Int))) = (madeI (digN Z M L) (d+1)).map (Value.int .i64) := by
  rw [← madeI_succ _ _ (by rw [digN_len]; exact h), digN_get Z M L d h, Int.natCast_emod]

set_option maxRecDepth 100000 in
set_option maxHeartbeats 2000000 in
theorem worldAt_c (l h : Nat) (v : Value) (ar : List Int) (Z N : Nat) (w : World) (hg : goodSign ar = true) (z1 : 1 ≤ Z) (z3 : Z ≤ 3) (hN : N ≤ 10000) (hv : SlI l h w v ar) :
    Calls Try.prog 39 #[.agg #[v], .int .i64 (Z : Int), .int .i64 (N : Int)] w (RetW w Z (tabN ar Z N ar.length)) := by
  obtain ⟨ad, cap, rfl, -, -, hr⟩ := hv
  have hlen := (sign_len ar hg).2
  obtain ⟨i0, hi0, hz0, hz1, hz2⟩ := info_parts Try.info3
  obtain ⟨j0, hj0, hy0, hy1, hy2⟩ := info_parts Try.info24
  go_enter Try.func39, Try.ntmps39
  go_wp2_with fail
  obtain ⟨W, hW⟩ : ∃ W, W = ((w.alloc (.cells #[.slice ad ar.length cap] 26)).alloc (.cells #[.int .i64 0, .slice none 0 0] 29)).alloc (.cells #[.int .i64 (Z : Int), .slice none 0 0] 29) := ⟨_, rfl⟩
  have hB : Bel w W := by rw [hW]; exact Bel.alloc3 _ _ _ _
  have zW : w.heap.size + 1 + 1 < W.heap.size := by rw [hW]; simp
  have kr : W.cell? ⟨w.heap.size + 1, 0, none⟩ = some (.int .i64 0) ∧ W.cell? ⟨w.heap.size + 1, 1, none⟩ = some (.slice none 0 0) ∧ ∀ i, W.frozen? ⟨w.heap.size + 1, i, none⟩ = false := by rw [hW]; simp [go_sem]
  have kb : W.cell? ⟨w.heap.size + 1 + 1, 0, none⟩ = some (.int .i64 (Z : Int)) ∧ W.cell? ⟨w.heap.size + 1 + 1, 1, none⟩ = some (.slice none 0 0) ∧ ∀ i, W.frozen? ⟨w.heap.size + 1 + 1, i, none⟩ = false := by rw [hW]; simp [go_sem]
  rw [← hW]
  clear hW
  have HKR := Lib.hid kr
  have HKB := Lib.hid kb
  clear kr kb
  go_loopw [2, 17] (fun no i wr => ∃ (k : Nat) (tv : Value), k ≤ ar.length ∧ i = .int .i64 k ∧ no = .int .i64 ((N / Z ^ sumW ar Z k : Nat) : Int) ∧ wr.cell? ⟨w.heap.size + 1 + 1, 0, none⟩ = some (.int .i64 (Z : Int)) ∧ wr.cell? ⟨w.heap.size + 1 + 1, 1, none⟩ = some tv ∧ wr.frozen? ⟨w.heap.size + 1 + 1, 1, none⟩ = false ∧ RowO (w.heap.size + 1 + 1 + 1) wr tv (tabN ar Z N k) ∧ Below (w.heap.size + 1 + 1) W wr) (fun _ i _ => ar.length - (intOf i).toNat)
  case atStart => exact ⟨0, _, Nat.zero_le _, rfl, by simp [sumW], HKB.out.1, HKB.out.2.1, HKB.out.2.2 1, RowO.nil _ _, Below.refl _ _⟩
  case round =>
    obtain ⟨k, tv, hk, rfl, rfl, hc0, hc1, hf1, hrow, hch⟩ := hrel
    have hBr : Bel w wr := hB.trans (hch.mono (by omega))
    have zr : w.heap.size + 1 + 1 < wr.heap.size := Nat.lt_of_lt_of_le zW hch.size
    by_cases hlt : k < ar.length
    · obtain ⟨b2, off2, rfl, hb2l, hc2⟩ := rd hr hBr k hlt
      have h03 := ar_nonneg ar hg k
      obtain ⟨A, hA⟩ : ∃ A : Nat, ar.getD k 0 = (A : Int) := ⟨(ar.getD k 0).toNat, by omega⟩
      have HS : Hid (sumW ar Z (k+1) = sumW ar Z k + Z ^ A) := by show _ = _; rw [sumW_pos, hA]; rfl
      have HTB : Hid (tabN ar Z N (k+1) = tabN ar Z N k ++ [digN Z (N / Z ^ sumW ar Z k) (Z ^ A)]) := by show _ = _; rw [tabN, hA]; rfl
      rw [hA] at hc2 h03
      have hA3 : A ≤ 3 := by omega
      have hL27 := pw_le (Z := Z) z3 hA3
      have HL := Lib.hid (fun (w' : World) => tableLength_c Z A w' z3 hA3)
      have hNN : N / Z ^ sumW ar Z k ≤ 10000 := Nat.le_trans (Nat.div_le_self _ _) hN
      have HDIV := Lib.hid (div_sum Z N (sumW ar Z k) (Z ^ A))
      have htl := Lib.hid (tabN_len ar Z N k)
      clear hA h03
      generalize Z ^ A = L at *
      generalize N / Z ^ sumW ar Z k = M at *
      generalize tabN ar Z N k = T at *
      go_wp2_with fail
      refine (HL.out _).mono ?_; rintro e w2 ⟨rfl, hb2⟩
      have hc0' := hb2.at zr hc0
      have hc1' := hb2.at zr hc1
      have hf1' := (hb2.frozen (p := ⟨w.heap.size + 1 + 1, 1, none⟩) zr).trans hf1
      have hrow2 := hrow.bel hb2
      have hdl := digN_len Z M L
      have hL0 : (0 : Int) ≤ (L : Int) := by omega
      go_wp2_with (at_make; refine wpList_make_full _ rfl _ _ 24 rfl w2.heap.size 3 i0 (.int .i64 0) 1 Try.underlying24 hi0 hz0 hz1 _ _ _ _ L rfl rfl rfl rfl (by rw [hz2]; omega) (by unfold maxLen; omega) (Nat.le_refl _) ?_; intro w3 hown hg3)
      have hown0 : w3.ownsRow w2.heap.size 3 1 (.slice (some ⟨w2.heap.size, 0, none⟩) L L) L ((madeI (digN Z M L) 0).map (Value.int .i64)) := by
        have h := madeI_0 (digN Z M L)
        rw [hdl] at h
        rw [← h]; exact hown
      have hb03 : Bel w2 w3 := (Bel.rfl' w2).grown hg3 (by simp)
      have HDL := Lib.hid hdl
      clear hown hg3 hdl
      go_loopw [2, 27] (fun no i wi => ∃ d : Nat, d ≤ L ∧ no = .int .i64 ((M / Z ^ d : Nat) : Int) ∧ i = .int .i64 d ∧ wi.ownsRow w2.heap.size 3 1 (.slice (some ⟨w2.heap.size, 0, none⟩) L L) L ((madeI (digN Z M L) d).map (Value.int .i64)) ∧ Bel w2 wi) (fun _ i _ => L - (intOf i).toNat)
      case atStart => exact ⟨0, Nat.zero_le _, by simp, rfl, hown0, hb03⟩
      case round =>
        obtain ⟨d, hd, rfl, rfl, hown, hbi⟩ := hrel
        by_cases hdl : d < L
        · have hdm : M / Z ^ d ≤ 10000 := Nat.le_trans (Nat.div_le_self _ _) hNN
          have HD2 := Lib.hid (div_step Z M d)
          obtain ⟨y, hcy⟩ := own_cell hown d (by rw [madeI_len _ _ (by rw [HDL.out]; omega), HDL.out]; exact hdl)
          have hst := hown.stored d (.int .i64 (((M / Z ^ d : Nat) : Int) % (Z : Int)))
          rw [madeD Z M L d hdl] at hst
          have hf2 := hown.frozenAt d
          have hbs := hbi.setCell (p := ⟨w2.heap.size, d, none⟩) (Nat.le_refl _) (.int .i64 (((M / Z ^ d : Nat) : Int) % (Z : Int)))
          generalize M / Z ^ d = Q at *
          have hZ0 : ((Z : Int) == 0) = false := beq_eq_false_iff_ne.2 (by omega)
          have HQ1 : Hid (((Q / Z : Nat) : Int) = (Q : Int) / (Z : Int)) := Int.natCast_ediv _ _
          have hw9 := IntWalk.i64_in ((Q : Int) / (Z : Int)) (by have h9 : Q / Z ≤ 10000 := Nat.le_trans (Nat.div_le_self _ _) hdm
                                                                 rw [← HQ1.out]; generalize Q / Z = y at h9 ⊢; omega)
          clear hown
          go_wp2_with fail
          go_roundw
          case rel => exact ⟨d+1, by omega, by rw [← HD2.out, HQ1.out], by go_num, hst.1, hbs⟩
          case measure => simp [intOf]; omega
        · obtain rfl : d = L := by omega
          rw [madeI_all _ _ (by rw [HDL.out]; omega)] at hown
          have hown : wr.ownsRow w2.heap.size 3 1 (.slice (some ⟨w2.heap.size, 0, none⟩) d d) (digN Z M d).length ((digN Z M d).map (Value.int .i64)) := by rw [HDL.out]; exact hown
          have HMD : Hid (M / Z ^ d = N / Z ^ sumW ar Z (k+1)) := by show _ = _; rw [HS.out]; exact HDIV.out
          have hmd : M / Z ^ d ≤ 10000 := Nat.le_trans (Nat.div_le_self _ _) hNN
          generalize M / Z ^ d = Q at *
          generalize digN Z M d = D at *
          have hoI : OwnI w2.heap.size wr.heap.size wr (.slice (some ⟨w2.heap.size, 0, none⟩) d d) D := OwnI.of_row hown
          have zi := hbi.size
          have z2 := hb2.size
          have hd0 := hbi.at (Nat.lt_of_lt_of_le zr z2) hc0'
          have hd1 := hbi.at (Nat.lt_of_lt_of_le zr z2) hc1'
          have hdf := (hbi.frozen (p := ⟨w.heap.size + 1 + 1, 1, none⟩) (Nat.lt_of_lt_of_le zr z2)).trans hf1'
          obtain ⟨us, hown2, hul, hnext⟩ := hrow2.step hbi (Bel.alloc0 wr (.cells #[.slice (some ⟨w2.heap.size, 0, none⟩) d d] 24)) hoI (by omega)
          have HNX := Lib.hid hnext
          have hul2 : us.length ≤ 10 := by have := htl.out; omega
          clear hul
          obtain ⟨atv, ctv, htv⟩ := hrow2.form
          subst htv
          have HFR := Lib.hid ((hch.trans (hb2.mono (by omega))).trans (hbi.mono (by omega)))
          clear hown hoI hnext hrow2 hrow
          go_wp2_with (at_builtin; refine wpList_append_own_at _ rfl _ _ 27 rfl (w.heap.size + 1 + 1 + 1) 24 j0 (.slice none 0 0) 1 24 Try.underlying27 hj0 hy0 hy1 hy2 rfl (by decide) _ _ _ rfl hown2 _ _ _ [.slice (some ⟨w2.heap.size, 0, none⟩) d d] rfl rfl (news_oneV _ _ _) (one_slice _ _ _) (by unfold maxLen; omega) (by omega) (by simp; omega) ?_; intro v' w4 hown' hgrow _ hat; have hR5 := HNX.out w4 v' hown' hgrow hat; obtain ⟨av9, cv9, hvv⟩ := hR5.form; subst hvv; have hbase := own_base hown2; have HB5 : Below (w.heap.size + 1 + 1 + 1) wr w4 := ((Below.refl (w.heap.size + 1 + 1 + 1) wr).alloc (by omega) _).grown hgrow (by simp; omega) hbase; have hx0 := (HB5.cell (p := ⟨w.heap.size + 1 + 1, 0, none⟩) (Nat.lt_succ_self _)).trans hd0; have hx1 := (HB5.cell (p := ⟨w.heap.size + 1 + 1, 1, none⟩) (Nat.lt_succ_self _)).trans hd1; have hxf := (HB5.frozen (p := ⟨w.heap.size + 1 + 1, 1, none⟩) (Nat.lt_succ_self _)).trans hdf)
          go_roundw
          case rel =>
            refine ⟨k+1, _, by omega, by go_num, by rw [HMD.out], ?_, World.cell?_setCell_same _ _ _ hx1, by rw [World.frozen?_setCell]; exact hxf, ?_, Below.setCell (HFR.out.trans (HB5.mono (by omega))) (Nat.le_refl _) _⟩
            · rw [World.cell?_setCell_other (h := by intro h; simp at h)]; exact hx0
            · have h9 := hR5.cur (b := w.heap.size + 1 + 1) (Nat.lt_succ_self _) (Chg.set (p := ⟨w.heap.size + 1 + 1, 1, none⟩) w4 (Nat.le_refl _) (Nat.lt_succ_self _) (.slice av9 (T ++ [D]).length cv9))
              rw [HTB.out]
              simp only [List.length_append, List.length_cons, List.length_nil, Nat.zero_add] at h9
              exact h9
          case measure => simp [intOf]; omega
    · obtain rfl : k = ar.length := by omega
      obtain ⟨atv, ctv, htv⟩ := hrow.form
      subst htv
      have hr0 := (hch.cell (p := ⟨w.heap.size + 1, 0, none⟩) (Nat.lt_succ_self _)).trans HKR.out.1
      have hr1 := (hch.cell (p := ⟨w.heap.size + 1, 1, none⟩) (Nat.lt_succ_self _)).trans HKR.out.2.1
      have hrf := fun i => (hch.frozen (p := ⟨w.heap.size + 1, i, none⟩) (Nat.lt_succ_self _)).trans (HKR.out.2.2 i)
      have hoS := hrow.own
      go_wp2_with fail
      refine bodyPost_ret (v := .agg #[.int .i64 (Z : Int), .slice atv (tabN ar Z N ar.length).length ctv]) (by simp [results, Try.results39, go_sem, hr0, hr1]) rfl ⟨_, _, _, rfl, ?_, ?_⟩
      · exact ((hoS.set (p := ⟨w.heap.size + 1, 0, none⟩) (.inl (by simp)) _).set (p := ⟨w.heap.size + 1, 1, none⟩) (.inl (by simp)) _).mono (by omega) (by simp)
      · exact (hBr.set (p := ⟨w.heap.size + 1, 0, none⟩) (by simp) _).set (p := ⟨w.heap.size + 1, 1, none⟩) (by simp) _
end Go.Proofs.Ytlcjcihohclmhaa
end
section
/- Chapter 5: WorldAt, both functions. -/
namespace Go.Proofs.Ytlcjcihohclmhaa
open Go.RowKit

def worldAtOk (ar : List Int) (sz no : Int) : Bool := (goodSign ar && inB sz 1 3) && (decide (worldsAns ar sz ≠ 10000) && inB no 0 (worldsAns ar sz - 1))
def worldAtZ (ar : List Int) (sz no : Int) : Int := if worldAtOk ar sz no then sz else 0
def worldAtT (ar : List Int) (sz no : Int) : List (List Int) := if worldAtOk ar sz no then tabN ar sz.toNat no.toNat ar.length else []
theorem worldAtT_tot (ar : List Int) (sz no : Int) : tot (worldAtT ar sz no) ≤ 1048576 := by
  unfold worldAtT
  split
  · rename_i h
    unfold worldAtOk at h
    simp only [Bool.and_eq_true] at h
    obtain ⟨⟨hg, hs⟩, _⟩ := h
    have hlen := (sign_len ar hg).2
    have hs2 : 1 ≤ sz ∧ sz ≤ 3 := by unfold inB at hs; simpa using hs
    have := tabN_tot ar sz.toNat no.toNat (fun k => longW_le (by omega) (ar_nonneg ar hg k).2) ar.length
    omega
  · simp [tot, sumL]
theorem worlds_le (ar : List Int) (sz : Int) (h : 1 ≤ sz) : worldsAns ar sz ≤ 10000 := by
  unfold worldsAns
  split
  · exact (cwN_bd h _).2
  · omega

set_option maxRecDepth 100000 in
set_option maxHeartbeats 1000000 in
theorem sWorldAt_t {l h : Nat} {v : Value} {ar : List Int} {sz no : Int} {w : World} (ha : ar.length ≤ 1048576) (hv : SlI l h w v ar) (b1 : -9223372036854775808 ≤ sz) (b2 : sz ≤ 9223372036854775807) (b3 : -9223372036854775808 ≤ no) (b4 : no ≤ 9223372036854775807) :
    Calls Try.prog 20 #[.agg #[v], .int .i64 sz, .int .i64 no] w (RetWB w (worldAtZ ar sz no) (worldAtT ar sz no) (worldAtOk ar sz no)) := by
  have HB : Bel w ((w.alloc (.cells #[v] 26)).alloc (.cells #[.int .i64 0, .slice none 0 0] 29)) := Bel.alloc2 _ _ _
  have HC := Lib.hid (fun (w' : World) (hb : Bel w w') => sCountWorlds_t (sz := sz) ha (hv.below hb) b1 b2)
  have KX : Hid (∀ w', Bel ((w.alloc (.cells #[v] 26)).alloc (.cells #[.int .i64 0, .slice none 0 0] 29)) w' → w'.cell? ⟨w.heap.size, 0, none⟩ = some v ∧ w'.cell? ⟨w.heap.size + 1, 0, none⟩ = some (.int .i64 0) ∧ w'.cell? ⟨w.heap.size + 1, 1, none⟩ = some (.slice none 0 0) ∧ w.heap.size + 1 < w'.heap.size ∧ ∀ i, w'.frozen? ⟨w.heap.size + 1, i, none⟩ = false) := fun w' hq =>
    ⟨hq.at (by simp; omega) (by simp [go_sem]), hq.at (by simp) (by simp [go_sem]), hq.at (by simp) (by simp [go_sem]), by have := hq.size; simp at this; omega, fun i => (hq.frozen (p := ⟨w.heap.size + 1, i, none⟩) (by simp)).trans (by simp [go_sem])⟩
  have HNO : ∀ w', Bel w w' → Bel w ((w'.setCell ⟨w.heap.size + 1, 0, none⟩ (.int .i64 0)).setCell ⟨w.heap.size + 1, 1, none⟩ (.slice none 0 0)) := fun w' hb => (hb.set (p := ⟨w.heap.size + 1, 0, none⟩) (by simp) _).set (p := ⟨w.heap.size + 1, 1, none⟩) (by simp) _
  have HNO := Lib.hid HNO
  cases hq : (goodSign ar && inB sz 1 3) with
  | false =>
    have E : Hid (worldAtOk ar sz no = false) := by show _ = _; unfold worldAtOk; rw [hq]; rfl
    rw [hq] at HC
    unfold worldAtZ worldAtT
    rw [E.out, if_neg (by simp), if_neg (by simp)]
    generalize worldsAns ar sz = m at *
    clear hq
    go_enter Try.func20, Try.ntmps20
    go_wp2_with fail
    refine (HC.out _ HB).mono ?_; rintro e w1 ⟨rfl, hb1⟩
    obtain ⟨x0, x1, x2, x3, x4⟩ := KX.out _ hb1
    go_wp2_with fail
    refine bodyPost_ret (v := .tuple #[.agg #[.int .i64 0, .slice none 0 0], .bool false]) (by simp [results, Try.results20, go_sem, x1, x2]) rfl ⟨_, _, _, rfl, OwnS.nil _ _ _, HNO.out _ (HB.step hb1)⟩
  | true =>
    have hg : goodSign ar = true := by revert hq; cases goodSign ar <;> simp
    have h1 : inB sz 1 3 = true := by revert hq; cases inB sz 1 3 <;> simp
    obtain ⟨z1, z3⟩ : 1 ≤ sz ∧ sz ≤ 3 := by unfold inB at h1; simpa using h1
    have hm := worlds_le ar sz z1
    have hm0 : 0 ≤ worldsAns ar sz := by unfold worldsAns; rw [hq, if_pos rfl]; exact Int.le_trans (by decide) (cwN_bd z1 _).1
    rw [hq] at HC
    have EOK : worldAtOk ar sz no = (decide (worldsAns ar sz ≠ 10000) && inB no 0 (worldsAns ar sz - 1)) := by unfold worldAtOk; rw [hq]; rfl
    by_cases ht : worldsAns ar sz = 10000
    · have E : Hid (worldAtOk ar sz no = false) := by show _ = _; rw [EOK, ht]; rfl
      unfold worldAtZ worldAtT
      rw [E.out, if_neg (by simp), if_neg (by simp)]
      rw [ht] at HC
      clear hq EOK ht hm hm0
      go_enter Try.func20, Try.ntmps20
      go_wp2_with fail
      refine (HC.out _ HB).mono ?_; rintro e w1 ⟨rfl, hb1⟩
      obtain ⟨x0, x1, x2, x3, x4⟩ := KX.out _ hb1
      go_wp2_with fail
      refine bodyPost_ret (v := .tuple #[.agg #[.int .i64 0, .slice none 0 0], .bool false]) (by simp [results, Try.results20, go_sem, x1, x2]) rfl ⟨_, _, _, rfl, OwnS.nil _ _ _, HNO.out _ (HB.step hb1)⟩
    · have hne : (worldsAns ar sz == 10000) = false := beq_eq_false_iff_ne.2 ht
      have hw1 := IntWalk.i64_in (worldsAns ar sz - 1) (by omega)
      cases hp : inB no 0 (worldsAns ar sz - 1) with
      | false =>
        have E : Hid (worldAtOk ar sz no = false) := by show _ = _; rw [EOK, hp, Bool.and_false]
        unfold worldAtZ worldAtT
        rw [E.out, if_neg (by simp), if_neg (by simp)]
        have HP := Lib.hid hp
        clear hq EOK ht hp
        generalize worldsAns ar sz = m at *
        go_enter Try.func20, Try.ntmps20
        go_wp2_with fail
        refine (HC.out _ HB).mono ?_; rintro e w1 ⟨rfl, hb1⟩
        obtain ⟨x0, x1, x2, x3, x4⟩ := KX.out _ hb1
        go_wp2_with fail
        refine (l1In_qv _ _ _ _ HP.out _).mono ?_; rintro e w2 ⟨rfl, rfl⟩
        go_wp2_with fail
        refine bodyPost_ret (v := .tuple #[.agg #[.int .i64 0, .slice none 0 0], .bool false]) (by simp [results, Try.results20, go_sem, x1, x2]) rfl ⟨_, _, _, rfl, OwnS.nil _ _ _, HNO.out _ (HB.step hb1)⟩
      | true =>
        have E : Hid (worldAtOk ar sz no = true) := by show _ = _; rw [EOK, hp, Bool.and_true, decide_eq_true ht]
        unfold worldAtZ worldAtT
        rw [E.out, if_pos rfl, if_pos rfl]
        have hp2 : 0 ≤ no ∧ no ≤ worldsAns ar sz - 1 := by unfold inB at hp; simpa using hp
        obtain ⟨Z, rfl⟩ : ∃ Z : Nat, sz = (Z : Int) := ⟨sz.toNat, by omega⟩
        obtain ⟨N, rfl⟩ : ∃ N : Nat, no = (N : Int) := ⟨no.toNat, by omega⟩
        have HP := Lib.hid hp
        have HD := Lib.hid (fun (w' : World) (hb : Bel w w') => l5WorldAt_c l h v ar Z N w' hg (by omega) (by omega) (by omega) (hv.below hb))
        rw [Int.toNat_natCast, Int.toNat_natCast]
        clear hq EOK ht hp
        generalize worldsAns ar Z = m at *
        generalize tabN ar Z N ar.length = T at *
        go_enter Try.func20, Try.ntmps20
        go_wp2_with fail
        refine (HC.out _ HB).mono ?_; rintro e w1 ⟨rfl, hb1⟩
        obtain ⟨x0, x1, x2, x3, x4⟩ := KX.out _ hb1
        go_wp2_with fail
        refine (l1In_qv _ _ _ _ HP.out _).mono ?_; rintro e w2 ⟨rfl, rfl⟩
        go_wp2_with fail
        refine (HD.out _ (HB.step hb1)).mono ?_; rintro e w3 ⟨a3, n3, c3, rfl, o3, hb3⟩
        obtain ⟨y0, y1, y2, y3, y4⟩ := KX.out _ (hb1.step hb3)
        have hz1 := hb1.size
        simp only [World.size_alloc] at hz1
        go_wp2_with fail
        refine bodyPost_ret (v := .tuple #[.agg #[.int .i64 (Z : Int), .slice a3 n3 c3], .bool true]) (by simp [results, Try.results20, go_sem, y1, y2]) rfl ⟨_, _, _, rfl, ?_, ?_⟩
        · exact ((o3.set (p := ⟨w.heap.size + 1, 0, none⟩) (.inl x3) _).set (p := ⟨w.heap.size + 1, 1, none⟩) (.inl x3) _).mono (by omega) (by simp)
        · exact ((HB.step (hb1.step hb3)).set (p := ⟨w.heap.size + 1, 0, none⟩) (by simp) _).set (p := ⟨w.heap.size + 1, 1, none⟩) (by simp) _
end Go.Proofs.Ytlcjcihohclmhaa
end
section
/- Chapter 5: WorldAt, the program. -/
namespace Go.Proofs.Ytlcjcihohclmhaa
open Go.RowKit

set_option maxRecDepth 100000 in
set_option maxHeartbeats 1000000 in
theorem iWorldAt_t {l h : Nat} {v : Value} {ar : List Int} {sz no : Int} {w : World} (ha : ar.length ≤ 1048576) (hv : SlI l h w v ar) (b1 : -9223372036854775808 ≤ sz) (b2 : sz ≤ 9223372036854775807) (b3 : -9223372036854775808 ≤ no) (b4 : no ≤ 9223372036854775807) :
    Calls Try.prog 19 #[.agg #[v], .int .i64 sz, .int .i64 no] w (RetWB w (worldAtZ ar sz no) (worldAtT ar sz no) (worldAtOk ar sz no)) := by
  have HB : Bel w ((w.alloc (.cells #[v] 26)).alloc (.cells #[.int .i64 0, .slice none 0 0] 29)) := Bel.alloc2 _ _ _
  have HC := Lib.hid (fun (w' : World) (hb : Bel w w') => iCountWorlds_t (sz := sz) ha (hv.below hb) b1 b2)
  have KX : Hid (∀ w', Bel ((w.alloc (.cells #[v] 26)).alloc (.cells #[.int .i64 0, .slice none 0 0] 29)) w' → w'.cell? ⟨w.heap.size, 0, none⟩ = some v ∧ w'.cell? ⟨w.heap.size + 1, 0, none⟩ = some (.int .i64 0) ∧ w'.cell? ⟨w.heap.size + 1, 1, none⟩ = some (.slice none 0 0) ∧ w.heap.size + 1 < w'.heap.size ∧ ∀ i, w'.frozen? ⟨w.heap.size + 1, i, none⟩ = false) := fun w' hq =>
    ⟨hq.at (by simp; omega) (by simp [go_sem]), hq.at (by simp) (by simp [go_sem]), hq.at (by simp) (by simp [go_sem]), by have := hq.size; simp at this; omega, fun i => (hq.frozen (p := ⟨w.heap.size + 1, i, none⟩) (by simp)).trans (by simp [go_sem])⟩
  have HNO : ∀ w', Bel w w' → Bel w ((w'.setCell ⟨w.heap.size + 1, 0, none⟩ (.int .i64 0)).setCell ⟨w.heap.size + 1, 1, none⟩ (.slice none 0 0)) := fun w' hb => (hb.set (p := ⟨w.heap.size + 1, 0, none⟩) (by simp) _).set (p := ⟨w.heap.size + 1, 1, none⟩) (by simp) _
  have HNO := Lib.hid HNO
  cases hq : (goodSign ar && inB sz 1 3) with
  | false =>
    have E : Hid (worldAtOk ar sz no = false) := by show _ = _; unfold worldAtOk; rw [hq]; rfl
    rw [hq] at HC
    unfold worldAtZ worldAtT
    rw [E.out, if_neg (by simp), if_neg (by simp)]
    generalize worldsAns ar sz = m at *
    clear hq
    go_enter Try.func19, Try.ntmps19
    go_wp2_with fail
    refine (HC.out _ HB).mono ?_; rintro e w1 ⟨rfl, hb1⟩
    obtain ⟨x0, x1, x2, x3, x4⟩ := KX.out _ hb1
    go_wp2_with fail
    refine bodyPost_ret (v := .tuple #[.agg #[.int .i64 0, .slice none 0 0], .bool false]) (by simp [results, Try.results19, go_sem, x1, x2]) rfl ⟨_, _, _, rfl, OwnS.nil _ _ _, HNO.out _ (HB.step hb1)⟩
  | true =>
    have hg : goodSign ar = true := by revert hq; cases goodSign ar <;> simp
    have h1 : inB sz 1 3 = true := by revert hq; cases inB sz 1 3 <;> simp
    obtain ⟨z1, z3⟩ : 1 ≤ sz ∧ sz ≤ 3 := by unfold inB at h1; simpa using h1
    have hm := worlds_le ar sz z1
    have hm0 : 0 ≤ worldsAns ar sz := by unfold worldsAns; rw [hq, if_pos rfl]; exact Int.le_trans (by decide) (cwN_bd z1 _).1
    rw [hq] at HC
    have EOK : worldAtOk ar sz no = (decide (worldsAns ar sz ≠ 10000) && inB no 0 (worldsAns ar sz - 1)) := by unfold worldAtOk; rw [hq]; rfl
    by_cases ht : worldsAns ar sz = 10000
    · have E : Hid (worldAtOk ar sz no = false) := by show _ = _; rw [EOK, ht]; rfl
      unfold worldAtZ worldAtT
      rw [E.out, if_neg (by simp), if_neg (by simp)]
      rw [ht] at HC
      clear hq EOK ht hm hm0
      go_enter Try.func19, Try.ntmps19
      go_wp2_with fail
      refine (HC.out _ HB).mono ?_; rintro e w1 ⟨rfl, hb1⟩
      obtain ⟨x0, x1, x2, x3, x4⟩ := KX.out _ hb1
      go_wp2_with fail
      refine bodyPost_ret (v := .tuple #[.agg #[.int .i64 0, .slice none 0 0], .bool false]) (by simp [results, Try.results19, go_sem, x1, x2]) rfl ⟨_, _, _, rfl, OwnS.nil _ _ _, HNO.out _ (HB.step hb1)⟩
    · have hlt : worldsAns ar sz < 10000 := by omega
      cases hp : inB no 0 (worldsAns ar sz - 1) with
      | false =>
        have E : Hid (worldAtOk ar sz no = false) := by show _ = _; rw [EOK, hp, Bool.and_false]
        unfold worldAtZ worldAtT
        rw [E.out, if_neg (by simp), if_neg (by simp)]
        clear hq EOK ht
        have hp3 : no < 0 ∨ (0 ≤ no ∧ worldsAns ar sz ≤ no) := by
          unfold inB at hp
          simp only [Bool.and_eq_false_iff, decide_eq_false_iff_not] at hp
          omega
        clear hp
        generalize worldsAns ar sz = m at *
        rcases hp3 with hp4 | ⟨hp4, hp5⟩
        all_goals
          go_enter Try.func19, Try.ntmps19
          go_wp2_with fail
          refine (HC.out _ HB).mono ?_; rintro e w1 ⟨rfl, hb1⟩
          obtain ⟨x0, x1, x2, x3, x4⟩ := KX.out _ hb1
          go_wp2_with fail
          refine bodyPost_ret (v := .tuple #[.agg #[.int .i64 0, .slice none 0 0], .bool false]) (by simp [results, Try.results19, go_sem, x1, x2]) rfl ⟨_, _, _, rfl, OwnS.nil _ _ _, HNO.out _ (HB.step hb1)⟩
      | true =>
        have E : Hid (worldAtOk ar sz no = true) := by show _ = _; rw [EOK, hp, Bool.and_true, decide_eq_true ht]
        unfold worldAtZ worldAtT
        rw [E.out, if_pos rfl, if_pos rfl]
        have hp2 : 0 ≤ no ∧ no ≤ worldsAns ar sz - 1 := by unfold inB at hp; simpa using hp
        obtain ⟨Z, rfl⟩ : ∃ Z : Nat, sz = (Z : Int) := ⟨sz.toNat, by omega⟩
        obtain ⟨N, rfl⟩ : ∃ N : Nat, no = (N : Int) := ⟨no.toNat, by omega⟩
        have HD := Lib.hid (fun (w' : World) (hb : Bel w w') => worldAt_c l h v ar Z N w' hg (by omega) (by omega) (by omega) (hv.below hb))
        rw [Int.toNat_natCast, Int.toNat_natCast]
        clear hq EOK ht hp
        generalize worldsAns ar Z = m at *
        generalize tabN ar Z N ar.length = T at *
        go_enter Try.func19, Try.ntmps19
        go_wp2_with fail
        refine (HC.out _ HB).mono ?_; rintro e w1 ⟨rfl, hb1⟩
        obtain ⟨x0, x1, x2, x3, x4⟩ := KX.out _ hb1
        go_wp2_with fail
        refine (HD.out _ (HB.step hb1)).mono ?_; rintro e w3 ⟨a3, n3, c3, rfl, o3, hb3⟩
        obtain ⟨y0, y1, y2, y3, y4⟩ := KX.out _ (hb1.step hb3)
        have hz1 := hb1.size
        simp only [World.size_alloc] at hz1
        go_wp2_with fail
        refine bodyPost_ret (v := .tuple #[.agg #[.int .i64 (Z : Int), .slice a3 n3 c3], .bool true]) (by simp [results, Try.results19, go_sem, y1, y2]) rfl ⟨_, _, _, rfl, ?_, ?_⟩
        · exact ((o3.set (p := ⟨w.heap.size + 1, 0, none⟩) (.inl x3) _).set (p := ⟨w.heap.size + 1, 1, none⟩) (.inl x3) _).mono (by omega) (by simp)
        · exact ((HB.step (hb1.step hb3)).set (p := ⟨w.heap.size + 1, 0, none⟩) (by simp) _).set (p := ⟨w.heap.size + 1, 1, none⟩) (by simp) _
end Go.Proofs.Ytlcjcihohclmhaa
end
section
/- Chapter 5: the first world in which clauses hold. No program. -/
namespace Go.Proofs.Ytlcjcihohclmhaa
open Go.RowKit

theorem tabN_get (ar : List Int) (Z N : Nat) : ∀ (k j : Nat), j < k → (tabN ar Z N k).getD j [] = digN Z (N / Z ^ sumW ar Z j) (longW Z (ar.getD j 0)) := by
  intro k
  induction k with
  | zero => intro j h; omega
  | succ k ih =>
    intro j h
    have hl := tabN_len ar Z N k
    rw [tabN]
    by_cases e : j = k
    · subst e
      simp [List.getD, hl]
    · rw [← ih j (by omega)]
      simp only [List.getD_eq_getElem?_getD]
      rw [List.getElem?_append_left (by omega)]
theorem tabN_world {ar : List Int} {Z N : Nat} (z1 : 1 ≤ Z) (z3 : Z ≤ 3) : isWorld ar (Z : Int) (tabN ar Z N ar.length) = true := by
  refine isWorld_iff.2 ⟨by omega, by omega, tabN_len _ _ _ _, fun k hk => ?_⟩
  rw [tabN_len] at hk
  rw [tabN_get ar Z N _ k hk, digN_len]
  refine ⟨rfl, fun j hj => ?_⟩
  rw [digN_get Z _ _ j hj]
  generalize N / Z ^ sumW ar Z k / Z ^ j = q
  have := Nat.mod_lt q (show 0 < Z by omega)
  omega
/-- The first number from k on, among m, of a world in which all hold. -/
def findN (ar : List Int) (Z : Nat) (cs : List (List Lt)) : Nat → Nat → Option Nat
  | _, 0 => none
  | k, m + 1 => if heldAll ar Z (tabN ar Z k ar.length) cs then some k else findN ar Z cs (k + 1) m
def findOk (ar : List Int) (sz : Int) (cs : List (List Lt)) : Bool := (goodSign ar && inB sz 1 3) && (decide (worldsAns ar sz ≤ 3000) && triable ar cs)
def findIdx (ar : List Int) (cs : List (List Lt)) (sz : Int) : Option Nat := if findOk ar sz cs then findN ar sz.toNat cs 0 (worldsAns ar sz).toNat else none
def findIs (ar : List Int) (cs : List (List Lt)) (sz : Int) : Bool := (findIdx ar cs sz).isSome
def findZ (ar : List Int) (cs : List (List Lt)) (sz : Int) : Int := match findIdx ar cs sz with
  | some _ => sz
  | none => 0
def findT (ar : List Int) (cs : List (List Lt)) (sz : Int) : List (List Int) := match findIdx ar cs sz with
  | some k => tabN ar sz.toNat k ar.length
  | none => []
theorem findT_tot (ar : List Int) (cs : List (List Lt)) (sz : Int) : tot (findT ar cs sz) ≤ 1048576 := by
  unfold findT
  cases h : findIdx ar cs sz with
  | none => simp [tot, sumL]
  | some k =>
    unfold findIdx at h
    split at h
    · rename_i h2
      unfold findOk at h2
      simp only [Bool.and_eq_true] at h2
      obtain ⟨⟨hg, hs⟩, _⟩ := h2
      have hlen := (sign_len ar hg).2
      have hs2 : 1 ≤ sz ∧ sz ≤ 3 := by unfold inB at hs; simpa using hs
      have := tabN_tot ar sz.toNat k (fun k => longW_le (by omega) (ar_nonneg ar hg k).2) ar.length
      show tot (tabN ar sz.toNat k ar.length) ≤ _
      omega
    · simp at h
end Go.Proofs.Ytlcjcihohclmhaa
end
section
/- Chapter 5: FindWorld, the reference. -/
namespace Go.Proofs.Ytlcjcihohclmhaa
open Go.RowKit

set_option maxRecDepth 100000 in
set_option maxHeartbeats 2000000 in
theorem sFindWorld_t {l h l2 h2 : Nat} {v vc : Value} {ar : List Int} {cs : List (List Lt)} {sz : Int} {w : World} (ha : ar.length ≤ 1048576) (hv : SlI l h w v ar) (hcs : totCs cs ≤ 1048576) (hc : SlCs l2 h2 w vc cs) (b1 : -9223372036854775808 ≤ sz) (b2 : sz ≤ 9223372036854775807) :
    Calls Try.prog 14 #[.agg #[v], vc, .int .i64 sz] w (RetWB w (findZ ar cs sz) (findT ar cs sz) (findIs ar cs sz)) := by
  replace hv := hv.in'
  replace hc := hc.in'
  have hs := (totCs_each hcs).2
  have HB : Bel w ((w.alloc (.cells #[v] 26)).alloc (.cells #[.int .i64 0, .slice none 0 0] 29)) := Bel.alloc2 _ _ _
  have HC := Lib.hid (fun (w' : World) (hb : Bel w w') => sCountWorlds_t (sz := sz) ha (hv.below hb) b1 b2)
  have KX : Hid (∀ w', Bel ((w.alloc (.cells #[v] 26)).alloc (.cells #[.int .i64 0, .slice none 0 0] 29)) w' → w'.cell? ⟨w.heap.size, 0, none⟩ = some v ∧ w'.cell? ⟨w.heap.size + 1, 0, none⟩ = some (.int .i64 0) ∧ w'.cell? ⟨w.heap.size + 1, 1, none⟩ = some (.slice none 0 0) ∧ w.heap.size + 1 < w'.heap.size ∧ ∀ i, w'.frozen? ⟨w.heap.size + 1, i, none⟩ = false) := fun w' hq =>
    ⟨hq.at (by simp; omega) (by simp [go_sem]), hq.at (by simp) (by simp [go_sem]), hq.at (by simp) (by simp [go_sem]), by have := hq.size; simp at this; omega, fun i => (hq.frozen (p := ⟨w.heap.size + 1, i, none⟩) (by simp)).trans (by simp [go_sem])⟩
  have HNO : ∀ w', Bel w w' → Bel w ((w'.setCell ⟨w.heap.size + 1, 0, none⟩ (.int .i64 0)).setCell ⟨w.heap.size + 1, 1, none⟩ (.slice none 0 0)) := fun w' hb => (hb.set (p := ⟨w.heap.size + 1, 0, none⟩) (by simp) _).set (p := ⟨w.heap.size + 1, 1, none⟩) (by simp) _
  have HNO := Lib.hid HNO
  have NONE : findIdx ar cs sz = none → Hid (findZ ar cs sz = 0 ∧ findT ar cs sz = [] ∧ findIs ar cs sz = false) := fun e => by
    show _ ∧ _ ∧ _
    unfold findZ findT findIs; rw [e]; exact ⟨rfl, rfl, rfl⟩
  cases hq : (goodSign ar && inB sz 1 3) with
  | false =>
    have E := NONE (by unfold findIdx findOk; rw [hq]; rfl)
    rw [hq] at HC
    rw [E.out.1, E.out.2.1, E.out.2.2]
    generalize worldsAns ar sz = m at *
    clear hq NONE E
    go_enter Try.func14, Try.ntmps14
    go_wp2_with fail
    refine (HC.out _ HB).mono ?_; rintro e w1 ⟨rfl, hb1⟩
    obtain ⟨x0, x1, x2, x3, x4⟩ := KX.out _ hb1
    go_wp2_with fail
    refine bodyPost_ret (v := .tuple #[.agg #[.int .i64 0, .slice none 0 0], .bool false]) (by simp [results, Try.results14, go_sem, x1, x2]) rfl ⟨_, _, _, rfl, OwnS.nil _ _ _, HNO.out _ (HB.step hb1)⟩
  | true =>
    have hg : goodSign ar = true := by revert hq; cases goodSign ar <;> simp
    have h1 : inB sz 1 3 = true := by revert hq; cases inB sz 1 3 <;> simp
    obtain ⟨z1, z3⟩ : 1 ≤ sz ∧ sz ≤ 3 := by unfold inB at h1; simpa using h1
    have hm := worlds_le ar sz z1
    have hm0 : 0 ≤ worldsAns ar sz := by unfold worldsAns; rw [hq, if_pos rfl]; exact Int.le_trans (by decide) (cwN_bd z1 _).1
    rw [hq] at HC
    have EOK : findOk ar sz cs = (decide (worldsAns ar sz ≤ 3000) && triable ar cs) := by unfold findOk; rw [hq]; rfl
    have HT := Lib.hid (fun (w' : World) (hb : Bel w w') => l5Clauses_c _ _ _ _ v vc ar cs w' hg (hv.below hb) hs (hc.below hb))
    by_cases h3 : worldsAns ar sz ≤ 3000
    · cases ht : triable ar cs with
      | false =>
        have E := NONE (by unfold findIdx; rw [EOK, ht, Bool.and_false]; rfl)
        rw [E.out.1, E.out.2.1, E.out.2.2]
        rw [ht] at HT
        have hd : decide (worldsAns ar sz > 3000) = false := decide_eq_false (by omega)
        clear hq EOK ht NONE E
        generalize worldsAns ar sz = m at *
        go_enter Try.func14, Try.ntmps14
        go_wp2_with fail
        refine (HC.out _ HB).mono ?_; rintro e w1 ⟨rfl, hb1⟩
        obtain ⟨x0, x1, x2, x3, x4⟩ := KX.out _ hb1
        go_wp2_with fail
        refine (HT.out _ (HB.step hb1)).mono ?_; rintro e w2 ⟨rfl, hb2⟩
        obtain ⟨y0, y1, y2, y3, y4⟩ := KX.out _ (hb1.step hb2)
        go_wp2_with fail
        refine bodyPost_ret (v := .tuple #[.agg #[.int .i64 0, .slice none 0 0], .bool false]) (by simp [results, Try.results14, go_sem, y1, y2]) rfl ⟨_, _, _, rfl, OwnS.nil _ _ _, HNO.out _ (HB.step (hb1.step hb2))⟩
      | true =>
        obtain ⟨q40, qok⟩ := triable_ok ht
        rw [ht] at HT
        have hd : decide (worldsAns ar sz > 3000) = false := decide_eq_false (by omega)
        obtain ⟨Z, rfl⟩ : ∃ Z : Nat, sz = (Z : Int) := ⟨sz.toNat, by omega⟩
        obtain ⟨M, hM⟩ : ∃ M : Nat, worldsAns ar Z = (M : Int) := ⟨(worldsAns ar Z).toNat, by omega⟩
        obtain ⟨R, hR⟩ : ∃ R, R = findN ar Z cs 0 M := ⟨_, rfl⟩
        have EI : Hid (findIdx ar cs Z = R) := by
          show _ = _
          unfold findIdx; rw [EOK, ht, decide_eq_true h3, hM, hR]; rfl
        have HW := Lib.hid (fun (N : Nat) (w' : World) (hN : N ≤ 10000) (hb : Bel w w') => l5WorldAt_c _ _ v ar Z N w' hg (by omega) (by omega) hN (hv.below hb))
        have HA := Lib.hid (fun (N : Nat) (u : Value) (w' : World) (hb : Bel w w') (hu : SlS 0 w'.heap.size w' u (tabN ar Z N ar.length)) => l5All_c v u vc ar Z (tabN ar Z N ar.length) cs w' hg (tabN_world (by omega) (by omega)) qok hs q40 (hv.below hb).in' hu (hc.below hb).in')
        have HTL : Hid (∀ N, (tabN ar Z N ar.length).length = ar.length) := fun N => tabN_len _ _ _ _
        rw [hM] at HC hm h3 hd
        have NZ := Lib.hid NONE
        clear hq EOK ht NONE hs hm0
        go_enter Try.func14, Try.ntmps14
        go_wp2_with fail
        refine (HC.out _ HB).mono ?_; rintro e w1 ⟨rfl, hb1⟩
        obtain ⟨x0, x1, x2, x3, x4⟩ := KX.out _ hb1
        go_wp2_with fail
        refine (HT.out _ (HB.step hb1)).mono ?_; rintro e w2 ⟨rfl, hb2⟩
        have hb12 := hb1.step hb2
        clear x0 x1 x2 x3 x4
        go_wp2_with fail
        go_loopw [10] (fun i wr => ∃ k : Nat, k ≤ M ∧ i = .int .i64 k ∧ findN ar Z cs k (M - k) = R ∧ Bel ((w.alloc (.cells #[v] 26)).alloc (.cells #[.int .i64 0, .slice none 0 0] 29)) wr) (fun i _ => M - (intOf i).toNat)
        case atStart => exact ⟨0, Nat.zero_le _, rfl, by rw [hR, Nat.sub_zero], hb12⟩
        case round =>
          obtain ⟨k, hk, rfl, hf, hb⟩ := hrel
          obtain ⟨x0, x1, x2, x3, x4⟩ := KX.out _ hb
          by_cases hlt : k < M
          · have HWk := Lib.hid (HW.out k wr (by omega) (HB.step hb))
            have HAk := Lib.hid (HA.out k)
            have hf1 : findN ar Z cs k ((M - k - 1) + 1) = R := by rw [show M - k - 1 + 1 = M - k by omega]; exact hf
            have hlk : (k : Int) < M := by omega
            rw [findN] at hf1
            have htl := HTL.out k
            have EIk : Hid (R = some k → findZ ar cs Z = Z ∧ findT ar cs Z = tabN ar Z k ar.length ∧ findIs ar cs Z = true) := fun e => by
              unfold findZ findT findIs; rw [EI.out, e]; exact ⟨rfl, by rw [Int.toNat_natCast], rfl⟩
            generalize tabN ar Z k ar.length = T at *
            clear hf HW HA HT HC HTL hv hc
            generalize hAA : heldAll ar Z T cs = AA at *
            have HAA := Lib.hid hAA
            clear hAA
            have HF1 := Lib.hid hf1
            clear hf1
            cases AA with
            | true =>
              have hR2 := HF1.out
              rw [if_pos rfl] at hR2
              obtain ⟨e1, e2, e3⟩ := EIk.out hR2.symm
              have E1 := Lib.hid e1; have E2 := Lib.hid e2; have E3 := Lib.hid e3
              clear e1 e2 e3 hR2 HF1 EIk EI hR
              go_wp2_with fail
              refine HWk.out.mono ?_; rintro e w3 ⟨a3, n3, c3, rfl, o3, hb3⟩
              have hBx := (hb.step hb3).alloc (.cells #[.int .i64 (Z : Int), .slice a3 n3 c3] 29)
              obtain ⟨y0, y1, y2, y3, y4⟩ := KX.out _ hBx
              go_wp2_with fail
              refine (HAk.out (.slice a3 n3 c3) _ (HB.step hBx) (o3.sl.below (Bel.alloc0 _ _)).in').mono ?_; rintro e w4 ⟨rfl, hb4⟩
              obtain ⟨g0, g1, g2, g3, g4⟩ := KX.out _ (hBx.step hb4)
              have t0 : w4.cell? ⟨w3.heap.size, 0, none⟩ = some (.int .i64 (Z : Int)) := hb4.at (by simp) (by simp [go_sem])
              have t1 : w4.cell? ⟨w3.heap.size, 1, none⟩ = some (.slice a3 n3 c3) := hb4.at (by simp) (by simp [go_sem])
              have z3' := hb3.size
              have zr := hb.size
              simp only [World.size_alloc] at zr
              go_wp2_with fail
              refine bodyPost_ret (v := .tuple #[.agg #[.int .i64 (Z : Int), .slice a3 n3 c3], .bool true]) (by simp [results, Try.results14, go_sem, g1, g2]) rfl ?_
              rw [E1.out, E2.out, E3.out]
              have o4 := o3.below ((Bel.alloc0 w3 (.cells #[.int .i64 (Z : Int), .slice a3 n3 c3] 29)).step hb4)
              have z4 := hb4.size
              simp only [World.size_alloc] at z4
              refine ⟨_, _, _, rfl, ?_, ?_⟩
              · exact ((o4.set (p := ⟨w.heap.size + 1, 0, none⟩) (.inl (by show w.heap.size + 1 < _; omega)) _).set (p := ⟨w.heap.size + 1, 1, none⟩) (.inl (by show w.heap.size + 1 < _; omega)) _).mono (by omega) (by simp; omega)
              · exact ((HB.step (hBx.step hb4)).set (p := ⟨w.heap.size + 1, 0, none⟩) (by simp) _).set (p := ⟨w.heap.size + 1, 1, none⟩) (by simp) _
            | false =>
              have hR2 := HF1.out
              rw [if_neg (by simp)] at hR2
              have HR2 := Lib.hid hR2
              clear hR2 HF1 EIk EI hR
              go_wp2_with fail
              refine HWk.out.mono ?_; rintro e w3 ⟨a3, n3, c3, rfl, o3, hb3⟩
              have hBx := (hb.step hb3).alloc (.cells #[.int .i64 (Z : Int), .slice a3 n3 c3] 29)
              obtain ⟨y0, y1, y2, y3, y4⟩ := KX.out _ hBx
              go_wp2_with fail
              refine (HAk.out (.slice a3 n3 c3) _ (HB.step hBx) (o3.sl.below (Bel.alloc0 _ _)).in').mono ?_; rintro e w4 ⟨rfl, hb4⟩
              go_wp2_with fail
              go_roundw
              case rel => exact ⟨k+1, by omega, by go_num, by rw [← HR2.out, show M - (k + 1) = M - k - 1 by omega], hBx.step hb4⟩
              case measure => simp [intOf]; omega
          · obtain rfl : k = M := by omega
            rw [Nat.sub_self] at hf
            have hRN : R = none := by rw [← hf]; rfl
            have E := NZ.out (by rw [EI.out]; exact hRN)
            have E1 := Lib.hid E.out.1; have E2 := Lib.hid E.out.2.1; have E3 := Lib.hid E.out.2.2
            clear hf hRN E NZ EI hR HW HA HT HC HTL hv hc
            go_wp2_with fail
            refine bodyPost_ret (v := .tuple #[.agg #[.int .i64 0, .slice none 0 0], .bool false]) (by simp [results, Try.results14, go_sem, x1, x2]) rfl ?_
            rw [E1.out, E2.out, E3.out]
            exact ⟨_, _, _, rfl, OwnS.nil _ _ _, HNO.out _ (HB.step hb)⟩
    · have hd : decide (worldsAns ar sz > 3000) = true := decide_eq_true (by omega)
      have E := NONE (by unfold findIdx; rw [EOK, decide_eq_false h3, Bool.false_and]; rfl)
      rw [E.out.1, E.out.2.1, E.out.2.2]
      clear hq EOK NONE E HT
      generalize worldsAns ar sz = m at *
      go_enter Try.func14, Try.ntmps14
      go_wp2_with fail
      refine (HC.out _ HB).mono ?_; rintro e w1 ⟨rfl, hb1⟩
      obtain ⟨x0, x1, x2, x3, x4⟩ := KX.out _ hb1
      go_wp2_with fail
      refine bodyPost_ret (v := .tuple #[.agg #[.int .i64 0, .slice none 0 0], .bool false]) (by simp [results, Try.results14, go_sem, x1, x2]) rfl ⟨_, _, _, rfl, OwnS.nil _ _ _, HNO.out _ (HB.step hb1)⟩
end Go.Proofs.Ytlcjcihohclmhaa
end
section
/- Chapter 5: FindWorld, the program. -/
namespace Go.Proofs.Ytlcjcihohclmhaa
open Go.RowKit

set_option maxRecDepth 100000 in
set_option maxHeartbeats 2000000 in
theorem iFindWorld_t {l h l2 h2 : Nat} {v vc : Value} {ar : List Int} {cs : List (List Lt)} {sz : Int} {w : World} (ha : ar.length ≤ 1048576) (hv : SlI l h w v ar) (hcs : totCs cs ≤ 1048576) (hc : SlCs l2 h2 w vc cs) (b1 : -9223372036854775808 ≤ sz) (b2 : sz ≤ 9223372036854775807) :
    Calls Try.prog 13 #[.agg #[v], vc, .int .i64 sz] w (RetWB w (findZ ar cs sz) (findT ar cs sz) (findIs ar cs sz)) := by
  replace hv := hv.in'
  replace hc := hc.in'
  have hs := (totCs_each hcs).2
  have HB : Bel w ((w.alloc (.cells #[v] 26)).alloc (.cells #[.int .i64 0, .slice none 0 0] 29)) := Bel.alloc2 _ _ _
  have HC := Lib.hid (fun (w' : World) (hb : Bel w w') => iCountWorlds_t (sz := sz) ha (hv.below hb) b1 b2)
  have KX : Hid (∀ w', Bel ((w.alloc (.cells #[v] 26)).alloc (.cells #[.int .i64 0, .slice none 0 0] 29)) w' → w'.cell? ⟨w.heap.size, 0, none⟩ = some v ∧ w'.cell? ⟨w.heap.size + 1, 0, none⟩ = some (.int .i64 0) ∧ w'.cell? ⟨w.heap.size + 1, 1, none⟩ = some (.slice none 0 0) ∧ w.heap.size + 1 < w'.heap.size ∧ ∀ i, w'.frozen? ⟨w.heap.size + 1, i, none⟩ = false) := fun w' hq =>
    ⟨hq.at (by simp; omega) (by simp [go_sem]), hq.at (by simp) (by simp [go_sem]), hq.at (by simp) (by simp [go_sem]), by have := hq.size; simp at this; omega, fun i => (hq.frozen (p := ⟨w.heap.size + 1, i, none⟩) (by simp)).trans (by simp [go_sem])⟩
  have HNO : ∀ w', Bel w w' → Bel w ((w'.setCell ⟨w.heap.size + 1, 0, none⟩ (.int .i64 0)).setCell ⟨w.heap.size + 1, 1, none⟩ (.slice none 0 0)) := fun w' hb => (hb.set (p := ⟨w.heap.size + 1, 0, none⟩) (by simp) _).set (p := ⟨w.heap.size + 1, 1, none⟩) (by simp) _
  have HNO := Lib.hid HNO
  have NONE : findIdx ar cs sz = none → Hid (findZ ar cs sz = 0 ∧ findT ar cs sz = [] ∧ findIs ar cs sz = false) := fun e => by
    show _ ∧ _ ∧ _
    unfold findZ findT findIs; rw [e]; exact ⟨rfl, rfl, rfl⟩
  cases hq : (goodSign ar && inB sz 1 3) with
  | false =>
    have E := NONE (by unfold findIdx findOk; rw [hq]; rfl)
    rw [hq] at HC
    rw [E.out.1, E.out.2.1, E.out.2.2]
    generalize worldsAns ar sz = m at *
    clear hq NONE E
    go_enter Try.func13, Try.ntmps13
    go_wp2_with fail
    refine (HC.out _ HB).mono ?_; rintro e w1 ⟨rfl, hb1⟩
    obtain ⟨x0, x1, x2, x3, x4⟩ := KX.out _ hb1
    go_wp2_with fail
    refine bodyPost_ret (v := .tuple #[.agg #[.int .i64 0, .slice none 0 0], .bool false]) (by simp [results, Try.results13, go_sem, x1, x2]) rfl ⟨_, _, _, rfl, OwnS.nil _ _ _, HNO.out _ (HB.step hb1)⟩
  | true =>
    have hg : goodSign ar = true := by revert hq; cases goodSign ar <;> simp
    have h1 : inB sz 1 3 = true := by revert hq; cases inB sz 1 3 <;> simp
    obtain ⟨z1, z3⟩ : 1 ≤ sz ∧ sz ≤ 3 := by unfold inB at h1; simpa using h1
    have hm := worlds_le ar sz z1
    have hm0 : 0 ≤ worldsAns ar sz := by unfold worldsAns; rw [hq, if_pos rfl]; exact Int.le_trans (by decide) (cwN_bd z1 _).1
    rw [hq] at HC
    have EOK : findOk ar sz cs = (decide (worldsAns ar sz ≤ 3000) && triable ar cs) := by unfold findOk; rw [hq]; rfl
    have HT := Lib.hid (fun (w' : World) (hb : Bel w w') => areTriable_v (rfl : triable ar cs = triable ar cs) ha (hv.below hb) hs (hc.below hb))
    by_cases h3 : worldsAns ar sz ≤ 3000
    · cases ht : triable ar cs with
      | false =>
        have E := NONE (by unfold findIdx; rw [EOK, ht, Bool.and_false]; rfl)
        rw [E.out.1, E.out.2.1, E.out.2.2]
        rw [ht] at HT
        have hd : decide (worldsAns ar sz > 3000) = false := decide_eq_false (by omega)
        clear hq EOK ht NONE E
        generalize worldsAns ar sz = m at *
        go_enter Try.func13, Try.ntmps13
        go_wp2_with fail
        refine (HC.out _ HB).mono ?_; rintro e w1 ⟨rfl, hb1⟩
        obtain ⟨x0, x1, x2, x3, x4⟩ := KX.out _ hb1
        go_wp2_with fail
        refine (HT.out _ (HB.step hb1)).mono ?_; rintro e w2 ⟨rfl, hb2⟩
        obtain ⟨y0, y1, y2, y3, y4⟩ := KX.out _ (hb1.step hb2)
        go_wp2_with fail
        refine bodyPost_ret (v := .tuple #[.agg #[.int .i64 0, .slice none 0 0], .bool false]) (by simp [results, Try.results13, go_sem, y1, y2]) rfl ⟨_, _, _, rfl, OwnS.nil _ _ _, HNO.out _ (HB.step (hb1.step hb2))⟩
      | true =>
        obtain ⟨q40, qok⟩ := triable_ok ht
        rw [ht] at HT
        have hd : decide (worldsAns ar sz > 3000) = false := decide_eq_false (by omega)
        obtain ⟨Z, rfl⟩ : ∃ Z : Nat, sz = (Z : Int) := ⟨sz.toNat, by omega⟩
        obtain ⟨M, hM⟩ : ∃ M : Nat, worldsAns ar Z = (M : Int) := ⟨(worldsAns ar Z).toNat, by omega⟩
        obtain ⟨R, hR⟩ : ∃ R, R = findN ar Z cs 0 M := ⟨_, rfl⟩
        have EI : Hid (findIdx ar cs Z = R) := by
          show _ = _
          unfold findIdx; rw [EOK, ht, decide_eq_true h3, hM, hR]; rfl
        have HW := Lib.hid (fun (N : Nat) (w' : World) (hN : N ≤ 10000) (hb : Bel w w') => worldAt_c _ _ v ar Z N w' hg (by omega) (by omega) hN (hv.below hb))
        have HA := Lib.hid (fun (N : Nat) (u : Value) (w' : World) (hb : Bel w w') (hu : SlS 0 w'.heap.size w' u (tabN ar Z N ar.length)) => allHold_c v u vc ar Z (tabN ar Z N ar.length) cs w' hg (tabN_world (by omega) (by omega)) qok hs q40 (hv.below hb).in' hu (hc.below hb).in')
        have HTL : Hid (∀ N, (tabN ar Z N ar.length).length = ar.length) := fun N => tabN_len _ _ _ _
        rw [hM] at HC hm h3 hd
        have NZ := Lib.hid NONE
        clear hq EOK ht NONE hs hm0
        go_enter Try.func13, Try.ntmps13
        go_wp2_with fail
        refine (HC.out _ HB).mono ?_; rintro e w1 ⟨rfl, hb1⟩
        obtain ⟨x0, x1, x2, x3, x4⟩ := KX.out _ hb1
        go_wp2_with fail
        refine (HT.out _ (HB.step hb1)).mono ?_; rintro e w2 ⟨rfl, hb2⟩
        have hb12 := hb1.step hb2
        clear x0 x1 x2 x3 x4
        go_wp2_with fail
        go_loopw [32] (fun i wr => ∃ k : Nat, k ≤ M ∧ i = .int .i64 k ∧ findN ar Z cs k (M - k) = R ∧ Bel ((w.alloc (.cells #[v] 26)).alloc (.cells #[.int .i64 0, .slice none 0 0] 29)) wr) (fun i _ => M - (intOf i).toNat)
        case atStart => exact ⟨0, Nat.zero_le _, rfl, by rw [hR, Nat.sub_zero], hb12⟩
        case round =>
          obtain ⟨k, hk, rfl, hf, hb⟩ := hrel
          obtain ⟨x0, x1, x2, x3, x4⟩ := KX.out _ hb
          by_cases hlt : k < M
          · have HWk := Lib.hid (HW.out k wr (by omega) (HB.step hb))
            have HAk := Lib.hid (HA.out k)
            have hf1 : findN ar Z cs k ((M - k - 1) + 1) = R := by rw [show M - k - 1 + 1 = M - k by omega]; exact hf
            have hlk : (k : Int) < M := by omega
            rw [findN] at hf1
            have htl := HTL.out k
            have EIk : Hid (R = some k → findZ ar cs Z = Z ∧ findT ar cs Z = tabN ar Z k ar.length ∧ findIs ar cs Z = true) := fun e => by
              unfold findZ findT findIs; rw [EI.out, e]; exact ⟨rfl, by rw [Int.toNat_natCast], rfl⟩
            generalize tabN ar Z k ar.length = T at *
            clear hf HW HA HT HC HTL hv hc
            generalize hAA : heldAll ar Z T cs = AA at *
            have HAA := Lib.hid hAA
            clear hAA
            have HF1 := Lib.hid hf1
            clear hf1
            cases AA with
            | true =>
              have hR2 := HF1.out
              rw [if_pos rfl] at hR2
              obtain ⟨e1, e2, e3⟩ := EIk.out hR2.symm
              have E1 := Lib.hid e1; have E2 := Lib.hid e2; have E3 := Lib.hid e3
              clear e1 e2 e3 hR2 HF1 EIk EI hR
              go_wp2_with fail
              refine HWk.out.mono ?_; rintro e w3 ⟨a3, n3, c3, rfl, o3, hb3⟩
              have hBx := (hb.step hb3).alloc (.cells #[.int .i64 (Z : Int), .slice a3 n3 c3] 29)
              obtain ⟨y0, y1, y2, y3, y4⟩ := KX.out _ hBx
              go_wp2_with fail
              refine (HAk.out (.slice a3 n3 c3) _ (HB.step hBx) (o3.sl.below (Bel.alloc0 _ _)).in').mono ?_; rintro e w4 ⟨rfl, hb4⟩
              obtain ⟨g0, g1, g2, g3, g4⟩ := KX.out _ (hBx.step hb4)
              have t0 : w4.cell? ⟨w3.heap.size, 0, none⟩ = some (.int .i64 (Z : Int)) := hb4.at (by simp) (by simp [go_sem])
              have t1 : w4.cell? ⟨w3.heap.size, 1, none⟩ = some (.slice a3 n3 c3) := hb4.at (by simp) (by simp [go_sem])
              have z3' := hb3.size
              have zr := hb.size
              simp only [World.size_alloc] at zr
              go_wp2_with fail
              refine bodyPost_ret (v := .tuple #[.agg #[.int .i64 (Z : Int), .slice a3 n3 c3], .bool true]) (by simp [results, Try.results13, go_sem, g1, g2]) rfl ?_
              rw [E1.out, E2.out, E3.out]
              have o4 := o3.below ((Bel.alloc0 w3 (.cells #[.int .i64 (Z : Int), .slice a3 n3 c3] 29)).step hb4)
              have z4 := hb4.size
              simp only [World.size_alloc] at z4
              refine ⟨_, _, _, rfl, ?_, ?_⟩
              · exact ((o4.set (p := ⟨w.heap.size + 1, 0, none⟩) (.inl (by show w.heap.size + 1 < _; omega)) _).set (p := ⟨w.heap.size + 1, 1, none⟩) (.inl (by show w.heap.size + 1 < _; omega)) _).mono (by omega) (by simp; omega)
              · exact ((HB.step (hBx.step hb4)).set (p := ⟨w.heap.size + 1, 0, none⟩) (by simp) _).set (p := ⟨w.heap.size + 1, 1, none⟩) (by simp) _
            | false =>
              have hR2 := HF1.out
              rw [if_neg (by simp)] at hR2
              have HR2 := Lib.hid hR2
              clear hR2 HF1 EIk EI hR
              go_wp2_with fail
              refine HWk.out.mono ?_; rintro e w3 ⟨a3, n3, c3, rfl, o3, hb3⟩
              have hBx := (hb.step hb3).alloc (.cells #[.int .i64 (Z : Int), .slice a3 n3 c3] 29)
              obtain ⟨y0, y1, y2, y3, y4⟩ := KX.out _ hBx
              go_wp2_with fail
              refine (HAk.out (.slice a3 n3 c3) _ (HB.step hBx) (o3.sl.below (Bel.alloc0 _ _)).in').mono ?_; rintro e w4 ⟨rfl, hb4⟩
              go_wp2_with fail
              go_roundw
              case rel => exact ⟨k+1, by omega, by go_num, by rw [← HR2.out, show M - (k + 1) = M - k - 1 by omega], hBx.step hb4⟩
              case measure => simp [intOf]; omega
          · obtain rfl : k = M := by omega
            rw [Nat.sub_self] at hf
            have hRN : R = none := by rw [← hf]; rfl
            have E := NZ.out (by rw [EI.out]; exact hRN)
            have E1 := Lib.hid E.out.1; have E2 := Lib.hid E.out.2.1; have E3 := Lib.hid E.out.2.2
            clear hf hRN E NZ EI hR HW HA HT HC HTL hv hc
            go_wp2_with fail
            refine bodyPost_ret (v := .tuple #[.agg #[.int .i64 0, .slice none 0 0], .bool false]) (by simp [results, Try.results13, go_sem, x1, x2]) rfl ?_
            rw [E1.out, E2.out, E3.out]
            exact ⟨_, _, _, rfl, OwnS.nil _ _ _, HNO.out _ (HB.step hb)⟩
    · have hd : decide (worldsAns ar sz > 3000) = true := decide_eq_true (by omega)
      have E := NONE (by unfold findIdx; rw [EOK, decide_eq_false h3, Bool.false_and]; rfl)
      rw [E.out.1, E.out.2.1, E.out.2.2]
      clear hq EOK NONE E HT
      generalize worldsAns ar sz = m at *
      go_enter Try.func13, Try.ntmps13
      go_wp2_with fail
      refine (HC.out _ HB).mono ?_; rintro e w1 ⟨rfl, hb1⟩
      obtain ⟨x0, x1, x2, x3, x4⟩ := KX.out _ hb1
      go_wp2_with fail
      refine bodyPost_ret (v := .tuple #[.agg #[.int .i64 0, .slice none 0 0], .bool false]) (by simp [results, Try.results13, go_sem, x1, x2]) rfl ⟨_, _, _, rfl, OwnS.nil _ _ _, HNO.out _ (HB.step hb1)⟩
end Go.Proofs.Ytlcjcihohclmhaa
end
section
/- The laws' comparison of lists of lists. -/
namespace Go.Proofs.Ytlcjcihohclmhaa
open Go.RowKit

set_option maxRecDepth 100000 in
set_option maxHeartbeats 400000 in
theorem sameLists_same (l h l' h' : Nat) (v u : Value) (xss : List (List Int)) (w : World) (hs : short xss) (hv : SlS l h w v xss) (hu : SlS l' h' w u xss) :
    Calls Try.prog 44 #[v, u] w (RetV w (.bool true)) := by
  obtain ⟨va, vc, rfl⟩ := hv.form
  obtain ⟨ua, uc, rfl⟩ := hu.form
  obtain ⟨hl, hj⟩ := hs
  go_enter Try.func44, Try.ntmps44
  go_wp2_with fail
  go_loopw [13] (fun i wr => ∃ k : Nat, k ≤ xss.length ∧ i = .int .i64 k ∧ Bel w wr) (fun i _ => xss.length - (intOf i).toNat)
  case atStart => exact ⟨0, Nat.zero_le _, rfl, Bel.rfl' _⟩
  case round =>
    obtain ⟨k, hk, rfl, hb⟩ := hrel
    by_cases hlt : k < xss.length
    · obtain ⟨b1, o1, p1, rfl, -, hc1, hp1⟩ := hv.at hb k hlt
      obtain ⟨b2, o2, p2, rfl, -, hc2, hp2⟩ := hu.at hb k hlt
      have hjk := hj k hlt
      have hk64 : (k : Int) < xss.length := by omega
      have HS := Lib.hid (sameInts_same _ _ _ _ _ _ (xss.getD k []) _ hjk (hp1.below (Bel.drew0 wr)) (hp2.below (Bel.drew0 wr)))
      generalize xss.getD k [] = t at *
      obtain ⟨pa, pc, rfl⟩ := hp1.form
      obtain ⟨qa, qc, rfl⟩ := hp2.form
      go_wp2_with fail
      go_region_held3 (fun w' => w'.cell? ⟨b1, o1 + k, none⟩ = some (.slice pa t.length pc) ∧ w'.cell? ⟨b2, o2 + k, none⟩ = some (.slice qa t.length qc))
        (first | exact ⟨hc1, hc2⟩ | exact hcc | fail)
        (first | (go_at_call 10; refine HS.out.mono ?_; rintro e w1 ⟨rfl, hb1⟩; have hcc : w1.cell? ⟨b1, o1 + k, none⟩ = some (.slice pa t.length pc) ∧ w1.cell? ⟨b2, o2 + k, none⟩ = some (.slice qa t.length qc) := ⟨hb1.of_drew.at (World.block_lt_of_cell? _ ⟨_, _, none⟩ hc1) hc1, hb1.of_drew.at (World.block_lt_of_cell? _ ⟨_, _, none⟩ hc2) hc2⟩) | fail)
      go_wp2_with fail
      go_roundw
      case rel => exact ⟨k+1, by omega, by go_num, hb.step hb1.of_drew⟩
      case measure => simp [intOf]; omega
    · go_wp2_with fail
      go_ret
      exact ⟨rfl, hb⟩
end Go.Proofs.Ytlcjcihohclmhaa
end
section
/- Contracts of chapter 5 with the answers named, for FnWorlds; what they say. -/
namespace Go.Proofs.Ytlcjcihohclmhaa
open Go.RowKit

theorem tryW_has {g : Nat → Option (List Int)} {r : List Int} : ∀ m k, tryW g k m = some r → ∃ n, g n = some r := by
  intro m
  induction m with
  | zero => intro k h; simp [tryW] at h
  | succ m ih =>
    intro k h
    cases hg : g k with
    | some e => rw [tryW_some hg] at h; cases h; exact ⟨k, hg⟩
    | none => rw [tryW_none hg] at h; exact ih _ h
theorem lw_no {Z : Nat} {P : List Int → Bool} : ∀ (vs : List Nat) (e r : List Int), lw Z P vs e = some r → P r = false := by
  intro vs
  induction vs with
  | nil =>
    intro e r hl
    unfold lw at hl
    split at hl
    · simp at hl
    · rename_i h; simp at hl; subst hl; simpa using h
  | cons v vs ih =>
    intro e r hl
    obtain ⟨n, hg⟩ := tryW_has _ _ hl
    exact ih _ _ hg
/-- What FalseAt, HoldsIn and HoldsAt say of one clause. -/
theorem worlds1_ok {ar : List Int} {Z : Int} {tb : List (List Int)} {c : List Lt} {e : List Int} {ok h one : Bool} (h1 : falseAns ar Z tb c = e) (h2 : falseIs ar Z tb c = ok) (h3 : heldAns ar Z tb c = h) (h4 : falseOk ar Z tb c = one) :
    (one = true → ok = !h) ∧ (ok = true → holdsOk ar Z tb c e = true ∧ holdsAns ar Z tb c e = false) := by
  subst h1 h2 h3 h4
  refine ⟨fun h => ?_, fun h => ?_⟩
  · unfold falseIs heldAns heldC
    rw [h, if_pos rfl]
    simp
  · unfold falseIs at h
    obtain ⟨ho, hs⟩ := Bool.and_eq_true_iff.1 h
    obtain ⟨r, hr⟩ := Option.isSome_iff_exists.1 hs
    have ho2 := ho
    unfold falseOk at ho2
    obtain ⟨hg, hl⟩ := Bool.and_eq_true_iff.1 ho2
    obtain ⟨hl, _⟩ := Bool.and_eq_true_iff.1 hl
    have hw := hg
    unfold goodWorld at hw
    have z1 := (isWorld_iff.1 (Bool.and_eq_true_iff.1 hw).2).1
    have hE : falseAns ar Z tb c = r := by unfold falseAns; rw [if_pos ho, hr]; rfl
    rw [hE]
    have hok : holdsOk ar Z tb c r = true := by unfold holdsOk; rw [hg, hl, lwC_ok z1 hr]; rfl
    refine ⟨hok, ?_⟩
    unfold holdsAns
    rw [if_pos hok]
    unfold lwC at hr
    exact lw_no _ _ _ hr
theorem findN_some {ar : List Int} {Z : Nat} {cs : List (List Lt)} {r : Nat} : ∀ m k, findN ar Z cs k m = some r → heldAll ar Z (tabN ar Z r ar.length) cs = true := by
  intro m
  induction m with
  | zero => intro k h; simp [findN] at h
  | succ m ih =>
    intro k h
    rw [findN] at h
    split at h
    · rename_i h9; cases h; exact h9
    · exact ih _ h
theorem find_ok {ar : List Int} {cs : List (List Lt)} {sz : Int} (h : findIs ar cs sz = true) : allOk ar (findZ ar cs sz) (findT ar cs sz) cs = true ∧ allAns ar (findZ ar cs sz) (findT ar cs sz) cs = true ∧ goodWorld ar (findZ ar cs sz) (findT ar cs sz) = true := by
  unfold findIs at h
  obtain ⟨r, hr⟩ := Option.isSome_iff_exists.1 h
  have hZ : findZ ar cs sz = sz := by unfold findZ; rw [hr]
  have hT : findT ar cs sz = tabN ar sz.toNat r ar.length := by unfold findT; rw [hr]
  rw [hZ, hT]
  unfold findIdx at hr
  split at hr
  · rename_i h2
    unfold findOk at h2
    obtain ⟨h3, h4⟩ := Bool.and_eq_true_iff.1 h2
    obtain ⟨hg, hs⟩ := Bool.and_eq_true_iff.1 h3
    obtain ⟨_, htr⟩ := Bool.and_eq_true_iff.1 h4
    have hs2 : 1 ≤ sz ∧ sz ≤ 3 := by unfold inB at hs; simpa using hs
    have hall := findN_some _ _ hr
    have hzz : ((sz.toNat : Nat) : Int) = sz := by omega
    have hw : goodWorld ar sz (tabN ar sz.toNat r ar.length) = true := by
      unfold goodWorld
      have := tabN_world (ar := ar) (Z := sz.toNat) (N := r) (by omega) (by omega)
      rw [hzz] at this
      rw [hg, this]; rfl
    have hao : allOk ar sz (tabN ar sz.toNat r ar.length) cs = true := by unfold allOk; rw [hw, htr]; rfl
    refine ⟨hao, ?_, hw⟩
    unfold allAns
    rw [if_pos hao]
    rw [hzz] at hall
    exact hall
  · simp at hr
theorem worldAt_ok {ar : List Int} {sz no : Int} (h : worldAtOk ar sz no = true) : goodWorld ar (worldAtZ ar sz no) (worldAtT ar sz no) = true := by
  unfold worldAtZ worldAtT
  rw [if_pos h, if_pos h]
  unfold worldAtOk at h
  obtain ⟨h3, _⟩ := Bool.and_eq_true_iff.1 h
  obtain ⟨hg, hs⟩ := Bool.and_eq_true_iff.1 h3
  have hs2 : 1 ≤ sz ∧ sz ≤ 3 := by unfold inB at hs; simpa using hs
  unfold goodWorld
  have := tabN_world (ar := ar) (Z := sz.toNat) (N := no.toNat) (by omega) (by omega)
  rw [show ((sz.toNat : Nat) : Int) = sz by omega] at this
  rw [hg, this]; rfl
set_option maxRecDepth 100000 in
theorem sameWorld_same (l h l' h' : Nat) (v u : Value) (z : Int) (tb : List (List Int)) (w : World) (hs : short tb) (hv : SlS l h w v tb) (hu : SlS l' h' w u tb) :
    Calls Try.prog 15 #[.agg #[.int .i64 z, v], .agg #[.int .i64 z, u]] w (RetV w (.bool true)) := by
  have HB : Bel w ((w.alloc (.cells #[.int .i64 z, v] 29)).alloc (.cells #[.int .i64 z, u] 29)) := Bel.alloc2 _ _ _
  have HC := Lib.hid (sameLists_same l h l' h' v u tb _ hs (hv.below HB) (hu.below HB))
  have hne : (z == z) = true := by simp
  clear hv hu
  go_enter Try.func15, Try.ntmps15
  go_wp2_with fail
  refine HC.out.mono ?_; rintro e w1 ⟨rfl, hb1⟩
  go_wp2_with fail
  go_ret
  exact ⟨rfl, HB.step hb1⟩
theorem iFalseAt_vv {l h l' h' l2 h2 : Nat} {v u vc : Value} {ar : List Int} {sz : Int} {tb : List (List Int)} {c : List Lt} {w : World} (ha : ar.length ≤ 1048576) (hv : SlI l h w v ar) (hx : short tb) (hu : SlS l' h' w u tb) (hcs : sumC c ≤ 1048576) (hc : SlC l2 h2 w vc c) {y : List Int} {k : Bool} (e1 : falseAns ar sz tb c = y) (e2 : falseIs ar sz tb c = k) :
    Calls Try.prog 6 #[.agg #[v], .agg #[.int .i64 sz, u], vc] w (RetIB w y k) := by subst e1 e2; exact iFalseAt_t ha hv hx hu hcs hc
theorem iHoldsIn_ww {l h l' h' l2 h2 : Nat} {v u vc : Value} {ar : List Int} {sz : Int} {tb : List (List Int)} {c : List Lt} {w : World} (ha : ar.length ≤ 1048576) (hv : SlI l h w v ar) (hx : short tb) (hu : SlS l' h' w u tb) (hcs : sumC c ≤ 1048576) (hc : SlC l2 h2 w vc c) {y k : Bool} (e1 : heldAns ar sz tb c = y) (e2 : falseOk ar sz tb c = k) :
    Calls Try.prog 8 #[.agg #[v], .agg #[.int .i64 sz, u], vc] w (RetV w (.tuple #[.bool y, .bool k])) := by subst e1 e2; exact iHoldsIn_t ha hv hx hu hcs hc
theorem iAllHold_vv {l h l' h' l2 h2 : Nat} {v u vc : Value} {ar : List Int} {sz : Int} {tb : List (List Int)} {cs : List (List Lt)} {w : World} (ha : ar.length ≤ 1048576) (hv : SlI l h w v ar) (hx : short tb) (hu : SlS l' h' w u tb) (hs : totCs cs ≤ 1048576) (hc : SlCs l2 h2 w vc cs) {y k : Bool} (e1 : allAns ar sz tb cs = y) (e2 : allOk ar sz tb cs = k) :
    Calls Try.prog 16 #[.agg #[v], .agg #[.int .i64 sz, u], vc] w (RetV w (.tuple #[.bool y, .bool k])) := by subst e1 e2; exact iAllHold_t ha hv hx hu hs hc
theorem iFindWorld_vv {l h l2 h2 : Nat} {v vc : Value} {ar : List Int} {cs : List (List Lt)} {sz : Int} {w : World} (ha : ar.length ≤ 1048576) (hv : SlI l h w v ar) (hcs : totCs cs ≤ 1048576) (hc : SlCs l2 h2 w vc cs) (b1 : -9223372036854775808 ≤ sz) (b2 : sz ≤ 9223372036854775807) {z : Int} {tb : List (List Int)} {k : Bool} (e0 : findZ ar cs sz = z) (e1 : findT ar cs sz = tb) (e2 : findIs ar cs sz = k) :
    Calls Try.prog 13 #[.agg #[v], vc, .int .i64 sz] w (RetWB w z tb k) := by subst e0 e1 e2; exact iFindWorld_t ha hv hcs hc b1 b2
theorem iWorldAt_vv {l h : Nat} {v : Value} {ar : List Int} {sz no : Int} {w : World} (ha : ar.length ≤ 1048576) (hv : SlI l h w v ar) (b1 : -9223372036854775808 ≤ sz) (b2 : sz ≤ 9223372036854775807) (b3 : -9223372036854775808 ≤ no) (b4 : no ≤ 9223372036854775807) {z : Int} {tb : List (List Int)} {k : Bool} (e0 : worldAtZ ar sz no = z) (e1 : worldAtT ar sz no = tb) (e2 : worldAtOk ar sz no = k) :
    Calls Try.prog 19 #[.agg #[v], .int .i64 sz, .int .i64 no] w (RetWB w z tb k) := by subst e0 e1 e2; exact iWorldAt_t ha hv b1 b2 b3 b4
theorem iCountWorlds_vv {l h : Nat} {v : Value} {ar : List Int} {sz : Int} {w : World} (ha : ar.length ≤ 1048576) (hv : SlI l h w v ar) (b1 : -9223372036854775808 ≤ sz) (b2 : sz ≤ 9223372036854775807) {z : Int} {k : Bool} (e1 : worldsAns ar sz = z) (e2 : (goodSign ar && inB sz 1 3) = k) :
    Calls Try.prog 21 #[.agg #[v], .int .i64 sz] w (RetV w (.tuple #[.int .i64 z, .bool k])) := by subst e1 e2; exact iCountWorlds_t ha hv b1 b2
theorem sFalseAt_vv {l h l' h' l2 h2 : Nat} {v u vc : Value} {ar : List Int} {sz : Int} {tb : List (List Int)} {c : List Lt} {w : World} (ha : ar.length ≤ 1048576) (hv : SlI l h w v ar) (hx : short tb) (hu : SlS l' h' w u tb) (hcs : sumC c ≤ 1048576) (hc : SlC l2 h2 w vc c) {y : List Int} {k : Bool} (e1 : falseAns ar sz tb c = y) (e2 : falseIs ar sz tb c = k) :
    Calls Try.prog 7 #[.agg #[v], .agg #[.int .i64 sz, u], vc] w (RetIB w y k) := by subst e1 e2; exact sFalseAt_t ha hv hx hu hcs hc
theorem sHoldsIn_ww {l h l' h' l2 h2 : Nat} {v u vc : Value} {ar : List Int} {sz : Int} {tb : List (List Int)} {c : List Lt} {w : World} (ha : ar.length ≤ 1048576) (hv : SlI l h w v ar) (hx : short tb) (hu : SlS l' h' w u tb) (hcs : sumC c ≤ 1048576) (hc : SlC l2 h2 w vc c) {y k : Bool} (e1 : heldAns ar sz tb c = y) (e2 : falseOk ar sz tb c = k) :
    Calls Try.prog 9 #[.agg #[v], .agg #[.int .i64 sz, u], vc] w (RetV w (.tuple #[.bool y, .bool k])) := by subst e1 e2; exact sHoldsIn_t ha hv hx hu hcs hc
theorem sAllHold_vv {l h l' h' l2 h2 : Nat} {v u vc : Value} {ar : List Int} {sz : Int} {tb : List (List Int)} {cs : List (List Lt)} {w : World} (ha : ar.length ≤ 1048576) (hv : SlI l h w v ar) (hx : short tb) (hu : SlS l' h' w u tb) (hs : totCs cs ≤ 1048576) (hc : SlCs l2 h2 w vc cs) {y k : Bool} (e1 : allAns ar sz tb cs = y) (e2 : allOk ar sz tb cs = k) :
    Calls Try.prog 24 #[.agg #[v], .agg #[.int .i64 sz, u], vc] w (RetV w (.tuple #[.bool y, .bool k])) := by subst e1 e2; exact sAllHold_t ha hv hx hu hs hc
theorem sFindWorld_vv {l h l2 h2 : Nat} {v vc : Value} {ar : List Int} {cs : List (List Lt)} {sz : Int} {w : World} (ha : ar.length ≤ 1048576) (hv : SlI l h w v ar) (hcs : totCs cs ≤ 1048576) (hc : SlCs l2 h2 w vc cs) (b1 : -9223372036854775808 ≤ sz) (b2 : sz ≤ 9223372036854775807) {z : Int} {tb : List (List Int)} {k : Bool} (e0 : findZ ar cs sz = z) (e1 : findT ar cs sz = tb) (e2 : findIs ar cs sz = k) :
    Calls Try.prog 14 #[.agg #[v], vc, .int .i64 sz] w (RetWB w z tb k) := by subst e0 e1 e2; exact sFindWorld_t ha hv hcs hc b1 b2
theorem sWorldAt_vv {l h : Nat} {v : Value} {ar : List Int} {sz no : Int} {w : World} (ha : ar.length ≤ 1048576) (hv : SlI l h w v ar) (b1 : -9223372036854775808 ≤ sz) (b2 : sz ≤ 9223372036854775807) (b3 : -9223372036854775808 ≤ no) (b4 : no ≤ 9223372036854775807) {z : Int} {tb : List (List Int)} {k : Bool} (e0 : worldAtZ ar sz no = z) (e1 : worldAtT ar sz no = tb) (e2 : worldAtOk ar sz no = k) :
    Calls Try.prog 20 #[.agg #[v], .int .i64 sz, .int .i64 no] w (RetWB w z tb k) := by subst e0 e1 e2; exact sWorldAt_t ha hv b1 b2 b3 b4
theorem sCountWorlds_vv {l h : Nat} {v : Value} {ar : List Int} {sz : Int} {w : World} (ha : ar.length ≤ 1048576) (hv : SlI l h w v ar) (b1 : -9223372036854775808 ≤ sz) (b2 : sz ≤ 9223372036854775807) {z : Int} {k : Bool} (e1 : worldsAns ar sz = z) (e2 : (goodSign ar && inB sz 1 3) = k) :
    Calls Try.prog 22 #[.agg #[v], .int .i64 sz] w (RetV w (.tuple #[.int .i64 z, .bool k])) := by subst e1 e2; exact sCountWorlds_t ha hv b1 b2
theorem iHoldsAt_xx {l h l' h' l2 h2 l3 h3 : Nat} {v u vc ve : Value} {ar : List Int} {sz : Int} {tb : List (List Int)} {c : List Lt} {env : List Int} {w : World} (ha : ar.length ≤ 1048576) (hv : SlI l h w v ar) (hx : short tb) (hu : SlS l' h' w u tb) (hcs : sumC c ≤ 1048576) (hc : SlC l2 h2 w vc c) (hel : env.length ≤ 1048576) (he : SlI l3 h3 w ve env) {y k : Bool} (e1 : holdsAns ar sz tb c env = y) (e2 : holdsOk ar sz tb c env = k) :
    Calls Try.prog 11 #[.agg #[v], .agg #[.int .i64 sz, u], vc, ve] w (RetV w (.tuple #[.bool y, .bool k])) := by subst e1 e2; exact iHoldsAt_t ha hv hx hu hcs hc hel he
theorem iGoodWorld_xx {l h l' h' : Nat} {v u : Value} {ar : List Int} {sz : Int} {tb : List (List Int)} {w : World} {k : Bool} (e1 : goodWorld ar sz tb = k) (ha : ar.length ≤ 1048576) (hv : SlI l h w v ar) (hx : short tb) (hu : SlS l' h' w u tb) :
    Calls Try.prog 17 #[.agg #[v], .agg #[.int .i64 sz, u]] w (RetV w (.bool k)) := by subst e1; exact iGoodWorld_t ha hv hx hu
end Go.Proofs.Ytlcjcihohclmhaa
end
