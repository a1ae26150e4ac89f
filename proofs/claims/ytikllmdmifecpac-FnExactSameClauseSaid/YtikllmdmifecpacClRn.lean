/- Chapter 4: RenameClause, both sides. -/
import Derived.Test.YtikllmdmifecpacClW
import Derived.Test.YtikllmdmifecpacClS3
import Derived.Test.YtikllmdmifecpacRen2
namespace Go.Proofs.Ytikllmdmifecpac
open Go.RowKit

theorem rows_flat {ar : List Int} {c : List Lt} (h : goodClause ar c = true) : rows40 (flatC c) := by
  obtain ⟨h1, h2, h3⟩ := goodClause_iff.1 h
  refine renameOk_rows (ar := ar) ?_
  unfold renameOk
  rw [h1, decide_eq_true (show (flatC c).length ≤ 20 by rw [flatC_len]; omega), flat_all]
  simpa using h3
theorem renC_len (c : List Lt) : (renS [] (flatC c)).length = 2 * c.length := by rw [renS_len, flatC_len]

set_option maxRecDepth 100000 in
set_option maxHeartbeats 400000 in
theorem renamedClause_c (l h : Nat) (v : Value) (c : List Lt) (w : World) (hx : c.length ≤ 1048576) (hr : rows40 (flatC c)) (hv : SlC l h w v c) :
    Calls Try.prog 21 #[v] w (RetC w (renC c)) := by
  have HT := Lib.hid (fun (w' : World) (hb : Bel w w') => termsIn_c l h v c w' hx (hv.below hb))
  have HW := Lib.hid (fun (w' : World) (u : Value) (hb : Bel w w') (hu : OwnS w.heap.size w'.heap.size w' u (renS [] (flatC c))) => withTerms_c l h _ _ v u c _ w' hx (renC_len c) hb.size (Nat.le_refl _) (hv.below hb) hu)
  clear hv
  go_enter Try.func21, Try.ntmps21
  go_wp2_with fail
  refine (HT.out _ (Bel.rfl' _)).mono ?_; rintro e w1 ⟨a1, n1, c1, rfl, hrow, hb1⟩
  go_wp2_with fail
  refine (renamed_c _ _ _ (flatC c) w1 hr (hrow.sls hb1)).mono ?_; rintro e w2 ⟨a2, n2, c2, rfl, ho, hb2⟩
  go_wp2_with fail
  refine (HW.out _ _ (hb1.step hb2) (ho.mono hb1.size (Nat.le_refl _))).mono ?_; rintro e w3 ⟨a3, n3, c3, rfl, hc, hb3⟩
  go_wp2_with fail
  go_ret
  exact ⟨_, _, _, rfl, hc, (hb1.step hb2).step hb3⟩

set_option maxRecDepth 100000 in
set_option maxHeartbeats 400000 in
theorem l4Rename_c (l h : Nat) (v : Value) (c : List Lt) (w : World) (hx : c.length ≤ 1048576) (hr : rows40 (flatC c)) (hv : SlC l h w v c) :
    Calls Try.prog 27 #[v] w (RetC w (renC c)) := by
  obtain ⟨ad, cap, rfl⟩ := hv.form
  unfold renC
  go_enter Try.func27, Try.ntmps27
  go_wp2_with fail
  refine (l4Terms_c l h _ c _ hx hv).mono ?_; rintro e w1 ⟨a1, n1, c1, rfl, hrow, hb1⟩
  go_wp2_with fail
  refine (l2Rename_c _ _ _ (flatC c) w1 hr (hrow.sls hb1)).mono ?_; rintro e w2 ⟨a2, n2, c2, rfl, ho, hb2⟩
  have hb12 := hb1.step hb2
  have hv2 := hv.below hb12
  have hlo := hb12.size
  have HTS := Lib.hid (renC_len c)
  have ho2 := ho.mono (lo' := w.heap.size) hb1.size (Nat.le_refl _)
  have hts := renC_len c
  clear ho hv hrow hr
  generalize renS [] (flatC c) = ts at *
  obtain ⟨au, cu, us, bs, e2, hul, hcell, hIns⟩ := ho2.two (Nat.le_refl _)
  simp only [Value.slice.injEq] at e2
  obtain ⟨rfl, rfl, rfl⟩ := e2
  have hv := hv2
  clear hv2
  have hhi := Nat.le_refl w2.heap.size
  clear ho2 hts
  go_wp2_with fail
  go_loopw [4, 12] (fun o i wr => ∃ (k : Nat) (zs : List LV), k ≤ c.length ∧ i = .int .i64 k ∧ RowC w2.heap.size wr o zs ∧ zs.map (·.1) = (c.take k).map (·.1) ∧ rowsC zs = (us.take (2 * k)).map encS ∧ Bel w2 wr) (fun _ i _ => c.length - (intOf i).toNat)
  case atStart => exact ⟨0, [], Nat.zero_le _, rfl, RowC.nil _ _, rfl, rfl, Bel.rfl' _⟩
  case round =>
    obtain ⟨k, zs, hk, rfl, hrow, hzp, hzr, hb⟩ := hrel
    have hzl : zs.length = k := by have := congrArg List.length hzp; simp at this; omega
    have ht := HTS.out
    by_cases hlt : k < c.length
    · obtain ⟨b, off, z1, z2, rfl, hbs, e1, e2, e3, -, -⟩ := hv.two k hlt
      have c1 := hb.at (World.block_lt_of_cell? _ ⟨_, _, none⟩ e1) e1
      have c2 := hb.at (World.block_lt_of_cell? _ ⟨_, _, none⟩ e2) e2
      have c3 := hb.at (World.block_lt_of_cell? _ ⟨_, _, none⟩ e3) e3
      have hu1 : us[2 * k]? = some us[2 * k] := List.getElem?_eq_getElem (by omega)
      have hu2 : us[2 * k + 1]? = some us[2 * k + 1] := List.getElem?_eq_getElem (by omega)
      have HTK : Hid ((us.take (2 * (k+1))).map encS = (us.take (2 * k)).map encS ++ [encS us[2 * k], encS us[2 * k + 1]]) := by
        show _ = _
        rw [show 2 * (k + 1) = 2 * k + 1 + 1 from by omega, List.take_succ_eq_append_getElem (show 2 * k + 1 < us.length by omega), List.take_succ_eq_append_getElem (show 2 * k < us.length by omega), List.map_append, List.map_append]
        simp only [List.append_assoc]
        rfl
      have HTP : Hid ((c.take (k+1)).map (·.1) = (c.take k).map (·.1) ++ [(c.getD k lt0).1]) := by show _ = _; rw [List.take_succ_eq_append_getElem hlt, List.map_append]; simp [List.getD, hlt]
      obtain ⟨b2, o2, rfl, hb2, d1⟩ := hcell _ _ hu1
      obtain ⟨b2', o2', eq2, -, d2⟩ := hcell _ _ hu2
      simp only [Option.some.injEq, Addr.mk.injEq, and_true] at eq2
      obtain ⟨rfl, rfl⟩ := eq2
      have d1 := hb.at hb2 d1
      have d2 := hb.at hb2 d2
      have hin1 : (k : Int) < c.length := by omega
      generalize (c.getD k lt0).1 = p at *
      generalize us[2 * k] = y1 at *
      generalize us[2 * k + 1] = y2 at *
      obtain ⟨a1, n1, q1⟩ := z1
      obtain ⟨a2, n2, q2⟩ := z2
      obtain ⟨a3, n3, q3⟩ := y1
      obtain ⟨a4, n4, q4⟩ := y2
      simp only [encS] at c2 c3 d1 d2
      have HROW := Lib.hid hrow
      have hin2 : 2 * (k : Int) < ts.length := by omega
      have hin3 : 2 * (k : Int) + 1 < ts.length := by omega
      have hw1 := IntWalk.i64_in (2 * (k : Int)) (by omega)
      have hw2 := IntWalk.i64_in (2 * (k : Int) + 1) (by omega)
      have B2 := World.block_lt_of_cell? wr ⟨b2, _, none⟩ d1
      have k1 : (wr.alloc (.cells #[.bool p, .slice a1 n1 q1, .slice a2 n2 q2] 43)).drew.cell? ⟨wr.heap.size, 0, none⟩ = some (.bool p) := boxc ((Bel.rfl' _).drew) 0 _ rfl
      have k2 := (Bel.alloc0 wr (.cells #[.bool p, .slice a1 n1 q1, .slice a2 n2 q2] 43)).drew.at B2 d1
      have k3 := (Bel.alloc0 wr (.cells #[.bool p, .slice a1 n1 q1, .slice a2 n2 q2] 43)).drew.at B2 d2
      have m1 : ((wr.alloc (.cells #[.bool p, .slice a1 n1 q1, .slice a2 n2 q2] 43)).alloc (.cells #[.bool p, .slice a3 n3 q3, .slice a4 n4 q4] 43)).drew.cell? ⟨wr.heap.size, 0, none⟩ = some (.bool p) := boxc (Bel.alloc0 _ _).drew 0 _ rfl
      have m2 := (Bel.alloc2 wr (.cells #[.bool p, .slice a1 n1 q1, .slice a2 n2 q2] 43) (.cells #[.bool p, .slice a3 n3 q3, .slice a4 n4 q4] 43)).drew.at B2 d1
      have m3 := (Bel.alloc2 wr (.cells #[.bool p, .slice a1 n1 q1, .slice a2 n2 q2] 43) (.cells #[.bool p, .slice a3 n3 q3, .slice a4 n4 q4] 43)).drew.at B2 d2
      have HB5 : Bel wr ((wr.alloc (.cells #[.bool p, .slice a1 n1 q1, .slice a2 n2 q2] 43)).alloc (.cells #[.bool p, .slice a3 n3 q3, .slice a4 n4 q4] 43)).drew := (Bel.alloc2 _ _ _).drew
      have R5 : RowC w2.heap.size ((wr.alloc (.cells #[.bool p, .slice a1 n1 q1, .slice a2 n2 q2] 43)).alloc (.cells #[.bool p, .slice a3 n3 q3, .slice a4 n4 q4] 43)).drew _ zs := ownsRow_bel hrow HB5
      have HLT := hrow.lt
      have HZ5 : w2.heap.size ≤ ((wr.alloc (.cells #[.bool p, .slice a1 n1 q1, .slice a2 n2 q2] 43)).alloc (.cells #[.bool p, .slice a3 n3 q3, .slice a4 n4 q4] 43)).drew.heap.size := Nat.le_trans hb.size HB5.size
      have HN : ∀ j u, [Value.bool p, encS (a3, n3, q3), encS (a4, n4, q4)][j]? = some u → ((wr.alloc (.cells #[.bool p, .slice a1 n1 q1, .slice a2 n2 q2] 43)).alloc (.cells #[.bool p, .slice a3 n3 q3, .slice a4 n4 q4] 43)).drew.cell? ((⟨wr.heap.size + 1, 0, none⟩ : Addr).add j) = some u := fun j u hj => by
        have := news_lit (wr.alloc (.cells #[.bool p, .slice a1 n1 q1, .slice a2 n2 q2] 43)) (.bool p) (.slice a3 n3 q3) (.slice a4 n4 q4) 43 (wr.heap.size + 1) (by simp) j u hj
        rw [addr_add] at this ⊢
        exact (Bel.drew0 _).at (World.block_lt_of_cell? _ ⟨_, _, none⟩ this) this
      clear hv e1 e2 e3 hcell hu1 hu2 hIns hrow ht
      go_wp2_with fail
      go_region_held_law (fun w' => w'.cell? ⟨wr.heap.size, 0, none⟩ = some (.bool p) ∧ w'.cell? ⟨b2, o2 + 2 * k, none⟩ = some (.slice a3 n3 q3) ∧ w'.cell? ⟨b2, o2 + (2 * k + 1), none⟩ = some (.slice a4 n4 q4))
        (first | exact ⟨k1, k2, k3⟩ | exact ⟨m1, m2, m3⟩ | exact ⟨t1, t2, t3⟩ | fail)
        (first
          | (refine step_append_lit rfl (.tmp 17) (.tmp 32) 33 rfl rfl w2.heap.size _ zs rfl R5 (wr.heap.size + 1) p (a3, n3, q3) (a4, n4, q4) rfl HN (by omega) HZ5 ?_; intro a5 n5 c5 w5 R6 hg5; have t1 := hg5.cell m1 (fun e => Nat.lt_irrefl _ (HLT _ e.symm).2); have t2 := hg5.cell m2 (fun e => by have := (HLT _ e.symm).1; simp at this; omega); have t3 := hg5.cell m3 (fun e => by have := (HLT _ e.symm).1; simp at this; omega))
          | fail)
      all_goals
        have HB6 := (hb.step HB5).grown hg5 (fun q hq => own_base R5 q hq)
        go_wp2_with fail
        go_roundw
        case rel => exact ⟨k+1, _, by omega, by go_num, R6, by rw [List.map_append, hzp, HTP.out]; rfl, by rw [rowsC_app, hzr, HTK.out]; rfl, HB6⟩
        case measure => simp [intOf]; omega
    · obtain ⟨ad5, n5, c5, rfl⟩ := own_form hrow
      rw [List.take_of_length_le (by omega)] at hzp hzr
      have hfz := zipC_flat c ts ht
      have hlz := zipC_len c ts ht
      have hsz := zipC_signs c ts ht
      have hkc : k = c.length := by omega
      have HO : Hid (OwnC w.heap.size wr.heap.size wr (.slice ad5 n5 c5) (zipC c ts)) := by
        show OwnC _ _ _ _ _
        refine OwnC.of_row (base := w.heap.size) (e := 43) (zs := zs) (bs := bs) ?_ (Nat.le_refl _) (by rw [hsz]; exact hzp) (fun g hg => ?_)
        · rw [hlz, ← hkc, ← hzl]
          exact ownsRow_base hrow hlo
        · rw [hfz, hzr]
          exact (hIns g wr hb (own_base hrow g hg)).mono (Nat.le_refl _) (Nat.le_trans hhi hb.size)
      clear hrow hzp hzr hcell hIns hfz hlz hsz ht
      go_wp2_with fail
      go_ret
      exact ⟨_, _, _, rfl, HO.out, hb12.step hb⟩

theorem renCAns_len (ar : List Int) (c : List Lt) : sumC (renCAns ar c) ≤ 1048576 := by
  unfold renCAns
  split
  · rename_i hg
    obtain ⟨_, h8, hok⟩ := goodClause_iff.1 hg
    rw [sumC_eq]
    have hl := zipC_len c _ (renC_len c)
    have hf := zipC_flat c _ (renC_len c)
    unfold lenC renC
    rw [hl, hf]
    have h40 := renS_lens [] (flatC c) (fun t ht => (okTerm_len (flat_ok hok ht)).2)
    have := sumL_le40 _ h40
    rw [renC_len] at this
    omega
  · simp [sumC]
end Go.Proofs.Ytikllmdmifecpac
