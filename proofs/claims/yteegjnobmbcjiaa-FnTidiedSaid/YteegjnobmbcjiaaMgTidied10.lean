/- Texts merged, part 10. -/
import Derived.Deep.AppendLies
import Derived.Laws.AppendOwnNone
import Derived.Deep.RegionHeldLaw
import Derived.Deep.RegionWith
import Derived.Test.YteegjnobmbcjiaaMgTidied9
section
/- Chapter 4: RenameClause, both sides. -/
namespace Go.Proofs.Yteegjnobmbcjiaa
open Go.RowKit

theorem rows_flat {ar : List Int} {c : List Lt} (h : goodClause ar c = true) : rows40 (flatC c) := by
  obtain ⟨h1, h2, h3⟩ := goodClause_iff.1 h
  refine renameOk_rows (ar := ar) ?_
  unfold renameOk
  rw [h1, decide_eq_true (show (flatC c).length ≤ 20 by rw [flatC_len]; omega), flat_all]
  simpa using h3
theorem renC_len (c : List Lt) : (renS [] (flatC c)).length = 2 * c.length := by rw [renS_len, flatC_len]

set_option maxRecDepth 100000 in
set_option maxHeartbeats 400000 in
theorem renamedClause_c (l h : Nat) (v : Value) (c : List Lt) (w : World) (hx : c.length ≤ 1048576) (hr : rows40 (flatC c)) (hv : SlC l h w v c) :
    Calls Try.prog 69 #[v] w (RetC w (renC c)) := by
  have HT := Lib.hid (fun (w' : World) (hb : Bel w w') => termsIn_c l h v c w' hx (hv.below hb))
  have HW := Lib.hid (fun (w' : World) (u : Value) (hb : Bel w w') (hu : OwnS w.heap.size w'.heap.size w' u (renS [] (flatC c))) => withTerms_c l h _ _ v u c _ w' hx (renC_len c) hb.size (Nat.le_refl _) (hv.below hb) hu)
  clear hv
  go_enter Try.func69, Try.ntmps69
  go_wp2_with fail
  refine (HT.out _ (Bel.rfl' _)).mono ?_; rintro e w1 ⟨a1, n1, c1, rfl, hrow, hb1⟩
  go_wp2_with fail
  refine (renamed_c _ _ _ (flatC c) w1 hr (hrow.sls hb1)).mono ?_; rintro e w2 ⟨a2, n2, c2, rfl, ho, hb2⟩
  go_wp2_with fail
  refine (HW.out _ _ (hb1.step hb2) (ho.mono hb1.size (Nat.le_refl _))).mono ?_; rintro e w3 ⟨a3, n3, c3, rfl, hc, hb3⟩
  go_wp2_with fail
  go_ret
  exact ⟨_, _, _, rfl, hc, (hb1.step hb2).step hb3⟩

set_option maxRecDepth 100000 in
set_option maxHeartbeats 400000 in
theorem iRenameClause_t {l h l' h' : Nat} {v u : Value} {ar : List Int} {c : List Lt} {w : World} (ha : ar.length ≤ 1048576) (hv : SlI l h w v ar) (hc : sumC c ≤ 1048576) (hu : SlC l' h' w u c) :
    Calls Try.prog 27 #[.agg #[v], u] w (RetCB w (renCAns ar c) (goodClause ar c)) := by
  unfold renCAns
  cases hg : goodClause ar c with
  | false =>
    rw [if_neg (by simp)]
    have HG := Lib.hid hg; clear hg
    go_enter Try.func27, Try.ntmps27
    go_wp2_with fail
    refine (iGoodClause_v HG.out ha (hv.alloc _) hc (hu.alloc _)).mono ?_; rintro e w1 ⟨rfl, hb1⟩
    go_wp2_with fail
    go_ret2
    exact ⟨_, _, _, rfl, OwnC.nil _ _ _, hb1.of_alloc⟩
  | true =>
    rw [if_pos rfl]
    have HC := Lib.hid (fun (w' : World) (hb : Bel w w') => renamedClause_c l' h' u c w' (by have := sumC_len c; omega) (rows_flat hg) (hu.below hb))
    have HG := Lib.hid hg; clear hg
    go_enter Try.func27, Try.ntmps27
    go_wp2_with fail
    refine (iGoodClause_v HG.out ha (hv.alloc _) hc (hu.alloc _)).mono ?_; rintro e w1 ⟨rfl, hb1⟩
    clear hc
    go_wp2_with fail
    refine (HC.out _ hb1.of_alloc).mono ?_; rintro e w2 ⟨a2, n2, c2, rfl, ho2, hb2⟩
    go_wp2_with fail
    go_ret2
    exact ⟨_, _, _, rfl, ho2.mono hb1.of_alloc.size (Nat.le_refl _), hb1.of_alloc.step hb2⟩

set_option maxRecDepth 100000 in
set_option maxHeartbeats 400000 in
theorem l4Rename_c (l h : Nat) (v : Value) (c : List Lt) (w : World) (hx : c.length ≤ 1048576) (hr : rows40 (flatC c)) (hv : SlC l h w v c) :
    Calls Try.prog 70 #[v] w (RetC w (renC c)) := by
  obtain ⟨ad, cap, rfl⟩ := hv.form
  unfold renC
  go_enter Try.func70, Try.ntmps70
  go_wp2_with fail
  refine (l4Terms_c l h _ c _ hx hv).mono ?_; rintro e w1 ⟨a1, n1, c1, rfl, hrow, hb1⟩
  go_wp2_with fail
  refine (l2Rename_c _ _ _ (flatC c) w1 hr (hrow.sls hb1)).mono ?_; rintro e w2 ⟨a2, n2, c2, rfl, ho, hb2⟩
  have hb12 := hb1.step hb2
  have hv2 := hv.below hb12
  have hlo := hb12.size
  have HTS := Lib.hid (renC_len c)
  have ho2 := ho.mono (lo' := w.heap.size) hb1.size (Nat.le_refl _)
  have hts := renC_len c
  clear ho hv hrow hr
  generalize renS [] (flatC c) = ts at *
  obtain ⟨au, cu, us, bs, e2, hul, hcell, hIns⟩ := ho2.two (Nat.le_refl _)
  simp only [Value.slice.injEq] at e2
  obtain ⟨rfl, rfl, rfl⟩ := e2
  have hv := hv2
  clear hv2
  have hhi := Nat.le_refl w2.heap.size
  clear ho2 hts
  go_wp2_with fail
  go_loopw [4, 12] (fun o i wr => ∃ (k : Nat) (zs : List LV), k ≤ c.length ∧ i = .int .i64 k ∧ RowC w2.heap.size wr o zs ∧ zs.map (·.1) = (c.take k).map (·.1) ∧ rowsC zs = (us.take (2 * k)).map encS ∧ Bel w2 wr) (fun _ i _ => c.length - (intOf i).toNat)
  case atStart => exact ⟨0, [], Nat.zero_le _, rfl, RowC.nil _ _, rfl, rfl, Bel.rfl' _⟩
  case round =>
    obtain ⟨k, zs, hk, rfl, hrow, hzp, hzr, hb⟩ := hrel
    have hzl : zs.length = k := by have := congrArg List.length hzp; simp at this; omega
    have ht := HTS.out
    by_cases hlt : k < c.length
    · obtain ⟨b, off, z1, z2, rfl, hbs, e1, e2, e3, -, -⟩ := hv.two k hlt
      have c1 := hb.at (World.block_lt_of_cell? _ ⟨_, _, none⟩ e1) e1
      have c2 := hb.at (World.block_lt_of_cell? _ ⟨_, _, none⟩ e2) e2
      have c3 := hb.at (World.block_lt_of_cell? _ ⟨_, _, none⟩ e3) e3
      have hu1 : us[2 * k]? = some us[2 * k] := List.getElem?_eq_getElem (by omega)
      have hu2 : us[2 * k + 1]? = some us[2 * k + 1] := List.getElem?_eq_getElem (by omega)
      have HTK : Hid ((us.take (2 * (k+1))).map encS = (us.take (2 * k)).map encS ++ [encS us[2 * k], encS us[2 * k + 1]]) := by
        show _ = _
        rw [show 2 * (k + 1) = 2 * k + 1 + 1 from by omega, List.take_succ_eq_append_getElem (show 2 * k + 1 < us.length by omega), List.take_succ_eq_append_getElem (show 2 * k < us.length by omega), List.map_append, List.map_append]
        simp only [List.append_assoc]
        rfl
      have HTP : Hid ((c.take (k+1)).map (·.1) = (c.take k).map (·.1) ++ [(c.getD k lt0).1]) := by show _ = _; rw [List.take_succ_eq_append_getElem hlt, List.map_append]; simp [List.getD, hlt]
      obtain ⟨b2, o2, rfl, hb2, d1⟩ := hcell _ _ hu1
      obtain ⟨b2', o2', eq2, -, d2⟩ := hcell _ _ hu2
      simp only [Option.some.injEq, Addr.mk.injEq, and_true] at eq2
      obtain ⟨rfl, rfl⟩ := eq2
      have d1 := hb.at hb2 d1
      have d2 := hb.at hb2 d2
      have hin1 : (k : Int) < c.length := by omega
      generalize (c.getD k lt0).1 = p at *
      generalize us[2 * k] = y1 at *
      generalize us[2 * k + 1] = y2 at *
      obtain ⟨a1, n1, q1⟩ := z1
      obtain ⟨a2, n2, q2⟩ := z2
      obtain ⟨a3, n3, q3⟩ := y1
      obtain ⟨a4, n4, q4⟩ := y2
      simp only [encS] at c2 c3 d1 d2
      have HROW := Lib.hid hrow
      have hin2 : 2 * (k : Int) < ts.length := by omega
      have hin3 : 2 * (k : Int) + 1 < ts.length := by omega
      have hw1 := IntWalk.i64_in (2 * (k : Int)) (by omega)
      have hw2 := IntWalk.i64_in (2 * (k : Int) + 1) (by omega)
      have B2 := World.block_lt_of_cell? wr ⟨b2, _, none⟩ d1
      have k1 : (wr.alloc (.cells #[.bool p, .slice a1 n1 q1, .slice a2 n2 q2] 91)).drew.cell? ⟨wr.heap.size, 0, none⟩ = some (.bool p) := boxc ((Bel.rfl' _).drew) 0 _ rfl
      have k2 := (Bel.alloc0 wr (.cells #[.bool p, .slice a1 n1 q1, .slice a2 n2 q2] 91)).drew.at B2 d1
      have k3 := (Bel.alloc0 wr (.cells #[.bool p, .slice a1 n1 q1, .slice a2 n2 q2] 91)).drew.at B2 d2
      have m1 : ((wr.alloc (.cells #[.bool p, .slice a1 n1 q1, .slice a2 n2 q2] 91)).alloc (.cells #[.bool p, .slice a3 n3 q3, .slice a4 n4 q4] 91)).drew.cell? ⟨wr.heap.size, 0, none⟩ = some (.bool p) := boxc (Bel.alloc0 _ _).drew 0 _ rfl
      have m2 := (Bel.alloc2 wr (.cells #[.bool p, .slice a1 n1 q1, .slice a2 n2 q2] 91) (.cells #[.bool p, .slice a3 n3 q3, .slice a4 n4 q4] 91)).drew.at B2 d1
      have m3 := (Bel.alloc2 wr (.cells #[.bool p, .slice a1 n1 q1, .slice a2 n2 q2] 91) (.cells #[.bool p, .slice a3 n3 q3, .slice a4 n4 q4] 91)).drew.at B2 d2
      have HB5 : Bel wr ((wr.alloc (.cells #[.bool p, .slice a1 n1 q1, .slice a2 n2 q2] 91)).alloc (.cells #[.bool p, .slice a3 n3 q3, .slice a4 n4 q4] 91)).drew := (Bel.alloc2 _ _ _).drew
      have R5 : RowC w2.heap.size ((wr.alloc (.cells #[.bool p, .slice a1 n1 q1, .slice a2 n2 q2] 91)).alloc (.cells #[.bool p, .slice a3 n3 q3, .slice a4 n4 q4] 91)).drew _ zs := ownsRow_bel hrow HB5
      have HLT := hrow.lt
      have HZ5 : w2.heap.size ≤ ((wr.alloc (.cells #[.bool p, .slice a1 n1 q1, .slice a2 n2 q2] 91)).alloc (.cells #[.bool p, .slice a3 n3 q3, .slice a4 n4 q4] 91)).drew.heap.size := Nat.le_trans hb.size HB5.size
      have HN : ∀ j u, [Value.bool p, encS (a3, n3, q3), encS (a4, n4, q4)][j]? = some u → ((wr.alloc (.cells #[.bool p, .slice a1 n1 q1, .slice a2 n2 q2] 91)).alloc (.cells #[.bool p, .slice a3 n3 q3, .slice a4 n4 q4] 91)).drew.cell? ((⟨wr.heap.size + 1, 0, none⟩ : Addr).add j) = some u := fun j u hj => by
        have := news_lit (wr.alloc (.cells #[.bool p, .slice a1 n1 q1, .slice a2 n2 q2] 91)) (.bool p) (.slice a3 n3 q3) (.slice a4 n4 q4) 91 (wr.heap.size + 1) (by simp) j u hj
        rw [addr_add] at this ⊢
        exact (Bel.drew0 _).at (World.block_lt_of_cell? _ ⟨_, _, none⟩ this) this
      clear hv e1 e2 e3 hcell hu1 hu2 hIns hrow ht
      go_wp2_with fail
      go_region_held_law (fun w' => w'.cell? ⟨wr.heap.size, 0, none⟩ = some (.bool p) ∧ w'.cell? ⟨b2, o2 + 2 * k, none⟩ = some (.slice a3 n3 q3) ∧ w'.cell? ⟨b2, o2 + (2 * k + 1), none⟩ = some (.slice a4 n4 q4))
        (first | exact ⟨k1, k2, k3⟩ | exact ⟨m1, m2, m3⟩ | exact ⟨t1, t2, t3⟩ | fail)
        (first
          | (refine step_append_lit rfl (.tmp 17) (.tmp 32) 33 rfl rfl w2.heap.size _ zs rfl R5 (wr.heap.size + 1) p (a3, n3, q3) (a4, n4, q4) rfl HN (by omega) HZ5 ?_; intro a5 n5 c5 w5 R6 hg5; have t1 := hg5.cell m1 (fun e => Nat.lt_irrefl _ (HLT _ e.symm).2); have t2 := hg5.cell m2 (fun e => by have := (HLT _ e.symm).1; simp at this; omega); have t3 := hg5.cell m3 (fun e => by have := (HLT _ e.symm).1; simp at this; omega))
          | fail)
      all_goals
        have HB6 := (hb.step HB5).grown hg5 (fun q hq => own_base R5 q hq)
        go_wp2_with fail
        go_roundw
        case rel => exact ⟨k+1, _, by omega, by go_num, R6, by rw [List.map_append, hzp, HTP.out]; rfl, by rw [rowsC_app, hzr, HTK.out]; rfl, HB6⟩
        case measure => simp [intOf]; omega
    · obtain ⟨ad5, n5, c5, rfl⟩ := own_form hrow
      rw [List.take_of_length_le (by omega)] at hzp hzr
      have hfz := zipC_flat c ts ht
      have hlz := zipC_len c ts ht
      have hsz := zipC_signs c ts ht
      have hkc : k = c.length := by omega
      have HO : Hid (OwnC w.heap.size wr.heap.size wr (.slice ad5 n5 c5) (zipC c ts)) := by
        show OwnC _ _ _ _ _
        refine OwnC.of_row (base := w.heap.size) (e := 91) (zs := zs) (bs := bs) ?_ (Nat.le_refl _) (by rw [hsz]; exact hzp) (fun g hg => ?_)
        · rw [hlz, ← hkc, ← hzl]
          exact ownsRow_base hrow hlo
        · rw [hfz, hzr]
          exact (hIns g wr hb (own_base hrow g hg)).mono (Nat.le_refl _) (Nat.le_trans hhi hb.size)
      clear hrow hzp hzr hcell hIns hfz hlz hsz ht
      go_wp2_with fail
      go_ret
      exact ⟨_, _, _, rfl, HO.out, hb12.step hb⟩

set_option maxRecDepth 100000 in
set_option maxHeartbeats 400000 in
theorem sRenameClause_t {l h l' h' : Nat} {v u : Value} {ar : List Int} {c : List Lt} {w : World} (ha : ar.length ≤ 1048576) (hv : SlI l h w v ar) (hc : sumC c ≤ 1048576) (hu : SlC l' h' w u c) :
    Calls Try.prog 28 #[.agg #[v], u] w (RetCB w (renCAns ar c) (goodClause ar c)) := by
  unfold renCAns
  cases hg : goodClause ar c with
  | false =>
    rw [if_neg (by simp)]
    have HG := Lib.hid hg; clear hg
    go_enter Try.func28, Try.ntmps28
    go_wp2_with fail
    refine (sGoodClause_v HG.out ha (hv.alloc _) hc (hu.alloc _)).mono ?_; rintro e w1 ⟨rfl, hb1⟩
    go_wp2_with fail
    go_ret2
    exact ⟨_, _, _, rfl, OwnC.nil _ _ _, hb1.of_alloc⟩
  | true =>
    rw [if_pos rfl]
    have HC := Lib.hid (fun (w' : World) (hb : Bel w w') => l4Rename_c l' h' u c w' (by have := sumC_len c; omega) (rows_flat hg) (hu.below hb))
    have HG := Lib.hid hg; clear hg
    go_enter Try.func28, Try.ntmps28
    go_wp2_with fail
    refine (sGoodClause_v HG.out ha (hv.alloc _) hc (hu.alloc _)).mono ?_; rintro e w1 ⟨rfl, hb1⟩
    clear hc
    go_wp2_with fail
    refine (HC.out _ hb1.of_alloc).mono ?_; rintro e w2 ⟨a2, n2, c2, rfl, ho2, hb2⟩
    go_wp2_with fail
    go_ret2
    exact ⟨_, _, _, rfl, ho2.mono hb1.of_alloc.size (Nat.le_refl _), hb1.of_alloc.step hb2⟩
theorem renCAns_len (ar : List Int) (c : List Lt) : sumC (renCAns ar c) ≤ 1048576 := by
  unfold renCAns
  split
  · rename_i hg
    obtain ⟨_, h8, hok⟩ := goodClause_iff.1 hg
    rw [sumC_eq]
    have hl := zipC_len c _ (renC_len c)
    have hf := zipC_flat c _ (renC_len c)
    unfold lenC renC
    rw [hl, hf]
    have h40 := renS_lens [] (flatC c) (fun t ht => (okTerm_len (flat_ok hok ht)).2)
    have := sumL_le40 _ h40
    rw [renC_len] at this
    omega
  · simp [sumC]
end Go.Proofs.Yteegjnobmbcjiaa
end
section
/- append of a row of ints to a row of ints, at a step of a region that draws. -/
namespace Go.Proofs.Yteegjnobmbcjiaa
open Go.RowKit

theorem step_append_row {w : World} {ops : Array Oper} {o : Oper} {a : Act} {K : Act → World → Prop} {Q : Exit → Act → World → Prop} {E : Prop} (hgd : o.guard = none) (s x : Operand) (d : Nat) (hd : o.dst = some d)
    (ho : o.op = .call { callee := .builtin .append, args := #[s, x], argTypes := #[22, 22] })
    (base base2 : Nat) (v y : Value) (xs ys : List Int) (hs : a.eval s = v) (hown : RowI base w v xs) (hx : a.eval x = y) (hy : RowI base2 w y ys)
    (hl : xs.length + ys.length ≤ 1099511627776) (hbase : base ≤ w.heap.size)
    (h : ∀ ad n c w', RowI base w' (.slice ad n c) (xs ++ ys) → w.grownBy w' v.ownBlock → K (a.put (some d) (.slice ad n c)) w') :
    if Region.wanted o (yielded ops a.tmps) = true then Oper.wp Try.prog o a w K Q else E := by
  obtain ⟨i0, hi0, hz0, hz1, hz2⟩ := info_parts Try.info3
  have hw : Region.wanted o (yielded ops a.tmps) = true := by simp [Region.wanted, hgd]
  rw [if_pos hw]
  rw [← hd] at h
  rcases hy.2 with ⟨rfl, hn⟩ | ⟨g, cap, cur, rfl, hg, hh, hn, hc, hsz, ht⟩
  · have he : ys = [] := List.length_eq_zero_iff.1 hn
    subst he
    obtain ⟨ad, n, c, rfl⟩ := own_form hown
    have hrun := run_append_owned_none (P := Try.prog) (w := w) base 22 o.type 3 i0 1 Try.underlying22 hi0 (.slice ad n c) xs.length (xs.map (Value.int .i64)) hown
    unfold Oper.wp
    simp [execOp, ho, resolve, invoke, builtin, hs, hx, hrun, Result.andThen]
    exact h ad n c w (by simpa using hown) (World.grownBy.refl _ _)
  · refine wp_append_own w s x 22 ho base 3 i0 (.int .i64 0) 1 8 Try.underlying22 hi0 hz0 hz1 hz2 rfl (by decide) v xs.length (xs.map (Value.int .i64)) hs hown
      ⟨g, 0, none⟩ ys.length cap (ys.map (Value.int .i64)) hx (by simp) (hy.cells rfl) (ones_int _) (by unfold maxLen; omega) (by omega) hbase (fun v' w' h1 h2 _ => ?_)
    obtain ⟨ad, n, c, rfl⟩ := own_form h1
    exact h ad n c w' (by simpa [RowI] using h1) h2
end Go.Proofs.Yteegjnobmbcjiaa
end
section
/- Chapter 4, the reference: VarsIn. -/
namespace Go.Proofs.Yteegjnobmbcjiaa
open Go.RowKit

theorem varsTo_congr {f g : Nat → Bool} (n : Nat) (h : ∀ j, j < n → f j = g j) : varsTo f n = varsTo g n := by
  unfold varsTo
  refine List.filter_congr fun j hj => h j (by simpa using hj)
theorem varsTo_mem {f : Nat → Bool} {n j : Nat} : j ∈ varsTo f n ↔ j < n ∧ f j = true := by simp [varsTo]
theorem mk_app (a b : List Int) (j : Nat) : mk (a ++ b) j = (mk a j || mk b j) := by
  unfold mk; rw [Bool.eq_iff_iff]; simp
/-- The numbers of two terms' variables. -/
def two12 (xl xr : List Int) : List Nat := varsTo (mk xl) 12 ++ varsTo (mk xr) 12
theorem two12_lt {xl xr : List Int} : ∀ m ∈ two12 xl xr, m < 12 := by
  intro m hm
  unfold two12 at hm
  rcases List.mem_append.1 hm with h | h <;> exact (varsTo_mem.1 h).1
theorem two12_len (xl xr : List Int) : (two12 xl xr).length ≤ 24 := by
  have h1 := varsTo_len (mk xl) 12
  have h2 := varsTo_len (mk xr) 12
  unfold two12; simp; omega
theorem two12_nats (xl xr : List Int) : natsI (varsTo (mk xl) 12) ++ natsI (varsTo (mk xr) 12) = natsI (two12 xl xr) := by simp [two12, natsI]
theorem two12_mem {A xl xr : List Int} {F G : Nat → Bool} (hF : ∀ j, j < 12 → F j = mk A j) (hG : ∀ j, j < 12 → G j = (F j || decide (j ∈ two12 xl xr))) : ∀ j, j < 12 → G j = mk (A ++ xl ++ xr) j := by
  intro j hj
  rw [hG j hj, hF j hj, mk_app, mk_app, Bool.or_assoc]
  congr 1
  rw [Bool.eq_iff_iff]
  simp [two12, varsTo_mem, hj]
theorem put_take {N : List Nat} {i : Nat} (hi : i < N.length) {F F0 : Nat → Bool} (h : ∀ j, j < 12 → F j = (F0 j || decide (j ∈ N.take i))) : ∀ j, j < 12 → setF F (N.getD i 0) j = (F0 j || decide (j ∈ N.take (i+1))) := by
  intro j hj
  have e : N.take (i+1) = N.take i ++ [N.getD i 0] := by rw [List.take_succ_eq_append_getElem hi]; simp [List.getD, hi]
  rw [e]
  unfold setF
  by_cases hq : j = N.getD i 0
  · rw [if_pos hq]; simp [hq]
  · rw [if_neg hq, h j hj]; simp [List.mem_append]; simp [List.getD] at hq; simp [hq]

set_option maxRecDepth 100000 in
set_option maxHeartbeats 1000000 in
theorem l4Vars_c (l h : Nat) (v : Value) (c : List Lt) (w : World) (hx : shortC c) (hlow : ∀ t ∈ flatC c, ∀ k, k < t.length → -12 ≤ t.getD k 0) (hv : SlC l h w v c) :
    Calls Try.prog 85 #[v] w (RetI w (natsI (varsTo (mk (flatC c).flatten) 12))) := by
  obtain ⟨ad, cap, rfl⟩ := hv.form
  obtain ⟨hxl, hxj⟩ := hx
  go_enter Try.func85, Try.ntmps85
  go_wp2_with fail
  go_loopw [3, 10] (fun o i wr => ∃ (k : Nat) (F : Nat → Bool), k ≤ c.length ∧ i = .int .i64 k ∧ RowI w.heap.size wr o (natsI (varsTo F 12)) ∧ (varsTo F 12 = [] → o = .slice none 0 0) ∧ (∀ j, j < 12 → F j = mk (flatC (c.take k)).flatten j) ∧ Bel w wr) (fun _ i _ => c.length - (intOf i).toNat)
  case atStart =>
    have e : varsTo (fun _ => false) 12 = [] := rfl
    exact ⟨0, fun _ => false, Nat.zero_le _, rfl, by rw [e]; exact World.ownsRow_nil _ _ _ _, fun _ => rfl, fun j _ => by simp [mk, flatC], Bel.rfl' _⟩
  case round =>
    obtain ⟨k, F, hk, rfl, hrow, hnil, hF, hb⟩ := hrel
    by_cases hlt : k < c.length
    · obtain ⟨b, off, u1, u2, rfl, hbs, c1, c2, c3, s1, s2⟩ := hv.at hb k hlt
      obtain ⟨hm1, hm2⟩ := hxj k hlt
      have HFT : Hid ((flatC (c.take (k+1))).flatten = (flatC (c.take k)).flatten ++ (c.getD k lt0).2.1 ++ (c.getD k lt0).2.2) := by show _ = _; rw [flatC_take c k hlt]; simp
      have hlo1 := hlow _ (show (c.getD k lt0).2.1 ∈ flatC c from List.mem_flatMap.2 ⟨_, mem_getD c lt0 k hlt, by simp⟩)
      have hlo2 := hlow _ (show (c.getD k lt0).2.2 ∈ flatC c from List.mem_flatMap.2 ⟨_, mem_getD c lt0 k hlt, by simp⟩)
      have hin1 : (k : Int) < c.length := by omega
      generalize c.getD k lt0 = x at *
      obtain ⟨p, xl, xr⟩ := x
      simp only at *
      obtain ⟨a1, d1, rfl⟩ := s1.form
      obtain ⟨a2, d2, rfl⟩ := s2.form
      have HL := Lib.hid (fun (w' : World) (hq : Bel wr w') => l1Vars_r l h _ xl w' (by omega) hlo1 (s1.below hq))
      have HR := Lib.hid (fun (w' : World) (hq : Bel wr w') => l1Vars_r l h _ xr w' (by omega) hlo2 (s2.below hq))
      have hvl1 : (natsI (varsTo (mk xl) 12)).length ≤ 12 := by rw [natsI_len]; exact varsTo_len _ _
      have hvl2 : (natsI (varsTo (mk xr) 12)).length ≤ 12 := by rw [natsI_len]; exact varsTo_len _ _
      have HT := Lib.hid (two12_nats xl xr)
      have HTL := Lib.hid (two12_lt (xl := xl) (xr := xr))
      have htl := two12_len xl xr
      have HM := Lib.hid (fun G => two12_mem (A := (flatC (c.take k)).flatten) (xl := xl) (xr := xr) (F := F) (G := G) hF)
      have HROW := Lib.hid hrow
      have HNIL := Lib.hid hnil
      generalize hA1 : natsI (varsTo (mk xl) 12) = A1 at *
      generalize hA2 : natsI (varsTo (mk xr) 12) = A2 at *
      generalize hN : two12 xl xr = N at *
      clear hv s1 s2 hlow hlo1 hlo2 hF hA1 hA2 hN hrow hnil hxj
      have HB0 : Bel wr (wr.alloc (.cells #[.bool p, .slice a1 xl.length d1, .slice a2 xr.length d2] 91)).drew := (Bel.alloc0 _ _).drew
      have HZ0 : wr.heap.size + 1 ≤ (wr.alloc (.cells #[.bool p, .slice a1 xl.length d1, .slice a2 xr.length d2] 91)).drew.heap.size := by simp [World.drew]
      have k1 : (wr.alloc (.cells #[.bool p, .slice a1 xl.length d1, .slice a2 xr.length d2] 91)).drew.cell? ⟨wr.heap.size, 1, none⟩ = some (.slice a1 xl.length d1) := boxc ((Bel.rfl' _).drew) 1 _ rfl
      have k2 : (wr.alloc (.cells #[.bool p, .slice a1 xl.length d1, .slice a2 xr.length d2] 91)).drew.cell? ⟨wr.heap.size, 2, none⟩ = some (.slice a2 xr.length d2) := boxc ((Bel.rfl' _).drew) 2 _ rfl
      go_wp2_with fail
      go_region_held_law (fun w' => w'.cell? ⟨wr.heap.size, 1, none⟩ = some (.slice a1 xl.length d1) ∧ w'.cell? ⟨wr.heap.size, 2, none⟩ = some (.slice a2 xr.length d2))
        (first | exact ⟨k15, k25⟩ | exact ⟨k14, k24⟩ | exact ⟨k13, k23⟩ | exact ⟨k1, k2⟩ | fail)
        (first
          | (refine step_append_row ?a1 (.tmp 16) (.tmp 19) 20 ?a6 ?a2 (wr.heap.size + 1) (wr.heap.size + 1) _ _ A1 A2 ?a3 R1 ?a4 R2 (by omega) HZ4 ?a5; (case a1 => rfl); (case a6 => rfl); (case a2 => rfl); (case a3 => first | rfl | (simp [Act.eval, Act.put]; done)); (case a4 => first | rfl | (simp [Act.eval, Act.put]; done)); intro a5 n5 c5 w5 R5 hg5; have HB5 := HB4.grown hg5 (fun q hq => Nat.le_of_succ_le (own_base R1 q hq)); have k15 := hg5.cell k14 (fun e => Nat.lt_irrefl _ (own_base R1 _ e.symm)); have k25 := hg5.cell k24 (fun e => Nat.lt_irrefl _ (own_base R1 _ e.symm)))
          | (go_at_call 132; refine (HR.out _ HB3).mono ?_; rintro e w4 ⟨p2, m2, q2, rfl, r2, g4⟩; have HB4 := HB3.step g4; have HZ4 := Nat.le_trans HZ3 g4.size; have R1 : RowI (wr.heap.size + 1) w4 _ A1 := RowI.mono (ownsRow_bel r1 g4) HZ0; have R2 : RowI (wr.heap.size + 1) w4 _ A2 := RowI.mono r2 HZ3; have k14 := g4.at (World.block_lt_of_cell? _ ⟨_, _, none⟩ k13) k13; have k24 := g4.at (World.block_lt_of_cell? _ ⟨_, _, none⟩ k23) k23)
          | (go_at_call 132; refine (HL.out _ HB3).mono ?_; rintro e w4 ⟨p1, m1, q1, rfl, r1, g4⟩; have HB4 := HB3.step g4; have HZ4 := Nat.le_trans HZ3 g4.size; have R2 : RowI (wr.heap.size + 1) w4 _ A2 := RowI.mono (ownsRow_bel r2 g4) HZ0; have R1 : RowI (wr.heap.size + 1) w4 _ A1 := RowI.mono r1 HZ3; have k14 := g4.at (World.block_lt_of_cell? _ ⟨_, _, none⟩ k13) k13; have k24 := g4.at (World.block_lt_of_cell? _ ⟨_, _, none⟩ k23) k23)
          | (go_at_call 132; refine (HL.out _ HB0).mono ?_; rintro e w3 ⟨p1, m1, q1, rfl, r1, g3⟩; have HB3 := HB0.step g3; have HZ3 := Nat.le_trans HZ0 g3.size; have k13 := g3.at (World.block_lt_of_cell? _ ⟨_, _, none⟩ k1) k1; have k23 := g3.at (World.block_lt_of_cell? _ ⟨_, _, none⟩ k2) k2)
          | (go_at_call 132; refine (HR.out _ HB0).mono ?_; rintro e w3 ⟨p2, m2, q2, rfl, r2, g3⟩; have HB3 := HB0.step g3; have HZ3 := Nat.le_trans HZ0 g3.size; have k13 := g3.at (World.block_lt_of_cell? _ ⟨_, _, none⟩ k1) k1; have k23 := g3.at (World.block_lt_of_cell? _ ⟨_, _, none⟩ k2) k2)
          | fail)
      all_goals
        have hm5 := row_len R5
        subst hm5
        have hsl5 := (OwnI.of_row R5).sl
        have hal : (A1 ++ A2).length = N.length := by rw [HT.out, natsI_len]
        have HSL : Hid (SlI (wr.heap.size + 1) w5.heap.size w5 (.slice a5 (A1 ++ A2).length c5) (natsI N)) := by show SlI _ _ _ _ _; rw [← HT.out]; exact hsl5
        have hO5 : Hid (RowI w.heap.size w5 u3 (natsI (varsTo F 12))) := by show RowI _ _ _ _; exact ownsRow_bel HROW.out HB5
        have HNIL2 := Lib.hid HNIL.out
        have hB5 := hb.step HB5
        clear r1 r2 R1 R2 R5 hg5 hsl5 k1 k2 k13 k23 k14 k24 k15 k25 g3 g4 HT HB4 HB3 HB0 HZ0 HZ3 HZ4 HL HR c1 c2 c3
        rw [hal] at *
        go_wp2_with fail
        go_loopw [3, 22] (fun o i w6 => ∃ (q : Nat) (G : Nat → Bool), q ≤ N.length ∧ i = .int .i64 q ∧ RowI w.heap.size w6 o (natsI (varsTo G 12)) ∧ (varsTo G 12 = [] → o = .slice none 0 0) ∧ (∀ j, j < 12 → G j = (F j || decide (j ∈ N.take q))) ∧ Bel w5 w6) (fun _ i _ => N.length - (intOf i).toNat)
        case atStart => exact ⟨0, F, Nat.zero_le _, rfl, hO5.out, HNIL2.out, fun j _ => by simp, Bel.rfl' _⟩
        case round =>
          obtain ⟨q, G, hq, rfl, hrG, hnG, hG, hb6⟩ := hrel
          by_cases hlq : q < N.length
          · obtain ⟨ad5, cap5, e5, _, _, hr5⟩ := HSL.out
            simp only [Value.slice.injEq] at e5
            obtain ⟨rfl, -, rfl⟩ := e5
            obtain ⟨b5, o5, rfl, -, hcell⟩ := rd hr5 hb6 q (by rw [natsI_len]; exact hlq)
            rw [nget _ _ hlq] at hcell
            have hm12 := HTL.out _ (mem_getD N 0 q hlq)
            have HP := Lib.hid (put_take hlq hG)
            have hq1 : (q : Int) < N.length := by omega
            have hps := put_some G (N.getD q 0) hm12
            clear hr5 hG HSL
            generalize N.getD q 0 = m at *
            cases hl : varsTo G 12 with
            | nil =>
              have ho := hnG hl
              have E4 := Lib.hid (put_empty hm12 hl)
              have HPS := Lib.hid hps
              subst ho
              clear hrG hnG hl hps
              go_wp2_with fail
              refine (l1Put_nz _ m _ rfl).mono ?_; rintro e w7 ⟨a7, n7, c7, rfl, ho7, hb7⟩
              go_wp2_with fail
              go_roundw
              case rel => exact ⟨q+1, setF G m, by omega, by go_num, by rw [E4.out]; exact RowI.mono ho7 (hB5.step hb6).size, fun h => by have := HPS.out; rw [h] at this; simp at this, HP.out, hb6.step hb7⟩
              case measure => simp [intOf]; omega
            | cons y ys =>
              have hpos : 0 < (varsTo G 12).length := by rw [hl]; simp
              have HPS := Lib.hid hps
              have HO := Lib.hid hrG
              clear hrG hnG hl hps
              go_wp2_with fail
              refine (l1Put_q _ w.heap.size _ G m _ rfl hm12 (hB5.step hb6).size hpos HO.out).mono ?_; rintro e w7 ⟨a7, n7, c7, rfl, ho7, hb7⟩
              go_wp2_with fail
              go_roundw
              case rel => exact ⟨q+1, setF G m, by omega, by go_num, ho7, fun h => by have := HPS.out; rw [h] at this; simp at this, HP.out, hb6.step hb7⟩
              case measure => simp [intOf]; omega
          · rw [List.take_of_length_le (by omega)] at hG
            have hGG := HM.out G hG
            rw [← HFT.out] at hGG
            have HGG := Lib.hid hGG
            have HO := Lib.hid hrG
            have HNG := Lib.hid hnG
            clear hG hGG hrG hnG HSL
            have hq1 : ¬ (q : Int) < N.length := by omega
            go_wp2_with fail
            go_roundw
            case rel => exact ⟨k+1, G, by omega, by go_num, HO.out, HNG.out, HGG.out, hB5.step hb6⟩
            case measure => simp [intOf]; omega
    · rw [List.take_of_length_le (by omega)] at hF
      obtain ⟨g, n, c2, hv'⟩ := own_form hrow
      subst hv'
      have E := Lib.hid (varsTo_congr 12 hF)
      have HO := Lib.hid hrow
      clear hrow hnil hF
      go_wp2_with fail
      go_ret
      exact ⟨_, _, _, rfl, by rw [← E.out]; exact OwnI.of_row HO.out, hb⟩
theorem flat_low1 {ar : List Int} {c : List Lt} (h : goodClause ar c = true) : ∀ t ∈ flatC c, ∀ k, k < t.length → -12 ≤ t.getD k 0 :=
  fun _ ht => low_memC fun _ hn => ok_low (flat_ok (goodClause_iff.1 h).2.2 ht) hn

set_option maxRecDepth 100000 in
set_option maxHeartbeats 400000 in
theorem sVarsIn_t {l h l' h' : Nat} {v u : Value} {ar : List Int} {c : List Lt} {w : World} (ha : ar.length ≤ 1048576) (hv : SlI l h w v ar) (hc : sumC c ≤ 1048576) (hu : SlC l' h' w u c) :
    Calls Try.prog 42 #[.agg #[v], u] w (RetIB w (varsInAns ar c) (goodClause ar c)) := by
  unfold varsInAns
  cases hg : goodClause ar c with
  | false =>
    rw [if_neg (by simp)]
    have HG := Lib.hid hg; clear hg
    go_enter Try.func42, Try.ntmps42
    go_wp2_with fail
    refine (sGoodClause_v HG.out ha (hv.alloc _) hc (hu.alloc _)).mono ?_; rintro e w1 ⟨rfl, hb1⟩
    go_wp2_with fail
    go_ret2
    exact ⟨_, _, _, rfl, OwnI.nil _ _ _, hb1.of_alloc⟩
  | true =>
    rw [if_pos rfl]
    have HC := Lib.hid (fun (w' : World) (hb : Bel w w') => l4Vars_c l' h' u c w' (shortC_of_sum hc) (flat_low1 hg) (hu.below hb))
    have HG := Lib.hid hg; clear hg
    go_enter Try.func42, Try.ntmps42
    go_wp2_with fail
    refine (sGoodClause_v HG.out ha (hv.alloc _) hc (hu.alloc _)).mono ?_; rintro e w1 ⟨rfl, hb1⟩
    clear hc
    go_wp2_with fail
    refine (HC.out _ hb1.of_alloc).mono ?_; rintro e w2 ⟨a2, n2, c2, rfl, ho2, hb2⟩
    go_wp2_with fail
    go_ret2
    exact ⟨_, _, _, rfl, ho2.mono hb1.of_alloc.size (Nat.le_refl _), hb1.of_alloc.step hb2⟩
end Go.Proofs.Yteegjnobmbcjiaa
end
section
/- Chapter 5: the value of a term; of an instance. No program. -/
namespace Go.Proofs.Yteegjnobmbcjiaa
open Go.RowKit

/-- The entry of symbol n's table for the values vs. -/
def noOf (sz : Int) (vs : List Int) : Int := vs.foldl (fun no v => no * sz + v) 0
def entry (sz : Int) (tb : List (List Int)) (n : Int) (vs : List Int) : Int := (tb.getD n.toNat []).getD (noOf sz vs).toNat 0
def evF (ar t : List Int) (sz : Int) (tb : List (List Int)) (env : List Int) : Nat → Nat → Int
  | 0, _ => 0
  | f + 1, i => if t.getD i 0 < 0 then env.getD (-1 - t.getD i 0).toNat 0 else entry sz tb (t.getD i 0) ((argsOf ar t i).map (evF ar t sz tb env f))
def evT (ar : List Int) (sz : Int) (tb : List (List Int)) (env t : List Int) : Int := evF ar t sz tb env t.length 0

/-- The terms y have the values vs; none: one term; some m: m terms. -/
inductive Ev (ar : List Int) (sz : Int) (tb : List (List Int)) (env : List Int) : Option Nat → List Int → List Int → Prop
  | var (n : Int) : okSym ar n = true → n < 0 → Ev ar sz tb env none [n] [env.getD (-1 - n).toNat 0]
  | node (n : Int) (ys vs : List Int) : okSym ar n = true → 0 ≤ n → Ev ar sz tb env (some (arOf ar n)) ys vs → Ev ar sz tb env none (n :: ys) [entry sz tb n vs]
  | nil : Ev ar sz tb env (some 0) [] []
  | cons (m : Nat) (y ys : List Int) (v : Int) (vs : List Int) : Ev ar sz tb env none y [v] → Ev ar sz tb env (some m) ys vs → Ev ar sz tb env (some (m + 1)) (y ++ ys) (v :: vs)
section
variable {ar : List Int} {sz : Int} {tb : List (List Int)} {env : List Int}
theorem Ev.seq {s : Option Nat} {y vs : List Int} (h : Ev ar sz tb env s y vs) : seqT ar (match s with | none => 1 | some m => m) y := by
  induction h with
  | var n h1 h2 => exact seqT_cons.2 ⟨h1, by rw [arOf_neg h2]; rfl⟩
  | node n ys vs h1 h2 _ ih => exact seqT_cons.2 ⟨h1, by rw [Nat.zero_add]; exact ih⟩
  | nil => rfl
  | cons m y ys v vs _ _ ih1 ih2 =>
    have := seqT_append ih1 ih2
    rwa [Nat.add_comm] at this
theorem Ev.det {s : Option Nat} {y vs : List Int} (h : Ev ar sz tb env s y vs) : ∀ {z us : List Int}, Ev ar sz tb env s z us → z = y → us = vs := by
  induction h with
  | var n h1 h2 =>
    intro z us h' e
    cases h' with
    | var n' _ _ => simp at e; rw [e]
    | node n' ys' vs' _ h3 _ => simp at e; omega
  | node n ys vs h1 h2 _ ih =>
    intro z us h' e
    cases h' with
    | var n' _ h3 => simp at e; omega
    | node n' ys' vs' _ _ h4 =>
      simp at e
      obtain ⟨rfl, rfl⟩ := e
      rw [ih h4 rfl]
  | nil =>
    intro z us h' e
    cases h' with
    | nil => rfl
  | cons m y ys v vs hy hys ih1 ih2 =>
    intro z us h' e
    cases h' with
    | cons _ y' ys' v' vs' h3 h4 =>
      have e1 : y' = y := seq_prefix (show seqT ar 1 y' from h3.seq) (show seqT ar 1 y from hy.seq) e
      subst e1
      have e2 := List.append_cancel_left e
      subst e2
      have e3 := ih1 h3 rfl
      simp at e3
      rw [e3, ih2 h4 rfl]
theorem args_ev {t : List Int} {g : Nat → Int} : ∀ (k p e : Nat), endGo ar (t.drop p) k p = some e → (∀ a ∈ argsGo ar t k p, ∀ q, endOf ar t a = some q → Ev ar sz tb env none (partOf t a q) [g a]) → Ev ar sz tb env (some k) (partOf t p e) ((argsGo ar t k p).map g) := by
  intro k
  induction k with
  | zero =>
    intro p e h _
    rw [endGo_zero] at h
    simp at h
    subst h
    have : partOf t p p = [] := by simp [partOf]
    rw [this]
    exact Ev.nil
  | succ k ih =>
    intro p e h hp
    obtain ⟨q, hq, hr, h1, h2⟩ := ends_step ar t p k e h
    have hgo : argsGo ar t (k+1) p = p :: argsGo ar t k q := by rw [argsGo]; simp [hq]
    rw [hgo] at hp ⊢
    rw [part_split (Nat.le_of_lt h1) h2, List.map_cons]
    exact Ev.cons k _ _ _ _ (hp p List.mem_cons_self q hq) (ih q e hr (fun a ha => hp a (List.mem_cons_of_mem _ ha)))
theorem ev_at {t : List Int} (h : okTerm ar t = true) : ∀ (n i e : Nat), t.length - i ≤ n → i < t.length → endOf ar t i = some e → Ev ar sz tb env none (partOf t i e) [evF ar t sz tb env n i] := by
  intro n
  induction n with
  | zero => intro i e hn hi; omega
  | succ n ih =>
    intro i e hn hi he
    have hs := good_sym ar t h i hi
    have hend : endGo ar (t.drop (i+1)) (arOf ar (t.getD i 0)) (i+1) = some e := by
      have h1 := he
      unfold endOf at h1
      rw [drop_cons t i hi, endGo_cons, if_pos hs, Nat.zero_add] at h1
      exact h1
    have hge := endGo_ge _ _ _ _ _ hend
    have hpart : partOf t i e = t.getD i 0 :: partOf t (i+1) e := by
      unfold partOf
      rw [drop_cons t i hi, show e - i = (e - (i+1)) + 1 by omega, List.take_succ_cons]
    rw [hpart, evF]
    by_cases h0 : t.getD i 0 < 0
    · rw [if_pos h0]
      rw [arOf_neg h0, endGo_zero] at hend
      simp at hend
      subst hend
      have : partOf t (i+1) (i+1) = [] := by simp [partOf]
      rw [this]
      exact Ev.var _ hs h0
    · rw [if_neg h0]
      exact Ev.node _ _ _ hs (by omega) (args_ev _ (i+1) e hend (fun a ha q hq => by
        have hb := argsOf_bd ar t h i hi a ha
        exact ih a q (by omega) hb.2 hq))
/-- A valid term has its value. -/
theorem ev_whole {t : List Int} (h : okTerm ar t = true) : Ev ar sz tb env none t [evT ar sz tb env t] := by
  obtain ⟨h1, _, h3⟩ := (okTerm_iff ar t).1 h
  have := ev_at (sz := sz) (tb := tb) (env := env) h t.length 0 t.length (by omega) (by omega) h3
  rwa [show partOf t 0 t.length = t from by simp [partOf]] at this
theorem ev_eq {t : List Int} {n : Int} (h : okTerm ar t = true) (hv : Ev ar sz tb env none t [n]) : evT ar sz tb env t = n := by
  have := hv.det (ev_whole h) rfl
  simpa using this
/-- More fuel changes nothing. -/
theorem evF_fuel {t : List Int} (h : okTerm ar t = true) (n i : Nat) (hn : t.length - i ≤ n) (hi : i < t.length) : evF ar t sz tb env n i = evF ar t sz tb env (t.length - i) i := by
  obtain ⟨e, he, _⟩ := good_end ar t h i hi
  have h1 := ev_at (sz := sz) (tb := tb) (env := env) h n i e hn hi he
  have h2 := ev_at (sz := sz) (tb := tb) (env := env) h (t.length - i) i e (Nat.le_refl _) hi he
  have := h2.det h1 rfl
  simpa using this
/-- The value of an instance is the value under the values of the substitution. -/
theorem Ev.sub {env' : List Int} {b : List (List Int)} (hb : ∀ n : Int, okSym ar n = true → n < 0 → Ev ar sz tb env none (one1 b n) [env'.getD (-1 - n).toNat 0]) {s : Option Nat} {y vs : List Int} (h : Ev ar sz tb env' s y vs) : Ev ar sz tb env s (appT b y) vs := by
  induction h with
  | var n h1 h2 => rw [appT_one]; exact hb n h1 h2
  | node n ys vs h1 h2 _ ih =>
    have e : appT b (n :: ys) = n :: appT b ys := by
      show one1 b n ++ appT b ys = _
      rw [one1_sym (by omega)]; rfl
    rw [e]
    exact Ev.node n _ vs h1 h2 ih
  | nil => exact Ev.nil
  | cons m y ys v vs _ _ ih1 ih2 => rw [appT_append]; exact Ev.cons m _ _ v vs ih1 ih2
/-- The values that an assignment gives to a substitution. -/
def subEnv (ar : List Int) (sz : Int) (tb : List (List Int)) (env : List Int) (b : List (List Int)) : List Int := (List.range 12).map fun v => if 0 < (b.getD v []).length then evT ar sz tb env (b.getD v []) else env.getD v 0
theorem sub_value {b : List (List Int)} {t : List Int} (ht : okTerm ar t = true) (hb : ∀ v, v < 12 → 0 < (b.getD v []).length → okTerm ar (b.getD v []) = true) (hi : okTerm ar (appT b t) = true) :
    evT ar sz tb env (appT b t) = evT ar sz tb (subEnv ar sz tb env b) t := by
  refine ev_eq hi (Ev.sub (env' := subEnv ar sz tb env b) (fun n h1 h2 => ?_) (ev_whole ht))
  have hlt : (-1 - n).toNat < 12 := by unfold okSym inB at h1; simp at h1; omega
  have hg : (subEnv ar sz tb env b).getD (-1 - n).toNat 0 = if 0 < (b.getD (-1 - n).toNat []).length then evT ar sz tb env (b.getD (-1 - n).toNat []) else env.getD (-1 - n).toNat 0 := by
    unfold subEnv
    rw [List.getD_eq_getElem?_getD, List.getElem?_map, List.getElem?_range hlt]
    rfl
  rw [hg]
  by_cases hp : 0 < (b.getD (-1 - n).toNat []).length
  · rw [if_pos hp, one1_var h2 hp]
    exact ev_whole (hb _ hlt hp)
  · rw [if_neg hp, one1_free hp]
    exact Ev.var n h1 h2
end
end Go.Proofs.Yteegjnobmbcjiaa
end
section
/- Chapter 5: worlds, how many there are, the n-th. No program. -/
namespace Go.Proofs.Yteegjnobmbcjiaa
open Go.RowKit

theorem mem_gd {α : Type} (l : List α) (d : α) (j : Nat) (h : j < l.length) : l.getD j d ∈ l := by
  rw [List.getD_eq_getElem?_getD, List.getElem?_eq_getElem h]; exact List.getElem_mem h
theorem gd_eq {α : Type} (l : List α) (d : α) (j : Nat) (h : j < l.length) : l.getD j d = l[j] := by simp [List.getD, h]
/-- How many lists of arguments. -/
def longW (sz a : Int) : Nat := sz.toNat ^ a.toNat
def okTab (sz a : Int) (t : List Int) : Bool := decide (t.length = longW sz a) && t.all (fun x => inB x 0 (sz - 1))
def okTabs (ar : List Int) (sz : Int) (tb : List (List Int)) (n : Nat) : Bool := (List.range n).all fun k => okTab sz (ar.getD k 0) (tb.getD k [])
def isWorld (ar : List Int) (sz : Int) (tb : List (List Int)) : Bool := inB sz 1 3 && (decide (tb.length = ar.length) && okTabs ar sz tb tb.length)
def goodWorld (ar : List Int) (sz : Int) (tb : List (List Int)) : Bool := goodSign ar && isWorld ar sz tb
def okEnv (sz : Int) (env : List Int) : Bool := decide (env.length = 12) && env.all (fun x => inB x 0 (sz - 1))
theorem okTabs_zero (ar : List Int) (sz : Int) (tb : List (List Int)) : okTabs ar sz tb 0 = true := rfl
theorem okTabs_succ (ar : List Int) (sz : Int) (tb : List (List Int)) (k : Nat) : okTabs ar sz tb (k+1) = (okTabs ar sz tb k && okTab sz (ar.getD k 0) (tb.getD k [])) := by
  unfold okTabs
  rw [List.range_succ, List.all_append]
  simp
theorem okTabs_false {ar : List Int} {sz : Int} {tb : List (List Int)} {k n : Nat} (h : okTab sz (ar.getD k 0) (tb.getD k []) = false) (hk : k < n) : okTabs ar sz tb n = false := by
  unfold okTabs
  rw [List.all_eq_false]
  exact ⟨k, List.mem_range.2 hk, by rw [h]; simp⟩
theorem longW_le {sz a : Int} (h1 : sz ≤ 3) (h2 : a ≤ 3) : longW sz a ≤ 27 := by
  unfold longW
  calc sz.toNat ^ a.toNat ≤ 3 ^ a.toNat := Nat.pow_le_pow_left (by omega) _
    _ ≤ 3 ^ 3 := Nat.pow_le_pow_right (by omega) (by omega)
theorem longW_pos {sz a : Int} (h1 : 1 ≤ sz) : 1 ≤ longW sz a := Nat.one_le_iff_ne_zero.2 (Nat.pos_iff_ne_zero.1 (Nat.pow_pos (by omega)))
theorem isWorld_iff {ar : List Int} {sz : Int} {tb : List (List Int)} : isWorld ar sz tb = true ↔ 1 ≤ sz ∧ sz ≤ 3 ∧ tb.length = ar.length ∧ ∀ k, k < tb.length → (tb.getD k []).length = longW sz (ar.getD k 0) ∧ ∀ j, j < (tb.getD k []).length → 0 ≤ (tb.getD k []).getD j 0 ∧ (tb.getD k []).getD j 0 ≤ sz - 1 := by
  unfold isWorld okTabs okTab inB
  simp only [Bool.and_eq_true, decide_eq_true_eq, List.all_eq_true, List.mem_range]
  constructor
  · rintro ⟨⟨h1, h2⟩, h3, h4⟩
    refine ⟨h1, h2, h3, fun k hk => ⟨(h4 k hk).1, fun j hj => ?_⟩⟩
    exact (h4 k hk).2 _ (mem_gd _ 0 j hj)
  · rintro ⟨h1, h2, h3, h4⟩
    refine ⟨⟨h1, h2⟩, h3, fun k hk => ⟨(h4 k hk).1, fun x hx => ?_⟩⟩
    obtain ⟨j, hj, rfl⟩ := List.getElem_of_mem hx
    have := (h4 k hk).2 j hj
    rwa [gd_eq _ _ j hj] at this
theorem goodWorld_iff {ar : List Int} {sz : Int} {tb : List (List Int)} : goodWorld ar sz tb = true ↔ goodSign ar = true ∧ isWorld ar sz tb = true := by
  unfold goodWorld; rw [Bool.and_eq_true]
theorem okEnv_iff {sz : Int} {env : List Int} : okEnv sz env = true ↔ env.length = 12 ∧ ∀ j, j < 12 → 0 ≤ env.getD j 0 ∧ env.getD j 0 ≤ sz - 1 := by
  unfold okEnv inB
  simp only [Bool.and_eq_true, decide_eq_true_eq, List.all_eq_true]
  constructor
  · rintro ⟨h1, h2⟩
    exact ⟨h1, fun j hj => h2 _ (mem_gd _ 0 j (by omega))⟩
  · rintro ⟨h1, h2⟩
    refine ⟨h1, fun x hx => ?_⟩
    obtain ⟨j, hj, rfl⟩ := List.getElem_of_mem hx
    have := h2 j (by omega)
    rwa [gd_eq _ _ j hj] at this

/-- How many worlds: at most 10000 are counted. -/
def cwN (sz : Int) : Nat → Int
  | 0 => 1
  | n + 1 => min (cwN sz n * sz) 10000
theorem cwN_bd {sz : Int} (h1 : 1 ≤ sz) (n : Nat) : 1 ≤ cwN sz n ∧ cwN sz n ≤ 10000 := by
  induction n with
  | zero => exact ⟨Int.le_refl 1, show (1 : Int) ≤ 10000 by decide⟩
  | succ n ih =>
    rw [cwN]
    have := Int.mul_le_mul (show (1 : Int) ≤ cwN sz n from ih.1) h1 (by decide) (by omega)
    omega
theorem cwN_top {sz : Int} (h1 : 1 ≤ sz) {n : Nat} (h : cwN sz n = 10000) (m : Nat) : cwN sz (n + m) = 10000 := by
  induction m with
  | zero => exact h
  | succ m ih =>
    show min (cwN sz (n + m) * sz) 10000 = 10000
    rw [ih]; omega
/-- The lists of arguments of the first k symbols. -/
def sumW (ar : List Int) (sz : Int) : Nat → Nat
  | 0 => 0
  | k + 1 => sumW ar sz k + longW sz (ar.getD k 0)
def worldsAns (ar : List Int) (sz : Int) : Int := if goodSign ar && inB sz 1 3 then cwN sz (sumW ar sz ar.length) else 0

/-- The digits of no, and what is left of it. -/
def digW (sz no : Int) : Nat → List Int
  | 0 => []
  | k + 1 => digW sz no k ++ [no / sz ^ k % sz]
def tabsW (ar : List Int) (sz no : Int) : Nat → List (List Int)
  | 0 => []
  | k + 1 => tabsW ar sz no k ++ [digW sz (no / sz ^ sumW ar sz k) (longW sz (ar.getD k 0))]
theorem digW_len (sz no : Int) (k : Nat) : (digW sz no k).length = k := by
  induction k with
  | zero => rfl
  | succ k ih => simp [digW, ih]
theorem tabsW_len (ar : List Int) (sz no : Int) (k : Nat) : (tabsW ar sz no k).length = k := by
  induction k with
  | zero => rfl
  | succ k ih => simp [tabsW, ih]
end Go.Proofs.Yteegjnobmbcjiaa
end
section
/- Chapter 5: the values of terms lie in the world. No program. -/
namespace Go.Proofs.Yteegjnobmbcjiaa
open Go.RowKit

/-- The values of terms lie below the size. -/
theorem noOf_snoc (sz : Int) (vs : List Int) (v : Int) : noOf sz (vs ++ [v]) = noOf sz vs * sz + v := by simp [noOf]
theorem fold_bd {sz : Int} (h1 : 1 ≤ sz) : ∀ (vs : List Int) (acc : Int) (m : Nat), (∀ v ∈ vs, 0 ≤ v ∧ v ≤ sz - 1) → 0 ≤ acc → acc < ((sz.toNat ^ m : Nat) : Int) → 0 ≤ vs.foldl (fun no v => no * sz + v) acc ∧ vs.foldl (fun no v => no * sz + v) acc < ((sz.toNat ^ (m + vs.length) : Nat) : Int) := by
  intro vs
  induction vs with
  | nil => intro acc m _ h2 h3; exact ⟨h2, h3⟩
  | cons v vs ih =>
    intro acc m h h2 h3
    obtain ⟨v1, v2⟩ := h v (by simp)
    have hz : ((sz.toNat : Nat) : Int) = sz := by omega
    have h4 := Int.mul_nonneg h2 (show 0 ≤ sz by omega)
    have h5 : (acc + 1) * sz ≤ ((sz.toNat ^ m : Nat) : Int) * sz := Int.mul_le_mul_of_nonneg_right (by omega) (by omega)
    rw [Int.add_mul] at h5
    have h6 : ((sz.toNat ^ (m + 1) : Nat) : Int) = ((sz.toNat ^ m : Nat) : Int) * sz := by rw [Nat.pow_succ, Int.natCast_mul, hz]
    have := ih (acc * sz + v) (m + 1) (fun x hx => h x (by simp [hx])) (by omega) (by omega)
    rw [show m + (v :: vs).length = m + 1 + vs.length from by simp; omega]
    exact this
theorem noOf_bd {sz : Int} (h1 : 1 ≤ sz) (vs : List Int) (h : ∀ v ∈ vs, 0 ≤ v ∧ v ≤ sz - 1) : 0 ≤ noOf sz vs ∧ noOf sz vs < (longW sz vs.length : Nat) := by
  have := fold_bd h1 vs 0 0 h (Int.le_refl _) (by simp)
  rw [Nat.zero_add] at this
  exact this
theorem evT_bd {ar : List Int} {sz : Int} {tb : List (List Int)} {env : List Int} (_ : goodSign ar = true) (hw : isWorld ar sz tb = true) (he : okEnv sz env = true) {s : Option Nat} {y vs : List Int} (h : Ev ar sz tb env s y vs) :
    (∀ v ∈ vs, 0 ≤ v ∧ v ≤ sz - 1) ∧ vs.length = (match s with | none => 1 | some m => m) := by
  obtain ⟨w1, w2, w3, w4⟩ := isWorld_iff.1 hw
  obtain ⟨e1, e2⟩ := okEnv_iff.1 he
  induction h with
  | var n h1 h2 =>
    refine ⟨fun v hv => ?_, rfl⟩
    simp at hv
    subst hv
    exact e2 _ (by unfold okSym inB at h1; simp at h1; omega)
  | node n ys vs h1 h2 _ ih =>
    refine ⟨fun v hv => ?_, rfl⟩
    simp at hv
    subst hv
    have hn : n.toNat < tb.length := by unfold okSym inB at h1; simp at h1; omega
    obtain ⟨t1, t2⟩ := w4 n.toNat hn
    obtain ⟨i1, i2⟩ := ih
    simp only at i2
    have hb := noOf_bd w1 vs i1
    unfold entry
    refine t2 _ ?_
    rw [t1]
    have ha : (ar.getD n.toNat 0).toNat = vs.length := by rw [i2]; unfold arOf; rw [if_neg (by omega)]
    have : longW sz (ar.getD n.toNat 0) = longW sz (vs.length : Nat) := by unfold longW; rw [ha]; rfl
    omega
  | nil => exact ⟨fun v hv => by simp at hv, rfl⟩
  | cons m y ys v vs _ _ ih1 ih2 =>
    refine ⟨fun x hx => ?_, ?_⟩
    · rcases List.mem_cons.1 hx with rfl | hx
      · exact ih1.1 _ (by simp)
      · exact ih2.1 _ hx
    · simp at ih2 ⊢; exact ih2.2

end Go.Proofs.Yteegjnobmbcjiaa
end
section
/- Chapter 5: the value of a term, reckoned from its end. No program. -/
namespace Go.Proofs.Yteegjnobmbcjiaa
open Go.RowKit

/-- The values of the terms that a list is. -/
def sufV (ar : List Int) (sz : Int) (tb : List (List Int)) (env : List Int) : List Int → List Int
  | [] => []
  | n :: r => if n < 0 then env.getD (-1 - n).toNat 0 :: sufV ar sz tb env r else entry sz tb n ((sufV ar sz tb env r).take (arOf ar n)) :: (sufV ar sz tb env r).drop (arOf ar n)
section
variable {ar : List Int} {sz : Int} {tb : List (List Int)} {env : List Int}
theorem sufV_neg {n : Int} {r : List Int} (h : n < 0) : sufV ar sz tb env (n :: r) = env.getD (-1 - n).toNat 0 :: sufV ar sz tb env r := by rw [sufV, if_pos h]
theorem sufV_sym {n : Int} {r : List Int} (h : ¬ n < 0) : sufV ar sz tb env (n :: r) = entry sz tb n ((sufV ar sz tb env r).take (arOf ar n)) :: (sufV ar sz tb env r).drop (arOf ar n) := by rw [sufV, if_neg h]
theorem sufV_len : ∀ y : List Int, (sufV ar sz tb env y).length ≤ y.length := by
  intro y
  induction y with
  | nil => exact Nat.le_refl _
  | cons n r ih =>
    by_cases h : n < 0
    · rw [sufV_neg h]; simp; exact ih
    · rw [sufV_sym h]; simp; omega
theorem Ev.len {s : Option Nat} {y vs : List Int} (h : Ev ar sz tb env s y vs) : vs.length = (match s with | none => 1 | some m => m) := by
  induction h with
  | var n h1 h2 => rfl
  | node n ys vs h1 h2 _ ih => rfl
  | nil => rfl
  | cons m y ys v vs _ _ ih1 ih2 => simp at ih2 ⊢; exact ih2
theorem Ev.suf {s : Option Nat} {y vs : List Int} (h : Ev ar sz tb env s y vs) : ∀ r, sufV ar sz tb env (y ++ r) = vs ++ sufV ar sz tb env r := by
  induction h with
  | var n h1 h2 => intro r; exact sufV_neg h2
  | node n ys vs h1 h2 hy ih =>
    intro r
    have hl := hy.len
    simp only at hl
    show sufV ar sz tb env (n :: (ys ++ r)) = _
    rw [sufV_sym (by omega), ih r, ← hl, List.take_left', List.drop_left']
    · rfl
    · rfl
    · rfl
  | nil => intro r; rfl
  | cons m y ys v vs _ _ ih1 ih2 =>
    intro r
    rw [List.append_assoc, ih1, ih2]
    rfl
theorem suf_ev {t : List Int} (h : okTerm ar t = true) : ∀ (k i : Nat), t.length - i ≤ k → i ≤ t.length → ∃ m, Ev ar sz tb env (some m) (t.drop i) (sufV ar sz tb env (t.drop i)) := by
  intro k
  induction k with
  | zero =>
    intro i hk hi
    rw [List.drop_of_length_le (by omega)]
    exact ⟨0, Ev.nil⟩
  | succ k ih =>
    intro i hk hi
    by_cases hlt : i < t.length
    · obtain ⟨e, he, h1, h2⟩ : ∃ e, endOf ar t i = some e ∧ i < e ∧ e ≤ t.length := by
        obtain ⟨e, he, h2⟩ := good_end ar t h i hlt
        refine ⟨e, he, ?_, by omega⟩
        have hs := good_sym ar t h i hlt
        unfold endOf at he
        rw [drop_cons t i hlt, endGo_cons, if_pos hs, Nat.zero_add] at he
        have := endGo_ge _ _ _ _ _ he
        omega
      obtain ⟨m, hm⟩ := ih e (by omega) h2
      have hp := ev_at (sz := sz) (tb := tb) (env := env) h (t.length - i) i e (Nat.le_refl _) hlt he
      have hd : t.drop i = partOf t i e ++ t.drop e := by
        unfold partOf
        conv => lhs; rw [← List.take_append_drop (e - i) (t.drop i)]
        rw [List.drop_drop, show i + (e - i) = e from by omega]
      have hsuf := hp.suf (t.drop e)
      rw [← hd] at hsuf
      refine ⟨m + 1, ?_⟩
      rw [hsuf, hd]
      exact Ev.cons m _ _ _ _ hp hm
    · rw [List.drop_of_length_le (by omega)]
      exact ⟨0, Ev.nil⟩
theorem suf_all {t : List Int} (h : okTerm ar t = true) : sufV ar sz tb env t = [evT ar sz tb env t] := by
  have := (ev_whole (sz := sz) (tb := tb) (env := env) h).suf []
  rw [List.append_nil] at this
  exact this
theorem suf_bd (hg : goodSign ar = true) (hw : isWorld ar sz tb = true) (he : okEnv sz env = true) {t : List Int} (h : okTerm ar t = true) (i : Nat) (hi : i ≤ t.length) : ∀ v ∈ sufV ar sz tb env (t.drop i), 0 ≤ v ∧ v ≤ sz - 1 := by
  obtain ⟨m, hm⟩ := suf_ev (sz := sz) (tb := tb) (env := env) h (t.length - i) i (Nat.le_refl _) hi
  exact (evT_bd hg hw he hm).1
/-- The arguments of the symbol at i stand on top. -/
theorem suf_args {t : List Int} (h : okTerm ar t = true) (i : Nat) (hi : i < t.length) (hn : ¬ t.getD i 0 < 0) : arOf ar (t.getD i 0) ≤ (sufV ar sz tb env (t.drop (i+1))).length := by
  obtain ⟨m, hm⟩ := suf_ev (sz := sz) (tb := tb) (env := env) h (t.length - i) i (Nat.le_refl _) (by omega)
  rw [drop_cons t i hi, sufV_sym hn] at hm
  generalize hY : sufV ar sz tb env (t.drop (i+1)) = Y at *
  generalize hT : t.getD i 0 :: t.drop (i+1) = T at hm
  generalize hV : entry sz tb (t.getD i 0) (Y.take (arOf ar (t.getD i 0))) :: Y.drop (arOf ar (t.getD i 0)) = V at hm
  clear hV
  generalize t.getD i 0 = s at *
  cases hm with
  | nil => simp at hT
  | cons m y ys v vs h1 h2 =>
    cases h1 with
    | var n _ h3 =>
      simp at hT
      omega
    | node n ys' vs' _ _ h4 =>
      simp at hT
      obtain ⟨rfl, e2⟩ := hT
      have := h4.suf ys
      rw [← e2, hY] at this
      have hl := h4.len
      simp only at hl
      rw [this]; simp; omega
end

/-- The stack: forty numbers, the first value on top. -/
def Stk (w : World) (B : Nat) (vs : List Int) : Prop :=
  B < w.heap.size ∧ (∀ j, j < 40 → ∃ x : Int, w.cell? ⟨B, j, none⟩ = some (.int .i64 x) ∧ w.frozen? ⟨B, j, none⟩ = false) ∧ ∀ j, j < vs.length → w.cell? ⟨B, vs.length - 1 - j, none⟩ = some (.int .i64 (vs.getD j 0))
theorem Stk.new (w : World) (T : TypeId) (cs : Array Value) (hcs : cs = Array.replicate 40 (.int .i64 0)) : Stk (w.alloc (.cells cs T)) w.heap.size [] := by
  subst hcs
  refine ⟨by simp, fun j hj => ⟨0, ?_, ?_⟩, fun j h => by simp at h⟩
  · rw [World.cell?_alloc_new w]; simp [hj]
  · exact World.frozen?_alloc_at _ _ _ _ rfl
theorem Stk.below {w w' : World} {B : Nat} {vs : List Int} (h : Stk w B vs) (hb : Bel w w') : Stk w' B vs := by
  obtain ⟨h1, h2, h3⟩ := h
  refine ⟨Nat.lt_of_lt_of_le h1 hb.size, fun j hj => ?_, fun j a => hb.at h1 (h3 j a)⟩
  obtain ⟨x, e1, e2⟩ := h2 j hj
  exact ⟨x, hb.at h1 e1, (hb.frozen (p := ⟨B, j, none⟩) h1).trans e2⟩
theorem Stk.drop {w : World} {B : Nat} {vs : List Int} (h : Stk w B vs) (a : Nat) (ha : a ≤ vs.length) : Stk w B (vs.drop a) := by
  refine ⟨h.1, h.2.1, fun j hj => ?_⟩
  rw [List.length_drop] at hj ⊢
  have := h.2.2 (a + j) (by omega)
  rw [show vs.length - 1 - (a + j) = vs.length - a - 1 - j from by omega] at this
  rw [this]
  simp [List.getD, List.getElem?_drop]
theorem Stk.push {w : World} {B : Nat} {vs : List Int} (h : Stk w B vs) (x : Int) (hl : vs.length < 40) : Stk (w.setCell ⟨B, vs.length, none⟩ (.int .i64 x)) B (x :: vs) := by
  obtain ⟨h1, h2, h3⟩ := h
  obtain ⟨x0, e1, e2⟩ := h2 vs.length hl
  have hne : ∀ j, j ≠ vs.length → (⟨B, vs.length, none⟩ : Addr) ≠ ⟨B, j, none⟩ := by intro j h1 h2; simp only [Addr.mk.injEq, and_true, true_and] at h2; omega
  refine ⟨by simpa using h1, fun j hj => ?_, fun j a => ?_⟩
  · by_cases e : j = vs.length
    · subst e; exact ⟨_, World.cell?_setCell_same _ _ _ e1, by rw [World.frozen?_setCell]; exact e2⟩
    · obtain ⟨y, f1, f2⟩ := h2 j hj
      exact ⟨y, by rw [World.cell?_setCell_other (h := hne j e)]; exact f1, by rw [World.frozen?_setCell]; exact f2⟩
  · cases j with
    | zero =>
      rw [show (x :: vs).length - 1 - 0 = vs.length from by simp]
      exact World.cell?_setCell_same _ _ _ e1
    | succ j =>
      simp only [List.length_cons] at a
      rw [show (x :: vs).length - 1 - (j + 1) = vs.length - 1 - j from by simp; omega, World.cell?_setCell_other (h := hne _ (by omega))]
      simpa using h3 j (by omega)
end Go.Proofs.Yteegjnobmbcjiaa
end
section
/- Chapter 5, the reference: GoodWorld. -/
namespace Go.Proofs.Yteegjnobmbcjiaa
open Go.RowKit

theorem pw_le {Z k : Nat} (h1 : Z ≤ 3) (h2 : k ≤ 3) : Z ^ k ≤ 27 :=
  Nat.le_trans (Nat.pow_le_pow_left h1 _) (Nat.pow_le_pow_right (n := 3) (by omega) h2)
theorem pw_succ (Z k : Nat) : ((Z ^ k : Nat) : Int) * (Z : Int) = ((Z ^ (k + 1) : Nat) : Int) := by rw [Nat.pow_succ]; simp

set_option maxRecDepth 100000 in
set_option maxHeartbeats 400000 in
theorem l5Long_c (Z A : Nat) (w : World) (h2 : Z ≤ 3) (h3 : A ≤ 3) :
    Calls Try.prog 139 #[.int .i64 (Z : Int), .int .i64 (A : Int)] w (RetV w (.int .i64 ((Z ^ A : Nat) : Int))) := by
  go_enter Try.func139, Try.ntmps139
  go_wp2_with fail
  go_loop [1, 5] (fun a n => ∃ k : Nat, k ≤ A ∧ a = .int .i64 ((A - k : Nat) : Int) ∧ n = .int .i64 ((Z ^ k : Nat) : Int)) (fun a _ => (intOf a).toNat)
  case atStart => exact ⟨0, Nat.zero_le _, rfl, rfl⟩
  case round =>
    obtain ⟨k, hk, rfl, rfl⟩ := hrel
    by_cases hlt : k < A
    · have E := Lib.hid (pw_succ Z k)
      have hb := pw_le h2 (show k + 1 ≤ 3 by omega)
      have hw : -9223372036854775808 ≤ ((Z ^ k : Nat) : Int) * (Z : Int) ∧ ((Z ^ k : Nat) : Int) * (Z : Int) ≤ 9223372036854775807 := by rw [E.out]; omega
      have hw1 := IntWalk.i64_in (((Z ^ k : Nat) : Int) * (Z : Int)) hw
      have hpos : (0 : Int) < ((A - k : Nat) : Int) := by omega
      have hg3 : ((A - k : Nat) : Int) ≤ 3 := by omega
      have hsub : ((A - k : Nat) : Int) - 1 = ((A - (k + 1) : Nat) : Int) := by omega
      have HS := Lib.hid hsub
      clear hw hb hsub
      generalize ((A - k : Nat) : Int) = g at *
      generalize ((Z ^ k : Nat) : Int) = y at *
      go_wp2_with fail
      go_round
      case rel => exact ⟨k+1, by omega, by rw [← HS.out], by rw [← E.out]⟩
      case measure => simp [intOf]; omega
    · obtain rfl : k = A := by omega
      have hz : ((k - k : Nat) : Int) = 0 := by simp
      rw [hz]
      generalize ((Z ^ k : Nat) : Int) = y at *
      go_wp2_with fail
      go_ret
      exact ⟨rfl, Bel.rfl' _⟩
end Go.Proofs.Yteegjnobmbcjiaa
end
section
/- Chapter 5, the reference: GoodWorld. -/
namespace Go.Proofs.Yteegjnobmbcjiaa
open Go.RowKit

/-- The length of the k-th table and its elements, as the loop asks. -/
theorem ne_len {a b : Nat} (h : a = b) : ((a : Int) != (b : Int)) = false := by subst h; simp
theorem ne_len' {a b : Nat} (h : a ≠ b) : ((a : Int) != (b : Int)) = true := by rw [bne, beq_eq_false_iff_ne.2 (by omega)]; rfl

set_option maxRecDepth 100000 in
set_option maxHeartbeats 1000000 in
theorem l5World_c (l h l' h' : Nat) (v u : Value) (ar : List Int) (sz : Int) (tb : List (List Int)) (w : World) (hg : goodSign ar = true) (hx : short tb) (hv : SlI l h w v ar) (hu : SlS l' h' w u tb) :
    Calls Try.prog 102 #[.agg #[v], .agg #[.int .i64 sz, u]] w (RetV w (.bool (isWorld ar sz tb))) := by
  obtain ⟨ad, cap, rfl, -, -, hr⟩ := hv
  obtain ⟨au, cu, rfl⟩ := hu.form
  have hlen := (sign_len ar hg).2
  by_cases h1 : inB sz 1 3 = true
  · by_cases h2 : tb.length = ar.length
    · have hn := Lib.hid (ne_len h2)
      have E0 : isWorld ar sz tb = okTabs ar sz tb tb.length := by unfold isWorld; rw [h1, decide_eq_true h2, Bool.true_and, Bool.true_and]
      obtain ⟨z1, z3⟩ : 1 ≤ sz ∧ sz ≤ 3 := by unfold inB at h1; simpa using h1
      obtain ⟨Z, rfl⟩ : ∃ Z : Nat, sz = (Z : Int) := ⟨sz.toNat, by omega⟩
      have HI := Lib.hid h1
      have H2 := Lib.hid h2
      rw [E0]
      have hnn := hn.out
      clear h1 h2 E0 hn
      go_enter Try.func102, Try.ntmps102
      go_wp2_with fail
      refine (l1In_qv _ _ _ _ HI.out _).mono ?_; rintro e w1 ⟨rfl, rfl⟩
      go_wp2_with fail
      obtain ⟨W, hW⟩ : ∃ W, W = (w.alloc (.cells #[.slice ad ar.length cap] 30)).alloc (.cells #[.int .i64 (Z : Int), .slice au tb.length cu] 58) := ⟨_, rfl⟩
      rw [← hW]
      have hB : Bel w W := by rw [hW]; exact Bel.alloc2 _ _ _
      have k0 : w.heap.size + 1 < W.heap.size ∧ W.cell? ⟨w.heap.size, 0, none⟩ = some (.slice ad ar.length cap) ∧ W.cell? ⟨w.heap.size + 1, 0, none⟩ = some (.int .i64 (Z : Int)) ∧ W.cell? ⟨w.heap.size + 1, 1, none⟩ = some (.slice au tb.length cu) := by rw [hW]; simp [go_sem]
      clear hW
      go_loopw [23] (fun j wr => ∃ k : Nat, k ≤ tb.length ∧ j = .int .i64 k ∧ okTabs ar Z tb k = true ∧ Bel W wr) (fun j _ => tb.length - (intOf j).toNat)
      case atStart => exact ⟨0, Nat.zero_le _, rfl, okTabs_zero _ _ _, Bel.rfl' _⟩
      case round =>
        obtain ⟨k, hk, rfl, hall, hb⟩ := hrel
        have q0 := hb.at (b := w.heap.size) (by omega) k0.2.1
        have q1 := hb.at k0.1 k0.2.2.1
        have q2 := hb.at k0.1 k0.2.2.2
        by_cases hlt : k < tb.length
        · obtain ⟨b, off, u1, rfl, hbs, c1, s1⟩ := hu.at (hB.step hb) k hlt
          obtain ⟨b2, off2, rfl, hb2l, hc2⟩ := rd hr (hB.step hb) k (by rw [← H2.out]; exact hlt)
          have h03 := ar_nonneg ar hg k
          obtain ⟨A, hA⟩ : ∃ A : Nat, ar.getD k 0 = (A : Int) := ⟨(ar.getD k 0).toNat, by omega⟩
          have hxl := hx.2 k hlt
          have zl1 : w.heap.size + 1 < wr.heap.size := Nat.lt_of_lt_of_le k0.1 hb.size
          have zl0 : w.heap.size < wr.heap.size := by omega
          have zlc : b2 < wr.heap.size := World.block_lt_of_cell? _ ⟨_, _, none⟩ hc2
          have hkl : (k : Int) < ar.length := by rw [← H2.out]; omega
          have EO : okTab Z (ar.getD k 0) (tb.getD k []) = (decide ((tb.getD k []).length = Z ^ A) && (tb.getD k []).all (fun x => inB x 0 ((Z : Int) - 1))) := by rw [hA]; rfl
          have ES := okTabs_succ ar Z tb k
          have EF := fun (h : okTab Z (ar.getD k 0) (tb.getD k []) = false) => okTabs_false (tb := tb) (n := tb.length) h hlt
          rw [EO] at ES EF
          rw [hall, Bool.true_and] at ES
          rw [hA] at hc2 h03
          have hA3 : A ≤ 3 := by omega
          obtain ⟨d1, e1, rfl⟩ := s1.form
          have HL := Lib.hid (fun (w' : World) => l5Long_c Z A w' (by omega) hA3)
          have hi1 := IntWalk.i64_in ((Z : Int) - 1) (by omega)
          clear hA EO hall h03
          generalize tb.getD k [] = x at *
          by_cases hxz : x.length = Z ^ A
          · have hne := ne_len hxz
            have HA := Lib.hid (fun (q : Bool) (w' : World) (hq : x.all (fun x => inB x 0 ((Z : Int) - 1)) = q) (hb' : Bel wr w') => l1All_v _ _ _ x 0 ((Z : Int) - 1) w' q hq hxl (s1.below hb'))
            rw [decide_eq_true hxz, Bool.true_and] at ES EF
            clear s1 hxl hxz
            generalize hyy : Z ^ A = y at *
            clear hyy
            cases hq : x.all (fun x => inB x 0 ((Z : Int) - 1)) with
            | true =>
              have HQ := Lib.hid hq
              have ES2 := Lib.hid (ES.trans hq)
              clear hq ES EF
              go_wp2_with fail
              go_region_held3 (fun w' => Bel wr w' ∧ w'.cell? ⟨w.heap.size + 1, 0, none⟩ = some (.int .i64 (Z : Int)) ∧ w'.cell? ⟨w.heap.size, 0, none⟩ = some (.slice (some ⟨b2, off2, none⟩) ar.length cap) ∧ w'.cell? ⟨b2, off2 + k, none⟩ = some (.int .i64 (A : Int)))
                (first | exact ⟨Bel.drew0 _, q1, q0, hc2⟩ | exact ⟨HB8, p1, p0, pc⟩ | exact ⟨HB8.step hb9, hb9.at pl1 p1, hb9.at pl0 p0, hb9.at plc pc⟩ | fail)
                (first | (go_at_call 56; refine (HA.out _ _ HQ.out HB8).mono ?_; rintro e w9 ⟨rfl, hb9⟩) | (go_at_call 139; refine (HL.out _).mono ?_; rintro e w8 ⟨rfl, hb8⟩; have HB8 := hb8.of_drew; have hz8 := HB8.size; have p1 := HB8.at zl1 q1; have p0 := HB8.at zl0 q0; have pc := HB8.at zlc hc2; have pl1 : w.heap.size + 1 < w8.heap.size := Nat.lt_of_lt_of_le zl1 hz8; have pl0 : w.heap.size < w8.heap.size := Nat.lt_of_lt_of_le zl0 hz8; have plc : b2 < w8.heap.size := Nat.lt_of_lt_of_le zlc hz8) | fail)
              go_wp2_with fail
              go_roundw
              case rel => exact ⟨k+1, by omega, by go_num, ES2.out, (hb.step HB8).step hb9⟩
              case measure => simp [intOf]; omega
            | false =>
              have HQ := Lib.hid hq
              have EF2 := Lib.hid (EF hq)
              clear hq ES EF
              go_wp2_with fail
              go_region_held3 (fun w' => Bel wr w' ∧ w'.cell? ⟨w.heap.size + 1, 0, none⟩ = some (.int .i64 (Z : Int)) ∧ w'.cell? ⟨w.heap.size, 0, none⟩ = some (.slice (some ⟨b2, off2, none⟩) ar.length cap) ∧ w'.cell? ⟨b2, off2 + k, none⟩ = some (.int .i64 (A : Int)))
                (first | exact ⟨Bel.drew0 _, q1, q0, hc2⟩ | exact ⟨HB8, p1, p0, pc⟩ | exact ⟨HB8.step hb9, hb9.at pl1 p1, hb9.at pl0 p0, hb9.at plc pc⟩ | fail)
                (first | (go_at_call 56; refine (HA.out _ _ HQ.out HB8).mono ?_; rintro e w9 ⟨rfl, hb9⟩) | (go_at_call 139; refine (HL.out _).mono ?_; rintro e w8 ⟨rfl, hb8⟩; have HB8 := hb8.of_drew; have hz8 := HB8.size; have p1 := HB8.at zl1 q1; have p0 := HB8.at zl0 q0; have pc := HB8.at zlc hc2; have pl1 : w.heap.size + 1 < w8.heap.size := Nat.lt_of_lt_of_le zl1 hz8; have pl0 : w.heap.size < w8.heap.size := Nat.lt_of_lt_of_le zl0 hz8; have plc : b2 < w8.heap.size := Nat.lt_of_lt_of_le zlc hz8) | fail)
              go_wp2_with fail
              go_ret
              exact ⟨by rw [EF2.out]; rfl, (hB.step hb).step (HB8.step hb9)⟩
          · have hne := ne_len' hxz
            have EF2 := Lib.hid (EF (by rw [decide_eq_false hxz]; rfl))
            clear s1 hxl EF ES
            generalize hyy : Z ^ A = y at *
            clear hyy hxz
            go_wp2_with fail
            first | (go_region_with (first | (go_at_call 139; refine (HL.out _).mono ?_; rintro e w8 ⟨rfl, hb8⟩) | fail)) | fail
            all_goals
              have HB8 := hb8.of_drew
              go_wp2_with fail
              go_ret
              exact ⟨by rw [EF2.out]; rfl, (hB.step hb).step HB8⟩
        · obtain rfl : k = tb.length := by omega
          have HALL := Lib.hid hall
          clear hall hlt
          go_wp2_with fail
          go_ret
          exact ⟨by rw [HALL.out]; rfl, hB.step hb⟩
    · have E0 : Hid (isWorld ar sz tb = false) := by show _ = _; unfold isWorld; rw [decide_eq_false h2]; simp
      have HI := Lib.hid h1
      have hnn := ne_len' h2
      clear h1 h2
      go_enter Try.func102, Try.ntmps102
      go_wp2_with fail
      refine (l1In_qv _ _ _ _ HI.out _).mono ?_; rintro e w1 ⟨rfl, rfl⟩
      go_wp2_with fail
      go_ret
      exact ⟨by rw [E0.out]; rfl, Bel.alloc2 _ _ _⟩
  · have h1' : inB sz 1 3 = false := by simpa using h1
    have E0 : Hid (isWorld ar sz tb = false) := by show _ = _; unfold isWorld; rw [h1']; rfl
    have HI := Lib.hid h1'
    clear h1 h1'
    go_enter Try.func102, Try.ntmps102
    go_wp2_with fail
    refine (l1In_qv _ _ _ _ HI.out _).mono ?_; rintro e w1 ⟨rfl, rfl⟩
    go_wp2_with fail
    go_ret
    exact ⟨by rw [E0.out]; rfl, Bel.alloc2 _ _ _⟩

theorem l5World_v (l h l' h' : Nat) (v u : Value) (ar : List Int) (sz : Int) (tb : List (List Int)) (q : Bool) (w : World) (he : isWorld ar sz tb = q) (hg : goodSign ar = true) (hx : short tb) (hv : SlI l h w v ar) (hu : SlS l' h' w u tb) :
    Calls Try.prog 102 #[.agg #[v], .agg #[.int .i64 sz, u]] w (RetV w (.bool q)) := by subst he; exact l5World_c l h l' h' v u ar sz tb w hg hx hv hu

set_option maxRecDepth 100000 in
set_option maxHeartbeats 400000 in
theorem sGoodWorld_t {l h l' h' : Nat} {v u : Value} {ar : List Int} {sz : Int} {tb : List (List Int)} {w : World} (ha : ar.length ≤ 1048576) (hv : SlI l h w v ar) (hx : short tb) (hu : SlS l' h' w u tb) :
    Calls Try.prog 52 #[.agg #[v], .agg #[.int .i64 sz, u]] w (RetV w (.bool (goodWorld ar sz tb))) := by
  unfold goodWorld
  have HB : Bel w ((w.alloc (.cells #[v] 30)).alloc (.cells #[.int .i64 sz, u] 58)) := Bel.alloc2 _ _ _
  cases hg : goodSign ar with
  | false =>
    rw [Bool.false_and]
    have HC := Lib.hid (fun (w' : World) (hb : Bel w w') => sGoodSign_v l h v ar false w' hg ha (hv.below hb)); clear hg
    go_enter Try.func52, Try.ntmps52
    go_wp2_with fail
    refine (HC.out _ HB).mono ?_; rintro e w1 ⟨rfl, hb1⟩
    go_wp2_with fail
    go_ret
    exact ⟨rfl, HB.step hb1⟩
  | true =>
    rw [Bool.true_and]
    have HC := Lib.hid (fun (w' : World) (hb : Bel w w') => sGoodSign_v l h v ar true w' hg ha (hv.below hb))
    have HD := Lib.hid (fun (w' : World) (hb : Bel w w') => l5World_c l h l' h' v u ar sz tb w' hg hx (hv.below hb) (hu.below hb)); clear hg hx
    go_enter Try.func52, Try.ntmps52
    go_wp2_with fail
    refine (HC.out _ HB).mono ?_; rintro e w1 ⟨rfl, hb1⟩
    have k0 := hb1.at (b := w.heap.size) (off := 0) (by simp; omega) (show World.cell? _ _ = some v by simp [go_sem])
    have k1 := hb1.at (b := w.heap.size + 1) (off := 0) (by simp) (show World.cell? _ _ = some (.int .i64 sz) by simp [go_sem])
    have k2 := hb1.at (b := w.heap.size + 1) (off := 1) (by simp) (show World.cell? _ _ = some u by simp [go_sem])
    go_wp2_with fail
    refine (HD.out _ (HB.step hb1)).mono ?_; rintro e w2 ⟨rfl, hb2⟩
    go_wp2_with fail
    go_ret
    exact ⟨rfl, (HB.step hb1).step hb2⟩
theorem sGoodWorld_v {l h l' h' : Nat} {v u : Value} {ar : List Int} {sz : Int} {tb : List (List Int)} {w : World} {q : Bool} (he : goodWorld ar sz tb = q) (ha : ar.length ≤ 1048576) (hv : SlI l h w v ar) (hx : short tb) (hu : SlS l' h' w u tb) :
    Calls Try.prog 52 #[.agg #[v], .agg #[.int .i64 sz, u]] w (RetV w (.bool q)) := by subst he; exact sGoodWorld_t ha hv hx hu
end Go.Proofs.Yteegjnobmbcjiaa
end
section
/- Chapter 5, the reference: the value of a term, EvalIn. -/
namespace Go.Proofs.Yteegjnobmbcjiaa
open Go.RowKit

theorem evF_eq {ar t : List Int} {sz : Int} {tb : List (List Int)} {env : List Int} (h : okTerm ar t = true) {i : Nat} (hi : i < t.length) (h0 : ¬ t.getD i 0 < 0) :
    evF ar t sz tb env (t.length - i) i = entry sz tb (t.getD i 0) ((argsOf ar t i).map fun a => evF ar t sz tb env (t.length - a) a) := by
  obtain ⟨g, hg⟩ : ∃ g, t.length - i = g + 1 := ⟨t.length - i - 1, by omega⟩
  rw [hg, evF, if_neg h0]
  congr 1
  apply List.map_congr_left
  intro a ha
  have hb := argsOf_bd ar t h i hi a ha
  exact evF_fuel h g a (by omega) hb.2
theorem noOf_take {sz : Int} (f : Nat → Int) (l : List Nat) (k : Nat) (hk : k < l.length) : noOf sz ((l.take (k+1)).map f) = noOf sz ((l.take k).map f) * sz + f (l.getD k 0) := by
  rw [List.take_succ_eq_append_getElem hk, List.map_append]
  simp only [List.map_cons, List.map_nil]
  rw [noOf_snoc]
  simp [List.getD, hk]
end Go.Proofs.Yteegjnobmbcjiaa
end
section
/- Chapter 5, the reference: the value of a term. -/
namespace Go.Proofs.Yteegjnobmbcjiaa
open Go.RowKit

theorem evA_bd {ar t : List Int} {sz : Int} {tb : List (List Int)} {env : List Int} (hg : goodSign ar = true) (hw : isWorld ar sz tb = true) (he : okEnv sz env = true) (h : okTerm ar t = true) {i : Nat} (hi : i < t.length) :
    0 ≤ evF ar t sz tb env (t.length - i) i ∧ evF ar t sz tb env (t.length - i) i ≤ sz - 1 := by
  obtain ⟨e, he', _⟩ := good_end ar t h i hi
  exact (evT_bd hg hw he (ev_at (sz := sz) (tb := tb) (env := env) h _ i e (Nat.le_refl _) hi he')).1 _ (by simp)
theorem sub_ex {a b : Nat} (h : b < a) : ∃ g, a - b = g + 1 := ⟨a - b - 1, by omega⟩
theorem sub_lt2 {L i a n : Nat} (h1 : L - i ≤ n + 1) (h2 : i < a) : L - a ≤ n := by omega
theorem noOf_le {sz : Int} (h1 : 1 ≤ sz) (h3 : sz ≤ 3) (vs : List Int) (h : ∀ v ∈ vs, 0 ≤ v ∧ v ≤ sz - 1) (hl : vs.length ≤ 3) : 0 ≤ noOf sz vs ∧ noOf sz vs ≤ 26 := by
  have := noOf_bd h1 vs h
  have h2 := longW_le h3 (show ((vs.length : Nat) : Int) ≤ 3 by omega)
  omega

set_option maxRecDepth 100000 in
set_option maxHeartbeats 2000000 in
theorem l5Eval_c (l h l' h' l2 h2 l3 h3 : Nat) (v u vt ve : Value) (ar : List Int) (sz : Int) (tb : List (List Int)) (t env : List Int) (hg : goodSign ar = true) (hw : isWorld ar sz tb = true) (he : okEnv sz env = true) (hok : okTerm ar t = true) :
    ∀ (n i : Nat) (w : World), t.length - i ≤ n → i < t.length → SlI l h w v ar → SlS l' h' w u tb → SlI l2 h2 w vt t → SlI l3 h3 w ve env →
      Calls Try.prog 97 #[.agg #[v], .agg #[.int .i64 sz, u], vt, .int .i64 i, ve] w (RetV w (.int .i64 (evF ar t sz tb env (t.length - i) i))) := by
  intro n
  induction n with
  | zero => intro i w hn hi; omega
  | succ n ih =>
    intro i w hn hi hv hu ht hve
    obtain ⟨w1, w2, w3, w4⟩ := isWorld_iff.1 hw
    obtain ⟨e1, e2⟩ := okEnv_iff.1 he
    have hs := good_sym ar t hok i hi
    have htl := ((okTerm_iff ar t).1 hok).2.1
    have ht0 := ht
    have hve0 := hve
    have IH := Lib.hid ih; clear ih
    have HB : Bel w ((w.alloc (.cells #[v] 30)).alloc (.cells #[.int .i64 sz, u] 58)) := Bel.alloc2 _ _ _
    obtain ⟨at', ct, rfl, -, -, hrt⟩ := ht
    obtain ⟨bt, offt, rfl, hbtl, hct⟩ := rd hrt (Bel.rfl' w) i hi
    by_cases hneg : t.getD i 0 < 0
    · have E : Hid (evF ar t sz tb env (t.length - i) i = env.getD (-1 - t.getD i 0).toNat 0) := by
        show _ = _
        obtain ⟨g, hg'⟩ := sub_ex hi
        rw [hg', evF, if_pos hneg]
      rw [E.out]
      obtain ⟨j, hj⟩ : ∃ j : Nat, t.getD i 0 = -1 - (j : Int) := ⟨(-1 - t.getD i 0).toNat, by omega⟩
      have hj12 : j < 12 := by unfold okSym inB at hs; simp at hs; rw [← List.getD_eq_getElem?_getD, hj] at hs; omega
      rw [hj] at hct ⊢
      rw [show (-1 - (-1 - (j : Int))).toNat = j by omega]
      obtain ⟨ae, ce, rfl, -, -, hre⟩ := hve
      obtain ⟨be, offe, rfl, hbel, hce⟩ := rd hre (Bel.rfl' w) j (by omega)
      have hct' := HB.at hbtl hct
      have hce' := HB.at hbel hce
      have hw1 := IntWalk.i64_in (-1 - (-1 - (j : Int))) (by omega)
      have hjj : -1 - (-1 - (j : Int)) = (j : Int) := by omega
      rw [hjj] at hw1
      have hjl : (j : Int) < env.length := by omega
      have hneg2 : decide ((-1 - (j : Int)) < 0) = true := by simp; omega
      generalize env.getD j 0 = val at *
      clear hrt hre hve0 ht0 IH E hneg hj
      go_enter Try.func97, Try.ntmps97
      go_wp2_with fail
      go_ret
      exact ⟨rfl, HB⟩
    · obtain ⟨m, hm⟩ : ∃ m : Nat, t.getD i 0 = (m : Int) := ⟨(t.getD i 0).toNat, by omega⟩
      have EE := evF_eq (sz := sz) (tb := tb) (env := env) hok hi hneg
      have hargs := argsOf_bd ar t hok i hi
      have hal : (argsOf ar t i).length ≤ 3 := by rw [argsOf_len]; exact arOf_le ar hg _
      have hal2 : (argsOf ar t i).length = (ar.getD m 0).toNat := by rw [argsOf_len, hm, arOf_nat]
      have hmt : m < tb.length := by rw [hm] at hs; have := okSym_lt hs; omega
      clear w3
      have HA := Lib.hid (fun (w' : World) (hb : Bel w w') => l1Args_c l h l2 h2 v _ ar t i w' hg hok hi (hv.below hb) (ht0.below hb))
      have HE := Lib.hid (fun (a : Nat) (w' : World) (ha : a ∈ argsOf ar t i) (hb : Bel w w') => IH.out a w' (sub_lt2 hn (hargs a ha).1) (hargs a ha).2 (hv.below hb) (hu.below hb) (ht0.below hb) (hve0.below hb))
      have HV := Lib.hid (fun (a : Nat) (ha : a ∈ argsOf ar t i) => evA_bd (env := env) hg hw he hok (hargs a ha).2)
      have HN : Hid (∀ k, k ≤ (argsOf ar t i).length → 0 ≤ noOf sz (((argsOf ar t i).take k).map fun a => evF ar t sz tb env (t.length - a) a) ∧ noOf sz (((argsOf ar t i).take k).map fun a => evF ar t sz tb env (t.length - a) a) ≤ 26) := fun k hk => by
        refine noOf_le w1 w2 _ (fun x hx => ?_) (by simp; omega)
        obtain ⟨a, ha, rfl⟩ := List.mem_map.1 hx
        exact HV.out a (List.mem_of_mem_take ha)
      have HT : Hid (∀ k, k < (argsOf ar t i).length → noOf sz (((argsOf ar t i).take (k+1)).map fun a => evF ar t sz tb env (t.length - a) a) = noOf sz (((argsOf ar t i).take k).map fun a => evF ar t sz tb env (t.length - a) a) * sz + evF ar t sz tb env (t.length - (argsOf ar t i).getD k 0) ((argsOf ar t i).getD k 0)) := fun k hk => noOf_take _ _ k hk
      have HTB := Lib.hid (w4 m hmt)
      have HNL : Hid (noOf sz ((argsOf ar t i).map fun a => evF ar t sz tb env (t.length - a) a) < ((tb.getD m []).length : Nat)) := by
        show _ < _
        have := noOf_bd w1 ((argsOf ar t i).map fun a => evF ar t sz tb env (t.length - a) a) (fun x hx => by obtain ⟨a, ha, rfl⟩ := List.mem_map.1 hx; exact HV.out a ha)
        rw [(w4 m hmt).1]
        rw [List.length_map, hal2] at this
        exact this.2
      rw [hm] at EE hct
      unfold entry at EE
      simp only [Int.toNat_natCast] at EE
      have HEE := Lib.hid EE
      rw [EE]
      clear EE hs hneg hm hrt hal2
      generalize hFF : (fun a => evF ar t sz tb env (t.length - a) a) = F at *
      have HE2 : Hid (∀ (a : Nat) (w' : World), a ∈ argsOf ar t i → Bel w w' → Calls Try.prog 97 #[.agg #[v], .agg #[.int .i64 sz, u], .slice (some ⟨bt, offt, none⟩) t.length ct, .int .i64 a, ve] w' (RetV w' (.int .i64 (F a)))) := fun a w' ha hb => by have := HE.out a w' ha hb; rw [← hFF]; exact this
      have HV2 : Hid (∀ a, a ∈ argsOf ar t i → 0 ≤ F a ∧ F a ≤ sz - 1) := fun a ha => by have := HV.out a ha; rw [← hFF]; exact this
      have HT2 : Hid (∀ k, k < (argsOf ar t i).length → noOf sz (((argsOf ar t i).take (k+1)).map F) = noOf sz (((argsOf ar t i).take k).map F) * sz + F ((argsOf ar t i).getD k 0)) := fun k hk => by have := HT.out k hk; rw [this, ← hFF]
      clear HE HV HT HEE hFF
      obtain ⟨au, cu, rfl⟩ := hu.form
      go_enter Try.func97, Try.ntmps97
      have hct' := HB.at hbtl hct
      go_wp2_with fail
      refine (HA.out _ HB).mono ?_; rintro e W ⟨ad, q, c, rfl, ho, hb1⟩
      have HW := HB.step hb1
      have zW : w.heap.size + 1 < W.heap.size := by have := hb1.size; simp at this; omega
      have k0 := hb1.at (b := w.heap.size) (off := 0) (by simp; omega) (show World.cell? _ _ = some v by simp [go_sem])
      have k1 := hb1.at (b := w.heap.size + 1) (off := 0) (by simp) (show World.cell? _ _ = some (.int .i64 sz) by simp [go_sem])
      have k2 := hb1.at (b := w.heap.size + 1) (off := 1) (by simp) (show World.cell? _ _ = some (.slice au tb.length cu) by simp [go_sem])
      obtain ⟨ad', cap', e, -, -, hr⟩ := ho.1
      simp only [Value.slice.injEq] at e
      obtain ⟨rfl, rfl, rfl⟩ := e
      rw [natsI_len] at hr ⊢
      generalize argsOf ar t i = args at *
      clear HA hb1 ho
      go_wp2_with fail
      go_loopw [11, 32] (fun no j wr => ∃ k : Nat, k ≤ args.length ∧ j = .int .i64 k ∧ no = .int .i64 (noOf sz ((args.take k).map F)) ∧ Bel W wr) (fun _ j _ => args.length - (intOf j).toNat)
      case atStart => exact ⟨0, Nat.zero_le _, rfl, rfl, Bel.rfl' _⟩
      case round =>
        obtain ⟨k, hk, rfl, rfl, hbw⟩ := hrel
        have q0 := hbw.at (by omega) k0
        have q1 := hbw.at zW k1
        have q2 := hbw.at zW k2
        have hn0 := HN.out k hk
        have hbt2 : bt < wr.heap.size := Nat.lt_of_lt_of_le hbtl (HW.step hbw).size
        have zr1 : w.heap.size + 1 < wr.heap.size := Nat.lt_of_lt_of_le zW hbw.size
        have zr0 : w.heap.size < wr.heap.size := by omega
        by_cases hlt : k < args.length
        · obtain ⟨b, off, e2, -, -, hc⟩ := hr (by omega)
          subst e2
          have hcell := (hbw.cell (p := ⟨b, off + k, none⟩) (World.block_lt_of_cell? W ⟨b, off + k, none⟩ (hc k hlt))).trans (hc k hlt)
          rw [natsI_get _ _ hlt] at hcell
          have hmem : args.getD k 0 ∈ args := by simp [List.getD, hlt]
          have hva := HV2.out _ hmem
          have HS := Lib.hid (HT2.out k hlt)
          have HC := Lib.hid (fun (w' : World) (hb : Bel w w') => HE2.out _ w' hmem hb)
          have hmul : noOf sz ((args.take k).map F) * sz ≤ noOf sz ((args.take k).map F) * 3 := Int.mul_le_mul_of_nonneg_left w2 hn0.1
          have hmul0 := Int.mul_nonneg hn0.1 (show 0 ≤ sz by omega)
          clear hr hc hmem HE2 HV2 HT2 HN
          generalize noOf sz ((args.take k).map F) = no at *
          generalize args.getD k 0 = a at *
          generalize F a = fa at *
          have i1 := IntWalk.i64_in (no * sz) (by omega)
          have i2 := IntWalk.i64_in (no * sz + fa) (by omega)
          clear hmul hmul0
          go_wp2_with fail
          go_region_held3 (fun w' => Bel wr w' ∧ w'.cell? ⟨w.heap.size + 1, 0, none⟩ = some (.int .i64 sz) ∧ w'.cell? ⟨w.heap.size + 1, 1, none⟩ = some (.slice au tb.length cu) ∧ w'.cell? ⟨w.heap.size, 0, none⟩ = some v)
            (first | exact ⟨Bel.drew0 _, q1, q2, q0⟩ | exact ⟨HB8, HB8.at zr1 q1, HB8.at zr1 q2, HB8.at zr0 q0⟩ | fail)
            (first | (go_at_call 97; refine (HC.out _ ((HW.step hbw).step (Bel.drew0 _))).mono ?_; rintro e w8 ⟨rfl, hb8⟩; have HB8 := hb8.of_drew) | fail)
          go_wp2_with fail
          go_roundw
          case rel => exact ⟨k+1, by omega, by go_num, by rw [HS.out], hbw.step HB8⟩
          case measure => simp [intOf]; omega
        · obtain rfl : k = args.length := by omega
          rw [List.take_length] at hn0 ⊢
          obtain ⟨bb, off, u1, rfl, hbs, c1, s1⟩ := hu.at (HW.step hbw) m hmt
          obtain ⟨x1, x2, rfl, -, -, hrx⟩ := s1
          obtain ⟨N, hN⟩ : ∃ N : Nat, noOf sz (args.map F) = (N : Int) := ⟨(noOf sz (args.map F)).toNat, by omega⟩
          have HVAL : Hid ((tb.getD m []).getD (noOf sz (args.map F)).toNat 0 = (tb.getD m []).getD N 0) := by show _ = _; rw [hN, Int.toNat_natCast]
          have hnl := HNL.out
          rw [hN] at hnl hn0 ⊢
          rw [Int.toNat_natCast]
          have hNL : N < (tb.getD m []).length := by omega
          obtain ⟨bx, ofy, rfl, hyl, hcy⟩ := rd hrx (Bel.rfl' _) N hNL
          have hct2 := (HW.step hbw).at hbtl hct
          clear hr hrx HE2 HV2 HT2 HN HNL HTB
          generalize (tb.getD m []).getD N 0 = val at *
          generalize (tb.getD m []).length = xl at *
          have hil : (i : Int) < t.length := by omega
          have hml : (m : Int) < tb.length := by omega
          go_wp2_with fail
          go_region_held3 (fun w' => Bel wr w' ∧ w'.cell? ⟨w.heap.size + 1, 1, none⟩ = some (.slice (some ⟨bb, off, none⟩) tb.length cu) ∧ w'.cell? ⟨bt, offt + i, none⟩ = some (.int .i64 m) ∧ w'.cell? ⟨bb, off + m, none⟩ = some (.slice (some ⟨bx, ofy, none⟩) xl x2) ∧ w'.cell? ⟨bx, ofy + N, none⟩ = some (.int .i64 val))
            (first | exact ⟨Bel.drew0 _, q2, hct2, c1, hcy⟩ | fail)
            (first | fail)
          go_wp2_with fail
          go_ret
          exact ⟨by rw [HVAL.out]; rfl, (HW.step hbw).step (Bel.drew0 _)⟩
end Go.Proofs.Yteegjnobmbcjiaa
end
section
/- Chapter 5, the reference: EvalIn, HoldsAt. -/
namespace Go.Proofs.Yteegjnobmbcjiaa
open Go.RowKit

def evalOk (ar : List Int) (sz : Int) (tb : List (List Int)) (t env : List Int) : Bool := goodWorld ar sz tb && (okTerm ar t && okEnv sz env)
def evalAns (ar : List Int) (sz : Int) (tb : List (List Int)) (t env : List Int) : Int := if evalOk ar sz tb t env then evT ar sz tb env t else 0

set_option maxRecDepth 100000 in
set_option maxHeartbeats 400000 in
theorem l5Env_c (l h : Nat) (u v : Value) (sz : Int) (env : List Int) (w : World) (h1 : 1 ≤ sz) (h3 : sz ≤ 3) (hx : env.length ≤ 1048576) (hv : SlI l h w v env) :
    Calls Try.prog 96 #[.agg #[.int .i64 sz, u], v] w (RetV w (.bool (okEnv sz env))) := by
  unfold okEnv
  have hv0 := hv
  obtain ⟨ad, cap, rfl⟩ := hv.form
  by_cases h12 : env.length = 12
  · rw [decide_eq_true h12, Bool.true_and]
    have he : ((env.length : Int) == 12) = true := by rw [h12]; rfl
    have hw1 := IntWalk.i64_in (sz - 1) (by omega)
    cases hq : env.all (fun x => inB x 0 (sz - 1)) with
    | false =>
      have HA := Lib.hid (fun (w' : World) (hb : Bel w w') => l1All_v _ _ _ env 0 (sz - 1) w' false hq hx (hv0.below hb))
      clear hq hv hv0 h12
      go_enter Try.func96, Try.ntmps96
      go_wp2_with fail
      refine (HA.out _ (Bel.alloc0 _ _)).mono ?_; rintro e w1 ⟨rfl, hb1⟩
      go_wp2_with fail
      go_ret
      exact ⟨rfl, hb1.of_alloc⟩
    | true =>
      have HA := Lib.hid (fun (w' : World) (hb : Bel w w') => l1All_v _ _ _ env 0 (sz - 1) w' true hq hx (hv0.below hb))
      clear hq hv hv0 h12
      go_enter Try.func96, Try.ntmps96
      go_wp2_with fail
      refine (HA.out _ (Bel.alloc0 _ _)).mono ?_; rintro e w1 ⟨rfl, hb1⟩
      go_wp2_with fail
      go_ret
      exact ⟨rfl, hb1.of_alloc⟩
  · rw [decide_eq_false h12, Bool.false_and]
    have he : ((env.length : Int) == 12) = false := beq_eq_false_iff_ne.2 (by omega)
    clear h12
    go_enter Try.func96, Try.ntmps96
    go_wp2_with fail
    go_ret
    exact ⟨rfl, Bel.alloc0 _ _⟩
theorem l5Env_v (l h : Nat) (u v : Value) (sz : Int) (env : List Int) (q : Bool) (w : World) (he : okEnv sz env = q) (h1 : 1 ≤ sz) (h3 : sz ≤ 3) (hx : env.length ≤ 1048576) (hv : SlI l h w v env) :
    Calls Try.prog 96 #[.agg #[.int .i64 sz, u], v] w (RetV w (.bool q)) := by subst he; exact l5Env_c l h u v sz env w h1 h3 hx hv

set_option maxRecDepth 100000 in
set_option maxHeartbeats 1000000 in
theorem sEvalIn_t {l h l' h' l2 h2 l3 h3 : Nat} {v u vt ve : Value} {ar : List Int} {sz : Int} {tb : List (List Int)} {t env : List Int} {w : World} (ha : ar.length ≤ 1048576) (hv : SlI l h w v ar) (hx : short tb) (hu : SlS l' h' w u tb) (htl : t.length ≤ 1048576) (ht : SlI l2 h2 w vt t) (hel : env.length ≤ 1048576) (he : SlI l3 h3 w ve env) :
    Calls Try.prog 48 #[.agg #[v], .agg #[.int .i64 sz, u], vt, ve] w (RetV w (.tuple #[.int .i64 (evalAns ar sz tb t env), .bool (evalOk ar sz tb t env)])) := by
  unfold evalAns evalOk
  have HB : Bel w ((w.alloc (.cells #[v] 30)).alloc (.cells #[.int .i64 sz, u] 58)) := Bel.alloc2 _ _ _
  have HK : Hid (∀ w', Bel ((w.alloc (.cells #[v] 30)).alloc (.cells #[.int .i64 sz, u] 58)) w' → w'.cell? ⟨w.heap.size, 0, none⟩ = some v ∧ w'.cell? ⟨w.heap.size + 1, 0, none⟩ = some (.int .i64 sz) ∧ w'.cell? ⟨w.heap.size + 1, 1, none⟩ = some u) := fun w' hb =>
    ⟨hb.at (by simp; omega) (by simp [go_sem]), hb.at (by simp) (by simp [go_sem]), hb.at (by simp) (by simp [go_sem])⟩
  cases hg : goodWorld ar sz tb with
  | false =>
    rw [Bool.false_and, if_neg (by simp)]
    have HC := Lib.hid (fun (w' : World) (hb : Bel w w') => sGoodWorld_v hg ha (hv.below hb) hx (hu.below hb)); clear hg
    go_enter Try.func48, Try.ntmps48
    go_wp2_with fail
    refine (HC.out _ HB).mono ?_; rintro e w1 ⟨rfl, hb1⟩
    go_wp2_with fail
    go_ret2
    exact ⟨rfl, HB.step hb1⟩
  | true =>
    rw [Bool.true_and]
    obtain ⟨hgs, hiw⟩ := goodWorld_iff.1 hg
    obtain ⟨z1, z3, _, _⟩ := isWorld_iff.1 hiw
    have HC := Lib.hid (fun (w' : World) (hb : Bel w w') => sGoodWorld_v hg ha (hv.below hb) hx (hu.below hb)); clear hg
    cases hq : okTerm ar t with
    | false =>
      rw [Bool.false_and, if_neg (by simp)]
      have HT := Lib.hid (fun (w' : World) (hb : Bel w w') => l1Term_v l h l2 h2 v vt ar t false w' hq hgs htl (hv.below hb) (ht.below hb)); clear hq
      go_enter Try.func48, Try.ntmps48
      go_wp2_with fail
      refine (HC.out _ HB).mono ?_; rintro e w1 ⟨rfl, hb1⟩
      obtain ⟨x0, x1, x2⟩ := HK.out _ hb1
      go_wp2_with fail
      refine (HT.out _ (HB.step hb1)).mono ?_; rintro e w2 ⟨rfl, hb2⟩
      go_wp2_with fail
      go_ret2
      exact ⟨rfl, (HB.step hb1).step hb2⟩
    | true =>
      rw [Bool.true_and]
      have HT := Lib.hid (fun (w' : World) (hb : Bel w w') => l1Term_v l h l2 h2 v vt ar t true w' hq hgs htl (hv.below hb) (ht.below hb))
      cases hp : okEnv sz env with
      | false =>
        rw [if_neg (by simp)]
        have HE := Lib.hid (fun (w' : World) (hb : Bel w w') => l5Env_v l3 h3 u ve sz env false w' hp z1 z3 hel (he.below hb))
        clear hq hp
        go_enter Try.func48, Try.ntmps48
        go_wp2_with fail
        refine (HC.out _ HB).mono ?_; rintro e w1 ⟨rfl, hb1⟩
        obtain ⟨x0, x1, x2⟩ := HK.out _ hb1
        go_wp2_with fail
        refine (HT.out _ (HB.step hb1)).mono ?_; rintro e w2 ⟨rfl, hb2⟩
        obtain ⟨y0, y1, y2⟩ := HK.out _ (hb1.step hb2)
        go_wp2_with fail
        refine (HE.out _ ((HB.step hb1).step hb2)).mono ?_; rintro e w3 ⟨rfl, hb3⟩
        go_wp2_with fail
        go_ret2
        exact ⟨rfl, ((HB.step hb1).step hb2).step hb3⟩
      | true =>
        rw [if_pos rfl]
        have HE := Lib.hid (fun (w' : World) (hb : Bel w w') => l5Env_v l3 h3 u ve sz env true w' hp z1 z3 hel (he.below hb))
        have HV := Lib.hid (fun (w' : World) (hb : Bel w w') => l5Eval_c l h l' h' l2 h2 l3 h3 v u vt ve ar sz tb t env hgs hiw hp hq t.length 0 w' (by omega) (((okTerm_iff ar t).1 hq).1) (hv.below hb) (hu.below hb) (ht.below hb) (he.below hb))
        have HV : Hid (∀ (w' : World), Bel w w' → Calls Try.prog 97 #[.agg #[v], .agg #[.int .i64 sz, u], vt, .int .i64 0, ve] w' (RetV w' (.int .i64 (evT ar sz tb env t)))) := HV
        clear hq hp
        generalize evT ar sz tb env t = val at *
        go_enter Try.func48, Try.ntmps48
        go_wp2_with fail
        refine (HC.out _ HB).mono ?_; rintro e w1 ⟨rfl, hb1⟩
        obtain ⟨x0, x1, x2⟩ := HK.out _ hb1
        go_wp2_with fail
        refine (HT.out _ (HB.step hb1)).mono ?_; rintro e w2 ⟨rfl, hb2⟩
        obtain ⟨y0, y1, y2⟩ := HK.out _ (hb1.step hb2)
        go_wp2_with fail
        refine (HE.out _ ((HB.step hb1).step hb2)).mono ?_; rintro e w3 ⟨rfl, hb3⟩
        obtain ⟨v0, v1, v2⟩ := HK.out _ ((hb1.step hb2).step hb3)
        go_wp2_with fail
        refine (HV.out _ (((HB.step hb1).step hb2).step hb3)).mono ?_; rintro e w4 ⟨rfl, hb4⟩
        go_wp2_with fail
        go_ret2
        exact ⟨rfl, (((HB.step hb1).step hb2).step hb3).step hb4⟩
end Go.Proofs.Yteegjnobmbcjiaa
end
section
/- Chapter 5, the reference: HoldsAt. -/
namespace Go.Proofs.Yteegjnobmbcjiaa
open Go.RowKit

/-- A literal, a clause holds at an assignment. -/
def litH (ar : List Int) (sz : Int) (tb : List (List Int)) (env : List Int) (x : Lt) : Bool := (evT ar sz tb env x.2.1 == evT ar sz tb env x.2.2) == x.1
def clH (ar : List Int) (sz : Int) (tb : List (List Int)) (env : List Int) (c : List Lt) : Bool := c.any (litH ar sz tb env)
theorem any_split (c : List Lt) (p : Lt → Bool) (k : Nat) (hk : k < c.length) (h : (c.take k).any p = false) : (c.take (k+1)).any p = p (c.getD k lt0) := by
  rw [List.take_succ_eq_append_getElem hk, List.any_append, h]
  simp [List.getD, hk]
theorem any_true (c : List Lt) (p : Lt → Bool) (k : Nat) (hk : k < c.length) (h : p (c.getD k lt0) = true) : c.any p = true := by
  rw [List.any_eq_true]
  exact ⟨c[k], List.getElem_mem hk, by simpa [List.getD, hk] using h⟩
theorem beq_eval (a b : Int) : ((a : Int) == b) = decide (a = b) := by
  rw [Bool.eq_iff_iff]; simp

set_option maxRecDepth 100000 in
set_option maxHeartbeats 2000000 in
theorem l5At_c (l h l' h' l2 h2 l3 h3 : Nat) (v u vc ve : Value) (ar : List Int) (sz : Int) (tb : List (List Int)) (c : List Lt) (env : List Int) (w : World) (hg : goodSign ar = true) (hw : isWorld ar sz tb = true) (he : okEnv sz env = true) (hok : okLits ar c = true)
    (hv : SlI l h w v ar) (hu : SlS l' h' w u tb) (hc : SlC l2 h2 w vc c) (hve : SlI l3 h3 w ve env) :
    Calls Try.prog 99 #[.agg #[v], .agg #[.int .i64 sz, u], vc, ve] w (RetV w (.bool (clH ar sz tb env c))) := by
  obtain ⟨ac, kc, rfl⟩ := hc.form
  have h8 := (okLits_iff.1 hok).1
  have HE := Lib.hid (fun (t : List Int) (vt : Value) (a b : Nat) (w' : World) (hq : okTerm ar t = true) (hb : Bel w w') (ht : SlI a b w' vt t) => l5Eval_c l h l' h' a b l3 h3 v u vt ve ar sz tb t env hg hw he hq t.length 0 w' (by omega) (((okTerm_iff ar t).1 hq).1) (hv.below hb) (hu.below hb) ht (hve.below hb))
  have HE : Hid (∀ (t : List Int) (vt : Value) (a b : Nat) (w' : World), okTerm ar t = true → Bel w w' → SlI a b w' vt t → Calls Try.prog 97 #[.agg #[v], .agg #[.int .i64 sz, u], vt, .int .i64 0, ve] w' (RetV w' (.int .i64 (evT ar sz tb env t)))) := HE
  have HOK := Lib.hid (fun k hk => okLits_get (okLits_iff.1 hok).2 k hk)
  clear hv hu hve hg hw he hok
  have HS1 := Lib.hid (fun k hk h => any_split c (litH ar sz tb env) k hk h)
  have HS2 := Lib.hid (fun k hk h => any_true c (litH ar sz tb env) k hk h)
  unfold clH
  have HL : Hid (∀ x : Lt, litH ar sz tb env x = ((evT ar sz tb env x.2.1 == evT ar sz tb env x.2.2) == x.1)) := fun _ => rfl
  generalize litH ar sz tb env = LH at *
  generalize evT ar sz tb env = EV at *
  go_enter Try.func99, Try.ntmps99
  go_wp2_with fail
  obtain ⟨W, hW⟩ : ∃ W, W = (w.alloc (.cells #[v] 30)).alloc (.cells #[.int .i64 sz, u] 58) := ⟨_, rfl⟩
  have hB : Bel w W := by rw [hW]; exact Bel.alloc2 _ _ _
  have zW : w.heap.size + 1 < W.heap.size := by rw [hW]; simp
  have k0 : W.cell? ⟨w.heap.size, 0, none⟩ = some v := by rw [hW]; simp [go_sem]
  have k1 : W.cell? ⟨w.heap.size + 1, 0, none⟩ = some (.int .i64 sz) := by rw [hW]; simp [go_sem]
  have k2 : W.cell? ⟨w.heap.size + 1, 1, none⟩ = some u := by rw [hW]; simp [go_sem]
  rw [← hW]
  clear hW
  go_loopw [13] (fun i wr => ∃ k : Nat, k ≤ c.length ∧ i = .int .i64 k ∧ (c.take k).any LH = false ∧ Bel W wr) (fun i _ => c.length - (intOf i).toNat)
  case atStart => exact ⟨0, Nat.zero_le _, rfl, by simp, Bel.rfl' _⟩
  case round =>
    obtain ⟨k, hk, rfl, hany, hb⟩ := hrel
    by_cases hlt : k < c.length
    · obtain ⟨b, off, u1, u2, rfl, hbs, c1, c2, c3, s1, s2⟩ := hc.at (hB.step hb) k hlt
      obtain ⟨o1, o2⟩ := HOK.out k hlt
      have hin1 : (k : Int) < c.length := by omega
      have HS := HS1.out k hlt hany
      have HT := HS2.out k hlt
      rw [HL.out] at HS HT
      clear HS1 HS2 HOK hany hc
      generalize c.getD k lt0 = x at *
      obtain ⟨p, xl, xr⟩ := x
      simp only at *
      obtain ⟨a1, d1, rfl⟩ := s1.form
      obtain ⟨a2, d2, rfl⟩ := s2.form
      have hBx := hb.alloc (.cells #[.bool p, .slice a1 xl.length d1, .slice a2 xr.length d2] 91)
      have zl1 : w.heap.size + 1 < wr.heap.size := Nat.lt_of_lt_of_le zW hb.size
      have KX : Hid (∀ w', Bel (wr.alloc (.cells #[.bool p, .slice a1 xl.length d1, .slice a2 xr.length d2] 91)) w' → w'.cell? ⟨w.heap.size, 0, none⟩ = some v ∧ w'.cell? ⟨w.heap.size + 1, 0, none⟩ = some (.int .i64 sz) ∧ w'.cell? ⟨w.heap.size + 1, 1, none⟩ = some u ∧ w'.cell? ⟨wr.heap.size, 0, none⟩ = some (.bool p) ∧ w'.cell? ⟨wr.heap.size, 1, none⟩ = some (.slice a1 xl.length d1) ∧ w'.cell? ⟨wr.heap.size, 2, none⟩ = some (.slice a2 xr.length d2)) := fun w' hq =>
        ⟨(hBx.step hq).at (by omega) k0, (hBx.step hq).at zW k1, (hBx.step hq).at zW k2, boxc hq 0 _ rfl, boxc hq 1 _ rfl, boxc hq 2 _ rfl⟩
      have HC1 := Lib.hid (fun (w' : World) (hq : Bel (wr.alloc (.cells #[.bool p, .slice a1 xl.length d1, .slice a2 xr.length d2] 91)) w') => HE.out xl _ _ _ w' o1 ((hB.step hBx).step hq) ((s1.alloc _).below hq))
      have HC2 := Lib.hid (fun (w' : World) (hq : Bel (wr.alloc (.cells #[.bool p, .slice a1 xl.length d1, .slice a2 xr.length d2] 91)) w') => HE.out xr _ _ _ w' o2 ((hB.step hBx).step hq) ((s2.alloc _).below hq))
      clear s1 s2 o1 o2 HE HL
      generalize EV xl = e1 at *
      generalize EV xr = e2 at *
      have KR := KX.out _ (Bel.drew0 _)
      cases hq : ((e1 : Int) == e2) with
      | false =>
        rw [hq] at HS HT
        cases p with
        | false =>
          go_wp2_with fail
          go_region_held3 (fun w' => Bel (wr.alloc (.cells #[.bool false, .slice a1 xl.length d1, .slice a2 xr.length d2] 91)) w' ∧ w'.cell? ⟨w.heap.size, 0, none⟩ = some v ∧ w'.cell? ⟨w.heap.size + 1, 0, none⟩ = some (.int .i64 sz) ∧ w'.cell? ⟨w.heap.size + 1, 1, none⟩ = some u ∧ w'.cell? ⟨wr.heap.size, 0, none⟩ = some (.bool false) ∧ w'.cell? ⟨wr.heap.size, 1, none⟩ = some (.slice a1 xl.length d1) ∧ w'.cell? ⟨wr.heap.size, 2, none⟩ = some (.slice a2 xr.length d2))
            (first | exact ⟨Bel.drew0 _, KX.out _ (Bel.drew0 _)⟩ | exact ⟨B8, KX.out _ B8⟩ | exact ⟨B8.step hb9, KX.out _ (B8.step hb9)⟩ | fail)
            (first | (go_at_call 97; refine (HC2.out _ B8).mono ?_; rintro e w9 ⟨rfl, hb9⟩) | (go_at_call 97; refine (HC1.out _ (Bel.drew0 _)).mono ?_; rintro e w8 ⟨rfl, hb8⟩; have B8 := (Bel.drew0 _).step hb8) | fail)
          go_wp2_with fail
          go_ret
          exact ⟨by rw [HT rfl]; rfl, (hB.step hBx).step (B8.step hb9)⟩
        | true =>
          go_wp2_with fail
          go_region_held3 (fun w' => Bel (wr.alloc (.cells #[.bool true, .slice a1 xl.length d1, .slice a2 xr.length d2] 91)) w' ∧ w'.cell? ⟨w.heap.size, 0, none⟩ = some v ∧ w'.cell? ⟨w.heap.size + 1, 0, none⟩ = some (.int .i64 sz) ∧ w'.cell? ⟨w.heap.size + 1, 1, none⟩ = some u ∧ w'.cell? ⟨wr.heap.size, 0, none⟩ = some (.bool true) ∧ w'.cell? ⟨wr.heap.size, 1, none⟩ = some (.slice a1 xl.length d1) ∧ w'.cell? ⟨wr.heap.size, 2, none⟩ = some (.slice a2 xr.length d2))
            (first | exact ⟨Bel.drew0 _, KX.out _ (Bel.drew0 _)⟩ | exact ⟨B8, KX.out _ B8⟩ | exact ⟨B8.step hb9, KX.out _ (B8.step hb9)⟩ | fail)
            (first | (go_at_call 97; refine (HC2.out _ B8).mono ?_; rintro e w9 ⟨rfl, hb9⟩) | (go_at_call 97; refine (HC1.out _ (Bel.drew0 _)).mono ?_; rintro e w8 ⟨rfl, hb8⟩; have B8 := (Bel.drew0 _).step hb8) | fail)
          go_wp2_with fail
          go_roundw
          case rel => exact ⟨k+1, by omega, by go_num, HS, hBx.step (B8.step hb9)⟩
          case measure => simp [intOf]; omega
      | true =>
        rw [hq] at HS HT
        cases p with
        | false =>
          go_wp2_with fail
          go_region_held3 (fun w' => Bel (wr.alloc (.cells #[.bool false, .slice a1 xl.length d1, .slice a2 xr.length d2] 91)) w' ∧ w'.cell? ⟨w.heap.size, 0, none⟩ = some v ∧ w'.cell? ⟨w.heap.size + 1, 0, none⟩ = some (.int .i64 sz) ∧ w'.cell? ⟨w.heap.size + 1, 1, none⟩ = some u ∧ w'.cell? ⟨wr.heap.size, 0, none⟩ = some (.bool false) ∧ w'.cell? ⟨wr.heap.size, 1, none⟩ = some (.slice a1 xl.length d1) ∧ w'.cell? ⟨wr.heap.size, 2, none⟩ = some (.slice a2 xr.length d2))
            (first | exact ⟨Bel.drew0 _, KX.out _ (Bel.drew0 _)⟩ | exact ⟨B8, KX.out _ B8⟩ | exact ⟨B8.step hb9, KX.out _ (B8.step hb9)⟩ | fail)
            (first | (go_at_call 97; refine (HC2.out _ B8).mono ?_; rintro e w9 ⟨rfl, hb9⟩) | (go_at_call 97; refine (HC1.out _ (Bel.drew0 _)).mono ?_; rintro e w8 ⟨rfl, hb8⟩; have B8 := (Bel.drew0 _).step hb8) | fail)
          go_wp2_with fail
          go_roundw
          case rel => exact ⟨k+1, by omega, by go_num, HS, hBx.step (B8.step hb9)⟩
          case measure => simp [intOf]; omega
        | true =>
          go_wp2_with fail
          go_region_held3 (fun w' => Bel (wr.alloc (.cells #[.bool true, .slice a1 xl.length d1, .slice a2 xr.length d2] 91)) w' ∧ w'.cell? ⟨w.heap.size, 0, none⟩ = some v ∧ w'.cell? ⟨w.heap.size + 1, 0, none⟩ = some (.int .i64 sz) ∧ w'.cell? ⟨w.heap.size + 1, 1, none⟩ = some u ∧ w'.cell? ⟨wr.heap.size, 0, none⟩ = some (.bool true) ∧ w'.cell? ⟨wr.heap.size, 1, none⟩ = some (.slice a1 xl.length d1) ∧ w'.cell? ⟨wr.heap.size, 2, none⟩ = some (.slice a2 xr.length d2))
            (first | exact ⟨Bel.drew0 _, KX.out _ (Bel.drew0 _)⟩ | exact ⟨B8, KX.out _ B8⟩ | exact ⟨B8.step hb9, KX.out _ (B8.step hb9)⟩ | fail)
            (first | (go_at_call 97; refine (HC2.out _ B8).mono ?_; rintro e w9 ⟨rfl, hb9⟩) | (go_at_call 97; refine (HC1.out _ (Bel.drew0 _)).mono ?_; rintro e w8 ⟨rfl, hb8⟩; have B8 := (Bel.drew0 _).step hb8) | fail)
          go_wp2_with fail
          go_ret
          exact ⟨by rw [HT rfl]; rfl, (hB.step hBx).step (B8.step hb9)⟩
    · obtain rfl : k = c.length := by omega
      rw [List.take_length] at hany
      have HY := Lib.hid hany
      clear hany
      go_wp2_with fail
      go_ret
      exact ⟨by rw [HY.out]; rfl, hB.step hb⟩
end Go.Proofs.Yteegjnobmbcjiaa
end
section
/- Chapter 5, the reference: HoldsAt. -/
namespace Go.Proofs.Yteegjnobmbcjiaa
open Go.RowKit

theorem l4Clause_w (l h l' h' : Nat) (v u : Value) (ar : List Int) (c : List Lt) (q : Bool) (w : World) (he : okLits ar c = q) (hg : goodSign ar = true) (hx : shortC c) (hv : SlI l h w v ar) (hu : SlC l' h' w u c) :
    Calls Try.prog 77 #[.agg #[v], u] w (RetV w (.bool q)) := by subst he; exact l4Clause_c l h l' h' v u ar c w hg hx hv hu
def holdsOk (ar : List Int) (sz : Int) (tb : List (List Int)) (c : List Lt) (env : List Int) : Bool := goodWorld ar sz tb && (okLits ar c && okEnv sz env)
def holdsAns (ar : List Int) (sz : Int) (tb : List (List Int)) (c : List Lt) (env : List Int) : Bool := if holdsOk ar sz tb c env then clH ar sz tb env c else false

set_option maxRecDepth 100000 in
set_option maxHeartbeats 1000000 in
theorem sHoldsAt_t {l h l' h' l2 h2 l3 h3 : Nat} {v u vc ve : Value} {ar : List Int} {sz : Int} {tb : List (List Int)} {c : List Lt} {env : List Int} {w : World} (ha : ar.length ≤ 1048576) (hv : SlI l h w v ar) (hx : short tb) (hu : SlS l' h' w u tb) (hcs : sumC c ≤ 1048576) (hc : SlC l2 h2 w vc c) (hel : env.length ≤ 1048576) (he : SlI l3 h3 w ve env) :
    Calls Try.prog 50 #[.agg #[v], .agg #[.int .i64 sz, u], vc, ve] w (RetV w (.tuple #[.bool (holdsAns ar sz tb c env), .bool (holdsOk ar sz tb c env)])) := by
  unfold holdsAns holdsOk
  have HB : Bel w ((w.alloc (.cells #[v] 30)).alloc (.cells #[.int .i64 sz, u] 58)) := Bel.alloc2 _ _ _
  have HK : Hid (∀ w', Bel ((w.alloc (.cells #[v] 30)).alloc (.cells #[.int .i64 sz, u] 58)) w' → w'.cell? ⟨w.heap.size, 0, none⟩ = some v ∧ w'.cell? ⟨w.heap.size + 1, 0, none⟩ = some (.int .i64 sz) ∧ w'.cell? ⟨w.heap.size + 1, 1, none⟩ = some u) := fun w' hb =>
    ⟨hb.at (by simp; omega) (by simp [go_sem]), hb.at (by simp) (by simp [go_sem]), hb.at (by simp) (by simp [go_sem])⟩
  cases hg : goodWorld ar sz tb with
  | false =>
    rw [Bool.false_and, if_neg (by simp)]
    have HC := Lib.hid (fun (w' : World) (hb : Bel w w') => sGoodWorld_v hg ha (hv.below hb) hx (hu.below hb)); clear hg
    go_enter Try.func50, Try.ntmps50
    go_wp2_with fail
    refine (HC.out _ HB).mono ?_; rintro e w1 ⟨rfl, hb1⟩
    go_wp2_with fail
    go_ret2
    exact ⟨rfl, HB.step hb1⟩
  | true =>
    rw [Bool.true_and]
    obtain ⟨hgs, hiw⟩ := goodWorld_iff.1 hg
    obtain ⟨z1, z3, _, _⟩ := isWorld_iff.1 hiw
    have HC := Lib.hid (fun (w' : World) (hb : Bel w w') => sGoodWorld_v hg ha (hv.below hb) hx (hu.below hb)); clear hg
    cases hq : okLits ar c with
    | false =>
      rw [Bool.false_and, if_neg (by simp)]
      have HT := Lib.hid (fun (w' : World) (hb : Bel w w') => l4Clause_w l h l2 h2 v vc ar c false w' hq hgs (shortC_of_sum hcs) (hv.below hb) (hc.below hb)); clear hq
      go_enter Try.func50, Try.ntmps50
      go_wp2_with fail
      refine (HC.out _ HB).mono ?_; rintro e w1 ⟨rfl, hb1⟩
      obtain ⟨x0, x1, x2⟩ := HK.out _ hb1
      go_wp2_with fail
      refine (HT.out _ (HB.step hb1)).mono ?_; rintro e w2 ⟨rfl, hb2⟩
      go_wp2_with fail
      go_ret2
      exact ⟨rfl, (HB.step hb1).step hb2⟩
    | true =>
      rw [Bool.true_and]
      have HT := Lib.hid (fun (w' : World) (hb : Bel w w') => l4Clause_w l h l2 h2 v vc ar c true w' hq hgs (shortC_of_sum hcs) (hv.below hb) (hc.below hb))
      cases hp : okEnv sz env with
      | false =>
        rw [if_neg (by simp)]
        have HE := Lib.hid (fun (w' : World) (hb : Bel w w') => l5Env_v l3 h3 u ve sz env false w' hp z1 z3 hel (he.below hb))
        clear hq hp
        go_enter Try.func50, Try.ntmps50
        go_wp2_with fail
        refine (HC.out _ HB).mono ?_; rintro e w1 ⟨rfl, hb1⟩
        obtain ⟨x0, x1, x2⟩ := HK.out _ hb1
        go_wp2_with fail
        refine (HT.out _ (HB.step hb1)).mono ?_; rintro e w2 ⟨rfl, hb2⟩
        obtain ⟨y0, y1, y2⟩ := HK.out _ (hb1.step hb2)
        go_wp2_with fail
        refine (HE.out _ ((HB.step hb1).step hb2)).mono ?_; rintro e w3 ⟨rfl, hb3⟩
        go_wp2_with fail
        go_ret2
        exact ⟨rfl, ((HB.step hb1).step hb2).step hb3⟩
      | true =>
        rw [if_pos rfl]
        have HE := Lib.hid (fun (w' : World) (hb : Bel w w') => l5Env_v l3 h3 u ve sz env true w' hp z1 z3 hel (he.below hb))
        have HV := Lib.hid (fun (w' : World) (hb : Bel w w') => l5At_c l h l' h' l2 h2 l3 h3 v u vc ve ar sz tb c env w' hgs hiw hp hq (hv.below hb) (hu.below hb) (hc.below hb) (he.below hb))
        clear hq hp
        generalize clH ar sz tb env c = val at *
        go_enter Try.func50, Try.ntmps50
        go_wp2_with fail
        refine (HC.out _ HB).mono ?_; rintro e w1 ⟨rfl, hb1⟩
        obtain ⟨x0, x1, x2⟩ := HK.out _ hb1
        go_wp2_with fail
        refine (HT.out _ (HB.step hb1)).mono ?_; rintro e w2 ⟨rfl, hb2⟩
        obtain ⟨y0, y1, y2⟩ := HK.out _ (hb1.step hb2)
        go_wp2_with fail
        refine (HE.out _ ((HB.step hb1).step hb2)).mono ?_; rintro e w3 ⟨rfl, hb3⟩
        obtain ⟨v0, v1, v2⟩ := HK.out _ ((hb1.step hb2).step hb3)
        go_wp2_with fail
        refine (HV.out _ (((HB.step hb1).step hb2).step hb3)).mono ?_; rintro e w4 ⟨rfl, hb4⟩
        go_wp2_with fail
        go_ret2
        exact ⟨rfl, (((HB.step hb1).step hb2).step hb3).step hb4⟩
end Go.Proofs.Yteegjnobmbcjiaa
end
section
/- Chapter 5, the program: the value of a term. -/
namespace Go.Proofs.Yteegjnobmbcjiaa
open Go.RowKit

theorem noOf_tk {sz : Int} (l : List Int) (k : Nat) (hk : k < l.length) : noOf sz (l.take (k+1)) = noOf sz (l.take k) * sz + l.getD k 0 := by
  rw [List.take_succ_eq_append_getElem hk, noOf_snoc]
  simp [List.getD, hk]
theorem stk_at {w : World} {B : Nat} {vs : List Int} (h : Stk w B vs) (q : Nat) (hq : q < vs.length) : w.cell? ⟨B, vs.length - (q + 1), none⟩ = some (.int .i64 (vs.getD q 0)) := by
  have := h.2.2 q hq
  rwa [show vs.length - 1 - q = vs.length - (q + 1) by omega] at this

set_option maxRecDepth 100000 in
set_option maxHeartbeats 2000000 in
theorem valueIn_c (l h l' h' l2 h2 l3 h3 : Nat) (v u vt ve : Value) (ar : List Int) (sz : Int) (tb : List (List Int)) (t env : List Int) (w : World) (hg : goodSign ar = true) (hw : isWorld ar sz tb = true) (he : okEnv sz env = true) (hok : okTerm ar t = true)
    (hv : SlI l h w v ar) (hu : SlS l' h' w u tb) (ht : SlI l2 h2 w vt t) (hve : SlI l3 h3 w ve env) :
    Calls Try.prog 92 #[.agg #[v], .agg #[.int .i64 sz, u], vt, ve] w (RetV w (.int .i64 (evT ar sz tb env t))) := by
  obtain ⟨w1, w2, w3, w4⟩ := isWorld_iff.1 hw
  obtain ⟨e1, e2⟩ := okEnv_iff.1 he
  have htl := ((okTerm_iff ar t).1 hok).2.1
  have ht1 := ((okTerm_iff ar t).1 hok).1
  have HM : Hid (∀ m : Nat, okSym ar (m : Int) = true → m < tb.length) := fun m hm => by have := okSym_lt hm; omega
  have HALL := Lib.hid (suf_all (sz := sz) (tb := tb) (env := env) hok)
  have HBD := Lib.hid (fun i hi => suf_bd (tb := tb) (env := env) hg hw he hok i hi)
  have HARG := Lib.hid (fun i hi hn => suf_args (sz := sz) (tb := tb) (env := env) hok i hi hn)
  have HLEN := Lib.hid (fun y => sufV_len (ar := ar) (sz := sz) (tb := tb) (env := env) y)
  have HSYM := Lib.hid (good_sym ar t hok)
  have HTB := Lib.hid w4
  clear w3 w4 hok hw he
  obtain ⟨av, cv, rfl, -, -, hrv⟩ := hv
  obtain ⟨at', ct, rfl, -, -, hrt⟩ := ht
  obtain ⟨ae, ce, rfl, -, -, hre⟩ := hve
  obtain ⟨au, cu, rfl⟩ := hu.form
  go_enter Try.func92, Try.ntmps92
  go_wp2_with fail
  obtain ⟨W, hW⟩ : ∃ W, W = (w.alloc (.cells #[.slice av ar.length cv] 30)).alloc (.cells #[.int .i64 sz, .slice au tb.length cu] 58) := ⟨_, rfl⟩
  have hB : Bel w W := by rw [hW]; exact Bel.alloc2 _ _ _
  have zW : W.heap.size = w.heap.size + 1 + 1 := by rw [hW]; simp
  have k0 : W.cell? ⟨w.heap.size, 0, none⟩ = some (.slice av ar.length cv) := by rw [hW]; simp [go_sem]
  have k1 : W.cell? ⟨w.heap.size + 1, 0, none⟩ = some (.int .i64 sz) := by rw [hW]; simp [go_sem]
  have k2 : W.cell? ⟨w.heap.size + 1, 1, none⟩ = some (.slice au tb.length cu) := by rw [hW]; simp [go_sem]
  rw [← hW, ← zW]
  replace zW : w.heap.size + 1 < W.heap.size := by omega
  clear hW
  go_loopw [10, 11] (fun top i wr => ∃ k : Nat, k ≤ t.length ∧ i = .int .i64 ((k : Int) - 1) ∧ top = .int .i64 (((sufV ar sz tb env (t.drop k)).length : Nat) : Int) ∧ Stk wr W.heap.size (sufV ar sz tb env (t.drop k)) ∧ Bel W wr) (fun _ i _ => (intOf i + 1).toNat)
  case atStart =>
    refine ⟨t.length, Nat.le_refl _, rfl, ?_, ?_, Bel.alloc0 _ _⟩
    · rw [List.drop_length]; rfl
    · rw [List.drop_length]; exact Stk.new W _ _ rfl
  case round =>
    obtain ⟨k, hk, rfl, rfl, hst, hb⟩ := hrel
    have q0 := hb.at (by omega) k0
    have q1 := hb.at (by omega) k1
    have q2 := hb.at (by omega) k2
    cases k with
    | zero =>
      rw [List.drop_zero, HALL.out] at hst
      have hc0 : wr.cell? ⟨W.heap.size, 0, none⟩ = some (.int .i64 (evT ar sz tb env t)) := hst.2.2 0 (by simp)
      have hz : decide (((0 : Nat) : Int) - 1 ≥ 0) = false := by simp
      clear hst HALL HBD HARG
      go_wp2_with fail
      go_ret
      exact ⟨rfl, hB.step hb⟩
    | succ k =>
      rw [show ((k + 1 : Nat) : Int) - 1 = (k : Int) from by omega]
      obtain ⟨bt, offt, rfl, hbtl, hct⟩ := rd hrt (hB.step hb) k (by omega)
      have hsym := HSYM.out k (by omega)
      have hvl := HLEN.out (t.drop (k+1))
      rw [List.length_drop] at hvl
      have hbd := Lib.hid (HBD.out (k+1) (by omega))
      have harg := Lib.hid (HARG.out k (by omega))
      have hdrop : Hid (sufV ar sz tb env (t.drop k) = sufV ar sz tb env (t.getD k 0 :: t.drop (k+1))) := by show _ = _; rw [drop_cons t k (by omega)]
      have hkt : (k : Int) < t.length := by omega
      by_cases hneg : t.getD k 0 < 0
      · have E := Lib.hid (hdrop.out.trans (sufV_neg hneg))
        obtain ⟨j, hj⟩ : ∃ j : Nat, t.getD k 0 = -1 - (j : Int) := ⟨(-1 - t.getD k 0).toNat, by omega⟩
        have hj12 : j < 12 := by rw [hj] at hsym; unfold okSym inB at hsym; simp at hsym; omega
        rw [hj] at hct E
        obtain ⟨be, offe, rfl, hbel, hce⟩ := rd hre (hB.step hb) j (by omega)
        have hw1 := IntWalk.i64_in (-1 - (-1 - (j : Int))) (by omega)
        have hjj : -1 - (-1 - (j : Int)) = (j : Int) := by omega
        rw [hjj] at hw1
        have hjE : (-1 - (-1 - (j : Int))).toNat = j := by omega
        rw [hjE] at E
        have hneg2 : decide ((-1 - (j : Int)) < 0) = true := by simp; omega
        have hjl : (j : Int) < 12 := by omega
        clear harg hbd hdrop hneg hj hsym hjE hrt hre HALL HBD HARG HLEN HSYM HTB
        generalize env.getD j 0 = val at *
        generalize sufV ar sz tb env (t.drop (k+1)) = vs at *
        have hst2 := Lib.hid (hst.push val (by omega))
        obtain ⟨x, hcx, hfx⟩ := hst.2.1 vs.length (by omega)
        have hl40 : ((vs.length : Nat) : Int) < 40 := by omega
        have hbs := Lib.hid (hb.set (p := ⟨W.heap.size, vs.length, none⟩) (Nat.le_refl _) (.int .i64 val))
        clear hst hvl
        go_wp2_with fail
        go_roundw
        case rel => exact ⟨k, by omega, by go_num, by rw [E.out]; simp, by rw [E.out]; exact hst2.out, hbs.out⟩
        case measure => simp [intOf]
      · have E := Lib.hid (hdrop.out.trans (sufV_sym hneg))
        have hal := harg.out (by omega)
        obtain ⟨m, hm⟩ : ∃ m : Nat, t.getD k 0 = (m : Int) := ⟨(t.getD k 0).toNat, by omega⟩
        rw [hm] at hct E hal hsym
        have hma := okSym_lt hsym
        have hmt := HM.out m hsym
        obtain ⟨ba, offa, rfl, hbal, hca⟩ := rd hrv (hB.step hb) m hma
        have h03 := ar_nonneg ar hg m
        obtain ⟨A, hA⟩ : ∃ A : Nat, ar.getD m 0 = (A : Int) := ⟨(ar.getD m 0).toNat, by omega⟩
        have hTT := HTB.out m hmt
        have hAA : arOf ar (m : Int) = A := by rw [arOf_nat, hA]; simp
        rw [hAA] at E hal
        rw [hA] at hca h03 hTT
        have hA3 : A ≤ 3 := by omega
        have hneg2 : decide ((m : Int) < 0) = false := by simp
        have hmal : (m : Int) < ar.length := by omega
        have hmtl : (m : Int) < tb.length := by omega
        unfold entry at E
        rw [Int.toNat_natCast] at E
        obtain ⟨bb, off, u1, rfl, hbs, c1, s1⟩ := hu.at (hB.step hb) m hmt
        obtain ⟨x1, x2, rfl, -, -, hrx⟩ := s1
        clear harg hdrop hneg hm hsym hA hAA hrt hre hrv HALL HBD HARG HLEN HSYM HTB HM
        generalize sufV ar sz tb env (t.drop (k+1)) = vs at *
        have HNO : Hid (∀ q, q ≤ A → 0 ≤ noOf sz (vs.take q) ∧ noOf sz (vs.take q) ≤ 26) := fun q hq => noOf_le w1 w2 _ (fun x hx => hbd.out x (List.mem_of_mem_take hx)) (by rw [List.length_take]; omega)
        have HNL : Hid (noOf sz (vs.take A) < ((tb.getD m []).length : Nat)) := by
          show _ < _
          have := noOf_bd w1 (vs.take A) (fun x hx => hbd.out x (List.mem_of_mem_take hx))
          rw [hTT.1]
          rw [List.length_take, show min A vs.length = A by omega] at this
          exact this.2
        have HVB : Hid (∀ q, q < vs.length → 0 ≤ vs.getD q 0 ∧ vs.getD q 0 ≤ sz - 1) := fun q hq => hbd.out _ (mem_gd vs 0 q hq)
        have hvl40 : vs.length < 40 := by omega
        clear hTT hbd hvl
        go_wp2_with fail
        obtain ⟨wo, hwo⟩ : ∃ wo, wo = wr := ⟨_, rfl⟩
        subst hwo
        have zB : W.heap.size < wo.heap.size := hst.1
        go_loopw [10, 13, 41] (fun top no j w2' => ∃ q : Nat, q ≤ A ∧ j = .int .i64 q ∧ no = .int .i64 (noOf sz (vs.take q)) ∧ top = .int .i64 ((vs.length - q : Nat) : Int) ∧ Bel wo w2') (fun _ _ j _ => A - (intOf j).toNat)
        case atStart => exact ⟨0, Nat.zero_le _, rfl, by simp [noOf], rfl, Bel.rfl' _⟩
        case round =>
          obtain ⟨q, hq, rfl, rfl, rfl, hbq⟩ := hrel
          have hn0 := HNO.out q hq
          by_cases hqA : q < A
          · have hv0 := HVB.out q (by omega)
            have hs1 := hbq.at zB (stk_at hst q (by omega))
            have HS := Lib.hid (noOf_tk (sz := sz) vs q (by omega))
            have r1 := hbq.at (by omega) q1
            have hsub : ((vs.length - q : Nat) : Int) - 1 = ((vs.length - (q + 1) : Nat) : Int) := by omega
            have hs40 : ((vs.length - (q + 1) : Nat) : Int) < 40 := by omega
            have hs41 : ((vs.length - q : Nat) : Int) ≤ 40 := by omega
            have hs42 : (1 : Int) ≤ ((vs.length - q : Nat) : Int) := by omega
            have hmul : noOf sz (vs.take q) * sz ≤ noOf sz (vs.take q) * 3 := Int.mul_le_mul_of_nonneg_left w2 hn0.1
            have hmul0 := Int.mul_nonneg hn0.1 (show 0 ≤ sz by omega)
            generalize vs.getD q 0 = x at *
            generalize noOf sz (vs.take q) = no at *
            have i1 := IntWalk.i64_in (no * sz) (by omega)
            have i2 := IntWalk.i64_in (no * sz + x) (by omega)
            have i3 := IntWalk.i64_in (((vs.length - q : Nat) : Int) - 1) (by omega)
            rw [hsub] at i3
            have HSUB := Lib.hid hsub
            have hsz := Lib.hid hst
            clear hmul hmul0 HNO HNL HVB hst hrx hsub
            generalize hP : vs.length - (q + 1) = P at *
            generalize hQ : vs.length - q = Q at *
            have HP := Lib.hid hP
            have hPQ : (Q : Int) - 1 = (P : Int) := HSUB.out
            clear hP hQ
            go_wp2_with fail
            go_region_held3 (fun w' => Bel wr w' ∧ w'.cell? ⟨w.heap.size + 1, 0, none⟩ = some (.int .i64 sz) ∧ w'.cell? ⟨W.heap.size, P, none⟩ = some (.int .i64 x))
              (first | exact ⟨Bel.drew0 _, r1, hs1⟩ | fail)
              (first | fail)
            go_wp2_with fail
            go_roundw
            case rel => exact ⟨q+1, by omega, by go_num, by rw [HS.out], by rw [HP.out], hbq.step (Bel.drew0 _)⟩
            case measure => simp [intOf]; omega
          · obtain rfl : q = A := by omega
            obtain ⟨N, hN⟩ : ∃ N : Nat, noOf sz (vs.take q) = (N : Int) := ⟨(noOf sz (vs.take q)).toNat, by omega⟩
            have hnl := HNL.out
            rw [hN] at hnl hn0 E ⊢
            rw [Int.toNat_natCast] at E
            have hNL : N < (tb.getD m []).length := by omega
            obtain ⟨bx, ofx, rfl, hxl, hcx⟩ := rd hrx hbq N hNL
            have r2 := hbq.at (by omega) q2
            have c2 := hbq.at (World.block_lt_of_cell? _ ⟨_, _, none⟩ c1) c1
            have hst2 := (hst.below hbq).drop q hal
            have hdl : (vs.drop q).length = vs.length - q := List.length_drop
            obtain ⟨y, hcy, hfy⟩ := hst2.2.1 (vs.length - q) (by omega)
            have hl40 : ((vs.length - q : Nat) : Int) < 40 := by omega
            generalize (tb.getD m []).getD N 0 = val at *
            have hst3 := Lib.hid (hst2.push val (by omega))
            have hbs2 := Lib.hid ((hb.step hbq).set (p := ⟨W.heap.size, vs.length - q, none⟩) (Nat.le_refl _) (.int .i64 val))
            have HDL := Lib.hid hdl
            clear HNO HNL HVB hst hst2 hrx hN hnl hdl
            generalize (tb.getD m []).length = xl at *
            generalize hQ : vs.length - q = Q at *
            clear hQ
            go_wp2_with fail
            go_roundw
            case rel => exact ⟨k, by omega, by go_num, by rw [E.out, List.length_cons, HDL.out]; simp, by have h9 := hst3.out; rw [HDL.out] at h9; rw [E.out]; exact h9, hbs2.out⟩
            case measure => simp [intOf]
end Go.Proofs.Yteegjnobmbcjiaa
end
section
/- Chapter 5, the program: tables and their elements, GoodWorld. -/
namespace Go.Proofs.Yteegjnobmbcjiaa
open Go.RowKit

set_option maxRecDepth 100000 in
set_option maxHeartbeats 400000 in
theorem tableLength_c (Z A : Nat) (w : World) (h2 : Z ≤ 3) (h3 : A ≤ 3) :
    Calls Try.prog 101 #[.int .i64 (A : Int), .int .i64 (Z : Int)] w (RetV w (.int .i64 ((Z ^ A : Nat) : Int))) := by
  go_enter Try.func101, Try.ntmps101
  go_wp2_with fail
  go_loop [5, 7] (fun n a => ∃ k : Nat, k ≤ A ∧ a = .int .i64 k ∧ n = .int .i64 ((Z ^ k : Nat) : Int)) (fun _ a => A - (intOf a).toNat)
  case atStart => exact ⟨0, Nat.zero_le _, rfl, rfl⟩
  case round =>
    obtain ⟨k, hk, rfl, rfl⟩ := hrel
    by_cases hlt : k < A
    · have E := Lib.hid (pw_succ Z k)
      have hb := pw_le h2 (show k + 1 ≤ 3 by omega)
      have hw : -9223372036854775808 ≤ ((Z ^ k : Nat) : Int) * (Z : Int) ∧ ((Z ^ k : Nat) : Int) * (Z : Int) ≤ 9223372036854775807 := by rw [E.out]; omega
      have hw1 := IntWalk.i64_in (((Z ^ k : Nat) : Int) * (Z : Int)) hw
      clear hw hb
      generalize ((Z ^ k : Nat) : Int) = y at *
      go_wp2_with fail
      go_round
      case rel => exact ⟨k+1, by omega, by go_num, by rw [← E.out]⟩
      case measure => simp [intOf]; omega
    · obtain rfl : k = A := by omega
      generalize ((Z ^ k : Nat) : Int) = y at *
      go_wp2_with fail
      go_ret
      exact ⟨rfl, Bel.rfl' _⟩

theorem elem_in (x sz : Int) : inB x 0 (sz - 1) = (decide (0 ≤ x) && decide (x < sz)) := by
  unfold inB
  rw [show decide (x ≤ sz - 1) = decide (x < sz) from by rw [Bool.eq_iff_iff]; simp; omega]

set_option maxRecDepth 100000 in
set_option maxHeartbeats 400000 in
theorem areElements_c (l h : Nat) (v : Value) (xs : List Int) (sz : Int) (w : World) (hx : xs.length ≤ 1048576) (hv : SlI l h w v xs) :
    Calls Try.prog 60 #[v, .int .i64 sz] w (RetV w (.bool (xs.all (fun x => inB x 0 (sz - 1))))) := by
  obtain ⟨ad, cap, rfl, -, -, hr⟩ := hv
  go_enter Try.func60, Try.ntmps60
  go_wp2_with fail
  go_loop [9] (fun i => ∃ k : Nat, k ≤ xs.length ∧ i = .int .i64 k ∧ (xs.take k).all (fun x => inB x 0 (sz - 1)) = true) (fun i => xs.length - (intOf i).toNat)
  case atStart => exact ⟨0, Nat.zero_le _, rfl, by simp⟩
  case round =>
    obtain ⟨k, hk, rfl, hall⟩ := hrel
    by_cases hlt : k < xs.length
    · obtain ⟨b, off, rfl, hbl, hc⟩ := rd hr (Bel.rfl' w) k hlt
      have ES : (xs.take (k+1)).all (fun x => inB x 0 (sz - 1)) = (decide (0 ≤ xs.getD k 0) && decide (xs.getD k 0 < sz)) := (all_split xs (fun x => inB x 0 (sz - 1)) k hlt hall).trans (elem_in _ _)
      have EF : (decide (0 ≤ xs.getD k 0) && decide (xs.getD k 0 < sz)) = false → xs.all (fun x => inB x 0 (sz - 1)) = false := fun h => all_false xs (fun x => inB x 0 (sz - 1)) k hlt ((elem_in _ _).trans h)
      generalize xs.getD k 0 = x at *
      by_cases h0 : x < 0
      · have E := Lib.hid (EF (by rw [decide_eq_false (show ¬ 0 ≤ x by omega)]; rfl))
        clear ES EF hall hr
        go_wp2_with fail
        go_ret
        exact ⟨by rw [E.out]; rfl, Bel.rfl' _⟩
      · by_cases h1 : x < sz
        · have E := Lib.hid (ES.trans (by rw [decide_eq_true (show 0 ≤ x by omega), decide_eq_true h1, Bool.true_and]))
          clear ES EF hall hr
          go_wp2_with fail
          go_round
          case rel => exact ⟨k+1, by omega, by go_num, E.out⟩
          case measure => simp [intOf]; omega
        · have E := Lib.hid (EF (by rw [decide_eq_false h1, Bool.and_false]))
          clear ES EF hall hr
          go_wp2_with fail
          go_ret
          exact ⟨by rw [E.out]; rfl, Bel.rfl' _⟩
    · have E := Lib.hid (all_done xs _ k hk hlt hall)
      clear hall hr
      go_wp2_with fail
      go_ret
      exact ⟨by rw [E.out]; rfl, Bel.rfl' _⟩
theorem areElements_v (l h : Nat) (v : Value) (xs : List Int) (sz : Int) (q : Bool) (w : World) (he : xs.all (fun x => inB x 0 (sz - 1)) = q) (hx : xs.length ≤ 1048576) (hv : SlI l h w v xs) :
    Calls Try.prog 60 #[v, .int .i64 sz] w (RetV w (.bool q)) := by subst he; exact areElements_c l h v xs sz w hx hv

set_option maxRecDepth 100000 in
set_option maxHeartbeats 400000 in
theorem hasWorlds_c (l h : Nat) (v : Value) (ar : List Int) (sz : Int) (w : World) (ha : ar.length ≤ 1048576) (hv : SlI l h w v ar) :
    Calls Try.prog 100 #[.agg #[v], .int .i64 sz] w (RetV w (.bool (goodSign ar && inB sz 1 3))) := by
  cases hg : goodSign ar with
  | false =>
    have HC := Lib.hid (fun (w' : World) (hb : Bel w w') => iGoodSign_v l h v ar false w' hg ha (hv.below hb)); clear hg
    go_enter Try.func100, Try.ntmps100
    go_wp2_with fail
    refine (HC.out _ (Bel.alloc0 _ _)).mono ?_; rintro e w1 ⟨rfl, hb1⟩
    go_wp2_with fail
    go_ret
    exact ⟨rfl, hb1.of_alloc⟩
  | true =>
    rw [Bool.true_and]
    have HC := Lib.hid (fun (w' : World) (hb : Bel w w') => iGoodSign_v l h v ar true w' hg ha (hv.below hb)); clear hg
    by_cases h1 : 1 ≤ sz
    · by_cases h2 : sz ≤ 3
      · have E : Hid (inB sz 1 3 = true) := by show _ = _; unfold inB; simp [h1, h2]
        go_enter Try.func100, Try.ntmps100
        go_wp2_with fail
        refine (HC.out _ (Bel.alloc0 _ _)).mono ?_; rintro e w1 ⟨rfl, hb1⟩
        go_wp2_with fail
        go_ret
        exact ⟨by rw [E.out]; rfl, hb1.of_alloc⟩
      · have E : Hid (inB sz 1 3 = decide (sz ≤ 3)) := by show _ = _; unfold inB; rw [decide_eq_true h1, Bool.true_and]
        go_enter Try.func100, Try.ntmps100
        go_wp2_with fail
        refine (HC.out _ (Bel.alloc0 _ _)).mono ?_; rintro e w1 ⟨rfl, hb1⟩
        go_wp2_with fail
        go_ret
        exact ⟨by rw [E.out]; rfl, hb1.of_alloc⟩
    · have E : Hid (inB sz 1 3 = false) := by show _ = _; unfold inB; simp; omega
      go_enter Try.func100, Try.ntmps100
      go_wp2_with fail
      refine (HC.out _ (Bel.alloc0 _ _)).mono ?_; rintro e w1 ⟨rfl, hb1⟩
      go_wp2_with fail
      go_ret
      exact ⟨by rw [E.out]; rfl, hb1.of_alloc⟩
theorem hasWorlds_v (l h : Nat) (v : Value) (ar : List Int) (sz : Int) (q : Bool) (w : World) (he : (goodSign ar && inB sz 1 3) = q) (ha : ar.length ≤ 1048576) (hv : SlI l h w v ar) :
    Calls Try.prog 100 #[.agg #[v], .int .i64 sz] w (RetV w (.bool q)) := by subst he; exact hasWorlds_c l h v ar sz w ha hv
end Go.Proofs.Yteegjnobmbcjiaa
end
section
/- Chapter 5, the program: GoodWorld. -/
namespace Go.Proofs.Yteegjnobmbcjiaa
open Go.RowKit

set_option maxRecDepth 100000 in
set_option maxHeartbeats 1000000 in
theorem iGoodWorld_t {l h l' h' : Nat} {v u : Value} {ar : List Int} {sz : Int} {tb : List (List Int)} {w : World} (ha : ar.length ≤ 1048576) (hv : SlI l h w v ar) (hx : short tb) (hu : SlS l' h' w u tb) :
    Calls Try.prog 51 #[.agg #[v], .agg #[.int .i64 sz, u]] w (RetV w (.bool (goodWorld ar sz tb))) := by
  have hv0 := hv
  obtain ⟨ad, cap, rfl, -, -, hr⟩ := hv
  obtain ⟨au, cu, rfl⟩ := hu.form
  by_cases h1 : (goodSign ar && inB sz 1 3) = true
  · have hg : goodSign ar = true := by revert h1; cases goodSign ar <;> simp
    have h1b : inB sz 1 3 = true := by revert h1; cases inB sz 1 3 <;> simp
    have hlen := (sign_len ar hg).2
    have HH := Lib.hid (fun (w' : World) (hb : Bel w w') => hasWorlds_v l h _ ar sz true w' h1 ha (hv0.below hb))
    by_cases h2 : tb.length = ar.length
    · have hn := Lib.hid (ne_len h2)
      have E0 : goodWorld ar sz tb = okTabs ar sz tb tb.length := by unfold goodWorld isWorld; rw [hg, h1b, decide_eq_true h2, Bool.true_and, Bool.true_and, Bool.true_and]
      obtain ⟨z1, z3⟩ : 1 ≤ sz ∧ sz ≤ 3 := by unfold inB at h1b; simpa using h1b
      obtain ⟨Z, rfl⟩ : ∃ Z : Nat, sz = (Z : Int) := ⟨sz.toNat, by omega⟩
      have H2 := Lib.hid h2
      rw [E0]
      have hnn := hn.out
      clear h1 h1b h2 E0 hn hv0
      go_enter Try.func51, Try.ntmps51
      go_wp2_with fail
      refine (HH.out _ (Bel.alloc2 _ _ _)).mono ?_; rintro e W ⟨rfl, hb0⟩
      have hB : Bel w W := (Bel.alloc2 w _ _).step hb0
      have zW : w.heap.size + 1 < W.heap.size := by have := hb0.size; simp at this; omega
      have k0 := hb0.at (b := w.heap.size) (off := 0) (by simp; omega) (show World.cell? _ _ = some (.slice ad ar.length cap) by simp [go_sem])
      have k1 := hb0.at (b := w.heap.size + 1) (off := 0) (by simp) (show World.cell? _ _ = some (.int .i64 (Z : Int)) by simp [go_sem])
      have k2 := hb0.at (b := w.heap.size + 1) (off := 1) (by simp) (show World.cell? _ _ = some (.slice au tb.length cu) by simp [go_sem])
      clear HH hb0
      go_wp2_with fail
      go_loopw [24] (fun j wr => ∃ k : Nat, k ≤ tb.length ∧ j = .int .i64 k ∧ okTabs ar Z tb k = true ∧ Bel W wr) (fun j _ => tb.length - (intOf j).toNat)
      case atStart => exact ⟨0, Nat.zero_le _, rfl, okTabs_zero _ _ _, Bel.rfl' _⟩
      case round =>
        obtain ⟨k, hk, rfl, hall, hb⟩ := hrel
        have q0 := hb.at (b := w.heap.size) (by omega) k0
        have q1 := hb.at zW k1
        have q2 := hb.at zW k2
        by_cases hlt : k < tb.length
        · obtain ⟨b, off, u1, rfl, hbs, c1, s1⟩ := hu.at (hB.step hb) k hlt
          obtain ⟨b2, off2, rfl, hb2l, hc2⟩ := rd hr (hB.step hb) k (by rw [← H2.out]; exact hlt)
          have h03 := ar_nonneg ar hg k
          obtain ⟨A, hA⟩ : ∃ A : Nat, ar.getD k 0 = (A : Int) := ⟨(ar.getD k 0).toNat, by omega⟩
          have hxl := hx.2 k hlt
          have zl1 : w.heap.size + 1 < wr.heap.size := Nat.lt_of_lt_of_le zW hb.size
          have zl0 : w.heap.size < wr.heap.size := by omega
          have zlc : b2 < wr.heap.size := World.block_lt_of_cell? _ ⟨_, _, none⟩ hc2
          have hkl : (k : Int) < ar.length := by rw [← H2.out]; omega
          have EO : okTab Z (ar.getD k 0) (tb.getD k []) = (decide ((tb.getD k []).length = Z ^ A) && (tb.getD k []).all (fun x => inB x 0 ((Z : Int) - 1))) := by rw [hA]; rfl
          have ES := okTabs_succ ar Z tb k
          have EF := fun (h : okTab Z (ar.getD k 0) (tb.getD k []) = false) => okTabs_false (tb := tb) (n := tb.length) h hlt
          rw [EO] at ES EF
          rw [hall, Bool.true_and] at ES
          rw [hA] at hc2 h03
          have hA3 : A ≤ 3 := by omega
          obtain ⟨d1, e1, rfl⟩ := s1.form
          have HL := Lib.hid (fun (w' : World) => tableLength_c Z A w' (by omega) hA3)
          clear hA EO hall h03
          generalize tb.getD k [] = x at *
          by_cases hxz : x.length = Z ^ A
          · have hne := ne_len hxz
            have HA := Lib.hid (fun (q : Bool) (w' : World) (hq : x.all (fun x => inB x 0 ((Z : Int) - 1)) = q) (hb' : Bel wr w') => areElements_v _ _ _ x Z q w' hq hxl (s1.below hb'))
            rw [decide_eq_true hxz, Bool.true_and] at ES EF
            clear s1 hxl hxz
            generalize hyy : Z ^ A = y at *
            clear hyy
            cases hq : x.all (fun x => inB x 0 ((Z : Int) - 1)) with
            | true =>
              have HQ := Lib.hid hq
              have ES2 := Lib.hid (ES.trans hq)
              clear hq ES EF
              go_wp2_with fail
              go_region_held3 (fun w' => Bel wr w' ∧ w'.cell? ⟨w.heap.size + 1, 0, none⟩ = some (.int .i64 (Z : Int)) ∧ w'.cell? ⟨w.heap.size, 0, none⟩ = some (.slice (some ⟨b2, off2, none⟩) ar.length cap) ∧ w'.cell? ⟨b2, off2 + k, none⟩ = some (.int .i64 (A : Int)))
                (first | exact ⟨Bel.drew0 _, q1, q0, hc2⟩ | exact ⟨HB8, p1, p0, pc⟩ | exact ⟨HB8.step hb9, hb9.at pl1 p1, hb9.at pl0 p0, hb9.at plc pc⟩ | fail)
                (first | (go_at_call 60; refine (HA.out _ _ HQ.out HB8).mono ?_; rintro e w9 ⟨rfl, hb9⟩) | (go_at_call 101; refine (HL.out _).mono ?_; rintro e w8 ⟨rfl, hb8⟩; have HB8 := hb8.of_drew; have hz8 := HB8.size; have p1 := HB8.at zl1 q1; have p0 := HB8.at zl0 q0; have pc := HB8.at zlc hc2; have pl1 : w.heap.size + 1 < w8.heap.size := Nat.lt_of_lt_of_le zl1 hz8; have pl0 : w.heap.size < w8.heap.size := Nat.lt_of_lt_of_le zl0 hz8; have plc : b2 < w8.heap.size := Nat.lt_of_lt_of_le zlc hz8) | fail)
              go_wp2_with fail
              go_roundw
              case rel => exact ⟨k+1, by omega, by go_num, ES2.out, (hb.step HB8).step hb9⟩
              case measure => simp [intOf]; omega
            | false =>
              have HQ := Lib.hid hq
              have EF2 := Lib.hid (EF hq)
              clear hq ES EF
              go_wp2_with fail
              go_region_held3 (fun w' => Bel wr w' ∧ w'.cell? ⟨w.heap.size + 1, 0, none⟩ = some (.int .i64 (Z : Int)) ∧ w'.cell? ⟨w.heap.size, 0, none⟩ = some (.slice (some ⟨b2, off2, none⟩) ar.length cap) ∧ w'.cell? ⟨b2, off2 + k, none⟩ = some (.int .i64 (A : Int)))
                (first | exact ⟨Bel.drew0 _, q1, q0, hc2⟩ | exact ⟨HB8, p1, p0, pc⟩ | exact ⟨HB8.step hb9, hb9.at pl1 p1, hb9.at pl0 p0, hb9.at plc pc⟩ | fail)
                (first | (go_at_call 60; refine (HA.out _ _ HQ.out HB8).mono ?_; rintro e w9 ⟨rfl, hb9⟩) | (go_at_call 101; refine (HL.out _).mono ?_; rintro e w8 ⟨rfl, hb8⟩; have HB8 := hb8.of_drew; have hz8 := HB8.size; have p1 := HB8.at zl1 q1; have p0 := HB8.at zl0 q0; have pc := HB8.at zlc hc2; have pl1 : w.heap.size + 1 < w8.heap.size := Nat.lt_of_lt_of_le zl1 hz8; have pl0 : w.heap.size < w8.heap.size := Nat.lt_of_lt_of_le zl0 hz8; have plc : b2 < w8.heap.size := Nat.lt_of_lt_of_le zlc hz8) | fail)
              go_wp2_with fail
              go_ret
              exact ⟨by rw [EF2.out]; rfl, (hB.step hb).step (HB8.step hb9)⟩
          · have hne := ne_len' hxz
            have EF2 := Lib.hid (EF (by rw [decide_eq_false hxz]; rfl))
            clear s1 hxl EF ES
            generalize hyy : Z ^ A = y at *
            clear hyy hxz
            go_wp2_with fail
            first | (go_region_with (first | (go_at_call 101; refine (HL.out _).mono ?_; rintro e w8 ⟨rfl, hb8⟩) | fail)) | fail
            all_goals
              have HB8 := hb8.of_drew
              go_wp2_with fail
              go_ret
              exact ⟨by rw [EF2.out]; rfl, (hB.step hb).step HB8⟩
        · obtain rfl : k = tb.length := by omega
          have HALL := Lib.hid hall
          clear hall hlt
          go_wp2_with fail
          go_ret
          exact ⟨by rw [HALL.out]; rfl, hB.step hb⟩
    · have E0 : Hid (goodWorld ar sz tb = false) := by show _ = _; unfold goodWorld isWorld; rw [decide_eq_false h2]; simp
      have hnn := ne_len' h2
      clear h1 h1b h2 hv0
      go_enter Try.func51, Try.ntmps51
      go_wp2_with fail
      refine (HH.out _ (Bel.alloc2 _ _ _)).mono ?_; rintro e W ⟨rfl, hb0⟩
      have k0 := hb0.at (b := w.heap.size) (off := 0) (by simp; omega) (show World.cell? _ _ = some (.slice ad ar.length cap) by simp [go_sem])
      have k2 := hb0.at (b := w.heap.size + 1) (off := 1) (by simp) (show World.cell? _ _ = some (.slice au tb.length cu) by simp [go_sem])
      go_wp2_with fail
      go_ret
      exact ⟨by rw [E0.out]; rfl, (Bel.alloc2 w _ _).step hb0⟩
  · have h1' : (goodSign ar && inB sz 1 3) = false := by simpa using h1
    have HH := Lib.hid (fun (w' : World) (hb : Bel w w') => hasWorlds_v l h _ ar sz false w' h1' ha (hv0.below hb))
    have E0 : Hid (goodWorld ar sz tb = false) := by show _ = _; unfold goodWorld isWorld; rw [← Bool.and_assoc, h1']; rfl
    clear h1 h1' hv0
    go_enter Try.func51, Try.ntmps51
    go_wp2_with fail
    refine (HH.out _ (Bel.alloc2 _ _ _)).mono ?_; rintro e W ⟨rfl, hb0⟩
    go_wp2_with fail
    go_ret
    exact ⟨by rw [E0.out]; rfl, (Bel.alloc2 w _ _).step hb0⟩
theorem iGoodWorld_v {l h l' h' : Nat} {v u : Value} {ar : List Int} {sz : Int} {tb : List (List Int)} {w : World} {q : Bool} (he : goodWorld ar sz tb = q) (ha : ar.length ≤ 1048576) (hv : SlI l h w v ar) (hx : short tb) (hu : SlS l' h' w u tb) :
    Calls Try.prog 51 #[.agg #[v], .agg #[.int .i64 sz, u]] w (RetV w (.bool q)) := by subst he; exact iGoodWorld_t ha hv hx hu
end Go.Proofs.Yteegjnobmbcjiaa
end
section
/- Chapter 5, the program: EvalIn. -/
namespace Go.Proofs.Yteegjnobmbcjiaa
open Go.RowKit

set_option maxRecDepth 100000 in
set_option maxHeartbeats 400000 in
theorem goodEnv_c (l h : Nat) (u v : Value) (sz : Int) (env : List Int) (w : World) (_ : 1 ≤ sz) (_ : sz ≤ 3) (hx : env.length ≤ 1048576) (hv : SlI l h w v env) :
    Calls Try.prog 79 #[.agg #[.int .i64 sz, u], v] w (RetV w (.bool (okEnv sz env))) := by
  unfold okEnv
  have hv0 := hv
  obtain ⟨ad, cap, rfl⟩ := hv.form
  by_cases h12 : env.length = 12
  · rw [decide_eq_true h12, Bool.true_and]
    have he : ((env.length : Int) == 12) = true := by rw [h12]; rfl
    cases hq : env.all (fun x => inB x 0 (sz - 1)) with
    | false =>
      have HA := Lib.hid (fun (w' : World) (hb : Bel w w') => areElements_v _ _ _ env sz false w' hq hx (hv0.below hb))
      clear hq hv hv0 h12
      go_enter Try.func79, Try.ntmps79
      go_wp2_with fail
      refine (HA.out _ (Bel.alloc0 _ _)).mono ?_; rintro e w1 ⟨rfl, hb1⟩
      go_wp2_with fail
      go_ret
      exact ⟨rfl, hb1.of_alloc⟩
    | true =>
      have HA := Lib.hid (fun (w' : World) (hb : Bel w w') => areElements_v _ _ _ env sz true w' hq hx (hv0.below hb))
      clear hq hv hv0 h12
      go_enter Try.func79, Try.ntmps79
      go_wp2_with fail
      refine (HA.out _ (Bel.alloc0 _ _)).mono ?_; rintro e w1 ⟨rfl, hb1⟩
      go_wp2_with fail
      go_ret
      exact ⟨rfl, hb1.of_alloc⟩
  · rw [decide_eq_false h12, Bool.false_and]
    have he : ((env.length : Int) == 12) = false := beq_eq_false_iff_ne.2 (by omega)
    clear h12
    go_enter Try.func79, Try.ntmps79
    go_wp2_with fail
    go_ret
    exact ⟨rfl, Bel.alloc0 _ _⟩
theorem goodEnv_v (l h : Nat) (u v : Value) (sz : Int) (env : List Int) (q : Bool) (w : World) (he : okEnv sz env = q) (h1 : 1 ≤ sz) (h3 : sz ≤ 3) (hx : env.length ≤ 1048576) (hv : SlI l h w v env) :
    Calls Try.prog 79 #[.agg #[.int .i64 sz, u], v] w (RetV w (.bool q)) := by subst he; exact goodEnv_c l h u v sz env w h1 h3 hx hv

set_option maxRecDepth 100000 in
set_option maxHeartbeats 1000000 in
theorem iEvalIn_t {l h l' h' l2 h2 l3 h3 : Nat} {v u vt ve : Value} {ar : List Int} {sz : Int} {tb : List (List Int)} {t env : List Int} {w : World} (ha : ar.length ≤ 1048576) (hv : SlI l h w v ar) (hx : short tb) (hu : SlS l' h' w u tb) (htl : t.length ≤ 1048576) (ht : SlI l2 h2 w vt t) (hel : env.length ≤ 1048576) (he : SlI l3 h3 w ve env) :
    Calls Try.prog 46 #[.agg #[v], .agg #[.int .i64 sz, u], vt, ve] w (RetV w (.tuple #[.int .i64 (evalAns ar sz tb t env), .bool (evalOk ar sz tb t env)])) := by
  unfold evalAns evalOk
  have HB : Bel w ((w.alloc (.cells #[v] 30)).alloc (.cells #[.int .i64 sz, u] 58)) := Bel.alloc2 _ _ _
  have HK : Hid (∀ w', Bel ((w.alloc (.cells #[v] 30)).alloc (.cells #[.int .i64 sz, u] 58)) w' → w'.cell? ⟨w.heap.size, 0, none⟩ = some v ∧ w'.cell? ⟨w.heap.size + 1, 0, none⟩ = some (.int .i64 sz) ∧ w'.cell? ⟨w.heap.size + 1, 1, none⟩ = some u) := fun w' hb =>
    ⟨hb.at (by simp; omega) (by simp [go_sem]), hb.at (by simp) (by simp [go_sem]), hb.at (by simp) (by simp [go_sem])⟩
  cases hg : goodWorld ar sz tb with
  | false =>
    rw [Bool.false_and, if_neg (by simp)]
    have HC := Lib.hid (fun (w' : World) (hb : Bel w w') => iGoodWorld_v hg ha (hv.below hb) hx (hu.below hb)); clear hg
    go_enter Try.func46, Try.ntmps46
    go_wp2_with fail
    refine (HC.out _ HB).mono ?_; rintro e w1 ⟨rfl, hb1⟩
    go_wp2_with fail
    go_ret2
    exact ⟨rfl, HB.step hb1⟩
  | true =>
    rw [Bool.true_and]
    obtain ⟨hgs, hiw⟩ := goodWorld_iff.1 hg
    obtain ⟨z1, z3, _, _⟩ := isWorld_iff.1 hiw
    have HC := Lib.hid (fun (w' : World) (hb : Bel w w') => iGoodWorld_v hg ha (hv.below hb) hx (hu.below hb)); clear hg
    cases hq : okTerm ar t with
    | false =>
      rw [Bool.false_and, if_neg (by simp)]
      have HT := Lib.hid (fun (w' : World) (hb : Bel w w') => iGoodTerm_vv l h l2 h2 v vt ar t false w' hq hgs ha htl (hv.below hb) (ht.below hb)); clear hq
      go_enter Try.func46, Try.ntmps46
      go_wp2_with fail
      refine (HC.out _ HB).mono ?_; rintro e w1 ⟨rfl, hb1⟩
      obtain ⟨x0, x1, x2⟩ := HK.out _ hb1
      go_wp2_with fail
      refine (HT.out _ (HB.step hb1)).mono ?_; rintro e w2 ⟨rfl, hb2⟩
      go_wp2_with fail
      go_ret2
      exact ⟨rfl, (HB.step hb1).step hb2⟩
    | true =>
      rw [Bool.true_and]
      have HT := Lib.hid (fun (w' : World) (hb : Bel w w') => iGoodTerm_vv l h l2 h2 v vt ar t true w' hq hgs ha htl (hv.below hb) (ht.below hb))
      cases hp : okEnv sz env with
      | false =>
        rw [if_neg (by simp)]
        have HE := Lib.hid (fun (w' : World) (hb : Bel w w') => goodEnv_v l3 h3 u ve sz env false w' hp z1 z3 hel (he.below hb))
        clear hq hp
        go_enter Try.func46, Try.ntmps46
        go_wp2_with fail
        refine (HC.out _ HB).mono ?_; rintro e w1 ⟨rfl, hb1⟩
        obtain ⟨x0, x1, x2⟩ := HK.out _ hb1
        go_wp2_with fail
        refine (HT.out _ (HB.step hb1)).mono ?_; rintro e w2 ⟨rfl, hb2⟩
        obtain ⟨y0, y1, y2⟩ := HK.out _ (hb1.step hb2)
        go_wp2_with fail
        refine (HE.out _ ((HB.step hb1).step hb2)).mono ?_; rintro e w3 ⟨rfl, hb3⟩
        go_wp2_with fail
        go_ret2
        exact ⟨rfl, ((HB.step hb1).step hb2).step hb3⟩
      | true =>
        rw [if_pos rfl]
        have HE := Lib.hid (fun (w' : World) (hb : Bel w w') => goodEnv_v l3 h3 u ve sz env true w' hp z1 z3 hel (he.below hb))
        have HV := Lib.hid (fun (w' : World) (hb : Bel w w') => valueIn_c l h l' h' l2 h2 l3 h3 v u vt ve ar sz tb t env w' hgs hiw hp hq (hv.below hb) (hu.below hb) (ht.below hb) (he.below hb))
        clear hq hp
        generalize evT ar sz tb env t = val at *
        go_enter Try.func46, Try.ntmps46
        go_wp2_with fail
        refine (HC.out _ HB).mono ?_; rintro e w1 ⟨rfl, hb1⟩
        obtain ⟨x0, x1, x2⟩ := HK.out _ hb1
        go_wp2_with fail
        refine (HT.out _ (HB.step hb1)).mono ?_; rintro e w2 ⟨rfl, hb2⟩
        obtain ⟨y0, y1, y2⟩ := HK.out _ (hb1.step hb2)
        go_wp2_with fail
        refine (HE.out _ ((HB.step hb1).step hb2)).mono ?_; rintro e w3 ⟨rfl, hb3⟩
        obtain ⟨v0, v1, v2⟩ := HK.out _ ((hb1.step hb2).step hb3)
        go_wp2_with fail
        refine (HV.out _ (((HB.step hb1).step hb2).step hb3)).mono ?_; rintro e w4 ⟨rfl, hb4⟩
        go_wp2_with fail
        go_ret2
        exact ⟨rfl, (((HB.step hb1).step hb2).step hb3).step hb4⟩
end Go.Proofs.Yteegjnobmbcjiaa
end
