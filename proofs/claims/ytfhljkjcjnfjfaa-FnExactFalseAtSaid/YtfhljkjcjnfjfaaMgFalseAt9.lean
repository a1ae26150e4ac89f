/- Texts merged, part 9. -/
import Derived.Deep.AppendLies
import Derived.Laws.AppendOwnNone
import Derived.Deep.RegionHeldLaw
import Derived.Deep.RegionWith
import Derived.Test.YtfhljkjcjnfjfaaMgFalseAt8
section
/- append of a row of ints to a row of ints, at a step of a region that draws. -/
namespace Go.Proofs.Ytfhljkjcjnfjfaa
open Go.RowKit

theorem step_append_row {w : World} {ops : Array Oper} {o : Oper} {a : Act} {K : Act → World → Prop} {Q : Exit → Act → World → Prop} {E : Prop} (hgd : o.guard = none) (s x : Operand) (d : Nat) (hd : o.dst = some d)
    (ho : o.op = .call { callee := .builtin .append, args := #[s, x], argTypes := #[22, 22] })
    (base base2 : Nat) (v y : Value) (xs ys : List Int) (hs : a.eval s = v) (hown : RowI base w v xs) (hx : a.eval x = y) (hy : RowI base2 w y ys)
    (hl : xs.length + ys.length ≤ 1099511627776) (hbase : base ≤ w.heap.size)
    (h : ∀ ad n c w', RowI base w' (.slice ad n c) (xs ++ ys) → w.grownBy w' v.ownBlock → K (a.put (some d) (.slice ad n c)) w') :
    if Region.wanted o (yielded ops a.tmps) = true then Oper.wp Try.prog o a w K Q else E := by
  obtain ⟨i0, hi0, hz0, hz1, hz2⟩ := info_parts Try.info3
  have hw : Region.wanted o (yielded ops a.tmps) = true := by simp [Region.wanted, hgd]
  rw [if_pos hw]
  rw [← hd] at h
  rcases hy.2 with ⟨rfl, hn⟩ | ⟨g, cap, cur, rfl, hg, hh, hn, hc, hsz, ht⟩
  · have he : ys = [] := List.length_eq_zero_iff.1 hn
    subst he
    obtain ⟨ad, n, c, rfl⟩ := own_form hown
    have hrun := run_append_owned_none (P := Try.prog) (w := w) base 22 o.type 3 i0 1 Try.underlying22 hi0 (.slice ad n c) xs.length (xs.map (Value.int .i64)) hown
    unfold Oper.wp
    simp [execOp, ho, resolve, invoke, builtin, hs, hx, hrun, Result.andThen]
    exact h ad n c w (by simpa using hown) (World.grownBy.refl _ _)
  · refine wp_append_own w s x 22 ho base 3 i0 (.int .i64 0) 1 8 Try.underlying22 hi0 hz0 hz1 hz2 rfl (by decide) v xs.length (xs.map (Value.int .i64)) hs hown
      ⟨g, 0, none⟩ ys.length cap (ys.map (Value.int .i64)) hx (by simp) (hy.cells rfl) (ones_int _) (by unfold maxLen; omega) (by omega) hbase (fun v' w' h1 h2 _ => ?_)
    obtain ⟨ad, n, c, rfl⟩ := own_form h1
    exact h ad n c w' (by simpa [RowI] using h1) h2
end Go.Proofs.Ytfhljkjcjnfjfaa
end
section
/- Chapter 4, the reference: VarsIn. -/
namespace Go.Proofs.Ytfhljkjcjnfjfaa
open Go.RowKit

theorem varsTo_congr {f g : Nat → Bool} (n : Nat) (h : ∀ j, j < n → f j = g j) : varsTo f n = varsTo g n := by
  unfold varsTo
  refine List.filter_congr fun j hj => h j (by simpa using hj)
theorem varsTo_mem {f : Nat → Bool} {n j : Nat} : j ∈ varsTo f n ↔ j < n ∧ f j = true := by simp [varsTo]
theorem mk_app (a b : List Int) (j : Nat) : mk (a ++ b) j = (mk a j || mk b j) := by
  unfold mk; rw [Bool.eq_iff_iff]; simp
/-- The numbers of two terms' variables. -/
def two12 (xl xr : List Int) : List Nat := varsTo (mk xl) 12 ++ varsTo (mk xr) 12
theorem two12_lt {xl xr : List Int} : ∀ m ∈ two12 xl xr, m < 12 := by
  intro m hm
  unfold two12 at hm
  rcases List.mem_append.1 hm with h | h <;> exact (varsTo_mem.1 h).1
theorem two12_len (xl xr : List Int) : (two12 xl xr).length ≤ 24 := by
  have h1 := varsTo_len (mk xl) 12
  have h2 := varsTo_len (mk xr) 12
  unfold two12; simp; omega
theorem two12_nats (xl xr : List Int) : natsI (varsTo (mk xl) 12) ++ natsI (varsTo (mk xr) 12) = natsI (two12 xl xr) := by simp [two12, natsI]
theorem two12_mem {A xl xr : List Int} {F G : Nat → Bool} (hF : ∀ j, j < 12 → F j = mk A j) (hG : ∀ j, j < 12 → G j = (F j || decide (j ∈ two12 xl xr))) : ∀ j, j < 12 → G j = mk (A ++ xl ++ xr) j := by
  intro j hj
  rw [hG j hj, hF j hj, mk_app, mk_app, Bool.or_assoc]
  congr 1
  rw [Bool.eq_iff_iff]
  simp [two12, varsTo_mem, hj]
theorem put_take {N : List Nat} {i : Nat} (hi : i < N.length) {F F0 : Nat → Bool} (h : ∀ j, j < 12 → F j = (F0 j || decide (j ∈ N.take i))) : ∀ j, j < 12 → setF F (N.getD i 0) j = (F0 j || decide (j ∈ N.take (i+1))) := by
  intro j hj
  have e : N.take (i+1) = N.take i ++ [N.getD i 0] := by rw [List.take_succ_eq_append_getElem hi]; simp [List.getD, hi]
  rw [e]
  unfold setF
  by_cases hq : j = N.getD i 0
  · rw [if_pos hq]; simp [hq]
  · rw [if_neg hq, h j hj]; simp [List.mem_append]; simp [List.getD] at hq; simp [hq]

set_option maxRecDepth 100000 in
set_option maxHeartbeats 1000000 in
theorem l4Vars_c (l h : Nat) (v : Value) (c : List Lt) (w : World) (hx : shortC c) (hlow : ∀ t ∈ flatC c, ∀ k, k < t.length → -12 ≤ t.getD k 0) (hv : SlC l h w v c) :
    Calls Try.prog 69 #[v] w (RetI w (natsI (varsTo (mk (flatC c).flatten) 12))) := by
  obtain ⟨ad, cap, rfl⟩ := hv.form
  obtain ⟨hxl, hxj⟩ := hx
  go_enter Try.func69, Try.ntmps69
  go_wp2_with fail
  go_loopw [3, 10] (fun o i wr => ∃ (k : Nat) (F : Nat → Bool), k ≤ c.length ∧ i = .int .i64 k ∧ RowI w.heap.size wr o (natsI (varsTo F 12)) ∧ (varsTo F 12 = [] → o = .slice none 0 0) ∧ (∀ j, j < 12 → F j = mk (flatC (c.take k)).flatten j) ∧ Bel w wr) (fun _ i _ => c.length - (intOf i).toNat)
  case atStart =>
    have e : varsTo (fun _ => false) 12 = [] := rfl
    exact ⟨0, fun _ => false, Nat.zero_le _, rfl, by rw [e]; exact World.ownsRow_nil _ _ _ _, fun _ => rfl, fun j _ => by simp [mk, flatC], Bel.rfl' _⟩
  case round =>
    obtain ⟨k, F, hk, rfl, hrow, hnil, hF, hb⟩ := hrel
    by_cases hlt : k < c.length
    · obtain ⟨b, off, u1, u2, rfl, hbs, c1, c2, c3, s1, s2⟩ := hv.at hb k hlt
      obtain ⟨hm1, hm2⟩ := hxj k hlt
      have HFT : Hid ((flatC (c.take (k+1))).flatten = (flatC (c.take k)).flatten ++ (c.getD k lt0).2.1 ++ (c.getD k lt0).2.2) := by show _ = _; rw [flatC_take c k hlt]; simp
      have hlo1 := hlow _ (show (c.getD k lt0).2.1 ∈ flatC c from List.mem_flatMap.2 ⟨_, mem_getD c lt0 k hlt, by simp⟩)
      have hlo2 := hlow _ (show (c.getD k lt0).2.2 ∈ flatC c from List.mem_flatMap.2 ⟨_, mem_getD c lt0 k hlt, by simp⟩)
      have hin1 : (k : Int) < c.length := by omega
      generalize c.getD k lt0 = x at *
      obtain ⟨p, xl, xr⟩ := x
      simp only at *
      obtain ⟨a1, d1, rfl⟩ := s1.form
      obtain ⟨a2, d2, rfl⟩ := s2.form
      have HL := Lib.hid (fun (w' : World) (hq : Bel wr w') => l1Vars_r l h _ xl w' (by omega) hlo1 (s1.below hq))
      have HR := Lib.hid (fun (w' : World) (hq : Bel wr w') => l1Vars_r l h _ xr w' (by omega) hlo2 (s2.below hq))
      have hvl1 : (natsI (varsTo (mk xl) 12)).length ≤ 12 := by rw [natsI_len]; exact varsTo_len _ _
      have hvl2 : (natsI (varsTo (mk xr) 12)).length ≤ 12 := by rw [natsI_len]; exact varsTo_len _ _
      have HT := Lib.hid (two12_nats xl xr)
      have HTL := Lib.hid (two12_lt (xl := xl) (xr := xr))
      have htl := two12_len xl xr
      have HM := Lib.hid (fun G => two12_mem (A := (flatC (c.take k)).flatten) (xl := xl) (xr := xr) (F := F) (G := G) hF)
      have HROW := Lib.hid hrow
      have HNIL := Lib.hid hnil
      generalize hA1 : natsI (varsTo (mk xl) 12) = A1 at *
      generalize hA2 : natsI (varsTo (mk xr) 12) = A2 at *
      generalize hN : two12 xl xr = N at *
      clear hv s1 s2 hlow hlo1 hlo2 hF hA1 hA2 hN hrow hnil hxj
      have HB0 : Bel wr (wr.alloc (.cells #[.bool p, .slice a1 xl.length d1, .slice a2 xr.length d2] 95)).drew := (Bel.alloc0 _ _).drew
      have HZ0 : wr.heap.size + 1 ≤ (wr.alloc (.cells #[.bool p, .slice a1 xl.length d1, .slice a2 xr.length d2] 95)).drew.heap.size := by simp [World.drew]
      have k1 : (wr.alloc (.cells #[.bool p, .slice a1 xl.length d1, .slice a2 xr.length d2] 95)).drew.cell? ⟨wr.heap.size, 1, none⟩ = some (.slice a1 xl.length d1) := boxc ((Bel.rfl' _).drew) 1 _ rfl
      have k2 : (wr.alloc (.cells #[.bool p, .slice a1 xl.length d1, .slice a2 xr.length d2] 95)).drew.cell? ⟨wr.heap.size, 2, none⟩ = some (.slice a2 xr.length d2) := boxc ((Bel.rfl' _).drew) 2 _ rfl
      go_wp2_with fail
      go_region_held_law (fun w' => w'.cell? ⟨wr.heap.size, 1, none⟩ = some (.slice a1 xl.length d1) ∧ w'.cell? ⟨wr.heap.size, 2, none⟩ = some (.slice a2 xr.length d2))
        (first | exact ⟨k15, k25⟩ | exact ⟨k14, k24⟩ | exact ⟨k13, k23⟩ | exact ⟨k1, k2⟩ | fail)
        (first
          | (refine step_append_row ?a1 (.tmp 16) (.tmp 19) 20 ?a6 ?a2 (wr.heap.size + 1) (wr.heap.size + 1) _ _ A1 A2 ?a3 R1 ?a4 R2 (by omega) HZ4 ?a5; (case a1 => rfl); (case a6 => rfl); (case a2 => rfl); (case a3 => first | rfl | (simp [Act.eval, Act.put]; done)); (case a4 => first | rfl | (simp [Act.eval, Act.put]; done)); intro a5 n5 c5 w5 R5 hg5; have HB5 := HB4.grown hg5 (fun q hq => Nat.le_of_succ_le (own_base R1 q hq)); have k15 := hg5.cell k14 (fun e => Nat.lt_irrefl _ (own_base R1 _ e.symm)); have k25 := hg5.cell k24 (fun e => Nat.lt_irrefl _ (own_base R1 _ e.symm)))
          | (go_at_call 117; refine (HR.out _ HB3).mono ?_; rintro e w4 ⟨p2, m2, q2, rfl, r2, g4⟩; have HB4 := HB3.step g4; have HZ4 := Nat.le_trans HZ3 g4.size; have R1 : RowI (wr.heap.size + 1) w4 _ A1 := RowI.mono (ownsRow_bel r1 g4) HZ0; have R2 : RowI (wr.heap.size + 1) w4 _ A2 := RowI.mono r2 HZ3; have k14 := g4.at (World.block_lt_of_cell? _ ⟨_, _, none⟩ k13) k13; have k24 := g4.at (World.block_lt_of_cell? _ ⟨_, _, none⟩ k23) k23)
          | (go_at_call 117; refine (HL.out _ HB3).mono ?_; rintro e w4 ⟨p1, m1, q1, rfl, r1, g4⟩; have HB4 := HB3.step g4; have HZ4 := Nat.le_trans HZ3 g4.size; have R2 : RowI (wr.heap.size + 1) w4 _ A2 := RowI.mono (ownsRow_bel r2 g4) HZ0; have R1 : RowI (wr.heap.size + 1) w4 _ A1 := RowI.mono r1 HZ3; have k14 := g4.at (World.block_lt_of_cell? _ ⟨_, _, none⟩ k13) k13; have k24 := g4.at (World.block_lt_of_cell? _ ⟨_, _, none⟩ k23) k23)
          | (go_at_call 117; refine (HL.out _ HB0).mono ?_; rintro e w3 ⟨p1, m1, q1, rfl, r1, g3⟩; have HB3 := HB0.step g3; have HZ3 := Nat.le_trans HZ0 g3.size; have k13 := g3.at (World.block_lt_of_cell? _ ⟨_, _, none⟩ k1) k1; have k23 := g3.at (World.block_lt_of_cell? _ ⟨_, _, none⟩ k2) k2)
          | (go_at_call 117; refine (HR.out _ HB0).mono ?_; rintro e w3 ⟨p2, m2, q2, rfl, r2, g3⟩; have HB3 := HB0.step g3; have HZ3 := Nat.le_trans HZ0 g3.size; have k13 := g3.at (World.block_lt_of_cell? _ ⟨_, _, none⟩ k1) k1; have k23 := g3.at (World.block_lt_of_cell? _ ⟨_, _, none⟩ k2) k2)
          | fail)
      all_goals
        have hm5 := row_len R5
        subst hm5
        have hsl5 := (OwnI.of_row R5).sl
        have hal : (A1 ++ A2).length = N.length := by rw [HT.out, natsI_len]
        have HSL : Hid (SlI (wr.heap.size + 1) w5.heap.size w5 (.slice a5 (A1 ++ A2).length c5) (natsI N)) := by show SlI _ _ _ _ _; rw [← HT.out]; exact hsl5
        have hO5 : Hid (RowI w.heap.size w5 u3 (natsI (varsTo F 12))) := by show RowI _ _ _ _; exact ownsRow_bel HROW.out HB5
        have HNIL2 := Lib.hid HNIL.out
        have hB5 := hb.step HB5
        clear r1 r2 R1 R2 R5 hg5 hsl5 k1 k2 k13 k23 k14 k24 k15 k25 g3 g4 HT HB4 HB3 HB0 HZ0 HZ3 HZ4 HL HR c1 c2 c3
        rw [hal] at *
        go_wp2_with fail
        go_loopw [3, 22] (fun o i w6 => ∃ (q : Nat) (G : Nat → Bool), q ≤ N.length ∧ i = .int .i64 q ∧ RowI w.heap.size w6 o (natsI (varsTo G 12)) ∧ (varsTo G 12 = [] → o = .slice none 0 0) ∧ (∀ j, j < 12 → G j = (F j || decide (j ∈ N.take q))) ∧ Bel w5 w6) (fun _ i _ => N.length - (intOf i).toNat)
        case atStart => exact ⟨0, F, Nat.zero_le _, rfl, hO5.out, HNIL2.out, fun j _ => by simp, Bel.rfl' _⟩
        case round =>
          obtain ⟨q, G, hq, rfl, hrG, hnG, hG, hb6⟩ := hrel
          by_cases hlq : q < N.length
          · obtain ⟨ad5, cap5, e5, _, _, hr5⟩ := HSL.out
            simp only [Value.slice.injEq] at e5
            obtain ⟨rfl, -, rfl⟩ := e5
            obtain ⟨b5, o5, rfl, -, hcell⟩ := rd hr5 hb6 q (by rw [natsI_len]; exact hlq)
            rw [nget _ _ hlq] at hcell
            have hm12 := HTL.out _ (mem_getD N 0 q hlq)
            have HP := Lib.hid (put_take hlq hG)
            have hq1 : (q : Int) < N.length := by omega
            have hps := put_some G (N.getD q 0) hm12
            clear hr5 hG HSL
            generalize N.getD q 0 = m at *
            cases hl : varsTo G 12 with
            | nil =>
              have ho := hnG hl
              have E4 := Lib.hid (put_empty hm12 hl)
              have HPS := Lib.hid hps
              subst ho
              clear hrG hnG hl hps
              go_wp2_with fail
              refine (l1Put_nz _ m _ rfl).mono ?_; rintro e w7 ⟨a7, n7, c7, rfl, ho7, hb7⟩
              go_wp2_with fail
              go_roundw
              case rel => exact ⟨q+1, setF G m, by omega, by go_num, by rw [E4.out]; exact RowI.mono ho7 (hB5.step hb6).size, fun h => by have := HPS.out; rw [h] at this; simp at this, HP.out, hb6.step hb7⟩
              case measure => simp [intOf]; omega
            | cons y ys =>
              have hpos : 0 < (varsTo G 12).length := by rw [hl]; simp
              have HPS := Lib.hid hps
              have HO := Lib.hid hrG
              clear hrG hnG hl hps
              go_wp2_with fail
              refine (l1Put_q _ w.heap.size _ G m _ rfl hm12 (hB5.step hb6).size hpos HO.out).mono ?_; rintro e w7 ⟨a7, n7, c7, rfl, ho7, hb7⟩
              go_wp2_with fail
              go_roundw
              case rel => exact ⟨q+1, setF G m, by omega, by go_num, ho7, fun h => by have := HPS.out; rw [h] at this; simp at this, HP.out, hb6.step hb7⟩
              case measure => simp [intOf]; omega
          · rw [List.take_of_length_le (by omega)] at hG
            have hGG := HM.out G hG
            rw [← HFT.out] at hGG
            have HGG := Lib.hid hGG
            have HO := Lib.hid hrG
            have HNG := Lib.hid hnG
            clear hG hGG hrG hnG HSL
            have hq1 : ¬ (q : Int) < N.length := by omega
            go_wp2_with fail
            go_roundw
            case rel => exact ⟨k+1, G, by omega, by go_num, HO.out, HNG.out, HGG.out, hB5.step hb6⟩
            case measure => simp [intOf]; omega
    · rw [List.take_of_length_le (by omega)] at hF
      obtain ⟨g, n, c2, hv'⟩ := own_form hrow
      subst hv'
      have E := Lib.hid (varsTo_congr 12 hF)
      have HO := Lib.hid hrow
      clear hrow hnil hF
      go_wp2_with fail
      go_ret
      exact ⟨_, _, _, rfl, by rw [← E.out]; exact OwnI.of_row HO.out, hb⟩
theorem flat_low1 {ar : List Int} {c : List Lt} (h : goodClause ar c = true) : ∀ t ∈ flatC c, ∀ k, k < t.length → -12 ≤ t.getD k 0 :=
  fun _ ht => low_memC fun _ hn => ok_low (flat_ok (goodClause_iff.1 h).2.2 ht) hn

set_option maxRecDepth 100000 in
set_option maxHeartbeats 400000 in
theorem sVarsIn_t {l h l' h' : Nat} {v u : Value} {ar : List Int} {c : List Lt} {w : World} (ha : ar.length ≤ 1048576) (hv : SlI l h w v ar) (hc : sumC c ≤ 1048576) (hu : SlC l' h' w u c) :
    Calls Try.prog 17 #[.agg #[v], u] w (RetIB w (varsInAns ar c) (goodClause ar c)) := by
  unfold varsInAns
  cases hg : goodClause ar c with
  | false =>
    rw [if_neg (by simp)]
    have HG := Lib.hid hg; clear hg
    go_enter Try.func17, Try.ntmps17
    go_wp2_with fail
    refine (sGoodClause_v HG.out ha (hv.alloc _) hc (hu.alloc _)).mono ?_; rintro e w1 ⟨rfl, hb1⟩
    go_wp2_with fail
    go_ret2
    exact ⟨_, _, _, rfl, OwnI.nil _ _ _, hb1.of_alloc⟩
  | true =>
    rw [if_pos rfl]
    have HC := Lib.hid (fun (w' : World) (hb : Bel w w') => l4Vars_c l' h' u c w' (shortC_of_sum hc) (flat_low1 hg) (hu.below hb))
    have HG := Lib.hid hg; clear hg
    go_enter Try.func17, Try.ntmps17
    go_wp2_with fail
    refine (sGoodClause_v HG.out ha (hv.alloc _) hc (hu.alloc _)).mono ?_; rintro e w1 ⟨rfl, hb1⟩
    clear hc
    go_wp2_with fail
    refine (HC.out _ hb1.of_alloc).mono ?_; rintro e w2 ⟨a2, n2, c2, rfl, ho2, hb2⟩
    go_wp2_with fail
    go_ret2
    exact ⟨_, _, _, rfl, ho2.mono hb1.of_alloc.size (Nat.le_refl _), hb1.of_alloc.step hb2⟩
end Go.Proofs.Ytfhljkjcjnfjfaa
end
section
/- Chapter 5, the reference: FalseAt. -/
namespace Go.Proofs.Ytfhljkjcjnfjfaa
open Go.RowKit

theorem make12 (w : World) : (Instr.makeSlice 22 (.int .i64 12) (.int .i64 12)).run Try.prog w = .ok (.slice (some ⟨w.heap.size, 0, none⟩) 12 12) (w.alloc (.cells #[.int .i64 0, .int .i64 0, .int .i64 0, .int .i64 0, .int .i64 0, .int .i64 0, .int .i64 0, .int .i64 0, .int .i64 0, .int .i64 0, .int .i64 0, .int .i64 0] 3)) := by kernel_rfl
theorem zeros_own (w : World) : OwnI w.heap.size (w.heap.size + 1) (w.alloc (.cells #[.int .i64 0, .int .i64 0, .int .i64 0, .int .i64 0, .int .i64 0, .int .i64 0, .int .i64 0, .int .i64 0, .int .i64 0, .int .i64 0, .int .i64 0, .int .i64 0] 3)) (.slice (some ⟨w.heap.size, 0, none⟩) 12 12) zeros12 := by
  refine ⟨⟨_, 12, rfl, Nat.le_refl _, ⟨by decide, fun h => by simp at h⟩, fun _ => ⟨w.heap.size, 0, rfl, Nat.le_refl _, Nat.lt_succ_self _, fun j hj => ?_⟩⟩, fun b off n c hv hn j => ?_⟩
  · rw [Nat.zero_add, World.cell?_alloc_new w]
    have : j < 12 := hj
    unfold zeros12
    match j, this with
    | 0, _ | 1, _ | 2, _ | 3, _ | 4, _ | 5, _ | 6, _ | 7, _ | 8, _ | 9, _ | 10, _ | 11, _ => rfl
  · simp only [Value.slice.injEq, Option.some.injEq, Addr.mk.injEq] at hv
    obtain ⟨⟨rfl, rfl, -⟩, rfl, rfl⟩ := hv
    exact World.frozen?_alloc_at _ _ _ _ rfl

def RetFA (w : World) (R : Option (List Int)) (x : Ending) (w' : World) : Prop := RetIB w (R.getD []) R.isSome x w'
set_option maxRecDepth 100000 in
set_option maxHeartbeats 1000000 in
theorem l5FalseAt_c (l h : Nat) (v u vc : Value) (ar : List Int) (Z : Nat) (tb : List (List Int)) (c : List Lt) (w : World) (hg : goodSign ar = true) (hw : isWorld ar Z tb = true) (hok : okLits ar c = true) (hsh : shortC c) (hh : h ≤ w.heap.size)
    (hv : SlI l h w v ar) (hu : SlS l h w u tb) (hc : SlC l h w vc c) :
    Calls Try.prog 110 #[.agg #[v], .agg #[.int .i64 (Z : Int), u], vc] w (RetFA w (lwC ar Z tb c)) := by
  obtain ⟨i0, hi0, hz0, hz1, hz2⟩ := info_parts Try.info3
  have HB : Bel w ((w.alloc (.cells #[v] 30)).alloc (.cells #[.int .i64 (Z : Int), u] 46)) := Bel.alloc2 _ _ _
  have KX : Hid (∀ w', Bel ((w.alloc (.cells #[v] 30)).alloc (.cells #[.int .i64 (Z : Int), u] 46)) w' → w'.cell? ⟨w.heap.size, 0, none⟩ = some v ∧ w'.cell? ⟨w.heap.size + 1, 0, none⟩ = some (.int .i64 (Z : Int)) ∧ w'.cell? ⟨w.heap.size + 1, 1, none⟩ = some u) := fun w' hb =>
    ⟨hb.at (by simp; omega) (by simp [go_sem]), hb.at (by simp) (by simp [go_sem]), hb.at (by simp) (by simp [go_sem])⟩
  have hlow : ∀ t ∈ flatC c, ∀ k, k < t.length → -12 ≤ t.getD k 0 := fun t ht => low_memC (fun n hn => ok_low (flat_ok (okLits_iff.1 hok).2 ht) hn)
  have HV := Lib.hid (fun (w' : World) (hb : Bel w w') => l4Vars_c l h vc c w' hsh hlow (hc.below hb))
  have hmk := make12
  have hvr : ∀ x ∈ varsC c, x < 12 := fun x hx => by
    unfold varsC varsTo at hx
    rw [List.mem_filter, List.mem_range] at hx
    exact hx.1
  have hvl : (varsC c).length ≤ 12 := varsTo_len _ _
  obtain ⟨z1, z3, _⟩ := isWorld_iff.1 hw
  have hzo : okEnv Z zeros12 = true := zeros_ok (by omega)
  have HF := Lib.hid (fun (eb : Nat) (w' : World) (vv ve : Value) (a b : Nat) (he1 : h ≤ eb) (hb : Bel w w') (s1 : SlI a b w' vv (natsI (varsC c))) (s2 : OwnI eb (eb + 1) w' ve zeros12) (hd : b ≤ eb ∨ eb + 1 ≤ a) (hs : eb + 1 ≤ w'.heap.size) => l5False_c l h v u vc ar Z tb c eb (eb + 1) hg hw hok (.inl he1) (Nat.le_refl _) (varsC c) zeros12 w' vv ve a b hvr hvl hzo (hv.below hb) (hu.below hb) (hc.below hb) s1 s2 hd hs)
  have HF : Hid (∀ (eb : Nat) (w' : World) (vv ve : Value) (a b : Nat), h ≤ eb → Bel w w' → SlI a b w' vv (natsI (varsC c)) → OwnI eb (eb + 1) w' ve zeros12 → (b ≤ eb ∨ eb + 1 ≤ a) → eb + 1 ≤ w'.heap.size → Calls Try.prog 140 #[.agg #[v], .agg #[.int .i64 (Z : Int), u], vc, vv, ve] w' (RetFal eb (eb + 1) ve (varsC c) zeros12 Z w' (lwC ar Z tb c))) := HF
  clear hv hu hc hw hg hok hvr hvl hzo hlow hsh
  unfold RetFA
  generalize lwC ar Z tb c = R at *
  cases R with
  | none =>
    go_enter Try.func110, Try.ntmps110
    go_wp2_with fail
    go_region_held3 (fun w' => Bel w w' ∧ w'.cell? ⟨w.heap.size, 0, none⟩ = some v ∧ w'.cell? ⟨w.heap.size + 1, 0, none⟩ = some (.int .i64 (Z : Int)) ∧ w'.cell? ⟨w.heap.size + 1, 1, none⟩ = some u)
      (first | exact ⟨HB.drew, KX.out _ (Bel.drew0 _)⟩ | exact ⟨HB.drew.alloc _, KX.out _ ((Bel.drew0 _).alloc _)⟩ | exact ⟨HB.step B8, KX.out _ B8⟩ | exact ⟨(HB.step B8).alloc _, KX.out _ (B8.alloc _)⟩ | exact ⟨HB.step BL, KX.out _ BL⟩ | fail)
      (first
        | (go_at_call 140; have q8 := hb8; refine (HF.out w8.heap.size _ _ _ _ _ (Nat.le_trans hh (HB.step B8).size) ((HB.step B8).alloc _) (o8.sl.alloc _) (zeros_own w8) (.inl (Nat.le_refl _)) (by simp)).mono ?_; rintro e w9 ⟨a9, n9, c9, rfl, hg9, e9, o9, hf9, hk9⟩; have BL : Bel ((w.alloc (.cells #[v] 30)).alloc (.cells #[.int .i64 (Z : Int), u] 46)) w9 := hg9.bel (B8.alloc _) B8.size)
        | (go_at_call 140; have q8 := hb8a; refine (HF.out (w.heap.size + 1 + 1) _ _ _ _ _ (by omega) (HB.step B8) o8.sl (by have h9 := (zeros_own ((w.alloc (.cells #[v] 30)).alloc (.cells #[.int .i64 (Z : Int), u] 46)).drew).below hb8a; simpa using h9) (.inr (by simp)) (by have h9 := hb8a.size; simp at h9; omega)).mono ?_; rintro e w9 ⟨a9, n9, c9, rfl, hg9, e9, o9, hf9, hk9⟩; have BL : Bel ((w.alloc (.cells #[v] 30)).alloc (.cells #[.int .i64 (Z : Int), u] 46)) w9 := hg9.bel B8 (by simp))
        | (go_at_call 69; refine (HV.out _ HB.drew).mono ?_; rintro e w8 ⟨a8, n8, c8, rfl, o8, hb8⟩; have B8 := (Bel.drew0 _).step hb8)
        | (go_at_call 69; refine (HV.out _ (HB.drew.alloc _)).mono ?_; rintro e w8 ⟨a8, n8, c8, rfl, o8, hb8a⟩; have B8 := ((Bel.drew0 _).alloc _).step hb8a)
        | fail)
    all_goals
      go_wp2_with fail
      go_ret2
      exact ⟨_, _, _, rfl, OwnI.nil _ _ _, HB.step BL⟩
  | some r =>
    go_enter Try.func110, Try.ntmps110
    go_wp2_with fail
    go_region_held3 (fun w' => Bel w w' ∧ w'.cell? ⟨w.heap.size, 0, none⟩ = some v ∧ w'.cell? ⟨w.heap.size + 1, 0, none⟩ = some (.int .i64 (Z : Int)) ∧ w'.cell? ⟨w.heap.size + 1, 1, none⟩ = some u)
      (first | exact ⟨HB.drew, KX.out _ (Bel.drew0 _)⟩ | exact ⟨HB.drew.alloc _, KX.out _ ((Bel.drew0 _).alloc _)⟩ | exact ⟨HB.step B8, KX.out _ B8⟩ | exact ⟨(HB.step B8).alloc _, KX.out _ (B8.alloc _)⟩ | exact ⟨HB.step BL, KX.out _ BL⟩ | fail)
      (first
        | (go_at_call 140; have q8 := hb8; refine (HF.out w8.heap.size _ _ _ _ _ (Nat.le_trans hh (HB.step B8).size) ((HB.step B8).alloc _) (o8.sl.alloc _) (zeros_own w8) (.inl (Nat.le_refl _)) (by simp)).mono ?_; rintro e w9 ⟨a9, n9, c9, rfl, o9, hg9⟩; have BL : Bel ((w.alloc (.cells #[v] 30)).alloc (.cells #[.int .i64 (Z : Int), u] 46)) w9 := hg9.bel (B8.alloc _) B8.size)
        | (go_at_call 140; have q8 := hb8a; refine (HF.out (w.heap.size + 1 + 1) _ _ _ _ _ (by omega) (HB.step B8) o8.sl (by have h9 := (zeros_own ((w.alloc (.cells #[v] 30)).alloc (.cells #[.int .i64 (Z : Int), u] 46)).drew).below hb8a; simpa using h9) (.inr (by simp)) (by have h9 := hb8a.size; simp at h9; omega)).mono ?_; rintro e w9 ⟨a9, n9, c9, rfl, o9, hg9⟩; have BL : Bel ((w.alloc (.cells #[v] 30)).alloc (.cells #[.int .i64 (Z : Int), u] 46)) w9 := hg9.bel B8 (by simp))
        | (go_at_call 69; refine (HV.out _ HB.drew).mono ?_; rintro e w8 ⟨a8, n8, c8, rfl, o8, hb8⟩; have B8 := (Bel.drew0 _).step hb8)
        | (go_at_call 69; refine (HV.out _ (HB.drew.alloc _)).mono ?_; rintro e w8 ⟨a8, n8, c8, rfl, o8, hb8a⟩; have B8 := ((Bel.drew0 _).alloc _).step hb8a)
        | fail)
    all_goals
      go_wp2_with fail
      go_ret2
      exact ⟨_, _, _, rfl, o9.mono (Nat.le_trans (HB.step B8).size (by simp)) (Nat.le_refl _), HB.step BL⟩
end Go.Proofs.Ytfhljkjcjnfjfaa
end
section
/- Chapter 5, the reference: FalseAt. -/
namespace Go.Proofs.Ytfhljkjcjnfjfaa
open Go.RowKit

theorem SlS.in' {lo hi : Nat} {w : World} {v : Value} {xss : List (List Int)} (h : SlS lo hi w v xss) : SlS 0 w.heap.size w v xss := by
  obtain ⟨ad, cap, rfl, hc, hm, hr⟩ := h
  refine ⟨ad, cap, rfl, hc, hm, fun hp => ?_⟩
  obtain ⟨b, off, e, a1, a2, a3⟩ := hr hp
  refine ⟨b, off, e, Nat.zero_le _, ?_, fun j hj => ?_⟩
  · obtain ⟨u, h1, _⟩ := a3 0 hp; exact World.block_lt_of_cell? w ⟨b, off + 0, none⟩ h1
  · obtain ⟨u, h1, h2⟩ := a3 j hj; exact ⟨u, h1, h2.in'⟩
theorem SlC.in' {lo hi : Nat} {w : World} {v : Value} {c : List Lt} (h : SlC lo hi w v c) : SlC 0 w.heap.size w v c := by
  obtain ⟨ad, cap, rfl, hc, hm, hr⟩ := h
  refine ⟨ad, cap, rfl, hc, hm, fun hp => ?_⟩
  obtain ⟨b, off, e, a1, a2, a3⟩ := hr hp
  refine ⟨b, off, e, Nat.zero_le _, ?_, fun j hj => ?_⟩
  · obtain ⟨u1, u2, h1, _⟩ := a3 0 hp; exact World.block_lt_of_cell? w ⟨b, off + 0 * 3, none⟩ h1
  · obtain ⟨u1, u2, h1, h2, h3, h4, h5⟩ := a3 j hj; exact ⟨u1, u2, h1, h2, h3, h4.in', h5.in'⟩
theorem few_low {ar : List Int} {c : List Lt} (h : okLits ar c = true) : ∀ t ∈ flatC c, ∀ k, k < t.length → -12 ≤ t.getD k 0 := fun t ht => low_memC (fun n hn => ok_low (flat_ok (okLits_iff.1 h).2 ht) hn)
set_option maxRecDepth 100000 in
set_option maxHeartbeats 400000 in
theorem l5Few_c (l h : Nat) (v : Value) (ar : List Int) (c : List Lt) (w : World) (hok : okLits ar c = true) (hx : shortC c) (hv : SlC l h w v c) :
    Calls Try.prog 109 #[v] w (RetV w (.bool (fewC c))) := by
  have HV := Lib.hid (l4Vars_c l h v c w hx (few_low hok) hv)
  have hvl : (varsC c).length ≤ 12 := varsTo_len _ _
  have HV : Hid (Calls Try.prog 69 #[v] w (RetI w (natsI (varsC c)))) := HV
  unfold fewC
  have hnl := natsI_len (varsC c)
  generalize natsI (varsC c) = L at *
  rw [← hnl] at hvl ⊢
  clear hnl
  by_cases h6 : L.length ≤ 6
  · rw [decide_eq_true h6]
    go_enter Try.func109, Try.ntmps109
    go_wp2_with fail
    refine HV.out.mono ?_; rintro e w1 ⟨a1, n1, c1, rfl, o1, hb1⟩
    obtain ⟨a', c', e⟩ := o1.1.form
    simp only [Value.slice.injEq] at e
    obtain ⟨rfl, rfl, rfl⟩ := e
    go_wp2_with fail
    go_ret
    exact ⟨by simp; omega, hb1⟩
  · rw [decide_eq_false h6]
    go_enter Try.func109, Try.ntmps109
    go_wp2_with fail
    refine HV.out.mono ?_; rintro e w1 ⟨a1, n1, c1, rfl, o1, hb1⟩
    obtain ⟨a', c', e⟩ := o1.1.form
    simp only [Value.slice.injEq] at e
    obtain ⟨rfl, rfl, rfl⟩ := e
    go_wp2_with fail
    go_ret
    exact ⟨by simp; omega, hb1⟩
theorem l5Few_v (l h : Nat) (v : Value) (ar : List Int) (c : List Lt) (q : Bool) (w : World) (hq : fewC c = q) (hok : okLits ar c = true) (hx : shortC c) (hv : SlC l h w v c) :
    Calls Try.prog 109 #[v] w (RetV w (.bool q)) := by subst hq; exact l5Few_c l h v ar c w hok hx hv

set_option maxRecDepth 100000 in
set_option maxHeartbeats 1000000 in
theorem sFalseAt_t {l h l' h' l2 h2 : Nat} {v u vc : Value} {ar : List Int} {sz : Int} {tb : List (List Int)} {c : List Lt} {w : World} (ha : ar.length ≤ 1048576) (hv : SlI l h w v ar) (hx : short tb) (hu : SlS l' h' w u tb) (hcs : sumC c ≤ 1048576) (hc : SlC l2 h2 w vc c) :
    Calls Try.prog 54 #[.agg #[v], .agg #[.int .i64 sz, u], vc] w (RetIB w (falseAns ar sz tb c) (falseIs ar sz tb c)) := by
  replace hv := hv.in'
  replace hu := hu.in'
  replace hc := hc.in'
  unfold falseAns falseIs
  have HB : Bel w ((w.alloc (.cells #[v] 30)).alloc (.cells #[.int .i64 sz, u] 46)) := Bel.alloc2 _ _ _
  have HK : Hid (∀ w', Bel ((w.alloc (.cells #[v] 30)).alloc (.cells #[.int .i64 sz, u] 46)) w' → w'.cell? ⟨w.heap.size, 0, none⟩ = some v ∧ w'.cell? ⟨w.heap.size + 1, 0, none⟩ = some (.int .i64 sz) ∧ w'.cell? ⟨w.heap.size + 1, 1, none⟩ = some u) := fun w' hb =>
    ⟨hb.at (by simp; omega) (by simp [go_sem]), hb.at (by simp) (by simp [go_sem]), hb.at (by simp) (by simp [go_sem])⟩
  have EQ : falseOk ar sz tb c = (goodWorld ar sz tb && (okLits ar c && fewC c)) := rfl
  cases hg : goodWorld ar sz tb with
  | false =>
    rw [EQ, hg, Bool.false_and, if_neg (by simp), Bool.false_and]
    have HC := Lib.hid (fun (w' : World) (hb : Bel w w') => sGoodWorld_v hg ha (hv.below hb) hx (hu.below hb)); clear hg EQ
    go_enter Try.func54, Try.ntmps54
    go_wp2_with fail
    refine (HC.out _ HB).mono ?_; rintro e w1 ⟨rfl, hb1⟩
    go_wp2_with fail
    go_ret2
    exact ⟨_, _, _, rfl, OwnI.nil _ _ _, HB.step hb1⟩
  | true =>
    obtain ⟨hgs, hiw⟩ := goodWorld_iff.1 hg
    obtain ⟨z1, z3, _⟩ := isWorld_iff.1 hiw
    have HC := Lib.hid (fun (w' : World) (hb : Bel w w') => sGoodWorld_v hg ha (hv.below hb) hx (hu.below hb))
    cases hq : okLits ar c with
    | false =>
      rw [EQ, hg, hq, Bool.false_and, Bool.and_false, if_neg (by simp), Bool.false_and]
      have HT := Lib.hid (fun (w' : World) (hb : Bel w w') => l4Clause_w _ _ _ _ v vc ar c false w' hq hgs (shortC_of_sum hcs) (hv.below hb) (hc.below hb)); clear hq hg EQ
      go_enter Try.func54, Try.ntmps54
      go_wp2_with fail
      refine (HC.out _ HB).mono ?_; rintro e w1 ⟨rfl, hb1⟩
      obtain ⟨x0, x1, x2⟩ := HK.out _ hb1
      go_wp2_with fail
      refine (HT.out _ (HB.step hb1)).mono ?_; rintro e w2 ⟨rfl, hb2⟩
      go_wp2_with fail
      go_ret2
      exact ⟨_, _, _, rfl, OwnI.nil _ _ _, (HB.step hb1).step hb2⟩
    | true =>
      have HT := Lib.hid (fun (w' : World) (hb : Bel w w') => l4Clause_w _ _ _ _ v vc ar c true w' hq hgs (shortC_of_sum hcs) (hv.below hb) (hc.below hb))
      cases hp : fewC c with
      | false =>
        rw [EQ, hg, hq, hp, Bool.and_false, Bool.and_false, if_neg (by simp), Bool.false_and]
        have HE := Lib.hid (fun (w' : World) (hb : Bel w w') => l5Few_v _ _ vc ar c false w' hp hq (shortC_of_sum hcs) (hc.below hb)); clear hq hg hp EQ
        go_enter Try.func54, Try.ntmps54
        go_wp2_with fail
        refine (HC.out _ HB).mono ?_; rintro e w1 ⟨rfl, hb1⟩
        obtain ⟨x0, x1, x2⟩ := HK.out _ hb1
        go_wp2_with fail
        refine (HT.out _ (HB.step hb1)).mono ?_; rintro e w2 ⟨rfl, hb2⟩
        go_wp2_with fail
        refine (HE.out _ ((HB.step hb1).step hb2)).mono ?_; rintro e w3 ⟨rfl, hb3⟩
        go_wp2_with fail
        go_ret2
        exact ⟨_, _, _, rfl, OwnI.nil _ _ _, ((HB.step hb1).step hb2).step hb3⟩
      | true =>
        have hgk : (goodWorld ar sz tb && (okLits ar c && fewC c)) = true := by rw [hg, hq, hp]; rfl
        rw [EQ, hgk, if_pos rfl, Bool.true_and]
        obtain ⟨Z, rfl⟩ : ∃ Z : Nat, sz = (Z : Int) := ⟨sz.toNat, by omega⟩
        have HE := Lib.hid (fun (w' : World) (hb : Bel w w') => l5Few_v _ _ vc ar c true w' hp hq (shortC_of_sum hcs) (hc.below hb))
        have HV := Lib.hid (fun (w' : World) (hb : Bel w w') => l5FalseAt_c 0 w.heap.size v u vc ar Z tb c w' hgs hiw hq (shortC_of_sum hcs) hb.size (hv.below hb) (hu.below hb) (hc.below hb))
        clear hq hp hg EQ hgk
        generalize lwC ar Z tb c = R at *
        go_enter Try.func54, Try.ntmps54
        go_wp2_with fail
        refine (HC.out _ HB).mono ?_; rintro e w1 ⟨rfl, hb1⟩
        obtain ⟨x0, x1, x2⟩ := HK.out _ hb1
        go_wp2_with fail
        refine (HT.out _ (HB.step hb1)).mono ?_; rintro e w2 ⟨rfl, hb2⟩
        go_wp2_with fail
        refine (HE.out _ ((HB.step hb1).step hb2)).mono ?_; rintro e w3 ⟨rfl, hb3⟩
        obtain ⟨v0, v1, v2⟩ := HK.out _ ((hb1.step hb2).step hb3)
        go_wp2_with fail
        refine (HV.out _ (((HB.step hb1).step hb2).step hb3)).mono ?_; rintro e w4 ⟨a4, n4, c4, rfl, o4, hb4⟩
        go_wp2_with fail
        go_ret2
        exact ⟨_, _, _, rfl, o4.mono (((HB.step hb1).step hb2).step hb3).size (Nat.le_refl _), (((HB.step hb1).step hb2).step hb3).step hb4⟩
end Go.Proofs.Ytfhljkjcjnfjfaa
end
section
/- Chapter 5: a literal's truth hangs on its own variables; what a test remembers. No program. -/
namespace Go.Proofs.Ytfhljkjcjnfjfaa
open Go.RowKit

section
variable {ar : List Int} {sz : Int} {tb : List (List Int)}
theorem Ev.congr {env env' : List Int} {s : Option Nat} {y vs : List Int} (h : Ev ar sz tb env s y vs) (hq : ∀ n ∈ y, n < 0 → env.getD (-1 - n).toNat 0 = env'.getD (-1 - n).toNat 0) : Ev ar sz tb env' s y vs := by
  induction h with
  | var n h1 h2 => rw [hq n (by simp) h2]; exact Ev.var n h1 h2
  | node n ys vs h1 h2 _ ih => exact Ev.node n ys vs h1 h2 (ih fun m hm => hq m (List.mem_cons_of_mem _ hm))
  | nil => exact Ev.nil
  | cons m y ys v vs _ _ ih1 ih2 => exact Ev.cons m y ys v vs (ih1 fun k hk => hq k (List.mem_append_left _ hk)) (ih2 fun k hk => hq k (List.mem_append_right _ hk))
theorem evT_congr {env env' t : List Int} (ht : okTerm ar t = true) (hq : ∀ n ∈ t, n < 0 → env.getD (-1 - n).toNat 0 = env'.getD (-1 - n).toNat 0) : evT ar sz tb env t = evT ar sz tb env' t :=
  (ev_eq ht ((ev_whole ht).congr hq)).symm
end
theorem varsC_mem {c : List Lt} {x : Lt} (hx : x ∈ c) {n : Int} (hn : n ∈ x.2.1 ∨ n ∈ x.2.2) (h0 : n < 0) (h12 : -12 ≤ n) : (-1 - n).toNat ∈ varsC c := by
  unfold varsC varsTo
  rw [List.mem_filter, List.mem_range]
  refine ⟨by omega, ?_⟩
  unfold mk
  rw [decide_eq_true_eq, show (-1 - (((-1 - n).toNat : Nat) : Int)) = n by omega, List.mem_flatten]
  rcases hn with h | h
  · exact ⟨x.2.1, List.mem_flatMap.2 ⟨x, hx, by simp⟩, h⟩
  · exact ⟨x.2.2, List.mem_flatMap.2 ⟨x, hx, by simp⟩, h⟩
theorem litH_congr {ar : List Int} {sz : Int} {tb : List (List Int)} {x : Lt} {e e' : List Int} (o1 : okTerm ar x.2.1 = true) (o2 : okTerm ar x.2.2 = true) (h : ∀ v ∈ varsC [x], e.getD v 0 = e'.getD v 0) : litH ar sz tb e x = litH ar sz tb e' x := by
  unfold litH
  rw [evT_congr (env' := e') o1 (fun n hn h0 => h _ (varsC_mem (by simp) (.inl hn) h0 (ok_low o1 hn))), evT_congr (env' := e') o2 (fun n hn h0 => h _ (varsC_mem (by simp) (.inr hn) h0 (ok_low o2 hn)))]
/-- The index of an assignment among those of these variables. -/
def idxW (sz : Int) (vs : List Nat) (e : List Int) : Int := noOf sz (vs.map fun v => e.getD v 0)
theorem fold_inj {sz : Int} (hs : 1 ≤ sz) : ∀ (xs ys : List Int) (a b : Int), xs.length = ys.length → (∀ x ∈ xs, 0 ≤ x ∧ x ≤ sz - 1) → (∀ y ∈ ys, 0 ≤ y ∧ y ≤ sz - 1) → xs.foldl (fun no v => no * sz + v) a = ys.foldl (fun no v => no * sz + v) b → a = b ∧ xs = ys := by
  intro xs
  induction xs with
  | nil =>
    intro ys a b hl _ _ h
    obtain rfl : ys = [] := List.length_eq_zero_iff.1 hl.symm
    exact ⟨h, rfl⟩
  | cons x xs ih =>
    intro ys a b hl hx hy h
    match ys, hl with
    | y :: ys, hl =>
      obtain ⟨h1, h2⟩ := ih ys (a * sz + x) (b * sz + y) (by simpa using hl) (fun z hz => hx z (by simp [hz])) (fun z hz => hy z (by simp [hz])) h
      obtain ⟨x0, x1⟩ := hx x (by simp)
      obtain ⟨y0, y1⟩ := hy y (by simp)
      have e1 : (a * sz + x) % sz = x := by rw [Int.add_comm, Int.add_mul_emod_self_right]; exact Int.emod_eq_of_lt x0 (by omega)
      have e2 : (b * sz + y) % sz = y := by rw [Int.add_comm, Int.add_mul_emod_self_right]; exact Int.emod_eq_of_lt y0 (by omega)
      have hxy : x = y := by rw [← e1, ← e2, h1]
      subst hxy
      have h3 : a * sz = b * sz := by omega
      exact ⟨Int.eq_of_mul_eq_mul_right (by omega) h3, by rw [h2]⟩
theorem idx_inj {sz : Int} (hs : 1 ≤ sz) {vs : List Nat} {e e' : List Int} (hv : ∀ v ∈ vs, v < 12) (h : okEnv sz e = true) (h' : okEnv sz e' = true) (hi : idxW sz vs e = idxW sz vs e') : ∀ v ∈ vs, e.getD v 0 = e'.getD v 0 := by
  have hb : ∀ (f : List Int), okEnv sz f = true → ∀ x ∈ vs.map (fun v => f.getD v 0), 0 ≤ x ∧ x ≤ sz - 1 := fun f hf x hx => by
    obtain ⟨v, hv', rfl⟩ := List.mem_map.1 hx
    exact (okEnv_iff.1 hf).2 v (hv v hv')
  have := (fold_inj hs _ _ 0 0 (by simp) (hb e h) (hb e' h') hi).2
  intro v hm
  have h2 := List.map_inj_left.1 this v hm
  exact h2
theorem idx_bd {sz : Int} (hs : 1 ≤ sz) {vs : List Nat} {e : List Int} (hv : ∀ v ∈ vs, v < 12) (h : okEnv sz e = true) : 0 ≤ idxW sz vs e ∧ idxW sz vs e < ((sz.toNat ^ vs.length : Nat) : Int) := by
  have := noOf_bd hs (vs.map fun v => e.getD v 0) (fun x hx => by
    obtain ⟨v, hv', rfl⟩ := List.mem_map.1 hx
    exact (okEnv_iff.1 h).2 v (hv v hv'))
  unfold longW at this
  rw [List.length_map, Int.toNat_natCast] at this
  exact this
/-- What has been remembered is right. -/
def Known (ar : List Int) (sz : Int) (tb : List (List Int)) (x : Lt) (ks : List Int) : Prop :=
  ks.length = sz.toNat ^ (varsC [x]).length ∧ ∀ e, okEnv sz e = true → (ks.getD (idxW sz (varsC [x]) e).toNat 0 = 0 ∨ ks.getD (idxW sz (varsC [x]) e).toNat 0 = if litH ar sz tb e x then 2 else 1)
theorem Known.new (ar : List Int) (sz : Int) (tb : List (List Int)) (x : Lt) : Known ar sz tb x (List.replicate (sz.toNat ^ (varsC [x]).length) 0) := by
  refine ⟨by simp, fun e _ => .inl ?_⟩
  rw [List.getD_eq_getElem?_getD, List.getElem?_replicate]
  split <;> rfl
theorem varsC_lt {c : List Lt} : ∀ v ∈ varsC c, v < 12 := fun v hv => by
  unfold varsC varsTo at hv
  rw [List.mem_filter, List.mem_range] at hv
  exact hv.1
theorem Known.put {ar : List Int} {sz : Int} {tb : List (List Int)} {x : Lt} {ks : List Int} (h : Known ar sz tb x ks) (hs : 1 ≤ sz) (o1 : okTerm ar x.2.1 = true) (o2 : okTerm ar x.2.2 = true) {e : List Int} (he : okEnv sz e = true) (y : Int) (hy : y = if litH ar sz tb e x then 2 else 1) :
    Known ar sz tb x (ks.set (idxW sz (varsC [x]) e).toNat y) := by
  refine ⟨by simp [h.1], fun e' he' => ?_⟩
  rw [set_getD]
  by_cases hc : (idxW sz (varsC [x]) e).toNat = (idxW sz (varsC [x]) e').toNat ∧ (idxW sz (varsC [x]) e).toNat < ks.length
  · rw [if_pos hc]
    have h1 := idx_bd hs (varsC_lt (c := [x])) he
    have h2 := idx_bd hs (varsC_lt (c := [x])) he'
    have h3 := idx_inj hs (varsC_lt (c := [x])) he he' (by omega)
    refine .inr ?_
    rw [hy, litH_congr o1 o2 h3]
  · rw [if_neg hc]
    exact h.2 e' he'
end Go.Proofs.Ytfhljkjcjnfjfaa
end
section
/- Chapter 5, the program: the value of a term. -/
namespace Go.Proofs.Ytfhljkjcjnfjfaa
open Go.RowKit

theorem noOf_tk {sz : Int} (l : List Int) (k : Nat) (hk : k < l.length) : noOf sz (l.take (k+1)) = noOf sz (l.take k) * sz + l.getD k 0 := by
  rw [List.take_succ_eq_append_getElem hk, noOf_snoc]
  simp [List.getD, hk]
theorem stk_at {w : World} {B : Nat} {vs : List Int} (h : Stk w B vs) (q : Nat) (hq : q < vs.length) : w.cell? ⟨B, vs.length - (q + 1), none⟩ = some (.int .i64 (vs.getD q 0)) := by
  have := h.2.2 q hq
  rwa [show vs.length - 1 - q = vs.length - (q + 1) by omega] at this

set_option maxRecDepth 100000 in
set_option maxHeartbeats 2000000 in
theorem valueIn_c (l h l' h' l2 h2 l3 h3 : Nat) (v u vt ve : Value) (ar : List Int) (sz : Int) (tb : List (List Int)) (t env : List Int) (w : World) (hg : goodSign ar = true) (hw : isWorld ar sz tb = true) (he : okEnv sz env = true) (hok : okTerm ar t = true)
    (hv : SlI l h w v ar) (hu : SlS l' h' w u tb) (ht : SlI l2 h2 w vt t) (hve : SlI l3 h3 w ve env) :
    Calls Try.prog 93 #[.agg #[v], .agg #[.int .i64 sz, u], vt, ve] w (RetV w (.int .i64 (evT ar sz tb env t))) := by
  obtain ⟨w1, w2, w3, w4⟩ := isWorld_iff.1 hw
  obtain ⟨e1, e2⟩ := okEnv_iff.1 he
  have htl := ((okTerm_iff ar t).1 hok).2.1
  have ht1 := ((okTerm_iff ar t).1 hok).1
  have HM : Hid (∀ m : Nat, okSym ar (m : Int) = true → m < tb.length) := fun m hm => by have := okSym_lt hm; omega
  have HALL := Lib.hid (suf_all (sz := sz) (tb := tb) (env := env) hok)
  have HBD := Lib.hid (fun i hi => suf_bd (tb := tb) (env := env) hg hw he hok i hi)
  have HARG := Lib.hid (fun i hi hn => suf_args (sz := sz) (tb := tb) (env := env) hok i hi hn)
  have HLEN := Lib.hid (fun y => sufV_len (ar := ar) (sz := sz) (tb := tb) (env := env) y)
  have HSYM := Lib.hid (good_sym ar t hok)
  have HTB := Lib.hid w4
  clear w3 w4 hok hw he
  obtain ⟨av, cv, rfl, -, -, hrv⟩ := hv
  obtain ⟨at', ct, rfl, -, -, hrt⟩ := ht
  obtain ⟨ae, ce, rfl, -, -, hre⟩ := hve
  obtain ⟨au, cu, rfl⟩ := hu.form
  go_enter Try.func93, Try.ntmps93
  go_wp2_with fail
  obtain ⟨W, hW⟩ : ∃ W, W = (w.alloc (.cells #[.slice av ar.length cv] 30)).alloc (.cells #[.int .i64 sz, .slice au tb.length cu] 46) := ⟨_, rfl⟩
  have hB : Bel w W := by rw [hW]; exact Bel.alloc2 _ _ _
  have zW : W.heap.size = w.heap.size + 1 + 1 := by rw [hW]; simp
  have k0 : W.cell? ⟨w.heap.size, 0, none⟩ = some (.slice av ar.length cv) := by rw [hW]; simp [go_sem]
  have k1 : W.cell? ⟨w.heap.size + 1, 0, none⟩ = some (.int .i64 sz) := by rw [hW]; simp [go_sem]
  have k2 : W.cell? ⟨w.heap.size + 1, 1, none⟩ = some (.slice au tb.length cu) := by rw [hW]; simp [go_sem]
  rw [← hW, ← zW]
  replace zW : w.heap.size + 1 < W.heap.size := by omega
  clear hW
  go_loopw [10, 11] (fun top i wr => ∃ k : Nat, k ≤ t.length ∧ i = .int .i64 ((k : Int) - 1) ∧ top = .int .i64 (((sufV ar sz tb env (t.drop k)).length : Nat) : Int) ∧ Stk wr W.heap.size (sufV ar sz tb env (t.drop k)) ∧ Bel W wr) (fun _ i _ => (intOf i + 1).toNat)
  case atStart =>
    refine ⟨t.length, Nat.le_refl _, rfl, ?_, ?_, Bel.alloc0 _ _⟩
    · rw [List.drop_length]; rfl
    · rw [List.drop_length]; exact Stk.new W _ _ rfl
  case round =>
    obtain ⟨k, hk, rfl, rfl, hst, hb⟩ := hrel
    have q0 := hb.at (by omega) k0
    have q1 := hb.at (by omega) k1
    have q2 := hb.at (by omega) k2
    cases k with
    | zero =>
      rw [List.drop_zero, HALL.out] at hst
      have hc0 : wr.cell? ⟨W.heap.size, 0, none⟩ = some (.int .i64 (evT ar sz tb env t)) := hst.2.2 0 (by simp)
      have hz : decide (((0 : Nat) : Int) - 1 ≥ 0) = false := by simp
      clear hst HALL HBD HARG
      go_wp2_with fail
      go_ret
      exact ⟨rfl, hB.step hb⟩
    | succ k =>
      rw [show ((k + 1 : Nat) : Int) - 1 = (k : Int) from by omega]
      obtain ⟨bt, offt, rfl, hbtl, hct⟩ := rd hrt (hB.step hb) k (by omega)
      have hsym := HSYM.out k (by omega)
      have hvl := HLEN.out (t.drop (k+1))
      rw [List.length_drop] at hvl
      have hbd := Lib.hid (HBD.out (k+1) (by omega))
      have harg := Lib.hid (HARG.out k (by omega))
      have hdrop : Hid (sufV ar sz tb env (t.drop k) = sufV ar sz tb env (t.getD k 0 :: t.drop (k+1))) := by show _ = _; rw [drop_cons t k (by omega)]
      have hkt : (k : Int) < t.length := by omega
      by_cases hneg : t.getD k 0 < 0
      · have E := Lib.hid (hdrop.out.trans (sufV_neg hneg))
        obtain ⟨j, hj⟩ : ∃ j : Nat, t.getD k 0 = -1 - (j : Int) := ⟨(-1 - t.getD k 0).toNat, by omega⟩
        have hj12 : j < 12 := by rw [hj] at hsym; unfold okSym inB at hsym; simp at hsym; omega
        rw [hj] at hct E
        obtain ⟨be, offe, rfl, hbel, hce⟩ := rd hre (hB.step hb) j (by omega)
        have hw1 := IntWalk.i64_in (-1 - (-1 - (j : Int))) (by omega)
        have hjj : -1 - (-1 - (j : Int)) = (j : Int) := by omega
        rw [hjj] at hw1
        have hjE : (-1 - (-1 - (j : Int))).toNat = j := by omega
        rw [hjE] at E
        have hneg2 : decide ((-1 - (j : Int)) < 0) = true := by simp; omega
        have hjl : (j : Int) < 12 := by omega
        clear harg hbd hdrop hneg hj hsym hjE hrt hre HALL HBD HARG HLEN HSYM HTB
        generalize env.getD j 0 = val at *
        generalize sufV ar sz tb env (t.drop (k+1)) = vs at *
        have hst2 := Lib.hid (hst.push val (by omega))
        obtain ⟨x, hcx, hfx⟩ := hst.2.1 vs.length (by omega)
        have hl40 : ((vs.length : Nat) : Int) < 40 := by omega
        have hbs := Lib.hid (hb.set (p := ⟨W.heap.size, vs.length, none⟩) (Nat.le_refl _) (.int .i64 val))
        clear hst hvl
        go_wp2_with fail
        go_roundw
        case rel => exact ⟨k, by omega, by go_num, by rw [E.out]; simp, by rw [E.out]; exact hst2.out, hbs.out⟩
        case measure => simp [intOf]
      · have E := Lib.hid (hdrop.out.trans (sufV_sym hneg))
        have hal := harg.out (by omega)
        obtain ⟨m, hm⟩ : ∃ m : Nat, t.getD k 0 = (m : Int) := ⟨(t.getD k 0).toNat, by omega⟩
        rw [hm] at hct E hal hsym
        have hma := okSym_lt hsym
        have hmt := HM.out m hsym
        obtain ⟨ba, offa, rfl, hbal, hca⟩ := rd hrv (hB.step hb) m hma
        have h03 := ar_nonneg ar hg m
        obtain ⟨A, hA⟩ : ∃ A : Nat, ar.getD m 0 = (A : Int) := ⟨(ar.getD m 0).toNat, by omega⟩
        have hTT := HTB.out m hmt
        have hAA : arOf ar (m : Int) = A := by rw [arOf_nat, hA]; simp
        rw [hAA] at E hal
        rw [hA] at hca h03 hTT
        have hA3 : A ≤ 3 := by omega
        have hneg2 : decide ((m : Int) < 0) = false := by simp
        have hmal : (m : Int) < ar.length := by omega
        have hmtl : (m : Int) < tb.length := by omega
        unfold entry at E
        rw [Int.toNat_natCast] at E
        obtain ⟨bb, off, u1, rfl, hbs, c1, s1⟩ := hu.at (hB.step hb) m hmt
        obtain ⟨x1, x2, rfl, -, -, hrx⟩ := s1
        clear harg hdrop hneg hm hsym hA hAA hrt hre hrv HALL HBD HARG HLEN HSYM HTB HM
        generalize sufV ar sz tb env (t.drop (k+1)) = vs at *
        have HNO : Hid (∀ q, q ≤ A → 0 ≤ noOf sz (vs.take q) ∧ noOf sz (vs.take q) ≤ 26) := fun q hq => noOf_le w1 w2 _ (fun x hx => hbd.out x (List.mem_of_mem_take hx)) (by rw [List.length_take]; omega)
        have HNL : Hid (noOf sz (vs.take A) < ((tb.getD m []).length : Nat)) := by
          show _ < _
          have := noOf_bd w1 (vs.take A) (fun x hx => hbd.out x (List.mem_of_mem_take hx))
          rw [hTT.1]
          rw [List.length_take, show min A vs.length = A by omega] at this
          exact this.2
        have HVB : Hid (∀ q, q < vs.length → 0 ≤ vs.getD q 0 ∧ vs.getD q 0 ≤ sz - 1) := fun q hq => hbd.out _ (mem_gd vs 0 q hq)
        have hvl40 : vs.length < 40 := by omega
        clear hTT hbd hvl
        go_wp2_with fail
        obtain ⟨wo, hwo⟩ : ∃ wo, wo = wr := ⟨_, rfl⟩
        subst hwo
        have zB : W.heap.size < wo.heap.size := hst.1
        go_loopw [10, 13, 41] (fun top no j w2' => ∃ q : Nat, q ≤ A ∧ j = .int .i64 q ∧ no = .int .i64 (noOf sz (vs.take q)) ∧ top = .int .i64 ((vs.length - q : Nat) : Int) ∧ Bel wo w2') (fun _ _ j _ => A - (intOf j).toNat)
        case atStart => exact ⟨0, Nat.zero_le _, rfl, by simp [noOf], rfl, Bel.rfl' _⟩
        case round =>
          obtain ⟨q, hq, rfl, rfl, rfl, hbq⟩ := hrel
          have hn0 := HNO.out q hq
          by_cases hqA : q < A
          · have hv0 := HVB.out q (by omega)
            have hs1 := hbq.at zB (stk_at hst q (by omega))
            have HS := Lib.hid (noOf_tk (sz := sz) vs q (by omega))
            have r1 := hbq.at (by omega) q1
            have hsub : ((vs.length - q : Nat) : Int) - 1 = ((vs.length - (q + 1) : Nat) : Int) := by omega
            have hs40 : ((vs.length - (q + 1) : Nat) : Int) < 40 := by omega
            have hs41 : ((vs.length - q : Nat) : Int) ≤ 40 := by omega
            have hs42 : (1 : Int) ≤ ((vs.length - q : Nat) : Int) := by omega
            have hmul : noOf sz (vs.take q) * sz ≤ noOf sz (vs.take q) * 3 := Int.mul_le_mul_of_nonneg_left w2 hn0.1
            have hmul0 := Int.mul_nonneg hn0.1 (show 0 ≤ sz by omega)
            generalize vs.getD q 0 = x at *
            generalize noOf sz (vs.take q) = no at *
            have i1 := IntWalk.i64_in (no * sz) (by omega)
            have i2 := IntWalk.i64_in (no * sz + x) (by omega)
            have i3 := IntWalk.i64_in (((vs.length - q : Nat) : Int) - 1) (by omega)
            rw [hsub] at i3
            have HSUB := Lib.hid hsub
            have hsz := Lib.hid hst
            clear hmul hmul0 HNO HNL HVB hst hrx hsub
            generalize hP : vs.length - (q + 1) = P at *
            generalize hQ : vs.length - q = Q at *
            have HP := Lib.hid hP
            have hPQ : (Q : Int) - 1 = (P : Int) := HSUB.out
            clear hP hQ
            go_wp2_with fail
            go_region_held3 (fun w' => Bel wr w' ∧ w'.cell? ⟨w.heap.size + 1, 0, none⟩ = some (.int .i64 sz) ∧ w'.cell? ⟨W.heap.size, P, none⟩ = some (.int .i64 x))
              (first | exact ⟨Bel.drew0 _, r1, hs1⟩ | fail)
              (first | fail)
            go_wp2_with fail
            go_roundw
            case rel => exact ⟨q+1, by omega, by go_num, by rw [HS.out], by rw [HP.out], hbq.step (Bel.drew0 _)⟩
            case measure => simp [intOf]; omega
          · obtain rfl : q = A := by omega
            obtain ⟨N, hN⟩ : ∃ N : Nat, noOf sz (vs.take q) = (N : Int) := ⟨(noOf sz (vs.take q)).toNat, by omega⟩
            have hnl := HNL.out
            rw [hN] at hnl hn0 E ⊢
            rw [Int.toNat_natCast] at E
            have hNL : N < (tb.getD m []).length := by omega
            obtain ⟨bx, ofx, rfl, hxl, hcx⟩ := rd hrx hbq N hNL
            have r2 := hbq.at (by omega) q2
            have c2 := hbq.at (World.block_lt_of_cell? _ ⟨_, _, none⟩ c1) c1
            have hst2 := (hst.below hbq).drop q hal
            have hdl : (vs.drop q).length = vs.length - q := List.length_drop
            obtain ⟨y, hcy, hfy⟩ := hst2.2.1 (vs.length - q) (by omega)
            have hl40 : ((vs.length - q : Nat) : Int) < 40 := by omega
            generalize (tb.getD m []).getD N 0 = val at *
            have hst3 := Lib.hid (hst2.push val (by omega))
            have hbs2 := Lib.hid ((hb.step hbq).set (p := ⟨W.heap.size, vs.length - q, none⟩) (Nat.le_refl _) (.int .i64 val))
            have HDL := Lib.hid hdl
            clear HNO HNL HVB hst hst2 hrx hN hnl hdl
            generalize (tb.getD m []).length = xl at *
            generalize hQ : vs.length - q = Q at *
            clear hQ
            go_wp2_with fail
            go_roundw
            case rel => exact ⟨k, by omega, by go_num, by rw [E.out, List.length_cons, HDL.out]; simp, by have h9 := hst3.out; rw [HDL.out] at h9; rw [E.out]; exact h9, hbs2.out⟩
            case measure => simp [intOf]
end Go.Proofs.Ytfhljkjcjnfjfaa
end
section
/- Chapter 5, the program: tables and their elements, GoodWorld. -/
namespace Go.Proofs.Ytfhljkjcjnfjfaa
open Go.RowKit

set_option maxRecDepth 100000 in
set_option maxHeartbeats 400000 in
theorem tableLength_c (Z A : Nat) (w : World) (h2 : Z ≤ 3) (h3 : A ≤ 3) :
    Calls Try.prog 79 #[.int .i64 (A : Int), .int .i64 (Z : Int)] w (RetV w (.int .i64 ((Z ^ A : Nat) : Int))) := by
  go_enter Try.func79, Try.ntmps79
  go_wp2_with fail
  go_loop [5, 7] (fun n a => ∃ k : Nat, k ≤ A ∧ a = .int .i64 k ∧ n = .int .i64 ((Z ^ k : Nat) : Int)) (fun _ a => A - (intOf a).toNat)
  case atStart => exact ⟨0, Nat.zero_le _, rfl, rfl⟩
  case round =>
    obtain ⟨k, hk, rfl, rfl⟩ := hrel
    by_cases hlt : k < A
    · have E := Lib.hid (pw_succ Z k)
      have hb := pw_le h2 (show k + 1 ≤ 3 by omega)
      have hw : -9223372036854775808 ≤ ((Z ^ k : Nat) : Int) * (Z : Int) ∧ ((Z ^ k : Nat) : Int) * (Z : Int) ≤ 9223372036854775807 := by rw [E.out]; omega
      have hw1 := IntWalk.i64_in (((Z ^ k : Nat) : Int) * (Z : Int)) hw
      clear hw hb
      generalize ((Z ^ k : Nat) : Int) = y at *
      go_wp2_with fail
      go_round
      case rel => exact ⟨k+1, by omega, by go_num, by rw [← E.out]⟩
      case measure => simp [intOf]; omega
    · obtain rfl : k = A := by omega
      generalize ((Z ^ k : Nat) : Int) = y at *
      go_wp2_with fail
      go_ret
      exact ⟨rfl, Bel.rfl' _⟩

theorem elem_in (x sz : Int) : inB x 0 (sz - 1) = (decide (0 ≤ x) && decide (x < sz)) := by
  unfold inB
  rw [show decide (x ≤ sz - 1) = decide (x < sz) from by rw [Bool.eq_iff_iff]; simp; omega]

set_option maxRecDepth 100000 in
set_option maxHeartbeats 400000 in
theorem areElements_c (l h : Nat) (v : Value) (xs : List Int) (sz : Int) (w : World) (hx : xs.length ≤ 1048576) (hv : SlI l h w v xs) :
    Calls Try.prog 80 #[v, .int .i64 sz] w (RetV w (.bool (xs.all (fun x => inB x 0 (sz - 1))))) := by
  obtain ⟨ad, cap, rfl, -, -, hr⟩ := hv
  go_enter Try.func80, Try.ntmps80
  go_wp2_with fail
  go_loop [9] (fun i => ∃ k : Nat, k ≤ xs.length ∧ i = .int .i64 k ∧ (xs.take k).all (fun x => inB x 0 (sz - 1)) = true) (fun i => xs.length - (intOf i).toNat)
  case atStart => exact ⟨0, Nat.zero_le _, rfl, by simp⟩
  case round =>
    obtain ⟨k, hk, rfl, hall⟩ := hrel
    by_cases hlt : k < xs.length
    · obtain ⟨b, off, rfl, hbl, hc⟩ := rd hr (Bel.rfl' w) k hlt
      have ES : (xs.take (k+1)).all (fun x => inB x 0 (sz - 1)) = (decide (0 ≤ xs.getD k 0) && decide (xs.getD k 0 < sz)) := (all_split xs (fun x => inB x 0 (sz - 1)) k hlt hall).trans (elem_in _ _)
      have EF : (decide (0 ≤ xs.getD k 0) && decide (xs.getD k 0 < sz)) = false → xs.all (fun x => inB x 0 (sz - 1)) = false := fun h => all_false xs (fun x => inB x 0 (sz - 1)) k hlt ((elem_in _ _).trans h)
      generalize xs.getD k 0 = x at *
      by_cases h0 : x < 0
      · have E := Lib.hid (EF (by rw [decide_eq_false (show ¬ 0 ≤ x by omega)]; rfl))
        clear ES EF hall hr
        go_wp2_with fail
        go_ret
        exact ⟨by rw [E.out]; rfl, Bel.rfl' _⟩
      · by_cases h1 : x < sz
        · have E := Lib.hid (ES.trans (by rw [decide_eq_true (show 0 ≤ x by omega), decide_eq_true h1, Bool.true_and]))
          clear ES EF hall hr
          go_wp2_with fail
          go_round
          case rel => exact ⟨k+1, by omega, by go_num, E.out⟩
          case measure => simp [intOf]; omega
        · have E := Lib.hid (EF (by rw [decide_eq_false h1, Bool.and_false]))
          clear ES EF hall hr
          go_wp2_with fail
          go_ret
          exact ⟨by rw [E.out]; rfl, Bel.rfl' _⟩
    · have E := Lib.hid (all_done xs _ k hk hlt hall)
      clear hall hr
      go_wp2_with fail
      go_ret
      exact ⟨by rw [E.out]; rfl, Bel.rfl' _⟩
theorem areElements_v (l h : Nat) (v : Value) (xs : List Int) (sz : Int) (q : Bool) (w : World) (he : xs.all (fun x => inB x 0 (sz - 1)) = q) (hx : xs.length ≤ 1048576) (hv : SlI l h w v xs) :
    Calls Try.prog 80 #[v, .int .i64 sz] w (RetV w (.bool q)) := by subst he; exact areElements_c l h v xs sz w hx hv

set_option maxRecDepth 100000 in
set_option maxHeartbeats 400000 in
theorem hasWorlds_c (l h : Nat) (v : Value) (ar : List Int) (sz : Int) (w : World) (ha : ar.length ≤ 1048576) (hv : SlI l h w v ar) :
    Calls Try.prog 78 #[.agg #[v], .int .i64 sz] w (RetV w (.bool (goodSign ar && inB sz 1 3))) := by
  cases hg : goodSign ar with
  | false =>
    have HC := Lib.hid (fun (w' : World) (hb : Bel w w') => iGoodSign_v l h v ar false w' hg ha (hv.below hb)); clear hg
    go_enter Try.func78, Try.ntmps78
    go_wp2_with fail
    refine (HC.out _ (Bel.alloc0 _ _)).mono ?_; rintro e w1 ⟨rfl, hb1⟩
    go_wp2_with fail
    go_ret
    exact ⟨rfl, hb1.of_alloc⟩
  | true =>
    rw [Bool.true_and]
    have HC := Lib.hid (fun (w' : World) (hb : Bel w w') => iGoodSign_v l h v ar true w' hg ha (hv.below hb)); clear hg
    by_cases h1 : 1 ≤ sz
    · by_cases h2 : sz ≤ 3
      · have E : Hid (inB sz 1 3 = true) := by show _ = _; unfold inB; simp [h1, h2]
        go_enter Try.func78, Try.ntmps78
        go_wp2_with fail
        refine (HC.out _ (Bel.alloc0 _ _)).mono ?_; rintro e w1 ⟨rfl, hb1⟩
        go_wp2_with fail
        go_ret
        exact ⟨by rw [E.out]; rfl, hb1.of_alloc⟩
      · have E : Hid (inB sz 1 3 = decide (sz ≤ 3)) := by show _ = _; unfold inB; rw [decide_eq_true h1, Bool.true_and]
        go_enter Try.func78, Try.ntmps78
        go_wp2_with fail
        refine (HC.out _ (Bel.alloc0 _ _)).mono ?_; rintro e w1 ⟨rfl, hb1⟩
        go_wp2_with fail
        go_ret
        exact ⟨by rw [E.out]; rfl, hb1.of_alloc⟩
    · have E : Hid (inB sz 1 3 = false) := by show _ = _; unfold inB; simp; omega
      go_enter Try.func78, Try.ntmps78
      go_wp2_with fail
      refine (HC.out _ (Bel.alloc0 _ _)).mono ?_; rintro e w1 ⟨rfl, hb1⟩
      go_wp2_with fail
      go_ret
      exact ⟨by rw [E.out]; rfl, hb1.of_alloc⟩
theorem hasWorlds_v (l h : Nat) (v : Value) (ar : List Int) (sz : Int) (q : Bool) (w : World) (he : (goodSign ar && inB sz 1 3) = q) (ha : ar.length ≤ 1048576) (hv : SlI l h w v ar) :
    Calls Try.prog 78 #[.agg #[v], .int .i64 sz] w (RetV w (.bool q)) := by subst he; exact hasWorlds_c l h v ar sz w ha hv
end Go.Proofs.Ytfhljkjcjnfjfaa
end
section
/- Chapter 5, the program: GoodWorld. -/
namespace Go.Proofs.Ytfhljkjcjnfjfaa
open Go.RowKit

set_option maxRecDepth 100000 in
set_option maxHeartbeats 1000000 in
theorem iGoodWorld_t {l h l' h' : Nat} {v u : Value} {ar : List Int} {sz : Int} {tb : List (List Int)} {w : World} (ha : ar.length ≤ 1048576) (hv : SlI l h w v ar) (hx : short tb) (hu : SlS l' h' w u tb) :
    Calls Try.prog 31 #[.agg #[v], .agg #[.int .i64 sz, u]] w (RetV w (.bool (goodWorld ar sz tb))) := by
  have hv0 := hv
  obtain ⟨ad, cap, rfl, -, -, hr⟩ := hv
  obtain ⟨au, cu, rfl⟩ := hu.form
  by_cases h1 : (goodSign ar && inB sz 1 3) = true
  · have hg : goodSign ar = true := by revert h1; cases goodSign ar <;> simp
    have h1b : inB sz 1 3 = true := by revert h1; cases inB sz 1 3 <;> simp
    have hlen := (sign_len ar hg).2
    have HH := Lib.hid (fun (w' : World) (hb : Bel w w') => hasWorlds_v l h _ ar sz true w' h1 ha (hv0.below hb))
    by_cases h2 : tb.length = ar.length
    · have hn := Lib.hid (ne_len h2)
      have E0 : goodWorld ar sz tb = okTabs ar sz tb tb.length := by unfold goodWorld isWorld; rw [hg, h1b, decide_eq_true h2, Bool.true_and, Bool.true_and, Bool.true_and]
      obtain ⟨z1, z3⟩ : 1 ≤ sz ∧ sz ≤ 3 := by unfold inB at h1b; simpa using h1b
      obtain ⟨Z, rfl⟩ : ∃ Z : Nat, sz = (Z : Int) := ⟨sz.toNat, by omega⟩
      have H2 := Lib.hid h2
      rw [E0]
      have hnn := hn.out
      clear h1 h1b h2 E0 hn hv0
      go_enter Try.func31, Try.ntmps31
      go_wp2_with fail
      refine (HH.out _ (Bel.alloc2 _ _ _)).mono ?_; rintro e W ⟨rfl, hb0⟩
      have hB : Bel w W := (Bel.alloc2 w _ _).step hb0
      have zW : w.heap.size + 1 < W.heap.size := by have := hb0.size; simp at this; omega
      have k0 := hb0.at (b := w.heap.size) (off := 0) (by simp; omega) (show World.cell? _ _ = some (.slice ad ar.length cap) by simp [go_sem])
      have k1 := hb0.at (b := w.heap.size + 1) (off := 0) (by simp) (show World.cell? _ _ = some (.int .i64 (Z : Int)) by simp [go_sem])
      have k2 := hb0.at (b := w.heap.size + 1) (off := 1) (by simp) (show World.cell? _ _ = some (.slice au tb.length cu) by simp [go_sem])
      clear HH hb0
      go_wp2_with fail
      go_loopw [24] (fun j wr => ∃ k : Nat, k ≤ tb.length ∧ j = .int .i64 k ∧ okTabs ar Z tb k = true ∧ Bel W wr) (fun j _ => tb.length - (intOf j).toNat)
      case atStart => exact ⟨0, Nat.zero_le _, rfl, okTabs_zero _ _ _, Bel.rfl' _⟩
      case round =>
        obtain ⟨k, hk, rfl, hall, hb⟩ := hrel
        have q0 := hb.at (b := w.heap.size) (by omega) k0
        have q1 := hb.at zW k1
        have q2 := hb.at zW k2
        by_cases hlt : k < tb.length
        · obtain ⟨b, off, u1, rfl, hbs, c1, s1⟩ := hu.at (hB.step hb) k hlt
          obtain ⟨b2, off2, rfl, hb2l, hc2⟩ := rd hr (hB.step hb) k (by rw [← H2.out]; exact hlt)
          have h03 := ar_nonneg ar hg k
          obtain ⟨A, hA⟩ : ∃ A : Nat, ar.getD k 0 = (A : Int) := ⟨(ar.getD k 0).toNat, by omega⟩
          have hxl := hx.2 k hlt
          have zl1 : w.heap.size + 1 < wr.heap.size := Nat.lt_of_lt_of_le zW hb.size
          have zl0 : w.heap.size < wr.heap.size := by omega
          have zlc : b2 < wr.heap.size := World.block_lt_of_cell? _ ⟨_, _, none⟩ hc2
          have hkl : (k : Int) < ar.length := by rw [← H2.out]; omega
          have EO : okTab Z (ar.getD k 0) (tb.getD k []) = (decide ((tb.getD k []).length = Z ^ A) && (tb.getD k []).all (fun x => inB x 0 ((Z : Int) - 1))) := by rw [hA]; rfl
          have ES := okTabs_succ ar Z tb k
          have EF := fun (h : okTab Z (ar.getD k 0) (tb.getD k []) = false) => okTabs_false (tb := tb) (n := tb.length) h hlt
          rw [EO] at ES EF
          rw [hall, Bool.true_and] at ES
          rw [hA] at hc2 h03
          have hA3 : A ≤ 3 := by omega
          obtain ⟨d1, e1, rfl⟩ := s1.form
          have HL := Lib.hid (fun (w' : World) => tableLength_c Z A w' (by omega) hA3)
          clear hA EO hall h03
          generalize tb.getD k [] = x at *
          by_cases hxz : x.length = Z ^ A
          · have hne := ne_len hxz
            have HA := Lib.hid (fun (q : Bool) (w' : World) (hq : x.all (fun x => inB x 0 ((Z : Int) - 1)) = q) (hb' : Bel wr w') => areElements_v _ _ _ x Z q w' hq hxl (s1.below hb'))
            rw [decide_eq_true hxz, Bool.true_and] at ES EF
            clear s1 hxl hxz
            generalize hyy : Z ^ A = y at *
            clear hyy
            cases hq : x.all (fun x => inB x 0 ((Z : Int) - 1)) with
            | true =>
              have HQ := Lib.hid hq
              have ES2 := Lib.hid (ES.trans hq)
              clear hq ES EF
              go_wp2_with fail
              go_region_held3 (fun w' => Bel wr w' ∧ w'.cell? ⟨w.heap.size + 1, 0, none⟩ = some (.int .i64 (Z : Int)) ∧ w'.cell? ⟨w.heap.size, 0, none⟩ = some (.slice (some ⟨b2, off2, none⟩) ar.length cap) ∧ w'.cell? ⟨b2, off2 + k, none⟩ = some (.int .i64 (A : Int)))
                (first | exact ⟨Bel.drew0 _, q1, q0, hc2⟩ | exact ⟨HB8, p1, p0, pc⟩ | exact ⟨HB8.step hb9, hb9.at pl1 p1, hb9.at pl0 p0, hb9.at plc pc⟩ | fail)
                (first | (go_at_call 80; refine (HA.out _ _ HQ.out HB8).mono ?_; rintro e w9 ⟨rfl, hb9⟩) | (go_at_call 79; refine (HL.out _).mono ?_; rintro e w8 ⟨rfl, hb8⟩; have HB8 := hb8.of_drew; have hz8 := HB8.size; have p1 := HB8.at zl1 q1; have p0 := HB8.at zl0 q0; have pc := HB8.at zlc hc2; have pl1 : w.heap.size + 1 < w8.heap.size := Nat.lt_of_lt_of_le zl1 hz8; have pl0 : w.heap.size < w8.heap.size := Nat.lt_of_lt_of_le zl0 hz8; have plc : b2 < w8.heap.size := Nat.lt_of_lt_of_le zlc hz8) | fail)
              go_wp2_with fail
              go_roundw
              case rel => exact ⟨k+1, by omega, by go_num, ES2.out, (hb.step HB8).step hb9⟩
              case measure => simp [intOf]; omega
            | false =>
              have HQ := Lib.hid hq
              have EF2 := Lib.hid (EF hq)
              clear hq ES EF
              go_wp2_with fail
              go_region_held3 (fun w' => Bel wr w' ∧ w'.cell? ⟨w.heap.size + 1, 0, none⟩ = some (.int .i64 (Z : Int)) ∧ w'.cell? ⟨w.heap.size, 0, none⟩ = some (.slice (some ⟨b2, off2, none⟩) ar.length cap) ∧ w'.cell? ⟨b2, off2 + k, none⟩ = some (.int .i64 (A : Int)))
                (first | exact ⟨Bel.drew0 _, q1, q0, hc2⟩ | exact ⟨HB8, p1, p0, pc⟩ | exact ⟨HB8.step hb9, hb9.at pl1 p1, hb9.at pl0 p0, hb9.at plc pc⟩ | fail)
                (first | (go_at_call 80; refine (HA.out _ _ HQ.out HB8).mono ?_; rintro e w9 ⟨rfl, hb9⟩) | (go_at_call 79; refine (HL.out _).mono ?_; rintro e w8 ⟨rfl, hb8⟩; have HB8 := hb8.of_drew; have hz8 := HB8.size; have p1 := HB8.at zl1 q1; have p0 := HB8.at zl0 q0; have pc := HB8.at zlc hc2; have pl1 : w.heap.size + 1 < w8.heap.size := Nat.lt_of_lt_of_le zl1 hz8; have pl0 : w.heap.size < w8.heap.size := Nat.lt_of_lt_of_le zl0 hz8; have plc : b2 < w8.heap.size := Nat.lt_of_lt_of_le zlc hz8) | fail)
              go_wp2_with fail
              go_ret
              exact ⟨by rw [EF2.out]; rfl, (hB.step hb).step (HB8.step hb9)⟩
          · have hne := ne_len' hxz
            have EF2 := Lib.hid (EF (by rw [decide_eq_false hxz]; rfl))
            clear s1 hxl EF ES
            generalize hyy : Z ^ A = y at *
            clear hyy hxz
            go_wp2_with fail
            first | (go_region_with (first | (go_at_call 79; refine (HL.out _).mono ?_; rintro e w8 ⟨rfl, hb8⟩) | fail)) | fail
            all_goals
              have HB8 := hb8.of_drew
              go_wp2_with fail
              go_ret
              exact ⟨by rw [EF2.out]; rfl, (hB.step hb).step HB8⟩
        · obtain rfl : k = tb.length := by omega
          have HALL := Lib.hid hall
          clear hall hlt
          go_wp2_with fail
          go_ret
          exact ⟨by rw [HALL.out]; rfl, hB.step hb⟩
    · have E0 : Hid (goodWorld ar sz tb = false) := by show _ = _; unfold goodWorld isWorld; rw [decide_eq_false h2]; simp
      have hnn := ne_len' h2
      clear h1 h1b h2 hv0
      go_enter Try.func31, Try.ntmps31
      go_wp2_with fail
      refine (HH.out _ (Bel.alloc2 _ _ _)).mono ?_; rintro e W ⟨rfl, hb0⟩
      have k0 := hb0.at (b := w.heap.size) (off := 0) (by simp; omega) (show World.cell? _ _ = some (.slice ad ar.length cap) by simp [go_sem])
      have k2 := hb0.at (b := w.heap.size + 1) (off := 1) (by simp) (show World.cell? _ _ = some (.slice au tb.length cu) by simp [go_sem])
      go_wp2_with fail
      go_ret
      exact ⟨by rw [E0.out]; rfl, (Bel.alloc2 w _ _).step hb0⟩
  · have h1' : (goodSign ar && inB sz 1 3) = false := by simpa using h1
    have HH := Lib.hid (fun (w' : World) (hb : Bel w w') => hasWorlds_v l h _ ar sz false w' h1' ha (hv0.below hb))
    have E0 : Hid (goodWorld ar sz tb = false) := by show _ = _; unfold goodWorld isWorld; rw [← Bool.and_assoc, h1']; rfl
    clear h1 h1' hv0
    go_enter Try.func31, Try.ntmps31
    go_wp2_with fail
    refine (HH.out _ (Bel.alloc2 _ _ _)).mono ?_; rintro e W ⟨rfl, hb0⟩
    go_wp2_with fail
    go_ret
    exact ⟨by rw [E0.out]; rfl, (Bel.alloc2 w _ _).step hb0⟩
theorem iGoodWorld_v {l h l' h' : Nat} {v u : Value} {ar : List Int} {sz : Int} {tb : List (List Int)} {w : World} {q : Bool} (he : goodWorld ar sz tb = q) (ha : ar.length ≤ 1048576) (hv : SlI l h w v ar) (hx : short tb) (hu : SlS l' h' w u tb) :
    Calls Try.prog 31 #[.agg #[v], .agg #[.int .i64 sz, u]] w (RetV w (.bool q)) := by subst he; exact iGoodWorld_t ha hv hx hu
end Go.Proofs.Ytfhljkjcjnfjfaa
end
section
/- Chapter 5, the program: EvalIn. -/
namespace Go.Proofs.Ytfhljkjcjnfjfaa
open Go.RowKit

set_option maxRecDepth 100000 in
set_option maxHeartbeats 400000 in
theorem goodEnv_c (l h : Nat) (u v : Value) (sz : Int) (env : List Int) (w : World) (h1 : 1 ≤ sz) (h3 : sz ≤ 3) (hx : env.length ≤ 1048576) (hv : SlI l h w v env) :
    Calls Try.prog 92 #[.agg #[.int .i64 sz, u], v] w (RetV w (.bool (okEnv sz env))) := by
  unfold okEnv
  have hv0 := hv
  obtain ⟨ad, cap, rfl⟩ := hv.form
  by_cases h12 : env.length = 12
  · rw [decide_eq_true h12, Bool.true_and]
    have he : ((env.length : Int) == 12) = true := by rw [h12]; rfl
    cases hq : env.all (fun x => inB x 0 (sz - 1)) with
    | false =>
      have HA := Lib.hid (fun (w' : World) (hb : Bel w w') => areElements_v _ _ _ env sz false w' hq hx (hv0.below hb))
      clear hq hv hv0 h12
      go_enter Try.func92, Try.ntmps92
      go_wp2_with fail
      refine (HA.out _ (Bel.alloc0 _ _)).mono ?_; rintro e w1 ⟨rfl, hb1⟩
      go_wp2_with fail
      go_ret
      exact ⟨rfl, hb1.of_alloc⟩
    | true =>
      have HA := Lib.hid (fun (w' : World) (hb : Bel w w') => areElements_v _ _ _ env sz true w' hq hx (hv0.below hb))
      clear hq hv hv0 h12
      go_enter Try.func92, Try.ntmps92
      go_wp2_with fail
      refine (HA.out _ (Bel.alloc0 _ _)).mono ?_; rintro e w1 ⟨rfl, hb1⟩
      go_wp2_with fail
      go_ret
      exact ⟨rfl, hb1.of_alloc⟩
  · rw [decide_eq_false h12, Bool.false_and]
    have he : ((env.length : Int) == 12) = false := beq_eq_false_iff_ne.2 (by omega)
    clear h12
    go_enter Try.func92, Try.ntmps92
    go_wp2_with fail
    go_ret
    exact ⟨rfl, Bel.alloc0 _ _⟩
theorem goodEnv_v (l h : Nat) (u v : Value) (sz : Int) (env : List Int) (q : Bool) (w : World) (he : okEnv sz env = q) (h1 : 1 ≤ sz) (h3 : sz ≤ 3) (hx : env.length ≤ 1048576) (hv : SlI l h w v env) :
    Calls Try.prog 92 #[.agg #[.int .i64 sz, u], v] w (RetV w (.bool q)) := by subst he; exact goodEnv_c l h u v sz env w h1 h3 hx hv

set_option maxRecDepth 100000 in
set_option maxHeartbeats 1000000 in
theorem iEvalIn_t {l h l' h' l2 h2 l3 h3 : Nat} {v u vt ve : Value} {ar : List Int} {sz : Int} {tb : List (List Int)} {t env : List Int} {w : World} (ha : ar.length ≤ 1048576) (hv : SlI l h w v ar) (hx : short tb) (hu : SlS l' h' w u tb) (htl : t.length ≤ 1048576) (ht : SlI l2 h2 w vt t) (hel : env.length ≤ 1048576) (he : SlI l3 h3 w ve env) :
    Calls Try.prog 41 #[.agg #[v], .agg #[.int .i64 sz, u], vt, ve] w (RetV w (.tuple #[.int .i64 (evalAns ar sz tb t env), .bool (evalOk ar sz tb t env)])) := by
  unfold evalAns evalOk
  have HB : Bel w ((w.alloc (.cells #[v] 30)).alloc (.cells #[.int .i64 sz, u] 46)) := Bel.alloc2 _ _ _
  have HK : Hid (∀ w', Bel ((w.alloc (.cells #[v] 30)).alloc (.cells #[.int .i64 sz, u] 46)) w' → w'.cell? ⟨w.heap.size, 0, none⟩ = some v ∧ w'.cell? ⟨w.heap.size + 1, 0, none⟩ = some (.int .i64 sz) ∧ w'.cell? ⟨w.heap.size + 1, 1, none⟩ = some u) := fun w' hb =>
    ⟨hb.at (by simp; omega) (by simp [go_sem]), hb.at (by simp) (by simp [go_sem]), hb.at (by simp) (by simp [go_sem])⟩
  cases hg : goodWorld ar sz tb with
  | false =>
    rw [Bool.false_and, if_neg (by simp)]
    have HC := Lib.hid (fun (w' : World) (hb : Bel w w') => iGoodWorld_v hg ha (hv.below hb) hx (hu.below hb)); clear hg
    go_enter Try.func41, Try.ntmps41
    go_wp2_with fail
    refine (HC.out _ HB).mono ?_; rintro e w1 ⟨rfl, hb1⟩
    go_wp2_with fail
    go_ret2
    exact ⟨rfl, HB.step hb1⟩
  | true =>
    rw [Bool.true_and]
    obtain ⟨hgs, hiw⟩ := goodWorld_iff.1 hg
    obtain ⟨z1, z3, _, _⟩ := isWorld_iff.1 hiw
    have HC := Lib.hid (fun (w' : World) (hb : Bel w w') => iGoodWorld_v hg ha (hv.below hb) hx (hu.below hb)); clear hg
    cases hq : okTerm ar t with
    | false =>
      rw [Bool.false_and, if_neg (by simp)]
      have HT := Lib.hid (fun (w' : World) (hb : Bel w w') => iGoodTerm_vv l h l2 h2 v vt ar t false w' hq hgs ha htl (hv.below hb) (ht.below hb)); clear hq
      go_enter Try.func41, Try.ntmps41
      go_wp2_with fail
      refine (HC.out _ HB).mono ?_; rintro e w1 ⟨rfl, hb1⟩
      obtain ⟨x0, x1, x2⟩ := HK.out _ hb1
      go_wp2_with fail
      refine (HT.out _ (HB.step hb1)).mono ?_; rintro e w2 ⟨rfl, hb2⟩
      go_wp2_with fail
      go_ret2
      exact ⟨rfl, (HB.step hb1).step hb2⟩
    | true =>
      rw [Bool.true_and]
      have HT := Lib.hid (fun (w' : World) (hb : Bel w w') => iGoodTerm_vv l h l2 h2 v vt ar t true w' hq hgs ha htl (hv.below hb) (ht.below hb))
      cases hp : okEnv sz env with
      | false =>
        rw [if_neg (by simp)]
        have HE := Lib.hid (fun (w' : World) (hb : Bel w w') => goodEnv_v l3 h3 u ve sz env false w' hp z1 z3 hel (he.below hb))
        clear hq hp
        go_enter Try.func41, Try.ntmps41
        go_wp2_with fail
        refine (HC.out _ HB).mono ?_; rintro e w1 ⟨rfl, hb1⟩
        obtain ⟨x0, x1, x2⟩ := HK.out _ hb1
        go_wp2_with fail
        refine (HT.out _ (HB.step hb1)).mono ?_; rintro e w2 ⟨rfl, hb2⟩
        obtain ⟨y0, y1, y2⟩ := HK.out _ (hb1.step hb2)
        go_wp2_with fail
        refine (HE.out _ ((HB.step hb1).step hb2)).mono ?_; rintro e w3 ⟨rfl, hb3⟩
        go_wp2_with fail
        go_ret2
        exact ⟨rfl, ((HB.step hb1).step hb2).step hb3⟩
      | true =>
        rw [if_pos rfl]
        have HE := Lib.hid (fun (w' : World) (hb : Bel w w') => goodEnv_v l3 h3 u ve sz env true w' hp z1 z3 hel (he.below hb))
        have HV := Lib.hid (fun (w' : World) (hb : Bel w w') => valueIn_c l h l' h' l2 h2 l3 h3 v u vt ve ar sz tb t env w' hgs hiw hp hq (hv.below hb) (hu.below hb) (ht.below hb) (he.below hb))
        clear hq hp
        generalize evT ar sz tb env t = val at *
        go_enter Try.func41, Try.ntmps41
        go_wp2_with fail
        refine (HC.out _ HB).mono ?_; rintro e w1 ⟨rfl, hb1⟩
        obtain ⟨x0, x1, x2⟩ := HK.out _ hb1
        go_wp2_with fail
        refine (HT.out _ (HB.step hb1)).mono ?_; rintro e w2 ⟨rfl, hb2⟩
        obtain ⟨y0, y1, y2⟩ := HK.out _ (hb1.step hb2)
        go_wp2_with fail
        refine (HE.out _ ((HB.step hb1).step hb2)).mono ?_; rintro e w3 ⟨rfl, hb3⟩
        obtain ⟨v0, v1, v2⟩ := HK.out _ ((hb1.step hb2).step hb3)
        go_wp2_with fail
        refine (HV.out _ (((HB.step hb1).step hb2).step hb3)).mono ?_; rintro e w4 ⟨rfl, hb4⟩
        go_wp2_with fail
        go_ret2
        exact ⟨rfl, (((HB.step hb1).step hb2).step hb3).step hb4⟩
end Go.Proofs.Ytfhljkjcjnfjfaa
end
