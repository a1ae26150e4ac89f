/- Chapter 4, the reference: VarsIn. -/
import Derived.Test.YtfhljkjcjnfjfaaClS3
import Derived.Test.YtfhljkjcjnfjfaaClTm
import Derived.Test.YtfhljkjcjnfjfaaApR
import Derived.Deep.RegionHeldLaw
namespace Go.Proofs.Ytfhljkjcjnfjfaa
open Go.RowKit

theorem varsTo_congr {f g : Nat → Bool} (n : Nat) (h : ∀ j, j < n → f j = g j) : varsTo f n = varsTo g n := by
  unfold varsTo
  refine List.filter_congr fun j hj => h j (by simpa using hj)
theorem varsTo_mem {f : Nat → Bool} {n j : Nat} : j ∈ varsTo f n ↔ j < n ∧ f j = true := by simp [varsTo]
theorem mk_app (a b : List Int) (j : Nat) : mk (a ++ b) j = (mk a j || mk b j) := by
  unfold mk; rw [Bool.eq_iff_iff]; simp
/-- The numbers of two terms' variables. -/
def two12 (xl xr : List Int) : List Nat := varsTo (mk xl) 12 ++ varsTo (mk xr) 12
theorem two12_lt {xl xr : List Int} : ∀ m ∈ two12 xl xr, m < 12 := by
  intro m hm
  unfold two12 at hm
  rcases List.mem_append.1 hm with h | h <;> exact (varsTo_mem.1 h).1
theorem two12_len (xl xr : List Int) : (two12 xl xr).length ≤ 24 := by
  have h1 := varsTo_len (mk xl) 12
  have h2 := varsTo_len (mk xr) 12
  unfold two12; simp; omega
theorem two12_nats (xl xr : List Int) : natsI (varsTo (mk xl) 12) ++ natsI (varsTo (mk xr) 12) = natsI (two12 xl xr) := by simp [two12, natsI]
theorem two12_mem {A xl xr : List Int} {F G : Nat → Bool} (hF : ∀ j, j < 12 → F j = mk A j) (hG : ∀ j, j < 12 → G j = (F j || decide (j ∈ two12 xl xr))) : ∀ j, j < 12 → G j = mk (A ++ xl ++ xr) j := by
  intro j hj
  rw [hG j hj, hF j hj, mk_app, mk_app, Bool.or_assoc]
  congr 1
  rw [Bool.eq_iff_iff]
  simp [two12, varsTo_mem, hj]
theorem put_take {N : List Nat} {i : Nat} (hi : i < N.length) {F F0 : Nat → Bool} (h : ∀ j, j < 12 → F j = (F0 j || decide (j ∈ N.take i))) : ∀ j, j < 12 → setF F (N.getD i 0) j = (F0 j || decide (j ∈ N.take (i+1))) := by
  intro j hj
  have e : N.take (i+1) = N.take i ++ [N.getD i 0] := by rw [List.take_succ_eq_append_getElem hi]; simp [List.getD, hi]
  rw [e]
  unfold setF
  by_cases hq : j = N.getD i 0
  · rw [if_pos hq]; simp [hq]
  · rw [if_neg hq, h j hj]; simp [List.mem_append]; simp [List.getD] at hq; simp [hq]

set_option maxRecDepth 100000 in
set_option maxHeartbeats 1000000 in
theorem l4Vars_c (l h : Nat) (v : Value) (c : List Lt) (w : World) (hx : shortC c) (hlow : ∀ t ∈ flatC c, ∀ k, k < t.length → -12 ≤ t.getD k 0) (hv : SlC l h w v c) :
    Calls Try.prog 69 #[v] w (RetI w (natsI (varsTo (mk (flatC c).flatten) 12))) := by
  obtain ⟨ad, cap, rfl⟩ := hv.form
  obtain ⟨hxl, hxj⟩ := hx
  go_enter Try.func69, Try.ntmps69
  go_wp2_with fail
  go_loopw [3, 10] (fun o i wr => ∃ (k : Nat) (F : Nat → Bool), k ≤ c.length ∧ i = .int .i64 k ∧ RowI w.heap.size wr o (natsI (varsTo F 12)) ∧ (varsTo F 12 = [] → o = .slice none 0 0) ∧ (∀ j, j < 12 → F j = mk (flatC (c.take k)).flatten j) ∧ Bel w wr) (fun _ i _ => c.length - (intOf i).toNat)
  case atStart =>
    have e : varsTo (fun _ => false) 12 = [] := rfl
    exact ⟨0, fun _ => false, Nat.zero_le _, rfl, by rw [e]; exact World.ownsRow_nil _ _ _ _, fun _ => rfl, fun j _ => by simp [mk, flatC], Bel.rfl' _⟩
  case round =>
    obtain ⟨k, F, hk, rfl, hrow, hnil, hF, hb⟩ := hrel
    by_cases hlt : k < c.length
    · obtain ⟨b, off, u1, u2, rfl, hbs, c1, c2, c3, s1, s2⟩ := hv.at hb k hlt
      obtain ⟨hm1, hm2⟩ := hxj k hlt
      have HFT : Hid ((flatC (c.take (k+1))).flatten = (flatC (c.take k)).flatten ++ (c.getD k lt0).2.1 ++ (c.getD k lt0).2.2) := by show _ = _; rw [flatC_take c k hlt]; simp
      have hlo1 := hlow _ (show (c.getD k lt0).2.1 ∈ flatC c from List.mem_flatMap.2 ⟨_, mem_getD c lt0 k hlt, by simp⟩)
      have hlo2 := hlow _ (show (c.getD k lt0).2.2 ∈ flatC c from List.mem_flatMap.2 ⟨_, mem_getD c lt0 k hlt, by simp⟩)
      have hin1 : (k : Int) < c.length := by omega
      generalize c.getD k lt0 = x at *
      obtain ⟨p, xl, xr⟩ := x
      simp only at *
      obtain ⟨a1, d1, rfl⟩ := s1.form
      obtain ⟨a2, d2, rfl⟩ := s2.form
      have HL := Lib.hid (fun (w' : World) (hq : Bel wr w') => l1Vars_r l h _ xl w' (by omega) hlo1 (s1.below hq))
      have HR := Lib.hid (fun (w' : World) (hq : Bel wr w') => l1Vars_r l h _ xr w' (by omega) hlo2 (s2.below hq))
      have hvl1 : (natsI (varsTo (mk xl) 12)).length ≤ 12 := by rw [natsI_len]; exact varsTo_len _ _
      have hvl2 : (natsI (varsTo (mk xr) 12)).length ≤ 12 := by rw [natsI_len]; exact varsTo_len _ _
      have HT := Lib.hid (two12_nats xl xr)
      have HTL := Lib.hid (two12_lt (xl := xl) (xr := xr))
      have htl := two12_len xl xr
      have HM := Lib.hid (fun G => two12_mem (A := (flatC (c.take k)).flatten) (xl := xl) (xr := xr) (F := F) (G := G) hF)
      have HROW := Lib.hid hrow
      have HNIL := Lib.hid hnil
      generalize hA1 : natsI (varsTo (mk xl) 12) = A1 at *
      generalize hA2 : natsI (varsTo (mk xr) 12) = A2 at *
      generalize hN : two12 xl xr = N at *
      clear hv s1 s2 hlow hlo1 hlo2 hF hA1 hA2 hN hrow hnil hxj
      have HB0 : Bel wr (wr.alloc (.cells #[.bool p, .slice a1 xl.length d1, .slice a2 xr.length d2] 95)).drew := (Bel.alloc0 _ _).drew
      have HZ0 : wr.heap.size + 1 ≤ (wr.alloc (.cells #[.bool p, .slice a1 xl.length d1, .slice a2 xr.length d2] 95)).drew.heap.size := by simp [World.drew]
      have k1 : (wr.alloc (.cells #[.bool p, .slice a1 xl.length d1, .slice a2 xr.length d2] 95)).drew.cell? ⟨wr.heap.size, 1, none⟩ = some (.slice a1 xl.length d1) := boxc ((Bel.rfl' _).drew) 1 _ rfl
      have k2 : (wr.alloc (.cells #[.bool p, .slice a1 xl.length d1, .slice a2 xr.length d2] 95)).drew.cell? ⟨wr.heap.size, 2, none⟩ = some (.slice a2 xr.length d2) := boxc ((Bel.rfl' _).drew) 2 _ rfl
      go_wp2_with fail
      go_region_held_law (fun w' => w'.cell? ⟨wr.heap.size, 1, none⟩ = some (.slice a1 xl.length d1) ∧ w'.cell? ⟨wr.heap.size, 2, none⟩ = some (.slice a2 xr.length d2))
        (first | exact ⟨k15, k25⟩ | exact ⟨k14, k24⟩ | exact ⟨k13, k23⟩ | exact ⟨k1, k2⟩ | fail)
        (first
          | (refine step_append_row ?a1 (.tmp 16) (.tmp 19) 20 ?a6 ?a2 (wr.heap.size + 1) (wr.heap.size + 1) _ _ A1 A2 ?a3 R1 ?a4 R2 (by omega) HZ4 ?a5; (case a1 => rfl); (case a6 => rfl); (case a2 => rfl); (case a3 => first | rfl | (simp [Act.eval, Act.put]; done)); (case a4 => first | rfl | (simp [Act.eval, Act.put]; done)); intro a5 n5 c5 w5 R5 hg5; have HB5 := HB4.grown hg5 (fun q hq => Nat.le_of_succ_le (own_base R1 q hq)); have k15 := hg5.cell k14 (fun e => Nat.lt_irrefl _ (own_base R1 _ e.symm)); have k25 := hg5.cell k24 (fun e => Nat.lt_irrefl _ (own_base R1 _ e.symm)))
          | (go_at_call 117; refine (HR.out _ HB3).mono ?_; rintro e w4 ⟨p2, m2, q2, rfl, r2, g4⟩; have HB4 := HB3.step g4; have HZ4 := Nat.le_trans HZ3 g4.size; have R1 : RowI (wr.heap.size + 1) w4 _ A1 := RowI.mono (ownsRow_bel r1 g4) HZ0; have R2 : RowI (wr.heap.size + 1) w4 _ A2 := RowI.mono r2 HZ3; have k14 := g4.at (World.block_lt_of_cell? _ ⟨_, _, none⟩ k13) k13; have k24 := g4.at (World.block_lt_of_cell? _ ⟨_, _, none⟩ k23) k23)
          | (go_at_call 117; refine (HL.out _ HB3).mono ?_; rintro e w4 ⟨p1, m1, q1, rfl, r1, g4⟩; have HB4 := HB3.step g4; have HZ4 := Nat.le_trans HZ3 g4.size; have R2 : RowI (wr.heap.size + 1) w4 _ A2 := RowI.mono (ownsRow_bel r2 g4) HZ0; have R1 : RowI (wr.heap.size + 1) w4 _ A1 := RowI.mono r1 HZ3; have k14 := g4.at (World.block_lt_of_cell? _ ⟨_, _, none⟩ k13) k13; have k24 := g4.at (World.block_lt_of_cell? _ ⟨_, _, none⟩ k23) k23)
          | (go_at_call 117; refine (HL.out _ HB0).mono ?_; rintro e w3 ⟨p1, m1, q1, rfl, r1, g3⟩; have HB3 := HB0.step g3; have HZ3 := Nat.le_trans HZ0 g3.size; have k13 := g3.at (World.block_lt_of_cell? _ ⟨_, _, none⟩ k1) k1; have k23 := g3.at (World.block_lt_of_cell? _ ⟨_, _, none⟩ k2) k2)
          | (go_at_call 117; refine (HR.out _ HB0).mono ?_; rintro e w3 ⟨p2, m2, q2, rfl, r2, g3⟩; have HB3 := HB0.step g3; have HZ3 := Nat.le_trans HZ0 g3.size; have k13 := g3.at (World.block_lt_of_cell? _ ⟨_, _, none⟩ k1) k1; have k23 := g3.at (World.block_lt_of_cell? _ ⟨_, _, none⟩ k2) k2)
          | fail)
      all_goals
        have hm5 := row_len R5
        subst hm5
        have hsl5 := (OwnI.of_row R5).sl
        have hal : (A1 ++ A2).length = N.length := by rw [HT.out, natsI_len]
        have HSL : Hid (SlI (wr.heap.size + 1) w5.heap.size w5 (.slice a5 (A1 ++ A2).length c5) (natsI N)) := by show SlI _ _ _ _ _; rw [← HT.out]; exact hsl5
        have hO5 : Hid (RowI w.heap.size w5 u3 (natsI (varsTo F 12))) := by show RowI _ _ _ _; exact ownsRow_bel HROW.out HB5
        have HNIL2 := Lib.hid HNIL.out
        have hB5 := hb.step HB5
        clear r1 r2 R1 R2 R5 hg5 hsl5 k1 k2 k13 k23 k14 k24 k15 k25 g3 g4 HT HB4 HB3 HB0 HZ0 HZ3 HZ4 HL HR c1 c2 c3
        rw [hal] at *
        go_wp2_with fail
        go_loopw [3, 22] (fun o i w6 => ∃ (q : Nat) (G : Nat → Bool), q ≤ N.length ∧ i = .int .i64 q ∧ RowI w.heap.size w6 o (natsI (varsTo G 12)) ∧ (varsTo G 12 = [] → o = .slice none 0 0) ∧ (∀ j, j < 12 → G j = (F j || decide (j ∈ N.take q))) ∧ Bel w5 w6) (fun _ i _ => N.length - (intOf i).toNat)
        case atStart => exact ⟨0, F, Nat.zero_le _, rfl, hO5.out, HNIL2.out, fun j _ => by simp, Bel.rfl' _⟩
        case round =>
          obtain ⟨q, G, hq, rfl, hrG, hnG, hG, hb6⟩ := hrel
          by_cases hlq : q < N.length
          · obtain ⟨ad5, cap5, e5, _, _, hr5⟩ := HSL.out
            simp only [Value.slice.injEq] at e5
            obtain ⟨rfl, -, rfl⟩ := e5
            obtain ⟨b5, o5, rfl, -, hcell⟩ := rd hr5 hb6 q (by rw [natsI_len]; exact hlq)
            rw [nget _ _ hlq] at hcell
            have hm12 := HTL.out _ (mem_getD N 0 q hlq)
            have HP := Lib.hid (put_take hlq hG)
            have hq1 : (q : Int) < N.length := by omega
            have hps := put_some G (N.getD q 0) hm12
            clear hr5 hG HSL
            generalize N.getD q 0 = m at *
            cases hl : varsTo G 12 with
            | nil =>
              have ho := hnG hl
              have E4 := Lib.hid (put_empty hm12 hl)
              have HPS := Lib.hid hps
              subst ho
              clear hrG hnG hl hps
              go_wp2_with fail
              refine (l1Put_nz _ m _ rfl).mono ?_; rintro e w7 ⟨a7, n7, c7, rfl, ho7, hb7⟩
              go_wp2_with fail
              go_roundw
              case rel => exact ⟨q+1, setF G m, by omega, by go_num, by rw [E4.out]; exact RowI.mono ho7 (hB5.step hb6).size, fun h => by have := HPS.out; rw [h] at this; simp at this, HP.out, hb6.step hb7⟩
              case measure => simp [intOf]; omega
            | cons y ys =>
              have hpos : 0 < (varsTo G 12).length := by rw [hl]; simp
              have HPS := Lib.hid hps
              have HO := Lib.hid hrG
              clear hrG hnG hl hps
              go_wp2_with fail
              refine (l1Put_q _ w.heap.size _ G m _ rfl hm12 (hB5.step hb6).size hpos HO.out).mono ?_; rintro e w7 ⟨a7, n7, c7, rfl, ho7, hb7⟩
              go_wp2_with fail
              go_roundw
              case rel => exact ⟨q+1, setF G m, by omega, by go_num, ho7, fun h => by have := HPS.out; rw [h] at this; simp at this, HP.out, hb6.step hb7⟩
              case measure => simp [intOf]; omega
          · rw [List.take_of_length_le (by omega)] at hG
            have hGG := HM.out G hG
            rw [← HFT.out] at hGG
            have HGG := Lib.hid hGG
            have HO := Lib.hid hrG
            have HNG := Lib.hid hnG
            clear hG hGG hrG hnG HSL
            have hq1 : ¬ (q : Int) < N.length := by omega
            go_wp2_with fail
            go_roundw
            case rel => exact ⟨k+1, G, by omega, by go_num, HO.out, HNG.out, HGG.out, hB5.step hb6⟩
            case measure => simp [intOf]; omega
    · rw [List.take_of_length_le (by omega)] at hF
      obtain ⟨g, n, c2, hv'⟩ := own_form hrow
      subst hv'
      have E := Lib.hid (varsTo_congr 12 hF)
      have HO := Lib.hid hrow
      clear hrow hnil hF
      go_wp2_with fail
      go_ret
      exact ⟨_, _, _, rfl, by rw [← E.out]; exact OwnI.of_row HO.out, hb⟩
theorem flat_low1 {ar : List Int} {c : List Lt} (h : goodClause ar c = true) : ∀ t ∈ flatC c, ∀ k, k < t.length → -12 ≤ t.getD k 0 :=
  fun _ ht => low_memC fun _ hn => ok_low (flat_ok (goodClause_iff.1 h).2.2 ht) hn

set_option maxRecDepth 100000 in
set_option maxHeartbeats 400000 in
theorem sVarsIn_t {l h l' h' : Nat} {v u : Value} {ar : List Int} {c : List Lt} {w : World} (ha : ar.length ≤ 1048576) (hv : SlI l h w v ar) (hc : sumC c ≤ 1048576) (hu : SlC l' h' w u c) :
    Calls Try.prog 17 #[.agg #[v], u] w (RetIB w (varsInAns ar c) (goodClause ar c)) := by
  unfold varsInAns
  cases hg : goodClause ar c with
  | false =>
    rw [if_neg (by simp)]
    have HG := Lib.hid hg; clear hg
    go_enter Try.func17, Try.ntmps17
    go_wp2_with fail
    refine (sGoodClause_v HG.out ha (hv.alloc _) hc (hu.alloc _)).mono ?_; rintro e w1 ⟨rfl, hb1⟩
    go_wp2_with fail
    go_ret2
    exact ⟨_, _, _, rfl, OwnI.nil _ _ _, hb1.of_alloc⟩
  | true =>
    rw [if_pos rfl]
    have HC := Lib.hid (fun (w' : World) (hb : Bel w w') => l4Vars_c l' h' u c w' (shortC_of_sum hc) (flat_low1 hg) (hu.below hb))
    have HG := Lib.hid hg; clear hg
    go_enter Try.func17, Try.ntmps17
    go_wp2_with fail
    refine (sGoodClause_v HG.out ha (hv.alloc _) hc (hu.alloc _)).mono ?_; rintro e w1 ⟨rfl, hb1⟩
    clear hc
    go_wp2_with fail
    refine (HC.out _ hb1.of_alloc).mono ?_; rintro e w2 ⟨a2, n2, c2, rfl, ho2, hb2⟩
    go_wp2_with fail
    go_ret2
    exact ⟨_, _, _, rfl, ho2.mono hb1.of_alloc.size (Nat.le_refl _), hb1.of_alloc.step hb2⟩
end Go.Proofs.Ytfhljkjcjnfjfaa
