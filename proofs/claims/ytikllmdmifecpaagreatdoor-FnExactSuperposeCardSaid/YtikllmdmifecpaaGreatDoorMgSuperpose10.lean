/- Texts merged, part 10. -/
import Derived.Test.YtikllmdmifecpaaGreatDoorMgSuperpose9
section
/- Chapter 6, the reference: ApartClauses. -/
namespace Go.Proofs.YtikllmdmifecpaaGreatDoor
open Go.RowKit

set_option maxRecDepth 100000 in
set_option maxHeartbeats 400000 in
theorem l6Shift_c (l h : Nat) (v : Value) (c : List Lt) (w : World) (hx : shortC c) (hlow : ∀ t ∈ flatC c, ∀ k, k < t.length → -12 ≤ t.getD k 0) (hv : SlC l h w v c) :
    Calls Tryz.prog 143 #[v] w (RetV w (.int .i64 (byC c))) := by
  have HB : Hid (Calls Tryz.prog 181 #[v] w (RetI w (natsI (vC c)))) := Lib.hid (l4Vars_c l h v c w hx hlow hv)
  obtain ⟨ad, cap, rfl⟩ := hv.form
  have hL := vC_len c
  have hby0 := byC_no (c := c)
  have hby1 := byC_yes (c := c)
  have hlt := fun j hj => vC_lt (c := c) (j := j) hj
  clear hv hx hlow
  generalize byC c = z at *
  generalize vC c = L at *
  go_enter Tryz.func143, Tryz.ntmps143
  go_wp2_with fail
  refine HB.out.mono ?_; rintro e w1 ⟨a1, n1, c1, rfl, ho, hb1⟩
  have hn1 : n1 = L.length := by obtain ⟨_, _, e, _⟩ := ho.sl; simp only [Value.slice.injEq] at e; rw [e.2.1, natsI_len]
  subst hn1
  obtain ⟨ad1, cap1, e1, hc1, hm1, hr1⟩ := ho.sl
  simp only [Value.slice.injEq] at e1
  obtain ⟨rfl, -, rfl⟩ := e1
  clear HB ho
  by_cases h0 : L.length = 0
  · have E := Lib.hid (hby0 h0)
    clear hby0 hby1 hlt hr1
    generalize L.length = n at *
    subst h0
    go_wp2_with fail
    go_ret
    exact ⟨by rw [E.out]; rfl, hb1⟩
  · obtain ⟨b, off, rfl, -, hcell⟩ := rd hr1 (Bel.rfl' _) (L.length - 1) (by rw [natsI_len]; omega)
    rw [nget _ _ (by omega)] at hcell
    have E := Lib.hid (hby1 (by omega))
    have hl12 := hlt (L.length - 1) (by omega)
    clear hr1 hby0 hby1 hlt
    generalize L.getD (L.length - 1) 0 = q at *
    rw [natsI_len] at hc1
    generalize L.length = n at *
    obtain ⟨m, rfl⟩ : ∃ m, n = m + 1 := ⟨n - 1, by omega⟩
    rw [Nat.add_sub_cancel] at hcell
    have hm0 : ¬ (((m + 1 : Nat) : Int) = 0) := by omega
    have hm1 : (((m + 1 : Nat) : Int) - 1) = (m : Int) := by omega
    go_wp2_with fail
    go_ret
    exact ⟨by rw [E.out]; go_num, hb1⟩

set_option maxRecDepth 100000 in
set_option maxHeartbeats 1000000 in
theorem l6Apart_c (l h l' h' l2 h2 : Nat) (v u x : Value) (ar : List Int) (c d : List Lt) (w : World) (hg : goodSign ar = true) (hc : okLits ar c = true) (hd : okLits ar d = true) (hv : SlI l h w v ar) (hu : SlC l' h' w u c) (hx : SlC l2 h2 w x d) :
    Calls Tryz.prog 95 #[.agg #[v], u, x] w (RetCB w (if okLits ar (apartC c d) then apartC c d else []) (okLits ar (apartC c d))) := by
  obtain ⟨ad, cap, rfl⟩ := hx.form
  have hgc : goodClause ar c = true := by unfold goodClause; rw [hg, hc]; rfl
  have h8 := (okLits_iff.1 hc).1
  have h8d := (okLits_iff.1 hd).1
  have ht : ∀ t ∈ flatC d, t.length ≤ 1048576 ∧ ∀ k, k < t.length → -12 ≤ t.getD k 0 := fun t h => ⟨by have := (flat_rows hd t h).1; omega, (flat_rows hd t h).2⟩
  have HS := Lib.hid (fun (w' : World) (hb : Bel w w') => l6Shift_c l' h' u c w' (okLits_short hc) (flat_low1 hgc) (hu.below hb))
  have HSH := Lib.hid (shiftC_short (byC c) hd)
  have hN := byC_le c
  unfold apartC
  clear hc hd hgc h8 hu
  generalize byC c = N at *
  have HMM := Lib.hid (fun (w' : World) (y : Value) (hb : Bel w w') (hy : OwnC w.heap.size w'.heap.size w' y (shiftC N d)) => l4Made_c _ _ _ _ v y ar (shiftC N d) w' hg HSH.out (hv.below hb) hy)
  clear HSH
  generalize (if okLits ar (shiftC N d) = true then shiftC N d else []) = R at *
  generalize okLits ar (shiftC N d) = Q at *
  go_enter Tryz.func95, Tryz.ntmps95
  go_wp2_with fail
  refine (HS.out _ (Bel.alloc0 _ _)).mono ?_; rintro e w1 ⟨rfl, hb1⟩
  have hbox := boxc hb1 0 _ rfl
  replace hx := hx.below hb1.of_alloc
  go_wp2_with fail
  go_loopw [9, 16] (fun o i wr => ∃ k : Nat, k ≤ d.length ∧ i = .int .i64 k ∧ RowCO w1.heap.size wr o ((d.take k).map (fun x => (x.1, shifted x.2.1 N, shifted x.2.2 N))) ∧ Bel w1 wr) (fun _ i _ => d.length - (intOf i).toNat)
  case atStart => exact ⟨0, Nat.zero_le _, rfl, RowCO.nil _ _, Bel.rfl' _⟩
  case round =>
    obtain ⟨k, hk, rfl, hrow, hb⟩ := hrel
    by_cases hlt : k < d.length
    · obtain ⟨b1, off, u1, u2, rfl, hbs, c1, c2, c3, s1, s2⟩ := hx.at hb k hlt
      have HTK := Lib.hid (show (d.take (k+1)).map (fun x => (x.1, shifted x.2.1 N, shifted x.2.2 N)) = (d.take k).map (fun x => (x.1, shifted x.2.1 N, shifted x.2.2 N)) ++ [((d.getD k lt0).1, shifted (d.getD k lt0).2.1 N, shifted (d.getD k lt0).2.2 N)] by rw [List.take_succ_eq_append_getElem hlt, List.map_append]; simp [List.getD, hlt])
      have hlen0 := Lib.hid (show ((d.take k).map (fun x => (x.1, shifted x.2.1 N, shifted x.2.2 N))).length = k by simp; omega)
      obtain ⟨ht1, ht2⟩ := And.intro (ht _ (List.mem_flatMap.2 ⟨_, mem_getD d lt0 k hlt, by simp⟩ : (d.getD k lt0).2.1 ∈ flatC d)) (ht _ (List.mem_flatMap.2 ⟨_, mem_getD d lt0 k hlt, by simp⟩ : (d.getD k lt0).2.2 ∈ flatC d))
      have hin1 : (k : Int) < d.length := by omega
      have HROW := Lib.hid hrow
      have hbz := hb.size
      have HBK := hrow.blk
      generalize d.getD k lt0 = x at *
      obtain ⟨p, xl, xr⟩ := x
      simp only at *
      obtain ⟨a1, d1, rfl⟩ := s1.form
      obtain ⟨a2, d2, rfl⟩ := s2.form
      have HL := Lib.hid (fun (w' : World) (hq : Bel wr w') => l1Shift_c _ _ _ xl N w' ht1.1 hN ht1.2 (s1.below hq))
      have HR := Lib.hid (fun (w' : World) (hq : Bel wr w') => l1Shift_c _ _ _ xr N w' ht2.1 hN ht2.2 (s2.below hq))
      generalize shifted xl N = tl at *
      generalize shifted xr N = tr at *
      have HB0 : Bel wr (wr.alloc (.cells #[.bool p, .slice a1 xl.length d1, .slice a2 xr.length d2] 67)).drew := (Bel.alloc0 _ _).drew
      have HZ0 : wr.heap.size ≤ (wr.alloc (.cells #[.bool p, .slice a1 xl.length d1, .slice a2 xr.length d2] 67)).drew.heap.size := HB0.size
      have k1 : (wr.alloc (.cells #[.bool p, .slice a1 xl.length d1, .slice a2 xr.length d2] 67)).drew.cell? ⟨wr.heap.size, 0, none⟩ = some (.bool p) := boxc ((Bel.rfl' _).drew) 0 _ rfl
      have k2 : (wr.alloc (.cells #[.bool p, .slice a1 xl.length d1, .slice a2 xr.length d2] 67)).drew.cell? ⟨wr.heap.size, 1, none⟩ = some (.slice a1 xl.length d1) := boxc ((Bel.rfl' _).drew) 1 _ rfl
      have k3 : (wr.alloc (.cells #[.bool p, .slice a1 xl.length d1, .slice a2 xr.length d2] 67)).drew.cell? ⟨wr.heap.size, 2, none⟩ = some (.slice a2 xr.length d2) := boxc ((Bel.rfl' _).drew) 2 _ rfl
      clear hx s1 s2 hrow ht
      go_wp2_with fail
      go_region_held_law (fun w' => w'.cell? ⟨wr.heap.size, 0, none⟩ = some (.bool p) ∧ w'.cell? ⟨wr.heap.size, 1, none⟩ = some (.slice a1 xl.length d1) ∧ w'.cell? ⟨wr.heap.size, 2, none⟩ = some (.slice a2 xr.length d2))
        (first | exact ⟨t1, t2, t3⟩ | exact ⟨m1, m2, m3⟩ | exact ⟨k14, k24, k34⟩ | exact ⟨k13, k23, k33⟩ | exact ⟨k1, k2, k3⟩ | fail)
        (first
          | (refine step_append_litO rfl (.tmp 20) (.tmp 32) 33 rfl rfl w1.heap.size _ zs rfl hown w4.heap.size p (a3, n3, q3) (a4, n4, q4) rfl HN (by rw [hzl, hlen0.out]; omega) HZ4 ?_; intro b5 k5 w5 R5 hg5 hat5; have HR5 := hnext w5 _ R5 hg5 hat5; have t1 := hg5.cell m1 (fun e => Nat.lt_irrefl _ (HBK _ e.symm).2); have t2 := hg5.cell m2 (fun e => Nat.lt_irrefl _ (HBK _ e.symm).2); have t3 := hg5.cell m3 (fun e => Nat.lt_irrefl _ (HBK _ e.symm).2); have HB5 := (hb.step (HB4.step HA4)).grown hg5 (fun q hq => (HBK q hq).1))
          | (go_at_call 144; refine (HR.out _ HB3).mono ?_; rintro e w4 ⟨a4, n4, q4, rfl, r2, g4⟩; obtain ⟨LA, HA, LB, HB, O1, O2, RA, RB, QA, QB, HD⟩ : ∃ la ha lb hb, OwnI la ha w4 (.slice a3 n3 q3) tl ∧ OwnI lb hb w4 (.slice a4 n4 q4) tr ∧ wr.heap.size ≤ la ∧ wr.heap.size ≤ lb ∧ ha ≤ w4.heap.size ∧ hb ≤ w4.heap.size ∧ (ha ≤ lb ∨ hb ≤ la) := ⟨_, _, _, _, r1.below g4, r2, HZ0, HZ3, g4.size, Nat.le_refl _, .inl (Nat.le_refl _)⟩; have HB4 := HB3.step g4; have HA4 := Bel.alloc0 w4 (.cells #[.bool p, .slice a3 n3 q3, .slice a4 n4 q4] 67); obtain ⟨zs, hown, hzl, hnext⟩ := HROW.out.step HB4 HA4 O1 O2 RA RB QA QB HD hbz p; have HZ4 : w1.heap.size ≤ (w4.alloc (.cells #[.bool p, .slice a3 n3 q3, .slice a4 n4 q4] 67)).heap.size := Nat.le_trans hbz (HB4.step HA4).size; have HN := news_lit w4 (.bool p) (encS (a3, n3, q3)) (encS (a4, n4, q4)) 67 w4.heap.size rfl; have k14 := g4.at (World.block_lt_of_cell? _ ⟨_, _, none⟩ k13) k13; have k24 := g4.at (World.block_lt_of_cell? _ ⟨_, _, none⟩ k23) k23; have k34 := g4.at (World.block_lt_of_cell? _ ⟨_, _, none⟩ k33) k33; have m1 := HA4.at (World.block_lt_of_cell? _ ⟨_, _, none⟩ k14) k14; have m2 := HA4.at (World.block_lt_of_cell? _ ⟨_, _, none⟩ k24) k24; have m3 := HA4.at (World.block_lt_of_cell? _ ⟨_, _, none⟩ k34) k34)
          | (go_at_call 144; refine (HL.out _ HB3).mono ?_; rintro e w4 ⟨a3, n3, q3, rfl, r1, g4⟩; obtain ⟨LA, HA, LB, HB, O1, O2, RA, RB, QA, QB, HD⟩ : ∃ la ha lb hb, OwnI la ha w4 (.slice a3 n3 q3) tl ∧ OwnI lb hb w4 (.slice a4 n4 q4) tr ∧ wr.heap.size ≤ la ∧ wr.heap.size ≤ lb ∧ ha ≤ w4.heap.size ∧ hb ≤ w4.heap.size ∧ (ha ≤ lb ∨ hb ≤ la) := ⟨_, _, _, _, r1, r2.below g4, HZ3, HZ0, Nat.le_refl _, g4.size, .inr (Nat.le_refl _)⟩; have HB4 := HB3.step g4; have HA4 := Bel.alloc0 w4 (.cells #[.bool p, .slice a3 n3 q3, .slice a4 n4 q4] 67); obtain ⟨zs, hown, hzl, hnext⟩ := HROW.out.step HB4 HA4 O1 O2 RA RB QA QB HD hbz p; have HZ4 : w1.heap.size ≤ (w4.alloc (.cells #[.bool p, .slice a3 n3 q3, .slice a4 n4 q4] 67)).heap.size := Nat.le_trans hbz (HB4.step HA4).size; have HN := news_lit w4 (.bool p) (encS (a3, n3, q3)) (encS (a4, n4, q4)) 67 w4.heap.size rfl; have k14 := g4.at (World.block_lt_of_cell? _ ⟨_, _, none⟩ k13) k13; have k24 := g4.at (World.block_lt_of_cell? _ ⟨_, _, none⟩ k23) k23; have k34 := g4.at (World.block_lt_of_cell? _ ⟨_, _, none⟩ k33) k33; have m1 := HA4.at (World.block_lt_of_cell? _ ⟨_, _, none⟩ k14) k14; have m2 := HA4.at (World.block_lt_of_cell? _ ⟨_, _, none⟩ k24) k24; have m3 := HA4.at (World.block_lt_of_cell? _ ⟨_, _, none⟩ k34) k34)
          | (go_at_call 144; refine (HL.out _ HB0).mono ?_; rintro e w3 ⟨a3, n3, q3, rfl, r1, g3⟩; have HB3 := HB0.step g3; have HZ3 := Nat.le_trans HZ0 g3.size; have k13 := g3.at (World.block_lt_of_cell? _ ⟨_, _, none⟩ k1) k1; have k23 := g3.at (World.block_lt_of_cell? _ ⟨_, _, none⟩ k2) k2; have k33 := g3.at (World.block_lt_of_cell? _ ⟨_, _, none⟩ k3) k3)
          | (go_at_call 144; refine (HR.out _ HB0).mono ?_; rintro e w3 ⟨a4, n4, q4, rfl, r2, g3⟩; have HB3 := HB0.step g3; have HZ3 := Nat.le_trans HZ0 g3.size; have k13 := g3.at (World.block_lt_of_cell? _ ⟨_, _, none⟩ k1) k1; have k23 := g3.at (World.block_lt_of_cell? _ ⟨_, _, none⟩ k2) k2; have k33 := g3.at (World.block_lt_of_cell? _ ⟨_, _, none⟩ k3) k3)
          | fail)
      all_goals
        go_wp2_with fail
        go_roundw
        case rel => exact ⟨k+1, by omega, by go_num, by rw [HTK.out]; have e := hzl.trans hlen0.out; rw [e] at HR5; exact HR5, HB5⟩
        case measure => simp [intOf]; omega
    · have ek : d.take k = d := List.take_of_length_le (by omega)
      rw [ek] at hrow
      obtain ⟨a5, c5, e5⟩ := hrow.form
      rw [List.length_map] at e5
      subst e5
      have HO : Hid (OwnC w.heap.size wr.heap.size wr (.slice a5 d.length c5) (shiftC N d)) := Lib.hid (hrow.own.mono hb1.of_alloc.size (Nat.le_refl _))
      have hbox2 := hb.at (World.block_lt_of_cell? _ ⟨_, _, none⟩ hbox) hbox
      have HM := Lib.hid (HMM.out _ _ (hb1.of_alloc.step hb) HO.out)
      clear hrow HO
      go_wp2_with fail
      refine HM.out.mono ?_; rintro e w4 ⟨a4, n4, c4, rfl, ho4, hb4⟩
      have hz4 := hb4.size
      go_wp2_with fail
      go_ret2
      exact ⟨_, _, _, rfl, ho4.mono (Nat.le_refl _) hz4, (hb1.of_alloc.step hb).step hb4⟩

end Go.Proofs.YtikllmdmifecpaaGreatDoor
end
section
/- slices.Concat and Clone of clauses. -/
namespace Go.Proofs.YtikllmdmifecpaaGreatDoor
open Go.RowKit

set_option maxRecDepth 100000 in
theorem growC_c (n : Nat) (w : World) (hn : n ≤ 1099511627776) :
    Calls Tryz.prog 163 #[.slice none 0 0, .int .i64 n] w fun e w' => ∃ ad m c, e = .returned (.slice ad m c) ∧ RowC w.heap.size w' (.slice ad m c) [] ∧ Bel w w' := by
  obtain ⟨i0, hi0, hz0, hz1, hz2⟩ := info_parts Tryz.info67
  rcases Nat.eq_zero_or_pos n with rfl | hp
  · go_enter Tryz.func163, Tryz.ntmps163
    go_wp2_with fail
    go_ret
    exact ⟨_, _, _, rfl, RowC.nil _ _, Bel.rfl' _⟩
  · have hrun := Lib.run_append_nil_zeros (P := Tryz.prog) w 30 3 30 67 i0 (.agg #[.bool false, .slice none 0 0, .slice none 0 0]) .i64 .i64 Tryz.underlying30 Tryz.underlying3 hi0 hz0 n hp (by omega) (by omega) (by rw [hz2]; omega)
    go_enter Tryz.func163, Tryz.ntmps163
    go_wp2_with (at_builtin; refine Lib.wpList_append_run _ rfl _ _ _ _ rfl _ _ rfl rfl _ _ hrun ?_)
    go_ret
    refine ⟨_, _, _, rfl, ⟨by simp [cellsC], .inr ⟨w.heap.size, grownCap w n 0 67, _, rfl, Nat.le_refl _, heap_alloc_new w _, Nat.zero_le _, grownCap_le_maxLen w n 0 67 (by unfold maxLen; omega), ?_, by simp [cellsC]⟩⟩, (Bel.alloc0 w _).drew⟩
    have := grownCap_ge w n 0 67
    simp [size_zeroCells]
    omega

/-- Slices of literals, as Concat reads them. -/
def PartsC (w : World) (B o : Nat) (L : List (List Lt)) : Prop :=
  ∀ j, j < L.length → ∃ ad c, w.cell? ⟨B, o + j, none⟩ = some (.slice ad (L.getD j []).length c) ∧ SlC 0 w.heap.size w (.slice ad (L.getD j []).length c) (L.getD j [])
theorem PartsC.below {w w' : World} {B o : Nat} {L : List (List Lt)} (h : PartsC w B o L) (hb : Bel w w') : ∀ j, j < L.length → ∃ ad c, w'.cell? ⟨B, o + j, none⟩ = some (.slice ad (L.getD j []).length c) ∧ SlC 0 w.heap.size w' (.slice ad (L.getD j []).length c) (L.getD j []) := fun j hj => by
  obtain ⟨ad, c, h1, h2⟩ := h j hj
  exact ⟨ad, c, hb.at (World.block_lt_of_cell? w ⟨B, o + j, none⟩ h1) h1, h2.below hb⟩
def sumLenC (L : List (List Lt)) : Nat := (L.map List.length).sum
theorem sumLenC_take (L : List (List Lt)) (j : Nat) (h : j < L.length) : sumLenC (L.take (j+1)) = sumLenC (L.take j) + (L.getD j []).length := by
  unfold sumLenC
  rw [List.take_succ_eq_append_getElem h, List.map_append, List.sum_append]
  simp only [List.map_cons, List.map_nil, List.sum_cons, List.sum_nil, Nat.add_zero]
  simp [List.getD, h]
theorem sumLenC_le (L : List (List Lt)) (j : Nat) : sumLenC (L.take j) ≤ sumLenC L := by
  unfold sumLenC
  conv => rhs; rw [← List.take_append_drop j L]
  rw [List.map_append, List.sum_append]
  exact Nat.le_add_right _ _
theorem flatCC_take (L : List (List Lt)) (j : Nat) (h : j < L.length) : (L.take (j+1)).flatten = (L.take j).flatten ++ L.getD j [] := by
  rw [List.take_succ_eq_append_getElem h, List.flatten_append]
  simp only [List.flatten_cons, List.flatten_nil, List.append_nil]
  simp [List.getD, h]
theorem flatCC_len (L : List (List Lt)) : L.flatten.length = sumLenC L := by simp [sumLenC, List.length_flatten]
theorem wp_app_lits {wr : World} {base : Nat} {vs : Value} {zs ys : List LV} {acc c : List Lt} {W' : World} {v' : Value}
    (hz : Lies base wr zs acc) (hy : Lies base wr ys c) (hown : RowC base wr vs zs) (hlo : base ≤ wr.heap.size) (h1 : W'.ownsRow base 67 3 v' (zs.length + ys.length) (cellsC zs ++ cellsC ys)) (hg : wr.grownBy W' vs.ownBlock) :
    RowC base W' v' (zs ++ ys) ∧ Lies base W' (zs ++ ys) (acc ++ c) := by
  refine ⟨by show World.ownsRow _ _ _ _ _ _ _; rw [cellsC_app, List.length_append]; exact h1, (hz.app hy).same fun b h2 h3 => hg.block b h3 fun e => ?_⟩
  have := own_base hown b e.symm
  omega

set_option maxRecDepth 100000 in
set_option maxHeartbeats 1000000 in
theorem concatC_c (B o c : Nat) (L : List (List Lt)) (w : World) (hL : L.length ≤ 1048576) (hs : sumLenC L ≤ 1099511627776) (hp : PartsC w B o L) :
    Calls Tryz.prog 115 #[.slice (some ⟨B, o, none⟩) L.length c] w (RetSC w L.flatten) := by
  obtain ⟨i0, hi0, hz0, hz1, hz2⟩ := info_parts Tryz.info67
  go_enter Tryz.func115, Tryz.ntmps115
  go_wp2_with fail
  go_loop [3, 11] (fun n i => ∃ j : Nat, j ≤ L.length ∧ i = .int .i64 j ∧ n = .int .i64 (sumLenC (L.take j))) (fun _ i => L.length - (intOf i).toNat)
  case atStart => exact ⟨0, Nat.zero_le _, rfl, by simp [sumLenC]⟩
  case round =>
    obtain ⟨j, hj, rfl, rfl⟩ := hrel
    have hle := sumLenC_le L j
    by_cases hlt : j < L.length
    · obtain ⟨ad, cc, hcell, hsl⟩ := hp j hlt
      have E := Lib.hid (sumLenC_take L j hlt)
      have hle2 := sumLenC_le L (j + 1)
      rw [E.out] at hle2
      clear hp hsl
      generalize L.getD j [] = xs at *
      generalize sumLenC (L.take j) = m at *
      go_wp2_with fail
      go_round
      case rel => exact ⟨j + 1, by omega, by go_num, by rw [E.out]; go_num⟩
      case measure => simp [intOf]; omega
    · have e1 : L.take j = L := List.take_of_length_le (by omega)
      rw [e1]
      clear e1
      go_wp2_with fail
      refine (growC_c (sumLenC L) _ (by omega)).mono ?_; rintro e w1 ⟨ad, m, c1, rfl, hown, hb⟩
      go_wp2_with fail
      go_loopw [6, 27] (fun v i wr => ∃ (j : Nat) (zs : List LV), j ≤ L.length ∧ i = .int .i64 j ∧ RowC w.heap.size wr v zs ∧ Lies w.heap.size wr zs (L.take j).flatten ∧ Bel w wr) (fun _ i _ => L.length - (intOf i).toNat)
      case atStart => exact ⟨0, [], Nat.zero_le _, rfl, hown, Lies.nil _ _, hb⟩
      case round =>
        obtain ⟨j, zs, hj, rfl, hown, hlies, hb⟩ := hrel
        have hle := sumLenC_le L j
        rw [← flatCC_len, ← hlies.1] at hle
        by_cases hlt : j < L.length
        · obtain ⟨ad, cc, hcell, hsl⟩ := (hp.below hb) j hlt
          have E := Lib.hid (flatCC_take L j hlt)
          have hle2 := sumLenC_le L (j + 1)
          rw [← flatCC_len, E.out, List.length_append, ← hlies.1] at hle2
          clear hp
          generalize L.getD j [] = xs at *
          generalize (L.take j).flatten = acc at *
          cases ad with
          | none =>
            obtain ⟨ad', cap', e, -, hm, hr⟩ := hsl
            simp only [Value.slice.injEq] at e
            obtain ⟨rfl, -, rfl⟩ := e
            obtain rfl : xs = [] := by
              rcases Nat.eq_zero_or_pos xs.length with h0 | h0
              · exact List.length_eq_zero_iff.1 h0
              · obtain ⟨_, _, e, _⟩ := hr h0; simp at e
            obtain rfl : cc = 0 := hm.2 rfl
            have E2 := Lib.hid (show (L.take (j+1)).flatten = acc by rw [E.out]; simp)
            have HL := Lib.hid hlies
            clear hr hm E hlies
            go_wp2_with (at_builtin; refine wpList_append_own_none rfl _ _ 30 rfl w.heap.size 67 i0 3 Tryz.underlying30 hi0 _ _ _ rfl hown rfl ?_)
            go_roundw
            case rel => exact ⟨j + 1, zs, by omega, by go_num, hown, by rw [E2.out]; exact HL.out, hb⟩
            case measure => simp [intOf]; omega
          | some a =>
            obtain ⟨ys, hy, hn⟩ := hsl.bound (Nat.le_refl _)
            have hyl := hy.1
            have HN := hn a rfl
            have hyo := hy.one
            have HL := Lib.hid (And.intro hlies hy)
            have HYL := Lib.hid hyl
            clear hsl hn hlies hy
            go_wp2_with (at_builtin; refine wpList_append_own _ rfl _ _ 30 rfl w.heap.size 67 i0 (.agg #[.bool false, .slice none 0 0, .slice none 0 0]) 3 56 Tryz.underlying30 hi0 hz0 hz1 hz2 rfl (by decide) _ _ _ rfl hown a xs.length cc (cellsC ys) rfl (by rw [cellsC_len, HYL.out]) HN hyo (by unfold maxLen; omega) (by omega) hb.size ?_; intro v' w2 hown' hgrow _)
            have hb2 := hb.grown hgrow (fun k hk => own_base hown k hk)
            obtain ⟨R2, L2⟩ := wp_app_lits HL.out.1 HL.out.2 hown hb.size (by rw [HYL.out]; exact hown') hgrow
            go_roundw
            case rel => exact ⟨j + 1, zs ++ ys, by omega, by go_num, R2, by rw [E.out]; exact L2, hb2⟩
            case measure => simp [intOf]; omega
        · have e1 : L.take j = L := List.take_of_length_le (by omega)
          rw [e1] at hlies
          clear e1
          have hsc := SlC.of_row hown hlies hb.size
          go_wp2_with fail
          obtain ⟨g, n, c2, hv⟩ := own_form hown
          subst hv
          go_ret
          exact ⟨_, _, _, rfl, hsc, hb⟩
end Go.Proofs.YtikllmdmifecpaaGreatDoor
end
section
/- Match: the program's. -/
namespace Go.Proofs.YtikllmdmifecpaaGreatDoor
open Go.RowKit Go.Maps

def RetAg (b m : Nat) (f : Nat → Option Value) (v : Nat) (x : Value) (q : Bool) (w : World) (e : Ending) (w' : World) : Prop := e = .returned (.bool q) ∧ MapV w' b (m+1) (upd f v (some x)) ∧ Chg b (b+1) w w'
/-- What the map holds, told by terms. -/
def Holds (w : World) (f : Nat → Option Value) (F : Nat → List Int) : Prop := ∀ v, v < 12 → (F v).length ≤ 40 ∧ ((F v = [] ∧ f v = none) ∨ (F v ≠ [] ∧ ∃ u lo hi, f v = some u ∧ SlI lo hi w u (F v)))
theorem Holds.start (w : World) : Holds w (fun _ => none) (fun _ => []) := fun v _ => ⟨by simp, .inl ⟨rfl, rfl⟩⟩
theorem Holds.bel {w w' : World} {f : Nat → Option Value} {F : Nat → List Int} (h : Holds w f F) (hb : Bel w w') : Holds w' f F := fun v hv => ⟨(h v hv).1, (h v hv).2.imp id fun ⟨a, u, lo, hi, e, s⟩ => ⟨a, u, lo, hi, e, s.below hb⟩⟩
theorem Holds.chg {w w' : World} {f : Nat → Option Value} {F : Nat → List Int} {b m : Nat} {f' : Nat → Option Value} (h : Holds w f F) (hM : MapV w b m f') (k : Chg b (b+1) w w') : Holds w' f F :=
  fun v hv => ⟨(h v hv).1, (h v hv).2.imp id fun ⟨a, u, lo, hi, e, s⟩ => ⟨a, u, lo, hi, e, s.chgMap hM k⟩⟩
theorem Holds.put {w : World} {f : Nat → Option Value} {F : Nat → List Int} (h : Holds w f F) (v : Nat) (x : Value) (t : List Int) (lo hi : Nat) (ht : t.length ≤ 40) (hp : 0 < t.length) (hx : SlI lo hi w x t) : Holds w (upd f v (some x)) (upd F v t) := by
  intro i hi'
  by_cases e : i = v
  · subst e
    rw [upd_same, upd_same]
    exact ⟨ht, .inr ⟨by intro h; rw [h] at hp; simp at hp, x, lo, hi, rfl, hx⟩⟩
  · rw [upd_other _ _ e, upd_other _ _ e]; exact h i hi'
theorem Holds.sub {w : World} {f : Nat → Option Value} {F : Nat → List Int} (h : Holds w f F) : ∀ v, v < 12 → (F v).length ≤ 1048576 ∧ ∃ lo hi, SlI lo hi w ((f v).getD (.slice none 0 0)) (F v) := by
  intro v hv
  obtain ⟨h1, h2⟩ := h v hv
  refine ⟨by omega, ?_⟩
  rcases h2 with ⟨e1, e2⟩ | ⟨_, u, lo, hi, e, s⟩
  · rw [e1, e2]; exact ⟨0, 0, SlI.nil 0 0 w⟩
  · rw [e]; exact ⟨lo, hi, s⟩

theorem Holds.same {w w' : World} {f : Nat → Option Value} {F : Nat → List Int} (h : Holds w f F) (k : ∀ lo hi u xs, SlI lo hi w u xs → SlI lo hi w' u xs) : Holds w' f F :=
  fun v hv => ⟨(h v hv).1, (h v hv).2.imp id fun ⟨a, u, lo, hi, e, s⟩ => ⟨a, u, lo, hi, e, k lo hi u _ s⟩⟩
/-- What a match leaves behind: the map of the found terms has been written, and nothing else. -/
def RetMt (b m : Nat) (R : Option (Nat → List Int)) (w : World) (e : Ending) (w' : World) : Prop :=
  ∃ m' f', e = .returned (.bool R.isSome) ∧ m ≤ m' ∧ m' ≤ m + 40 ∧ MapV w' b m' f' ∧ Chg b (b+1) w w' ∧ ∀ G, R = some G → Holds w' f' G

end Go.Proofs.YtikllmdmifecpaaGreatDoor
end
section
/- Unify: the program's inner functions. -/
namespace Go.Proofs.YtikllmdmifecpaaGreatDoor
open Go.RowKit Go.Maps

theorem putFor_take (n : Int) (u t : List Int) (k : Nat) (hk : k < t.length) : putFor n u (t.take (k+1)) = putFor n u (t.take k) ++ (if t.getD k 0 = n then u else [t.getD k 0]) := by
  rw [List.take_succ_eq_append_getElem hk, putFor_append, putFor_cons, putFor_nil, List.append_nil]
  simp [List.getD, hk]

set_option maxRecDepth 100000 in
set_option maxHeartbeats 400000 in
theorem iPutFor_c (l h l' h' : Nat) (v x : Value) (t u : List Int) (n : Int) (w : World) (ht : t.length ≤ 1024) (hu40 : u.length ≤ 40) (hup : 0 < u.length) (hv : SlI l h w v t) (hx : SlI l' h' w x u) :
    Calls Tryz.prog 159 #[v, .int .i64 n, x] w (RetI w (putFor n u t)) := by
  obtain ⟨i0, hi0, hz0, hz1, hz2⟩ := info_parts Tryz.info3
  obtain ⟨ad, cap, rfl, -, -, hr⟩ := hv
  obtain ⟨pb, po, pc, rfl, hpc⟩ := hx.plain hup
  go_enter Tryz.func159, Tryz.ntmps159
  go_wp2_with fail
  go_loopw [7, 12] (fun vs i wr => ∃ k : Nat, k ≤ t.length ∧ i = .int .i64 k ∧ wr.ownsRow w.heap.size 3 1 vs (putFor n u (t.take k)).length ((putFor n u (t.take k)).map (Value.int .i64)) ∧ Bel w wr) (fun _ i _ => t.length - (intOf i).toNat)
  case atStart => exact ⟨0, Nat.zero_le _, rfl, World.ownsRow_nil _ _ _ _, Bel.rfl' _⟩
  case round =>
    obtain ⟨k, hk, rfl, hown, hb2⟩ := hrel
    by_cases hlt : k < t.length
    · obtain ⟨bt, offt, rfl, hbl, hcell⟩ := rd hr hb2 k hlt
      have hsucc := putFor_take n u t k hlt
      have hal := putFor_len (n := n) (t := t.take k) hu40 (by omega)
      have hal2 : (putFor n u (t.take k)).length ≤ 40960 := by simp at hal; omega
      clear hr hal
      generalize t.getD k 0 = m at *
      generalize putFor n u (t.take k) = acc at *
      generalize hq : putFor n u (t.take (k+1)) = nxt at *
      by_cases hm : m = n
      · subst hm
        rw [if_pos rfl] at hsucc
        have hn := news_of_sl (hx.below hb2)
        have HS := Lib.hid (And.intro hq hsucc)
        clear hq hsucc
        go_wp2_with (at_builtin; refine wpList_append_own _ rfl _ _ 22 rfl w.heap.size 3 i0 (.int .i64 0) 1 8 Tryz.underlying22 hi0 hz0 hz1 hz2 rfl (by decide) _ _ _ rfl hown ⟨pb, po, none⟩ u.length pc (u.map (Value.int .i64)) rfl (by simp) hn (ones_int _) (by unfold maxLen; first | omega | (simp; omega)) (by first | omega | (simp; omega)) (by have := hb2.size; first | omega | (simp; omega)) ?_; intro v' w1 hown' hgrow _)
        have hb3 := hb2.grown hgrow (fun k hk => own_base hown k hk)
        have hown2 := row_app (by simpa using hown')
        go_roundw
        case rel => exact ⟨k+1, by omega, by go_num, by rw [HS.out.1, HS.out.2]; exact hown2, hb3⟩
        case measure => simp [intOf]; omega
      · rw [if_neg hm] at hsucc
        have HS := Lib.hid (And.intro hq hsucc)
        have hm2 : (m == n) = false := by simpa using hm
        clear hq hsucc hm
        go_wp2_with (at_builtin; refine wpList_append_own _ rfl _ _ 22 rfl w.heap.size 3 i0 (.int .i64 0) 1 8 Tryz.underlying22 hi0 hz0 hz1 hz2 rfl (by decide) _ _ _ rfl (hown.alloc _) ⟨wr.heap.size, 0, none⟩ 1 1 [.int .i64 m] rfl rfl (news_one _ _ _) (one_int _) (by unfold maxLen; first | omega | (simp; omega)) (by first | omega | (simp; omega)) (by have := hb2.size; first | omega | (simp; omega)) ?_; intro v' w1 hown' hgrow _; have hb3 := (hb2.alloc (.cells #[.int .i64 m] 3)).grown hgrow (fun k hk => own_base hown k hk); have hown2 := row_snoc hown')
        go_roundw
        case rel => exact ⟨k+1, by omega, by go_num, by rw [HS.out.1, HS.out.2]; exact hown2, hb3⟩
        case measure => simp [intOf]; omega
    · have e : t.take k = t := List.take_of_length_le (by omega)
      rw [e] at hown
      go_wp2_with fail
      obtain ⟨g, n, c, hv'⟩ := own_form hown
      subst hv'
      go_ret
      exact ⟨_, _, _, rfl, OwnI.of_row hown, hb2⟩

def idxOf (t : List Int) (n : Int) (e : Ending) : Prop := (n ∈ t ∧ ∃ k : Nat, k < t.length ∧ e = .returned (.int .i64 k)) ∨ (n ∉ t ∧ e = .returned (.int .i64 (-1)))
set_option maxRecDepth 100000 in
set_option maxHeartbeats 400000 in
theorem slIndex_c (l h : Nat) (v : Value) (t : List Int) (n : Int) (w : World) (ht : t.length ≤ 1048576) (hv : SlI l h w v t) :
    Calls Tryz.prog 200 #[v, .int .i64 n] w (fun e w' => idxOf t n e ∧ Bel w w') := by
  obtain ⟨ad, cap, rfl⟩ := hv.form
  go_enter Tryz.func200, Tryz.ntmps200
  go_wp2_with fail
  go_loop [8] (fun i => ∃ k : Nat, k ≤ t.length ∧ i = .int .i64 k ∧ n ∉ t.take k) (fun i => t.length - (intOf i).toNat)
  case atStart => exact ⟨0, Nat.zero_le _, rfl, by simp⟩
  case round =>
    obtain ⟨k, hk, rfl, hn⟩ := hrel
    by_cases hlt : k < t.length
    · obtain ⟨b, off, rfl, -, hcell⟩ := hv.at k hlt
      have E1 := Lib.hid (fun h => not_take_succ hlt (n := n) h hn)
      have E2 := Lib.hid (show t.getD k 0 = n → n ∈ t from fun h => by rw [← h]; simp [List.getD, hlt])
      clear hn hv
      generalize t.getD k 0 = x at *
      by_cases hx : x = n
      · have E := Lib.hid (E2.out hx)
        subst hx
        clear E1 E2
        go_wp2_with fail
        go_ret
        exact ⟨.inl ⟨E.out, k, hlt, rfl⟩, Bel.rfl' _⟩
      · have E := Lib.hid (E1.out hx)
        have hx' : (n == x) = false := by simpa using fun h => hx h.symm
        clear hx E1 E2
        go_wp2_with fail
        go_round
        case rel => exact ⟨k+1, by omega, by go_num, E.out⟩
        case measure => simp [intOf]; omega
    · rw [List.take_of_length_le (by omega)] at hn
      have E := Lib.hid hn
      clear hn
      go_wp2_with fail
      go_ret
      exact ⟨.inr ⟨E.out, rfl⟩, Bel.rfl' _⟩
set_option maxRecDepth 100000 in
set_option maxHeartbeats 400000 in
theorem slContains_v (l h : Nat) (v : Value) (t : List Int) (n : Int) (q : Bool) (w : World) (he : decide (n ∈ t) = q) (ht : t.length ≤ 1048576) (hv : SlI l h w v t) :
    Calls Tryz.prog 185 #[v, .int .i64 n] w (RetV w (.bool q)) := by
  have HE := Lib.hid he
  clear he
  go_enter Tryz.func185, Tryz.ntmps185
  go_wp2_with fail
  refine (slIndex_c _ _ _ t n _ ht hv).mono ?_; rintro e w1 ⟨hi, hb⟩
  rcases hi with ⟨hm, k, hk, rfl⟩ | ⟨hm, rfl⟩
  · have hd : decide (0 ≤ (k : Int)) = true := by simp
    go_wp2_with fail
    go_ret
    exact ⟨by rw [← HE.out, decide_eq_true hm]; rfl, hb⟩
  · go_wp2_with fail
    go_ret
    exact ⟨by rw [← HE.out, decide_eq_false hm]; rfl, hb⟩
end Go.Proofs.YtikllmdmifecpaaGreatDoor
end
section
/- Unify: what the program replaces in a round. -/
namespace Go.Proofs.YtikllmdmifecpaaGreatDoor
open Go.RowKit Go.Maps

def RetRep (n : Int) (u : List Int) (bad : Bool) (w : World) (e : Ending) (w' : World) : Prop :=
  Bel w w' ∧ match bad with
    | true => e = .returned (.tuple #[.int .i64 0, .slice none 0 0, .bool false])
    | false => ∃ a c lo hi, e = .returned (.tuple #[.int .i64 n, .slice a u.length c, .bool true]) ∧ SlI lo hi w' (.slice a u.length c) u

set_option maxRecDepth 100000 in
set_option maxHeartbeats 1000000 in
theorem replacement_c (l h l' h' l2 h2 : Nat) (v p q : Value) (ar x y : List Int) (e : Nat) (bad : Bool) (w : World) (hg : goodSign ar = true) (hR : URound ar x y (lowN x y) (other x y) (putU ar x y) (dif x y) e) (hbd : badU ar x y ↔ bad = true) (hx40 : x.length ≤ 40) (hy40 : y.length ≤ 40) (hv : SlI l h w v ar) (hp : SlI l' h' w p x) (hq : SlI l2 h2 w q y) :
    Calls Tryz.prog 158 #[.agg #[v], p, q] w (RetRep (lowN x y) (putU ar x y) bad w) := by
  have hbf := dif_before x y
  have hlt1 := hR.dx
  have hlt2 := hR.dy
  have hne := hR.ne
  have hlow : lowN x y = if y.getD (dif x y) 0 < x.getD (dif x y) 0 then y.getD (dif x y) 0 else x.getD (dif x y) 0 := rfl
  have hoth : other x y = if y.getD (dif x y) 0 < x.getD (dif x y) 0 then x else y := rfl
  obtain ⟨-, -, -, -, -, hdd, hen, hde, heo, hpu, -⟩ := hR
  unfold badU at hbd
  generalize putU ar x y = u at *
  subst hpu
  generalize lowN x y = n at *
  generalize other x y = o at *
  generalize hdv : dif x y = d at *
  clear hdv
  obtain ⟨pb, po, pc, rfl, hpc⟩ := hp.plain (by omega)
  obtain ⟨qb, qo, qc, rfl, hqc⟩ := hq.plain (by omega)
  have HX := Lib.hid (And.intro hlow (And.intro hoth (And.intro hen hbd)))
  clear hlow hoth hen hbd
  go_enter Tryz.func158, Tryz.ntmps158
  go_wp2_with fail
  go_loopw [9] (fun i wr => ∃ k : Nat, k ≤ d ∧ i = .int .i64 k ∧ Bel (w.alloc (.cells #[v] 33)) wr) (fun i _ => d - (intOf i).toNat)
  case atStart => exact ⟨0, Nat.zero_le _, rfl, Bel.rfl' _⟩
  case round =>
    obtain ⟨k, hk, rfl, hb⟩ := hrel
    have hbox := boxc hb 0 _ rfl
    have hpw := hp.below hb.of_alloc
    have hqw := hq.below hb.of_alloc
    obtain ⟨b1, o1, e1, -, hc1⟩ := hpw.at k (by omega)
    obtain ⟨b2, o2, e2, -, hc2⟩ := hqw.at k (by omega)
    simp only [Option.some.injEq, Addr.mk.injEq] at e1 e2
    obtain ⟨rfl, rfl, -⟩ := e1
    obtain ⟨rfl, rfl, -⟩ := e2
    have hkx : (k : Int) < x.length := by omega
    have hky : (k : Int) < y.length := by omega
    by_cases hlt : k < d
    · obtain ⟨-, -, h3⟩ := hbf k hlt
      rw [← h3] at hc2
      have HB := Lib.hid hbf
      clear hbf h3 hne
      generalize x.getD k 0 = m at *
      have hw24 := IntWalk.i64_in ((k : Int) + 1) (by omega)
      go_wp2_with fail
      go_quiet (fail)
      go_wp2_with fail
      go_roundw
      case rel => exact ⟨k+1, by omega, by go_num, hb.drewN _⟩
      case measure => simp [intOf]; omega
    · obtain rfl : k = d := by omega
      clear hbf
      generalize x.getD k 0 = m1 at *
      generalize y.getD k 0 = m2 at *
      have hne2 : (m1 == m2) = false := by simpa using hne
      by_cases hsw : m2 < m1
      · have hgt : decide (m2 < m1) = true := by simpa using hsw
        obtain ⟨hlow, hoth, hen, hbd⟩ := HX.out
        rw [if_pos hsw] at hlow hoth
        subst hlow hoth
        have hcut := hpw.cut k e (by omega) heo
        have hpl' := partOf_len o k e heo
        have hke : (k : Int) < e := by omega
        have hke2 : (k : Int) ≤ e := by omega
        have heo2 : (e : Int) ≤ o.length := by omega
        have hec : (e : Int) ≤ pc := by omega
        have hcut2 : SlI _ _ wr (.slice (some ⟨pb, po + k, none⟩) (e - k) (pc - k)) (partOf o k e) := hcut
        clear hcut
        go_wp2_with fail
        go_quiet (fail)
        go_wp2_with fail
        go_quiet (fail)
        go_wp2_with fail
        refine (termEnd_v _ _ _ _ _ _ ar o k e _ hen hg (by omega) (by omega) (hv.below (hb.drewN _).of_alloc) (hp.below (hb.drewN _).of_alloc)).mono ?_; rintro e' w3 ⟨rfl, hb3⟩
        have hbw := (hb.drewN _).step hb3
        by_cases hn : 0 ≤ n
        · have hd0 : decide (0 ≤ n) = true := by simpa using hn
          have hb0 := hbd.1 (.inl hn)
          subst hb0
          go_wp2_with fail
          go_ret3
          exact ⟨hbw.of_alloc, rfl⟩
        · have hd0 : decide (0 ≤ n) = false := by simpa using hn
          have HC := Lib.hid ((hcut2.below ((Bel.rfl' wr).drewN _)).below hb3)
          by_cases hm : n ∈ partOf o k e
          · have hb0 := hbd.1 (.inr hm)
            have hdm : decide (n ∈ partOf o k e) = true := by simpa using hm
            subst hb0
            go_wp2_with fail
            refine (slContains_v _ _ _ (partOf o k e) n true _ hdm (by omega) HC.out).mono ?_; rintro e2 w4 ⟨rfl, hb4⟩
            go_wp2_with fail
            go_ret3
            exact ⟨(hbw.step hb4).of_alloc, rfl⟩
          · have hb0 : bad = false := by
              cases bad with
              | false => rfl
              | true => exact absurd (hbd.2 rfl) (by rintro (h | h); exact hn h; exact hm h)
            have hdm : decide (n ∈ partOf o k e) = false := by simpa using hm
            subst hb0
            go_wp2_with fail
            refine (slContains_v _ _ _ (partOf o k e) n false _ hdm (by omega) HC.out).mono ?_; rintro e2 w4 ⟨rfl, hb4⟩
            go_wp2_with fail
            go_ret3
            exact ⟨(hbw.step hb4).of_alloc, _, _, _, _, by rw [hpl']; rfl, by rw [hpl']; exact HC.out.below hb4⟩
      · have hgt : decide (m2 < m1) = false := by simpa using hsw
        obtain ⟨hlow, hoth, hen, hbd⟩ := HX.out
        rw [if_neg hsw] at hlow hoth
        subst hlow hoth
        have hcut := hqw.cut k e (by omega) heo
        have hpl' := partOf_len o k e heo
        have hke : (k : Int) < e := by omega
        have hke2 : (k : Int) ≤ e := by omega
        have heo2 : (e : Int) ≤ o.length := by omega
        have hec : (e : Int) ≤ qc := by omega
        have hcut2 : SlI _ _ wr (.slice (some ⟨qb, qo + k, none⟩) (e - k) (qc - k)) (partOf o k e) := hcut
        clear hcut
        go_wp2_with fail
        go_quiet (fail)
        go_wp2_with fail
        go_quiet (fail)
        go_wp2_with fail
        refine (termEnd_v _ _ _ _ _ _ ar o k e _ hen hg (by omega) (by omega) (hv.below (hb.drewN _).of_alloc) (hq.below (hb.drewN _).of_alloc)).mono ?_; rintro e' w3 ⟨rfl, hb3⟩
        have hbw := (hb.drewN _).step hb3
        by_cases hn : 0 ≤ n
        · have hd0 : decide (0 ≤ n) = true := by simpa using hn
          have hb0 := hbd.1 (.inl hn)
          subst hb0
          go_wp2_with fail
          go_ret3
          exact ⟨hbw.of_alloc, rfl⟩
        · have hd0 : decide (0 ≤ n) = false := by simpa using hn
          have HC := Lib.hid ((hcut2.below ((Bel.rfl' wr).drewN _)).below hb3)
          by_cases hm : n ∈ partOf o k e
          · have hb0 := hbd.1 (.inr hm)
            have hdm : decide (n ∈ partOf o k e) = true := by simpa using hm
            subst hb0
            go_wp2_with fail
            refine (slContains_v _ _ _ (partOf o k e) n true _ hdm (by omega) HC.out).mono ?_; rintro e2 w4 ⟨rfl, hb4⟩
            go_wp2_with fail
            go_ret3
            exact ⟨(hbw.step hb4).of_alloc, rfl⟩
          · have hb0 : bad = false := by
              cases bad with
              | false => rfl
              | true => exact absurd (hbd.2 rfl) (by rintro (h | h); exact hn h; exact hm h)
            have hdm : decide (n ∈ partOf o k e) = false := by simpa using hm
            subst hb0
            go_wp2_with fail
            refine (slContains_v _ _ _ (partOf o k e) n false _ hdm (by omega) HC.out).mono ?_; rintro e2 w4 ⟨rfl, hb4⟩
            go_wp2_with fail
            go_ret3
            exact ⟨(hbw.step hb4).of_alloc, _, _, _, _, by rw [hpl']; rfl, by rw [hpl']; exact HC.out.below hb4⟩
end Go.Proofs.YtikllmdmifecpaaGreatDoor
end
section
/- Unify: the program's. -/
namespace Go.Proofs.YtikllmdmifecpaaGreatDoor
open Go.RowKit Go.Maps

theorem slI_len {lo hi : Nat} {w : World} {ad : Option Addr} {n c : Nat} {xs : List Int} (h : SlI lo hi w (.slice ad n c) xs) : n = xs.length := by
  obtain ⟨ad', c', e⟩ := h.form
  simp only [Value.slice.injEq] at e
  exact e.2.1
def IRel (ar a b : List Int) (R : Option (Nat → List Int)) (B : Nat) (w0 : World) (k : Nat) (p q : Value) (wr : World) : Prop :=
  ∃ (xs ys : List Int) (F : Nat → List Int) (f : Nat → Option Value) (m : Nat), m + 14 * k ≤ 182 ∧ k + cnt F 12 = 13 ∧ UInv ar a b xs ys F ∧ R = uniGo ar k xs ys F ∧ (∃ lo hi, SlI lo hi wr p xs) ∧ (∃ lo hi, SlI lo hi wr q ys) ∧ MapV wr B m f ∧ Holds wr f F ∧ Bel w0 wr

/-- The terms found, with the new one put into those of the first i variables. -/
def gotF (n : Int) (u : List Int) (F : Nat → List Int) (vs : List Int) : Nat → List Int := fun v => if (v : Int) ∈ vs then putFor n u (F v) else F v
theorem gotF_nil (n : Int) (u : List Int) (F : Nat → List Int) : gotF n u F [] = F := by funext v; simp [gotF]
theorem gotF_snoc (n : Int) (u : List Int) (F : Nat → List Int) (vs : List Int) (v : Nat) : gotF n u F (vs ++ [(v : Int)]) = upd (gotF n u F vs) v (putFor n u (F v)) := by
  funext i
  unfold gotF upd
  by_cases e : i = v
  · subst e; simp
  · have e2 : ¬ (i : Int) = (v : Int) := by omega
    rw [if_neg e]
    simp only [List.mem_append, List.mem_singleton, e2, or_false]
theorem gotF_end {n : Int} {u : List Int} {F : Nat → List Int} {vs : List Int} (h : ∀ v : Nat, v < 12 → (v : Int) ∉ vs → F v = []) (hlow : ∀ v, 12 ≤ v → F v = []) : gotF n u F vs = fun v => putFor n u (F v) := by
  funext v
  unfold gotF
  split
  · rfl
  · rename_i hv
    rcases Nat.lt_or_ge v 12 with h1 | h1
    · rw [h v h1 hv]; rfl
    · rw [hlow v h1]; rfl
theorem holds_some {w : World} {f : Nat → Option Value} {F : Nat → List Int} (h : Holds w f F) {v : Nat} (hv : v < 12) (hs : (f v).isSome = true) : F v ≠ [] ∧ ∃ u lo hi, f v = some u ∧ SlI lo hi w u (F v) := by
  rcases (h v hv).2 with ⟨_, e⟩ | h2
  · rw [e] at hs; simp at hs
  · exact h2
theorem holds_none {w : World} {f : Nat → Option Value} {F : Nat → List Int} (h : Holds w f F) {v : Nat} (hv : v < 12) (hs : ¬ (f v).isSome = true) : F v = [] := by
  rcases (h v hv).2 with ⟨e, _⟩ | ⟨_, u, _, _, e, _⟩
  · exact e
  · rw [e] at hs; simp at hs

set_option maxRecDepth 100000 in
set_option maxHeartbeats 1000000 in
theorem iUnify_t {l h l' h' l2 h2 : Nat} {v x y : Value} {ar a b : List Int} {w : World} (ha : ar.length ≤ 1048576) (hv : SlI l h w v ar) (hal : a.length ≤ 1048576) (hx : SlI l' h' w x a) (hbl : b.length ≤ 1048576) (hy : SlI l2 h2 w y b) :
    Calls Tryz.prog 113 #[.agg #[v], x, y] w (RetSSB w (unifyAns ar a b) (unifyOk ar a b)) := by
  cases hs : goodTerm ar a with
  | false =>
    have h0 : uniOk0 ar a b = false := by simp [uniOk0, hs]
    have E := Lib.hid (unify_no0 h0).1
    have E2 := Lib.hid (unify_no0 h0).2
    have HS := Lib.hid hs; clear hs h0
    go_enter Tryz.func113, Tryz.ntmps113
    go_wp2_with fail
    refine (iGoodTerm_v _ _ _ _ _ _ _ _ _ _ HS.out ha hal (hv.alloc _) (hx.alloc _)).mono ?_; rintro e w1 ⟨rfl, hb1⟩
    go_wp2_with fail
    go_ret2
    exact ⟨_, _, _, by rw [E2.out]; rfl, by rw [E.out]; exact OwnS.nil _ _ _, hb1.of_alloc⟩
  | true =>
    obtain ⟨hg, hop⟩ := goodTerm_iff.1 hs
    cases hs2 : okTerm ar b with
    | false =>
      have h0 : uniOk0 ar a b = false := by simp [uniOk0, hs2]
      have E := Lib.hid (unify_no0 h0).1
      have E2 := Lib.hid (unify_no0 h0).2
      have HS := Lib.hid (And.intro hs (show goodTerm ar b = false by simp [goodTerm, hs2])); clear hs hs2 h0
      go_enter Tryz.func113, Tryz.ntmps113
      go_wp2_with fail
      refine (iGoodTerm_v _ _ _ _ _ _ _ _ _ _ HS.out.1 ha hal (hv.alloc _) (hx.alloc _)).mono ?_; rintro e w1 ⟨rfl, hb1⟩
      have hx1 := boxc hb1 0 _ rfl
      go_wp2_with fail
      refine (iGoodTerm_v _ _ _ _ _ _ _ _ _ _ HS.out.2 ha hbl (hv.below hb1.of_alloc) (hy.below hb1.of_alloc)).mono ?_; rintro e w2 ⟨rfl, hb2⟩
      go_wp2_with fail
      go_ret2
      exact ⟨_, _, _, by rw [E2.out]; rfl, by rw [E.out]; exact OwnS.nil _ _ _, (hb1.step hb2).of_alloc⟩
    | true =>
      have h00 : uniOk0 ar a b = true := by simp [uniOk0, hs, hs2]
      have hU0 := UInv.start hop hs2
      have HS := Lib.hid (And.intro (And.intro hs (show goodTerm ar b = true by simp [goodTerm, hs2, hg])) h00); clear hs hs2 h00 hop
      have hmm := @run_makeMap Tryz.prog
      have hR0 : uniR ar a b = uniGo ar 13 a b (fun _ => []) := rfl
      generalize hR : uniR ar a b = R at *
      go_enter Tryz.func113, Tryz.ntmps113
      go_wp2_with fail
      refine (iGoodTerm_v _ _ _ _ _ _ _ _ _ _ HS.out.1.1 ha hal (hv.alloc _) (hx.alloc _)).mono ?_; rintro e w1 ⟨rfl, hb1⟩
      have hx1 := boxc hb1 0 _ rfl
      go_wp2_with fail
      refine (iGoodTerm_v _ _ _ _ _ _ _ _ _ _ HS.out.1.2 ha hbl (hv.below hb1.of_alloc) (hy.below hb1.of_alloc)).mono ?_; rintro e w2 ⟨rfl, hb2⟩
      have hb12 := hb1.step hb2
      have hsz12 := hb12.size
      simp only [World.size_alloc] at hsz12
      clear hb1 hb2 hx1
      go_wp2_with fail
      have hM0 := MapV.made w2
      have hB0 : Bel (w.alloc (.cells #[v] 33)) (w2.alloc (.map #[] 0)) := hb12.alloc (.map #[] 0)
      go_loopw [1, 2] (fun p q wr => ∃ k, IRel ar a b R w2.heap.size (w.alloc (.cells #[v] 33)) k p q wr) (fun p q wr => leastOf fun k => IRel ar a b R w2.heap.size (w.alloc (.cells #[v] 33)) k p q wr)
      case atStart => exact ⟨13, a, b, _, _, 0, by omega, by simp [cnt], hU0, hR0, ⟨_, _, hx.below hB0.of_alloc⟩, ⟨_, _, hy.below hB0.of_alloc⟩, hM0, Holds.start _, hB0⟩
      case round =>
        clear hM0 hB0 hU0 hR0
        obtain ⟨k, hIR, hleast⟩ := least_at hrel
        have HL := Lib.hid hleast
        clear hleast hrel
        obtain ⟨xs, ys, F, f, m, hm, hcnt, hU, hRk, ⟨lx, hx3, hxs⟩, ⟨ly, hy3, hys⟩, hM, hH, hb⟩ := hIR
        have hbox := boxc hb 0 _ rfl
        have hx40 := (okTerm_seq.1 hU.okx).1
        have hy40 := (okTerm_seq.1 hU.oky).1
        obtain ⟨xa, xc, rfl⟩ := hxs.form
        obtain ⟨ya, yc, rfl⟩ := hys.form
        have hc12 := cnt_le F 12
        obtain ⟨k, rfl⟩ : ∃ k', k = k' + 1 := ⟨k - 1, by omega⟩
        by_cases hEq : xs = ys
        · rw [ug_same hEq] at hRk
          have E := Lib.hid (unify_yes HS.out.2 (hR.trans hRk)).1
          have E2 := Lib.hid (unify_yes HS.out.2 (hR.trans hRk)).2
          have HSB := Lib.hid (fun w' (hbw : Bel wr w') => subst_c _ _ f F w' (hM.bel hbw) (hH.bel hbw).sub)
          have hdec : decide (xs = ys) = true := by simpa using hEq
          clear hRk hH hM hU hEq
          go_wp2_with fail
          refine (slEqual_v _ _ _ _ _ _ xs ys true _ hdec (by omega) (by omega) hxs hys).mono ?_; rintro e w3 ⟨rfl, hb3⟩
          go_wp2_with fail
          refine (HSB.out w3 hb3).mono ?_; rintro e w4 ⟨ao, no, co, rfl, ho, hch⟩
          go_wp2_with fail
          go_ret2
          have hz := (hb.step hb3).size
          simp only [World.size_alloc] at hz
          exact ⟨_, _, _, by rw [E2.out]; rfl, by rw [E.out]; exact ho.mono (by omega) (Nat.le_refl _), hch.bel (hb.step hb3).of_alloc (by omega)⟩
        · have hdec : decide (xs = ys) = false := by simpa using hEq
          obtain ⟨e0, hRo⟩ := uround hU hEq
          by_cases hbad : badU ar xs ys
          · rw [ug_bad hEq hbad] at hRk
            have E := Lib.hid (unify_no (hR.trans hRk)).1
            have E2 := Lib.hid (unify_no (hR.trans hRk)).2
            have HRp := Lib.hid (fun w' (hbw : Bel wr w') => replacement_c _ _ _ _ _ _ v _ _ ar xs ys e0 true w' hg hRo (by simp [hbad]) hx40 hy40 ((hv.below hb.of_alloc).below hbw) (hxs.below hbw) (hys.below hbw))
            clear hRk hH hM hU hEq hRo
            go_wp2_with fail
            refine (slEqual_v _ _ _ _ _ _ xs ys false _ hdec (by omega) (by omega) hxs hys).mono ?_; rintro e w3 ⟨rfl, hb3⟩
            have hbox3 := boxc (hb.step hb3) 0 _ rfl
            go_wp2_with fail
            refine (HRp.out w3 hb3).mono ?_; rintro e w4 ⟨hb4, rfl⟩
            go_wp2_with fail
            go_ret2
            exact ⟨_, _, _, by rw [E2.out]; rfl, by rw [E.out]; exact OwnS.nil _ _ _, ((hb.step hb3).step hb4).of_alloc⟩
          · have hok := uok hU hEq hbad
            have HRp := Lib.hid (fun w' (hbw : Bel wr w') => replacement_c _ _ _ _ _ _ v _ _ ar xs ys e0 false w' hg hRo (by simp [hbad]) hx40 hy40 ((hv.below hb.of_alloc).below hbw) (hxs.below hbw) (hys.below hbw))
            by_cases hlong : longU ar xs ys
            · rw [ug_long hEq hbad hlong] at hRk
              have E := Lib.hid (unify_no (hR.trans hRk)).1
              have E2 := Lib.hid (unify_no (hR.trans hRk)).2
              clear hRk hH hM hU hEq hRo hbad
              unfold longU at hlong
              generalize lowN xs ys = n at *
              generalize putU ar xs ys = u at *
              have hu40 := hok.u40
              have hup := hok.up
              clear hok
              go_wp2_with fail
              refine (slEqual_v _ _ _ _ _ _ xs ys false _ hdec (by omega) (by omega) hxs hys).mono ?_; rintro e w3 ⟨rfl, hb3⟩
              have hbox3 := boxc (hb.step hb3) 0 _ rfl
              go_wp2_with fail
              refine (HRp.out w3 hb3).mono ?_; rintro e w4 ⟨hb4, au, cu, lu, hu2, rfl, hus⟩
              go_wp2_with fail
              refine (iPutFor_c _ _ _ _ _ _ xs u n _ (by omega) hu40 hup (hxs.below (hb3.step hb4)) hus).mono ?_; rintro e w5 ⟨ax, nx, cx, rfl, hX, hb5⟩
              go_wp2_with fail
              refine (iPutFor_c _ _ _ _ _ _ ys u n _ (by omega) hu40 hup (hys.below ((hb3.step hb4).step hb5)) (hus.below hb5)).mono ?_; rintro e w6 ⟨ay, ny, cy, rfl, hY, hb6⟩
              have hnx := slI_len hX.sl
              have hny := slI_len hY.sl
              subst hnx hny
              have hbb := (((hb.step hb3).step hb4).step hb5).step hb6
              by_cases h1 : 40 < (putFor n u xs).length
              · have hd1 : decide (40 < ((putFor n u xs).length : Int)) = true := by simp; omega
                go_wp2_with fail
                go_ret2
                exact ⟨_, _, _, by rw [E2.out]; rfl, by rw [E.out]; exact OwnS.nil _ _ _, hbb.of_alloc⟩
              · have hd1 : decide (40 < ((putFor n u xs).length : Int)) = false := by simp; omega
                have hd2 : decide (40 < ((putFor n u ys).length : Int)) = true := by simp; omega
                go_wp2_with fail
                go_ret2
                exact ⟨_, _, _, by rw [E2.out]; rfl, by rw [E.out]; exact OwnS.nil _ _ _, hbb.of_alloc⟩
            · rw [ug_next hEq hbad hlong] at hRk
              have hUn := hok.next hlong
              have hl1 : ¬ 40 < (putFor (lowN xs ys) (putU ar xs ys) xs).length ∧ ¬ 40 < (putFor (lowN xs ys) (putU ar xs ys) ys).length := by unfold longU at hlong; omega
              clear hEq hRo hbad hlong
              generalize lowN xs ys = n at *
              generalize putU ar xs ys = u at *
              have hu40 := hok.u40
              have hup := hok.up
              have hnlo := hok.lo
              have hnneg := hok.neg
              have hmore := hok.more
              have hv12 : (-1 - n).toNat < 12 := by omega
              have hvn : ((-1 - n).toNat : Int) = -1 - n := by omega
              have hkk : keyOf Tryz.prog 3 (.int .i64 (-1 - n)) = some (kv (-1 - n).toNat) := by rw [← hvn]; exact kv_key hv12
              have hn40 := hUn.len40
              have hFlow := hU.low
              have hF40 := hU.len40
              have hU1 := Lib.hid (And.intro hU (And.intro hUn (And.intro hRk (And.intro hmore hok))))
              have hw73 := IntWalk.i64_in (-1 - n) (by omega)
              obtain ⟨hl1, hl2⟩ := hl1
              have hd1 : decide (40 < ((putFor n u xs).length : Int)) = false := by simp; omega
              have hd2 : decide (40 < ((putFor n u ys).length : Int)) = false := by simp; omega
              clear hU hUn hRk hok hmore
              go_wp2_with fail
              refine (slEqual_v _ _ _ _ _ _ xs ys false _ hdec (by omega) (by omega) hxs hys).mono ?_; rintro e w3 ⟨rfl, hb3⟩
              have hbox3 := boxc (hb.step hb3) 0 _ rfl
              go_wp2_with fail
              refine (HRp.out w3 hb3).mono ?_; rintro e w4 ⟨hb4, au, cu, lu, hu2, rfl, hus⟩
              go_wp2_with fail
              refine (iPutFor_c _ _ _ _ _ _ xs u n _ (by omega) hu40 hup (hxs.below (hb3.step hb4)) hus).mono ?_; rintro e w5 ⟨ax, nx, cx, rfl, hX, hb5⟩
              go_wp2_with fail
              refine (iPutFor_c _ _ _ _ _ _ ys u n _ (by omega) hu40 hup (hys.below ((hb3.step hb4).step hb5)) (hus.below hb5)).mono ?_; rintro e w6 ⟨ay, ny, cy, rfl, hY, hb6⟩
              have hnx := slI_len hX.sl
              have hny := slI_len hY.sl
              subst hnx hny
              have hbr := ((hb3.step hb4).step hb5).step hb6
              have hbb := hb.step hbr
              have hM6 := hM.bel hbr
              have hH6 := hH.bel hbr
              have hX6 := hX.sl.below hb6
              have hY6 := hY.sl
              have hu6 := (hus.below hb5).below hb6
              have hxe : xs.length ≤ 40 := hx40
              clear hM hH hX hY hus hxs hys hbr hb3 hb4 hb5 hb6 hbox3 hbox HRp hdec
              go_wp2_with fail
              refine (vars_c _ m f _ hM6).mono ?_; rintro e w7 ⟨av, nv, cv, vs, rfl, hV, hv12', hnd, hvv, hvs, hb7⟩
              have hnv := slI_len hV.sl
              subst hnv
              have hM7 := hM6.bel hb7
              have hH7 := hH6.bel hb7
              have hbb7 := hbb.step hb7
              have hsz7 := hbb7.size
              simp only [World.size_alloc] at hsz7
              have hbl7 := hM7.lt
              go_wp2_with fail
              go_loopw [58] (fun i wi => ∃ (j : Nat) (f' : Nat → Option Value), j ≤ vs.length ∧ i = .int .i64 j ∧ MapV wi w2.heap.size (m + j) f' ∧ Holds wi f' (gotF n u F (vs.take j)) ∧ (∀ g : Nat, g < 12 → (g : Int) ∉ vs.take j → f' g = f g) ∧ Chg w2.heap.size (w2.heap.size + 1) w7 wi) (fun i _ => vs.length - (intOf i).toNat)
              case atStart => exact ⟨0, f, Nat.zero_le _, rfl, hM7, by rw [List.take_zero, gotF_nil]; exact hH7, fun _ _ _ => rfl, Chg.refl _ _ _⟩
              case round =>
                obtain ⟨j, f', hj, rfl, hMi, hHi, hfi, hch⟩ := hrel
                by_cases hlt : j < vs.length
                · obtain ⟨bv, ov, rfl, -, hcv⟩ := (hV.sl.chgMap hM7 hch).at j hlt
                  obtain ⟨g, hg12, hgj⟩ := hvv (vs.getD j 0) (getD_mem hlt)
                  have hnot : (g : Int) ∉ vs.take j := by
                    rw [← hgj]
                    intro hm2
                    have hmd : vs.getD j 0 ∈ vs.drop j := by rw [List.drop_eq_getElem_cons hlt, show vs.getD j 0 = vs[j] from by simp [List.getD, hlt]]; exact List.mem_cons_self
                    have h1 := hnd
                    rw [← List.take_append_drop j vs, List.nodup_append] at h1
                    exact h1.2.2 _ hm2 _ hmd rfl
                  have htk : vs.take (j+1) = vs.take j ++ [(g : Int)] := by
                    rw [List.take_succ_eq_append_getElem hlt]
                    have : vs[j] = g := by simpa [List.getD, hlt] using hgj
                    rw [this]
                  rw [hgj] at hcv
                  have hfg := hfi g hg12 hnot
                  have hgs : (f g).isSome = true := (hvs g hg12).1 (by rw [← hgj]; exact getD_mem hlt)
                  obtain ⟨hne, ug, lg, hg2, hfu, hgu⟩ := holds_some hH7 hg12 hgs
                  have hguw := hgu.chgMap hM7 hch
                  have hlook := hMi.look hg12
                  rw [hfg, hfu] at hlook
                  simp only [Option.getD_some] at hlook
                  have hput40 : (putFor n u (F g)).length ≤ 40 := by
                    have := hn40 g
                    unfold nextF upd at this
                    split at this
                    · rename_i e
                      exfalso
                      have := hU1.out.2.2.2.2.free
                      rw [← e] at this
                      exact hne this
                    · exact this
                  have hFg40 := hF40 g
                  have hgot := gotF_snoc n u F (vs.take j) g
                  rw [← htk] at hgot
                  have huw := (hu6.below hb7).chgMap hM7 hch
                  obtain ⟨ag, cg, rfl⟩ := hguw.form
                  have hjl : (j : Int) < vs.length := by omega
                  have HG := Lib.hid (And.intro hgot (And.intro hput40 (And.intro hne (And.intro hHi hfi))))
                  clear hgot hput40 hne hHi hfi
                  go_wp2_with fail
                  refine (iPutFor_c _ _ _ _ _ _ (F g) u n _ (by omega) hu40 hup hguw huw).mono ?_; rintro e w8 ⟨ap, np, cp, rfl, hP, hb8⟩
                  have hMi8 := hMi.bel hb8
                  obtain ⟨n9, D9, hn9, hown9, hK9⟩ := hMi8
                  go_wp2_with (at_mapUpdate; refine wpList_mapUpdate_own _ rfl _ _ _ 174 rfl 3 22 keyInt Tryz.underlying174 _ w2.heap.size n9 D9 rfl hown9 (by unfold maxLen; omega) _ _ _ rfl rfl (kv_key hg12) _ [] rfl ?_; intro w10 hown10 hgrow)
                  have hch10 := chg_of_grown hgrow
                  have hM10 : MapV w10 w2.heap.size (m + (j + 1)) (upd f' g (some (.slice ap np cp))) := ⟨n9+1, _, by omega, hown10, hK9.put hown9.isMap hg12 _⟩
                  obtain ⟨hgot, hput40, hne, hHi, hfi⟩ := HG.out
                  have hP10 := hP.sl.chgMap (hMi.bel hb8) hch10
                  have hH10 := ((hHi.bel hb8).chg (hMi.bel hb8) hch10).put g _ (putFor n u (F g)) _ _ hput40 (List.length_pos_iff.2 (putFor_ne (List.length_pos_iff.1 hup) hne)) hP10
                  go_roundw
                  case rel => exact ⟨j+1, _, by omega, by go_num, hM10, by rw [hgot]; exact hH10, fun g' hg' hn' => (by
                    rw [htk] at hn'
                    have h1 : (g' : Int) ∉ vs.take j := fun h => hn' (List.mem_append_left _ h)
                    have h2 : g' ≠ g := fun h => hn' (by rw [h]; simp)
                    rw [upd_other _ _ h2]; exact hfi g' hg' h1), (hch.trans (Chg.of_bel hb8)).trans hch10⟩
                  case measure => simp [intOf]; omega
                · obtain rfl : j = vs.length := by omega
                  rw [List.take_length, gotF_end (fun g hg hn' => holds_none hH7 hg (fun h => hn' ((hvs g hg).2 h))) hFlow] at hHi
                  have hMi0 := hMi
                  obtain ⟨n9, D9, hn9, hown9, hK9⟩ := hMi
                  go_wp2_with (at_mapUpdate; refine wpList_mapUpdate_own _ rfl _ _ _ 174 rfl 3 22 keyInt Tryz.underlying174 _ w2.heap.size n9 D9 rfl hown9 (by unfold maxLen; omega) _ _ _ rfl rfl hkk _ [] rfl ?_; intro w10 hown10 hgrow)
                  have hch10 := chg_of_grown hgrow
                  have hM10 : MapV w10 w2.heap.size (m + vs.length + 1) (upd f' (-1 - n).toNat (some (.slice au u.length cu))) := ⟨n9+1, _, by omega, hown10, hK9.put hown9.isMap hv12 _⟩
                  have huw := ((hu6.below hb7).chgMap hM7 hch).chgMap hMi0 hch10
                  have hH10 := (hHi.chg hMi0 hch10).put (-1 - n).toNat _ u _ _ hu40 hup huw
                  have hX10 := ((hX6.below hb7).chgMap hM7 hch).chgMap hMi0 hch10
                  have hY10 := ((hY6.below hb7).chgMap hM7 hch).chgMap hMi0 hch10
                  obtain ⟨hU, hUn, hRk, hmore, hok⟩ := hU1.out
                  have hbN : Bel (w.alloc (.cells #[v] 33)) w10 := (hch.trans hch10).bel hbb7 (by simp; omega)
                  have HN := Lib.hid (show IRel ar a b R w2.heap.size (w.alloc (.cells #[v] 33)) k (.slice ax (putFor n u xs).length cx) (.slice ay (putFor n u ys).length cy) w10 from
                    ⟨_, _, nextF n u F, _, m + vs.length + 1, by omega, by omega, hUn, hRk, ⟨_, _, hX10⟩, ⟨_, _, hY10⟩, hM10, hH10, hbN⟩)
                  refine ⟨?_, ?measure⟩
                  iterate 90 (try apply Exists.intro)
                  refine ⟨?rel, rfl⟩
                  case rel => exact ⟨k, HN.out⟩
                  case measure => exact least_lt HN.out (Nat.lt_succ_self _) HL.out
end Go.Proofs.YtikllmdmifecpaaGreatDoor
end
section
/- Chapter 6, the program: Resolve. -/
namespace Go.Proofs.YtikllmdmifecpaaGreatDoor
open Go.RowKit

/-- Two slices of literals in a new block, joined. -/
theorem concat2C_c (p0 p1 : Option Addr) (n0 n1 c0 c1 : Nat) (x0 x1 : List Lt) (w : World) (hs : x0.length + x1.length ≤ 1048576)
    (h0 : SlC 0 w.heap.size w (.slice p0 n0 c0) x0) (h1 : SlC 0 w.heap.size w (.slice p1 n1 c1) x1) (t : TypeId) :
    Calls Tryz.prog 115 #[.slice (some ⟨w.heap.size, 0, none⟩) 2 2] (w.alloc (.cells #[.slice p0 n0 c0, .slice p1 n1 c1] t)).drew (RetSC (w.alloc (.cells #[.slice p0 n0 c0, .slice p1 n1 c1] t)).drew (x0 ++ x1)) := by
  obtain rfl := h0.len
  obtain rfl := h1.len
  have hb : Bel w (w.alloc (.cells #[.slice p0 x0.length c0, .slice p1 x1.length c1] t)).drew := (Bel.alloc0 w _).drew
  have hp : PartsC (w.alloc (.cells #[.slice p0 x0.length c0, .slice p1 x1.length c1] t)).drew w.heap.size 0 [x0, x1] := by
    intro j hj
    match j, hj with
    | 0, _ => exact ⟨p0, c0, (World.cell?_alloc_new w _ t 0).trans (by simp), (h0.below hb).mono (Nat.le_refl _) hb.size⟩
    | 1, _ => exact ⟨p1, c1, (World.cell?_alloc_new w _ t 1).trans (by simp), (h1.below hb).mono (Nat.le_refl _) hb.size⟩
  have := concatC_c w.heap.size 0 2 [x0, x1] _ (by simp) (by simp [sumLenC]; omega) hp
  simpa using this

set_option maxRecDepth 100000 in
set_option maxHeartbeats 2000000 in
theorem resolved_c (l h l' h' : Nat) (v u : Value) (ar : List Int) (c : List Lt) (i : Int) (w : World) (hT : Tab w) (ha : ar.length ≤ 1048576) (hg : goodSign ar = true) (hc : okLits ar c = true) (hv : SlI l h w v ar) (hu : SlC l' h' w u c) :
    Calls Tryz.prog 63 #[.agg #[v], u, .int .i64 i] w (RetSN w (resR ar c i).1 (resR ar c i).2) := by
  obtain ⟨h8, hokx⟩ := okLits_iff.1 hc
  obtain ⟨ad, cap, rfl⟩ := hu.form
  cases hin : inB i 0 ((c.length : Int) - 1) with
  | false =>
    rw [resR_none (by rw [hin]; rfl)]
    have HSD := Lib.hid (fun (w' : World) (hb : Bel w w') => hasSide_q l' h' _ c i 0 false w' (by unfold litOk; rw [hin]; rfl) (by omega) (hu.below hb))
    clear hin hu hv hokx
    go_enter Tryz.func63, Tryz.ntmps63
    go_wp2_with fail
    refine (HSD.out _ (Bel.alloc0 _ _)).mono ?_; rintro e w1 ⟨rfl, rfl⟩
    go_wp2_with fail
    go_ret2
    exact ⟨_, _, _, rfl, SlC.nil _ _ _, Bel.alloc0 _ _⟩
  | true =>
    have hb0 : 0 ≤ i ∧ i ≤ (c.length : Int) - 1 := by unfold inB at hin; simpa using hin
    obtain ⟨k, rfl⟩ : ∃ k : Nat, i = (k : Int) := ⟨i.toNat, by omega⟩
    have hkl : k < c.length := by omega
    have hkI : (k : Int) < c.length := by omega
    have HSD := Lib.hid (fun (w' : World) (hb : Bel w w') => hasSide_q l' h' _ c k 0 true w' (by unfold litOk; rw [hin]; rfl) (by omega) (hu.below hb))
    obtain ⟨b, off, u1, u2, rfl, hbs, c1, c2, c3, s1, s2⟩ := hu.at (Bel.rfl' w) k hkl
    cases hpos : (c.getD k lt0).1 with
    | true =>
      rw [resR_none (by rw [hin, Int.toNat_natCast, hpos]; rfl)]
      rw [hpos] at c1
      have c1' := (Bel.alloc0 w (.cells #[v] 33)).at hbs c1
      clear hin hu hv hokx s1 s2 hpos
      go_enter Tryz.func63, Tryz.ntmps63
      go_wp2_with fail
      refine (HSD.out _ (Bel.alloc0 _ _)).mono ?_; rintro e w1 ⟨rfl, rfl⟩
      go_wp2_with fail
      go_ret2
      exact ⟨_, _, _, rfl, SlC.nil _ _ _, Bel.alloc0 _ _⟩
    | false =>
      have hcond : (inB (k : Int) 0 ((c.length : Int) - 1) && !(c.getD (k : Int).toNat lt0).1) = true := by rw [hin, Int.toNat_natCast, hpos]; rfl
      rw [hpos] at c1
      obtain ⟨o1, o2⟩ := okLits_get hokx k hkl
      have HU := Lib.hid (fun (w' : World) (hb : Bel w w') => iUnify_t (w := w') ha (hv.below hb) (by have := (okTerm_len o1).2; omega) (s1.below hb) (by have := (okTerm_len o2).2; omega) (s2.below hb))
      have HF := Lib.hid (fun (w' : World) (hb : Bel (w.alloc (.cells #[v] 33)) w') => (⟨boxc hb 0 _ rfl, hb.at (by simp; omega) ((Bel.alloc0 w _).at hbs c1), hb.at (by simp; omega) ((Bel.alloc0 w _).at hbs c2), hb.at (by simp; omega) ((Bel.alloc0 w _).at hbs c3)⟩ : (w'.cell? ⟨w.heap.size, 0, none⟩ = some v ∧ w'.cell? ⟨b, off + k * 3, none⟩ = some (.bool false) ∧ w'.cell? ⟨b, off + k * 3 + 1, none⟩ = some u1 ∧ w'.cell? ⟨b, off + k * 3 + 2, none⟩ = some u2)))
      obtain ⟨m1, m2, m3, m4⟩ := HF.out _ (Bel.rfl' _)
      obtain ⟨n1, n2, n3, n4⟩ := HF.out _ ((Bel.rfl' _).drew)
      cases hun : unifyOk ar (c.getD k lt0).2.1 (c.getD k lt0).2.2 with
      | false =>
        rw [resR_apart hcond (by rw [Int.toNat_natCast]; exact hun)]
        rw [hun] at HU
        have HUU := HU
        clear hin hcond hu hv hokx o1 o2 hun HU c1 c2 c3
        generalize c.getD k lt0 = x at *
        obtain ⟨px, xl, xr⟩ := x
        simp only at *
        obtain ⟨a1, e1, rfl⟩ := s1.form
        obtain ⟨a2, e2, rfl⟩ := s2.form
        clear s1 s2
        go_enter Tryz.func63, Tryz.ntmps63
        go_wp2_with fail
        refine (HSD.out _ (Bel.alloc0 _ _)).mono ?_; rintro e w1 ⟨rfl, rfl⟩
        go_wp2_with fail
        have B0 := (Bel.alloc0 w (.cells #[v] 33)).drew
        go_region_held3 (fun w' => w'.cell? ⟨w.heap.size, 0, none⟩ = some v ∧ w'.cell? ⟨b, off + k * 3, none⟩ = some (.bool false) ∧ w'.cell? ⟨b, off + k * 3 + 1, none⟩ = some (.slice a1 xl.length e1) ∧ w'.cell? ⟨b, off + k * 3 + 2, none⟩ = some (.slice a2 xr.length e2))
          (first | exact ⟨n1, n2, n3, n4⟩ | exact HF.out _ ((Bel.rfl' _).drew.step hb1) | fail)
          (first | (go_at_call 113; refine (HUU.out _ B0).mono ?_; rintro e w2 ⟨a3, n5, e3, rfl, ho3, hb1⟩) | fail)
        all_goals
          go_wp2_with fail
          go_ret2
          exact ⟨_, _, _, rfl, SlC.nil _ _ _, B0.step hb1⟩
      | true =>
        have hsub := unify_subst hun
        obtain ⟨hl12, h40⟩ := unify_seat hun
        have hfr := flat_rows hc
        have hsa := applyC_short h40 hc
        have hok40 := applyC_ok hsub hc
        have hlen : (applyC (unifyAns ar (c.getD k lt0).2.1 (c.getD k lt0).2.2) c).length = c.length := by simp [applyC]
        rw [hun] at HU
        have HUU := HU
        cases hbig : okLits ar (applyC (unifyAns ar (c.getD k lt0).2.1 (c.getD k lt0).2.2) c) with
        | false =>
          rw [resR_big hcond (by rw [Int.toNat_natCast]; exact hun) (by rw [Int.toNat_natCast]; exact hbig)]
          have HA := Lib.hid (fun (w' : World) (y : Value) (lo hi : Nat) (hb : Bel w w') (hy : SlS lo hi w' y (unifyAns ar (c.getD k lt0).2.1 (c.getD k lt0).2.2)) => appliedClause_c l' h' lo hi _ y _ c w' hl12 h40 (by omega) hfr hy (hu.below hb) false _ (hok40.symm.trans hbig) rfl)
          rw [if_neg (by simp)] at HA
          clear hin hcond hu hv hokx o1 o2 hun HU c1 c2 c3 hsub hl12 h40 hfr hbig hlen hok40
          generalize applyC (unifyAns ar (c.getD k lt0).2.1 (c.getD k lt0).2.2) c = cb at *
          generalize unifyAns ar (c.getD k lt0).2.1 (c.getD k lt0).2.2 = U at *
          generalize c.getD k lt0 = x at *
          obtain ⟨px, xl, xr⟩ := x
          simp only at *
          obtain ⟨a1, e1, rfl⟩ := s1.form
          obtain ⟨a2, e2, rfl⟩ := s2.form
          clear s1 s2
          go_enter Tryz.func63, Tryz.ntmps63
          go_wp2_with fail
          refine (HSD.out _ (Bel.alloc0 _ _)).mono ?_; rintro e w1 ⟨rfl, rfl⟩
          go_wp2_with fail
          have B0 := (Bel.alloc0 w (.cells #[v] 33)).drew
          go_region_held3 (fun w' => w'.cell? ⟨w.heap.size, 0, none⟩ = some v ∧ w'.cell? ⟨b, off + k * 3, none⟩ = some (.bool false) ∧ w'.cell? ⟨b, off + k * 3 + 1, none⟩ = some (.slice a1 xl.length e1) ∧ w'.cell? ⟨b, off + k * 3 + 2, none⟩ = some (.slice a2 xr.length e2))
            (first | exact ⟨n1, n2, n3, n4⟩ | exact HF.out _ ((Bel.rfl' _).drew.step hb1) | fail)
            (first | (go_at_call 113; refine (HUU.out _ B0).mono ?_; rintro e w2 ⟨a3, n5, e3, rfl, ho3, hb1⟩) | fail)
          all_goals
            have B1 := B0.step hb1
            have m5 := (HF.out _ ((Bel.rfl' _).drew.step hb1)).1
            have HAA := Lib.hid (HA.out _ _ _ _ B1 ho3.sl)
            clear HA
            go_wp2_with fail
            refine HAA.out.mono ?_; rintro e w3 ⟨a4, n6, e4, rfl, ho4, hb2⟩
            go_wp2_with fail
            go_ret2
            exact ⟨_, _, _, rfl, SlC.nil _ _ _, B1.step hb2⟩
        | true =>
          have hcb8 := (okLits_iff.1 hbig).1
          rw [resR_yes hcond (by rw [Int.toNat_natCast]; exact hun) (by rw [Int.toNat_natCast]; exact hbig), Int.toNat_natCast]
          dsimp only
          have HA := Lib.hid (fun (w' : World) (y : Value) (lo hi : Nat) (hb : Bel w w') (hy : SlS lo hi w' y (unifyAns ar (c.getD k lt0).2.1 (c.getD k lt0).2.2)) => appliedClause_c l' h' lo hi _ y _ c w' hl12 h40 (by omega) hfr hy (hu.below hb) true _ (hok40.symm.trans hbig) rfl)
          rw [if_pos rfl] at HA
          have HM := Lib.hid (fun (w' : World) (y : Value) (lo hi : Nat) (hb : Bel w w') (hy : SlC lo hi w' y (applyC (unifyAns ar (c.getD k lt0).2.1 (c.getD k lt0).2.2) c)) => isMaximal_c lo hi y _ k w' (hT.bel hb) (okLits_short hbig) (okLits_low hbig) (by rw [hlen]; exact hkl) hy)
          clear hin hcond hu hv hokx o1 o2 hun HU c1 c2 c3 hsub hl12 h40 hfr hbig hc hok40
          generalize applyC (unifyAns ar (c.getD k lt0).2.1 (c.getD k lt0).2.2) c = cb at *
          generalize unifyAns ar (c.getD k lt0).2.1 (c.getD k lt0).2.2 = U at *
          generalize c.getD k lt0 = x at *
          obtain ⟨px, xl, xr⟩ := x
          simp only at *
          obtain ⟨a1, e1, rfl⟩ := s1.form
          obtain ⟨a2, e2, rfl⟩ := s2.form
          clear s1 s2
          generalize hR : dropAt cb k = R
          have HR := Lib.hid hR
          clear hR
          generalize hN : (if maxAt cb k = true then (0:Int) else 5) = N
          have HNN := Lib.hid hN
          clear hN
          generalize maxAt cb k = M at *
          go_enter Tryz.func63, Tryz.ntmps63
          go_wp2_with fail
          refine (HSD.out _ (Bel.alloc0 _ _)).mono ?_; rintro e w1 ⟨rfl, rfl⟩
          go_wp2_with fail
          have B0 := (Bel.alloc0 w (.cells #[v] 33)).drew
          go_region_held3 (fun w' => w'.cell? ⟨w.heap.size, 0, none⟩ = some v ∧ w'.cell? ⟨b, off + k * 3, none⟩ = some (.bool false) ∧ w'.cell? ⟨b, off + k * 3 + 1, none⟩ = some (.slice a1 xl.length e1) ∧ w'.cell? ⟨b, off + k * 3 + 2, none⟩ = some (.slice a2 xr.length e2))
            (first | exact ⟨n1, n2, n3, n4⟩ | exact HF.out _ ((Bel.rfl' _).drew.step hb1) | fail)
            (first | (go_at_call 113; refine (HUU.out _ B0).mono ?_; rintro e w2 ⟨a3, n5, e3, rfl, ho3, hb1⟩) | fail)
          all_goals
            have B1 := B0.step hb1
            have m5 := (HF.out _ ((Bel.rfl' _).drew.step hb1)).1
            have HAA := Lib.hid (HA.out _ _ _ _ B1 ho3.sl)
            clear HA
            go_wp2_with fail
            refine HAA.out.mono ?_; rintro e w3 ⟨a4, n6, e4, rfl, ho4, hb2⟩
            have hn6 := ho4.sl.len
            subst hn6
            have hsl4 := ho4.sl
            have B3 := B1.step hb2
            have hkc : k < cb.length := by rw [hlen]; exact hkl
            have hkcI : (k : Int) < cb.length := by omega
            obtain ⟨bq, oq, kq, eq4, hkq, hkm⟩ := hsl4.plain (by omega)
            simp only [Value.slice.injEq] at eq4
            obtain ⟨rfl, -, rfl⟩ := eq4
            clear m1 m2 m3 m4 n1 n2 n3 n4 m5 HF HUU hlen
            have HZ := hsl4.in'
            obtain ⟨q, hq⟩ : ∃ q, q = k + 1 := ⟨_, rfl⟩
            have hq4 : (q : Int) ≤ cb.length := by omega
            have hqn : q ≤ cb.length := by omega
            have hHd := Lib.hid (HZ.head k (Nat.le_of_lt hkc))
            have hTl := HZ.tail q hqn
            have hw1 : IntKind.i64.wrap ((k : Int) + 1) = (q : Int) := by rw [IntWalk.i64_in ((k : Int) + 1) (by omega)]; omega
            have hkq1 : (k : Int) ≤ e4 := by omega
            have hkq2 : (q : Int) ≤ e4 := by omega
            have hDR : Hid (cb.take k ++ cb.drop q = R) := by show _ = _; rw [hq]; exact HR.out
            have hsz : (cb.take k).length + (cb.drop q).length ≤ 1048576 := by simp; omega
            clear hq
            rcases hTl with ⟨hTe, hTs⟩ | ⟨hTe, hTs⟩
            · obtain rfl : e4 = q := hTe
              have HCO := Lib.hid (concat2C_c _ _ _ _ _ _ (cb.take k) (cb.drop e4) w3 hsz hHd.out hTs)
              clear hTs hHd
              go_wp2_with fail
              go_region_held3 (fun w' => Bel w3 w') (first | exact Bel.drew0 _ | exact Bel.alloc (Bel.drew0 _) _ | exact hb5.of_drew.of_alloc | exact hb5.of_alloc)
                (first | (go_at_call 115; refine (HCO.out _).mono ?_; rintro e w5 ⟨a5, n5, c5, rfl, hs5, hb5⟩) | fail)
              have HB5 := B3.step (hb5.of_drew.of_alloc)
              rw [hDR.out] at hs5
              have HMM := Lib.hid (HM.out _ _ _ _ HB5 (HZ.below (hb5.of_drew.of_alloc)))
              have HS5 := Lib.hid hs5
              clear HM hs5 hDR HCO
              go_wp2_with fail
              refine HMM.out.mono ?_; rintro e w7 ⟨rfl, hb7⟩
              cases M with
              | true =>
                have hN0 : N = 0 := HNN.out.symm.trans (if_pos rfl)
                subst hN0
                go_wp2_with fail
                go_ret2
                exact ⟨_, _, _, rfl, (HS5.out.below hb7).mono (Nat.le_refl _) hb7.size, HB5.step hb7⟩
              | false =>
                have hN0 : N = 5 := HNN.out.symm.trans (if_neg (by simp))
                subst hN0
                go_wp2_with fail
                go_ret2
                exact ⟨_, _, _, rfl, (HS5.out.below hb7).mono (Nat.le_refl _) hb7.size, HB5.step hb7⟩
            · have hne : ¬ e4 = q := by omega
              have HCO := Lib.hid (concat2C_c _ _ _ _ _ _ (cb.take k) (cb.drop q) w3 hsz hHd.out hTs)
              clear hTs hHd
              go_wp2_with fail
              go_region_held3 (fun w' => Bel w3 w') (first | exact Bel.drew0 _ | exact Bel.alloc (Bel.drew0 _) _ | exact hb5.of_drew.of_alloc | exact hb5.of_alloc)
                (first | (go_at_call 115; refine (HCO.out _).mono ?_; rintro e w5 ⟨a5, n5, c5, rfl, hs5, hb5⟩) | fail)
              have HB5 := B3.step (hb5.of_drew.of_alloc)
              rw [hDR.out] at hs5
              have HMM := Lib.hid (HM.out _ _ _ _ HB5 (HZ.below (hb5.of_drew.of_alloc)))
              have HS5 := Lib.hid hs5
              clear HM hs5 hDR HCO
              go_wp2_with fail
              refine HMM.out.mono ?_; rintro e w7 ⟨rfl, hb7⟩
              cases M with
              | true =>
                have hN0 : N = 0 := HNN.out.symm.trans (if_pos rfl)
                subst hN0
                go_wp2_with fail
                go_ret2
                exact ⟨_, _, _, rfl, (HS5.out.below hb7).mono (Nat.le_refl _) hb7.size, HB5.step hb7⟩
              | false =>
                have hN0 : N = 5 := HNN.out.symm.trans (if_neg (by simp))
                subst hN0
                go_wp2_with fail
                go_ret2
                exact ⟨_, _, _, rfl, (HS5.out.below hb7).mono (Nat.le_refl _) hb7.size, HB5.step hb7⟩
set_option maxRecDepth 100000 in
set_option maxHeartbeats 1000000 in
theorem iResolve_t {l h l' h' : Nat} {v u : Value} {ar : List Int} {c : List Lt} {w : World} (hT : Tab w) (ha : ar.length ≤ 1048576) (hv : SlI l h w v ar) (hc : sumC c ≤ 1048576) (hu : SlC l' h' w u c) {i : Int} (_ : -9223372036854775808 ≤ i) (_ : i ≤ 9223372036854775807) :
    Calls Tryz.prog 22 #[.agg #[v], u, .int .i64 i] w (RetCNB w (resAns ar c i) (resNo ar c i) (goodClause ar c)) := by
  unfold resAns resNo
  cases hs : goodClause ar c with
  | false =>
    rw [if_neg (by simp), if_neg (by simp)]
    have HS := Lib.hid hs; clear hs
    go_enter Tryz.func22, Tryz.ntmps22
    go_wp2_with fail
    refine (iGoodClause_v HS.out ha (hv.alloc _) hc (hu.alloc _)).mono ?_; rintro e w1 ⟨rfl, hb1⟩
    go_wp2_with fail
    go_ret3
    exact ⟨_, _, _, rfl, OwnC.nil _ _ _, hb1.of_alloc⟩
  | true =>
    rw [if_pos rfl, if_pos rfl]
    have hg := (goodClause_iff.1 hs).1
    have hq1 : okLits ar c = true := by unfold goodClause at hs; exact (Bool.and_eq_true_iff.1 hs).2
    have HA := Lib.hid (fun (w' : World) (hb' : Bel w w') => resolved_c _ _ _ _ v u ar c i w' (hT.bel hb') ha hg hq1 (hv.below hb') (hu.below hb'))
    have hrok := resR_ok ar c i
    have HCN := Lib.hid (fun (w' : World) (y : Value) (lo hi : Nat) (hy : SlC lo hi w' y (resR ar c i).1) => concluded_c lo hi y ar _ w' hg hrok hy)
    clear hrok
    have HS := Lib.hid hs; clear hs
    generalize resR ar c i = RR at *
    obtain ⟨r, n⟩ := RR
    dsimp only at *
    generalize concl r = R at *
    go_enter Tryz.func22, Tryz.ntmps22
    go_wp2_with fail
    refine (iGoodClause_v HS.out ha (hv.alloc _) hc (hu.alloc _)).mono ?_; rintro e w1 ⟨rfl, hb1⟩
    have hbox := boxc hb1 0 _ rfl
    go_wp2_with fail
    refine (HA.out _ hb1.of_alloc).mono ?_; rintro e w2 ⟨a2, n2, c2, rfl, ho2, hb2⟩
    have HCC := Lib.hid (HCN.out _ _ _ _ ho2)
    clear HCN
    go_wp2_with fail
    refine HCC.out.mono ?_; rintro e w3 ⟨a3, n3, c3, rfl, ho3, hb3⟩
    go_wp2_with fail
    go_ret3
    exact ⟨_, _, _, rfl, ho3.mono (hb1.of_alloc.step hb2).size (Nat.le_refl _), (hb1.of_alloc.step hb2).step hb3⟩
end Go.Proofs.YtikllmdmifecpaaGreatDoor
end
section
/- Chapter 6, the program: Factor. -/
namespace Go.Proofs.YtikllmdmifecpaaGreatDoor
open Go.RowKit

/-- A copy whose terms are shared. -/
def RetRC2 (w : World) (c : List Lt) (e : Ending) (w' : World) : Prop := ∃ g k zs, e = .returned (.slice (some ⟨g, 0, none⟩) c.length k) ∧ RowC w.heap.size w' (.slice (some ⟨g, 0, none⟩) c.length k) zs ∧ Lies w.heap.size w' zs c ∧ Bel w w'
set_option maxRecDepth 100000 in
set_option maxHeartbeats 400000 in
theorem cloneC_c (l h : Nat) (v : Value) (c : List Lt) (w : World) (hp : 0 < c.length) (hx : c.length ≤ 1048576) (hh : h ≤ w.heap.size) (hv : SlC l h w v c) :
    Calls Tryz.prog 121 #[v] w (RetRC2 w c) := by
  obtain ⟨i0, hi0, hz0, hz1, hz2⟩ := info_parts Tryz.info67
  obtain ⟨b, off, k, rfl, hk, hkm⟩ := hv.plain hp
  obtain ⟨ys, hy, hn⟩ := (hv.below (Bel.alloc0 w (.cells #[] 67))).bound hh
  have hyl := hy.1
  have HN := hn _ rfl
  have hyo := hy.one
  have hown : RowC w.heap.size (w.alloc (.cells #[] 67)) (.slice (some ⟨w.heap.size, 0, none⟩) 0 0) [] := World.ownsRow_lit w #[] 0 (Nat.le_refl _) (Nat.zero_le _) rfl
  have HYL := Lib.hid hyl
  have HY := Lib.hid hy
  clear hn hy hyl hv
  have hnil := fun (w : World) (a : Option Addr) (n c : Nat) => Lib.run_eql_slice_nil (P := Tryz.prog) w 30 67 a n c 0 0 Tryz.underlying30
  go_enter Tryz.func121, Tryz.ntmps121
  go_wp2_with (at_builtin; refine wpList_append_own _ rfl _ _ 30 rfl w.heap.size 67 i0 (.agg #[.bool false, .slice none 0 0, .slice none 0 0]) 3 56 Tryz.underlying30 hi0 hz0 hz1 hz2 rfl (by decide) _ _ _ rfl hown ⟨b, off, none⟩ c.length k (cellsC ys) rfl (by rw [cellsC_len, HYL.out]) HN hyo (by unfold maxLen; simp; omega) (by simp; omega) (by simp) ?_; intro v' w2 hown' hgrow _)
  have hb2 := (Bel.alloc0 w (.cells #[] 67)).grown hgrow (fun k hk => own_base hown k hk)
  obtain ⟨R2, L2⟩ := wp_app_lits (Lies.nil _ _) HY.out hown (by simp) (by rw [HYL.out]; exact hown') hgrow
  rcases R2.2 with ⟨rfl, hn0⟩ | ⟨g, cap, cur, rfl, hg, _⟩
  · rw [List.nil_append] at hn0; have := HYL.out; omega
  · go_ret
    exact ⟨g, cap, _, by simp [HYL.out], by simpa [HYL.out] using R2, by simpa using L2, hb2⟩
theorem RowC.froz {w : World} {base g n k : Nat} {zs : List LV} (h : RowC base w (.slice (some ⟨g, 0, none⟩) n k) zs) : base ≤ g ∧ ∀ j, w.frozen? ⟨g, j, none⟩ = false := by
  have hn := row_len3 h
  subst hn
  exact ⟨own_base h g rfl, fun j => h.frozenAt j⟩
theorem lit_field1 (w : World) (p : Bool) (a1 : Option Addr) (n1 c1 : Nat) (a2 : Option Addr) (n2 c2 : Nat) : (Instr.field 67 (.agg #[.bool p, .slice a1 n1 c1, .slice a2 n2 c2]) 1).run Tryz.prog w = .ok (.slice a1 n1 c1) w := by kernel_rfl
theorem lit_field2 (w : World) (p : Bool) (a1 : Option Addr) (n1 c1 : Nat) (a2 : Option Addr) (n2 c2 : Nat) : (Instr.field 67 (.agg #[.bool p, .slice a1 n1 c1, .slice a2 n2 c2]) 2).run Tryz.prog w = .ok (.slice a2 n2 c2) w := by kernel_rfl
/-- What turned answers. -/
def tvV (p : Bool) (a1 : Option Addr) (n1 c1 : Nat) (a2 : Option Addr) (n2 c2 : Nat) (s : Int) : Value := if s = 1 then .agg #[.bool p, .slice a2 n2 c2, .slice a1 n1 c1] else .agg #[.bool p, .slice a1 n1 c1, .slice a2 n2 c2]
theorem tvV_of {p : Bool} {a1 : Option Addr} {n1 c1 : Nat} {a2 : Option Addr} {n2 c2 : Nat} {z1 z2 : SV} {s : Int} (h : SideV s (.slice a1 n1 c1) (.slice a2 n2 c2) z1 z2) : tvV p a1 n1 c1 a2 n2 c2 s = .agg #[.bool p, encS z1, encS z2] := by
  unfold tvV
  rcases h with ⟨rfl, e1, e2⟩ | ⟨rfl, e1, e2⟩
  · rw [if_neg (by omega), e1, e2]
  · rw [if_pos rfl, e1, e2]
theorem turned_u (p : Bool) (a1 : Option Addr) (n1 c1 : Nat) (a2 : Option Addr) (n2 c2 : Nat) (s : Int) (w : World) (hs : s = 0 ∨ s = 1) :
    Calls Tryz.prog 106 #[.agg #[.bool p, .slice a1 n1 c1, .slice a2 n2 c2], .int .i64 s] w (RetV w (tvV p a1 n1 c1 a2 n2 c2 s)) := by
  rcases hs with rfl | rfl
  · have h : SideV 0 (.slice a1 n1 c1) (.slice a2 n2 c2) (a1, n1, c1) (a2, n2, c2) := .inl ⟨rfl, rfl, rfl⟩
    rw [tvV_of h]; exact turned_c _ _ _ _ _ _ _ h
  · have h : SideV 1 (.slice a1 n1 c1) (.slice a2 n2 c2) (a2, n2, c2) (a1, n1, c1) := .inr ⟨rfl, rfl, rfl⟩
    rw [tvV_of h]; exact turned_c _ _ _ _ _ _ _ h
theorem side_app {b : List (List Int)} {c : List Lt} {k : Nat} (hk : k < c.length) (s : Int) : sideL ((applyC b c).getD k lt0) s = appT b (sideL (c.getD k lt0) s) ∧ sideR ((applyC b c).getD k lt0) s = appT b (sideR (c.getD k lt0) s) := by
  have e : (applyC b c).getD k lt0 = ((c.getD k lt0).1, appT b (c.getD k lt0).2.1, appT b (c.getD k lt0).2.2) := by simp [applyC, List.getD, hk]
  rw [e]
  unfold sideL sideR
  split <;> exact ⟨rfl, rfl⟩
theorem okLits_lowT {ar : List Int} {c : List Lt} (h : okLits ar c = true) : ∀ j, j < c.length → lowT (c.getD j lt0).2.1 ∧ lowT (c.getD j lt0).2.2 := fun j hj => by
  obtain ⟨h1, h2⟩ := okLits_get (okLits_iff.1 h).2 j hj
  exact ⟨(lowT_ok h1).2, (lowT_ok h2).2⟩

set_option maxRecDepth 100000 in
set_option maxHeartbeats 1000000 in
theorem canFactor_c (l h : Nat) (u : Value) (c : List Lt) (wy : Wy) (q : Bool) (w : World) (hq : facIn c wy = q) (hx : c.length ≤ 1048576) (hu : SlC l h w u c) :
    Calls Tryz.prog 120 #[u, .agg #[.int .i64 wy.1, .int .i64 wy.2.1, .int .i64 wy.2.2.1, .int .i64 wy.2.2.2.1, .int .i64 wy.2.2.2.2]] w (RetV w (.bool q)) := by
  obtain ⟨wi, ws, wj, wo, wa⟩ := wy
  dsimp only
  unfold facIn at hq
  dsimp only at hq
  obtain ⟨ad, cap, rfl⟩ := hu.form
  have B1 : Bel w (w.alloc (.cells #[.int .i64 wi, .int .i64 ws, .int .i64 wj, .int .i64 wo, .int .i64 wa] 36)) := Bel.alloc0 _ _
  by_cases hij : wi = wj
  · rw [decide_eq_true hij] at hq
    simp at hq
    subst hq hij
    clear hu
    go_enter Tryz.func120, Tryz.ntmps120
    go_wp2_with fail
    go_ret
    exact ⟨rfl, Bel.alloc0 _ _⟩
  · have hne : (wi != wj) = true := bne_iff_ne.2 hij
    by_cases hwa : ¬ wa = 0
    · rw [decide_eq_false hwa] at hq
      simp at hq
      subst hq
      clear hu
      go_enter Tryz.func120, Tryz.ntmps120
      go_wp2_with fail
      go_ret
      exact ⟨rfl, Bel.alloc0 _ _⟩
    · have hwa := Classical.not_not.1 hwa
      subst hwa
      rw [decide_eq_false hij, decide_eq_true rfl] at hq
      cases h1 : (litOk c wi ws && (c.getD wi.toNat lt0).1) with
      | false =>
        have hq' : false = q := by rw [← hq]; revert h1; cases litOk c wi ws <;> cases (c.getD wi.toNat lt0).1 <;> simp
        subst hq'
        have H1 := Lib.hid (hasEquation_q l h _ c wi ws false _ h1 hx (hu.below B1))
        clear hu h1 hq
        go_enter Tryz.func120, Tryz.ntmps120
        go_wp2_with fail
        refine H1.out.mono ?_; rintro e w1 ⟨rfl, rfl⟩
        go_wp2_with fail
        go_ret
        exact ⟨rfl, Bel.alloc0 _ _⟩
      | true =>
        cases h2 : (litOk c wj wo && (c.getD wj.toNat lt0).1) with
        | false =>
          have hq' : false = q := by rw [← hq]; revert h2; cases litOk c wj wo <;> cases (c.getD wj.toNat lt0).1 <;> simp
          subst hq'
          have H1 := Lib.hid (hasEquation_q l h _ c wi ws true _ h1 hx (hu.below B1))
          have H2 := Lib.hid (hasEquation_q l h _ c wj wo false _ h2 hx (hu.below B1))
          clear hu h1 h2 hq
          go_enter Tryz.func120, Tryz.ntmps120
          go_wp2_with fail
          refine H1.out.mono ?_; rintro e w1 ⟨rfl, rfl⟩
          go_wp2_with fail
          refine H2.out.mono ?_; rintro e w1 ⟨rfl, rfl⟩
          go_wp2_with fail
          go_ret
          exact ⟨rfl, Bel.alloc0 _ _⟩
        | true =>
          have hq' : true = q := by rw [← hq]; revert h1 h2; cases litOk c wj wo <;> cases (c.getD wj.toNat lt0).1 <;> cases litOk c wi ws <;> cases (c.getD wi.toNat lt0).1 <;> simp
          subst hq'
          have H1 := Lib.hid (hasEquation_q l h _ c wi ws true _ h1 hx (hu.below B1))
          have H2 := Lib.hid (hasEquation_q l h _ c wj wo true _ h2 hx (hu.below B1))
          clear hu h1 h2 hq
          go_enter Tryz.func120, Tryz.ntmps120
          go_wp2_with fail
          refine H1.out.mono ?_; rintro e w1 ⟨rfl, rfl⟩
          go_wp2_with fail
          refine H2.out.mono ?_; rintro e w1 ⟨rfl, rfl⟩
          go_wp2_with fail
          go_ret
          exact ⟨rfl, Bel.alloc0 _ _⟩

set_option maxRecDepth 100000 in
set_option maxHeartbeats 1500000 in
theorem factored_c (l h l' h' : Nat) (v u : Value) (ar : List Int) (c : List Lt) (wy : Wy) (w : World) (hT : Tab w) (ha : ar.length ≤ 1048576) (hg : goodSign ar = true) (hc : okLits ar c = true) (hv : SlI l h w v ar) (hu : SlC l' h' w u c) :
    Calls Tryz.prog 65 #[.agg #[v], u, .agg #[.int .i64 wy.1, .int .i64 wy.2.1, .int .i64 wy.2.2.1, .int .i64 wy.2.2.2.1, .int .i64 wy.2.2.2.2]] w (RetSN w (facA ar c wy).1 (facA ar c wy).2) := by
  obtain ⟨h8, hokx⟩ := okLits_iff.1 hc
  obtain ⟨ad, cap, rfl⟩ := hu.form
  cases hin : facIn c wy with
  | false =>
    rw [facA_none hin]
    obtain ⟨wi, ws, wj, wo, wa⟩ := wy
    dsimp only
    have HCF := Lib.hid (fun (w' : World) (hb : Bel w w') => canFactor_c l' h' _ c (wi, ws, wj, wo, wa) false w' hin (by omega) (hu.below hb))
    dsimp only at HCF
    clear hin hu hv hokx
    go_enter Tryz.func65, Tryz.ntmps65
    go_wp2_with fail
    refine (HCF.out _ (Bel.alloc2 _ _ _)).mono ?_; rintro e w1 ⟨rfl, hb1⟩
    go_wp2_with fail
    go_ret2
    exact ⟨_, _, _, rfl, SlC.nil _ _ _, (Bel.alloc2 _ _ _).step hb1⟩
  | true =>
    have hgx := facIn_get hin
    have hin0 := hin
    obtain ⟨wi, ws, wj, wo, wa⟩ := wy
    unfold facIn at hin0
    simp only [Bool.and_eq_true, Bool.not_eq_true', decide_eq_true_eq, decide_eq_false_iff_not] at hin0
    obtain ⟨⟨⟨h1, h2⟩, hij, hwa⟩, hp1, hp2⟩ := hin0
    dsimp only at hgx
    subst hwa
    obtain ⟨⟨i0, i1⟩, hs1⟩ := litOk_iff.1 h1
    obtain ⟨⟨j0, j1⟩, hs2⟩ := litOk_iff.1 h2
    obtain ⟨k1, rfl⟩ : ∃ k : Nat, wi = (k : Int) := ⟨wi.toNat, by omega⟩
    obtain ⟨k2, rfl⟩ : ∃ k : Nat, wj = (k : Int) := ⟨wj.toNat, by omega⟩
    rw [Int.toNat_natCast] at hp1 hp2
    have hk1 : k1 < c.length := by omega
    have hk2 : k2 < c.length := by omega
    have B2 : Bel w ((w.alloc (.cells #[v] 33)).alloc (.cells #[.int .i64 k1, .int .i64 ws, .int .i64 k2, .int .i64 wo, .int .i64 0] 36)) := Bel.alloc2 _ _ _
    have HCF := Lib.hid (fun (w' : World) (hb : Bel w w') => canFactor_c l' h' _ c ((k1 : Int), ws, (k2 : Int), wo, 0) true w' hin (by omega) (hu.below hb))
    dsimp only at HCF ⊢
    obtain ⟨b, off, u1, u2, rfl, hbs, c1, c2, c3, s1, s2⟩ := hu.at (Bel.rfl' w) k1 hk1
    obtain ⟨b', off', q1, q2, eb, hbs', d1, d2, d3, r1, r2⟩ := hu.at (Bel.rfl' w) k2 hk2
    cases eb
    obtain ⟨z1, z2, hz, t1, t2⟩ := sides_x hs1 s1 s2
    obtain ⟨y1, y2, hy, t3, t4⟩ := sides_x hs2 r1 r2
    have ox1 := (okLits_get hokx k1 hk1)
    have ox2 := (okLits_get hokx k2 hk2)
    have eL : facL c ((k1 : Int), ws, (k2 : Int), wo, 0) = sideL (c.getD k1 lt0) ws := by unfold facL; dsimp only; rw [Int.toNat_natCast]
    have eR : facR c ((k1 : Int), ws, (k2 : Int), wo, 0) = sideR (c.getD k1 lt0) ws := by unfold facR; dsimp only; rw [Int.toNat_natCast]
    have eL2 : facL2 c ((k1 : Int), ws, (k2 : Int), wo, 0) = sideL (c.getD k2 lt0) wo := by unfold facL2; dsimp only; rw [Int.toNat_natCast]
    have eR2 : facR2 c ((k1 : Int), ws, (k2 : Int), wo, 0) = sideR (c.getD k2 lt0) wo := by unfold facR2; dsimp only; rw [Int.toNat_natCast]
    rw [← eL] at t1
    rw [← eL2] at t3
    have ol1 : okTerm ar (facL c ((k1 : Int), ws, (k2 : Int), wo, 0)) = true := by rw [eL]; exact sideL_ok (okLit_iff.2 ox1) ws
    have ol2 : okTerm ar (facL2 c ((k1 : Int), ws, (k2 : Int), wo, 0)) = true := by rw [eL2]; exact sideL_ok (okLit_iff.2 ox2) wo
    have EE := Lib.hid (And.intro (And.intro eL eR) eR2)
    clear eL eR eL2 eR2 ox1 ox2 h1 h2 i0 j0
    have HU := Lib.hid (fun (w' : World) (hb : Bel w w') => iUnify_t (w := w') ha (hv.below hb) (by have := (okTerm_len ol1).2; omega) (t1.below hb) (by have := (okTerm_len ol2).2; omega) (t3.below hb))
    have HF := Lib.hid (fun (w' : World) (hb : Bel ((w.alloc (.cells #[v] 33)).alloc (.cells #[.int .i64 k1, .int .i64 ws, .int .i64 k2, .int .i64 wo, .int .i64 0] 36)) w') => (⟨boxc hb.of_alloc 0 _ rfl, hb.at (by simp) (by simp [go_sem]), hb.at (by simp) (by simp [go_sem]), hb.at (by simp) (by simp [go_sem]), hb.at (by simp) (by simp [go_sem]), hb.at (by simp; omega) (B2.at hbs c1), hb.at (by simp; omega) (B2.at hbs c2), hb.at (by simp; omega) (B2.at hbs c3), hb.at (by simp; omega) (B2.at hbs d1), hb.at (by simp; omega) (B2.at hbs d2), hb.at (by simp; omega) (B2.at hbs d3)⟩ : (w'.cell? ⟨w.heap.size, 0, none⟩ = some v ∧ w'.cell? ⟨w.heap.size + 1, 0, none⟩ = some (.int .i64 k1) ∧ w'.cell? ⟨w.heap.size + 1, 1, none⟩ = some (.int .i64 ws) ∧ w'.cell? ⟨w.heap.size + 1, 2, none⟩ = some (.int .i64 k2) ∧ w'.cell? ⟨w.heap.size + 1, 3, none⟩ = some (.int .i64 wo) ∧ w'.cell? ⟨b, off + k1 * 3, none⟩ = some (.bool (c.getD k1 lt0).1) ∧ w'.cell? ⟨b, off + k1 * 3 + 1, none⟩ = some u1 ∧ w'.cell? ⟨b, off + k1 * 3 + 2, none⟩ = some u2 ∧ w'.cell? ⟨b, off + k2 * 3, none⟩ = some (.bool (c.getD k2 lt0).1) ∧ w'.cell? ⟨b, off + k2 * 3 + 1, none⟩ = some q1 ∧ w'.cell? ⟨b, off + k2 * 3 + 2, none⟩ = some q2)))
    have HS1 := Lib.hid hz
    have HS2 := Lib.hid hy
    have HTT := Lib.hid (And.intro hs1 hs2)
    have HP := Lib.hid (And.intro hp1 hp2)
    clear hz hy c1 c2 c3 d1 d2 d3 hp1 hp2
    cases hun : unifyOk ar (facL c ((k1 : Int), ws, (k2 : Int), wo, 0)) (facL2 c ((k1 : Int), ws, (k2 : Int), wo, 0)) with
    | false =>
      rw [facA_apart hin hun]
      rw [hun] at HU
      have HUU := HU
      clear hin hu hv hokx hun HU EE
      obtain ⟨a1, e1, f1⟩ := s1.form
      obtain ⟨a2, e2, f2⟩ := s2.form
      obtain ⟨a3, e3, f3⟩ := r1.form
      obtain ⟨a4, e4, f4⟩ := r2.form
      rw [HP.out.1, HP.out.2] at HF
      clear s1 s2 r1 r2 t1 t2 t3 t4 HP
      obtain ⟨zb1, zm1, zd1⟩ := z1
      obtain ⟨zb2, zm2, zd2⟩ := z2
      obtain ⟨yb1, ym1, yd1⟩ := y1
      obtain ⟨yb2, ym2, yd2⟩ := y2
      simp only [encS] at *
      subst f1 f2 f3 f4
      generalize (c.getD k1 lt0).2.1.length = N1 at *
      generalize (c.getD k1 lt0).2.2.length = N2 at *
      generalize (c.getD k2 lt0).2.1.length = N3 at *
      generalize (c.getD k2 lt0).2.2.length = N4 at *
      have E1 := tvV_of (p := true) HS1.out
      have E2 := tvV_of (p := true) HS2.out
      simp only [encS] at E1 E2
      have E1 := Lib.hid E1
      have E2 := Lib.hid E2
      clear HS1 HS2
      have hfd1 := lit_field1
      have hfd2 := lit_field2
      go_enter Tryz.func65, Tryz.ntmps65
      go_wp2_with fail
      refine (HCF.out _ B2).mono ?_; rintro e w0 ⟨rfl, hb0⟩
      have BD0 := hb0.drew
      go_wp2_with fail
      go_region_held3 (fun w' => w'.cell? ⟨w.heap.size, 0, none⟩ = some v ∧ w'.cell? ⟨w.heap.size + 1, 0, none⟩ = some (.int .i64 k1) ∧ w'.cell? ⟨w.heap.size + 1, 1, none⟩ = some (.int .i64 ws) ∧ w'.cell? ⟨w.heap.size + 1, 2, none⟩ = some (.int .i64 k2) ∧ w'.cell? ⟨w.heap.size + 1, 3, none⟩ = some (.int .i64 wo) ∧ w'.cell? ⟨b, off + k1 * 3, none⟩ = some (.bool true) ∧ w'.cell? ⟨b, off + k1 * 3 + 1, none⟩ = some (.slice a1 N1 e1) ∧ w'.cell? ⟨b, off + k1 * 3 + 2, none⟩ = some (.slice a2 N2 e2) ∧ w'.cell? ⟨b, off + k2 * 3, none⟩ = some (.bool true) ∧ w'.cell? ⟨b, off + k2 * 3 + 1, none⟩ = some (.slice a3 N3 e3) ∧ w'.cell? ⟨b, off + k2 * 3 + 2, none⟩ = some (.slice a4 N4 e4))
        (first | exact HF.out _ BE3 | exact HF.out _ BE2 | exact HF.out _ BE1 | exact HF.out _ BD0 | fail)
        (first
          | (go_at_call 113; refine (HUU.out _ BW2).mono ?_; rintro e w3 ⟨ua, un, uc, rfl, ho3, hb3⟩; have BE3 := BE2.step hb3; have BW3 := BW2.step hb3)
          | (go_at_call 106; refine (turned_u _ _ _ _ _ _ _ _ _ (by first | exact HTT.out.1 | exact HTT.out.2)).mono ?_; rintro e w2 ⟨rfl, hb2⟩; have BE2 := BE1.step hb2; have BW2 := B2.step BE2; first | rw [E1.out] | rw [E2.out])
          | (go_at_call 106; refine (turned_u _ _ _ _ _ _ _ _ _ (by first | exact HTT.out.1 | exact HTT.out.2)).mono ?_; rintro e w1 ⟨rfl, hb1⟩; have BE1 := BD0.step hb1; first | rw [E1.out] | rw [E2.out])
          | fail)
      all_goals
        go_wp2_with fail
        go_ret2
        exact ⟨_, _, _, rfl, SlC.nil _ _ _, BW3⟩
    | true =>
      have hsub := unify_subst hun
      obtain ⟨hl12, h40⟩ := unify_seat hun
      have hfr := flat_rows hc
      have hok40 := applyC_ok hsub hc
      have hlen : (applyC (unifyAns ar (facL c ((k1 : Int), ws, (k2 : Int), wo, 0)) (facL2 c ((k1 : Int), ws, (k2 : Int), wo, 0))) c).length = c.length := by simp [applyC]
      have hA := fun (w' : World) (y : Value) (lo hi : Nat) (q : Bool) (r : List Lt) (hq : okLits ar (applyC (unifyAns ar (facL c ((k1 : Int), ws, (k2 : Int), wo, 0)) (facL2 c ((k1 : Int), ws, (k2 : Int), wo, 0))) c) = q) (hr : (if q then applyC (unifyAns ar (facL c ((k1 : Int), ws, (k2 : Int), wo, 0)) (facL2 c ((k1 : Int), ws, (k2 : Int), wo, 0))) c else []) = r) (hb : Bel w w') (hy : SlS lo hi w' y (unifyAns ar (facL c ((k1 : Int), ws, (k2 : Int), wo, 0)) (facL2 c ((k1 : Int), ws, (k2 : Int), wo, 0)))) => appliedClause_c l' h' lo hi _ y _ c w' hl12 h40 (by omega) hfr hy (hu.below hb) q r (hok40.symm.trans hq) hr
      have HA := Lib.hid hA
      clear hA
      rw [hun] at HU
      have HUU := HU
      clear HU
      cases hbig : okLits ar (applyC (unifyAns ar (facL c ((k1 : Int), ws, (k2 : Int), wo, 0)) (facL2 c ((k1 : Int), ws, (k2 : Int), wo, 0))) c) with
      | false =>
        rw [facA_big hin hun hbig]
        have HB := Lib.hid hbig
        clear hin hu hv hokx hun hsub hl12 h40 hfr hlen hbig hok40 EE
        generalize applyC (unifyAns ar (facL c ((k1 : Int), ws, (k2 : Int), wo, 0)) (facL2 c ((k1 : Int), ws, (k2 : Int), wo, 0))) c = cb at *
        generalize (unifyAns ar (facL c ((k1 : Int), ws, (k2 : Int), wo, 0)) (facL2 c ((k1 : Int), ws, (k2 : Int), wo, 0))) = U at *
        obtain ⟨a1, e1, f1⟩ := s1.form
        obtain ⟨a2, e2, f2⟩ := s2.form
        obtain ⟨a3, e3, f3⟩ := r1.form
        obtain ⟨a4, e4, f4⟩ := r2.form
        rw [HP.out.1, HP.out.2] at HF
        clear s1 s2 r1 r2 t1 t2 t3 t4 HP
        obtain ⟨zb1, zm1, zd1⟩ := z1
        obtain ⟨zb2, zm2, zd2⟩ := z2
        obtain ⟨yb1, ym1, yd1⟩ := y1
        obtain ⟨yb2, ym2, yd2⟩ := y2
        simp only [encS] at *
        subst f1 f2 f3 f4
        generalize (c.getD k1 lt0).2.1.length = N1 at *
        generalize (c.getD k1 lt0).2.2.length = N2 at *
        generalize (c.getD k2 lt0).2.1.length = N3 at *
        generalize (c.getD k2 lt0).2.2.length = N4 at *
        have E1 := tvV_of (p := true) HS1.out
        have E2 := tvV_of (p := true) HS2.out
        simp only [encS] at E1 E2
        have E1 := Lib.hid E1
        have E2 := Lib.hid E2
        clear HS1 HS2
        have hfd1 := lit_field1
        have hfd2 := lit_field2
        go_enter Tryz.func65, Tryz.ntmps65
        go_wp2_with fail
        refine (HCF.out _ B2).mono ?_; rintro e w0 ⟨rfl, hb0⟩
        have BD0 := hb0.drew
        go_wp2_with fail
        go_region_held3 (fun w' => w'.cell? ⟨w.heap.size, 0, none⟩ = some v ∧ w'.cell? ⟨w.heap.size + 1, 0, none⟩ = some (.int .i64 k1) ∧ w'.cell? ⟨w.heap.size + 1, 1, none⟩ = some (.int .i64 ws) ∧ w'.cell? ⟨w.heap.size + 1, 2, none⟩ = some (.int .i64 k2) ∧ w'.cell? ⟨w.heap.size + 1, 3, none⟩ = some (.int .i64 wo) ∧ w'.cell? ⟨b, off + k1 * 3, none⟩ = some (.bool true) ∧ w'.cell? ⟨b, off + k1 * 3 + 1, none⟩ = some (.slice a1 N1 e1) ∧ w'.cell? ⟨b, off + k1 * 3 + 2, none⟩ = some (.slice a2 N2 e2) ∧ w'.cell? ⟨b, off + k2 * 3, none⟩ = some (.bool true) ∧ w'.cell? ⟨b, off + k2 * 3 + 1, none⟩ = some (.slice a3 N3 e3) ∧ w'.cell? ⟨b, off + k2 * 3 + 2, none⟩ = some (.slice a4 N4 e4))
          (first | exact HF.out _ BE3 | exact HF.out _ BE2 | exact HF.out _ BE1 | exact HF.out _ BD0 | fail)
          (first
            | (go_at_call 113; refine (HUU.out _ BW2).mono ?_; rintro e w3 ⟨ua, un, uc, rfl, ho3, hb3⟩; have BE3 := BE2.step hb3; have BW3 := BW2.step hb3)
            | (go_at_call 106; refine (turned_u _ _ _ _ _ _ _ _ _ (by first | exact HTT.out.1 | exact HTT.out.2)).mono ?_; rintro e w2 ⟨rfl, hb2⟩; have BE2 := BE1.step hb2; have BW2 := B2.step BE2; first | rw [E1.out] | rw [E2.out])
            | (go_at_call 106; refine (turned_u _ _ _ _ _ _ _ _ _ (by first | exact HTT.out.1 | exact HTT.out.2)).mono ?_; rintro e w1 ⟨rfl, hb1⟩; have BE1 := BD0.step hb1; first | rw [E1.out] | rw [E2.out])
            | fail)
        all_goals
          have HAA := Lib.hid (HA.out _ _ _ _ false [] HB.out rfl BW3 ho3.sl)
          clear HA
          go_wp2_with fail
          refine HAA.out.mono ?_; rintro e w4 ⟨a5, n5, e5, rfl, ho4, hb4⟩
          go_wp2_with fail
          go_ret2
          exact ⟨_, _, _, rfl, SlC.nil _ _ _, BW3.step hb4⟩
      | true =>
        rw [facA_yes hin hun hbig]
        have hfo := facOut_ok (w := ((k1 : Int), ws, (k2 : Int), wo, 0)) hbig (by dsimp only; rw [Int.toNat_natCast]; exact hk1) (by dsimp only; rw [Int.toNat_natCast]; exact hk2)
        have sa1 := side_app (b := (unifyAns ar (facL c ((k1 : Int), ws, (k2 : Int), wo, 0)) (facL2 c ((k1 : Int), ws, (k2 : Int), wo, 0)))) hk1 ws
        have sa2 := (side_app (b := (unifyAns ar (facL c ((k1 : Int), ws, (k2 : Int), wo, 0)) (facL2 c ((k1 : Int), ws, (k2 : Int), wo, 0)))) hk2 wo).2
        have HLD := Lib.hid (fun (w' : World) (y : Value) (lo hi : Nat) (q : Bool) (hq : (overT (appT (unifyAns ar (facL c ((k1 : Int), ws, (k2 : Int), wo, 0)) (facL2 c ((k1 : Int), ws, (k2 : Int), wo, 0))) (facL c ((k1 : Int), ws, (k2 : Int), wo, 0))) (appT (unifyAns ar (facL c ((k1 : Int), ws, (k2 : Int), wo, 0)) (facL2 c ((k1 : Int), ws, (k2 : Int), wo, 0))) (facR c ((k1 : Int), ws, (k2 : Int), wo, 0))) && maxAt (applyC (unifyAns ar (facL c ((k1 : Int), ws, (k2 : Int), wo, 0)) (facL2 c ((k1 : Int), ws, (k2 : Int), wo, 0))) c) k1) = q) (hb : Bel w w') (hy : SlC lo hi w' y (applyC (unifyAns ar (facL c ((k1 : Int), ws, (k2 : Int), wo, 0)) (facL2 c ((k1 : Int), ws, (k2 : Int), wo, 0))) c)) => leads_v lo hi y _ k1 ws q w' (by rw [sa1.1, sa1.2, ← EE.out.1.1, ← EE.out.1.2]; exact hq) hs1 (hT.bel hb) (okLits_short hbig) (okLits_low hbig) (okLits_lowT hbig) (by rw [hlen]; exact hk1) hy)
        have HOUT : Hid ((applyC (unifyAns ar (facL c ((k1 : Int), ws, (k2 : Int), wo, 0)) (facL2 c ((k1 : Int), ws, (k2 : Int), wo, 0))) c).set k1 (false, sideR ((applyC (unifyAns ar (facL c ((k1 : Int), ws, (k2 : Int), wo, 0)) (facL2 c ((k1 : Int), ws, (k2 : Int), wo, 0))) c).getD k1 lt0) ws, sideR ((applyC (unifyAns ar (facL c ((k1 : Int), ws, (k2 : Int), wo, 0)) (facL2 c ((k1 : Int), ws, (k2 : Int), wo, 0))) c).getD k2 lt0) wo) = (facOut (unifyAns ar (facL c ((k1 : Int), ws, (k2 : Int), wo, 0)) (facL2 c ((k1 : Int), ws, (k2 : Int), wo, 0))) c ((k1 : Int), ws, (k2 : Int), wo, 0)).1) := by
          show _ = _
          rw [sa1.2, sa2, ← EE.out.1.2, ← EE.out.2]; rfl
        generalize hN : (facOut (unifyAns ar (facL c ((k1 : Int), ws, (k2 : Int), wo, 0)) (facL2 c ((k1 : Int), ws, (k2 : Int), wo, 0))) c ((k1 : Int), ws, (k2 : Int), wo, 0)).2 = N at *
        have HNN : Hid ((if overT (appT (unifyAns ar (facL c ((k1 : Int), ws, (k2 : Int), wo, 0)) (facL2 c ((k1 : Int), ws, (k2 : Int), wo, 0))) (facL c ((k1 : Int), ws, (k2 : Int), wo, 0))) (appT (unifyAns ar (facL c ((k1 : Int), ws, (k2 : Int), wo, 0)) (facL2 c ((k1 : Int), ws, (k2 : Int), wo, 0))) (facR c ((k1 : Int), ws, (k2 : Int), wo, 0))) && maxAt (applyC (unifyAns ar (facL c ((k1 : Int), ws, (k2 : Int), wo, 0)) (facL2 c ((k1 : Int), ws, (k2 : Int), wo, 0))) c) k1 then (0:Int) else 5) = N) := Lib.hid hN
        have hcb8 : (applyC (unifyAns ar (facL c ((k1 : Int), ws, (k2 : Int), wo, 0)) (facL2 c ((k1 : Int), ws, (k2 : Int), wo, 0))) c).length ≤ 8 := by rw [hlen]; exact h8
        have HB := Lib.hid hbig
        clear hN hfo hin hu hv hokx hun hsub hl12 h40 hfr hbig hok40 sa1 sa2 EE
        generalize (facOut (unifyAns ar (facL c ((k1 : Int), ws, (k2 : Int), wo, 0)) (facL2 c ((k1 : Int), ws, (k2 : Int), wo, 0))) c ((k1 : Int), ws, (k2 : Int), wo, 0)).1 = out at *
        generalize (overT (appT (unifyAns ar (facL c ((k1 : Int), ws, (k2 : Int), wo, 0)) (facL2 c ((k1 : Int), ws, (k2 : Int), wo, 0))) (facL c ((k1 : Int), ws, (k2 : Int), wo, 0))) (appT (unifyAns ar (facL c ((k1 : Int), ws, (k2 : Int), wo, 0)) (facL2 c ((k1 : Int), ws, (k2 : Int), wo, 0))) (facR c ((k1 : Int), ws, (k2 : Int), wo, 0))) && maxAt (applyC (unifyAns ar (facL c ((k1 : Int), ws, (k2 : Int), wo, 0)) (facL2 c ((k1 : Int), ws, (k2 : Int), wo, 0))) c) k1) = OV at *
        generalize applyC (unifyAns ar (facL c ((k1 : Int), ws, (k2 : Int), wo, 0)) (facL2 c ((k1 : Int), ws, (k2 : Int), wo, 0))) c = cb at *
        generalize (unifyAns ar (facL c ((k1 : Int), ws, (k2 : Int), wo, 0)) (facL2 c ((k1 : Int), ws, (k2 : Int), wo, 0))) = U at *
        obtain ⟨a1, e1, f1⟩ := s1.form
        obtain ⟨a2, e2, f2⟩ := s2.form
        obtain ⟨a3, e3, f3⟩ := r1.form
        obtain ⟨a4, e4, f4⟩ := r2.form
        rw [HP.out.1, HP.out.2] at HF
        clear s1 s2 r1 r2 t1 t2 t3 t4 HP
        obtain ⟨zb1, zm1, zd1⟩ := z1
        obtain ⟨zb2, zm2, zd2⟩ := z2
        obtain ⟨yb1, ym1, yd1⟩ := y1
        obtain ⟨yb2, ym2, yd2⟩ := y2
        simp only [encS] at *
        subst f1 f2 f3 f4
        generalize (c.getD k1 lt0).2.1.length = N1 at *
        generalize (c.getD k1 lt0).2.2.length = N2 at *
        generalize (c.getD k2 lt0).2.1.length = N3 at *
        generalize (c.getD k2 lt0).2.2.length = N4 at *
        have E1 := tvV_of (p := true) HS1.out
        have E2 := tvV_of (p := true) HS2.out
        simp only [encS] at E1 E2
        have E1 := Lib.hid E1
        have E2 := Lib.hid E2
        clear HS1 HS2
        have hfd1 := lit_field1
        have hfd2 := lit_field2
        go_enter Tryz.func65, Tryz.ntmps65
        go_wp2_with fail
        refine (HCF.out _ B2).mono ?_; rintro e w0 ⟨rfl, hb0⟩
        have BD0 := hb0.drew
        go_wp2_with fail
        go_region_held3 (fun w' => w'.cell? ⟨w.heap.size, 0, none⟩ = some v ∧ w'.cell? ⟨w.heap.size + 1, 0, none⟩ = some (.int .i64 k1) ∧ w'.cell? ⟨w.heap.size + 1, 1, none⟩ = some (.int .i64 ws) ∧ w'.cell? ⟨w.heap.size + 1, 2, none⟩ = some (.int .i64 k2) ∧ w'.cell? ⟨w.heap.size + 1, 3, none⟩ = some (.int .i64 wo) ∧ w'.cell? ⟨b, off + k1 * 3, none⟩ = some (.bool true) ∧ w'.cell? ⟨b, off + k1 * 3 + 1, none⟩ = some (.slice a1 N1 e1) ∧ w'.cell? ⟨b, off + k1 * 3 + 2, none⟩ = some (.slice a2 N2 e2) ∧ w'.cell? ⟨b, off + k2 * 3, none⟩ = some (.bool true) ∧ w'.cell? ⟨b, off + k2 * 3 + 1, none⟩ = some (.slice a3 N3 e3) ∧ w'.cell? ⟨b, off + k2 * 3 + 2, none⟩ = some (.slice a4 N4 e4))
          (first | exact HF.out _ BE3 | exact HF.out _ BE2 | exact HF.out _ BE1 | exact HF.out _ BD0 | fail)
          (first
            | (go_at_call 113; refine (HUU.out _ BW2).mono ?_; rintro e w3 ⟨ua, un, uc, rfl, ho3, hb3⟩; have BE3 := BE2.step hb3; have BW3 := BW2.step hb3)
            | (go_at_call 106; refine (turned_u _ _ _ _ _ _ _ _ _ (by first | exact HTT.out.1 | exact HTT.out.2)).mono ?_; rintro e w2 ⟨rfl, hb2⟩; have BE2 := BE1.step hb2; have BW2 := B2.step BE2; first | rw [E1.out] | rw [E2.out])
            | (go_at_call 106; refine (turned_u _ _ _ _ _ _ _ _ _ (by first | exact HTT.out.1 | exact HTT.out.2)).mono ?_; rintro e w1 ⟨rfl, hb1⟩; have BE1 := BD0.step hb1; first | rw [E1.out] | rw [E2.out])
            | fail)
        all_goals
        have HAA := Lib.hid (HA.out _ _ _ _ true cb HB.out (if_pos rfl) BW3 ho3.sl)
        clear HA
        go_wp2_with fail
        refine HAA.out.mono ?_; rintro e w4 ⟨a5, n5, e5, rfl, ho4, hb4⟩
        have BW4 := BW3.step hb4
        have BE4 := BE3.step hb4
        have hkc1 : k1 < cb.length := by rw [hlen]; exact hk1
        have hkc2 : k2 < cb.length := by rw [hlen]; exact hk2
        have hkcI : (k1 : Int) < cb.length := by omega
        have hkcJ : (k2 : Int) < cb.length := by omega
        clear hlen
        have hn5 := ho4.sl.len
        subst hn5
        have HCLO := Lib.hid (cloneC_c _ _ _ cb w4 (by omega) (by omega) (Nat.le_refl _) ho4.sl)
        obtain ⟨bc, oc, x1, x2, ebc, hbcs, g1, g2, g3, y1', y2'⟩ := ho4.sl.at (Bel.rfl' w4) k1 hkc1
        obtain ⟨bc', oc', x3, x4, ebc', hbcs', g4, g5, g6, y3', y4'⟩ := ho4.sl.at (Bel.rfl' w4) k2 hkc2
        subst ebc
        cases ebc'
        obtain ⟨P1, P2, hPz, pt1, pt2⟩ := sides_x hs1 y1' y2'
        obtain ⟨Q1, Q2, hQz, qt1, qt2⟩ := sides_x hs2 y3' y4'
        have HT1 := Lib.hid hPz
        have HT2 := Lib.hid hQz
        obtain ⟨xa1, xc1, fx1⟩ := y1'.form
        obtain ⟨xa2, xc2, fx2⟩ := y2'.form
        obtain ⟨xa3, xc3, fx3⟩ := y3'.form
        obtain ⟨xa4, xc4, fx4⟩ := y4'.form
        clear y1' y2' y3' y4' hPz hQz pt1 qt1
        generalize sideR (cb.getD k1 lt0) ws = tR at *
        generalize sideR (cb.getD k2 lt0) wo = tR2 at *
        generalize (cb.getD k1 lt0).1 = xp at *
        generalize (cb.getD k2 lt0).1 = yp at *
        generalize (cb.getD k1 lt0).2.1.length = xn1 at *
        generalize (cb.getD k1 lt0).2.2.length = xn2 at *
        generalize (cb.getD k2 lt0).2.1.length = xn3 at *
        generalize (cb.getD k2 lt0).2.2.length = xn4 at *
        obtain ⟨pb1, pm1, pd1⟩ := P1
        obtain ⟨pb2, pm2, pd2⟩ := P2
        obtain ⟨qb1, qm1, qd1⟩ := Q1
        obtain ⟨qb2, qm2, qd2⟩ := Q2
        simp only [encS] at pt2 qt2
        subst fx1 fx2 fx3 fx4
        have E3 := tvV_of (p := xp) HT1.out
        have E4 := tvV_of (p := yp) HT2.out
        simp only [encS] at E3 E4
        have E3 := Lib.hid E3
        have E4 := Lib.hid E4
        clear HT1 HT2 E1 E2
        have HS4 := Lib.hid (fun (w' : World) (hb : Bel w4 w') => (fun h : _ ∧ _ ∧ _ ∧ _ ∧ _ ∧ _ ∧ _ ∧ _ ∧ _ ∧ _ ∧ _ => ⟨h.2.1, h.2.2.1, h.2.2.2.1, h.2.2.2.2.1, hb.at hbcs g1, hb.at hbcs g2, hb.at hbcs g3, hb.at hbcs g4, hb.at hbcs g5, hb.at hbcs g6⟩ : _ → (w'.cell? ⟨w.heap.size + 1, 0, none⟩ = some (.int .i64 k1) ∧ w'.cell? ⟨w.heap.size + 1, 1, none⟩ = some (.int .i64 ws) ∧ w'.cell? ⟨w.heap.size + 1, 2, none⟩ = some (.int .i64 k2) ∧ w'.cell? ⟨w.heap.size + 1, 3, none⟩ = some (.int .i64 wo) ∧ w'.cell? ⟨bc, oc + k1 * 3, none⟩ = some (.bool xp) ∧ w'.cell? ⟨bc, oc + k1 * 3 + 1, none⟩ = some (.slice xa1 xn1 xc1) ∧ w'.cell? ⟨bc, oc + k1 * 3 + 2, none⟩ = some (.slice xa2 xn2 xc2) ∧ w'.cell? ⟨bc, oc + k2 * 3, none⟩ = some (.bool yp) ∧ w'.cell? ⟨bc, oc + k2 * 3 + 1, none⟩ = some (.slice xa3 xn3 xc3) ∧ w'.cell? ⟨bc, oc + k2 * 3 + 2, none⟩ = some (.slice xa4 xn4 xc4))) (HF.out _ (BE4.step hb)))
        clear HF HUU HAA HCF g1 g2 g3 g4 g5 g6
        go_wp2_with fail
        refine HCLO.out.mono ?_; rintro e w5 ⟨g, kg, zs, rfl, hrow, hlies, hbo⟩
        obtain ⟨hgb, hgf⟩ := hrow.froz
        have hsl5 := SlC.of_row hrow hlies hbo.size
        obtain ⟨g7, o7, x7, x8, eb7, hb7s, f7, f8, f9, y7, y8⟩ := hsl5.at (Bel.rfl' w5) k1 hkc1
        cases eb7
        obtain ⟨xa7, xc7, fx7⟩ := y7.form
        obtain ⟨xa8, xc8, fx8⟩ := y8.form
        subst fx7 fx8
        clear y7 y8
        rw [Nat.zero_add] at f7 f8 f9
        generalize (cb.getD k1 lt0).2.1.length = xn7 at *
        generalize (cb.getD k1 lt0).2.2.length = xn8 at *
        generalize (cb.getD k1 lt0).1 = xp7 at *
        have HG5 := Lib.hid (fun (w' : World) (hb : Bel w5 w') => (⟨hb.at hb7s f7, hb.at hb7s f8, hb.at hb7s f9, (hb.frozen (p := ⟨g, k1 * 3, none⟩) hb7s).trans (hgf _), (hb.frozen (p := ⟨g, k1 * 3 + 1, none⟩) hb7s).trans (hgf _), (hb.frozen (p := ⟨g, k1 * 3 + 2, none⟩) hb7s).trans (hgf _)⟩ : (w'.cell? ⟨g, k1 * 3, none⟩ = some (.bool xp7) ∧ w'.cell? ⟨g, k1 * 3 + 1, none⟩ = some (.slice xa7 xn7 xc7) ∧ w'.cell? ⟨g, k1 * 3 + 2, none⟩ = some (.slice xa8 xn8 xc8) ∧ w'.frozen? ⟨g, k1 * 3, none⟩ = false ∧ w'.frozen? ⟨g, k1 * 3 + 1, none⟩ = false ∧ w'.frozen? ⟨g, k1 * 3 + 2, none⟩ = false)))
        have D5 := Bel.drew0 w5
        clear f7 f8 f9 hgf
        go_wp2_with fail
        go_region_held3 (fun w' => w'.cell? ⟨w.heap.size + 1, 0, none⟩ = some (.int .i64 k1) ∧ w'.cell? ⟨w.heap.size + 1, 1, none⟩ = some (.int .i64 ws) ∧ w'.cell? ⟨w.heap.size + 1, 2, none⟩ = some (.int .i64 k2) ∧ w'.cell? ⟨w.heap.size + 1, 3, none⟩ = some (.int .i64 wo) ∧ w'.cell? ⟨bc, oc + k1 * 3, none⟩ = some (.bool xp) ∧ w'.cell? ⟨bc, oc + k1 * 3 + 1, none⟩ = some (.slice xa1 xn1 xc1) ∧ w'.cell? ⟨bc, oc + k1 * 3 + 2, none⟩ = some (.slice xa2 xn2 xc2) ∧ w'.cell? ⟨bc, oc + k2 * 3, none⟩ = some (.bool yp) ∧ w'.cell? ⟨bc, oc + k2 * 3 + 1, none⟩ = some (.slice xa3 xn3 xc3) ∧ w'.cell? ⟨bc, oc + k2 * 3 + 2, none⟩ = some (.slice xa4 xn4 xc4))
          (first | exact HS4.out _ ((((hbo.step D7).set (p := ⟨g, k1 * 3, none⟩) hgb (.bool false)).set (p := ⟨g, k1 * 3 + 1, none⟩) hgb (.slice pb2 pm2 pd2)).set (p := ⟨g, k1 * 3 + 2, none⟩) hgb (.slice qb2 qm2 qd2)) | exact HS4.out _ (hbo.step D7) | exact HS4.out _ (hbo.step D6) | exact HS4.out _ (hbo.step D5) | fail)
          (first
            | (go_at_call 106; refine (turned_u _ _ _ _ _ _ _ _ _ (by first | exact HTT.out.1 | exact HTT.out.2)).mono ?_; rintro e w7 ⟨rfl, hb7⟩; have D7 := D6.step hb7; obtain ⟨r1, r2, r3, r4, r5, r6⟩ := HG5.out _ D7; first | rw [E3.out] | rw [E4.out])
            | (go_at_call 106; refine (turned_u _ _ _ _ _ _ _ _ _ (by first | exact HTT.out.1 | exact HTT.out.2)).mono ?_; rintro e w6 ⟨rfl, hb6⟩; have D6 := D5.step hb6; first | rw [E3.out] | rw [E4.out])
            | fail)
        all_goals
          have B49 := ((((hbo.step D7).set (p := ⟨g, k1 * 3, none⟩) hgb (.bool false)).set (p := ⟨g, k1 * 3 + 1, none⟩) hgb (.slice pb2 pm2 pd2)).set (p := ⟨g, k1 * 3 + 2, none⟩) hgb (.slice qb2 qm2 qd2))
          have HS9 := (hsl5.below D7).in'.set3 k1 hkc1 false (.slice pb2 pm2 pd2) (.slice qb2 qm2 qd2) _ _ ((pt2.below (hbo.step D7)).in') ((qt2.below (hbo.step D7)).in')
          rw [HOUT.out] at HS9
          rw [Nat.zero_add] at HS9
          clear HG5 D5 D6 D7 r1 r2 r3 r4 r5 r6 hb6 hb7 hgb hrow hlies hsl5 pt2 qt2 E3 E4
          generalize (((w7.setCell ⟨g, k1 * 3, none⟩ (.bool false)).setCell ⟨g, k1 * 3 + 1, none⟩ (.slice pb2 pm2 pd2)).setCell ⟨g, k1 * 3 + 2, none⟩ (.slice qb2 qm2 qd2)) = w9 at *
          obtain ⟨f0, f1, f2, f3, -⟩ := HS4.out _ B49
          have HLL := Lib.hid (HLD.out w9 _ _ _ OV rfl (BW4.step B49) (ho4.sl.below B49))
          clear HLD HS4
          go_wp2_with fail
          refine HLL.out.mono ?_; rintro e w10 ⟨rfl, hb10⟩
          have BZ := (BW4.step B49).step hb10
          have HR := Lib.hid ((HS9.below hb10).in')
          cases OV with
          | false =>
            have hN0 : N = 5 := HNN.out.symm.trans (if_neg (by simp))
            subst hN0
            go_wp2_with fail
            go_ret2
            exact ⟨_, _, _, rfl, HR.out, BZ⟩
          | true =>
            have hN0 : N = 0 := HNN.out.symm.trans (if_pos rfl)
            subst hN0
            go_wp2_with fail
            go_ret2
            exact ⟨_, _, _, rfl, HR.out, BZ⟩
end Go.Proofs.YtikllmdmifecpaaGreatDoor
end
section
/- Chapter 6, the reference: Superpose. -/
namespace Go.Proofs.YtikllmdmifecpaaGreatDoor
open Go.RowKit

theorem SlI.slen {lo hi : Nat} {w : World} {ad : Option Addr} {n k : Nat} {xs : List Int} (h : SlI lo hi w (.slice ad n k) xs) : n = xs.length := by
  obtain ⟨_, _, e, _⟩ := h; simp only [Value.slice.injEq] at e; exact e.2.1
theorem getD_shift {c : List Lt} (n : Nat) {k : Nat} (hk : k < c.length) (s : Int) : sideL ((shiftC n c).getD k lt0) s = shifted (sideL (c.getD k lt0) s) n := by
  rw [shiftC_get _ _ _ hk]; unfold sideL; split <;> rfl
theorem shifted_sym (t : List Int) (n : Nat) (k : Nat) : 0 ≤ (shifted t n).getD k 0 ↔ 0 ≤ t.getD k 0 := by
  unfold shifted shiftOne
  simp only [List.getD, List.getElem?_map]
  cases t[k]? with
  | none => simp
  | some z => simp only [Option.map_some, Option.getD_some]; split <;> omega
theorem cells3 {w : World} {g : Nat} {p q : Bool} {u1 u2 z1 z2 : Value} (h0 : w.cell? ⟨g, 0, none⟩ = some (.bool p)) (h1 : w.cell? ⟨g, 1, none⟩ = some u1) (h2 : w.cell? ⟨g, 2, none⟩ = some u2) :
    (((w.setCell ⟨g, 0, none⟩ (.bool q)).setCell ⟨g, 1, none⟩ z1).setCell ⟨g, 2, none⟩ z2).cell? ⟨g, 0, none⟩ = some (.bool q) ∧ (((w.setCell ⟨g, 0, none⟩ (.bool q)).setCell ⟨g, 1, none⟩ z1).setCell ⟨g, 2, none⟩ z2).cell? ⟨g, 1, none⟩ = some z1 ∧ (((w.setCell ⟨g, 0, none⟩ (.bool q)).setCell ⟨g, 1, none⟩ z1).setCell ⟨g, 2, none⟩ z2).cell? ⟨g, 2, none⟩ = some z2 := by
  have d1 : (⟨g, 0, none⟩ : Addr) ≠ ⟨g, 1, none⟩ := by intro h; simp at h
  have d2 : (⟨g, 0, none⟩ : Addr) ≠ ⟨g, 2, none⟩ := by intro h; simp at h
  have d3 : (⟨g, 1, none⟩ : Addr) ≠ ⟨g, 2, none⟩ := by intro h; simp at h
  refine ⟨?_, ?_, ?_⟩
  · rw [World.cell?_setCell_other (h := d2.symm), World.cell?_setCell_other (h := d1.symm)]
    exact World.cell?_setCell_same (h := h0) ..
  · rw [World.cell?_setCell_other (h := d3.symm)]
    exact World.cell?_setCell_same (h := (by rw [World.cell?_setCell_other (h := d1)]; exact h1)) ..
  · exact World.cell?_setCell_same (h := (by rw [World.cell?_setCell_other (h := d3), World.cell?_setCell_other (h := d2)]; exact h2)) ..
theorem frozen3 {w : World} {g i : Nat} {q : Bool} {z1 z2 : Value} (h : w.frozen? ⟨g, i, none⟩ = false) : (((w.setCell ⟨g, 0, none⟩ (.bool q)).setCell ⟨g, 1, none⟩ z1).setCell ⟨g, 2, none⟩ z2).frozen? ⟨g, i, none⟩ = false := by
  rw [World.frozen?_setCell, World.frozen?_setCell, World.frozen?_setCell]; exact h
theorem OwnI.box3 {lo hi : Nat} {w : World} {v : Value} {xs : List Int} (h : OwnI lo hi w v xs) {g : Nat} (hg : g < lo) {q : Bool} {z1 z2 : Value} : OwnI lo hi (((w.setCell ⟨g, 0, none⟩ (.bool q)).setCell ⟨g, 1, none⟩ z1).setCell ⟨g, 2, none⟩ z2) v xs :=
  ((h.set (p := ⟨g, 0, none⟩) (.inl hg) _).set (p := ⟨g, 1, none⟩) (.inl hg) _).set (p := ⟨g, 2, none⟩) (.inl hg) _
theorem Bel.box3 {a w : World} (h : Bel a w) {g : Nat} (hg : a.heap.size ≤ g) {q : Bool} {z1 z2 : Value} : Bel a (((w.setCell ⟨g, 0, none⟩ (.bool q)).setCell ⟨g, 1, none⟩ z1).setCell ⟨g, 2, none⟩ z2) :=
  ((h.set (p := ⟨g, 0, none⟩) hg _).set (p := ⟨g, 1, none⟩) hg _).set (p := ⟨g, 2, none⟩) hg _
theorem shortC_mem {c : List Lt} (h : c.length ≤ 1048576) (hm : ∀ x ∈ c, x.2.1.length ≤ 1048576 ∧ x.2.2.length ≤ 1048576) : shortC c := ⟨h, fun j hj => hm _ (mem_getD c lt0 j hj)⟩
theorem shortC_get {c : List Lt} (h : shortC c) {x : Lt} (hx : x ∈ c) : x.2.1.length ≤ 1048576 ∧ x.2.2.length ≤ 1048576 := by
  obtain ⟨j, hj, rfl⟩ := List.getElem_of_mem hx
  have := h.2 j hj
  simpa [List.getD, hj] using this
theorem shortC_out {cb eb : List Lt} {k1 k2 : Nat} {x : Lt} (h1 : shortC cb) (h2 : shortC eb) (hc : cb.length ≤ 8) (he : eb.length ≤ 8) (hx : x.2.1.length ≤ 1048576 ∧ x.2.2.length ≤ 1048576) : shortC (dropAt cb k1 ++ eb.set k2 x) := by
  refine shortC_mem (by have := dropAt_len cb k1; simp; omega) fun y hy => ?_
  rcases List.mem_append.1 hy with h | h
  · unfold dropAt at h
    rcases List.mem_append.1 h with h | h
    · exact shortC_get h1 (List.mem_of_mem_take h)
    · exact shortC_get h1 (List.mem_of_mem_drop h)
  · rcases List.mem_or_eq_of_mem_set h with h | rfl
    · exact shortC_get h2 h
    · exact hx
theorem setL_ok {b : List (List Int)} {x : Lt} {s : Int} {y : List Int} : (setL x s y (appT b (sideR x s))).1 = x.1 := by unfold setL; split <;> rfl

set_option maxRecDepth 100000 in
set_option maxHeartbeats 2000000 in
theorem l6Super_c (l0 m0 l1 m1 l2 m2 : Nat) (v u x : Value) (ar : List Int) (c d : List Lt) (wy : Wy) (w : World) (hg : goodSign ar = true) (hc : okLits ar c = true) (hd : okLits ar d = true) (hv : SlI l0 m0 w v ar) (hu : SlC l1 m1 w u c) (hx : SlC l2 m2 w x d) :
    Calls Tryz.prog 53 #[.agg #[v], u, x, .agg #[.int .i64 wy.1, .int .i64 wy.2.1, .int .i64 wy.2.2.1, .int .i64 wy.2.2.2.1, .int .i64 wy.2.2.2.2]] w (RetCN w (concl (supR ar c d wy).1) (supR ar c d wy).2) := by
  obtain ⟨wi, ws, wj, wo, wa⟩ := wy
  generalize hRR : supR ar c d (wi, ws, wj, wo, wa) = RR
  obtain ⟨r, n⟩ := RR
  dsimp only
  have HRR := Lib.hid hRR
  clear hRR
  obtain ⟨h8, hokc⟩ := okLits_iff.1 hc
  obtain ⟨h8d, hokd⟩ := okLits_iff.1 hd
  obtain ⟨ad, cap, rfl⟩ := hu.form
  obtain ⟨ad2, cap2, rfl⟩ := hx.form
  have B2 : Bel w ((w.alloc (.cells #[v] 33)).alloc (.cells #[.int .i64 wi, .int .i64 ws, .int .i64 wj, .int .i64 wo, .int .i64 wa] 36)) := Bel.alloc2 _ _ _
  generalize h1 : litOk c wi ws = q1
  have HL1 := Lib.hid (l6Lit_q l1 m1 _ c wi ws q1 ((w.alloc (.cells #[v] 33)).alloc (.cells #[.int .i64 wi, .int .i64 ws, .int .i64 wj, .int .i64 wo, .int .i64 wa] 36)) h1 (by omega) (hu.below B2))
  go_enter Tryz.func53, Tryz.ntmps53
  go_wp2_with fail
  refine HL1.out.mono ?_; rintro e w1 ⟨rfl, rfl⟩
  cases q1 with
  | false =>
    obtain ⟨rfl, rfl⟩ := Prod.mk.inj (HRR.out.symm.trans (supR_none (by unfold supIn; dsimp only; rw [h1]; rfl)))
    go_wp2_with fail
    go_ret2
    exact ⟨_, _, _, rfl, OwnC.nil _ _ _, B2⟩
  | true =>
    obtain ⟨⟨i0, i1⟩, hs1⟩ := litOk_iff.1 h1
    obtain ⟨k1, rfl⟩ : ∃ k : Nat, wi = (k : Int) := ⟨wi.toNat, by omega⟩
    have hk1 : k1 < c.length := by omega
    clear HL1
    obtain ⟨b, off, u1, u2, rfl, hbs, c1, c2, c3, s1, s2⟩ := hu.at (Bel.rfl' w) k1 hk1
    generalize hp1 : (c.getD k1 lt0).1 = p1 at c1
    have C1 := B2.at hbs c1
    cases p1 with
    | false =>
      obtain ⟨rfl, rfl⟩ := Prod.mk.inj (HRR.out.symm.trans (supR_none (by unfold supIn; dsimp only; rw [h1, Int.toNat_natCast, hp1]; rfl)))
      go_wp2_with fail
      go_ret2
      exact ⟨_, _, _, rfl, OwnC.nil _ _ _, B2⟩
    | true =>
      generalize h2 : litOk d wj wo = q2
      have HL2 := Lib.hid (l6Lit_q l2 m2 _ d wj wo q2 ((w.alloc (.cells #[v] 33)).alloc (.cells #[.int .i64 (k1 : Int), .int .i64 ws, .int .i64 wj, .int .i64 wo, .int .i64 wa] 36)) h2 (by omega) (hx.below B2))
      go_wp2_with fail
      refine HL2.out.mono ?_; rintro e w1 ⟨rfl, rfl⟩
      cases q2 with
      | false =>
        obtain ⟨rfl, rfl⟩ := Prod.mk.inj (HRR.out.symm.trans (supR_none (by unfold supIn; dsimp only; rw [h1, Int.toNat_natCast, hp1, h2]; rfl)))
        go_wp2_with fail
        go_ret2
        exact ⟨_, _, _, rfl, OwnC.nil _ _ _, B2⟩
      | true =>
        obtain ⟨⟨j0, j1⟩, hs2⟩ := litOk_iff.1 h2
        obtain ⟨k2, rfl⟩ : ∃ k : Nat, wj = (k : Int) := ⟨wj.toNat, by omega⟩
        have hk2 : k2 < d.length := by omega
        clear HL2
        obtain ⟨bd, offd, q1, q2, rfl, hbsd, d1, d2, d3, r1, r2⟩ := hx.at (Bel.rfl' w) k2 hk2
        obtain ⟨y1, y2, hy, t3, t4⟩ := sides_x hs2 r1 r2
        have HF := Lib.hid (fun (w' : World) (hb : Bel ((w.alloc (.cells #[v] 33)).alloc (.cells #[.int .i64 (k1 : Int), .int .i64 ws, .int .i64 (k2 : Int), .int .i64 wo, .int .i64 wa] 36)) w') => (⟨boxc hb.of_alloc 0 _ rfl, hb.at (by simp) (by simp [go_sem]), hb.at (by simp) (by simp [go_sem]), hb.at (by simp) (by simp [go_sem]), hb.at (by simp) (by simp [go_sem]), hb.at (by simp) (by simp [go_sem]), hb.at (by simp; omega) (B2.at hbs c1), hb.at (by simp; omega) (B2.at hbs c2), hb.at (by simp; omega) (B2.at hbs c3), hb.at (by simp; omega) (B2.at hbsd d1), hb.at (by simp; omega) (B2.at hbsd d2), hb.at (by simp; omega) (B2.at hbsd d3)⟩ : (w'.cell? ⟨w.heap.size, 0, none⟩ = some v ∧ w'.cell? ⟨w.heap.size + 1, 0, none⟩ = some (.int .i64 k1) ∧ w'.cell? ⟨w.heap.size + 1, 1, none⟩ = some (.int .i64 ws) ∧ w'.cell? ⟨w.heap.size + 1, 2, none⟩ = some (.int .i64 k2) ∧ w'.cell? ⟨w.heap.size + 1, 3, none⟩ = some (.int .i64 wo) ∧ w'.cell? ⟨w.heap.size + 1, 4, none⟩ = some (.int .i64 wa) ∧ w'.cell? ⟨b, off + k1 * 3, none⟩ = some (.bool true) ∧ w'.cell? ⟨b, off + k1 * 3 + 1, none⟩ = some u1 ∧ w'.cell? ⟨b, off + k1 * 3 + 2, none⟩ = some u2 ∧ w'.cell? ⟨bd, offd + k2 * 3, none⟩ = some (.bool (d.getD k2 lt0).1) ∧ w'.cell? ⟨bd, offd + k2 * 3 + 1, none⟩ = some q1 ∧ w'.cell? ⟨bd, offd + k2 * 3 + 2, none⟩ = some q2)))
        have HS2 := Lib.hid (fun (w' : World) => l6Sides_c (d.getD k2 lt0).1 q1 q2 y1 y2 wo w' hy)
        have eU : supU d ((k1 : Int), ws, (k2 : Int), wo, wa) = sideL (d.getD k2 lt0) wo := by unfold supU; dsimp only; rw [Int.toNat_natCast]
        have hUok : okTerm ar (sideL (d.getD k2 lt0) wo) = true := sideL_ok (okLit_iff.2 (okLits_get hokd k2 hk2)) wo
        have hU40 := (okTerm_len hUok).2
        generalize hU : sideL (d.getD k2 lt0) wo = U at *
        have HU := Lib.hid hU
        clear hU
        clear hy C1 c1 c2 c3 d1 d2 d3 t4
        obtain ⟨a1, e1, f1⟩ := s1.form
        obtain ⟨a2, e2, f2⟩ := s2.form
        obtain ⟨a3, e3, f3⟩ := r1.form
        obtain ⟨a4, e4, f4⟩ := r2.form
        obtain ⟨yb1, ym1, yd1⟩ := y1
        obtain ⟨yb2, ym2, yd2⟩ := y2
        simp only [encS] at HS2 t3
        have eym := t3.slen
        subst f3 f4 eym
        generalize (d.getD k2 lt0).1 = pd at *
        have BD0 := Bel.drew0 ((w.alloc (.cells #[v] 33)).alloc (.cells #[.int .i64 (k1 : Int), .int .i64 ws, .int .i64 (k2 : Int), .int .i64 wo, .int .i64 wa] 36))
        obtain ⟨g0, g1, g2, g3, g4, g5, g6, g7, g8, g9, g10, g11⟩ := HF.out _ BD0
        generalize hN3 : (d.getD k2 lt0).2.1.length = N3 at *
        generalize hN4 : (d.getD k2 lt0).2.2.length = N4 at *
        go_wp2_with fail
        go_region_held3 (fun w' => w'.cell? ⟨w.heap.size + 1, 2, none⟩ = some (.int .i64 k2) ∧ w'.cell? ⟨w.heap.size + 1, 3, none⟩ = some (.int .i64 wo) ∧ w'.cell? ⟨bd, offd + k2 * 3, none⟩ = some (.bool pd) ∧ w'.cell? ⟨bd, offd + k2 * 3 + 1, none⟩ = some (.slice a3 N3 e3) ∧ w'.cell? ⟨bd, offd + k2 * 3 + 2, none⟩ = some (.slice a4 N4 e4))
          (first | exact ⟨g3, g4, g9, g10, g11⟩ | exact (fun h : _ ∧ _ ∧ _ ∧ _ ∧ _ ∧ _ ∧ _ ∧ _ ∧ _ ∧ _ ∧ _ ∧ _ => ⟨h.2.2.2.1, h.2.2.2.2.1, h.2.2.2.2.2.2.2.2.2.1, h.2.2.2.2.2.2.2.2.2.2.1, h.2.2.2.2.2.2.2.2.2.2.2⟩) (HF.out _ (BD0.step hb1)) | fail)
          (first | (go_at_call 93; refine (HS2.out _).mono ?_; rintro e w1 ⟨rfl, hb1⟩) | fail)
        clear g0 g1 g2 g3 g4 g5 g6 g7 g8 g9 g10 g11 HS2
        have BE1 := BD0.step hb1
        have BW1 := B2.step BE1
        have n5 := (HF.out _ BE1).2.2.2.2.2.1
        generalize h4 : inB wa 0 (U.length - 1 : Int) = q4
        have H4 := Lib.hid h4
        go_wp2_with fail
        refine (l1In_qv _ _ _ q4 H4.out _).mono ?_; rintro e w2 ⟨rfl, rfl⟩
        cases q4 with
        | false =>
          obtain ⟨rfl, rfl⟩ := Prod.mk.inj (HRR.out.symm.trans (supR_none (by unfold supIn; dsimp only; rw [h1, Int.toNat_natCast, hp1, h2, eU, h4]; rfl)))
          go_wp2_with fail
          go_ret2
          exact ⟨_, _, _, rfl, OwnC.nil _ _ _, BW1⟩
        | true =>
          have hb0 : 0 ≤ wa ∧ wa ≤ (U.length : Int) - 1 := by unfold inB at h4; simpa using h4
          obtain ⟨ka, rfl⟩ : ∃ k : Nat, wa = (k : Int) := ⟨wa.toNat, by omega⟩
          have hka : ka < U.length := by omega
          have hkaI : (ka : Int) < U.length := by omega
          clear H4 hb0
          obtain ⟨ad3, cap3, e5, hc5, hm5, hr5⟩ := t3
          simp only [Value.slice.injEq] at e5
          obtain ⟨rfl, -, rfl⟩ := e5
          obtain ⟨bu, ou, rfl, hbu, hcu⟩ := rd hr5 BW1 ka hka
          generalize hnn : U.getD ka 0 = nn at hcu
          by_cases hn0 : nn < 0
          · have hcond := hn0
            obtain ⟨rfl, rfl⟩ := Prod.mk.inj (HRR.out.symm.trans (supR_none (by unfold supIn; dsimp only; rw [h1, Int.toNat_natCast, hp1, h2, eU, h4, Int.toNat_natCast, hnn, decide_eq_false (by omega)]; rfl)))
            clear hnn
            go_wp2_with fail
            go_ret2
            exact ⟨_, _, _, rfl, OwnC.nil _ _ _, BW1⟩
          · have hin : supIn c d ((k1 : Int), ws, (k2 : Int), wo, (ka : Int)) = true := by unfold supIn; dsimp only; rw [h1, Int.toNat_natCast, hp1, h2, eU, h4, Int.toNat_natCast, hnn, decide_eq_true (by omega)]; rfl
            have HA := Lib.hid (fun (w' : World) (hb : Bel w w') => l6Apart_c _ _ _ _ _ _ v _ _ ar c d w' hg hc hd (hv.below hb) (hu.below hb) (hx.below hb))
            generalize hap : okLits ar (apartC c d) = q5 at *
            have m0 := (HF.out _ BE1).1
            have HAA := Lib.hid (HA.out _ BW1)
            clear HA
            have HNN := Lib.hid hnn
            clear hnn
            generalize hee : (if q5 = true then apartC c d else []) = ee at HAA
            have HEE := Lib.hid hee
            clear hee
            go_wp2_with fail
            refine HAA.out.mono ?_; rintro e w2 ⟨ae, ne, ke, rfl, hoe, hb2⟩
            cases q5 with
            | false =>
              obtain ⟨rfl, rfl⟩ := Prod.mk.inj (HRR.out.symm.trans (supR_vars hin hap))
              go_wp2_with fail
              go_ret2
              exact ⟨_, _, _, rfl, OwnC.nil _ _ _, BW1.step hb2⟩
            | true =>
              have hE : apartC c d = ee := (if_pos rfl).symm.trans HEE.out
              have HR2 := Lib.hid ((supR_go hin hap).symm.trans HRR.out)
              have hgo : Hid (supE ar c ee ((k1 : Int), ws, (k2 : Int), wo, (ka : Int)) = (r, n)) := by show _ = _; rw [← hE]; exact HR2.out
              have heok : okLits ar ee = true := by rw [← hE]; exact hap
              have helen : ee.length = d.length := by rw [← hE]; exact shiftC_len _ _
              have heU : sideL (ee.getD k2 lt0) wo = shifted U (byC c) := by rw [← hE, ← HU.out]; exact getD_shift _ hk2 _
              clear HR2 HRR hin hap HEE hE HAA
              have hke : k2 < ee.length := by rw [helen]; exact hk2
              clear helen
              obtain ⟨h8e, hoke⟩ := okLits_iff.1 heok
              have hne := hoe.sl.len
              subst hne
              obtain ⟨z1, z2, hz, t1, t2⟩ := sides_x hs1 s1 s2
              obtain ⟨be, oe, p1, p2, rfl, hbse, ce1, ce2, ce3, s5, s6⟩ := hoe.sl.at (Bel.rfl' w2) k2 hke
              obtain ⟨x1, x2, hxz, t5, t6⟩ := sides_x hs2 s5 s6
              have HS1 := Lib.hid (fun (w' : World) => l6Sides_c (c.getD k1 lt0).1 u1 u2 z1 z2 ws w' hz)
              have HS2 := Lib.hid (fun (w' : World) => l6Sides_c (ee.getD k2 lt0).1 p1 p2 x1 x2 wo w' hxz)
              have hok1 := okLit_iff.2 (okLits_get hokc k1 hk1)
              have hok2 := okLit_iff.2 (okLits_get hoke k2 hke)
              have hLok := sideL_ok hok1 ws
              have hRok := sideR_ok hok1 ws
              have hUok2 := sideL_ok hok2 wo
              have hVok := sideR_ok hok2 wo
              have eL : facL c ((k1 : Int), ws, (k2 : Int), wo, (ka : Int)) = sideL (c.getD k1 lt0) ws := by unfold facL; dsimp only; rw [Int.toNat_natCast]
              have eR : facR c ((k1 : Int), ws, (k2 : Int), wo, (ka : Int)) = sideR (c.getD k1 lt0) ws := by unfold facR; dsimp only; rw [Int.toNat_natCast]
              have eUe : supU ee ((k1 : Int), ws, (k2 : Int), wo, (ka : Int)) = sideL (ee.getD k2 lt0) wo := by unfold supU; dsimp only; rw [Int.toNat_natCast]
              have eVe : supV ee ((k1 : Int), ws, (k2 : Int), wo, (ka : Int)) = sideR (ee.getD k2 lt0) wo := by unfold supV; dsimp only; rw [Int.toNat_natCast]
              obtain ⟨fz1, fk1, e1x⟩ := s5.form
              obtain ⟨fz2, fk2, e2x⟩ := s6.form
              rw [hp1] at HS1
              clear hz hxz s1 s2 s5 s6 hok1 hok2
              have BW2 := BW1.step hb2
              have BE2 := BE1.step hb2
              subst f1 f2 e1x e2x
              generalize hP0 : (ee.getD k2 lt0).1 = pe at *
              generalize (c.getD k1 lt0).2.1.length = N1 at *
              generalize (c.getD k1 lt0).2.2.length = N2 at *
              generalize (ee.getD k2 lt0).2.1.length = N5 at *
              generalize (ee.getD k2 lt0).2.2.length = N6 at *
              generalize hL0 : sideL (c.getD k1 lt0) ws = L at *
              generalize hR0 : sideR (c.getD k1 lt0) ws = Rr at *
              have HL0 := Lib.hid (And.intro hL0 hR0)
              clear hL0 hR0
              generalize hUE : sideL (ee.getD k2 lt0) wo = Ue at *
              generalize hVE : sideR (ee.getD k2 lt0) wo = Ve at *
              have hkae : ka < Ue.length := by rw [heU, shifted_len]; exact hka
              have hask : askOk ar Ue ka = true := by
                unfold askOk goodTerm inB
                rw [hg, hUok2, decide_eq_true (show (0:Int) ≤ ka by omega), decide_eq_true (show (ka : Int) ≤ (Ue.length : Int) - 1 by omega)]; rfl
              obtain ⟨ka', qe, eka, -, hend, hq1, hq2, hU40e, -, -⟩ := ask_yes hask
              obtain rfl : ka' = ka := by omega
              have hPok : okTerm ar (partOf Ue ka' qe) = true := partOf_ok ar Ue ka' qe hUok2 hkae hend
              have eAt : supAt ar ee ((k1 : Int), ws, (k2 : Int), wo, (ka' : Int)) = partOf Ue ka' qe := by unfold supAt; rw [eUe]; dsimp only; rw [Int.toNat_natCast, hend]; rfl
              have eRp : replIn ar Ue (ka' : Int) Rr = replaced Ue ka' qe Rr := replIn_eq hend
              obtain ⟨zb1, zm1, zd1⟩ := z1
              obtain ⟨zb2, zm2, zd2⟩ := z2
              obtain ⟨xb1, xm1, xd1⟩ := x1
              obtain ⟨xb2, xm2, xd2⟩ := x2
              simp only [encS] at HS1 HS2 t1 t2 t5 t6
              have BD3 := BE2.drew
              have HF2 := Lib.hid (fun (w' : World) (hb : Bel w2 w') => (⟨hb.at hbse ce1, hb.at hbse ce2, hb.at hbse ce3⟩ : (w'.cell? ⟨be, oe + k2 * 3, none⟩ = some (.bool pe) ∧ w'.cell? ⟨be, oe + k2 * 3 + 1, none⟩ = some (.slice fz1 N5 fk1) ∧ w'.cell? ⟨be, oe + k2 * 3 + 2, none⟩ = some (.slice fz2 N6 fk2))))
              have HPA := Lib.hid (fun (w' : World) (hb : Bel w2 w') => l1Part_c _ _ _ _ v (.slice xb1 xm1 xd1) ar Ue ka' qe w' hg (by omega) hkae hend hq1 hq2 (hv.below (BW2.step hb)) (t5.below hb))
              obtain ⟨ea, eo⟩ := uni_ans (uniOk0_of hg hLok hPok)
              have HUN := Lib.hid (fun (w' : World) (y : Value) (lo hi : Nat) (hb : Bel w2 w') (hy : SlI lo hi w' y (partOf Ue ka' qe)) => (by
                have := l2Unify_c _ _ _ _ _ _ v (.slice zb1 zm1 zd1) y ar _ _ w' hg hLok hPok (hv.below (BW2.step hb)) (t1.below (BW2.step hb)) hy
                rw [← ea, ← eo] at this
                exact this : Calls Tryz.prog 96 #[.agg #[v], .slice zb1 zm1 zd1, y] w' (RetSSB w' (unifyAns ar L (partOf Ue ka' qe)) (unifyOk ar L (partOf Ue ka' qe)))))
              clear ea eo ce1 ce2 ce3 m0 n5 BD0
              obtain ⟨g0, g1, g2, g3, g4, g5, g6, g7, g8, -⟩ := HF.out _ BD3
              go_wp2_with fail
              go_region_held3 (fun w' => w'.cell? ⟨w.heap.size + 1, 0, none⟩ = some (.int .i64 k1) ∧ w'.cell? ⟨w.heap.size + 1, 1, none⟩ = some (.int .i64 ws) ∧ w'.cell? ⟨b, off + k1 * 3, none⟩ = some (.bool true) ∧ w'.cell? ⟨b, off + k1 * 3 + 1, none⟩ = some (.slice a1 N1 e1) ∧ w'.cell? ⟨b, off + k1 * 3 + 2, none⟩ = some (.slice a2 N2 e2))
                (first | exact ⟨g1, g2, g6, g7, g8⟩ | exact (fun h : _ ∧ _ ∧ _ ∧ _ ∧ _ ∧ _ ∧ _ ∧ _ ∧ _ ∧ _ ∧ _ ∧ _ => ⟨h.2.1, h.2.2.1, h.2.2.2.2.2.2.1, h.2.2.2.2.2.2.2.1, h.2.2.2.2.2.2.2.2.1⟩) (HF.out _ (BD3.step hb3)) | fail)
                (first | (go_at_call 93; refine (HS1.out _).mono ?_; rintro e w3 ⟨rfl, hb3⟩) | fail)
              clear g0 g1 g2 g3 g4 g5 g6 g7 g8
              have H23 := ((Bel.drew0 w2).step hb3).drew
              have BE3 := BE2.step H23
              obtain ⟨j0, j1, j2⟩ := HF2.out _ H23
              obtain ⟨g0, g1, g2, g3, g4, g5, -⟩ := HF.out _ BE3
              go_wp2_with fail
              go_region_held3 (fun w' => w'.cell? ⟨w.heap.size + 1, 2, none⟩ = some (.int .i64 k2) ∧ w'.cell? ⟨w.heap.size + 1, 3, none⟩ = some (.int .i64 wo) ∧ w'.cell? ⟨be, oe + k2 * 3, none⟩ = some (.bool pe) ∧ w'.cell? ⟨be, oe + k2 * 3 + 1, none⟩ = some (.slice fz1 N5 fk1) ∧ w'.cell? ⟨be, oe + k2 * 3 + 2, none⟩ = some (.slice fz2 N6 fk2))
                (first | exact ⟨g3, g4, j0, j1, j2⟩ | exact ⟨(HF.out _ (BE3.step hb4)).2.2.2.1, (HF.out _ (BE3.step hb4)).2.2.2.2.1, HF2.out _ (H23.step hb4)⟩ | fail)
                (first | (go_at_call 93; refine (HS2.out _).mono ?_; rintro e w4 ⟨rfl, hb4⟩) | fail)
              clear g0 g1 g2 g3 g4 g5 j0 j1 j2
              have H24 := (H23.step hb4).drew
              have BE4 := BE2.step H24
              obtain ⟨g0, g1, g2, g3, g4, g5, -⟩ := HF.out _ BE4
              generalize hUA : unifyAns ar L (partOf Ue ka' qe) = UA at *
              generalize hUO : unifyOk ar L (partOf Ue ka' qe) = UO at *
              go_wp2_with fail
              go_region_held3 (fun w' => w'.cell? ⟨w.heap.size, 0, none⟩ = some v ∧ w'.cell? ⟨w.heap.size + 1, 4, none⟩ = some (.int .i64 ka'))
                (first | exact ⟨g0, g5⟩ | exact (fun h : _ ∧ _ ∧ _ ∧ _ ∧ _ ∧ _ ∧ _ => ⟨h.1, h.2.2.2.2.2.1⟩) (HF.out _ (BE2.step H26)) | exact (fun h : _ ∧ _ ∧ _ ∧ _ ∧ _ ∧ _ ∧ _ => ⟨h.1, h.2.2.2.2.2.1⟩) (HF.out _ (BE2.step H25)) | fail)
                (first
                  | (go_at_call 96; refine (HUN.out _ _ _ _ H25 hop.sl).mono ?_; rintro e w6 ⟨ua, un, uc, rfl, ho3, hb6⟩; have H26 := H25.step hb6)
                  | (go_at_call 97; refine (HPA.out _ H24).mono ?_; rintro e w5 ⟨pa, pn, pc, rfl, hop, hb5⟩; have H25 := H24.step hb5)
                  | fail)
              clear g0 g1 g2 g3 g4 g5 HPA HUN HS1 HS2 hop
              have BW6 := BW2.step H26
              cases UO with
              | false =>
                obtain ⟨rfl, rfl⟩ := Prod.mk.inj (hgo.out.symm.trans (supE_apart (by rw [eAt, eL]; exact hUO)))
                go_wp2_with fail
                go_ret2
                exact ⟨_, _, _, rfl, OwnC.nil _ _ _, BW6⟩
              | true =>
                have hgo2 : Hid ((if supOk ar UA c ee ((k1 : Int), ws, (k2 : Int), wo, (ka' : Int)) then (applyC UA (supPre ar c ee ((k1 : Int), ws, (k2 : Int), wo, (ka' : Int))), if supLead UA c ee ((k1 : Int), ws, (k2 : Int), wo, (ka' : Int)) then 0 else 5) else ([], 4)) = (r, n)) := by
                  show _ = _
                  have h := (supE_yes (ar := ar) (c := c) (e := ee) (w := ((k1 : Int), ws, (k2 : Int), wo, (ka' : Int))) (by rw [eAt, eL]; exact hUO)).symm.trans hgo.out
                  rw [eL, eAt, hUA] at h
                  exact h
                have hsub : goodSubst ar UA = true := by rw [← hUA]; exact unify_subst hUO
                have hse : UA.length = 12 ∧ lens40 UA := by rw [← hUA]; exact unify_seat hUO
                obtain ⟨hl12, h40⟩ := hse
                obtain ⟨i0, hi0, hz0, hz1, hz2⟩ := info_parts Tryz.info67
                have HA1 := Lib.hid (l4Apply_c _ _ _ _ _ _ UA c w6 hl12 h40 (by omega) (flat_rows hc) ho3.sl (hu.below BW6))
                have hscb := applyC_short h40 hc
                have hseb := applyC_short h40 heok
                have HLC : Hid ((applyC UA c).length = c.length ∧ (applyC UA ee).length = ee.length) := Lib.hid ⟨by simp [applyC], by simp [applyC]⟩
                have hbadc : Hid (∀ k s, k < c.length → sideL ((applyC UA c).getD k lt0) s = appT UA (sideL (c.getD k lt0) s)) := Lib.hid (fun k s hk => (side_app hk s).1)
                have HA2 := Lib.hid (fun (w' : World) (hb : Bel w6 w') => l4Apply_c _ _ _ _ _ _ UA ee w' hl12 h40 (by omega) (flat_rows heok) (ho3.sl.below hb) (hoe.sl.below (H26.step hb)))
                generalize hCB : applyC UA c = cb at *
                generalize hEB : applyC UA ee = eb at *
                go_wp2_with fail
                refine HA1.out.mono ?_; rintro e w7 ⟨ac, nc, kc, rfl, hoc, hb7⟩
                have HAE := Lib.hid (HA2.out _ hb7)
                clear HA1 HA2
                go_wp2_with fail
                refine HAE.out.mono ?_; rintro e w8 ⟨aeb, neb, keb, rfl, hoeb, hb8⟩
                clear HAE
                have hnc := hoc.sl.len
                have hnb := hoeb.sl.len
                subst hnc hnb
                have H28 := H26.step (hb7.step hb8)
                have BE8 := BE2.step H28
                have BW8 := BW2.step H28
                have hkc : k1 < cb.length := by rw [HLC.out.1]; exact hk1
                have hkb : k2 < eb.length := by rw [HLC.out.2]; exact hke
                have hcl : cb.length ≤ 8 := by rw [HLC.out.1]; exact h8
                have hbl : eb.length ≤ 8 := by rw [HLC.out.2]; exact h8e
                generalize hLIT : setL (ee.getD k2 lt0) wo (appT UA (replaced Ue ka' qe Rr)) (appT UA Ve) = LIT
                have HLIT := Lib.hid hLIT
                clear hLIT
                go_wp2_with fail
                go_loopw [20, 129] (fun o i wr => ∃ (m : Nat) (zs : List LV), m ≤ cb.length ∧ i = .int .i64 m ∧ RowC w8.heap.size wr o zs ∧ LiesA wr o zs ((cb.take m).eraseIdx k1) ∧ Bel w8 wr) (fun _ i _ => cb.length - (intOf i).toNat)
                case atStart => exact ⟨0, [], Nat.zero_le _, rfl, RowC.nil _ _, LiesA.nil _ _, Bel.rfl' _⟩
                case round =>
                  obtain ⟨m, zs, hm, rfl, hrow, hlies, hb⟩ := hrel
                  have hzl := hlies.1
                  by_cases hlt : m < cb.length
                  · obtain ⟨bb, ob, v1, v2, eb1, hbs1, c1, c2, c3, s1, s2⟩ := hoc.sl.at (hb8.step hb) m hlt
                    subst eb1
                    have HST := Lib.hid (erase_step (k := k1) hlt)
                    have hcI : (m : Int) < cb.length := by omega
                    have hzs8 : zs.length ≤ 8 := by rw [hzl]; have := List.length_eraseIdx_le (cb.take m) k1; simp at this; omega
                    generalize cb.getD m lt0 = x at *
                    obtain ⟨p, xl, xr⟩ := x
                    simp only at *
                    obtain ⟨a5, e5, f5⟩ := s1.form
                    obtain ⟨a6, e6, f6⟩ := s2.form
                    subst f5 f6
                    have n0 := (HF.out _ (BE8.step (hb.alloc (.cells #[.bool p, .slice a5 xl.length e5, .slice a6 xr.length e6] 67)))).2.1
                    have z78 := hb8.size
                    by_cases hmk : m = k1
                    · subst hmk
                      have E := Lib.hid (HST.out.trans (if_pos rfl))
                      have HLI := Lib.hid hlies
                      clear HST hlies
                      go_wp2_with fail
                      go_roundw
                      case rel => exact ⟨m+1, zs, by omega, by go_num, ownsRow_bel hrow (Bel.alloc0 _ _), by rw [E.out]; exact HLI.out.bel (Bel.alloc0 _ _), hb.alloc _⟩
                      case measure => simp [intOf]; omega
                    · have hne : ((m : Int) != (k1 : Int)) = true := bne_iff_ne.2 (by omega)
                      have E := Lib.hid (HST.out.trans (if_neg hmk))
                      have BA : Bel wr ((wr.alloc (.cells #[.bool p, .slice a5 xl.length e5, .slice a6 xr.length e6] 67)).alloc (.cells #[.bool p, .slice a5 xl.length e5, .slice a6 xr.length e6] 67)) := Bel.alloc2 _ _ _
                      have R1 : RowC w8.heap.size ((wr.alloc (.cells #[.bool p, .slice a5 xl.length e5, .slice a6 xr.length e6] 67)).alloc (.cells #[.bool p, .slice a5 xl.length e5, .slice a6 xr.length e6] 67)) _ zs := ownsRow_bel hrow BA
                      have L1 := hlies.bel BA
                      have A1 := away.low hrow (s1.mono (Nat.zero_le _) (Nat.le_refl _)) z78
                      have A2 := away.low hrow (s2.mono (Nat.zero_le _) (Nat.le_refl _)) z78
                      have S1 := (s1.below BA).in'
                      have S2 := (s2.below BA).in'
                      have HN := news_lit (wr.alloc (.cells #[.bool p, .slice a5 xl.length e5, .slice a6 xr.length e6] 67)) (.bool p) (.slice a5 xl.length e5) (.slice a6 xr.length e6) 67 (wr.heap.size + 1) (by simp)
                      have HSZ : w8.heap.size ≤ ((wr.alloc (.cells #[.bool p, .slice a5 xl.length e5, .slice a6 xr.length e6] 67)).alloc (.cells #[.bool p, .slice a5 xl.length e5, .slice a6 xr.length e6] 67)).heap.size := Nat.le_trans hb.size BA.size
                      have HLI := Lib.hid (And.intro L1 (And.intro (And.intro S1 A1) (And.intro S2 A2)))
                      clear HST hlies L1 S1 S2 A1 A2 hzl s1 s2
                      go_wp2_with (at_builtin; refine wpList_append_own_at _ rfl _ _ 30 rfl w8.heap.size 67 i0 (.agg #[.bool false, .slice none 0 0, .slice none 0 0]) 3 56 Tryz.underlying30 hi0 hz0 hz1 hz2 rfl (by decide) _ _ _ rfl R1 _ _ _ [.bool p, .slice a5 xl.length e5, .slice a6 xr.length e6] rfl rfl HN (one_lit _ _ _ _ _ _ _) (by unfold maxLen; omega) (by omega) HSZ ?_; intro v' w4 hown' hgrow _ hat)
                      have hown2 : RowC w8.heap.size w4 v' (zs ++ [(p, .slice a5 xl.length e5, .slice a6 xr.length e6)]) := by
                        show World.ownsRow _ _ _ _ _ _ _
                        rw [cellsC_app, List.length_append]; exact hown'
                      have hL2 := HLI.out.1.snoc (p := p) hgrow hat HLI.out.2.1.1 HLI.out.2.1.2 HLI.out.2.2.1 HLI.out.2.2.2
                      have hB2 := (hb.step BA).grown hgrow (fun g hg => own_base R1 g hg)
                      go_roundw
                      case rel => exact ⟨m+1, _, by omega, by go_num, hown2, by rw [E.out]; exact hL2, hB2⟩
                      case measure => simp [intOf]; omega
                  · rw [List.take_of_length_le (by omega), ← erase_take] at hlies
                    obtain ⟨w9, hw9⟩ : ∃ w9, w9 = wr := ⟨_, rfl⟩
                    subst hw9
                    have HLI0 := Lib.hid hlies
                    have HROW0 := Lib.hid hrow
                    have HB0 := Lib.hid hb
                    have HOCB := Lib.hid (fun (w' : World) (hb : Bel w8 w') => hoc.sl.below (hb8.step hb))
                    clear hlies hzl hrow hb hoc
                    have hpe : Hid ((eb.getD k2 lt0).1 = pe) := by
                      show _ = _
                      rw [← hP0, ← hEB]; simp [applyC, List.getD, hke]
                    have hlowR : (replaced Ue ka' qe Rr).length ≤ 1024 ∧ ∀ k, k < (replaced Ue ka' qe Rr).length → -12 ≤ (replaced Ue ka' qe Rr).getD k 0 := by
                      refine ⟨by unfold replaced; have := (okTerm_len hRok).2; simp; omega, low_memC fun z hz => ?_⟩
                      unfold replaced at hz
                      rcases List.mem_append.1 hz with h | h
                      · rcases List.mem_append.1 h with h | h
                        · exact ok_low hUok2 (List.mem_of_mem_take h)
                        · exact ok_low hRok h
                      · exact ok_low hUok2 (List.mem_of_mem_drop h)
                    have HRP := Lib.hid (fun (w' : World) (hb : Bel w8 w') => l1Replace_c _ _ _ _ _ _ v (.slice xb1 xm1 xd1) (.slice zb2 zm2 zd2) ar Ue Rr ka' qe w' hg (by omega) (by have := (okTerm_len hRok).2; omega) (by have := (okTerm_len hRok).1; omega) hkae hend hq1 hq2 (hv.below (BW8.step hb)) (t5.below (H28.step hb)) (t2.below (BW8.step hb)))
                    have HAPR := Lib.hid (fun (w' : World) (z : Value) (lo hi : Nat) (hb : Bel w8 w') (hz : SlI lo hi w' z (replaced Ue ka' qe Rr)) => l2Apply_c _ _ _ _ _ _ UA _ w' hl12 h40 hlowR.1 hlowR.2 (ho3.sl.below ((hb7.step hb8).step hb)) hz)
                    have HAPV := Lib.hid (fun (w' : World) (hb : Bel w8 w') => l2Apply_c _ _ _ _ _ _ UA Ve w' hl12 h40 (lowT_ok hVok).1 (lowT_ok hVok).2 (ho3.sl.below ((hb7.step hb8).step hb)) (t6.below (H28.step hb)))
                    have HLIT2 : Hid (LIT = setL (pe, [], []) wo (appT UA (replaced Ue ka' qe Rr)) (appT UA Ve)) := by
                      show _ = _
                      rw [← HLIT.out, ← hP0]; unfold setL; rfl
                    have HOUT : Hid (applyC UA (supPre ar c ee ((k1 : Int), ws, (k2 : Int), wo, (ka' : Int))) = dropAt cb k1 ++ eb.set k2 LIT) := by
                      show _ = _
                      rw [supPre_app, eR, eUe, eVe]; dsimp only; rw [eRp, Int.toNat_natCast, Int.toNat_natCast, hCB, hEB, HLIT.out]
                    have HLEAD : Hid (supLead UA c ee ((k1 : Int), ws, (k2 : Int), wo, (ka' : Int)) = ((overT (appT UA L) (appT UA Rr) && overT (appT UA Ue) (appT UA Ve)) && (maxAt cb k1 && maxAt eb k2))) := by
                      show _ = _
                      unfold supLead; rw [eL, eR, eUe, eVe]; dsimp only; rw [Int.toNat_natCast, Int.toNat_natCast, hCB, hEB]
                    have hgo3 : Hid ((if (okLits ar cb && okLits ar eb) && okLits ar (dropAt cb k1 ++ eb.set k2 LIT) then (dropAt cb k1 ++ eb.set k2 LIT, if (overT (appT UA L) (appT UA Rr) && overT (appT UA Ue) (appT UA Ve)) && (maxAt cb k1 && maxAt eb k2) then (0 : Int) else 5) else ([], 4)) = (r, n)) := by
                      show _ = _
                      have h := hgo2.out
                      unfold supOk at h
                      rw [hCB, hEB, HOUT.out, HLEAD.out] at h
                      exact h
                    have hTYl : (appT UA (replaced Ue ka' qe Rr)).length ≤ 1048576 := by have := appT_len h40 (replaced Ue ka' qe Rr); omega
                    have hTVl : (appT UA Ve).length ≤ 1048576 := by have := appT_len h40 Ve; have := (okTerm_len hVok).2; omega
                    have hso : shortC (dropAt cb k1 ++ eb.set k2 LIT) := by
                      refine shortC_out hscb hseb hcl hbl ?_
                      rw [HLIT2.out]; unfold setL
                      split <;> exact ⟨by first | exact hTYl | exact hTVl, by first | exact hTVl | exact hTYl⟩
                    have hApc : Hid (okLits ar cb = true → okTerm ar (appT UA L) = true ∧ okTerm ar (appT UA Rr) = true) := Lib.hid (fun h => by
                      have := app_side (ar := ar) (b := UA) (c := c) (by rw [hCB]; exact h) hk1 ws
                      rw [HL0.out.1, HL0.out.2] at this; exact this)
                    have hApe : Hid (okLits ar eb = true → okTerm ar (appT UA Ue) = true ∧ okTerm ar (appT UA Ve) = true) := Lib.hid (fun h => by
                      have := app_side (ar := ar) (b := UA) (c := ee) (by rw [hEB]; exact h) hke wo
                      rw [hUE, hVE] at this; exact this)
                    have HSO := Lib.hid hso
                    clear hso hTYl hTVl HOUT HLEAD
                    generalize appT UA (replaced Ue ka' qe Rr) = TY at *
                    have HTV : Hid (∃ TV, appT UA Ve = TV) := Lib.hid ⟨_, rfl⟩
                    generalize hTV : appT UA Ve = TV at *
                    have HTV2 := Lib.hid hTV
                    clear hTV HTV
                    go_wp2_with fail
                    go_loopw [20, 145] (fun o i wx => ∃ (m : Nat) (zs : List LV), m ≤ eb.length ∧ i = .int .i64 m ∧ RowC w8.heap.size wx o zs ∧ LiesA wx o zs (dropAt cb k1 ++ (eb.take m).set k2 LIT) ∧ Bel w8 wx) (fun _ i _ => eb.length - (intOf i).toNat)
                    case atStart => exact ⟨0, zs, Nat.zero_le _, rfl, HROW0.out, by simpa using HLI0.out, HB0.out⟩
                    case round =>
                      clear HLI0 HROW0 HB0
                      obtain ⟨q, zt, hm2, rfl, hrow, hlies, hb⟩ := hrel
                      have hzl := hlies.1
                      by_cases hlt2 : q < eb.length
                      · obtain ⟨bb, ob, v1, v2, eb1, hbs1, c1, c2, c3, s1, s2⟩ := hoeb.sl.at hb q hlt2
                        subst eb1
                        have HST := Lib.hid (show dropAt cb k1 ++ (eb.take (q+1)).set k2 LIT = (dropAt cb k1 ++ (eb.take q).set k2 LIT) ++ [if q = k2 then LIT else eb.getD q lt0] by rw [set_step hlt2, List.append_assoc])
                        have hcI : (q : Int) < eb.length := by omega
                        have hzs8 : zt.length ≤ 17 := by rw [hzl, List.length_append, List.length_set]; have := dropAt_len cb k1; simp; omega
                        have hq2p : q = k2 → (eb.getD q lt0).1 = pe := fun h => by rw [h]; exact hpe.out
                        generalize eb.getD q lt0 = x at *
                        obtain ⟨p, xl, xr⟩ := x
                        simp only at *
                        obtain ⟨a5, e5, f5⟩ := s1.form
                        obtain ⟨a6, e6, f6⟩ := s2.form
                        subst f5 f6
                        have BX1 := hb.alloc (.cells #[.bool p, .slice a5 xl.length e5, .slice a6 xr.length e6] 67)
                        have n0 := (HF.out _ (BE8.step BX1)).2.2.2.1
                        by_cases hmk : q = k2
                        · have hpp := hq2p hmk
                          subst hpp hmk
                          have E := Lib.hid (HST.out.trans (by rw [if_pos rfl]))
                          have HRR2 := Lib.hid (HRP.out _ BX1)
                          obtain ⟨m0, -, -, -, -, m4, -⟩ := HF.out _ (BE8.step BX1)
                          clear HST hq2p hzl s1 s2
                          go_wp2_with fail
                          refine HRR2.out.mono ?_; rintro e w10 ⟨ra, rn, rc, rfl, hor, hb10⟩
                          have BX2 := BX1.step hb10
                          have HAY := Lib.hid (HAPR.out _ _ _ _ BX2 hor.sl)
                          clear HRR2 m0 m4 n0
                          go_wp2_with fail
                          refine HAY.out.mono ?_; rintro e w11 ⟨ya, yn, yc, rfl, hoy, hb11⟩
                          have BX3 := BX2.step hb11
                          have HAV := Lib.hid (HAPV.out _ BX3.drew)
                          have BA11 := (hb10.step hb11).drew
                          have kk0 := boxc BA11 0 _ rfl
                          have z10 : wr.heap.size < w10.heap.size := by have := hb10.size; simp at this; omega
                          have z11 : w10.heap.size ≤ w11.heap.size := hb11.size
                          clear HAY hor
                          go_wp2_with fail
                          go_region_held3 (fun w' => w'.cell? ⟨wr.heap.size, 0, none⟩ = some (.bool p))
                            (first | exact (cells3 k0 k1' k2').1 | exact k0 | exact kk0 | fail)
                            (first | (go_at_call 98; refine HAV.out.mono ?_; rintro e w12 ⟨va, vn, vc, rfl, hov, hb12⟩; have BA12 := BA11.step hb12; have k0 := boxc BA12 0 _ rfl; have k1' := boxc BA12 1 _ rfl; have k2' := boxc BA12 2 _ rfl; have fr0 : w12.frozen? ⟨wr.heap.size, 0, none⟩ = false := (BA12.frozen (p := ⟨wr.heap.size, 0, none⟩) (by simp)).trans (by simp [go_sem]); have fr1 : w12.frozen? ⟨wr.heap.size, 1, none⟩ = false := (BA12.frozen (p := ⟨wr.heap.size, 1, none⟩) (by simp)).trans (by simp [go_sem]); have fr2 : w12.frozen? ⟨wr.heap.size, 2, none⟩ = false := (BA12.frozen (p := ⟨wr.heap.size, 2, none⟩) (by simp)).trans (by simp [go_sem])) | fail)
                          have C13 := cells3 (q := p) (z1 := .slice ya yn yc) (z2 := .slice va vn vc) k0 k1' k2'
                          have F0 := frozen3 (q := p) (z1 := .slice ya yn yc) (z2 := .slice va vn vc) fr0
                          have F1 := frozen3 (q := p) (z1 := .slice ya yn yc) (z2 := .slice va vn vc) fr1
                          have F2 := frozen3 (q := p) (z1 := .slice ya yn yc) (z2 := .slice va vn vc) fr2
                          have Y13 := (hoy.below (hb12.of_drew)).box3 (q := p) (z1 := .slice ya yn yc) (z2 := .slice va vn vc) z10
                          have V13 := hov.box3 (q := p) (z1 := .slice ya yn yc) (z2 := .slice va vn vc) (g := wr.heap.size) (by show wr.heap.size < w11.heap.size; omega)
                          have Br13 := (BA12.of_alloc).box3 (q := p) (z1 := .slice ya yn yc) (z2 := .slice va vn vc) (g := wr.heap.size) (Nat.le_refl _)
                          have hlo : w10.heap.size ≤ w11.drew.heap.size := z11
                          clear k0 k1' k2' fr0 fr1 fr2 hoy hov kk0 HAV BA12
                          generalize (((w12.setCell ⟨wr.heap.size, 0, none⟩ (.bool p)).setCell ⟨wr.heap.size, 1, none⟩ (.slice ya yn yc)).setCell ⟨wr.heap.size, 2, none⟩ (.slice va vn vc)) = w13 at *
                          obtain ⟨D0, D1, D2⟩ := C13
                          obtain ⟨-, -, -, -, m3, -⟩ := HF.out _ (BE8.step (hb.step Br13))
                          have hw11 : wr.heap.size ≤ w11.drew.heap.size := by omega
                          rcases hs2 with rfl | rfl
                          · have EL := Lib.hid (HLIT2.out.trans (show setL (p, [], []) 0 TY TV = (p, TY, TV) from rfl))
                            have BA : Bel wr (w13.alloc (.cells #[.bool p, .slice ya yn yc, .slice va vn vc] 67)) := Br13.alloc _
                            have R1 : RowC w8.heap.size (w13.alloc (.cells #[.bool p, .slice ya yn yc, .slice va vn vc] 67)) _ zt := ownsRow_bel hrow BA
                            have L1 := hlies.bel BA
                            have A1 := away.high hrow Y13.sl (by omega)
                            have A2 := away.high hrow V13.sl hw11
                            have S1 := (Y13.sl.below (Bel.alloc0 w13 (.cells #[.bool p, .slice ya yn yc, .slice va vn vc] 67))).in'
                            have S2 := (V13.sl.below (Bel.alloc0 w13 (.cells #[.bool p, .slice ya yn yc, .slice va vn vc] 67))).in'
                            have HN := news_lit w13 (.bool p) (.slice ya yn yc) (.slice va vn vc) 67 w13.heap.size rfl
                            have HSZ : w8.heap.size ≤ (w13.alloc (.cells #[.bool p, .slice ya yn yc, .slice va vn vc] 67)).heap.size := Nat.le_trans hb.size BA.size
                            have HLI := Lib.hid (And.intro L1 (And.intro (And.intro S1 A1) (And.intro S2 A2)))
                            clear hlies L1 S1 S2 A1 A2
                            go_wp2_with (at_builtin; refine wpList_append_own_at _ rfl _ _ 30 rfl w8.heap.size 67 i0 (.agg #[.bool false, .slice none 0 0, .slice none 0 0]) 3 56 Tryz.underlying30 hi0 hz0 hz1 hz2 rfl (by decide) _ _ _ rfl R1 _ _ _ [.bool p, .slice ya yn yc, .slice va vn vc] rfl rfl HN (one_lit _ _ _ _ _ _ _) (by unfold maxLen; omega) (by omega) HSZ ?_; intro v' w15 hown' hgrow _ hat)
                            have hown2 : RowC w8.heap.size w15 v' (zt ++ [(p, .slice ya yn yc, .slice va vn vc)]) := by
                              show World.ownsRow _ _ _ _ _ _ _
                              rw [cellsC_app, List.length_append]; exact hown'
                            have hL2 := HLI.out.1.snoc (p := p) hgrow hat HLI.out.2.1.1 HLI.out.2.1.2 HLI.out.2.2.1 HLI.out.2.2.2
                            have hB2 := (hb.step BA).grown hgrow (fun g hg => own_base R1 g hg)
                            go_roundw
                            case rel => exact ⟨q+1, _, by omega, by go_num, hown2, by rw [E.out]; rw [← EL.out] at hL2; exact hL2, hB2⟩
                            case measure => simp [intOf]; omega
                          · have EL := Lib.hid (HLIT2.out.trans (show setL (p, [], []) 1 TY TV = (p, TV, TY) from rfl))
                            have C14 := cells3 (q := p) (z1 := .slice va vn vc) (z2 := .slice ya yn yc) D0 D1 D2
                            have Y14 := Y13.box3 (q := p) (z1 := .slice va vn vc) (z2 := .slice ya yn yc) z10
                            have V14 := V13.box3 (q := p) (z1 := .slice va vn vc) (z2 := .slice ya yn yc) (g := wr.heap.size) (by show wr.heap.size < w11.heap.size; omega)
                            have Br14 := Br13.box3 (q := p) (z1 := .slice va vn vc) (z2 := .slice ya yn yc) (g := wr.heap.size) (Nat.le_refl _)
                            generalize HW14 : (((w13.setCell ⟨wr.heap.size, 0, none⟩ (.bool p)).setCell ⟨wr.heap.size, 1, none⟩ (.slice va vn vc)).setCell ⟨wr.heap.size, 2, none⟩ (.slice ya yn yc)) = w14 at *
                            obtain ⟨G0, G1, G2⟩ := C14
                            have HWW := HW14
                            have BA : Bel wr (w14.alloc (.cells #[.bool p, .slice va vn vc, .slice ya yn yc] 67)) := Br14.alloc _
                            have R1 : RowC w8.heap.size (w14.alloc (.cells #[.bool p, .slice va vn vc, .slice ya yn yc] 67)) _ zt := ownsRow_bel hrow BA
                            have L1 := hlies.bel BA
                            have A1 := away.high hrow V14.sl hw11
                            have A2 := away.high hrow Y14.sl (by omega)
                            have S1 := (V14.sl.below (Bel.alloc0 w14 (.cells #[.bool p, .slice va vn vc, .slice ya yn yc] 67))).in'
                            have S2 := (Y14.sl.below (Bel.alloc0 w14 (.cells #[.bool p, .slice va vn vc, .slice ya yn yc] 67))).in'
                            have HN := news_lit w14 (.bool p) (.slice va vn vc) (.slice ya yn yc) 67 w14.heap.size rfl
                            have HSZ : w8.heap.size ≤ (w14.alloc (.cells #[.bool p, .slice va vn vc, .slice ya yn yc] 67)).heap.size := Nat.le_trans hb.size BA.size
                            have HLI := Lib.hid (And.intro L1 (And.intro (And.intro S1 A1) (And.intro S2 A2)))
                            clear hlies L1 S1 S2 A1 A2
                            go_wp2_with (at_builtin; refine wpList_append_own_at _ rfl _ _ 30 rfl w8.heap.size 67 i0 (.agg #[.bool false, .slice none 0 0, .slice none 0 0]) 3 56 Tryz.underlying30 hi0 hz0 hz1 hz2 rfl (by decide) _ _ _ rfl R1 _ _ _ [.bool p, .slice va vn vc, .slice ya yn yc] rfl rfl HN (one_lit _ _ _ _ _ _ _) (by unfold maxLen; omega) (by omega) HSZ ?_; intro v' w15 hown' hgrow _ hat)
                            have hown2 : RowC w8.heap.size w15 v' (zt ++ [(p, .slice va vn vc, .slice ya yn yc)]) := by
                              show World.ownsRow _ _ _ _ _ _ _
                              rw [cellsC_app, List.length_append]; exact hown'
                            have hL2 := HLI.out.1.snoc (p := p) hgrow hat HLI.out.2.1.1 HLI.out.2.1.2 HLI.out.2.2.1 HLI.out.2.2.2
                            have hB2 := (hb.step BA).grown hgrow (fun g hg => own_base R1 g hg)
                            go_roundw
                            case rel => exact ⟨q+1, _, by omega, by go_num, hown2, by rw [E.out]; rw [← EL.out] at hL2; exact hL2, hB2⟩
                            case measure => simp [intOf]; omega
                        · have hne : ((q : Int) == (k2 : Int)) = false := beq_eq_false_iff_ne.2 (by omega)
                          have E := Lib.hid (HST.out.trans (by rw [if_neg hmk]))
                          have BA : Bel wr ((wr.alloc (.cells #[.bool p, .slice a5 xl.length e5, .slice a6 xr.length e6] 67)).alloc (.cells #[.bool p, .slice a5 xl.length e5, .slice a6 xr.length e6] 67)) := Bel.alloc2 _ _ _
                          have R1 : RowC w8.heap.size ((wr.alloc (.cells #[.bool p, .slice a5 xl.length e5, .slice a6 xr.length e6] 67)).alloc (.cells #[.bool p, .slice a5 xl.length e5, .slice a6 xr.length e6] 67)) _ zt := ownsRow_bel hrow BA
                          have L1 := hlies.bel BA
                          have A1 := away.low hrow (s1.mono (Nat.zero_le _) (Nat.le_refl _)) (Nat.le_refl _)
                          have A2 := away.low hrow (s2.mono (Nat.zero_le _) (Nat.le_refl _)) (Nat.le_refl _)
                          have S1 := (s1.below BA).in'
                          have S2 := (s2.below BA).in'
                          have HN := news_lit (wr.alloc (.cells #[.bool p, .slice a5 xl.length e5, .slice a6 xr.length e6] 67)) (.bool p) (.slice a5 xl.length e5) (.slice a6 xr.length e6) 67 (wr.heap.size + 1) (by simp)
                          have HSZ : w8.heap.size ≤ ((wr.alloc (.cells #[.bool p, .slice a5 xl.length e5, .slice a6 xr.length e6] 67)).alloc (.cells #[.bool p, .slice a5 xl.length e5, .slice a6 xr.length e6] 67)).heap.size := Nat.le_trans hb.size BA.size
                          have HLI := Lib.hid (And.intro L1 (And.intro (And.intro S1 A1) (And.intro S2 A2)))
                          clear HST hlies L1 S1 S2 A1 A2 hzl s1 s2 hq2p
                          go_wp2_with (at_builtin; refine wpList_append_own_at _ rfl _ _ 30 rfl w8.heap.size 67 i0 (.agg #[.bool false, .slice none 0 0, .slice none 0 0]) 3 56 Tryz.underlying30 hi0 hz0 hz1 hz2 rfl (by decide) _ _ _ rfl R1 _ _ _ [.bool p, .slice a5 xl.length e5, .slice a6 xr.length e6] rfl rfl HN (one_lit _ _ _ _ _ _ _) (by unfold maxLen; omega) (by omega) HSZ ?_; intro v' w4 hown' hgrow _ hat)
                          have hown2 : RowC w8.heap.size w4 v' (zt ++ [(p, .slice a5 xl.length e5, .slice a6 xr.length e6)]) := by
                            show World.ownsRow _ _ _ _ _ _ _
                            rw [cellsC_app, List.length_append]; exact hown'
                          have hL2 := HLI.out.1.snoc (p := p) hgrow hat HLI.out.2.1.1 HLI.out.2.1.2 HLI.out.2.2.1 HLI.out.2.2.2
                          have hB2 := (hb.step BA).grown hgrow (fun g hg => own_base R1 g hg)
                          go_roundw
                          case rel => exact ⟨q+1, _, by omega, by go_num, hown2, by rw [E.out]; exact hL2, hB2⟩
                          case measure => simp [intOf]; omega
                      · rw [List.take_of_length_le (by omega)] at hlies
                        have hl2 : LiesA wr _ zt (dropAt cb k1 ++ eb.set k2 LIT) := hlies
                        have hsout := SlC.of_row hrow hl2.lies (Nat.le_refl _)
                        obtain ⟨w16, hw16⟩ : ∃ w16, w16 = wr := ⟨_, rfl⟩
                        subst hw16
                        obtain ⟨ao, no, co, hvo⟩ := own_form hrow
                        subst hvo
                        clear hlies hl2 hzl hrow HRP HAPR HAPV hpe hlowR
                        have hscO := HSO.out
                        have HG3 := hgo3.out
                        generalize dropAt cb k1 ++ eb.set k2 LIT = out at *
                        have BE16 := BE8.step hb
                        have BW16 := BW8.step hb
                        obtain ⟨x0, x1w, -, x3w, -⟩ := HF.out _ BE16
                        generalize hqc : okLits ar cb = qc at *
                        generalize hqe : okLits ar eb = qe2 at *
                        generalize hqo : okLits ar out = qo at *
                        have HC1 := Lib.hid (l4Clause_v _ _ _ _ v _ ar cb qc w16 hqc hg hscb (hv.below BW16) (HOCB.out _ hb))
                        have HC2 := Lib.hid (fun (w' : World) (hb' : Bel w16 w') => l4Clause_v _ _ _ _ v _ ar eb qe2 w' hqe hg hseb (hv.below (BW16.step hb')) (hoeb.sl.below (hb.step hb')))
                        have HC3 := Lib.hid (fun (w' : World) (hb' : Bel w16 w') => l4Clause_v _ _ _ _ v _ ar out qo w' hqo hg hscO (hv.below (BW16.step hb')) (hsout.below hb'))
                        have HG3 := Lib.hid HG3
                        clear hscO
                        go_wp2_with fail
                        refine HC1.out.mono ?_; rintro e w17 ⟨rfl, hb17⟩
                        cases qc with
                        | false =>
                          obtain ⟨rfl, rfl⟩ := Prod.mk.inj (HG3.out.symm.trans (if_neg (by simp)))
                          go_wp2_with fail
                          go_ret2
                          exact ⟨_, _, _, rfl, OwnC.nil _ _ _, BW16.step hb17⟩
                        | true =>
                          have x0b := (HF.out _ (BE16.step hb17)).1
                          have HC2b := Lib.hid (HC2.out _ hb17)
                          clear HC1 HC2
                          go_wp2_with fail
                          refine HC2b.out.mono ?_; rintro e w18 ⟨rfl, hb18⟩
                          have b18 := hb17.step hb18
                          cases qe2 with
                          | false =>
                            obtain ⟨rfl, rfl⟩ := Prod.mk.inj (HG3.out.symm.trans (if_neg (by simp)))
                            go_wp2_with fail
                            go_ret2
                            exact ⟨_, _, _, rfl, OwnC.nil _ _ _, BW16.step b18⟩
                          | true =>
                            have x0c := (HF.out _ (BE16.step b18)).1
                            have HC3b := Lib.hid (HC3.out _ b18)
                            clear HC2b HC3
                            go_wp2_with fail
                            refine HC3b.out.mono ?_; rintro e w19 ⟨rfl, hb19⟩
                            have b19 := b18.step hb19
                            cases qo with
                            | false =>
                              obtain ⟨rfl, rfl⟩ := Prod.mk.inj (HG3.out.symm.trans (if_neg (by simp)))
                              go_wp2_with fail
                              go_ret2
                              exact ⟨_, _, _, rfl, OwnC.nil _ _ _, BW16.step b19⟩
                            | true =>
                              obtain ⟨hr, hn⟩ := Prod.mk.inj ((if_pos rfl).symm.trans HG3.out)
                              subst hr
                              have HN2 := Lib.hid hn
                              clear hn HG3 hgo3 hgo2 hgo HC3b
                              obtain ⟨k1a, k1b⟩ := hApc.out (by first | rfl | trivial)
                              obtain ⟨k2a, k2b⟩ := hApe.out (by first | rfl | trivial)
                              have HO := Lib.hid (fun (w' : World) (hb' : Bel w16 w') => l6Out_c _ _ _ ar out w' hg hqo (hsout.below hb'))
                              have HAP := Lib.hid (fun (w' : World) (z : Value) (lo hi : Nat) (t : List Int) (ok : okTerm ar t = true) (hb' : Bel w16 w') (hz : SlI lo hi w' z t) => l2Apply_c _ _ _ _ _ _ UA t w' hl12 h40 (lowT_ok ok).1 (lowT_ok ok).2 (ho3.sl.below ((hb7.step hb8).step (hb.step hb'))) hz)
                              have HM1 := Lib.hid (fun (w' : World) (hb' : Bel w16 w') => l4Maximal_c _ _ _ cb k1 w' hscb hkc (okLits_low hqc) (HOCB.out _ (hb.step hb')))
                              have HM2 := Lib.hid (fun (w' : World) (hb' : Bel w16 w') => l4Maximal_c _ _ _ eb k2 w' hseb hkb (okLits_low hqe) (hoeb.sl.below (hb.step hb')))
                              have HT1 := Lib.hid (fun (w' : World) (hb' : Bel w16 w') => t1.below (BW16.step hb'))
                              have HT2 := Lib.hid (fun (w' : World) (hb' : Bel w16 w') => t2.below (BW16.step hb'))
                              have HT5 := Lib.hid (fun (w' : World) (hb' : Bel w16 w') => t5.below (H28.step (hb.step hb')))
                              have HT6 := Lib.hid (fun (w' : World) (hb' : Bel w16 w') => t6.below (H28.step (hb.step hb')))
                              have HOK := Lib.hid (And.intro (And.intro hLok hRok) (And.intro hUok2 hVok))
                              rw [← HTV2.out] at *
                              have HOV1 := Lib.hid (fun (w' : World) (y z : Value) (la ha' lb hb2 : Nat) (q : Bool) (hq : overT (appT UA L) (appT UA Rr) = q) (hy : SlI la ha' w' y (appT UA L)) (hz : SlI lb hb2 w' z (appT UA Rr)) => l6Over_v la ha' lb hb2 y z _ _ q w' hq (by have := (okTerm_len k1a).2; omega) (by have := (okTerm_len k1b).2; omega) (lowT_ok k1a).2 (lowT_ok k1b).2 hy hz)
                              have HOV2 := Lib.hid (fun (w' : World) (y z : Value) (la ha' lb hb2 : Nat) (q : Bool) (hq : overT (appT UA Ue) (appT UA Ve) = q) (hy : SlI la ha' w' y (appT UA Ue)) (hz : SlI lb hb2 w' z (appT UA Ve)) => l6Over_v la ha' lb hb2 y z _ _ q w' hq (by have := (okTerm_len k2a).2; omega) (by have := (okTerm_len k2b).2; omega) (lowT_ok k2a).2 (lowT_ok k2b).2 hy hz)
                              generalize hov1 : overT (appT UA L) (appT UA Rr) = OV1 at *
                              generalize hov2 : overT (appT UA Ue) (appT UA Ve) = OV2 at *
                              generalize hma1 : maxAt cb k1 = MA1 at *
                              generalize hma2 : maxAt eb k2 = MA2 at *
                              clear hov1 hov2 hma1 hma2
                              have HP1 := Lib.hid (HAP.out w19 _ _ _ _ HOK.out.1.1 b19 (HT1.out _ b19))
                              go_wp2_with fail
                              refine HP1.out.mono ?_; rintro e w20 ⟨sa1, sn1, sc1, rfl, so1, hb20⟩
                              have b20 := b19.step hb20
                              have HP2 := Lib.hid (HAP.out w20 _ _ _ _ HOK.out.1.2 b20 (HT2.out _ b20))
                              clear HP1
                              go_wp2_with fail
                              refine HP2.out.mono ?_; rintro e w21 ⟨sa2, sn2, sc2, rfl, so2, hb21⟩
                              have b21 := b20.step hb21
                              have HV1 := Lib.hid (HOV1.out w21 _ _ _ _ _ _ OV1 rfl (so1.sl.below hb21) so2.sl)
                              clear HP2 HOV1
                              go_wp2_with fail
                              refine HV1.out.mono ?_; rintro e w22 ⟨rfl, hb22⟩
                              have b22 := b21.step hb22
                              clear HV1 so1 so2
                              cases OV1 with
                              | false =>
                                have hn0 : n = 5 := HN2.out.symm.trans (if_neg (by simp))
                                subst hn0
                                have HQ := Lib.hid (HO.out w22 b22)
                                go_wp2_with fail
                                refine HQ.out.mono ?_; rintro e wz ⟨a8, n8, c8, rfl, ho8, hbz⟩
                                have BZ := BW16.step b22
                                go_wp2_with fail
                                go_ret2
                                exact ⟨_, _, _, rfl, ho8.mono BZ.size (Nat.le_refl _), BZ.step hbz⟩
                              | true =>
                                have HP3 := Lib.hid (HAP.out w22 _ _ _ _ HOK.out.2.1 b22 (HT5.out _ b22))
                                go_wp2_with fail
                                refine HP3.out.mono ?_; rintro e w23 ⟨sa3, sn3, sc3, rfl, so3, hb23⟩
                                have b23 := b22.step hb23
                                have HP4 := Lib.hid (HAP.out w23 _ _ _ _ HOK.out.2.2 b23 (HT6.out _ b23))
                                clear HP3
                                go_wp2_with fail
                                refine HP4.out.mono ?_; rintro e w24 ⟨sa4, sn4, sc4, rfl, so4, hb24⟩
                                have b24 := b23.step hb24
                                have HV2 := Lib.hid (HOV2.out w24 _ _ _ _ _ _ OV2 rfl (so3.sl.below hb24) so4.sl)
                                clear HP4 HOV2 HAP
                                go_wp2_with fail
                                refine HV2.out.mono ?_; rintro e w25 ⟨rfl, hb25⟩
                                have b25 := b24.step hb25
                                clear HV2 so3 so4
                                cases OV2 with
                                | false =>
                                  have hn0 : n = 5 := HN2.out.symm.trans (if_neg (by simp))
                                  subst hn0
                                  have HQ := Lib.hid (HO.out w25 b25)
                                  go_wp2_with fail
                                  refine HQ.out.mono ?_; rintro e wz ⟨a8, n8, c8, rfl, ho8, hbz⟩
                                  have BZ := BW16.step b25
                                  go_wp2_with fail
                                  go_ret2
                                  exact ⟨_, _, _, rfl, ho8.mono BZ.size (Nat.le_refl _), BZ.step hbz⟩
                                | true =>
                                  have HMM1 := Lib.hid (HM1.out w25 b25)
                                  have x25 := (HF.out _ (BE16.step b25)).2.1
                                  clear HM1
                                  go_wp2_with fail
                                  refine HMM1.out.mono ?_; rintro e w26 ⟨rfl, hb26⟩
                                  have b26 := b25.step hb26
                                  clear HMM1
                                  cases MA1 with
                                  | false =>
                                    have hn0 : n = 5 := HN2.out.symm.trans (if_neg (by simp))
                                    subst hn0
                                    have HQ := Lib.hid (HO.out w26 b26)
                                    go_wp2_with fail
                                    refine HQ.out.mono ?_; rintro e wz ⟨a8, n8, c8, rfl, ho8, hbz⟩
                                    have BZ := BW16.step b26
                                    go_wp2_with fail
                                    go_ret2
                                    exact ⟨_, _, _, rfl, ho8.mono BZ.size (Nat.le_refl _), BZ.step hbz⟩
                                  | true =>
                                    have HMM2 := Lib.hid (HM2.out w26 b26)
                                    have x26 := (HF.out _ (BE16.step b26)).2.2.2.1
                                    clear HM2
                                    go_wp2_with fail
                                    refine HMM2.out.mono ?_; rintro e w27 ⟨rfl, hb27⟩
                                    have b27 := b26.step hb27
                                    clear HMM2
                                    cases MA2 with
                                    | false =>
                                      have hn0 : n = 5 := HN2.out.symm.trans (if_neg (by simp))
                                      subst hn0
                                      have HQ := Lib.hid (HO.out w27 b27)
                                      go_wp2_with fail
                                      refine HQ.out.mono ?_; rintro e wz ⟨a8, n8, c8, rfl, ho8, hbz⟩
                                      have BZ := BW16.step b27
                                      go_wp2_with fail
                                      go_ret2
                                      exact ⟨_, _, _, rfl, ho8.mono BZ.size (Nat.le_refl _), BZ.step hbz⟩
                                    | true =>
                                      have hn0 : n = 0 := HN2.out.symm.trans (if_pos rfl)
                                      subst hn0
                                      have HQ := Lib.hid (HO.out w27 b27)
                                      go_wp2_with fail
                                      refine HQ.out.mono ?_; rintro e wz ⟨a8, n8, c8, rfl, ho8, hbz⟩
                                      have BZ := BW16.step b27
                                      go_wp2_with fail
                                      go_ret2
                                      exact ⟨_, _, _, rfl, ho8.mono BZ.size (Nat.le_refl _), BZ.step hbz⟩
end Go.Proofs.YtikllmdmifecpaaGreatDoor
end
