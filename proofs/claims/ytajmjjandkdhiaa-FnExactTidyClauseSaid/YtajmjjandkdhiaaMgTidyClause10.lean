/- Texts merged, part 10. -/
import Derived.Test.YtajmjjandkdhiaaMgTidyClause9
section
/- Chapter 4, the reference: ApplyClause. -/
namespace Go.Proofs.Ytajmjjandkdhiaa
open Go.RowKit

set_option maxRecDepth 100000 in
set_option maxHeartbeats 1000000 in
theorem l4Apply_c (l h l' h' : Nat) (v u : Value) (b : List (List Int)) (c : List Lt) (w : World) (hlen : b.length = 12) (hb40 : lens40 b) (hx : c.length ≤ 1048576) (ht : ∀ t ∈ flatC c, t.length ≤ 1024 ∧ ∀ k, k < t.length → -12 ≤ t.getD k 0) (hu : SlS l' h' w u b) (hv : SlC l h w v c) :
    Calls Try.prog 77 #[u, v] w (RetC w (applyC b c)) := by
  obtain ⟨ad, cap, rfl⟩ := hv.form
  obtain ⟨au, cu, rfl⟩ := hu.form
  have HLEN := Lib.hid hlen
  clear hlen
  go_enter Try.func77, Try.ntmps77
  go_wp2_with fail
  go_loopw [5, 10] (fun o i wr => ∃ k : Nat, k ≤ c.length ∧ i = .int .i64 k ∧ RowCO w.heap.size wr o ((c.take k).map (fun x => (x.1, appT b x.2.1, appT b x.2.2))) ∧ Bel w wr) (fun _ i _ => c.length - (intOf i).toNat)
  case atStart => exact ⟨0, Nat.zero_le _, rfl, RowCO.nil _ _, Bel.rfl' _⟩
  case round =>
    obtain ⟨k, hk, rfl, hrow, hb⟩ := hrel
    by_cases hlt : k < c.length
    · obtain ⟨b1, off, u1, u2, rfl, hbs, c1, c2, c3, s1, s2⟩ := hv.at hb k hlt
      have HTK := Lib.hid (show (c.take (k+1)).map (fun x => (x.1, appT b x.2.1, appT b x.2.2)) = (c.take k).map (fun x => (x.1, appT b x.2.1, appT b x.2.2)) ++ [((c.getD k lt0).1, appT b (c.getD k lt0).2.1, appT b (c.getD k lt0).2.2)] by rw [List.take_succ_eq_append_getElem hlt, List.map_append]; simp [List.getD, hlt])
      have hlen0 := Lib.hid (show ((c.take k).map (fun x => (x.1, appT b x.2.1, appT b x.2.2))).length = k by simp; omega)
      obtain ⟨ht1, ht2⟩ := And.intro (ht _ (List.mem_flatMap.2 ⟨_, mem_getD c lt0 k hlt, by simp⟩ : (c.getD k lt0).2.1 ∈ flatC c)) (ht _ (List.mem_flatMap.2 ⟨_, mem_getD c lt0 k hlt, by simp⟩ : (c.getD k lt0).2.2 ∈ flatC c))
      have hin1 : (k : Int) < c.length := by omega
      have HROW := Lib.hid hrow
      have hbz := hb.size
      have HBK := hrow.blk
      generalize c.getD k lt0 = x at *
      obtain ⟨p, xl, xr⟩ := x
      simp only at *
      obtain ⟨a1, d1, rfl⟩ := s1.form
      obtain ⟨a2, d2, rfl⟩ := s2.form
      have HL := Lib.hid (fun (w' : World) (hq : Bel wr w') => l2Apply_c _ _ _ _ _ _ b _ w' HLEN.out hb40 ht1.1 ht1.2 (hu.below (hb.step hq)) (s1.below hq))
      have HR := Lib.hid (fun (w' : World) (hq : Bel wr w') => l2Apply_c _ _ _ _ _ _ b _ w' HLEN.out hb40 ht2.1 ht2.2 (hu.below (hb.step hq)) (s2.below hq))
      generalize appT b xl = tl at *
      generalize appT b xr = tr at *
      have HB0 : Bel wr (wr.alloc (.cells #[.bool p, .slice a1 xl.length d1, .slice a2 xr.length d2] 68)).drew := (Bel.alloc0 _ _).drew
      have HZ0 : wr.heap.size ≤ (wr.alloc (.cells #[.bool p, .slice a1 xl.length d1, .slice a2 xr.length d2] 68)).drew.heap.size := HB0.size
      have k1 : (wr.alloc (.cells #[.bool p, .slice a1 xl.length d1, .slice a2 xr.length d2] 68)).drew.cell? ⟨wr.heap.size, 0, none⟩ = some (.bool p) := boxc ((Bel.rfl' _).drew) 0 _ rfl
      have k2 : (wr.alloc (.cells #[.bool p, .slice a1 xl.length d1, .slice a2 xr.length d2] 68)).drew.cell? ⟨wr.heap.size, 1, none⟩ = some (.slice a1 xl.length d1) := boxc ((Bel.rfl' _).drew) 1 _ rfl
      have k3 : (wr.alloc (.cells #[.bool p, .slice a1 xl.length d1, .slice a2 xr.length d2] 68)).drew.cell? ⟨wr.heap.size, 2, none⟩ = some (.slice a2 xr.length d2) := boxc ((Bel.rfl' _).drew) 2 _ rfl
      clear hv s1 s2 hrow hu ht
      go_wp2_with fail
      go_region_held_law (fun w' => w'.cell? ⟨wr.heap.size, 0, none⟩ = some (.bool p) ∧ w'.cell? ⟨wr.heap.size, 1, none⟩ = some (.slice a1 xl.length d1) ∧ w'.cell? ⟨wr.heap.size, 2, none⟩ = some (.slice a2 xr.length d2))
        (first | exact ⟨t1, t2, t3⟩ | exact ⟨m1, m2, m3⟩ | exact ⟨k14, k24, k34⟩ | exact ⟨k13, k23, k33⟩ | exact ⟨k1, k2, k3⟩ | fail)
        (first
          | (refine step_append_litO rfl (.tmp 14) (.tmp 26) 27 rfl rfl w.heap.size _ zs rfl hown w4.heap.size p (a3, n3, q3) (a4, n4, q4) rfl HN (by rw [hzl, hlen0.out]; omega) HZ4 ?_; intro b5 k5 w5 R5 hg5 hat5; have HR5 := hnext w5 _ R5 hg5 hat5; have t1 := hg5.cell m1 (fun e => Nat.lt_irrefl _ (HBK _ e.symm).2); have t2 := hg5.cell m2 (fun e => Nat.lt_irrefl _ (HBK _ e.symm).2); have t3 := hg5.cell m3 (fun e => Nat.lt_irrefl _ (HBK _ e.symm).2); have HB5 := (hb.step (HB4.step HA4)).grown hg5 (fun q hq => (HBK q hq).1))
          | (go_at_call 105; refine (HR.out _ HB3).mono ?_; rintro e w4 ⟨a4, n4, q4, rfl, r2, g4⟩; obtain ⟨LA, HA, LB, HB, O1, O2, RA, RB, QA, QB, HD⟩ : ∃ la ha lb hb, OwnI la ha w4 (.slice a3 n3 q3) tl ∧ OwnI lb hb w4 (.slice a4 n4 q4) tr ∧ wr.heap.size ≤ la ∧ wr.heap.size ≤ lb ∧ ha ≤ w4.heap.size ∧ hb ≤ w4.heap.size ∧ (ha ≤ lb ∨ hb ≤ la) := ⟨_, _, _, _, r1.below g4, r2, HZ0, HZ3, g4.size, Nat.le_refl _, .inl (Nat.le_refl _)⟩; have HB4 := HB3.step g4; have HA4 := Bel.alloc0 w4 (.cells #[.bool p, .slice a3 n3 q3, .slice a4 n4 q4] 68); obtain ⟨zs, hown, hzl, hnext⟩ := HROW.out.step HB4 HA4 O1 O2 RA RB QA QB HD hbz p; have HZ4 : w.heap.size ≤ (w4.alloc (.cells #[.bool p, .slice a3 n3 q3, .slice a4 n4 q4] 68)).heap.size := Nat.le_trans hbz (HB4.step HA4).size; have HN := news_lit w4 (.bool p) (encS (a3, n3, q3)) (encS (a4, n4, q4)) 68 w4.heap.size rfl; have k14 := g4.at (World.block_lt_of_cell? _ ⟨_, _, none⟩ k13) k13; have k24 := g4.at (World.block_lt_of_cell? _ ⟨_, _, none⟩ k23) k23; have k34 := g4.at (World.block_lt_of_cell? _ ⟨_, _, none⟩ k33) k33; have m1 := HA4.at (World.block_lt_of_cell? _ ⟨_, _, none⟩ k14) k14; have m2 := HA4.at (World.block_lt_of_cell? _ ⟨_, _, none⟩ k24) k24; have m3 := HA4.at (World.block_lt_of_cell? _ ⟨_, _, none⟩ k34) k34)
          | (go_at_call 105; refine (HL.out _ HB3).mono ?_; rintro e w4 ⟨a3, n3, q3, rfl, r1, g4⟩; obtain ⟨LA, HA, LB, HB, O1, O2, RA, RB, QA, QB, HD⟩ : ∃ la ha lb hb, OwnI la ha w4 (.slice a3 n3 q3) tl ∧ OwnI lb hb w4 (.slice a4 n4 q4) tr ∧ wr.heap.size ≤ la ∧ wr.heap.size ≤ lb ∧ ha ≤ w4.heap.size ∧ hb ≤ w4.heap.size ∧ (ha ≤ lb ∨ hb ≤ la) := ⟨_, _, _, _, r1, r2.below g4, HZ3, HZ0, Nat.le_refl _, g4.size, .inr (Nat.le_refl _)⟩; have HB4 := HB3.step g4; have HA4 := Bel.alloc0 w4 (.cells #[.bool p, .slice a3 n3 q3, .slice a4 n4 q4] 68); obtain ⟨zs, hown, hzl, hnext⟩ := HROW.out.step HB4 HA4 O1 O2 RA RB QA QB HD hbz p; have HZ4 : w.heap.size ≤ (w4.alloc (.cells #[.bool p, .slice a3 n3 q3, .slice a4 n4 q4] 68)).heap.size := Nat.le_trans hbz (HB4.step HA4).size; have HN := news_lit w4 (.bool p) (encS (a3, n3, q3)) (encS (a4, n4, q4)) 68 w4.heap.size rfl; have k14 := g4.at (World.block_lt_of_cell? _ ⟨_, _, none⟩ k13) k13; have k24 := g4.at (World.block_lt_of_cell? _ ⟨_, _, none⟩ k23) k23; have k34 := g4.at (World.block_lt_of_cell? _ ⟨_, _, none⟩ k33) k33; have m1 := HA4.at (World.block_lt_of_cell? _ ⟨_, _, none⟩ k14) k14; have m2 := HA4.at (World.block_lt_of_cell? _ ⟨_, _, none⟩ k24) k24; have m3 := HA4.at (World.block_lt_of_cell? _ ⟨_, _, none⟩ k34) k34)
          | (go_at_call 105; refine (HL.out _ HB0).mono ?_; rintro e w3 ⟨a3, n3, q3, rfl, r1, g3⟩; have HB3 := HB0.step g3; have HZ3 := Nat.le_trans HZ0 g3.size; have k13 := g3.at (World.block_lt_of_cell? _ ⟨_, _, none⟩ k1) k1; have k23 := g3.at (World.block_lt_of_cell? _ ⟨_, _, none⟩ k2) k2; have k33 := g3.at (World.block_lt_of_cell? _ ⟨_, _, none⟩ k3) k3)
          | (go_at_call 105; refine (HR.out _ HB0).mono ?_; rintro e w3 ⟨a4, n4, q4, rfl, r2, g3⟩; have HB3 := HB0.step g3; have HZ3 := Nat.le_trans HZ0 g3.size; have k13 := g3.at (World.block_lt_of_cell? _ ⟨_, _, none⟩ k1) k1; have k23 := g3.at (World.block_lt_of_cell? _ ⟨_, _, none⟩ k2) k2; have k33 := g3.at (World.block_lt_of_cell? _ ⟨_, _, none⟩ k3) k3)
          | fail)
      all_goals
        go_wp2_with fail
        go_roundw
        case rel => exact ⟨k+1, by omega, by go_num, by rw [HTK.out]; have e := hzl.trans hlen0.out; rw [e] at HR5; exact HR5, HB5⟩
        case measure => simp [intOf]; omega
    · have ek : c.take k = c := List.take_of_length_le (by omega)
      rw [ek] at hrow
      obtain ⟨a5, c5, rfl⟩ := hrow.form
      have HO := Lib.hid hrow.own
      clear hrow
      go_wp2_with fail
      go_ret
      exact ⟨_, _, _, rfl, HO.out, hb⟩

set_option maxRecDepth 100000 in
set_option maxHeartbeats 1000000 in
theorem l4Own_c (l h : Nat) (v : Value) (c : List Lt) (w : World) (hx : shortC c) (hv : SlC l h w v c) :
    Calls Try.prog 113 #[v] w (RetC w c) := by
  obtain ⟨ad, cap, rfl⟩ := hv.form
  go_enter Try.func113, Try.ntmps113
  have hx0 := hx.1
  go_wp2_with fail
  go_loopw [3, 8] (fun o i wr => ∃ k : Nat, k ≤ c.length ∧ i = .int .i64 k ∧ RowCO w.heap.size wr o (c.take k) ∧ Bel w wr) (fun _ i _ => c.length - (intOf i).toNat)
  case atStart => exact ⟨0, Nat.zero_le _, rfl, RowCO.nil _ _, Bel.rfl' _⟩
  case round =>
    obtain ⟨k, hk, rfl, hrow, hb⟩ := hrel
    by_cases hlt : k < c.length
    · obtain ⟨b1, off, u1, u2, rfl, hbs, c1, c2, c3, s1, s2⟩ := hv.at hb k hlt
      have HTK := Lib.hid (show c.take (k+1) = c.take k ++ [c.getD k lt0] by rw [List.take_succ_eq_append_getElem hlt]; simp [List.getD, hlt])
      have hlen0 := Lib.hid (show (c.take k).length = k by simp; omega)
      obtain ⟨hm1, hm2⟩ := hx.2 k hlt
      have hin1 : (k : Int) < c.length := by omega
      have HROW := Lib.hid hrow
      have hbz := hb.size
      have HBK := hrow.blk
      generalize c.getD k lt0 = x at *
      obtain ⟨p, xl, xr⟩ := x
      simp only at *
      obtain ⟨a1, d1, rfl⟩ := s1.form
      obtain ⟨a2, d2, rfl⟩ := s2.form
      have HL := Lib.hid (fun (w' : World) (hq : Bel wr w') => l1Own_c _ _ _ _ w' hm1 (s1.below hq))
      have HR := Lib.hid (fun (w' : World) (hq : Bel wr w') => l1Own_c _ _ _ _ w' hm2 (s2.below hq))
      obtain ⟨tl, htl⟩ : ∃ tl, tl = xl := ⟨_, rfl⟩
      obtain ⟨tr, htr⟩ : ∃ tr, tr = xr := ⟨_, rfl⟩
      rw [← htl, ← htr] at HTK
      have HL2 : Hid (∀ w', Bel wr w' → Calls Try.prog 132 #[.slice a1 xl.length d1] w' (RetI w' tl)) := by rw [htl]; exact HL
      have HR2 : Hid (∀ w', Bel wr w' → Calls Try.prog 132 #[.slice a2 xr.length d2] w' (RetI w' tr)) := by rw [htr]; exact HR
      clear HL HR htl htr
      have HL := HL2
      have HR := HR2
      clear HL2 HR2
      have HB0 : Bel wr (wr.alloc (.cells #[.bool p, .slice a1 xl.length d1, .slice a2 xr.length d2] 68)).drew := (Bel.alloc0 _ _).drew
      have HZ0 : wr.heap.size ≤ (wr.alloc (.cells #[.bool p, .slice a1 xl.length d1, .slice a2 xr.length d2] 68)).drew.heap.size := HB0.size
      have k1 : (wr.alloc (.cells #[.bool p, .slice a1 xl.length d1, .slice a2 xr.length d2] 68)).drew.cell? ⟨wr.heap.size, 0, none⟩ = some (.bool p) := boxc ((Bel.rfl' _).drew) 0 _ rfl
      have k2 : (wr.alloc (.cells #[.bool p, .slice a1 xl.length d1, .slice a2 xr.length d2] 68)).drew.cell? ⟨wr.heap.size, 1, none⟩ = some (.slice a1 xl.length d1) := boxc ((Bel.rfl' _).drew) 1 _ rfl
      have k3 : (wr.alloc (.cells #[.bool p, .slice a1 xl.length d1, .slice a2 xr.length d2] 68)).drew.cell? ⟨wr.heap.size, 2, none⟩ = some (.slice a2 xr.length d2) := boxc ((Bel.rfl' _).drew) 2 _ rfl
      clear hv s1 s2 hrow 
      go_wp2_with fail
      go_region_held_law (fun w' => w'.cell? ⟨wr.heap.size, 0, none⟩ = some (.bool p) ∧ w'.cell? ⟨wr.heap.size, 1, none⟩ = some (.slice a1 xl.length d1) ∧ w'.cell? ⟨wr.heap.size, 2, none⟩ = some (.slice a2 xr.length d2))
        (first | exact ⟨t1, t2, t3⟩ | exact ⟨m1, m2, m3⟩ | exact ⟨k14, k24, k34⟩ | exact ⟨k13, k23, k33⟩ | exact ⟨k1, k2, k3⟩ | fail)
        (first
          | (refine step_append_litO rfl (.tmp 12) (.tmp 22) 23 rfl rfl w.heap.size _ zs rfl hown w4.heap.size p (a3, n3, q3) (a4, n4, q4) rfl HN (by rw [hzl, hlen0.out]; omega) HZ4 ?_; intro b5 k5 w5 R5 hg5 hat5; have HR5 := hnext w5 _ R5 hg5 hat5; have t1 := hg5.cell m1 (fun e => Nat.lt_irrefl _ (HBK _ e.symm).2); have t2 := hg5.cell m2 (fun e => Nat.lt_irrefl _ (HBK _ e.symm).2); have t3 := hg5.cell m3 (fun e => Nat.lt_irrefl _ (HBK _ e.symm).2); have HB5 := (hb.step (HB4.step HA4)).grown hg5 (fun q hq => (HBK q hq).1))
          | (go_at_call 132; refine (HR.out _ HB3).mono ?_; rintro e w4 ⟨a4, n4, q4, rfl, r2, g4⟩; obtain ⟨LA, HA, LB, HB, O1, O2, RA, RB, QA, QB, HD⟩ : ∃ la ha lb hb, OwnI la ha w4 (.slice a3 n3 q3) tl ∧ OwnI lb hb w4 (.slice a4 n4 q4) tr ∧ wr.heap.size ≤ la ∧ wr.heap.size ≤ lb ∧ ha ≤ w4.heap.size ∧ hb ≤ w4.heap.size ∧ (ha ≤ lb ∨ hb ≤ la) := ⟨_, _, _, _, r1.below g4, r2, HZ0, HZ3, g4.size, Nat.le_refl _, .inl (Nat.le_refl _)⟩; have HB4 := HB3.step g4; have HA4 := Bel.alloc0 w4 (.cells #[.bool p, .slice a3 n3 q3, .slice a4 n4 q4] 68); obtain ⟨zs, hown, hzl, hnext⟩ := HROW.out.step HB4 HA4 O1 O2 RA RB QA QB HD hbz p; have HZ4 : w.heap.size ≤ (w4.alloc (.cells #[.bool p, .slice a3 n3 q3, .slice a4 n4 q4] 68)).heap.size := Nat.le_trans hbz (HB4.step HA4).size; have HN := news_lit w4 (.bool p) (encS (a3, n3, q3)) (encS (a4, n4, q4)) 68 w4.heap.size rfl; have k14 := g4.at (World.block_lt_of_cell? _ ⟨_, _, none⟩ k13) k13; have k24 := g4.at (World.block_lt_of_cell? _ ⟨_, _, none⟩ k23) k23; have k34 := g4.at (World.block_lt_of_cell? _ ⟨_, _, none⟩ k33) k33; have m1 := HA4.at (World.block_lt_of_cell? _ ⟨_, _, none⟩ k14) k14; have m2 := HA4.at (World.block_lt_of_cell? _ ⟨_, _, none⟩ k24) k24; have m3 := HA4.at (World.block_lt_of_cell? _ ⟨_, _, none⟩ k34) k34)
          | (go_at_call 132; refine (HL.out _ HB3).mono ?_; rintro e w4 ⟨a3, n3, q3, rfl, r1, g4⟩; obtain ⟨LA, HA, LB, HB, O1, O2, RA, RB, QA, QB, HD⟩ : ∃ la ha lb hb, OwnI la ha w4 (.slice a3 n3 q3) tl ∧ OwnI lb hb w4 (.slice a4 n4 q4) tr ∧ wr.heap.size ≤ la ∧ wr.heap.size ≤ lb ∧ ha ≤ w4.heap.size ∧ hb ≤ w4.heap.size ∧ (ha ≤ lb ∨ hb ≤ la) := ⟨_, _, _, _, r1, r2.below g4, HZ3, HZ0, Nat.le_refl _, g4.size, .inr (Nat.le_refl _)⟩; have HB4 := HB3.step g4; have HA4 := Bel.alloc0 w4 (.cells #[.bool p, .slice a3 n3 q3, .slice a4 n4 q4] 68); obtain ⟨zs, hown, hzl, hnext⟩ := HROW.out.step HB4 HA4 O1 O2 RA RB QA QB HD hbz p; have HZ4 : w.heap.size ≤ (w4.alloc (.cells #[.bool p, .slice a3 n3 q3, .slice a4 n4 q4] 68)).heap.size := Nat.le_trans hbz (HB4.step HA4).size; have HN := news_lit w4 (.bool p) (encS (a3, n3, q3)) (encS (a4, n4, q4)) 68 w4.heap.size rfl; have k14 := g4.at (World.block_lt_of_cell? _ ⟨_, _, none⟩ k13) k13; have k24 := g4.at (World.block_lt_of_cell? _ ⟨_, _, none⟩ k23) k23; have k34 := g4.at (World.block_lt_of_cell? _ ⟨_, _, none⟩ k33) k33; have m1 := HA4.at (World.block_lt_of_cell? _ ⟨_, _, none⟩ k14) k14; have m2 := HA4.at (World.block_lt_of_cell? _ ⟨_, _, none⟩ k24) k24; have m3 := HA4.at (World.block_lt_of_cell? _ ⟨_, _, none⟩ k34) k34)
          | (go_at_call 132; refine (HL.out _ HB0).mono ?_; rintro e w3 ⟨a3, n3, q3, rfl, r1, g3⟩; have HB3 := HB0.step g3; have HZ3 := Nat.le_trans HZ0 g3.size; have k13 := g3.at (World.block_lt_of_cell? _ ⟨_, _, none⟩ k1) k1; have k23 := g3.at (World.block_lt_of_cell? _ ⟨_, _, none⟩ k2) k2; have k33 := g3.at (World.block_lt_of_cell? _ ⟨_, _, none⟩ k3) k3)
          | (go_at_call 132; refine (HR.out _ HB0).mono ?_; rintro e w3 ⟨a4, n4, q4, rfl, r2, g3⟩; have HB3 := HB0.step g3; have HZ3 := Nat.le_trans HZ0 g3.size; have k13 := g3.at (World.block_lt_of_cell? _ ⟨_, _, none⟩ k1) k1; have k23 := g3.at (World.block_lt_of_cell? _ ⟨_, _, none⟩ k2) k2; have k33 := g3.at (World.block_lt_of_cell? _ ⟨_, _, none⟩ k3) k3)
          | fail)
      all_goals
        go_wp2_with fail
        go_roundw
        case rel => exact ⟨k+1, by omega, by go_num, by rw [HTK.out]; have e := hzl.trans hlen0.out; rw [e] at HR5; exact HR5, HB5⟩
        case measure => simp [intOf]; omega
    · have ek : c.take k = c := List.take_of_length_le (by omega)
      rw [ek] at hrow
      obtain ⟨a5, c5, rfl⟩ := hrow.form
      have HO := Lib.hid hrow.own
      clear hrow
      go_wp2_with fail
      go_ret
      exact ⟨_, _, _, rfl, HO.out, hb⟩
end Go.Proofs.Ytajmjjandkdhiaa
end
section
/- A row of literals of the call's own, whose terms lie in older memory. -/
namespace Go.Proofs.Ytajmjjandkdhiaa
open Go.RowKit

def RowCV (W wr : World) (v : Value) (c : List Lt) : Prop :=
  ∃ zs : List LV, RowC W.heap.size wr v zs ∧ zs.length = c.length ∧ ∀ j z, zs[j]? = some z → z.1 = (c.getD j lt0).1 ∧ SlI 0 W.heap.size W z.2.1 (c.getD j lt0).2.1 ∧ SlI 0 W.heap.size W z.2.2 (c.getD j lt0).2.2
theorem RowCV.nil (W wr : World) : RowCV W wr (.slice none 0 0) [] := ⟨[], RowC.nil _ _, rfl, fun j z h => by simp at h⟩
theorem RowCV.bel {W wr w2 : World} {v : Value} {c : List Lt} (h : RowCV W wr v c) (hb : Bel wr w2) : RowCV W w2 v c := by
  obtain ⟨zs, ho, h1, h2⟩ := h
  exact ⟨zs, ownsRow_bel ho hb, h1, h2⟩
theorem RowCV.form {W wr : World} {v : Value} {c : List Lt} (h : RowCV W wr v c) : ∃ ad k, v = .slice ad c.length k := by
  obtain ⟨zs, ho, h1, h2⟩ := h
  obtain ⟨ad, n, k, rfl⟩ := own_form ho
  exact ⟨ad, k, by rw [row_len3 ho, h1]⟩
theorem RowCV.slc {W wr : World} {v : Value} {c : List Lt} (h : RowCV W wr v c) (hb : Bel W wr) : SlC 0 wr.heap.size wr v c := by
  obtain ⟨zs, ho, h1, h2⟩ := h
  have h0 := ho
  rcases ho.2 with ⟨rfl, hn⟩ | ⟨g, cap, cur, rfl, hg, hh, hn, hc, hs, ht⟩
  · obtain rfl : c = [] := List.length_eq_zero_iff.1 (by omega)
    exact SlC.nil _ _ _
  · have hgs : g < wr.heap.size := (Array.getElem?_eq_some_iff.1 hh).1
    refine ⟨_, cap, by rw [h1], by omega, ⟨hc, fun h => by simp at h⟩, fun hp => ⟨g, 0, rfl, Nat.zero_le _, hgs, fun j hj => ?_⟩⟩
    have hz : zs[j]? = some zs[j] := List.getElem?_eq_getElem (by omega)
    obtain ⟨e1, s1, s2⟩ := h2 j _ hz
    obtain ⟨t0, t1, t2⟩ := cellsC_get zs j _ hz
    refine ⟨zs[j].2.1, zs[j].2.2, ?_, ?_, ?_, (s1.below hb).mono (Nat.le_refl _) hb.size, (s2.below hb).mono (Nat.le_refl _) hb.size⟩
    · rw [Nat.zero_add, h0.cellAt _ (by omega), t0, e1]
    · rw [Nat.zero_add, h0.cellAt _ (by omega), t1]
    · rw [Nat.zero_add, h0.cellAt _ (by omega), t2]
theorem RowCV.snoc {W wr : World} {v' : Value} {zs : List LV} {c : List Lt} {z : LV} {x : Lt} (h1 : zs.length = c.length) (h2 : ∀ j z, zs[j]? = some z → z.1 = (c.getD j lt0).1 ∧ SlI 0 W.heap.size W z.2.1 (c.getD j lt0).2.1 ∧ SlI 0 W.heap.size W z.2.2 (c.getD j lt0).2.2)
    (hz : z.1 = x.1 ∧ SlI 0 W.heap.size W z.2.1 x.2.1 ∧ SlI 0 W.heap.size W z.2.2 x.2.2) (ho : RowC W.heap.size wr v' (zs ++ [z])) : RowCV W wr v' (c ++ [x]) := by
  refine ⟨zs ++ [z], ho, by simp [h1], fun j y hj => ?_⟩
  by_cases e : j < zs.length
  · rw [List.getElem?_append_left e] at hj
    have := h2 j y hj
    rwa [show (c ++ [x]).getD j lt0 = c.getD j lt0 from by simp [List.getD, List.getElem?_append_left (show j < c.length by omega)]]
  · have hlt := (List.getElem?_eq_some_iff.1 hj).1
    simp at hlt
    obtain rfl : j = zs.length := by omega
    rw [List.getElem?_append_right (Nat.le_refl _), Nat.sub_self] at hj
    simp at hj
    subst hj
    rwa [show (c ++ [x]).getD zs.length lt0 = x from by rw [h1]; simp [List.getD]]
end Go.Proofs.Ytajmjjandkdhiaa
end
section
/- Chapter 4, the reference: TidyClause. -/
namespace Go.Proofs.Ytajmjjandkdhiaa
open Go.RowKit

theorem tidyStep_len1 (out : List Lt) (x : Lt) : (tidyStep out x).length ≤ out.length + 1 ∧ ∀ y ∈ tidyStep out x, y ∈ out ∨ y = x := by
  unfold tidyStep
  split
  · exact ⟨by omega, fun y h => .inl h⟩
  · split
    · exact ⟨by omega, fun y h => .inl h⟩
    · exact ⟨by simp, fun y h => by simpa using h⟩
theorem tidy_all (c : List Lt) (k : Nat) (hk : k ≤ c.length) : (tidyC (c.take k)).length ≤ k ∧ ∀ y ∈ tidyC (c.take k), y ∈ c := by
  induction k with
  | zero => simp [tidyC]
  | succ k ih =>
    obtain ⟨h1, h2⟩ := ih (by omega)
    rw [tidyC_snoc c k (by omega)]
    obtain ⟨g1, g2⟩ := tidyStep_len1 (tidyC (c.take k)) (c.getD k lt0)
    refine ⟨by omega, fun y hy => ?_⟩
    rcases g2 y hy with h | rfl
    · exact h2 y h
    · exact mem_getD c lt0 k (by omega)
theorem tidy_all' (c : List Lt) (k : Nat) : (tidyC (c.take k)).length ≤ c.length ∧ ∀ y ∈ tidyC (c.take k), y ∈ c := by
  by_cases h : k ≤ c.length
  · obtain ⟨h1, h2⟩ := tidy_all c k h
    exact ⟨by omega, h2⟩
  · have e : c.take k = c.take c.length := by rw [List.take_length, List.take_of_length_le (by omega)]
    rw [e]
    exact tidy_all c c.length (Nat.le_refl _)
theorem tidy_len (c : List Lt) (k : Nat) : (tidyC (c.take k)).length ≤ c.length := (tidy_all' c k).1
theorem tidy_short {c : List Lt} (hx : shortC c) (k : Nat) : ∀ j, j < (tidyC (c.take k)).length → ((tidyC (c.take k)).getD j lt0).2.1.length ≤ 1048576 ∧ ((tidyC (c.take k)).getD j lt0).2.2.length ≤ 1048576 := fun j hj => by
  have hm := (tidy_all' c k).2 _ (mem_getD _ lt0 j hj)
  obtain ⟨i, hi, e⟩ := List.getElem_of_mem hm
  have := hx.2 i hi
  rwa [show c.getD i lt0 = (tidyC (c.take k)).getD j lt0 from by rw [← e]; simp [List.getD, hi]] at this

set_option maxRecDepth 100000 in
set_option maxHeartbeats 2000000 in
theorem l4Tidy_c (l h : Nat) (v : Value) (c : List Lt) (w : World) (hx : shortC c) (hv : SlC l h w v c) :
    Calls Try.prog 82 #[v] w (RetC w (tidyC c)) := by
  obtain ⟨i0, hi0, hz0, hz1, hz2⟩ := info_parts Try.info68
  obtain ⟨ad, cap, rfl⟩ := hv.form
  have hx0 := hx.1
  go_enter Try.func82, Try.ntmps82
  go_wp2_with fail
  go_loopw [3, 11] (fun o i wr => ∃ k : Nat, k ≤ c.length ∧ i = .int .i64 k ∧ RowCV w wr o (tidyC (c.take k)) ∧ Bel w wr) (fun _ i _ => c.length - (intOf i).toNat)
  case atStart => exact ⟨0, Nat.zero_le _, rfl, RowCV.nil _ _, Bel.rfl' _⟩
  case round =>
    obtain ⟨k, hk, rfl, hrow, hb⟩ := hrel
    by_cases hlt : k < c.length
    · obtain ⟨b, off, u1, u2, rfl, hbs, e0, e1', e2', s1, s2⟩ := hv.at (Bel.rfl' w) k hlt
      have c1 := hb.at (World.block_lt_of_cell? _ ⟨_, _, none⟩ e0) e0
      have c2 := hb.at (World.block_lt_of_cell? _ ⟨_, _, none⟩ e1') e1'
      have c3 := hb.at (World.block_lt_of_cell? _ ⟨_, _, none⟩ e2') e2'
      obtain ⟨hm1, hm2⟩ := hx.2 k hlt
      have hin1 : (k : Int) < c.length := by omega
      have HSTEP := Lib.hid (tidyC_snoc c k hlt)
      have hdl := tidy_len c k
      have hds := tidy_short hx k
      generalize tidyC (c.take k) = d at *
      obtain ⟨a1, d1, rfl⟩ := s1.form
      obtain ⟨a2, d2, rfl⟩ := s2.form
      have HSM := Lib.hid (fun (w' : World) (hq : Bel wr w') (y : Lt) (q1 q2 : Value) (g3 : y.2.1.length ≤ 1048576) (g4 : y.2.2.length ≤ 1048576) (t1 : SlI 0 w'.heap.size w' q1 y.2.1) (t2 : SlI 0 w'.heap.size w' q2 y.2.2) =>
        l4SameTerms_c l h _ _ (c.getD k lt0) y _ _ q1 q2 w' hm1 hm2 g3 g4 (s1.below (hb.step hq)) (s2.below (hb.step hq)) t1 t2)
      have HL1 := Lib.hid (fun (q : Bool) (hq : decide ((c.getD k lt0).2.1 = (c.getD k lt0).2.2) = q) (w' : World) (hb' : Bel wr w') => l1Same_w l h l h _ _ _ _ q w' hq hm1 hm2 (s1.below (hb.step hb')) (s2.below (hb.step hb')))
      have HS1 := Lib.hid s1.in'
      have HS2 := Lib.hid s2.in'
      have HROW : Hid (∀ w', Bel wr w' → RowCV w w' _ d) := fun w' hq => hrow.bel hq
      obtain ⟨ao, co, rfl⟩ := hrow.form
      generalize c.getD k lt0 = x at *
      obtain ⟨p, xl, xr⟩ := x
      simp only at c1 c2 c3 hm1 hm2 HSM HL1 HS1 HS2
      have HK : Hid (∀ w', Bel (wr.alloc (.cells #[.bool p, .slice a1 xl.length d1, .slice a2 xr.length d2] 68)) w' → w'.cell? ⟨wr.heap.size, 0, none⟩ = some (.bool p) ∧ w'.cell? ⟨wr.heap.size, 1, none⟩ = some (.slice a1 xl.length d1) ∧ w'.cell? ⟨wr.heap.size, 2, none⟩ = some (.slice a2 xr.length d2)) := fun w' hb => ⟨boxc hb 0 _ rfl, boxc hb 1 _ rfl, boxc hb 2 _ rfl⟩
      clear s1 s2 hrow e0 e1' e2' hv
      cases p with
      | true =>
        have HSTEP : tidyC (c.take (k+1)) = if d.any (eqvL (true, xl, xr)) then d else d ++ [(true, xl, xr)] := HSTEP.out
        clear HL1
        obtain ⟨y0, y1, y2⟩ := HK.out _ (Bel.rfl' _)
        go_wp2_with fail
        go_loopw [6, 27] (fun th i w6 => ∃ j : Nat, j ≤ d.length ∧ i = .int .i64 j ∧ th = .bool ((d.take j).any (eqvL (true, xl, xr))) ∧ Bel (wr.alloc (.cells #[.bool true, .slice a1 xl.length d1, .slice a2 xr.length d2] 68)) w6) (fun _ i _ => d.length - (intOf i).toNat)
        case atStart => exact ⟨0, Nat.zero_le _, rfl, by simp, Bel.rfl' _⟩
        case round =>
          obtain ⟨j, hj, rfl, rfl, h0⟩ := hrel
          have hrV := HROW.out _ h0.of_alloc
          by_cases hjk : j < d.length
          · obtain ⟨b', off', v1, v2, eb, hbs', f0, f1', f2', r1, r2⟩ := (hrV.slc (hb.step h0.of_alloc)).at (Bel.rfl' _) j hjk
            obtain ⟨hn1, hn2⟩ := hds j hjk
            subst eb
            have hin3 : (j : Int) < d.length := by omega
            have HTK : Hid ((d.take (j+1)).any (eqvL (true, xl, xr)) = ((d.take j).any (eqvL (true, xl, xr)) || eqvL (true, xl, xr) (d.getD j lt0))) := by
              show _ = _
              rw [List.take_succ_eq_append_getElem hjk, List.any_append]
              simp [List.getD, hjk]
            generalize d.getD j lt0 = y at *
            obtain ⟨q, yl, yr⟩ := y
            simp only at f0 f1' f2' r1 r2 hn1 hn2
            obtain ⟨g1, f1, rfl⟩ := r1.form
            obtain ⟨g2, f2, rfl⟩ := r2.form
            have hcall := fun (w' : World) (hq : Bel wr w') => HSM.out w' (h0.of_alloc.step hq) (q, yl, yr) _ _ hn1 hn2 (r1.below hq).in' (r2.below hq).in'
            obtain ⟨x0, x1, x2⟩ := HK.out _ (h0.alloc (.cells #[.bool q, .slice g1 yl.length f1, .slice g2 yr.length f2] 68))
            generalize (d.take j).any (eqvL (true, xl, xr)) = th at *
            cases th with
            | true =>
              have E : Hid ((d.take (j+1)).any (eqvL (true, xl, xr)) = true) := by show _ = _; rw [HTK.out]; rfl
              clear hcall r1 r2 hrV HTK
              go_wp2_with fail
              go_roundw
              case rel => exact ⟨j+1, by omega, by go_num, by rw [E.out], h0.alloc _⟩
              case measure => simp [intOf]; omega
            | false =>
              cases q with
              | false =>
                have E : Hid ((d.take (j+1)).any (eqvL (true, xl, xr)) = false) := by show _ = _; rw [HTK.out]; rfl
                clear hcall r1 r2 hrV HTK
                go_wp2_with fail
                go_roundw
                case rel => exact ⟨j+1, by omega, by go_num, by rw [E.out], h0.alloc _⟩
                case measure => simp [intOf]; omega
              | true =>
                have E : Hid ((d.take (j+1)).any (eqvL (true, xl, xr)) = sameTs (true, xl, xr) (true, yl, yr)) := by show _ = _; rw [HTK.out]; show (false || ((_ == _) && _)) = _; simp
                generalize sameTs (true, xl, xr) (true, yl, yr) = r at *
                have HC := Lib.hid hcall
                clear hcall r1 r2 hrV HTK
                go_wp2_with fail
                refine (HC.out _ (Bel.alloc0 _ _)).mono ?_; rintro e w5 ⟨rfl, hb5⟩
                go_wp2_with fail
                go_roundw
                case rel => exact ⟨j+1, by omega, by go_num, by rw [E.out], h0.step hb5.of_alloc⟩
                case measure => simp [intOf]; omega
          · have ed : d.take j = d := List.take_of_length_le (by omega)
            rw [ed]
            have hjj : j = d.length := by omega
            clear ed
            obtain ⟨zs, hzo, hzl, hze⟩ := hrV
            have hHR := HROW.out
            obtain ⟨x0, x1, x2⟩ := HK.out _ h0
            have HST2 : Hid (tidyC (c.take (k+1)) = if d.any (eqvL (true, xl, xr)) then d else d ++ [(true, xl, xr)]) := HSTEP
            generalize d.any (eqvL (true, xl, xr)) = th at *
            cases th with
            | true =>
              have HR2 := Lib.hid (hHR _ h0.of_alloc)
              clear hHR hzo hze
              go_wp2_with fail
              go_roundw
              case rel => exact ⟨k+1, by omega, by go_num, by rw [HST2.out]; exact HR2.out, hb.step h0.of_alloc⟩
              case measure => simp [intOf]; omega
            | false =>
              have hown : RowC w.heap.size (wr.alloc (.cells #[.bool true, .slice a1 xl.length d1, .slice a2 xr.length d2] 68)) _ zs := ownsRow_bel hzo (Bel.alloc0 _ _)
              have hbz := (hb.step h0.of_alloc).size
              have HZE := Lib.hid hze
              clear hHR hzo hze
              go_wp2_with (at_builtin; refine wpList_append_own _ rfl _ _ 27 rfl w.heap.size 68 i0 (.agg #[.bool false, .slice none 0 0, .slice none 0 0]) 3 56 Try.underlying27 hi0 hz0 hz1 hz2 rfl (by decide) _ _ _ rfl hown _ _ _ [.bool true, .slice a1 xl.length d1, .slice a2 xr.length d2] rfl rfl (news_lit _ _ _ _ _ _ rfl) (one_lit _ _ _ _ _ _ _) (by unfold maxLen; omega) (by omega) (by simp; omega) ?_; intro v' w4 hown' hgrow _)
              go_roundw
              case rel =>
                refine ⟨k+1, by omega, by go_num, ?_, ((hb.step h0.of_alloc).alloc _).grown hgrow (fun q hq => own_base hown q hq)⟩
                rw [HST2.out]
                refine RowCV.snoc (z := (true, .slice a1 xl.length d1, .slice a2 xr.length d2)) hzl HZE.out ⟨rfl, HS1.out, HS2.out⟩ ?_
                show World.ownsRow _ _ _ _ _ _ _
                rw [cellsC_app, List.length_append]
                exact hown'
              case measure => simp [intOf]; omega
      | false =>
        have HL := HL1.out _ rfl
        have HST0 : Hid (tidyC (c.take (k+1)) = if decide (xl = xr) then d else if d.any (eqvL (false, xl, xr)) then d else d ++ [(false, xl, xr)]) := HSTEP
        clear HL1 HSTEP
        generalize decide (xl = xr) = e1 at *
        have HLL := Lib.hid HL
        clear HL
        cases e1 with
        | true =>
          have E : Hid (tidyC (c.take (k+1)) = d) := by show _ = _; rw [HST0.out]; rfl
          clear HST0 HSM
          go_wp2_with fail
          refine (HLL.out _ (Bel.alloc0 _ _)).mono ?_; rintro e w1 ⟨rfl, hb1⟩
          go_wp2_with fail
          go_roundw
          case rel => exact ⟨k+1, by omega, by go_num, by rw [E.out]; exact HROW.out _ hb1.of_alloc, hb.step hb1.of_alloc⟩
          case measure => simp [intOf]; omega
        | false =>
          have HSTEP : tidyC (c.take (k+1)) = if d.any (eqvL (false, xl, xr)) then d else d ++ [(false, xl, xr)] := HST0.out
          go_wp2_with fail
          refine (HLL.out _ (Bel.alloc0 _ _)).mono ?_; rintro e w1 ⟨rfl, hb1⟩
          clear HLL HST0
          go_wp2_with fail
          go_loopw [6, 27] (fun th i w6 => ∃ j : Nat, j ≤ d.length ∧ i = .int .i64 j ∧ th = .bool ((d.take j).any (eqvL (false, xl, xr))) ∧ Bel (wr.alloc (.cells #[.bool false, .slice a1 xl.length d1, .slice a2 xr.length d2] 68)) w6) (fun _ i _ => d.length - (intOf i).toNat)
          case atStart => exact ⟨0, Nat.zero_le _, rfl, by simp, hb1⟩
          case round =>
            obtain ⟨j, hj, rfl, rfl, h0⟩ := hrel
            have hrV := HROW.out _ h0.of_alloc
            by_cases hjk : j < d.length
            · obtain ⟨b', off', v1, v2, eb, hbs', f0, f1', f2', r1, r2⟩ := (hrV.slc (hb.step h0.of_alloc)).at (Bel.rfl' _) j hjk
              obtain ⟨hn1, hn2⟩ := hds j hjk
              subst eb
              have hin3 : (j : Int) < d.length := by omega
              have HTK : Hid ((d.take (j+1)).any (eqvL (false, xl, xr)) = ((d.take j).any (eqvL (false, xl, xr)) || eqvL (false, xl, xr) (d.getD j lt0))) := by
                show _ = _
                rw [List.take_succ_eq_append_getElem hjk, List.any_append]
                simp [List.getD, hjk]
              generalize d.getD j lt0 = y at *
              obtain ⟨q, yl, yr⟩ := y
              simp only at f0 f1' f2' r1 r2 hn1 hn2
              obtain ⟨g1, f1, rfl⟩ := r1.form
              obtain ⟨g2, f2, rfl⟩ := r2.form
              have hcall := fun (w' : World) (hq : Bel wr w') => HSM.out w' (h0.of_alloc.step hq) (q, yl, yr) _ _ hn1 hn2 (r1.below hq).in' (r2.below hq).in'
              obtain ⟨x0, x1, x2⟩ := HK.out _ (h0.alloc (.cells #[.bool q, .slice g1 yl.length f1, .slice g2 yr.length f2] 68))
              generalize (d.take j).any (eqvL (false, xl, xr)) = th at *
              cases th with
              | true =>
                have E : Hid ((d.take (j+1)).any (eqvL (false, xl, xr)) = true) := by show _ = _; rw [HTK.out]; rfl
                clear hcall r1 r2 hrV HTK
                go_wp2_with fail
                go_roundw
                case rel => exact ⟨j+1, by omega, by go_num, by rw [E.out], h0.alloc _⟩
                case measure => simp [intOf]; omega
              | false =>
                cases q with
                | true =>
                  have E : Hid ((d.take (j+1)).any (eqvL (false, xl, xr)) = false) := by show _ = _; rw [HTK.out]; rfl
                  clear hcall r1 r2 hrV HTK
                  go_wp2_with fail
                  go_roundw
                  case rel => exact ⟨j+1, by omega, by go_num, by rw [E.out], h0.alloc _⟩
                  case measure => simp [intOf]; omega
                | false =>
                  have E : Hid ((d.take (j+1)).any (eqvL (false, xl, xr)) = sameTs (false, xl, xr) (false, yl, yr)) := by show _ = _; rw [HTK.out]; show (false || ((_ == _) && _)) = _; simp
                  generalize sameTs (false, xl, xr) (false, yl, yr) = r at *
                  have HC := Lib.hid hcall
                  clear hcall r1 r2 hrV HTK
                  go_wp2_with fail
                  refine (HC.out _ (Bel.alloc0 _ _)).mono ?_; rintro e w5 ⟨rfl, hb5⟩
                  go_wp2_with fail
                  go_roundw
                  case rel => exact ⟨j+1, by omega, by go_num, by rw [E.out], h0.step hb5.of_alloc⟩
                  case measure => simp [intOf]; omega
            · have ed : d.take j = d := List.take_of_length_le (by omega)
              rw [ed]
              have hjj : j = d.length := by omega
              clear ed
              obtain ⟨zs, hzo, hzl, hze⟩ := hrV
              have hHR := HROW.out
              obtain ⟨x0, x1, x2⟩ := HK.out _ h0
              have HST2 : Hid (tidyC (c.take (k+1)) = if d.any (eqvL (false, xl, xr)) then d else d ++ [(false, xl, xr)]) := HSTEP
              generalize d.any (eqvL (false, xl, xr)) = th at *
              cases th with
              | true =>
                have HR2 := Lib.hid (hHR _ h0.of_alloc)
                clear hHR hzo hze
                go_wp2_with fail
                go_roundw
                case rel => exact ⟨k+1, by omega, by go_num, by rw [HST2.out]; exact HR2.out, hb.step h0.of_alloc⟩
                case measure => simp [intOf]; omega
              | false =>
                have hown : RowC w.heap.size (wr.alloc (.cells #[.bool false, .slice a1 xl.length d1, .slice a2 xr.length d2] 68)) _ zs := ownsRow_bel hzo (Bel.alloc0 _ _)
                have hbz := (hb.step h0.of_alloc).size
                have HZE := Lib.hid hze
                clear hHR hzo hze
                go_wp2_with (at_builtin; refine wpList_append_own _ rfl _ _ 27 rfl w.heap.size 68 i0 (.agg #[.bool false, .slice none 0 0, .slice none 0 0]) 3 56 Try.underlying27 hi0 hz0 hz1 hz2 rfl (by decide) _ _ _ rfl hown _ _ _ [.bool false, .slice a1 xl.length d1, .slice a2 xr.length d2] rfl rfl (news_lit _ _ _ _ _ _ rfl) (one_lit _ _ _ _ _ _ _) (by unfold maxLen; omega) (by omega) (by simp; omega) ?_; intro v' w4 hown' hgrow _)
                go_roundw
                case rel =>
                  refine ⟨k+1, by omega, by go_num, ?_, ((hb.step h0.of_alloc).alloc _).grown hgrow (fun q hq => own_base hown q hq)⟩
                  rw [HST2.out]
                  refine RowCV.snoc (z := (false, .slice a1 xl.length d1, .slice a2 xr.length d2)) hzl HZE.out ⟨rfl, HS1.out, HS2.out⟩ ?_
                  show World.ownsRow _ _ _ _ _ _ _
                  rw [cellsC_app, List.length_append]
                  exact hown'
                case measure => simp [intOf]; omega
    · have ek : c.take k = c := List.take_of_length_le (by omega)
      rw [ek] at hrow
      have hown := fun (w' : World) (hq : Bel wr w') => l4Own_c 0 _ _ (tidyC c) w' (by have := tidy_short hx c.length; have h2 := tidy_len c c.length; rw [List.take_length] at this h2; exact ⟨by omega, this⟩) ((hrow.slc hb).below hq)
      have HO := Lib.hid hown
      obtain ⟨ao, co, rfl⟩ := hrow.form
      generalize tidyC c = r at *
      clear hrow hv hown ek
      go_wp2_with fail
      refine (HO.out _ (Bel.rfl' _)).mono ?_; rintro e w1 ⟨a2, n2, c2, rfl, o2, hb1⟩
      go_wp2_with fail
      go_ret
      exact ⟨_, _, _, rfl, o2.mono hb.size (Nat.le_refl _), hb.step hb1⟩
end Go.Proofs.Ytajmjjandkdhiaa
end
section
/- Chapter 4, the reference: tautologies. -/
namespace Go.Proofs.Ytajmjjandkdhiaa
open Go.RowKit

theorem taut_out {c : List Lt} {k : Nat} (hk : k < c.length) (h : tautAt c k = true) : tautC c = true := List.any_eq_true.2 ⟨k, by simpa using hk, h⟩
theorem taut_none {c : List Lt} (h : ∀ k, k < c.length → tautAt c k = false) : tautC c = false := by
  unfold tautC
  rw [List.any_eq_false]
  intro k hk
  simp [h k (by simpa using hk)]

set_option maxRecDepth 100000 in
set_option maxHeartbeats 2000000 in
theorem l4Taut_c (l h : Nat) (v : Value) (c : List Lt) (w : World) (hx : shortC c) (hv : SlC l h w v c) :
    Calls Try.prog 84 #[v] w (RetV w (.bool (tautC c))) := by
  obtain ⟨ad, cap, rfl⟩ := hv.form
  have hx0 := hx.1
  have HCAP : Hid (c.length ≤ cap) := by
    obtain ⟨_, k, e, h2, _⟩ := hv
    simp only [Value.slice.injEq] at e
    show _ ≤ _
    omega
  go_enter Try.func84, Try.ntmps84
  go_wp2_with fail
  go_loopw [9] (fun i wr => ∃ k : Nat, k ≤ c.length ∧ i = .int .i64 k ∧ (∀ j, j < k → tautAt c j = false) ∧ Bel w wr) (fun i _ => c.length - (intOf i).toNat)
  case atStart => exact ⟨0, Nat.zero_le _, rfl, fun j hj => absurd hj (by omega), Bel.rfl' _⟩
  case round =>
    obtain ⟨k, hk, rfl, hno, hb⟩ := hrel
    by_cases hlt : k < c.length
    · obtain ⟨b, off, u1, u2, rfl, hbs, c1, c2, c3, s1, s2⟩ := hv.at hb k hlt
      obtain ⟨hm1, hm2⟩ := hx.2 k hlt
      have hin1 : (k : Int) < c.length := by omega
      have hin2 : (k : Int) ≤ cap := by have := HCAP.out; omega
      have HYES := Lib.hid (taut_out hlt)
      have HNO : Hid (tautAt c k = false → ∀ j, j < k + 1 → tautAt c j = false) := fun h j hj => by
        by_cases e : j = k
        · subst e; exact h
        · exact hno j (by omega)
      obtain ⟨a1, d1, rfl⟩ := s1.form
      obtain ⟨a2, d2, rfl⟩ := s2.form
      have HA : Hid (tautAt c k = (((c.getD k lt0).1 && decide ((c.getD k lt0).2.1 = (c.getD k lt0).2.2)) || (c.take k).any fun y => ((c.getD k lt0).1 != y.1) && sameTs (c.getD k lt0) y)) := rfl
      have HSM := Lib.hid (fun (w' : World) (hq : Bel wr w') (y : Lt) (q1 q2 : Value) (g3 : y.2.1.length ≤ 1048576) (g4 : y.2.2.length ≤ 1048576) (t1 : SlI l h w' q1 y.2.1) (t2 : SlI l h w' q2 y.2.2) =>
        l4SameTerms_c l h l h (c.getD k lt0) y _ _ q1 q2 w' hm1 hm2 g3 g4 (s1.below hq) (s2.below hq) t1 t2)
      have HL1 := Lib.hid (fun (q : Bool) (hq : decide ((c.getD k lt0).2.1 = (c.getD k lt0).2.2) = q) (w' : World) (hb' : Bel wr w') => l1Same_w l h l h _ _ _ _ q w' hq hm1 hm2 (s1.below hb') (s2.below hb'))
      generalize c.getD k lt0 = x at *
      obtain ⟨p, xl, xr⟩ := x
      simp only at c1 c2 c3 hm1 hm2 HSM HL1 HA
      have HK : Hid (∀ w', Bel (wr.alloc (.cells #[.bool p, .slice a1 xl.length d1, .slice a2 xr.length d2] 68)) w' → w'.cell? ⟨wr.heap.size, 0, none⟩ = some (.bool p) ∧ w'.cell? ⟨wr.heap.size, 1, none⟩ = some (.slice a1 xl.length d1) ∧ w'.cell? ⟨wr.heap.size, 2, none⟩ = some (.slice a2 xr.length d2)) := fun w' hb => ⟨boxc hb 0 _ rfl, boxc hb 1 _ rfl, boxc hb 2 _ rfl⟩
      clear s1 s2 hno
      cases p with
      | true =>
        simp only [Bool.true_and] at HA
        generalize decide (xl = xr) = e1 at *
        have HL := Lib.hid (HL1.out e1 rfl)
        cases e1 with
        | true =>
          have E := Lib.hid (HYES.out (by rw [HA.out]; rfl))
          clear HYES HNO HA HSM hv
          go_wp2_with fail
          refine (HL.out _ (Bel.alloc0 _ _)).mono ?_; rintro e w1 ⟨rfl, hb1⟩
          go_wp2_with fail
          go_ret
          exact ⟨by rw [E.out]; rfl, hb.step hb1.of_alloc⟩
        | false =>
          simp only [Bool.false_or] at HA
          go_wp2_with fail
          refine (HL.out _ (Bel.alloc0 _ _)).mono ?_; rintro e w1 ⟨rfl, hb1⟩
          obtain ⟨y0, y1, y2⟩ := HK.out _ hb1
          clear HL HL1
          go_wp2_with fail
          go_loopw [27] (fun i w6 => ∃ j : Nat, j ≤ k ∧ i = .int .i64 j ∧ ((c.take k).take j).any (fun y => (true != y.1) && sameTs (true, xl, xr) y) = false ∧ Bel (wr.alloc (.cells #[.bool true, .slice a1 xl.length d1, .slice a2 xr.length d2] 68)) w6) (fun i _ => k - (intOf i).toNat)
          case atStart => exact ⟨0, Nat.zero_le _, rfl, by simp, hb1⟩
          case round =>
            obtain ⟨j, hj, rfl, hany, h0⟩ := hrel
            by_cases hjk : j < k
            · obtain ⟨b', off', v1, v2, eb, hbs', f0, f1', f2', r1, r2⟩ := hv.at (hb.step h0.of_alloc) j (by omega)
              simp only [Option.some.injEq, Addr.mk.injEq, and_true] at eb
              obtain ⟨rfl, rfl⟩ := eb
              obtain ⟨hn1, hn2⟩ := hx.2 j (by omega)
              have hin3 : (j : Int) < k := by omega
              have HTK : Hid ((c.take k).take (j+1) = (c.take k).take j ++ [c.getD j lt0]) := by
                show _ = _
                rw [List.take_succ_eq_append_getElem (by rw [List.length_take]; omega)]
                simp [List.getD, show j < c.length by omega]
              have hmem : c.getD j lt0 ∈ c.take k := by
                have : (c.take k)[j]? = some (c.getD j lt0) := by rw [List.getElem?_take, if_pos hjk, List.getElem?_eq_getElem (by omega)]; simp [List.getD, show j < c.length by omega]
                exact List.mem_of_getElem? this
              have HY2 : Hid (((true != (c.getD j lt0).1) && sameTs (true, xl, xr) (c.getD j lt0)) = true → tautC c = true) := fun h => HYES.out (by rw [HA.out]; exact List.any_eq_true.2 ⟨_, hmem, h⟩)
              clear hmem
              generalize c.getD j lt0 = y at *
              obtain ⟨q, yl, yr⟩ := y
              simp only at f0 f1' f2' r1 r2 hn1 hn2
              obtain ⟨g1, f1, rfl⟩ := r1.form
              obtain ⟨g2, f2, rfl⟩ := r2.form
              have hcall := fun (w' : World) (hq : Bel wr w') => HSM.out w' (h0.of_alloc.step hq) (q, yl, yr) _ _ hn1 hn2 (r1.below hq) (r2.below hq)
              obtain ⟨x0, x1, x2⟩ := HK.out _ (h0.alloc (.cells #[.bool q, .slice g1 yl.length f1, .slice g2 yr.length f2] 68))
              cases q with
              | true =>
                simp only [bne_self_eq_false, Bool.false_and] at HY2
                clear hcall r1 r2
                have E : Hid (((c.take k).take (j+1)).any (fun y => (true != y.1) && sameTs (true, xl, xr) y) = false) := by show _ = _; rw [HTK.out, List.any_append, hany]; simp
                clear HY2 hany
                go_wp2_with fail


                go_roundw
                case rel => exact ⟨j+1, by omega, by go_num, E.out, h0.alloc _⟩
                case measure => simp [intOf]; omega
              | false =>
                simp only [show (true != false) = true from rfl, Bool.true_and] at HY2
                have HS0 : Hid (sameTs (true, xl, xr) (false, yl, yr) = sameTs (true, xl, xr) (false, yl, yr)) := rfl
                clear HS0
                cases hsm : sameTs (true, xl, xr) (false, yl, yr) with
                | true =>
                  have E := Lib.hid (HY2.out hsm)
                  simp only [hsm] at hcall
                  have HC := Lib.hid (fun (w' : World) (hq : Bel wr w') => hcall w' hq)
                  clear HY2 hany hcall hsm r1 r2
                  go_wp2_with fail
                  refine (HC.out _ (Bel.alloc0 _ _)).mono ?_; rintro e w5 ⟨rfl, hb5⟩
                  go_wp2_with fail
                  go_ret
                  exact ⟨by rw [E.out]; rfl, (hb.step h0.of_alloc).step hb5.of_alloc⟩
                | false =>
                  have E : Hid (((c.take k).take (j+1)).any (fun y => (true != y.1) && sameTs (true, xl, xr) y) = false) := by show _ = _; rw [HTK.out, List.any_append, hany]; simp [hsm]
                  simp only [hsm] at hcall
                  have HC := Lib.hid (fun (w' : World) (hq : Bel wr w') => hcall w' hq)
                  clear HY2 hany hcall hsm r1 r2
                  go_wp2_with fail
                  refine (HC.out _ (Bel.alloc0 _ _)).mono ?_; rintro e w5 ⟨rfl, hb5⟩
                  go_wp2_with fail
                  go_roundw
                  case rel => exact ⟨j+1, by omega, by go_num, E.out, h0.step hb5.of_alloc⟩
                  case measure => simp [intOf]; omega
            · have hjk2 : j = k := by omega
              subst hjk2
              rw [List.take_of_length_le (by rw [List.length_take]; omega)] at hany
              have E := Lib.hid (HNO.out (by rw [HA.out]; exact hany))
              clear hany hv
              go_wp2_with fail
              go_roundw
              case rel => exact ⟨j+1, by omega, by go_num, E.out, hb.step h0.of_alloc⟩
              case measure => simp [intOf]; omega
      | false =>
        simp only [Bool.false_and, Bool.false_or] at HA
        clear HL1
        go_wp2_with fail
        go_loopw [27] (fun i w6 => ∃ j : Nat, j ≤ k ∧ i = .int .i64 j ∧ ((c.take k).take j).any (fun y => (false != y.1) && sameTs (false, xl, xr) y) = false ∧ Bel (wr.alloc (.cells #[.bool false, .slice a1 xl.length d1, .slice a2 xr.length d2] 68)) w6) (fun i _ => k - (intOf i).toNat)
        case atStart => exact ⟨0, Nat.zero_le _, rfl, by simp, Bel.rfl' _⟩
        case round =>
          obtain ⟨j, hj, rfl, hany, h0⟩ := hrel
          by_cases hjk : j < k
          · obtain ⟨b', off', v1, v2, eb, hbs', f0, f1', f2', r1, r2⟩ := hv.at (hb.step h0.of_alloc) j (by omega)
            simp only [Option.some.injEq, Addr.mk.injEq, and_true] at eb
            obtain ⟨rfl, rfl⟩ := eb
            obtain ⟨hn1, hn2⟩ := hx.2 j (by omega)
            have hin3 : (j : Int) < k := by omega
            have HTK : Hid ((c.take k).take (j+1) = (c.take k).take j ++ [c.getD j lt0]) := by
              show _ = _
              rw [List.take_succ_eq_append_getElem (by rw [List.length_take]; omega)]
              simp [List.getD, show j < c.length by omega]
            have hmem : c.getD j lt0 ∈ c.take k := by
              have : (c.take k)[j]? = some (c.getD j lt0) := by rw [List.getElem?_take, if_pos hjk, List.getElem?_eq_getElem (by omega)]; simp [List.getD, show j < c.length by omega]
              exact List.mem_of_getElem? this
            have HY2 : Hid (((false != (c.getD j lt0).1) && sameTs (false, xl, xr) (c.getD j lt0)) = true → tautC c = true) := fun h => HYES.out (by rw [HA.out]; exact List.any_eq_true.2 ⟨_, hmem, h⟩)
            clear hmem
            generalize c.getD j lt0 = y at *
            obtain ⟨q, yl, yr⟩ := y
            simp only at f0 f1' f2' r1 r2 hn1 hn2
            obtain ⟨g1, f1, rfl⟩ := r1.form
            obtain ⟨g2, f2, rfl⟩ := r2.form
            have hcall := fun (w' : World) (hq : Bel wr w') => HSM.out w' (h0.of_alloc.step hq) (q, yl, yr) _ _ hn1 hn2 (r1.below hq) (r2.below hq)
            obtain ⟨x0, x1, x2⟩ := HK.out _ (h0.alloc (.cells #[.bool q, .slice g1 yl.length f1, .slice g2 yr.length f2] 68))
            cases q with
            | false =>
              simp only [bne_self_eq_false, Bool.false_and] at HY2
              clear hcall r1 r2
              have E : Hid (((c.take k).take (j+1)).any (fun y => (false != y.1) && sameTs (false, xl, xr) y) = false) := by show _ = _; rw [HTK.out, List.any_append, hany]; simp
              clear HY2 hany
              go_wp2_with fail


              go_roundw
              case rel => exact ⟨j+1, by omega, by go_num, E.out, h0.alloc _⟩
              case measure => simp [intOf]; omega
            | true =>
              simp only [show (false != true) = true from rfl, Bool.true_and] at HY2
              have HS0 : Hid (sameTs (false, xl, xr) (true, yl, yr) = sameTs (false, xl, xr) (true, yl, yr)) := rfl
              clear HS0
              cases hsm : sameTs (false, xl, xr) (true, yl, yr) with
              | true =>
                have E := Lib.hid (HY2.out hsm)
                simp only [hsm] at hcall
                have HC := Lib.hid (fun (w' : World) (hq : Bel wr w') => hcall w' hq)
                clear HY2 hany hcall hsm r1 r2
                go_wp2_with fail
                refine (HC.out _ (Bel.alloc0 _ _)).mono ?_; rintro e w5 ⟨rfl, hb5⟩
                go_wp2_with fail
                go_ret
                exact ⟨by rw [E.out]; rfl, (hb.step h0.of_alloc).step hb5.of_alloc⟩
              | false =>
                have E : Hid (((c.take k).take (j+1)).any (fun y => (false != y.1) && sameTs (false, xl, xr) y) = false) := by show _ = _; rw [HTK.out, List.any_append, hany]; simp [hsm]
                simp only [hsm] at hcall
                have HC := Lib.hid (fun (w' : World) (hq : Bel wr w') => hcall w' hq)
                clear HY2 hany hcall hsm r1 r2
                go_wp2_with fail
                refine (HC.out _ (Bel.alloc0 _ _)).mono ?_; rintro e w5 ⟨rfl, hb5⟩
                go_wp2_with fail
                go_roundw
                case rel => exact ⟨j+1, by omega, by go_num, E.out, h0.step hb5.of_alloc⟩
                case measure => simp [intOf]; omega
          · have hjk2 : j = k := by omega
            subst hjk2
            rw [List.take_of_length_le (by rw [List.length_take]; omega)] at hany
            have E := Lib.hid (HNO.out (by rw [HA.out]; exact hany))
            clear hany hv
            go_wp2_with fail
            go_roundw
            case rel => exact ⟨j+1, by omega, by go_num, E.out, hb.step h0.of_alloc⟩
            case measure => simp [intOf]; omega
    · have hkc : k = c.length := by omega
      subst hkc
      have E := Lib.hid (taut_none hno)
      clear hno hv
      go_wp2_with fail
      go_ret
      exact ⟨by rw [E.out]; rfl, hb⟩
end Go.Proofs.Ytajmjjandkdhiaa
end
section
/- Chapter 4: IsTautology, both sides. -/
namespace Go.Proofs.Ytajmjjandkdhiaa
open Go.RowKit

theorem sameTs_symm {x y : Lt} (h : sameTs x y = true) : sameTs y x = true := by
  simp only [sameTs, Bool.or_eq_true, Bool.and_eq_true, decide_eq_true_iff] at *
  rcases h with ⟨a, b⟩ | ⟨a, b⟩
  · exact .inl ⟨a.symm, b.symm⟩
  · exact .inr ⟨b.symm, a.symm⟩
theorem take_mem {c : List Lt} {i j : Nat} (hij : i < j) (hj : j < c.length) : c.getD i lt0 ∈ c.take j := by
  have : (c.take j)[i]? = some (c.getD i lt0) := by rw [List.getElem?_take, if_pos hij, List.getElem?_eq_getElem (by omega)]; simp [List.getD, show i < c.length by omega]
  exact List.mem_of_getElem? this
theorem taut_pair {c : List Lt} {i j : Nat} (hi : i < c.length) (hj : j < c.length) (hp : (c.getD i lt0).1 ≠ (c.getD j lt0).1) (hs : sameTs (c.getD i lt0) (c.getD j lt0) = true) : tautC c = true := by
  rcases Nat.lt_trichotomy i j with h | h | h
  · refine taut_out hj ?_
    unfold tautAt
    rw [Bool.or_eq_true]
    refine .inr (List.any_eq_true.2 ⟨_, take_mem h hj, ?_⟩)
    rw [sameTs_symm hs, Bool.and_true]; exact bne_iff_ne.2 (Ne.symm hp)
  · subst h; exact absurd rfl hp
  · refine taut_out hi ?_
    unfold tautAt
    rw [Bool.or_eq_true]
    refine .inr (List.any_eq_true.2 ⟨_, take_mem h hi, ?_⟩)
    rw [hs, Bool.and_true]; exact bne_iff_ne.2 hp
theorem taut_keys {c : List Lt} (hk : ∀ x ∈ c, inKeyL x) : tautK (c.map keyL) = tautC c := by
  have hidx : ∀ x ∈ c, ∃ i, i < c.length ∧ c.getD i lt0 = x := fun x hx => by
    obtain ⟨i, hi, rfl⟩ := List.getElem_of_mem hx
    exact ⟨i, hi, by simp [List.getD, hi]⟩
  rw [Bool.eq_iff_iff]
  constructor
  · intro h
    obtain ⟨k, hkm, hc⟩ := List.any_eq_true.1 h
    obtain ⟨x, hx, rfl⟩ := List.mem_map.1 hkm
    rw [Bool.or_eq_true] at hc
    obtain ⟨i, hi, rfl⟩ := hidx x hx
    rcases hc with hc | hc
    · refine taut_out hi ?_
      unfold tautAt
      rw [Bool.or_eq_true]
      rw [keyL_triv (hk _ hx)] at hc
      exact .inl hc
    · obtain ⟨y', hym, hc⟩ := List.any_eq_true.1 hc
      obtain ⟨y, hy, rfl⟩ := List.mem_map.1 hym
      obtain ⟨j, hj, rfl⟩ := hidx y hy
      have hc := of_decide_eq_true hc
      have h1 : (!(c.getD i lt0).1) = (c.getD j lt0).1 := by have := congrArg Prod.fst hc; exact this
      have h2 : (keyL (c.getD i lt0)).2 = (keyL (c.getD j lt0)).2 := by have := congrArg Prod.snd hc; exact this
      have h3 := keyL_same (hk _ hx) (hk _ hy)
      rw [decide_eq_true h2] at h3
      exact taut_pair hi hj (by rw [← h1]; simp) h3.symm
  · intro h
    unfold tautC at h
    obtain ⟨i, hi, hc⟩ := List.any_eq_true.1 h
    have hi : i < c.length := by simpa using hi
    have hx := mem_getD c lt0 i hi
    unfold tautAt at hc
    rw [Bool.or_eq_true] at hc
    refine List.any_eq_true.2 ⟨keyL (c.getD i lt0), List.mem_map.2 ⟨_, hx, rfl⟩, ?_⟩
    rw [Bool.or_eq_true]
    rcases hc with hc | hc
    · exact .inl (by rw [keyL_triv (hk _ hx)]; exact hc)
    · obtain ⟨y, hy, hc⟩ := List.any_eq_true.1 hc
      have hy := List.mem_of_mem_take hy
      simp only [Bool.and_eq_true] at hc
      refine .inr (List.any_eq_true.2 ⟨keyL y, List.mem_map.2 ⟨_, hy, rfl⟩, decide_eq_true ?_⟩)
      have h3 := keyL_same (hk _ hx) (hk _ hy)
      rw [hc.2] at h3
      refine Prod.ext ?_ (of_decide_eq_true h3)
      show (!(c.getD i lt0).1) = y.1
      have := bne_iff_ne.1 hc.1
      revert this
      generalize (c.getD i lt0).1 = p
      generalize y.1 = q
      intro this
      cases p <;> cases q <;> simp_all
theorem goodSign_len10 {ar : List Int} (h : goodSign ar = true) : ar.length ≤ 10 := by
  simp [goodSign, inB] at h
  omega
theorem good_keys {ar : List Int} {c : List Lt} (h : goodClause ar c = true) : ∀ x ∈ c, inKeyL x ∧ x.2.1.length ≤ 40 ∧ x.2.2.length ≤ 40 := fun x hx => by
  obtain ⟨h1, _, h3⟩ := goodClause_iff.1 h
  have hl := goodSign_len10 h1
  have := okLit_iff.1 (h3 x hx)
  exact ⟨ok_inKeyL hl (h3 x hx), (okTerm_len this.1).2, (okTerm_len this.2).2⟩

set_option maxRecDepth 100000 in
set_option maxHeartbeats 400000 in
theorem iIsTautology_t {l h l' h' : Nat} {v u : Value} {ar : List Int} {c : List Lt} {w : World} (ha : ar.length ≤ 1048576) (hv : SlI l h w v ar) (hc : sumC c ≤ 1048576) (hu : SlC l' h' w u c) :
    Calls Try.prog 48 #[.agg #[v], u] w (RetV w (.tuple #[.bool (tautAns ar c), .bool (goodClause ar c)])) := by
  unfold tautAns
  cases hg : goodClause ar c with
  | false =>
    rw [Bool.false_and]
    have HG := Lib.hid hg; clear hg
    go_enter Try.func48, Try.ntmps48
    go_wp2_with fail
    refine (iGoodClause_v HG.out ha (hv.alloc _) hc (hu.alloc _)).mono ?_; rintro e w1 ⟨rfl, hb1⟩
    go_wp2_with fail
    go_ret2
    exact ⟨rfl, hb1.of_alloc⟩
  | true =>
    rw [Bool.true_and]
    have hk := good_keys hg
    rw [← taut_keys fun x hx => (hk x hx).1]
    have HC := Lib.hid (fun (w' : World) (hb : Bel w w') => isTaut_c l' h' u c w' (goodClause_iff.1 hg).2.1 hk (hu.below hb))
    have HG := Lib.hid hg; clear hg hk
    generalize tautK (c.map keyL) = q at *
    go_enter Try.func48, Try.ntmps48
    go_wp2_with fail
    refine (iGoodClause_v HG.out ha (hv.alloc _) hc (hu.alloc _)).mono ?_; rintro e w1 ⟨rfl, hb1⟩
    clear hc
    go_wp2_with fail
    refine (HC.out _ hb1.of_alloc).mono ?_; rintro e w2 ⟨rfl, hb2⟩
    go_wp2_with fail
    go_ret2
    exact ⟨rfl, hb1.of_alloc.step hb2⟩

set_option maxRecDepth 100000 in
set_option maxHeartbeats 400000 in
theorem sIsTautology_t {l h l' h' : Nat} {v u : Value} {ar : List Int} {c : List Lt} {w : World} (ha : ar.length ≤ 1048576) (hv : SlI l h w v ar) (hc : sumC c ≤ 1048576) (hu : SlC l' h' w u c) :
    Calls Try.prog 47 #[.agg #[v], u] w (RetV w (.tuple #[.bool (tautAns ar c), .bool (goodClause ar c)])) := by
  unfold tautAns
  cases hg : goodClause ar c with
  | false =>
    rw [Bool.false_and]
    have HG := Lib.hid hg; clear hg
    go_enter Try.func47, Try.ntmps47
    go_wp2_with fail
    refine (sGoodClause_v HG.out ha (hv.alloc _) hc (hu.alloc _)).mono ?_; rintro e w1 ⟨rfl, hb1⟩
    go_wp2_with fail
    go_ret2
    exact ⟨rfl, hb1.of_alloc⟩
  | true =>
    rw [Bool.true_and]
    have HC := Lib.hid (fun (w' : World) (hb : Bel w w') => l4Taut_c l' h' u c w' (shortC_of_sum hc) (hu.below hb))
    have HG := Lib.hid hg; clear hg
    generalize tautC c = q at *
    go_enter Try.func47, Try.ntmps47
    go_wp2_with fail
    refine (sGoodClause_v HG.out ha (hv.alloc _) hc (hu.alloc _)).mono ?_; rintro e w1 ⟨rfl, hb1⟩
    clear hc
    go_wp2_with fail
    refine (HC.out _ hb1.of_alloc).mono ?_; rintro e w2 ⟨rfl, hb2⟩
    go_wp2_with fail
    go_ret2
    exact ⟨rfl, hb1.of_alloc.step hb2⟩
end Go.Proofs.Ytajmjjandkdhiaa
end
section
/- Chapter 4, the program: TidyClause. -/
namespace Go.Proofs.Ytajmjjandkdhiaa
open Go.RowKit

theorem any_congr {α : Type} {l : List α} {f g : α → Bool} (h : ∀ y ∈ l, f y = g y) : l.any f = l.any g := by
  induction l with
  | nil => rfl
  | cons x r ih => rw [List.any_cons, List.any_cons, h x (by simp), ih fun y hy => h y (by simp [hy])]
theorem key_box {w w' : World} {p : Bool} {lo hi : ByteArray} {t : TypeId} (hb : Bel (w.alloc (.cells #[.bool p, .string lo, .string hi] t)) w') : w'.cell? ⟨w.heap.size, 0, none⟩ = some (.bool p) ∧ w'.cell? ⟨w.heap.size, 1, none⟩ = some (.string lo) ∧ w'.cell? ⟨w.heap.size, 2, none⟩ = some (.string hi) :=
  ⟨boxc hb 0 _ rfl, boxc hb 1 _ rfl, boxc hb 2 _ rfl⟩

set_option maxRecDepth 100000 in
set_option maxHeartbeats 2000000 in
theorem tidied_c (l h : Nat) (v : Value) (c : List Lt) (w : World) (hx : c.length ≤ 8) (hok : ∀ x ∈ c, inKeyL x ∧ x.2.1.length ≤ 40 ∧ x.2.2.length ≤ 40) (hv : SlC l h w v c) :
    Calls Try.prog 83 #[v] w (RetC w (tidyC c)) := by
  obtain ⟨i1, hi1, hy0, hy1, hy2⟩ := info_parts Try.info117
  obtain ⟨ad, cap, rfl⟩ := hv.form
  go_enter Try.func83, Try.ntmps83
  go_wp2_with fail
  go_loopw [3, 4, 10] (fun o s i wr => ∃ k : Nat, k ≤ c.length ∧ i = .int .i64 k ∧ RowCA w.heap.size wr o (tidyC (c.take k)) s.ownBlock ∧ RowK w.heap.size wr s ((tidyC (c.take k)).map keyL) ∧ Bel w wr) (fun _ _ i _ => c.length - (intOf i).toNat)
  case atStart => exact ⟨0, Nat.zero_le _, rfl, RowCA.nil _ _ _, RowK.nil _ _, Bel.rfl' _⟩
  case round =>
    obtain ⟨k, hk, rfl, hra, hrk, hb⟩ := hrel
    by_cases hlt : k < c.length
    · obtain ⟨b, off, u1, u2, rfl, hbs, e0, e1', e2', s1, s2⟩ := hv.at (Bel.rfl' w) k hlt
      have c1 := hb.at (World.block_lt_of_cell? _ ⟨_, _, none⟩ e0) e0
      have c2 := hb.at (World.block_lt_of_cell? _ ⟨_, _, none⟩ e1') e1'
      have c3 := hb.at (World.block_lt_of_cell? _ ⟨_, _, none⟩ e2') e2'
      have hin1 : (k : Int) < c.length := by omega
      obtain ⟨ok1, ok2, ok3⟩ := hok _ (mem_getD c lt0 k hlt)
      have HSTEP := tidyC_snoc c k hlt
      have hdl := tidy_len c k
      have hANY : (((tidyC (c.take k)).map keyL).any fun y => decide (keyL (c.getD k lt0) = y)) = (tidyC (c.take k)).any (eqvL (c.getD k lt0)) := by
        rw [List.any_map]
        refine any_congr fun y hy => ?_
        exact keyL_eq ok1 (hok y ((tidy_all' c k).2 y hy)).1
      have hTRIV := keyL_triv ok1
      obtain ⟨ks, hks⟩ : ∃ ks, (tidyC (c.take k)).map keyL = ks := ⟨_, rfl⟩
      rw [hks] at hrk hANY
      have hkl : ks.length ≤ 8 := by rw [← hks, List.length_map]; omega
      generalize tidyC (c.take k) = d at *
      generalize c.getD k lt0 = x at *
      obtain ⟨p, xl, xr⟩ := x
      simp only at c1 c2 c3 s1 s2 ok2 ok3 hTRIV
      obtain ⟨lo, hi, hKX⟩ : ∃ lo hi, keyL (p, xl, xr) = (p, lo, hi) := ⟨_, _, rfl⟩
      have hkey := fun (w' : World) (hq : Bel wr w') => keyOf_k l h (p, xl, xr) u1 u2 w' ok2 ok3 ok1 (s1.below (hb.step hq)) (s2.below (hb.step hq))
      rw [hKX] at hkey hANY hTRIV
      simp only at hkey hTRIV
      obtain ⟨a1, d1, rfl⟩ := s1.form
      obtain ⟨a2, d2, rfl⟩ := s2.form
      have HKEY := Lib.hid hkey
      have HS1 := Lib.hid s1
      have HS2 := Lib.hid s2
      have HKS : Hid (d.map keyL = ks) := hks
      have hbz := hb.size
      have HC := Lib.hid (fun (w' : World) (hq : Bel wr w') => containsK_c w.heap.size _ ks (p, lo, hi) w' (by omega) (ownsRow_bel hrk hq))
      have hstep2 : tidyC (c.take (k+1)) = if !p && decide (xl = xr) then d else if d.any (eqvL (p, xl, xr)) then d else d ++ [(p, xl, xr)] := HSTEP
      rw [← hANY] at hstep2
      rw [← hTRIV] at hstep2
      clear s1 s2 hkey e0 e1' e2' hv HSTEP hok ok1 hANY hTRIV hks
      cases p with
      | true =>
        simp only [Bool.not_true, Bool.false_and, Bool.false_eq_true, if_false] at hstep2
        generalize (ks.any fun y => decide ((true, lo, hi) = y)) = q at *
        cases q with
        | true =>
          have E : Hid (tidyC (c.take (k+1)) = d) := hstep2
          have hrk0 := hrk
          go_wp2_with fail
          refine (HKEY.out _ (Bel.alloc0 _ _)).mono ?_; rintro e w1 ⟨rfl, hb1⟩
          go_wp2_with fail
          refine (HC.out _ (hb1.of_alloc.step (Bel.alloc0 _ _))).mono ?_; rintro e w2 ⟨rfl, hb2⟩
          go_wp2_with fail
          go_roundw
          case rel =>
            have hB := (hb1.of_alloc.step (Bel.alloc0 w1 (.cells #[.bool true, .string lo, .string hi] 117))).step hb2
            exact ⟨k+1, by omega, by go_num, by rw [E.out]; exact hra.bel hB, by rw [E.out, HKS.out]; exact ownsRow_bel hrk hB, hb.step hB⟩
          case measure => simp [intOf]; omega
        | false =>
          have HKEEP : tidyC (c.take (k+1)) = d ++ [(true, xl, xr)] := hstep2
          go_wp2_with fail
          refine (HKEY.out _ (Bel.alloc0 _ _)).mono ?_; rintro e w1 ⟨rfl, hb1⟩
          go_wp2_with fail
          refine (HC.out _ (hb1.of_alloc.step (Bel.alloc0 _ _))).mono ?_; rintro e w2 ⟨rfl, hb2⟩
          have hzz : Bel (w1.alloc (.cells #[.bool true, .string lo, .string hi] 117)) w2 := hb2
          have HE : Hid (tidyC (c.take (k+1)) = d ++ [(true, xl, xr)]) := HKEEP
          have HEK : Hid ((tidyC (c.take (k+1))).map keyL = ks ++ [(true, lo, hi)]) := by show _ = _; rw [HE.out, List.map_append, HKS.out]; exact congrArg (fun q => ks ++ [q]) hKX
          have Hwz := (hb1.of_alloc.step (Bel.alloc0 w1 (.cells #[.bool true, .string lo, .string hi] 117))).step hzz
          have z0 := boxc hzz 0 _ rfl
          have z1 := boxc hzz 1 _ rfl
          have z2 := boxc hzz 2 _ rfl
          have hr1 : RowK w.heap.size (w2.alloc (.cells #[.bool true, .string lo, .string hi] 117)) _ ks := ownsRow_bel hrk (Hwz.step (Bel.alloc0 _ _))
          have hzs := Hwz.size
          have HRA1 := Lib.hid (hra.bel (Hwz.step (Bel.alloc0 w2 (.cells #[.bool true, .string lo, .string hi] 117))))
          have hbk := hra.blk
          have hsk := hrk.lt
          have hbA : Bel (wr.alloc (.cells #[.bool true, .slice a1 xl.length d1, .slice a2 xr.length d2] 68)) (w2.alloc (.cells #[.bool true, .string lo, .string hi] 117)) := (hb1.step (Bel.alloc0 w1 (.cells #[.bool true, .string lo, .string hi] 117))).step (hzz.alloc (.cells #[.bool true, .string lo, .string hi] 117))
          clear hra HC
          go_wp2_with (at_builtin; refine wpList_append_own_at _ rfl _ _ 115 rfl w.heap.size 117 i1 (.agg #[.bool false, .string ⟨#[]⟩, .string ⟨#[]⟩]) 3 40 Try.underlying115 hi1 hy0 hy1 hy2 rfl (by decide) _ _ _ rfl hr1 _ _ _ [.bool true, .string lo, .string hi] rfl rfl (news_key _ (true, lo, hi) _ _ rfl) (one_key (true, lo, hi)) (by unfold maxLen; omega) (by omega) (by simp; omega) ?_; intro v' w6 hown' hgrow _ hat)
          have HRA6 := Lib.hid (HRA1.out.seen hgrow hat)
          have HRK6 : Hid (RowK w.heap.size w6 v' (ks ++ [(true, lo, hi)])) := by
            show World.ownsRow _ _ _ _ _ _ _
            rw [cellsK_app, List.length_append]
            exact hown'
          have hal : ∀ g, v'.ownBlock = some g → g < w6.heap.size := fun g hg => (hown'.lt g hg).2
          have HAL := Lib.hid hal
          have hBw6 := ((hb.step Hwz).alloc (.cells #[.bool true, .string lo, .string hi] 117)).grown hgrow (fun q hq => (hsk q hq).1)
          have hbz6 := hBw6.size
          have hbr6 : wr.heap.size ≤ w6.heap.size := Nat.le_trans (Hwz.step (Bel.alloc0 _ (.cells #[.bool true, .string lo, .string hi] 117))).size hgrow.size
          have hne6 : some wr.heap.size ≠ _ := fun e => Nat.lt_irrefl _ (hsk _ e.symm).2
          have q0 := hgrow.cell (boxc hbA 0 _ rfl) hne6
          have q1 := hgrow.cell (boxc hbA 1 _ rfl) hne6
          have q2 := hgrow.cell (boxc hbA 2 _ rfl) hne6
          have HL := Lib.hid (fun (w' : World) (hq : Bel w6 w') => clone_c _ _ _ xl w' (by omega) (HS1.out.below (hBw6.step hq)))
          have HR := Lib.hid (fun (w' : World) (hq : Bel w6 w') => clone_c _ _ _ xr w' (by omega) (HS2.out.below (hBw6.step hq)))
          obtain ⟨xl', hxl'⟩ : ∃ y, y = xl := ⟨_, rfl⟩
          obtain ⟨xr', hxr'⟩ : ∃ y, y = xr := ⟨_, rfl⟩
          have HL : Hid (∀ w', Bel w6 w' → Calls Try.prog 117 #[.slice a1 xl.length d1] w' (RetI w' xl')) := by rw [hxl']; exact HL
          have HR : Hid (∀ w', Bel w6 w' → Calls Try.prog 117 #[.slice a2 xr.length d2] w' (RetI w' xr')) := by rw [hxr']; exact HR
          rw [← hxl', ← hxr'] at HE
          have HB7 : Bel w6 w6.drew := Bel.drew0 _
          have HZ7 : w6.heap.size ≤ w6.drew.heap.size := HB7.size
          have k1 := HB7.at (World.block_lt_of_cell? _ ⟨_, _, none⟩ q0) q0
          have k2 := HB7.at (World.block_lt_of_cell? _ ⟨_, _, none⟩ q1) q1
          have k3 := HB7.at (World.block_lt_of_cell? _ ⟨_, _, none⟩ q2) q2
          clear hxl' hxr' hown' hal hr1 hrk q0 q1 q2 hbA HRA1 hgrow hat z0 z1 z2
          go_wp2_with fail
          go_region_held_law (fun w' => w'.cell? ⟨wr.heap.size, 0, none⟩ = some (.bool true) ∧ w'.cell? ⟨wr.heap.size, 1, none⟩ = some (.slice a1 xl.length d1) ∧ w'.cell? ⟨wr.heap.size, 2, none⟩ = some (.slice a2 xr.length d2))
            (first | exact ⟨t1, t2, t3⟩ | exact ⟨m1, m2, m3⟩ | exact ⟨k14, k24, k34⟩ | exact ⟨k13, k23, k33⟩ | exact ⟨k1, k2, k3⟩ | fail)
            (first
              | (refine step_append_litO rfl (.tmp 32) (.tmp 42) 43 rfl rfl w.heap.size _ zs rfl hown w9.heap.size true (a3, n3, q3) (a4, n4, q4) rfl HN (by omega) HZ9 ?_; intro b5 k5 w10 R5 hg5 hat5; have HR5 := hnext w10 _ R5 hg5 hat5; have HK10 := (ownsRow_bel HRK6.out (HB9.step HA9)).kept hg5 HRA6.out.ne; have t1 := hg5.cell m1 (fun e => Nat.lt_irrefl _ (hbk _ e.symm).2); have t2 := hg5.cell m2 (fun e => Nat.lt_irrefl _ (hbk _ e.symm).2); have t3 := hg5.cell m3 (fun e => Nat.lt_irrefl _ (hbk _ e.symm).2); have HB10 := (hBw6.step (HB9.step HA9)).grown hg5 (fun q hq => (hbk q hq).1))
              | (go_at_call 117; refine (HR.out _ HB8).mono ?_; rintro e w9 ⟨a4, n4, q4, rfl, r2, g9⟩; obtain ⟨LA, HA, LB, HB, O1, O2, RA, RB, QA, QB, HD⟩ : ∃ la ha lb hb, OwnI la ha w9 (.slice a3 n3 q3) xl' ∧ OwnI lb hb w9 (.slice a4 n4 q4) xr' ∧ w6.heap.size ≤ la ∧ w6.heap.size ≤ lb ∧ ha ≤ w9.heap.size ∧ hb ≤ w9.heap.size ∧ (ha ≤ lb ∨ hb ≤ la) := ⟨_, _, _, _, r1.below g9, r2, HZ7, HZ8, g9.size, Nat.le_refl _, .inl (Nat.le_refl _)⟩; have HB9 := HB8.step g9; have HA9 := Bel.alloc0 w9 (.cells #[.bool true, .slice a3 n3 q3, .slice a4 n4 q4] 68); obtain ⟨zs, hown, hzl, hnext⟩ := HRA6.out.step HAL.out HB9 HA9 O1 O2 RA RB QA QB HD hbz6 true; have HZ9 : w.heap.size ≤ (w9.alloc (.cells #[.bool true, .slice a3 n3 q3, .slice a4 n4 q4] 68)).heap.size := Nat.le_trans hbz6 (HB9.step HA9).size; have HN := news_lit w9 (.bool true) (encS (a3, n3, q3)) (encS (a4, n4, q4)) 68 w9.heap.size rfl; have k14 := g9.at (World.block_lt_of_cell? _ ⟨_, _, none⟩ k13) k13; have k24 := g9.at (World.block_lt_of_cell? _ ⟨_, _, none⟩ k23) k23; have k34 := g9.at (World.block_lt_of_cell? _ ⟨_, _, none⟩ k33) k33; have m1 := HA9.at (World.block_lt_of_cell? _ ⟨_, _, none⟩ k14) k14; have m2 := HA9.at (World.block_lt_of_cell? _ ⟨_, _, none⟩ k24) k24; have m3 := HA9.at (World.block_lt_of_cell? _ ⟨_, _, none⟩ k34) k34)
              | (go_at_call 117; refine (HL.out _ HB8).mono ?_; rintro e w9 ⟨a3, n3, q3, rfl, r1, g9⟩; obtain ⟨LA, HA, LB, HB, O1, O2, RA, RB, QA, QB, HD⟩ : ∃ la ha lb hb, OwnI la ha w9 (.slice a3 n3 q3) xl' ∧ OwnI lb hb w9 (.slice a4 n4 q4) xr' ∧ w6.heap.size ≤ la ∧ w6.heap.size ≤ lb ∧ ha ≤ w9.heap.size ∧ hb ≤ w9.heap.size ∧ (ha ≤ lb ∨ hb ≤ la) := ⟨_, _, _, _, r1, r2.below g9, HZ8, HZ7, Nat.le_refl _, g9.size, .inr (Nat.le_refl _)⟩; have HB9 := HB8.step g9; have HA9 := Bel.alloc0 w9 (.cells #[.bool true, .slice a3 n3 q3, .slice a4 n4 q4] 68); obtain ⟨zs, hown, hzl, hnext⟩ := HRA6.out.step HAL.out HB9 HA9 O1 O2 RA RB QA QB HD hbz6 true; have HZ9 : w.heap.size ≤ (w9.alloc (.cells #[.bool true, .slice a3 n3 q3, .slice a4 n4 q4] 68)).heap.size := Nat.le_trans hbz6 (HB9.step HA9).size; have HN := news_lit w9 (.bool true) (encS (a3, n3, q3)) (encS (a4, n4, q4)) 68 w9.heap.size rfl; have k14 := g9.at (World.block_lt_of_cell? _ ⟨_, _, none⟩ k13) k13; have k24 := g9.at (World.block_lt_of_cell? _ ⟨_, _, none⟩ k23) k23; have k34 := g9.at (World.block_lt_of_cell? _ ⟨_, _, none⟩ k33) k33; have m1 := HA9.at (World.block_lt_of_cell? _ ⟨_, _, none⟩ k14) k14; have m2 := HA9.at (World.block_lt_of_cell? _ ⟨_, _, none⟩ k24) k24; have m3 := HA9.at (World.block_lt_of_cell? _ ⟨_, _, none⟩ k34) k34)
              | (go_at_call 117; refine (HL.out _ HB7).mono ?_; rintro e w8 ⟨a3, n3, q3, rfl, r1, g8⟩; have HB8 := HB7.step g8; have HZ8 := Nat.le_trans HZ7 g8.size; have k13 := g8.at (World.block_lt_of_cell? _ ⟨_, _, none⟩ k1) k1; have k23 := g8.at (World.block_lt_of_cell? _ ⟨_, _, none⟩ k2) k2; have k33 := g8.at (World.block_lt_of_cell? _ ⟨_, _, none⟩ k3) k3)
              | (go_at_call 117; refine (HR.out _ HB7).mono ?_; rintro e w8 ⟨a4, n4, q4, rfl, r2, g8⟩; have HB8 := HB7.step g8; have HZ8 := Nat.le_trans HZ7 g8.size; have k13 := g8.at (World.block_lt_of_cell? _ ⟨_, _, none⟩ k1) k1; have k23 := g8.at (World.block_lt_of_cell? _ ⟨_, _, none⟩ k2) k2; have k33 := g8.at (World.block_lt_of_cell? _ ⟨_, _, none⟩ k3) k3)
              | fail)
          all_goals
            have hzd : zs.length = d.length := hzl
            go_wp2_with fail
            go_roundw
            case rel =>
              refine ⟨k+1, by omega, by go_num, ?_, ?_, HB10⟩
              · rw [HE.out]; first | exact HR5 | (rw [hzd] at HR5; exact HR5)
              · rw [HEK.out]; exact HK10
            case measure => simp [intOf]; omega
      | false =>
        simp only [Bool.not_false, Bool.true_and] at hstep2
        have HSA := Lib.hid (fun (w' : World) => isSame_c false lo hi w')
        generalize decide (lo = hi) = r at *
        cases r with
        | true =>
          have E : Hid (tidyC (c.take (k+1)) = d) := hstep2
          go_wp2_with fail
          refine (HKEY.out _ (Bel.alloc0 _ _)).mono ?_; rintro e w1 ⟨rfl, hb1⟩
          go_wp2_with fail
          refine (HSA.out _).mono ?_; rintro e w2 ⟨rfl, hb2⟩
          go_wp2_with fail
          go_roundw
          case rel =>
            have hB := (hb1.of_alloc.step (Bel.alloc0 w1 (.cells #[.bool false, .string lo, .string hi] 117))).step hb2
            exact ⟨k+1, by omega, by go_num, by rw [E.out]; exact hra.bel hB, by rw [E.out, HKS.out]; exact ownsRow_bel hrk hB, hb.step hB⟩
          case measure => simp [intOf]; omega
        | false =>
          simp only [Bool.false_eq_true, if_false] at hstep2
          generalize (ks.any fun y => decide ((false, lo, hi) = y)) = q at *
          cases q with
          | true =>
            have E : Hid (tidyC (c.take (k+1)) = d) := hstep2
            go_wp2_with fail
            refine (HKEY.out _ (Bel.alloc0 _ _)).mono ?_; rintro e w1 ⟨rfl, hb1⟩
            go_wp2_with fail
            refine (HSA.out _).mono ?_; rintro e w2 ⟨rfl, hb2⟩
            obtain ⟨z0, z1, z2⟩ := key_box hb2
            go_wp2_with fail
            refine (HC.out _ ((hb1.of_alloc.step (Bel.alloc0 _ _)).step hb2)).mono ?_; rintro e w3 ⟨rfl, hb3⟩
            go_wp2_with fail
            go_roundw
            case rel =>
              have hB := ((hb1.of_alloc.step (Bel.alloc0 w1 (.cells #[.bool false, .string lo, .string hi] 117))).step hb2).step hb3
              exact ⟨k+1, by omega, by go_num, by rw [E.out]; exact hra.bel hB, by rw [E.out, HKS.out]; exact ownsRow_bel hrk hB, hb.step hB⟩
            case measure => simp [intOf]; omega
          | false =>
            have HKEEP : tidyC (c.take (k+1)) = d ++ [(false, xl, xr)] := hstep2
            go_wp2_with fail
            refine (HKEY.out _ (Bel.alloc0 _ _)).mono ?_; rintro e w1 ⟨rfl, hb1⟩
            go_wp2_with fail
            refine (HSA.out _).mono ?_; rintro e w2 ⟨rfl, hb2⟩
            obtain ⟨z0, z1, z2⟩ := key_box hb2
            go_wp2_with fail
            refine (HC.out _ ((hb1.of_alloc.step (Bel.alloc0 _ _)).step hb2)).mono ?_; rintro e w3 ⟨rfl, hb3⟩
            clear z0 z1 z2
            have hzz : Bel (w1.alloc (.cells #[.bool false, .string lo, .string hi] 117)) w3 := hb2.step hb3
            have HE : Hid (tidyC (c.take (k+1)) = d ++ [(false, xl, xr)]) := HKEEP
            have HEK : Hid ((tidyC (c.take (k+1))).map keyL = ks ++ [(false, lo, hi)]) := by show _ = _; rw [HE.out, List.map_append, HKS.out]; exact congrArg (fun q => ks ++ [q]) hKX
            have Hwz := (hb1.of_alloc.step (Bel.alloc0 w1 (.cells #[.bool false, .string lo, .string hi] 117))).step hzz
            have z0 := boxc hzz 0 _ rfl
            have z1 := boxc hzz 1 _ rfl
            have z2 := boxc hzz 2 _ rfl
            have hr1 : RowK w.heap.size (w3.alloc (.cells #[.bool false, .string lo, .string hi] 117)) _ ks := ownsRow_bel hrk (Hwz.step (Bel.alloc0 _ _))
            have hzs := Hwz.size
            have HRA1 := Lib.hid (hra.bel (Hwz.step (Bel.alloc0 w3 (.cells #[.bool false, .string lo, .string hi] 117))))
            have hbk := hra.blk
            have hsk := hrk.lt
            have hbA : Bel (wr.alloc (.cells #[.bool false, .slice a1 xl.length d1, .slice a2 xr.length d2] 68)) (w3.alloc (.cells #[.bool false, .string lo, .string hi] 117)) := (hb1.step (Bel.alloc0 w1 (.cells #[.bool false, .string lo, .string hi] 117))).step (hzz.alloc (.cells #[.bool false, .string lo, .string hi] 117))
            clear hra HC
            go_wp2_with (at_builtin; refine wpList_append_own_at _ rfl _ _ 115 rfl w.heap.size 117 i1 (.agg #[.bool false, .string ⟨#[]⟩, .string ⟨#[]⟩]) 3 40 Try.underlying115 hi1 hy0 hy1 hy2 rfl (by decide) _ _ _ rfl hr1 _ _ _ [.bool false, .string lo, .string hi] rfl rfl (news_key _ (false, lo, hi) _ _ rfl) (one_key (false, lo, hi)) (by unfold maxLen; omega) (by omega) (by simp; omega) ?_; intro v' w6 hown' hgrow _ hat)
            have HRA6 := Lib.hid (HRA1.out.seen hgrow hat)
            have HRK6 : Hid (RowK w.heap.size w6 v' (ks ++ [(false, lo, hi)])) := by
              show World.ownsRow _ _ _ _ _ _ _
              rw [cellsK_app, List.length_append]
              exact hown'
            have hal : ∀ g, v'.ownBlock = some g → g < w6.heap.size := fun g hg => (hown'.lt g hg).2
            have HAL := Lib.hid hal
            have hBw6 := ((hb.step Hwz).alloc (.cells #[.bool false, .string lo, .string hi] 117)).grown hgrow (fun q hq => (hsk q hq).1)
            have hbz6 := hBw6.size
            have hbr6 : wr.heap.size ≤ w6.heap.size := Nat.le_trans (Hwz.step (Bel.alloc0 _ (.cells #[.bool false, .string lo, .string hi] 117))).size hgrow.size
            have hne6 : some wr.heap.size ≠ _ := fun e => Nat.lt_irrefl _ (hsk _ e.symm).2
            have q0 := hgrow.cell (boxc hbA 0 _ rfl) hne6
            have q1 := hgrow.cell (boxc hbA 1 _ rfl) hne6
            have q2 := hgrow.cell (boxc hbA 2 _ rfl) hne6
            have HL := Lib.hid (fun (w' : World) (hq : Bel w6 w') => clone_c _ _ _ xl w' (by omega) (HS1.out.below (hBw6.step hq)))
            have HR := Lib.hid (fun (w' : World) (hq : Bel w6 w') => clone_c _ _ _ xr w' (by omega) (HS2.out.below (hBw6.step hq)))
            obtain ⟨xl', hxl'⟩ : ∃ y, y = xl := ⟨_, rfl⟩
            obtain ⟨xr', hxr'⟩ : ∃ y, y = xr := ⟨_, rfl⟩
            have HL : Hid (∀ w', Bel w6 w' → Calls Try.prog 117 #[.slice a1 xl.length d1] w' (RetI w' xl')) := by rw [hxl']; exact HL
            have HR : Hid (∀ w', Bel w6 w' → Calls Try.prog 117 #[.slice a2 xr.length d2] w' (RetI w' xr')) := by rw [hxr']; exact HR
            rw [← hxl', ← hxr'] at HE
            have HB7 : Bel w6 w6.drew := Bel.drew0 _
            have HZ7 : w6.heap.size ≤ w6.drew.heap.size := HB7.size
            have k1 := HB7.at (World.block_lt_of_cell? _ ⟨_, _, none⟩ q0) q0
            have k2 := HB7.at (World.block_lt_of_cell? _ ⟨_, _, none⟩ q1) q1
            have k3 := HB7.at (World.block_lt_of_cell? _ ⟨_, _, none⟩ q2) q2
            clear hxl' hxr' hown' hal hr1 hrk q0 q1 q2 hbA HRA1 hgrow hat z0 z1 z2
            go_wp2_with fail
            go_region_held_law (fun w' => w'.cell? ⟨wr.heap.size, 0, none⟩ = some (.bool false) ∧ w'.cell? ⟨wr.heap.size, 1, none⟩ = some (.slice a1 xl.length d1) ∧ w'.cell? ⟨wr.heap.size, 2, none⟩ = some (.slice a2 xr.length d2))
              (first | exact ⟨t1, t2, t3⟩ | exact ⟨m1, m2, m3⟩ | exact ⟨k14, k24, k34⟩ | exact ⟨k13, k23, k33⟩ | exact ⟨k1, k2, k3⟩ | fail)
              (first
                | (refine step_append_litO rfl (.tmp 32) (.tmp 42) 43 rfl rfl w.heap.size _ zs rfl hown w9.heap.size false (a3, n3, q3) (a4, n4, q4) rfl HN (by omega) HZ9 ?_; intro b5 k5 w10 R5 hg5 hat5; have HR5 := hnext w10 _ R5 hg5 hat5; have HK10 := (ownsRow_bel HRK6.out (HB9.step HA9)).kept hg5 HRA6.out.ne; have t1 := hg5.cell m1 (fun e => Nat.lt_irrefl _ (hbk _ e.symm).2); have t2 := hg5.cell m2 (fun e => Nat.lt_irrefl _ (hbk _ e.symm).2); have t3 := hg5.cell m3 (fun e => Nat.lt_irrefl _ (hbk _ e.symm).2); have HB10 := (hBw6.step (HB9.step HA9)).grown hg5 (fun q hq => (hbk q hq).1))
                | (go_at_call 117; refine (HR.out _ HB8).mono ?_; rintro e w9 ⟨a4, n4, q4, rfl, r2, g9⟩; obtain ⟨LA, HA, LB, HB, O1, O2, RA, RB, QA, QB, HD⟩ : ∃ la ha lb hb, OwnI la ha w9 (.slice a3 n3 q3) xl' ∧ OwnI lb hb w9 (.slice a4 n4 q4) xr' ∧ w6.heap.size ≤ la ∧ w6.heap.size ≤ lb ∧ ha ≤ w9.heap.size ∧ hb ≤ w9.heap.size ∧ (ha ≤ lb ∨ hb ≤ la) := ⟨_, _, _, _, r1.below g9, r2, HZ7, HZ8, g9.size, Nat.le_refl _, .inl (Nat.le_refl _)⟩; have HB9 := HB8.step g9; have HA9 := Bel.alloc0 w9 (.cells #[.bool false, .slice a3 n3 q3, .slice a4 n4 q4] 68); obtain ⟨zs, hown, hzl, hnext⟩ := HRA6.out.step HAL.out HB9 HA9 O1 O2 RA RB QA QB HD hbz6 false; have HZ9 : w.heap.size ≤ (w9.alloc (.cells #[.bool false, .slice a3 n3 q3, .slice a4 n4 q4] 68)).heap.size := Nat.le_trans hbz6 (HB9.step HA9).size; have HN := news_lit w9 (.bool false) (encS (a3, n3, q3)) (encS (a4, n4, q4)) 68 w9.heap.size rfl; have k14 := g9.at (World.block_lt_of_cell? _ ⟨_, _, none⟩ k13) k13; have k24 := g9.at (World.block_lt_of_cell? _ ⟨_, _, none⟩ k23) k23; have k34 := g9.at (World.block_lt_of_cell? _ ⟨_, _, none⟩ k33) k33; have m1 := HA9.at (World.block_lt_of_cell? _ ⟨_, _, none⟩ k14) k14; have m2 := HA9.at (World.block_lt_of_cell? _ ⟨_, _, none⟩ k24) k24; have m3 := HA9.at (World.block_lt_of_cell? _ ⟨_, _, none⟩ k34) k34)
                | (go_at_call 117; refine (HL.out _ HB8).mono ?_; rintro e w9 ⟨a3, n3, q3, rfl, r1, g9⟩; obtain ⟨LA, HA, LB, HB, O1, O2, RA, RB, QA, QB, HD⟩ : ∃ la ha lb hb, OwnI la ha w9 (.slice a3 n3 q3) xl' ∧ OwnI lb hb w9 (.slice a4 n4 q4) xr' ∧ w6.heap.size ≤ la ∧ w6.heap.size ≤ lb ∧ ha ≤ w9.heap.size ∧ hb ≤ w9.heap.size ∧ (ha ≤ lb ∨ hb ≤ la) := ⟨_, _, _, _, r1, r2.below g9, HZ8, HZ7, Nat.le_refl _, g9.size, .inr (Nat.le_refl _)⟩; have HB9 := HB8.step g9; have HA9 := Bel.alloc0 w9 (.cells #[.bool false, .slice a3 n3 q3, .slice a4 n4 q4] 68); obtain ⟨zs, hown, hzl, hnext⟩ := HRA6.out.step HAL.out HB9 HA9 O1 O2 RA RB QA QB HD hbz6 false; have HZ9 : w.heap.size ≤ (w9.alloc (.cells #[.bool false, .slice a3 n3 q3, .slice a4 n4 q4] 68)).heap.size := Nat.le_trans hbz6 (HB9.step HA9).size; have HN := news_lit w9 (.bool false) (encS (a3, n3, q3)) (encS (a4, n4, q4)) 68 w9.heap.size rfl; have k14 := g9.at (World.block_lt_of_cell? _ ⟨_, _, none⟩ k13) k13; have k24 := g9.at (World.block_lt_of_cell? _ ⟨_, _, none⟩ k23) k23; have k34 := g9.at (World.block_lt_of_cell? _ ⟨_, _, none⟩ k33) k33; have m1 := HA9.at (World.block_lt_of_cell? _ ⟨_, _, none⟩ k14) k14; have m2 := HA9.at (World.block_lt_of_cell? _ ⟨_, _, none⟩ k24) k24; have m3 := HA9.at (World.block_lt_of_cell? _ ⟨_, _, none⟩ k34) k34)
                | (go_at_call 117; refine (HL.out _ HB7).mono ?_; rintro e w8 ⟨a3, n3, q3, rfl, r1, g8⟩; have HB8 := HB7.step g8; have HZ8 := Nat.le_trans HZ7 g8.size; have k13 := g8.at (World.block_lt_of_cell? _ ⟨_, _, none⟩ k1) k1; have k23 := g8.at (World.block_lt_of_cell? _ ⟨_, _, none⟩ k2) k2; have k33 := g8.at (World.block_lt_of_cell? _ ⟨_, _, none⟩ k3) k3)
                | (go_at_call 117; refine (HR.out _ HB7).mono ?_; rintro e w8 ⟨a4, n4, q4, rfl, r2, g8⟩; have HB8 := HB7.step g8; have HZ8 := Nat.le_trans HZ7 g8.size; have k13 := g8.at (World.block_lt_of_cell? _ ⟨_, _, none⟩ k1) k1; have k23 := g8.at (World.block_lt_of_cell? _ ⟨_, _, none⟩ k2) k2; have k33 := g8.at (World.block_lt_of_cell? _ ⟨_, _, none⟩ k3) k3)
                | fail)
            all_goals
              have hzd : zs.length = d.length := hzl
              go_wp2_with fail
              go_roundw
              case rel =>
                refine ⟨k+1, by omega, by go_num, ?_, ?_, HB10⟩
                · rw [HE.out]; first | exact HR5 | (rw [hzd] at HR5; exact HR5)
                · rw [HEK.out]; exact HK10
              case measure => simp [intOf]; omega
    · have ek : c.take k = c := List.take_of_length_le (by omega)
      rw [ek] at hra
      obtain ⟨ao, co, rfl⟩ := hra.co.form
      have HO := Lib.hid hra.co.own
      generalize tidyC c = r at *
      clear hra hrk hv ek
      go_wp2_with fail
      go_ret
      exact ⟨_, _, _, rfl, HO.out, hb⟩
end Go.Proofs.Ytajmjjandkdhiaa
end
