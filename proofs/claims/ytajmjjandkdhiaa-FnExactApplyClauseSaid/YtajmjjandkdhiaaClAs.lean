/- Chapter 4, the reference: ApplyClause. -/
import Derived.Test.YtajmjjandkdhiaaClS3
import Derived.Test.YtajmjjandkdhiaaRwC
import Derived.Test.YtajmjjandkdhiaaClTm
import Derived.Test.YtajmjjandkdhiaaApply3
namespace Go.Proofs.Ytajmjjandkdhiaa
open Go.RowKit

set_option maxRecDepth 100000 in
set_option maxHeartbeats 1000000 in
theorem l4Apply_c (l h l' h' : Nat) (v u : Value) (b : List (List Int)) (c : List Lt) (w : World) (hlen : b.length = 12) (hb40 : lens40 b) (hx : c.length ≤ 1048576) (ht : ∀ t ∈ flatC c, t.length ≤ 1024 ∧ ∀ k, k < t.length → -12 ≤ t.getD k 0) (hu : SlS l' h' w u b) (hv : SlC l h w v c) :
    Calls Try.prog 77 #[u, v] w (RetC w (applyC b c)) := by
  obtain ⟨ad, cap, rfl⟩ := hv.form
  obtain ⟨au, cu, rfl⟩ := hu.form
  have HLEN := Lib.hid hlen
  clear hlen
  go_enter Try.func77, Try.ntmps77
  go_wp2_with fail
  go_loopw [5, 10] (fun o i wr => ∃ k : Nat, k ≤ c.length ∧ i = .int .i64 k ∧ RowCO w.heap.size wr o ((c.take k).map (fun x => (x.1, appT b x.2.1, appT b x.2.2))) ∧ Bel w wr) (fun _ i _ => c.length - (intOf i).toNat)
  case atStart => exact ⟨0, Nat.zero_le _, rfl, RowCO.nil _ _, Bel.rfl' _⟩
  case round =>
    obtain ⟨k, hk, rfl, hrow, hb⟩ := hrel
    by_cases hlt : k < c.length
    · obtain ⟨b1, off, u1, u2, rfl, hbs, c1, c2, c3, s1, s2⟩ := hv.at hb k hlt
      have HTK := Lib.hid (show (c.take (k+1)).map (fun x => (x.1, appT b x.2.1, appT b x.2.2)) = (c.take k).map (fun x => (x.1, appT b x.2.1, appT b x.2.2)) ++ [((c.getD k lt0).1, appT b (c.getD k lt0).2.1, appT b (c.getD k lt0).2.2)] by rw [List.take_succ_eq_append_getElem hlt, List.map_append]; simp [List.getD, hlt])
      have hlen0 := Lib.hid (show ((c.take k).map (fun x => (x.1, appT b x.2.1, appT b x.2.2))).length = k by simp; omega)
      obtain ⟨ht1, ht2⟩ := And.intro (ht _ (List.mem_flatMap.2 ⟨_, getD_mem c lt0 k hlt, by simp⟩ : (c.getD k lt0).2.1 ∈ flatC c)) (ht _ (List.mem_flatMap.2 ⟨_, getD_mem c lt0 k hlt, by simp⟩ : (c.getD k lt0).2.2 ∈ flatC c))
      have hin1 : (k : Int) < c.length := by omega
      have HROW := Lib.hid hrow
      have hbz := hb.size
      have HBK := hrow.blk
      generalize c.getD k lt0 = x at *
      obtain ⟨p, xl, xr⟩ := x
      simp only at *
      obtain ⟨a1, d1, rfl⟩ := s1.form
      obtain ⟨a2, d2, rfl⟩ := s2.form
      have HL := Lib.hid (fun (w' : World) (hq : Bel wr w') => l2Apply_c _ _ _ _ _ _ b _ w' HLEN.out hb40 ht1.1 ht1.2 (hu.below (hb.step hq)) (s1.below hq))
      have HR := Lib.hid (fun (w' : World) (hq : Bel wr w') => l2Apply_c _ _ _ _ _ _ b _ w' HLEN.out hb40 ht2.1 ht2.2 (hu.below (hb.step hq)) (s2.below hq))
      generalize appT b xl = tl at *
      generalize appT b xr = tr at *
      have HB0 : Bel wr (wr.alloc (.cells #[.bool p, .slice a1 xl.length d1, .slice a2 xr.length d2] 68)).drew := (Bel.alloc0 _ _).drew
      have HZ0 : wr.heap.size ≤ (wr.alloc (.cells #[.bool p, .slice a1 xl.length d1, .slice a2 xr.length d2] 68)).drew.heap.size := HB0.size
      have k1 : (wr.alloc (.cells #[.bool p, .slice a1 xl.length d1, .slice a2 xr.length d2] 68)).drew.cell? ⟨wr.heap.size, 0, none⟩ = some (.bool p) := boxc ((Bel.rfl' _).drew) 0 _ rfl
      have k2 : (wr.alloc (.cells #[.bool p, .slice a1 xl.length d1, .slice a2 xr.length d2] 68)).drew.cell? ⟨wr.heap.size, 1, none⟩ = some (.slice a1 xl.length d1) := boxc ((Bel.rfl' _).drew) 1 _ rfl
      have k3 : (wr.alloc (.cells #[.bool p, .slice a1 xl.length d1, .slice a2 xr.length d2] 68)).drew.cell? ⟨wr.heap.size, 2, none⟩ = some (.slice a2 xr.length d2) := boxc ((Bel.rfl' _).drew) 2 _ rfl
      clear hv s1 s2 hrow hu ht
      go_wp2_with fail
      go_region_held_law (fun w' => w'.cell? ⟨wr.heap.size, 0, none⟩ = some (.bool p) ∧ w'.cell? ⟨wr.heap.size, 1, none⟩ = some (.slice a1 xl.length d1) ∧ w'.cell? ⟨wr.heap.size, 2, none⟩ = some (.slice a2 xr.length d2))
        (first | exact ⟨t1, t2, t3⟩ | exact ⟨m1, m2, m3⟩ | exact ⟨k14, k24, k34⟩ | exact ⟨k13, k23, k33⟩ | exact ⟨k1, k2, k3⟩ | fail)
        (first
          | (refine step_append_litO rfl (.tmp 14) (.tmp 26) 27 rfl rfl w.heap.size _ zs rfl hown w4.heap.size p (a3, n3, q3) (a4, n4, q4) rfl HN (by rw [hzl, hlen0.out]; omega) HZ4 ?_; intro b5 k5 w5 R5 hg5 hat5; have HR5 := hnext w5 _ R5 hg5 hat5; have t1 := hg5.cell m1 (fun e => Nat.lt_irrefl _ (HBK _ e.symm).2); have t2 := hg5.cell m2 (fun e => Nat.lt_irrefl _ (HBK _ e.symm).2); have t3 := hg5.cell m3 (fun e => Nat.lt_irrefl _ (HBK _ e.symm).2); have HB5 := (hb.step (HB4.step HA4)).grown hg5 (fun q hq => (HBK q hq).1))
          | (go_at_call 105; refine (HR.out _ HB3).mono ?_; rintro e w4 ⟨a4, n4, q4, rfl, r2, g4⟩; obtain ⟨LA, HA, LB, HB, O1, O2, RA, RB, QA, QB, HD⟩ : ∃ la ha lb hb, OwnI la ha w4 (.slice a3 n3 q3) tl ∧ OwnI lb hb w4 (.slice a4 n4 q4) tr ∧ wr.heap.size ≤ la ∧ wr.heap.size ≤ lb ∧ ha ≤ w4.heap.size ∧ hb ≤ w4.heap.size ∧ (ha ≤ lb ∨ hb ≤ la) := ⟨_, _, _, _, r1.below g4, r2, HZ0, HZ3, g4.size, Nat.le_refl _, .inl (Nat.le_refl _)⟩; have HB4 := HB3.step g4; have HA4 := Bel.alloc0 w4 (.cells #[.bool p, .slice a3 n3 q3, .slice a4 n4 q4] 68); obtain ⟨zs, hown, hzl, hnext⟩ := HROW.out.step HB4 HA4 O1 O2 RA RB QA QB HD hbz p; have HZ4 : w.heap.size ≤ (w4.alloc (.cells #[.bool p, .slice a3 n3 q3, .slice a4 n4 q4] 68)).heap.size := Nat.le_trans hbz (HB4.step HA4).size; have HN := news_lit w4 (.bool p) (encS (a3, n3, q3)) (encS (a4, n4, q4)) 68 w4.heap.size rfl; have k14 := g4.at (World.block_lt_of_cell? _ ⟨_, _, none⟩ k13) k13; have k24 := g4.at (World.block_lt_of_cell? _ ⟨_, _, none⟩ k23) k23; have k34 := g4.at (World.block_lt_of_cell? _ ⟨_, _, none⟩ k33) k33; have m1 := HA4.at (World.block_lt_of_cell? _ ⟨_, _, none⟩ k14) k14; have m2 := HA4.at (World.block_lt_of_cell? _ ⟨_, _, none⟩ k24) k24; have m3 := HA4.at (World.block_lt_of_cell? _ ⟨_, _, none⟩ k34) k34)
          | (go_at_call 105; refine (HL.out _ HB3).mono ?_; rintro e w4 ⟨a3, n3, q3, rfl, r1, g4⟩; obtain ⟨LA, HA, LB, HB, O1, O2, RA, RB, QA, QB, HD⟩ : ∃ la ha lb hb, OwnI la ha w4 (.slice a3 n3 q3) tl ∧ OwnI lb hb w4 (.slice a4 n4 q4) tr ∧ wr.heap.size ≤ la ∧ wr.heap.size ≤ lb ∧ ha ≤ w4.heap.size ∧ hb ≤ w4.heap.size ∧ (ha ≤ lb ∨ hb ≤ la) := ⟨_, _, _, _, r1, r2.below g4, HZ3, HZ0, Nat.le_refl _, g4.size, .inr (Nat.le_refl _)⟩; have HB4 := HB3.step g4; have HA4 := Bel.alloc0 w4 (.cells #[.bool p, .slice a3 n3 q3, .slice a4 n4 q4] 68); obtain ⟨zs, hown, hzl, hnext⟩ := HROW.out.step HB4 HA4 O1 O2 RA RB QA QB HD hbz p; have HZ4 : w.heap.size ≤ (w4.alloc (.cells #[.bool p, .slice a3 n3 q3, .slice a4 n4 q4] 68)).heap.size := Nat.le_trans hbz (HB4.step HA4).size; have HN := news_lit w4 (.bool p) (encS (a3, n3, q3)) (encS (a4, n4, q4)) 68 w4.heap.size rfl; have k14 := g4.at (World.block_lt_of_cell? _ ⟨_, _, none⟩ k13) k13; have k24 := g4.at (World.block_lt_of_cell? _ ⟨_, _, none⟩ k23) k23; have k34 := g4.at (World.block_lt_of_cell? _ ⟨_, _, none⟩ k33) k33; have m1 := HA4.at (World.block_lt_of_cell? _ ⟨_, _, none⟩ k14) k14; have m2 := HA4.at (World.block_lt_of_cell? _ ⟨_, _, none⟩ k24) k24; have m3 := HA4.at (World.block_lt_of_cell? _ ⟨_, _, none⟩ k34) k34)
          | (go_at_call 105; refine (HL.out _ HB0).mono ?_; rintro e w3 ⟨a3, n3, q3, rfl, r1, g3⟩; have HB3 := HB0.step g3; have HZ3 := Nat.le_trans HZ0 g3.size; have k13 := g3.at (World.block_lt_of_cell? _ ⟨_, _, none⟩ k1) k1; have k23 := g3.at (World.block_lt_of_cell? _ ⟨_, _, none⟩ k2) k2; have k33 := g3.at (World.block_lt_of_cell? _ ⟨_, _, none⟩ k3) k3)
          | (go_at_call 105; refine (HR.out _ HB0).mono ?_; rintro e w3 ⟨a4, n4, q4, rfl, r2, g3⟩; have HB3 := HB0.step g3; have HZ3 := Nat.le_trans HZ0 g3.size; have k13 := g3.at (World.block_lt_of_cell? _ ⟨_, _, none⟩ k1) k1; have k23 := g3.at (World.block_lt_of_cell? _ ⟨_, _, none⟩ k2) k2; have k33 := g3.at (World.block_lt_of_cell? _ ⟨_, _, none⟩ k3) k3)
          | fail)
      all_goals
        go_wp2_with fail
        go_roundw
        case rel => exact ⟨k+1, by omega, by go_num, by rw [HTK.out]; have e := hzl.trans hlen0.out; rw [e] at HR5; exact HR5, HB5⟩
        case measure => simp [intOf]; omega
    · have ek : c.take k = c := List.take_of_length_le (by omega)
      rw [ek] at hrow
      obtain ⟨a5, c5, rfl⟩ := hrow.form
      have HO := Lib.hid hrow.own
      clear hrow
      go_wp2_with fail
      go_ret
      exact ⟨_, _, _, rfl, HO.out, hb⟩

set_option maxRecDepth 100000 in
set_option maxHeartbeats 1000000 in
theorem l4Own_c (l h : Nat) (v : Value) (c : List Lt) (w : World) (hx : shortC c) (hv : SlC l h w v c) :
    Calls Try.prog 113 #[v] w (RetC w c) := by
  obtain ⟨ad, cap, rfl⟩ := hv.form
  go_enter Try.func113, Try.ntmps113
  have hx0 := hx.1
  go_wp2_with fail
  go_loopw [3, 8] (fun o i wr => ∃ k : Nat, k ≤ c.length ∧ i = .int .i64 k ∧ RowCO w.heap.size wr o (c.take k) ∧ Bel w wr) (fun _ i _ => c.length - (intOf i).toNat)
  case atStart => exact ⟨0, Nat.zero_le _, rfl, RowCO.nil _ _, Bel.rfl' _⟩
  case round =>
    obtain ⟨k, hk, rfl, hrow, hb⟩ := hrel
    by_cases hlt : k < c.length
    · obtain ⟨b1, off, u1, u2, rfl, hbs, c1, c2, c3, s1, s2⟩ := hv.at hb k hlt
      have HTK := Lib.hid (show c.take (k+1) = c.take k ++ [c.getD k lt0] by rw [List.take_succ_eq_append_getElem hlt]; simp [List.getD, hlt])
      have hlen0 := Lib.hid (show (c.take k).length = k by simp; omega)
      obtain ⟨hm1, hm2⟩ := hx.2 k hlt
      have hin1 : (k : Int) < c.length := by omega
      have HROW := Lib.hid hrow
      have hbz := hb.size
      have HBK := hrow.blk
      generalize c.getD k lt0 = x at *
      obtain ⟨p, xl, xr⟩ := x
      simp only at *
      obtain ⟨a1, d1, rfl⟩ := s1.form
      obtain ⟨a2, d2, rfl⟩ := s2.form
      have HL := Lib.hid (fun (w' : World) (hq : Bel wr w') => l1Own_c _ _ _ _ w' hm1 (s1.below hq))
      have HR := Lib.hid (fun (w' : World) (hq : Bel wr w') => l1Own_c _ _ _ _ w' hm2 (s2.below hq))
      obtain ⟨tl, htl⟩ : ∃ tl, tl = xl := ⟨_, rfl⟩
      obtain ⟨tr, htr⟩ : ∃ tr, tr = xr := ⟨_, rfl⟩
      rw [← htl, ← htr] at HTK
      have HL2 : Hid (∀ w', Bel wr w' → Calls Try.prog 132 #[.slice a1 xl.length d1] w' (RetI w' tl)) := by rw [htl]; exact HL
      have HR2 : Hid (∀ w', Bel wr w' → Calls Try.prog 132 #[.slice a2 xr.length d2] w' (RetI w' tr)) := by rw [htr]; exact HR
      clear HL HR htl htr
      have HL := HL2
      have HR := HR2
      clear HL2 HR2
      have HB0 : Bel wr (wr.alloc (.cells #[.bool p, .slice a1 xl.length d1, .slice a2 xr.length d2] 68)).drew := (Bel.alloc0 _ _).drew
      have HZ0 : wr.heap.size ≤ (wr.alloc (.cells #[.bool p, .slice a1 xl.length d1, .slice a2 xr.length d2] 68)).drew.heap.size := HB0.size
      have k1 : (wr.alloc (.cells #[.bool p, .slice a1 xl.length d1, .slice a2 xr.length d2] 68)).drew.cell? ⟨wr.heap.size, 0, none⟩ = some (.bool p) := boxc ((Bel.rfl' _).drew) 0 _ rfl
      have k2 : (wr.alloc (.cells #[.bool p, .slice a1 xl.length d1, .slice a2 xr.length d2] 68)).drew.cell? ⟨wr.heap.size, 1, none⟩ = some (.slice a1 xl.length d1) := boxc ((Bel.rfl' _).drew) 1 _ rfl
      have k3 : (wr.alloc (.cells #[.bool p, .slice a1 xl.length d1, .slice a2 xr.length d2] 68)).drew.cell? ⟨wr.heap.size, 2, none⟩ = some (.slice a2 xr.length d2) := boxc ((Bel.rfl' _).drew) 2 _ rfl
      clear hv s1 s2 hrow 
      go_wp2_with fail
      go_region_held_law (fun w' => w'.cell? ⟨wr.heap.size, 0, none⟩ = some (.bool p) ∧ w'.cell? ⟨wr.heap.size, 1, none⟩ = some (.slice a1 xl.length d1) ∧ w'.cell? ⟨wr.heap.size, 2, none⟩ = some (.slice a2 xr.length d2))
        (first | exact ⟨t1, t2, t3⟩ | exact ⟨m1, m2, m3⟩ | exact ⟨k14, k24, k34⟩ | exact ⟨k13, k23, k33⟩ | exact ⟨k1, k2, k3⟩ | fail)
        (first
          | (refine step_append_litO rfl (.tmp 12) (.tmp 22) 23 rfl rfl w.heap.size _ zs rfl hown w4.heap.size p (a3, n3, q3) (a4, n4, q4) rfl HN (by rw [hzl, hlen0.out]; omega) HZ4 ?_; intro b5 k5 w5 R5 hg5 hat5; have HR5 := hnext w5 _ R5 hg5 hat5; have t1 := hg5.cell m1 (fun e => Nat.lt_irrefl _ (HBK _ e.symm).2); have t2 := hg5.cell m2 (fun e => Nat.lt_irrefl _ (HBK _ e.symm).2); have t3 := hg5.cell m3 (fun e => Nat.lt_irrefl _ (HBK _ e.symm).2); have HB5 := (hb.step (HB4.step HA4)).grown hg5 (fun q hq => (HBK q hq).1))
          | (go_at_call 132; refine (HR.out _ HB3).mono ?_; rintro e w4 ⟨a4, n4, q4, rfl, r2, g4⟩; obtain ⟨LA, HA, LB, HB, O1, O2, RA, RB, QA, QB, HD⟩ : ∃ la ha lb hb, OwnI la ha w4 (.slice a3 n3 q3) tl ∧ OwnI lb hb w4 (.slice a4 n4 q4) tr ∧ wr.heap.size ≤ la ∧ wr.heap.size ≤ lb ∧ ha ≤ w4.heap.size ∧ hb ≤ w4.heap.size ∧ (ha ≤ lb ∨ hb ≤ la) := ⟨_, _, _, _, r1.below g4, r2, HZ0, HZ3, g4.size, Nat.le_refl _, .inl (Nat.le_refl _)⟩; have HB4 := HB3.step g4; have HA4 := Bel.alloc0 w4 (.cells #[.bool p, .slice a3 n3 q3, .slice a4 n4 q4] 68); obtain ⟨zs, hown, hzl, hnext⟩ := HROW.out.step HB4 HA4 O1 O2 RA RB QA QB HD hbz p; have HZ4 : w.heap.size ≤ (w4.alloc (.cells #[.bool p, .slice a3 n3 q3, .slice a4 n4 q4] 68)).heap.size := Nat.le_trans hbz (HB4.step HA4).size; have HN := news_lit w4 (.bool p) (encS (a3, n3, q3)) (encS (a4, n4, q4)) 68 w4.heap.size rfl; have k14 := g4.at (World.block_lt_of_cell? _ ⟨_, _, none⟩ k13) k13; have k24 := g4.at (World.block_lt_of_cell? _ ⟨_, _, none⟩ k23) k23; have k34 := g4.at (World.block_lt_of_cell? _ ⟨_, _, none⟩ k33) k33; have m1 := HA4.at (World.block_lt_of_cell? _ ⟨_, _, none⟩ k14) k14; have m2 := HA4.at (World.block_lt_of_cell? _ ⟨_, _, none⟩ k24) k24; have m3 := HA4.at (World.block_lt_of_cell? _ ⟨_, _, none⟩ k34) k34)
          | (go_at_call 132; refine (HL.out _ HB3).mono ?_; rintro e w4 ⟨a3, n3, q3, rfl, r1, g4⟩; obtain ⟨LA, HA, LB, HB, O1, O2, RA, RB, QA, QB, HD⟩ : ∃ la ha lb hb, OwnI la ha w4 (.slice a3 n3 q3) tl ∧ OwnI lb hb w4 (.slice a4 n4 q4) tr ∧ wr.heap.size ≤ la ∧ wr.heap.size ≤ lb ∧ ha ≤ w4.heap.size ∧ hb ≤ w4.heap.size ∧ (ha ≤ lb ∨ hb ≤ la) := ⟨_, _, _, _, r1, r2.below g4, HZ3, HZ0, Nat.le_refl _, g4.size, .inr (Nat.le_refl _)⟩; have HB4 := HB3.step g4; have HA4 := Bel.alloc0 w4 (.cells #[.bool p, .slice a3 n3 q3, .slice a4 n4 q4] 68); obtain ⟨zs, hown, hzl, hnext⟩ := HROW.out.step HB4 HA4 O1 O2 RA RB QA QB HD hbz p; have HZ4 : w.heap.size ≤ (w4.alloc (.cells #[.bool p, .slice a3 n3 q3, .slice a4 n4 q4] 68)).heap.size := Nat.le_trans hbz (HB4.step HA4).size; have HN := news_lit w4 (.bool p) (encS (a3, n3, q3)) (encS (a4, n4, q4)) 68 w4.heap.size rfl; have k14 := g4.at (World.block_lt_of_cell? _ ⟨_, _, none⟩ k13) k13; have k24 := g4.at (World.block_lt_of_cell? _ ⟨_, _, none⟩ k23) k23; have k34 := g4.at (World.block_lt_of_cell? _ ⟨_, _, none⟩ k33) k33; have m1 := HA4.at (World.block_lt_of_cell? _ ⟨_, _, none⟩ k14) k14; have m2 := HA4.at (World.block_lt_of_cell? _ ⟨_, _, none⟩ k24) k24; have m3 := HA4.at (World.block_lt_of_cell? _ ⟨_, _, none⟩ k34) k34)
          | (go_at_call 132; refine (HL.out _ HB0).mono ?_; rintro e w3 ⟨a3, n3, q3, rfl, r1, g3⟩; have HB3 := HB0.step g3; have HZ3 := Nat.le_trans HZ0 g3.size; have k13 := g3.at (World.block_lt_of_cell? _ ⟨_, _, none⟩ k1) k1; have k23 := g3.at (World.block_lt_of_cell? _ ⟨_, _, none⟩ k2) k2; have k33 := g3.at (World.block_lt_of_cell? _ ⟨_, _, none⟩ k3) k3)
          | (go_at_call 132; refine (HR.out _ HB0).mono ?_; rintro e w3 ⟨a4, n4, q4, rfl, r2, g3⟩; have HB3 := HB0.step g3; have HZ3 := Nat.le_trans HZ0 g3.size; have k13 := g3.at (World.block_lt_of_cell? _ ⟨_, _, none⟩ k1) k1; have k23 := g3.at (World.block_lt_of_cell? _ ⟨_, _, none⟩ k2) k2; have k33 := g3.at (World.block_lt_of_cell? _ ⟨_, _, none⟩ k3) k3)
          | fail)
      all_goals
        go_wp2_with fail
        go_roundw
        case rel => exact ⟨k+1, by omega, by go_num, by rw [HTK.out]; have e := hzl.trans hlen0.out; rw [e] at HR5; exact HR5, HB5⟩
        case measure => simp [intOf]; omega
    · have ek : c.take k = c := List.take_of_length_le (by omega)
      rw [ek] at hrow
      obtain ⟨a5, c5, rfl⟩ := hrow.form
      have HO := Lib.hid hrow.own
      clear hrow
      go_wp2_with fail
      go_ret
      exact ⟨_, _, _, rfl, HO.out, hb⟩
end Go.Proofs.Ytajmjjandkdhiaa
