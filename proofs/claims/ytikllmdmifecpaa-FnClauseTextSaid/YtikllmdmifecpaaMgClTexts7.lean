/- Texts merged, part 7. -/
import Derived.Maps.AppendAt
import Derived.Shelf.SlicesE.Delete
import Derived.Lib.OwnBridge
import Derived.Deep.AppendLies
import Derived.Deep.RegionHeldLaw
import Derived.Laws.BytesString
import Derived.Test.YtikllmdmifecpaaMgClTexts6
section
/- A literal of the draws. -/
namespace Go.Proofs.Ytikllmdmifecpaa
open Go.RowKit

theorem Rl.slOther {lo hi : Nat} {w : World} {v : Value} {xs : List Int} (h : SlI lo hi w v xs) {p : Addr} {x : Value} (hp : w.cell? p = some x) (hx : ∀ n, x ≠ .int .i64 n) (u : Value) : SlI lo hi (w.setCell p u) v xs := by
  obtain ⟨ad, cap, rfl, hc, hm, hr⟩ := h
  refine ⟨ad, cap, rfl, hc, hm, fun hpos => ?_⟩
  obtain ⟨b, off, e, a1, a2, a3⟩ := hr hpos
  refine ⟨b, off, e, a1, a2, fun j hj => ?_⟩
  have hne : p ≠ ⟨b, off + j, none⟩ := fun h => by
    have := a3 j hj
    rw [← h, hp] at this
    exact hx _ (Option.some.inj this)
  rw [World.cell?_setCell_other (h := hne)]
  exact a3 j hj
theorem Rl.TF.other {w0 w : World} {v : Value} {t : List Int} (h : Rl.TF w0 w v t) {p : Addr} {x : Value} (hp : w.cell? p = some x) (hx : ∀ n, x ≠ .int .i64 n) (u : Value) : Rl.TF w0 (w.setCell p u) v t := by
  obtain ⟨⟨c, h1, h2, h3⟩, h4⟩ := h
  exact ⟨⟨c, h1, by rw [World.size_setCell]; exact h2, Rl.slOther h3 hp hx u⟩, h4⟩
theorem Rl.TF.box {w0 w : World} {v : Value} {t : List Int} (h : Rl.TF w0 w v t) {g : Nat} {p : Bool} {n1 n2 c1 c2 : Nat} {a1 a2 : Option Addr} (z : Rl.Lb w g (.bool p) (.slice a1 n1 c1) (.slice a2 n2 c2)) (q : Bool) (b1 b2 : Value) :
    Rl.TF w0 (((w.setCell ⟨g, 0, none⟩ (.bool q)).setCell ⟨g, 1, none⟩ b1).setCell ⟨g, 2, none⟩ b2) v t := by
  obtain ⟨⟨q0, q1, q2⟩, q3⟩ := z
  refine ((h.other q0 (fun n => by simp) _).other (p := ⟨g, 1, none⟩) (x := .slice a1 n1 c1) (by simp [go_sem, q1]) (fun n => by simp) _).other (p := ⟨g, 2, none⟩) (x := .slice a2 n2 c2) (by simp [go_sem, q2]) (fun n => by simp) _
theorem Rl.LF.set {b n k d : Nat} {w0 w : World} (h : Rl.LF b n k d w0 w) {p : Addr} (hp : w0.heap.size ≤ p.block) (hb : b < w0.heap.size) (u : Value) : Rl.LF b n k d w0 (w.setCell p u) := by
  obtain ⟨k', h1, h2, h3, h4⟩ := h
  exact ⟨k', h1, h2, h3.chg (Chg.set (lo := p.block) (hi := p.block + 1) w (Nat.le_refl _) (Nat.lt_succ_self _) u) (by omega), Chg.setNew h4 hp u⟩
theorem Rl.LF.trans {b n k d d' : Nat} {w0 w w' : World} (h : Rl.LF b n k d w0 w) (hc : ∀ k', k ≤ k' → k' ≤ k + d → Cur b n k' w → ∃ k2, k' ≤ k2 ∧ k2 ≤ k' + d' ∧ Cur b n k2 w') (hg : Chg b (b+1) w w') : Rl.LF b n k (d + d') w0 w' := by
  obtain ⟨k', h1, h2, h3, h4⟩ := h
  obtain ⟨k2, g1, g2, g3⟩ := hc k' h1 h2 h3
  exact ⟨k2, by omega, by omega, g3, h4.trans hg⟩
theorem Rl.LF.ofBel {b n k d : Nat} {w0 w1 w : World} (h : Rl.LF b n k d w1 w) (hb : Bel w0 w1) : Rl.LF b n k d w0 w := by
  obtain ⟨k', h1, h2, h3, h4⟩ := h
  exact ⟨k', h1, h2, h3, (Chg.of_bel hb).trans h4⟩
theorem Rl.TF.ofBel {w0 w1 w : World} {v : Value} {t : List Int} (h : Rl.TF w1 w v t) (hb : Bel w0 w1) : Rl.TF w0 w v t := by
  obtain ⟨⟨c, h1, h2⟩, h3⟩ := h
  have := hb.size
  exact ⟨⟨c, by omega, h2⟩, h3⟩
/-- A literal of the draws: two terms, each in a block of its own that is new. -/
def RetLt (b n k d : Nat) (w : World) (e : Ending) (w' : World) : Prop :=
  ∃ (p : Bool) (v1 v2 : Value) (t1 t2 : List Int), e = .returned (.agg #[.bool p, v1, v2]) ∧ Rl.TF w w' v1 t1 ∧ Rl.TF w w' v2 t2 ∧ Rl.LF b n k d w w'

set_option maxRecDepth 100000 in
set_option maxHeartbeats 1000000 in
theorem lit_c (b n k lo hi : Nat) (v : Value) (ar : List Int) (w : World) (hn : n ≤ 1099511627776) (hk : k ≤ 200000000000) (hdr : drawn ar) (hblo : b < lo) (hc : Cur b n k w) (hv : SlI lo hi w v ar) :
    Calls Try.prog 165 #[.pointer (some ⟨b, 0, none⟩), .agg #[v]] w (RetLt b n k 8100 w) := by
  have hbl := hc.lt
  have B2 : Bel w ((w.alloc (.cells #[v] 29)).alloc (.cells #[.bool false, .slice none 0 0, .slice none 0 0] 106)) := Bel.alloc2 _ _ _
  have BD : Bel w ((w.alloc (.cells #[v] 29)).alloc (.cells #[.bool false, .slice none 0 0, .slice none 0 0] 106)).drew := B2.drew
  have EZ : Hid (((w.alloc (.cells #[v] 29)).alloc (.cells #[.bool false, .slice none 0 0, .slice none 0 0] 106)).drew.heap.size = w.heap.size + 2) := by show _ = _; simp
  have hbx : ((w.alloc (.cells #[v] 29)).alloc (.cells #[.bool false, .slice none 0 0, .slice none 0 0] 106)).drew.cell? ⟨w.heap.size, 0, none⟩ = some v := (Bel.drew0 _).at (by simp; omega) ((Bel.alloc0 _ _).at (by simp) (by simp [go_sem]))
  have HS := Lib.hid (fun (w' : World) (hg : Chg b (b+1) ((w.alloc (.cells #[v] 29)).alloc (.cells #[.bool false, .slice none 0 0, .slice none 0 0] 106)).drew w') => hg.cell (by have := EZ.out; omega) (.inr (by omega)) hbx)
  have hres : Rl.Zb ((w.alloc (.cells #[v] 29)).alloc (.cells #[.bool false, .slice none 0 0, .slice none 0 0] 106)).drew (w.heap.size + 1) := (by have := Rl.Lb.new (w.alloc (.cells #[v] 29)) 106; rw [World.size_alloc] at this; exact this.bel (Bel.drew0 _))
  have hl0 : Rl.LF b n k 0 ((w.alloc (.cells #[v] 29)).alloc (.cells #[.bool false, .slice none 0 0, .slice none 0 0] 106)).drew ((w.alloc (.cells #[v] 29)).alloc (.cells #[.bool false, .slice none 0 0, .slice none 0 0] 106)).drew := ⟨k, Nat.le_refl _, by omega, hc.below BD, Chg.refl _ _ _⟩
  have hvD := hv.below BD
  have hbD : b < ((w.alloc (.cells #[v] 29)).alloc (.cells #[.bool false, .slice none 0 0, .slice none 0 0] 106)).drew.heap.size := by have := EZ.out; omega
  have HL := Lib.hid (And.intro (And.intro hres hl0) (And.intro hvD hbD))
  clear hres hl0 hvD hbD hv hc
  go_enter Try.func165, Try.ntmps165
  go_wp2_with fail
  refine wp_region_held_drew (S := fun w' => w'.cell? ⟨w.heap.size, 0, none⟩ = some v) (by kernel_rfl) hbx (fun _ => ?_)
  change wpAnyH _ _ _ _ _ 18 #[false, false, false, false, false, false, false, false, false, false, false, false, false, false, false, false, false, false] _ _
  refine wpAnyH_take (i := 0) (oi := ⟨_, _, _, _, _, _⟩) (v := ?v0) rfl (by kernel_rfl) (by kernel_rfl) (by kernel_rfl) (fun _ _ _ h => h) (Or.inl ⟨by rfl, ?hy0⟩) hbx ?rest0
  case hy0 =>
    intro w' hSw
    go_simp
    try with_reducible rfl
  try simp only [Act.put, List.setIfInBounds_toArray, List.set_cons_zero, List.set_cons_succ]
  refine wpAnyH_take (i := 3) (oi := ⟨_, _, _, _, _, _⟩) (v := ?v3) rfl (by kernel_rfl) (by kernel_rfl) (by kernel_rfl) (fun _ _ _ h => h) (Or.inl ⟨by rfl, ?hy3⟩) hbx ?rest3
  case hy3 =>
    intro w' hSw
    go_simp
    try with_reducible rfl
  try simp only [Act.put, List.setIfInBounds_toArray, List.set_cons_zero, List.set_cons_succ]
  refine wpAnyH_take (i := 4) (oi := ⟨_, _, _, _, _, _⟩) (v := ?v4) rfl (by kernel_rfl) (by kernel_rfl) (by kernel_rfl) (fun _ _ _ h => h) (Or.inl ⟨by rfl, ?hy4⟩) hbx ?rest4
  case hy4 =>
    intro w' hSw
    go_simp
    try with_reducible rfl
  try simp only [Act.put, List.setIfInBounds_toArray, List.set_cons_zero, List.set_cons_succ]
  refine wpAnyH_take (i := 5) (oi := ⟨_, _, _, _, _, _⟩) (v := ?v5) rfl (by kernel_rfl) (by kernel_rfl) (by kernel_rfl) (fun _ _ _ h => h) (Or.inl ⟨by rfl, ?hy5⟩) hbx ?rest5
  case hy5 =>
    intro w' hSw
    go_simp
    try with_reducible rfl
  try simp only [Act.put, List.setIfInBounds_toArray, List.set_cons_zero, List.set_cons_succ]
  refine wpAnyH_take (i := 9) (oi := ⟨_, _, _, _, _, _⟩) (v := ?v9) rfl (by kernel_rfl) (by kernel_rfl) (by kernel_rfl) (fun _ _ _ h => h) (Or.inl ⟨by rfl, ?hy9⟩) hbx ?rest9
  case hy9 =>
    intro w' hSw
    go_simp
    try with_reducible rfl
  try simp only [Act.put, List.setIfInBounds_toArray, List.set_cons_zero, List.set_cons_succ]
  refine wpAnyH_take (i := 10) (oi := ⟨_, _, _, _, _, _⟩) (v := ?v10) rfl (by kernel_rfl) (by kernel_rfl) (by kernel_rfl) (fun _ _ _ h => h) (Or.inl ⟨by rfl, ?hy10⟩) hbx ?rest10
  case hy10 =>
    intro w' hSw
    go_simp
    try with_reducible rfl
  try simp only [Act.put, List.setIfInBounds_toArray, List.set_cons_zero, List.set_cons_succ]
  refine wpAnyH_take (i := 11) (oi := ⟨_, _, _, _, _, _⟩) (v := ?v11) rfl (by kernel_rfl) (by kernel_rfl) (by kernel_rfl) (fun _ _ _ h => h) (Or.inl ⟨by rfl, ?hy11⟩) hbx ?rest11
  case hy11 =>
    intro w' hSw
    go_simp
    try with_reducible rfl
  try simp only [Act.put, List.setIfInBounds_toArray, List.set_cons_zero, List.set_cons_succ]
  refine Rl.lt0_0 (b := b) (n := n) (k := k) (ar := ar) (sv := v) (w0 := ((w.alloc (.cells #[v] 29)).alloc (.cells #[.bool false, .slice none 0 0, .slice none 0 0] 106)).drew) (Rl.LtReg.mk ?rs ?r1 ?r2 ?r6 ?r7 ?r8 ?r12 ?r13 ?r14 ?r15 ?r16 ?rrd ?rtk) ?rt (fun _ _ d _ _ h => by cases d <;> exact h) HS.out HL.out.2.2 hn (by omega) hdr hblo HL.out.2.1 _ _ _ _ _ _ _ _ _ _ _ HL.out.1.2
  case rs => kernel_rfl
  case r1 => exact ⟨_, _, rfl, rfl, rfl, rfl⟩
  case r2 => exact ⟨_, _, rfl, rfl, rfl, rfl⟩
  case r6 => exact ⟨_, _, rfl, rfl, rfl, rfl⟩
  case r7 => exact ⟨_, rfl, rfl, rfl, rfl⟩
  case r8 => exact ⟨_, _, rfl, rfl, rfl, rfl⟩
  case r12 => exact ⟨_, _, rfl, rfl, rfl, rfl⟩
  case r13 => exact ⟨_, rfl, rfl, rfl, rfl⟩
  case r14 => exact ⟨_, _, rfl, rfl, rfl, rfl⟩
  case r15 => exact ⟨_, rfl, rfl, rfl, rfl⟩
  case r16 => exact ⟨_, rfl, rfl, rfl, rfl⟩
  case rrd => kernel_rfl
  case rtk => kernel_rfl
  case rt =>
  intro x1 x2 y1 s1 x3 y2 s2 g wx z lg hl t1 t2
  have hgx : Chg b (b+1) ((w.alloc (.cells #[v] 29)).alloc (.cells #[.bool false, .slice none 0 0, .slice none 0 0] 106)).drew wx := by obtain ⟨_, _, _, _, h4⟩ := hl; exact h4
  have hres := HL.out.1.1.chg hgx (by omega)
  have hg1 : w.heap.size + 1 ≠ g := by have := EZ.out; omega
  obtain ⟨a1, c1, rfl⟩ := t1.form
  obtain ⟨a2, c2, rfl⟩ := t2.form
  have z0 := z
  obtain ⟨⟨q0, q1, q2⟩, q3⟩ := z
  refine wpAnyH_ready (rs := [17]) (by kernel_rfl) (by simp) ?_
  refine AllReadyH.cons rfl (fun K hK => ?_) AllReadyH.nil
  simp only [Rl.pt]
  go_simp
  have L1 := z0.put (.bool (!x1)) (.slice a1 s1.length c1) (.slice a2 s2.length c2)
  have T1 := t1.box z0 (!x1) (.slice a1 s1.length c1) (.slice a2 s2.length c2)
  have T2 := t2.box z0 (!x1) (.slice a1 s1.length c1) (.slice a2 s2.length c2)
  have F1 := ((hl.set (p := ⟨g, 0, none⟩) lg HL.out.2.2 (.bool (!x1))).set (p := ⟨g, 1, none⟩) lg HL.out.2.2 (.slice a1 s1.length c1)).set (p := ⟨g, 2, none⟩) lg HL.out.2.2 (.slice a2 s2.length c2)
  have Z1 := ((hres.far hg1 0 (.bool (!x1))).far hg1 1 (.slice a1 s1.length c1)).far hg1 2 (.slice a2 s2.length c2)
  clear z0 q0 q1 q2 q3 t1 t2 hl hres hgx
  generalize (((wx.setCell ⟨g, 0, none⟩ (.bool (!x1))).setCell ⟨g, 1, none⟩ (.slice a1 s1.length c1)).setCell ⟨g, 2, none⟩ (.slice a2 s2.length c2)) = wy at *
  refine hK.out _ _ (HS.out _ (by obtain ⟨_, _, _, _, h4⟩ := F1; exact h4)) (fun _ => ?_)
  clear hK K
  refine wpAnyH_done (by kernel_rfl) ?_ _
  have hbD := HL.out.2.2
  obtain ⟨k1, f1, f2, f3, f4⟩ := F1
  have hzy := f4.size
  have HO := Lib.hid (one_c b n k1 3 3 wy rfl hn (by omega) (by omega) f3)
  have HF4 := Lib.hid (And.intro f3 f4)
  clear HL HS f3 f4 hbx
  go_wp2_with fail
  refine HO.out.mono ?_; rintro e wz ⟨q, k2, rfl, g1, g2, g3, g4⟩
  have L2 := L1.chg g4 (by omega)
  have Z2 := Z1.chg g4 (by omega)
  have T3 := T1.chg g4 hbD
  have T4 := T2.chg g4 hbD
  have hbo := HF4.out.2.trans g4
  have F2 : Rl.LF b n k 8100 w wz := ⟨k2, by omega, by omega, g3, (Chg.of_bel BD).trans hbo⟩
  clear L1 Z1 T1 T2 HO HF4
  have hz2 := hbo.size
  cases q with
  | false =>
    obtain ⟨⟨q0, q1, q2⟩, q3⟩ := L2
    obtain ⟨⟨r0, r1, r2⟩, r3⟩ := Z2
    have HE := Lib.hid (And.intro (And.intro T3 T4) F2)
    have R2 := Lib.hid (And.intro (And.intro q0 (And.intro q1 q2)) (And.intro (And.intro r0 (And.intro r1 r2)) r3))
    clear T3 T4 F2 g3 g4 hbo
    go_wp2_with fail
    have Z3 : Rl.Lb wz (w.heap.size + 1) (.bool false) (.slice none 0 0) (.slice none 0 0) := ⟨R2.out.2.1, R2.out.2.2⟩
    have hb1 : w.heap.size ≤ w.heap.size + 1 := Nat.le_succ _
    obtain ⟨⟨y0, y1, y2⟩, -⟩ := Z3.put (.bool (!x1)) (.slice a1 s1.length c1) (.slice a2 s2.length c2)
    try simp only [Exit.inBlock, Exit.then]
    refine bodyPost_ret (v := .agg #[.bool (!x1), .slice a1 s1.length c1, .slice a2 s2.length c2]) (by simp [results, Try.results165, go_sem, y0, y1, y2]) rfl ⟨!x1, _, _, s1, s2, rfl, (HE.out.1.1.box Z3 _ _ _).ofBel BD, (HE.out.1.2.box Z3 _ _ _).ofBel BD, ((HE.out.2.set (p := ⟨w.heap.size + 1, 0, none⟩) hb1 hbl _).set (p := ⟨w.heap.size + 1, 1, none⟩) hb1 hbl _).set (p := ⟨w.heap.size + 1, 2, none⟩) hb1 hbl _⟩
  | true =>
    have hgz := L2.lt
    have ZA := (Z2.far hg1 2 (.slice (some ⟨wz.heap.size, 0, none⟩) 1 1)).bel (Bel.alloc0 _ (.cells #[.int .i64 0] 3))
    have LB := (L2.put2 (.slice (some ⟨wz.heap.size, 0, none⟩) 1 1)).bel (Bel.alloc0 _ (.cells #[.int .i64 0] 3))
    have T5 := (T3.other (p := ⟨g, 2, none⟩) L2.1.2.2 (fun n => by simp) (.slice (some ⟨wz.heap.size, 0, none⟩) 1 1)).alloc (.cells #[.int .i64 0] 3)
    have T6 : Rl.TF ((w.alloc (.cells #[v] 29)).alloc (.cells #[.bool false, .slice none 0 0, .slice none 0 0] 106)).drew ((wz.setCell ⟨g, 2, none⟩ (.slice (some ⟨wz.heap.size, 0, none⟩) 1 1)).alloc (.cells #[.int .i64 0] 3)) (.slice (some ⟨wz.heap.size, 0, none⟩) 1 1) [0] := ⟨⟨wz.heap.size, hz2, by simp, SlI.arr (xs := [0]) rfl (by simp) (by simp) (Nat.le_refl _) (Nat.lt_succ_self _)⟩, by simp, by simp⟩
    have F3 := (F2.set (p := ⟨g, 2, none⟩) (show w.heap.size ≤ g by have := EZ.out; omega) hbl (.slice (some ⟨wz.heap.size, 0, none⟩) 1 1)).alloc (.cells #[.int .i64 0] 3)
    have HE := Lib.hid (And.intro (And.intro T5 T6) F3)
    have HZ := Lib.hid ZA
    obtain ⟨⟨p0, p1, p2⟩, p3⟩ := L2
    obtain ⟨⟨q0, q1, q2⟩, q3⟩ := LB
    obtain ⟨⟨r0, r1, r2⟩, r3⟩ := ZA
    clear T3 T4 T5 T6 F2 F3 g3 g4 hbo Z2
    go_wp2_with fail
    have hb1 : w.heap.size ≤ w.heap.size + 1 := Nat.le_succ _
    obtain ⟨⟨y0, y1, y2⟩, -⟩ := HZ.out.put (.bool (!x1)) (.slice a1 s1.length c1) (.slice (some ⟨wz.heap.size, 0, none⟩) 1 1)
    try simp only [Exit.inBlock, Exit.then]
    refine bodyPost_ret (v := .agg #[.bool (!x1), .slice a1 s1.length c1, .slice (some ⟨wz.heap.size, 0, none⟩) 1 1]) (by simp [results, Try.results165, go_sem, y0, y1, y2]) rfl ⟨!x1, _, _, s1, [0], rfl, (HE.out.1.1.box HZ.out _ _ _).ofBel BD, (HE.out.1.2.box HZ.out _ _ _).ofBel BD, ((HE.out.2.set (p := ⟨w.heap.size + 1, 0, none⟩) hb1 hbl _).set (p := ⟨w.heap.size + 1, 1, none⟩) hb1 hbl _).set (p := ⟨w.heap.size + 1, 2, none⟩) hb1 hbl _⟩
end Go.Proofs.Ytikllmdmifecpaa
end
section
/- The laws' helpers over literals and slices of literals, by contracts: sizes and copies. -/
namespace Go.Proofs.Ytikllmdmifecpaa
open Go.RowKit

set_option maxRecDepth 100000 in
set_option maxHeartbeats 400000 in
theorem szLit_c (l h : Nat) (p : Bool) (u1 u2 : Value) (xl xr : List Int) (left : Int) (w : World) (hl : xl.length ≤ 9223372036854775807) (hr : xr.length ≤ 9223372036854775807) (h0 : 0 ≤ left) (h1 : left ≤ 1048576) (hv1 : SlI l h w u1 xl) (hv2 : SlI l h w u2 xr) :
    Calls Try.prog 87 #[.agg #[.bool p, u1, u2], .int .i64 left] w (RetV w (.int .i64 (szI (xl.length + xr.length) left))) := by
  have HB := Bel.alloc0 w (.cells #[.bool p, u1, u2] 104)
  by_cases hs : left - xl.length < 0
  · have E : Hid (szI (xl.length + xr.length) left = -1) := by show szI _ _ = _; unfold szI; rw [if_pos (by omega)]
    have e1 : szI xl.length left = -1 := by unfold szI; rw [if_pos hs]
    have HC := Lib.hid (szIntS_c l h u1 xl left _ hl h0 h1 (hv1.below HB))
    rw [e1] at HC
    clear hv1 hv2 hs e1
    go_enter Try.func87, Try.ntmps87
    go_wp2_with (go_at_call 70; refine HC.out.mono ?_; rintro e w' ⟨rfl, hb1⟩)
    go_ret
    exact ⟨by rw [E.out]; rfl, HB.step hb1⟩
  · have e1 : szI xl.length left = left - xl.length := by unfold szI; rw [if_neg hs]
    have HC := Lib.hid (szIntS_c l h u1 xl left _ hl h0 h1 (hv1.below HB))
    rw [e1] at HC
    have hz0 : 0 ≤ left - (xl.length : Int) := by omega
    have hz1 : left - (xl.length : Int) ≤ 1048576 := by omega
    by_cases hs2 : left - xl.length - xr.length < 0
    · have E : Hid (szI (xl.length + xr.length) left = -1) := by show szI _ _ = _; unfold szI; rw [if_pos (by omega)]
      have e2 : szI xr.length (left - xl.length) = -1 := by unfold szI; rw [if_pos hs2]
      have HD := Lib.hid (fun (w' : World) (hb : Bel (w.alloc (.cells #[.bool p, u1, u2] 104)) w') => szIntS_c l h u2 xr (left - xl.length) w' hr hz0 hz1 ((hv2.below HB).below hb))
      rw [e2] at HD
      clear hv1 hv2 hs e1 hs2 e2
      generalize left - (xl.length : Int) = z at *
      go_enter Try.func87, Try.ntmps87
      go_wp2_with fail
      refine HC.out.mono ?_; rintro e w1 ⟨rfl, hb1⟩
      have hbx := hb1.at (b := w.heap.size) (off := 2) (by simp) (show (w.alloc (.cells #[.bool p, u1, u2] 104)).cell? ⟨w.heap.size, 2, none⟩ = some u2 by simp)
      go_wp2_with fail
      refine (HD.out _ hb1).mono ?_; rintro e w2 ⟨rfl, hb2⟩
      go_wp2_with fail
      go_ret
      exact ⟨by rw [E.out]; rfl, (HB.step hb1).step hb2⟩
    · have E : Hid (szI (xl.length + xr.length) left = left - xl.length - xr.length) := by show szI _ _ = _; unfold szI; rw [if_neg (by omega)]; omega
      have e2 : szI xr.length (left - xl.length) = left - xl.length - xr.length := by unfold szI; rw [if_neg hs2]
      have HD := Lib.hid (fun (w' : World) (hb : Bel (w.alloc (.cells #[.bool p, u1, u2] 104)) w') => szIntS_c l h u2 xr (left - xl.length) w' hr hz0 hz1 ((hv2.below HB).below hb))
      rw [e2] at HD
      have hy0 : 0 ≤ left - (xl.length : Int) - xr.length := by omega
      clear hv1 hv2 hs e1 hs2 e2
      generalize left - (xl.length : Int) - (xr.length : Int) = y at *
      generalize left - (xl.length : Int) = z at *
      go_enter Try.func87, Try.ntmps87
      go_wp2_with fail
      refine HC.out.mono ?_; rintro e w1 ⟨rfl, hb1⟩
      have hbx := hb1.at (b := w.heap.size) (off := 2) (by simp) (show (w.alloc (.cells #[.bool p, u1, u2] 104)).cell? ⟨w.heap.size, 2, none⟩ = some u2 by simp)
      go_wp2_with fail
      refine (HD.out _ hb1).mono ?_; rintro e w2 ⟨rfl, hb2⟩
      go_wp2_with fail
      go_ret
      exact ⟨by rw [E.out]; rfl, (HB.step hb1).step hb2⟩

def szC (c : List Lt) (left : Int) : Int := if left - (sumC c : Nat) < 0 then -1 else left - (sumC c : Nat)
def lenC (c : List Lt) : Nat := sumL (flatC c)
theorem sumC_eq (c : List Lt) : sumC c = c.length + lenC c := by
  unfold lenC
  induction c with
  | nil => rfl
  | cons x r ih => rw [flatC_cons]; simp only [sumC, sumL, List.map_cons, List.sum_cons, List.length_cons, wC] at *; omega
theorem lenC_take (c : List Lt) (k : Nat) (h : k < c.length) : lenC (c.take (k+1)) = lenC (c.take k) + ((c.getD k lt0).2.1.length + (c.getD k lt0).2.2.length) := by
  have h1 := sumC_take c k h
  rw [sumC_eq, sumC_eq] at h1
  have e1 : (c.take (k+1)).length = k + 1 := by rw [List.length_take]; omega
  have e2 : (c.take k).length = k := by rw [List.length_take]; omega
  unfold wC at h1
  omega
theorem lenC_all (c : List Lt) (k : Nat) (h : ¬ k < c.length) : lenC (c.take k) = lenC c := by rw [List.take_of_length_le (by omega)]
theorem lenC_get (c : List Lt) (k : Nat) (h : k < c.length) : lenC (c.take k) + ((c.getD k lt0).2.1.length + (c.getD k lt0).2.2.length) ≤ lenC c := by
  rw [← lenC_take c k h]
  conv => rhs; rw [← List.take_append_drop (k+1) c]
  unfold lenC
  rw [flatC_app]; unfold sumL; rw [List.map_append, List.sum_append]; omega
theorem SlC.max {lo hi w v c} (h : SlC lo hi w v c) : c.length ≤ 9223372036854775807 ∧ ∀ j, j < c.length → (c.getD j lt0).2.1.length ≤ 9223372036854775807 ∧ (c.getD j lt0).2.2.length ≤ 9223372036854775807 := by
  obtain ⟨ad, cap, e, hc, hm, hr⟩ := h
  have hml : maxLen = 9223372036854775807 := rfl
  refine ⟨by omega, fun j hj => ?_⟩
  obtain ⟨b, off, _, _, _, hx⟩ := hr (by omega)
  obtain ⟨u1, u2, _, _, _, ⟨ad2, cap2, _, hc2, hm2, _⟩, ⟨ad3, cap3, _, hc3, hm3, _⟩⟩ := hx j hj
  omega

set_option maxRecDepth 100000 in
set_option maxHeartbeats 400000 in
theorem szLitS_c (l h : Nat) (v : Value) (c : List Lt) (left : Int) (w : World) (h0 : 0 ≤ left) (h1 : left ≤ 1048576) (hv : SlC l h w v c) :
    Calls Try.prog 35 #[v, .int .i64 left] w (RetV w (.int .i64 (szC c left))) := by
  obtain ⟨ad, cap, rfl⟩ := hv.form
  obtain ⟨hx, hmax⟩ := hv.max
  have hse := sumC_eq c
  by_cases hs : left - c.length < 0
  · have E : Hid (szC c left = -1) := by show szC _ _ = _; unfold szC; rw [if_pos (by omega)]
    go_enter Try.func35, Try.ntmps35
    go_wp2_with fail
    go_ret
    exact ⟨by rw [E.out]; rfl, Bel.rfl' _⟩
  · have hw1 := IntWalk.i64_in (left - c.length) (by omega)
    go_enter Try.func35, Try.ntmps35
    go_wp2_with fail
    go_loopw [1, 5] (fun m i wr => ∃ (k : Nat) (z : Int), k ≤ c.length ∧ i = .int .i64 k ∧ m = .int .i64 z ∧ 0 ≤ z ∧ z = left - c.length - (lenC (c.take k) : Nat) ∧ Bel w wr) (fun _ i _ => c.length - (intOf i).toNat)
    case atStart => exact ⟨0, _, Nat.zero_le _, rfl, by go_num, by omega, by simp [lenC, flatC, sumL], Bel.rfl' _⟩
    case round =>
      obtain ⟨k, z, hk, rfl, rfl, hz0, hz, hb⟩ := hrel
      by_cases hlt : k < c.length
      · obtain ⟨b, off, u1, u2, rfl, -, c1, c2, c3, s1, s2⟩ := hv.at hb k hlt
        obtain ⟨hm1, hm2⟩ := hmax k hlt
        have hst := lenC_take c k hlt
        have hsl := lenC_get c k hlt
        have hcall := szLit_c l h (c.getD k lt0).1 u1 u2 (c.getD k lt0).2.1 (c.getD k lt0).2.2 z wr hm1 hm2 hz0 (by omega) s1 s2
        have hin0 : (0 : Int) ≤ k := by omega
        have hin1 : (k : Int) < c.length := by omega
        generalize hp : (c.getD k lt0).1 = p at *
        generalize hxl : (c.getD k lt0).2.1 = xl at *
        generalize hxr : (c.getD k lt0).2.2 = xr at *
        by_cases hneg : z - (xl.length + xr.length : Int) < 0
        · have e1 : szI (xl.length + xr.length) z = -1 := by unfold szI; rw [if_pos hneg]
          have E : Hid (szC c left = -1) := by show szC _ _ = _; unfold szC; rw [if_pos (by omega)]
          rw [e1] at hcall
          have HC := Lib.hid hcall
          clear hcall hv s1 s2 hmax hst hsl e1 hneg hz hse hxl hxr hp
          go_wp2_with (go_at_call 87; refine HC.out.mono ?_; rintro e w' ⟨rfl, hb1⟩)
          go_ret
          exact ⟨by rw [E.out]; rfl, hb.step hb1⟩
        · have e1 : szI (xl.length + xr.length) z = z - (xl.length + xr.length) := by unfold szI; rw [if_neg hneg]
          have hz' : z - ((xl.length : Int) + xr.length) = left - c.length - (lenC (c.take (k+1)) : Nat) := by omega
          rw [e1] at hcall
          have HC := Lib.hid hcall
          have HZ := Lib.hid hz'
          have hz2 : 0 ≤ z - ((xl.length : Int) + xr.length) := by omega
          clear hcall hv s1 s2 hmax hst hsl e1 hneg hz hz' hse hxl hxr hp
          generalize z - ((xl.length : Int) + xr.length) = z2 at *
          go_wp2_with (go_at_call 87; refine HC.out.mono ?_; rintro e w' ⟨rfl, hb1⟩)
          go_roundw
          case rel => exact ⟨k+1, z2, by omega, by go_num, rfl, hz2, HZ.out, hb.step hb1⟩
          case measure => simp [intOf]; omega
      · have E : Hid (szC c left = z) := by
          show szC _ _ = _
          rw [lenC_all c k hlt] at hz
          unfold szC; rw [if_neg (by omega)]; omega
        clear hz
        go_wp2_with fail
        go_ret
        exact ⟨by rw [E.out]; rfl, hb⟩
end Go.Proofs.Ytikllmdmifecpaa
end
section
/- The laws' helpers over literals, by contracts: copies, comparisons. -/
namespace Go.Proofs.Ytikllmdmifecpaa
open Go.RowKit

/-- A literal of the call's own: its two terms in two ranges. -/
def RetL (w : World) (x : Lt) (e : Ending) (w' : World) : Prop :=
  ∃ a1 n1 c1 a2 n2 c2 m, e = .returned (.agg #[.bool x.1, .slice a1 n1 c1, .slice a2 n2 c2]) ∧ w.heap.size ≤ m ∧ m ≤ w'.heap.size ∧ OwnI w.heap.size m w' (.slice a1 n1 c1) x.2.1 ∧ OwnI m w'.heap.size w' (.slice a2 n2 c2) x.2.2 ∧ Bel w w'

set_option maxRecDepth 100000 in
set_option maxHeartbeats 400000 in
theorem eqLit_same (l h l' h' : Nat) (p : Bool) (u1 u2 q1 q2 : Value) (xl xr : List Int) (w : World) (hl : xl.length ≤ 1048576) (hr : xr.length ≤ 1048576) (a1 : SlI l h w u1 xl) (a2 : SlI l h w u2 xr) (b1 : SlI l' h' w q1 xl) (b2 : SlI l' h' w q2 xr) :
    Calls Try.prog 93 #[.agg #[.bool p, u1, u2], .agg #[.bool p, q1, q2]] w (RetV w (.bool true)) := by
  have HB : Bel w ((w.alloc (.cells #[.bool p, u1, u2] 106)).alloc (.cells #[.bool p, q1, q2] 106)) := Bel.alloc2 _ _ _
  have HC := Lib.hid (fun (w' : World) (hb : Bel w w') => eqIntS_same l h l' h' u1 q1 xl w' hl (a1.below hb) (b1.below hb))
  have HD := Lib.hid (fun (w' : World) (hb : Bel w w') => eqIntS_same l h l' h' u2 q2 xr w' hr (a2.below hb) (b2.below hb))
  clear a1 a2 b1 b2
  go_enter Try.func93, Try.ntmps93
  go_wp2_with fail
  refine (HC.out _ HB).mono ?_; rintro e w1 ⟨rfl, hb1⟩
  have ka := hb1.at (b := w.heap.size) (off := 2) (by simp; omega) (show World.cell? _ _ = some u2 by simp [go_sem])
  have kb := hb1.at (b := w.heap.size + 1) (off := 2) (by simp) (show World.cell? _ _ = some q2 by simp [go_sem])
  have HB1 := HB.step hb1
  go_wp2_with fail
  refine (HD.out _ HB1).mono ?_; rintro e w2 ⟨rfl, hb2⟩
  go_wp2_with fail
  go_ret
  exact ⟨rfl, HB1.step hb2⟩

set_option maxRecDepth 100000 in
set_option maxHeartbeats 400000 in
theorem toLit_c (l h : Nat) (p : Bool) (u1 u2 : Value) (xl xr : List Int) (w : World) (hl : xl.length ≤ 1048576) (hr : xr.length ≤ 1048576) (h1 : SlI l h w u1 xl) (h2 : SlI l h w u2 xr) :
    Calls Try.prog 91 #[.agg #[.bool p, u1, u2]] w (RetL w (p, xl, xr)) := by
  have HC := Lib.hid (fun (w' : World) (hb : Bel w w') => toIntS_c l h u1 xl w' hl (h1.below hb))
  have HD := Lib.hid (fun (w' : World) (hb : Bel w w') => toIntS_c l h u2 xr w' hr (h2.below hb))
  clear h1 h2
  go_enter Try.func91, Try.ntmps91
  go_wp2_with fail
  have HB : Bel w (((w.alloc (.cells #[.bool p, u1, u2] 104)).alloc (.cells #[.bool false, .slice none 0 0, .slice none 0 0] 106)).alloc (.cells #[.bool p, .slice none 0 0, .slice none 0 0] 106)) := Bel.alloc3 _ _ _ _
  refine (HC.out _ HB).mono ?_; rintro e w1 ⟨a1, n1, c1, rfl, o1, hb1⟩
  have hz1 := hb1.size
  simp only [World.size_alloc] at hz1 o1
  have e0 := hb1.at (b := w.heap.size) (off := 2) (by simp; omega) (show World.cell? _ _ = some u2 by simp [go_sem])
  have e1 := hb1.at (b := w.heap.size + 1) (off := 0) (by simp) (show World.cell? _ _ = some (.bool false) by simp [go_sem])
  have e2 := hb1.at (b := w.heap.size + 1) (off := 1) (by simp) (show World.cell? _ _ = some (.slice none 0 0) by simp [go_sem])
  have e3 := hb1.at (b := w.heap.size + 1) (off := 2) (by simp) (show World.cell? _ _ = some (.slice none 0 0) by simp [go_sem])
  have f0 := hb1.at (b := w.heap.size + 1 + 1) (off := 0) (by simp) (show World.cell? _ _ = some (.bool p) by simp [go_sem])
  have f1 := hb1.at (b := w.heap.size + 1 + 1) (off := 1) (by simp) (show World.cell? _ _ = some (.slice none 0 0) by simp [go_sem])
  have f2 := hb1.at (b := w.heap.size + 1 + 1) (off := 2) (by simp) (show World.cell? _ _ = some (.slice none 0 0) by simp [go_sem])
  have g1 : ∀ i, w1.frozen? ⟨w.heap.size + 1, i, none⟩ = false := fun i => (hb1.frozen (p := ⟨w.heap.size + 1, i, none⟩) (by simp)).trans (by simp [go_sem])
  have g2 : ∀ i, w1.frozen? ⟨w.heap.size + 1 + 1, i, none⟩ = false := fun i => (hb1.frozen (p := ⟨w.heap.size + 1 + 1, i, none⟩) (by simp)).trans (by simp [go_sem])
  have HB1 := HB.step hb1
  go_wp2_with fail
  have HS : Bel w (w1.setCell ⟨w.heap.size + 1 + 1, 1, none⟩ (.slice a1 n1 c1)) := HB1.set (by simp; omega) _
  refine (HD.out _ HS).mono ?_; rintro e w2 ⟨a2, n2, c2, rfl, o2, hb2⟩
  have hz2 := hb2.size
  simp only [World.size_setCell] at hz2 o2
  have far : ∀ {b o : Nat} {x : Value}, (b ≠ w.heap.size + 1 + 1 ∨ o ≠ 1) → w1.cell? ⟨b, o, none⟩ = some x → b < w1.heap.size → w2.cell? ⟨b, o, none⟩ = some x := fun hne hc hlt =>
    hb2.at (by simpa using hlt) (by rw [World.cell?_setCell_other (h := by intro h; simp at h; omega)]; exact hc)
  have e1' := far (.inl (by omega)) e1 (by omega)
  have e2' := far (.inl (by omega)) e2 (by omega)
  have e3' := far (.inl (by omega)) e3 (by omega)
  have f0' := far (.inr (by omega)) f0 (by omega)
  have f1' := hb2.at (b := w.heap.size + 1 + 1) (off := 1) (by simp; omega) (World.cell?_setCell_same w1 _ _ f1)
  have f2' := far (.inr (by omega)) f2 (by omega)
  have g1' : ∀ i, w2.frozen? ⟨w.heap.size + 1, i, none⟩ = false := fun i => (hb2.frozen (p := ⟨w.heap.size + 1, i, none⟩) (by simp; omega)).trans (by rw [World.frozen?_setCell]; exact g1 i)
  have g2' : ∀ i, w2.frozen? ⟨w.heap.size + 1 + 1, i, none⟩ = false := fun i => (hb2.frozen (p := ⟨w.heap.size + 1 + 1, i, none⟩) (by simp; omega)).trans (by rw [World.frozen?_setCell]; exact g2 i)
  have HB2 := HS.step hb2
  clear far
  go_wp2_with fail
  have o1' := ((((((o1.set (p := ⟨w.heap.size + 1 + 1, 1, none⟩) (.inl (by simp)) (.slice a1 n1 c1)).below hb2).set (p := ⟨w.heap.size + 1 + 1, 2, none⟩) (.inl (by simp)) (.slice a2 n2 c2)).set (p := ⟨w.heap.size + 1, 0, none⟩) (.inl (by simp)) (.bool p)).set (p := ⟨w.heap.size + 1, 1, none⟩) (.inl (by simp)) (.slice a1 n1 c1)).set (p := ⟨w.heap.size + 1, 2, none⟩) (.inl (by simp)) (.slice a2 n2 c2))
  have o2' := ((((o2.set (p := ⟨w.heap.size + 1 + 1, 2, none⟩) (.inl (by simp; omega)) (.slice a2 n2 c2)).set (p := ⟨w.heap.size + 1, 0, none⟩) (.inl (by simp; omega)) (.bool p)).set (p := ⟨w.heap.size + 1, 1, none⟩) (.inl (by simp; omega)) (.slice a1 n1 c1)).set (p := ⟨w.heap.size + 1, 2, none⟩) (.inl (by simp; omega)) (.slice a2 n2 c2))
  have HB3 := ((((HB2.set (p := ⟨w.heap.size + 1 + 1, 2, none⟩) (by simp; omega) (.slice a2 n2 c2)).set (p := ⟨w.heap.size + 1, 0, none⟩) (by simp) (.bool p)).set (p := ⟨w.heap.size + 1, 1, none⟩) (by simp) (.slice a1 n1 c1)).set (p := ⟨w.heap.size + 1, 2, none⟩) (by simp) (.slice a2 n2 c2))
  refine bodyPost_ret (v := .agg #[.bool p, .slice a1 n1 c1, .slice a2 n2 c2]) (by simp [results, Try.results91, go_sem, e1', e2', e3']) rfl ⟨_, _, _, _, _, _, w1.heap.size, rfl, by omega, by simp; omega, o1'.mono (by omega) (Nat.le_refl _), o2'.mono (Nat.le_refl _) (by simp), HB3⟩
end Go.Proofs.Ytikllmdmifecpaa
end
section
/- The laws' helpers over slices of literals: copies. -/
namespace Go.Proofs.Ytikllmdmifecpaa
open Go.RowKit

theorem Try.info106 : (Try.prog.info? 106).map (fun i => (i.zero, i.size, i.bytes)) = some (some (.agg #[.bool false, .slice none 0 0, .slice none 0 0]), 3, 56) := by kernel_rfl
theorem flatC_take' (c : List Lt) (k : Nat) (h : k < c.length) : flatC (c.take (k+1)) = flatC (c.take k) ++ [(c.getD k lt0).2.1] ++ [(c.getD k lt0).2.2] := by
  rw [List.take_succ_eq_append_getElem h, flatC_app]
  simp [flatC, List.getD, h]
def z0C : LV := (false, .slice none 0 0, .slice none 0 0)
theorem made3 (n : Nat) : (madeCells #[.bool false, .slice none 0 0, .slice none 0 0] (n * 3)).toList = cellsC (List.replicate n z0C) := by
  have e : ∀ m, (madeCells #[.bool false, .slice none 0 0, .slice none 0 0] m).toList = (List.range m).map (fun i => (#[Value.bool false, .slice none 0 0, .slice none 0 0] : Array Value)[i % 3]!) := by
    intro m; simp [madeCells, Array.toList_range]
  rw [e]
  induction n with
  | zero => rfl
  | succ n ih =>
    rw [List.replicate_succ', cellsC_app, ← ih, show (n + 1) * 3 = n * 3 + 1 + 1 + 1 from by omega, List.range_succ, List.range_succ, List.range_succ]
    simp only [List.map_append, List.map_cons, List.map_nil, List.append_assoc]
    congr 1
    have h0 : (n * 3) % 3 = 0 := by omega
    have h1 : (n * 3 + 1) % 3 = 1 := by omega
    have h2 : (n * 3 + 1 + 1) % 3 = 2 := by omega
    rw [h0, h1, h2]
    rfl
theorem cellsC_set (zs rest : List LV) (y : LV) (p : Bool) (a b : Value) :
    (((cellsC (zs ++ y :: rest)).set (zs.length * 3) (.bool p)).set (zs.length * 3 + 1) a).set (zs.length * 3 + 2) b = cellsC (zs ++ (p, a, b) :: rest) := by
  have hl := cellsC_len zs
  rw [cellsC_app, cellsC_app]
  rw [List.set_append_right _ _ (by omega), hl, Nat.sub_self, List.set_append_right _ _ (by omega), hl, Nat.add_sub_cancel_left, List.set_append_right _ _ (by omega), hl, Nat.add_sub_cancel_left]
  rfl

set_option maxRecDepth 100000 in
set_option maxHeartbeats 400000 in
theorem toLitS_c (l h : Nat) (v : Value) (c : List Lt) (w : World) (hx : sumC c ≤ 1048576) (hv : SlC l h w v c) :
    Calls Try.prog 38 #[v] w (RetC w c) := by
  obtain ⟨ad, cap, rfl⟩ := hv.form
  obtain ⟨hxl, hmax⟩ := shortC_of_sum hx
  obtain ⟨i0, hi, hz0, hz1, hz2⟩ := info_parts Try.info106
  go_enter Try.func38, Try.ntmps38
  go_wp2_with (at_make; refine wpList_make_full _ rfl _ _ 54 rfl w.heap.size 106 i0 (.agg #[.bool false, .slice none 0 0, .slice none 0 0]) 3 Try.underlying54 hi hz0 hz1 _ _ _ _ c.length rfl rfl rfl rfl (by rw [hz2]; omega) (by unfold maxLen; omega) (Nat.le_refl _) ?_; intro w1 hown hg)
  have hz3 : (madeCells (Value.agg #[.bool false, .slice none 0 0, .slice none 0 0]).cells (c.length * 3)).toList = cellsC ([] ++ List.replicate (c.length - 0) z0C) := by
    rw [show (Value.agg #[.bool false, .slice none 0 0, .slice none 0 0]).cells = #[.bool false, .slice none 0 0, .slice none 0 0] from rfl, made3]; simp
  rw [hz3] at hown
  have hb0 : Bel w w1 := (Bel.rfl' w).grown hg (by simp)
  have hs1 : w.heap.size + 1 ≤ w1.heap.size := by
    rcases hown.2 with ⟨e, _⟩ | ⟨g, c, cur, e, _, hh, _⟩
    · simp at e
    · simp at e; have := (Array.getElem?_eq_some_iff.1 hh).1; omega
  clear hg hz3
  go_loopw [4] (fun i wr => ∃ (k : Nat) (zs : List LV) (bs : Nat → Nat), k ≤ c.length ∧ i = .int .i64 k ∧ wr.ownsRow w.heap.size 106 3 (.slice (some ⟨w.heap.size, 0, none⟩) c.length c.length) c.length (cellsC (zs ++ List.replicate (c.length - k) z0C)) ∧
    zs.map (·.1) = (c.take k).map (·.1) ∧ Ins (w.heap.size + 1) wr.heap.size w.heap.size wr (rowsC zs) (flatC (c.take k)) bs ∧ w.heap.size + 1 ≤ wr.heap.size ∧ Bel w wr) (fun i _ => c.length - (intOf i).toNat)
  case atStart => exact ⟨0, [], _, Nat.zero_le _, rfl, hown, rfl, (Ins.none _ _ _ _), hs1, hb0⟩
  case round =>
    obtain ⟨k, zs, bs, hk, rfl, ho, hzp, hin, hs, hb⟩ := hrel
    have hzl : zs.length = k := by have := congrArg List.length hzp; simp at this; omega
    by_cases hlt : k < c.length
    · obtain ⟨b, off, u1, u2, rfl, hbs, c1, c2, c3, s1, s2⟩ := hv.at hb k hlt
      obtain ⟨hm1, hm2⟩ := hmax k hlt
      have HFT := Lib.hid (flatC_take' c k hlt)
      have HTK : Hid ((c.take (k+1)).map (·.1) = (c.take k).map (·.1) ++ [(c.getD k lt0).1]) := by show _ = _; rw [List.take_succ_eq_append_getElem hlt, List.map_append]; simp [List.getD, hlt]
      have hin1 : (k : Int) < c.length := by omega
      have hrep : List.replicate (c.length - k) z0C = z0C :: List.replicate (c.length - (k+1)) z0C := by rw [show c.length - k = (c.length - (k+1)) + 1 from by omega, List.replicate_succ]
      rw [hrep] at ho
      generalize c.getD k lt0 = x at *
      obtain ⟨p, xl, xr⟩ := x
      simp only at *
      obtain ⟨a1, d1, rfl⟩ := s1.form
      obtain ⟨a2, d2, rfl⟩ := s2.form
      have HG : Hid ((zs ++ z0C :: List.replicate (c.length - (k+1)) z0C)[k]? = some z0C) := by show _ = _; rw [List.getElem?_append_right (by omega), hzl, Nat.sub_self]; rfl
      have HC := Lib.hid (toLit_c l h p _ _ xl xr wr hm1 hm2 s1 s2)
      have HI := Lib.hid hin
      have HO := Lib.hid ho
      have HP := Lib.hid hzp
      clear hv s1 s2 hmax hown hin ho hzp
      go_wp2_with (go_at_call 91; refine HC.out.mono ?_; rintro e w' ⟨b1, m1, q1, b2, m2, q2, M, rfl, hM1, hM2, o1, o2, hb2⟩; have ho3 := ownsRow_bel HO.out hb2; obtain ⟨t0, t1, t2⟩ := cellsC_get _ k z0C (HG.out); have y0 := (ho3.cellAt (k * 3) (by omega)).trans t0; have y1 := (ho3.cellAt (k * 3 + 1) (by omega)).trans t1; have y2 := (ho3.cellAt (k * 3 + 2) (by omega)).trans t2; have x0 := ho3.frozenAt (k * 3); have x1 := ho3.frozenAt (k * 3 + 1); have x2 := ho3.frozenAt (k * 3 + 2))
      go_roundw
      case rel =>
        have hst := ((((ho3.stored (k * 3) (.bool p)).1).stored (k * 3 + 1) (.slice b1 m1 q1)).1.stored (k * 3 + 2) (.slice b2 m2 q2)).1
        have hst2 := cellsC_set zs (List.replicate (c.length - (k+1)) z0C) z0C p (.slice b1 m1 q1) (.slice b2 m2 q2)
        rw [hzl] at hst2
        rw [hst2] at hst
        obtain ⟨bs1, hin1⟩ := (HI.out.below hb2).snoc o1 (Nat.le_refl _) hs (.inl (by omega)) (hi2 := M) (Nat.le_refl _) hM1
        obtain ⟨bs2, hin2⟩ := hin1.snoc o2 (Nat.le_refl _) (by omega) (.inl (by omega)) (hi2 := w'.heap.size) (Nat.le_refl _) hM2
        rw [← HFT.out] at hin2
        have hin3 := hin2.same (w' := ((w'.setCell ⟨w.heap.size, k * 3, none⟩ (.bool p)).setCell ⟨w.heap.size, k * 3 + 1, none⟩ (.slice b1 m1 q1)).setCell ⟨w.heap.size, k * 3 + 2, none⟩ (.slice b2 m2 q2)) (fun b h1 h2 _ => by
          rw [Below.heap_setCell _ _ _ b (by simp; omega), Below.heap_setCell _ _ _ b (by simp; omega), Below.heap_setCell _ _ _ b (by simp; omega)])
        have hB := (((hb.step hb2).set (p := ⟨w.heap.size, k * 3, none⟩) (Nat.le_refl _) (.bool p)).set (p := ⟨w.heap.size, k * 3 + 1, none⟩) (Nat.le_refl _) (.slice b1 m1 q1)).set (p := ⟨w.heap.size, k * 3 + 2, none⟩) (Nat.le_refl _) (.slice b2 m2 q2)
        have hsz := hb2.size
        refine ⟨k+1, zs ++ [(p, .slice b1 m1 q1, .slice b2 m2 q2)], bs2, by omega, by go_num, by rw [List.append_assoc]; exact hst, by rw [List.map_append, HP.out, HTK.out]; rfl, ?_, by simp; omega, hB⟩
        rw [rowsC_app]
        simpa [rowsC] using hin3
      case measure => simp [intOf]; omega
    · rw [show c.length - k = 0 from by omega, List.replicate_zero, List.append_nil] at ho
      rw [List.take_of_length_le (by omega)] at hin hzp
      have HI := Lib.hid hin
      have HO := Lib.hid ho
      have HP := Lib.hid hzp
      clear hin ho hv hmax hown hzp
      go_wp2_with fail
      go_ret
      exact ⟨_, _, _, rfl, OwnC.of_row HO.out (Nat.le_refl _) HP.out (fun g hg => by simp [Value.ownBlock] at hg; subst hg; exact HI.out.mono (by omega) (Nat.le_refl _)), hb⟩
end Go.Proofs.Ytikllmdmifecpaa
end
section
/- The laws' helpers over slices of literals: comparisons, marks. -/
namespace Go.Proofs.Ytikllmdmifecpaa
open Go.RowKit

set_option maxRecDepth 100000 in
set_option maxHeartbeats 400000 in
theorem eqLitS_same (l h l' h' : Nat) (v u : Value) (c : List Lt) (w : World) (hx : sumC c ≤ 1048576) (hv : SlC l h w v c) (hu : SlC l' h' w u c) :
    Calls Try.prog 40 #[v, u] w (RetV w (.bool true)) := by
  obtain ⟨ad, cap, rfl⟩ := hv.form
  obtain ⟨ad', cap', rfl⟩ := hu.form
  obtain ⟨hxl, hmax⟩ := shortC_of_sum hx
  have hl' : ((c.length : Int) != c.length) = false := by simp
  go_enter Try.func40, Try.ntmps40
  go_wp2_with fail
  go_loopw [5] (fun i wr => ∃ k : Nat, k ≤ c.length ∧ i = .int .i64 k ∧ Bel w wr) (fun i _ => c.length - (intOf i).toNat)
  case atStart => exact ⟨0, Nat.zero_le _, rfl, Bel.rfl' _⟩
  case round =>
    obtain ⟨k, hk, rfl, hb⟩ := hrel
    by_cases hlt : k < c.length
    · obtain ⟨b, off, u1, u2, rfl, -, c1, c2, c3, s1, s2⟩ := hv.at hb k hlt
      obtain ⟨b', off', q1, q2, rfl, -, d1, d2, d3, t1, t2⟩ := hu.at hb k hlt
      obtain ⟨hm1, hm2⟩ := hmax k hlt
      have hin1 : (k : Int) < c.length := by omega
      clear hv hu hmax
      generalize c.getD k lt0 = x at *
      obtain ⟨p, xl, xr⟩ := x
      simp only at *
      have B1 := World.block_lt_of_cell? wr ⟨b, _, none⟩ c1
      have B2 := World.block_lt_of_cell? wr ⟨b', _, none⟩ d1
      have HC := Lib.hid (fun w' (h1 : Bel wr w') => eqLit_same _ _ _ _ p u1 u2 q1 q2 xl xr w' hm1 hm2 (s1.below h1) (s2.below h1) (t1.below h1) (t2.below h1))
      clear s1 s2 t1 t2
      go_wp2_with fail
      go_region_held3 (fun w' => Bel wr w' ∧ (w'.cell? ⟨b, off + k * 3, none⟩ = some (.bool p) ∧ w'.cell? ⟨b, off + k * 3 + 1, none⟩ = some u1 ∧ w'.cell? ⟨b, off + k * 3 + 2, none⟩ = some u2) ∧ (w'.cell? ⟨b', off' + k * 3, none⟩ = some (.bool p) ∧ w'.cell? ⟨b', off' + k * 3 + 1, none⟩ = some q1 ∧ w'.cell? ⟨b', off' + k * 3 + 2, none⟩ = some q2))
        (first | exact ⟨Bel.drew0 _, ⟨c1, c2, c3⟩, d1, d2, d3⟩ | exact ⟨hb2.of_drew, ⟨hb2.at B1 c1, hb2.at B1 c2, hb2.at B1 c3⟩, hb2.at B2 d1, hb2.at B2 d2, hb2.at B2 d3⟩ | fail)
        (first | (go_at_call 93; refine (HC.out _ (Bel.drew0 _)).mono ?_; rintro e w2 ⟨rfl, hb2⟩) | fail)
      go_wp2_with fail
      go_roundw
      case rel => exact ⟨k+1, by omega, by go_num, hb.step hb2.of_drew⟩
      case measure => simp [intOf]; omega
    · go_wp2_with fail
      go_ret
      exact ⟨rfl, hb⟩

theorem Ins.but {lo hi b w w' us xss bs} (h : Ins lo hi b w us xss bs) (hs : ∀ x, x ≠ b → lo ≤ x → x < hi → x < w.heap.size → w'.heap[x]? = w.heap[x]?) : Ins lo hi b w' us xss bs := by
  refine ⟨h.len, h.rng, h.inj, fun j u hj => ?_⟩
  have ho := h.own j u hj
  have hlt : j < xss.length := by rw [← h.len]; exact (List.getElem?_eq_some_iff.1 hj).1
  by_cases hp : 0 < (xss.getD j []).length
  · obtain ⟨a1, a2, a3⟩ := h.rng j hlt hp
    exact ho.same fun x h1 h2 h3 => hs x (by omega) (by omega) (by omega) h3
  · rw [len0 hp] at ho ⊢
    exact ho.empty
structure CRow (lo hi b off : Nat) (w : World) (zs : List LV) (c : List Lt) (bs : Nat → Nat) : Prop where
  hlo : lo ≤ b
  hhi : b < hi
  len : zs.length = c.length
  cell : ∀ j z, zs[j]? = some z → z.1 = (c.getD j lt0).1 ∧ w.cell? ⟨b, off + j * 3, none⟩ = some (.bool z.1) ∧ w.cell? ⟨b, off + j * 3 + 1, none⟩ = some z.2.1 ∧ w.cell? ⟨b, off + j * 3 + 2, none⟩ = some z.2.2
  free : ∀ i, w.frozen? ⟨b, i, none⟩ = false
  ins : Ins lo hi b w (rowsC zs) (flatC c) bs
theorem rowsC_set (zs : List LV) (j : Nat) (z : LV) (p : Bool) (h : zs[j]? = some z) : rowsC (zs.set j (p, z.2)) = rowsC zs := by
  induction zs generalizing j with
  | nil => simp
  | cons x r ih =>
    cases j with
    | zero => simp at h; subst h; rfl
    | succ j => simp only [List.set_cons_succ]; show _ :: _ :: rowsC _ = _ :: _ :: rowsC _; rw [ih j (by simpa using h)]
theorem flatC_set (c : List Lt) (j : Nat) (y : Lt) (h : j < c.length) : flatC (c.set j y) = ((flatC c).set (2 * j) y.2.1).set (2 * j + 1) y.2.2 := by
  induction c generalizing j with
  | nil => simp at h
  | cons x r ih =>
    cases j with
    | zero => rfl
    | succ j =>
      rw [List.set_cons_succ, flatC_cons, flatC_cons, ih j (by simpa using h), show 2 * (j + 1) = (2 * j) + 1 + 1 from by omega]
      simp
theorem CRow.sign {lo hi b off : Nat} {w : World} {zs : List LV} {c : List Lt} {bs : Nat → Nat} (h : CRow lo hi b off w zs c bs) (j : Nat) (z : LV) (hz : zs[j]? = some z) (p : Bool) :
    CRow lo hi b off (w.setCell ⟨b, off + j * 3, none⟩ (.bool p)) (zs.set j (p, z.2)) (c.set j (p, (c.getD j lt0).2)) bs := by
  have hj : j < zs.length := (List.getElem?_eq_some_iff.1 hz).1
  have hjc : j < c.length := by rw [← h.len]; exact hj
  have hflat : flatC (c.set j (p, (c.getD j lt0).2)) = flatC c := by
    rw [flatC_set c j _ hjc]
    have := flatC_get c j
    have hl := flatC_len c
    show ((flatC c).set (2 * j) (c.getD j lt0).2.1).set (2 * j + 1) (c.getD j lt0).2.2 = flatC c
    rw [← this.1, ← this.2]
    apply List.ext_getElem?
    intro i
    simp only [List.getElem?_set]
    split
    · rename_i e; subst e; simp [List.getD, show 2 * j + 1 < (flatC c).length by omega]
    · split
      · rename_i e; subst e; simp [List.getD, show 2 * j < (flatC c).length by omega]
      · rfl
  refine ⟨h.hlo, h.hhi, by simp [h.len], fun i y hy => ?_, fun i => by rw [World.frozen?_setCell]; exact h.free i, ?_⟩
  · rw [List.getElem?_set] at hy
    by_cases e : j = i
    · subst e
      rw [if_pos rfl, if_pos hj] at hy
      obtain rfl : (p, z.2) = y := by simpa using hy
      obtain ⟨_, c1, c2, c3⟩ := h.cell j z hz
      refine ⟨by simp [List.getD, hjc], World.cell?_setCell_same w _ _ c1, ?_, ?_⟩
      · rw [World.cell?_setCell_other (h := by intro h; simp at h <;> omega)]; exact c2
      · rw [World.cell?_setCell_other (h := by intro h; simp at h <;> omega)]; exact c3
    · rw [if_neg e] at hy
      obtain ⟨e1, c1, c2, c3⟩ := h.cell i y hy
      refine ⟨by rw [e1]; simp [List.getD, e], ?_, ?_, ?_⟩
      · rw [World.cell?_setCell_other (h := by intro h; simp at h <;> omega)]; exact c1
      · rw [World.cell?_setCell_other (h := by intro h; simp at h <;> omega)]; exact c2
      · rw [World.cell?_setCell_other (h := by intro h; simp at h <;> omega)]; exact c3
  · rw [rowsC_set zs j z p hz, hflat]
    exact h.ins.but fun x hx _ _ _ => Below.heap_setCell w _ _ x (by simpa using hx)
theorem CRow.terms {lo hi b off : Nat} {w w' : World} {zs : List LV} {c c' : List Lt} {bs : Nat → Nat} (h : CRow lo hi b off w zs c bs) (hb : w'.heap[b]? = w.heap[b]?) (hl : c'.length = c.length) (hp : ∀ j, (c'.getD j lt0).1 = (c.getD j lt0).1) (hi' : Ins lo hi b w' (rowsC zs) (flatC c') bs) :
    CRow lo hi b off w' zs c' bs :=
  ⟨h.hlo, h.hhi, by rw [h.len, hl], fun j z hz => by
    obtain ⟨e1, c1, c2, c3⟩ := h.cell j z hz
    exact ⟨by rw [hp]; exact e1, cell_same (fun _ => hb) c1, cell_same (fun _ => hb) c2, cell_same (fun _ => hb) c3⟩,
   fun i => by rw [World.frozen?_of_block (w := w) (a := ⟨b, i, none⟩) hb]; exact h.free i, hi'⟩
end Go.Proofs.Ytikllmdmifecpaa
end
section
/- A row of slices of ints, all of the call's own, grown by append. -/
namespace Go.Proofs.Ytikllmdmifecpaa
open Go.RowKit

def rowBlk (w : World) (v : Value) : Nat := v.ownBlock.getD w.heap.size
def RowO (base : Nat) (w : World) (v : Value) (xss : List (List Int)) : Prop :=
  ∃ (us : List Value) (bs : Nat → Nat), w.ownsRow base 22 1 v us.length us ∧ Ins base w.heap.size (rowBlk w v) w us xss bs
theorem RowO.nil (base : Nat) (w : World) : RowO base w (.slice none 0 0) [] := ⟨[], _, World.ownsRow_nil _ _ _ _, (Ins.none _ _ _ _).mono (Nat.le_refl _) (Nat.le_refl _)⟩
theorem Ins.blk {lo hi b b' w us xss bs} (h : Ins lo hi b w us xss bs) (hb : ∀ j, j < xss.length → 0 < (xss.getD j []).length → bs j ≠ b') : Ins lo hi b' w us xss bs :=
  ⟨h.len, fun j hj hp => ⟨(h.rng j hj hp).1, (h.rng j hj hp).2.1, hb j hj hp⟩, h.inj, h.own⟩
theorem RowO.form {base : Nat} {w : World} {v : Value} {xss : List (List Int)} (h : RowO base w v xss) : ∃ ad c, v = .slice ad xss.length c := by
  obtain ⟨us, bs, ho, hi⟩ := h
  obtain ⟨ad, n, c, rfl⟩ := own_form ho
  have := row_len ho
  exact ⟨ad, c, by rw [this, hi.len]⟩
theorem RowO.bel {base : Nat} {w w' : World} {v : Value} {xss : List (List Int)} (h : RowO base w v xss) (hb : Bel w w') : RowO base w' v xss := by
  obtain ⟨us, bs, ho, hi⟩ := h
  refine ⟨us, bs, ownsRow_bel ho hb, ((hi.below hb).mono (Nat.le_refl _) hb.size).blk fun j hj hp => ?_⟩
  have hr := hi.rng j hj hp
  unfold rowBlk at hr ⊢
  cases hv : v.ownBlock with
  | none => have := hb.size; simp only [Option.getD_none]; omega
  | some g => rw [hv] at hr; simp only [Option.getD_some] at hr ⊢; exact hr.2.2
theorem RowO.own {base : Nat} {w : World} {v : Value} {xss : List (List Int)} (h : RowO base w v xss) : OwnS base w.heap.size w v xss := by
  obtain ⟨us, bs, ho, hi⟩ := h
  refine OwnS.of_row (us := us) (bs := bs) (e := 22) (by rw [← hi.len]; exact ho) (Nat.le_refl _) (fun g hg => ?_)
  unfold rowBlk at hi
  rw [hg] at hi
  exact hi
theorem RowO.step {base : Nat} {w0 w1 w2 : World} {v u : Value} {xss : List (List Int)} {t : List Int} (h : RowO base w0 v xss) (h1 : Bel w0 w1) (h2 : Bel w1 w2) (ho : OwnI w0.heap.size w1.heap.size w1 u t) (hbase : base ≤ w0.heap.size) :
    ∃ us : List Value, w2.ownsRow base 22 1 v us.length us ∧ us.length = xss.length ∧ ∀ w3 v', w3.ownsRow base 22 1 v' (us.length + 1) (us ++ [u]) → w2.grownBy w3 v.ownBlock → (v'.ownBlock = v.ownBlock ∨ v'.ownBlock = some w2.heap.size) → RowO base w3 v' (xss ++ [t]) := by
  obtain ⟨us, bs, hw, hi⟩ := h
  have hlt := hw.lt
  have hz1 := h1.size
  have hz2 := h2.size
  refine ⟨us, ownsRow_bel hw (h1.step h2), hi.len, fun w3 v' hown hg hat => ?_⟩
  have hz3 := hg.size
  obtain ⟨b', hb'⟩ : ∃ b', v'.ownBlock = some b' := by
    rcases hown.2 with ⟨_, hn⟩ | ⟨g, cap, cur, rfl, _⟩
    · omega
    · exact ⟨g, by simp [Value.ownBlock]⟩
  have hrb : rowBlk w3 v' = b' := by unfold rowBlk; rw [hb']; rfl
  -- the elements, in the new world
  have hi2 := hi.below (h1.step h2)
  have hi3 : Ins base w0.heap.size (rowBlk w0 v) w3 us xss bs := by
    refine hi2.but fun x hx _ hxl hx2 => hg.block x hx2 fun e => hx ?_
    unfold rowBlk; rw [← e]; rfl
  have hbb : b' < w0.heap.size ∨ w2.heap.size ≤ b' := by
    rcases hat with e | e
    · rw [hb'] at e; exact .inl (hlt b' e.symm).2
    · rw [hb'] at e; simp at e; exact .inr (by omega)
  have hne : ∀ j, j < xss.length → 0 < (xss.getD j []).length → bs j ≠ b' := by
    intro j hj hp
    have hr := hi.rng j hj hp
    rcases hat with e | e
    · unfold rowBlk at hr; rw [← e, hb'] at hr; exact hr.2.2
    · rw [hb'] at e; simp at e; omega
  have ho3 : OwnI w0.heap.size w1.heap.size w3 u t := (ho.below h2).same fun x hx1 hx2 hx3 => hg.block x hx3 fun e => by have := (hlt x e.symm).2; omega
  obtain ⟨bs', hf⟩ := (hi3.blk hne).snoc ho3 (Nat.le_refl _) hbase (by omega) (hi2 := w3.heap.size) (by omega) (by omega)
  refine ⟨us ++ [u], bs', by simpa using hown, ?_⟩
  rw [hrb]
  exact hf
end Go.Proofs.Ytikllmdmifecpaa
end
section
/- Rows of slices whose elements lie in older memory: copies, deletion. -/
namespace Go.Proofs.Ytikllmdmifecpaa
open Go.RowKit

/-- A slice's three words. -/
abbrev SV := Option Addr × Nat × Nat
def encS (x : SV) : Value := .slice x.1 x.2.1 x.2.2
theorem encS_one (zs : List SV) : ∀ u ∈ zs.map encS, u.oneCell' = true := by
  intro u hu; obtain ⟨z, _, rfl⟩ := List.mem_map.1 hu; rfl
/-- The elements, read in the world W. -/
def Els (W : World) (zs : List SV) (xss : List (List Int)) : Prop := zs.length = xss.length ∧ ∀ j z, zs[j]? = some z → SlI 0 W.heap.size W (encS z) (xss.getD j [])
def RowV (W wr : World) (v : Value) (xss : List (List Int)) : Prop := ∃ zs : List SV, wr.ownsRow W.heap.size 22 1 v zs.length (zs.map encS) ∧ Els W zs xss
def RetRow (W : World) (xss : List (List Int)) (e : Ending) (w' : World) : Prop := ∃ ad n c, e = .returned (.slice ad n c) ∧ RowV W w' (.slice ad n c) xss ∧ Bel W w'
theorem Els.nil (W : World) : Els W [] [] := ⟨rfl, fun j z h => by simp at h⟩
theorem Els.at {W : World} {zs : List SV} {xss : List (List Int)} (h : Els W zs xss) {j : Nat} (hj : j < xss.length) : ∃ z, zs[j]? = some z ∧ SlI 0 W.heap.size W (encS z) (xss.getD j []) :=
  ⟨_, List.getElem?_eq_getElem (by rw [h.1]; exact hj), h.2 j _ (List.getElem?_eq_getElem (by rw [h.1]; exact hj))⟩
theorem Els.erase {W : World} {zs : List SV} {xss : List (List Int)} (h : Els W zs xss) (i : Nat) (_ : i < xss.length) : Els W (zs.eraseIdx i) (xss.eraseIdx i) := by
  refine ⟨by rw [List.length_eraseIdx, List.length_eraseIdx, h.1], fun j z hj => ?_⟩
  rw [List.getElem?_eraseIdx] at hj
  by_cases hlt : j < i
  · rw [if_pos hlt] at hj
    have := h.2 j z hj
    rwa [show (xss.eraseIdx i).getD j [] = xss.getD j [] from by simp [List.getD, List.getElem?_eraseIdx, hlt]]
  · rw [if_neg hlt] at hj
    have := h.2 (j+1) z hj
    rwa [show (xss.eraseIdx i).getD j [] = xss.getD (j+1) [] from by simp [List.getD, List.getElem?_eraseIdx, hlt]]
theorem Els.snoc {W : World} {zs : List SV} {xss : List (List Int)} (h : Els W zs xss) {z : SV} {t : List Int} (hz : SlI 0 W.heap.size W (encS z) t) : Els W (zs ++ [z]) (xss ++ [t]) := by
  refine ⟨by simp [h.1], fun j u hj => ?_⟩
  by_cases e : j < zs.length
  · rw [List.getElem?_append_left e] at hj
    have := h.2 j u hj
    rwa [show (xss ++ [t]).getD j [] = xss.getD j [] from by simp [List.getD, List.getElem?_append_left (show j < xss.length by rw [← h.1]; exact e)]]
  · have hlt := (List.getElem?_eq_some_iff.1 hj).1
    simp at hlt
    obtain rfl : j = zs.length := by omega
    rw [List.getElem?_append_right (Nat.le_refl _), Nat.sub_self] at hj
    simp at hj
    subst hj
    rwa [show (xss ++ [t]).getD zs.length [] = t from by rw [h.1]; simp [List.getD]]
theorem RowV.form {W wr : World} {v : Value} {xss : List (List Int)} (h : RowV W wr v xss) : ∃ ad c, v = .slice ad xss.length c := by
  obtain ⟨zs, ho, he⟩ := h
  obtain ⟨ad, n, c, rfl⟩ := own_form ho
  have := row_len ho
  rw [he.1] at this
  exact ⟨ad, c, by rw [this]⟩
theorem RowV.bel {W wr w2 : World} {v : Value} {xss : List (List Int)} (h : RowV W wr v xss) (hb : Bel wr w2) : RowV W w2 v xss := by
  obtain ⟨zs, ho, he⟩ := h
  exact ⟨zs, ownsRow_bel ho hb, he⟩
theorem RowV.sls {W wr : World} {v : Value} {xss : List (List Int)} (h : RowV W wr v xss) (hb : Bel W wr) : SlS 0 wr.heap.size wr v xss := by
  obtain ⟨zs, h1, h2, h3⟩ := h
  have h0 := h1
  rcases h1.2 with ⟨rfl, hn⟩ | ⟨g, cap, cur, rfl, hg, hh, hn, hc, hs, ht⟩
  · obtain rfl : xss = [] := List.length_eq_zero_iff.1 (by omega)
    exact SlS.nil _ _ _
  · have hgs : g < wr.heap.size := (Array.getElem?_eq_some_iff.1 hh).1
    refine ⟨_, cap, by rw [h2], by omega, ⟨hc, fun h => by simp at h⟩, fun hp => ⟨g, 0, rfl, Nat.zero_le _, hgs, fun j hj => ?_⟩⟩
    have hju : zs[j]? = some zs[j] := List.getElem?_eq_getElem (by omega)
    refine ⟨encS zs[j], by rw [Nat.zero_add, h0.cellAt j (by omega), List.getElem?_map, hju]; rfl, ?_⟩
    exact ((h3 j _ hju).below hb).mono (Nat.le_refl _) hb.size
/-- Reading the k-th. -/
theorem RowV.at {W wr : World} {ad : Option Addr} {n c : Nat} {xss : List (List Int)} (h : RowV W wr (.slice ad n c) xss) (k : Nat) (hk : k < xss.length) :
    ∃ g z, ad = some ⟨g, 0, none⟩ ∧ W.heap.size ≤ g ∧ wr.cell? ⟨g, k, none⟩ = some (encS z) ∧ SlI 0 W.heap.size W (encS z) (xss.getD k []) := by
  obtain ⟨zs, h1, h2⟩ := h
  have h0 := h1
  obtain ⟨z, hz, hs⟩ := h2.at hk
  rcases h1.2 with ⟨e, hn⟩ | ⟨g, cap, cur, e, hg, hh, _⟩
  · rw [h2.1] at hn; omega
  · simp only [Value.slice.injEq] at e
    obtain ⟨rfl, rfl, rfl⟩ := e
    exact ⟨g, z, rfl, hg, by rw [h0.cellAt k (by rw [h2.1]; omega), List.getElem?_map, hz]; rfl, hs⟩

theorem skolem_lt {α : Type} [Inhabited α] {n : Nat} {P : Nat → α → Prop} (H : ∀ j, j < n → ∃ z, P j z) : ∃ f : Nat → α, ∀ j, j < n → P j (f j) :=
  ⟨fun j => if h : j < n then Classical.choose (H j h) else default, fun j hj => by
    show P j (dite (j < n) (fun h => Classical.choose (H j h)) (fun _ => default))
    rw [dif_pos hj]; exact Classical.choose_spec (H j hj)⟩
/-- The three words of the elements of a slice of slices. -/
theorem SlS.vals {lo hi : Nat} {w : World} {ad : Option Addr} {n c : Nat} {xss : List (List Int)} (h : SlS lo hi w (.slice ad n c) xss) : ∃ zs : List SV, Els w zs xss ∧ ∀ a, ad = some a → ∀ j u, (zs.map encS)[j]? = some u → w.cell? (a.add j) = some u := by
  obtain ⟨ad', cap, e, hc, hm, hr⟩ := h
  simp only [Value.slice.injEq] at e
  obtain ⟨rfl, rfl, rfl⟩ := e
  by_cases hp : 0 < xss.length
  · obtain ⟨b, off, rfl, a1, a2, a3⟩ := hr hp
    have H : ∀ j, j < xss.length → ∃ z : SV, w.cell? ⟨b, off + j, none⟩ = some (encS z) ∧ SlI lo hi w (encS z) (xss.getD j []) := fun j hj => by
      obtain ⟨u, h1, h2⟩ := a3 j hj
      obtain ⟨x, y, rfl⟩ := h2.form
      exact ⟨(x, _, y), h1, h2⟩
    obtain ⟨f, hf⟩ := skolem_lt H
    refine ⟨(List.range xss.length).map f, ⟨by simp, fun j z hj => ?_⟩, fun a ha j u hj => ?_⟩
    · have hlt := (List.getElem?_eq_some_iff.1 hj).1
      simp at hlt
      rw [List.getElem?_map, List.getElem?_range hlt] at hj
      simp only [Option.map_some, Option.some.injEq] at hj
      subst hj
      exact (hf j hlt).2.in'
    · have hlt := (List.getElem?_eq_some_iff.1 hj).1
      simp at hlt
      rw [List.getElem?_map, List.getElem?_map, List.getElem?_range hlt] at hj
      simp only [Option.map_some, Option.some.injEq] at hj
      subst hj
      simp only [Option.some.injEq] at ha
      subst ha
      rw [addr_add]
      exact (hf j hlt).1
  · obtain rfl : xss = [] := List.length_eq_zero_iff.1 (by omega)
    exact ⟨[], Els.nil _, fun a _ j u hj => by simp at hj⟩

end Go.Proofs.Ytikllmdmifecpaa
end
section
/- append of one literal to a row of literals of the call's own: at a plain region, and at a step of a region that draws. -/
namespace Go.Proofs.Ytikllmdmifecpaa
open Go.RowKit

/-- A row of literals of the call's own. -/
abbrev RowC (lo : Nat) (w : World) (v : Value) (zs : List LV) : Prop := w.ownsRow lo 106 3 v zs.length (cellsC zs)
theorem RowC.nil (lo : Nat) (w : World) : RowC lo w (.slice none 0 0) [] := World.ownsRow_nil _ _ _ _
theorem news_lit (w : World) (x y z : Value) (t : TypeId) (g : Nat) (hg : g = w.heap.size) : ∀ j u, [x, y, z][j]? = some u → (w.alloc (.cells #[x, y, z] t)).cell? ((⟨g, 0, none⟩ : Addr).add j) = some u := by
  subst hg
  intro j u hj
  match j, hj with
  | 0, hj => simp at hj; subst hj; rw [show (⟨w.heap.size, 0, none⟩ : Addr).add 0 = ⟨w.heap.size, 0, none⟩ from rfl, World.cell?_alloc_new w]; rfl
  | 1, hj => simp at hj; subst hj; rw [addr_add, World.cell?_alloc_new w]; rfl
  | 2, hj => simp at hj; subst hj; rw [addr_add, World.cell?_alloc_new w]; rfl
theorem one_lit (p : Bool) (a b : Option Addr) (n m c d : Nat) : ∀ u ∈ [Value.bool p, Value.slice a n c, Value.slice b m d], u.oneCell' = true := by
  intro u hu; simp at hu; rcases hu with rfl | rfl | rfl <;> rfl

theorem step_append_lit {w : World} {ops : Array Oper} {o : Oper} {a : Act} {K : Act → World → Prop} {Q : Exit → Act → World → Prop} {E : Prop} (hgd : o.guard = none) (s x : Operand) (d : Nat) (hd : o.dst = some d)
    (ho : o.op = .call { callee := .builtin .append, args := #[s, x], argTypes := #[54, 54] })
    (base : Nat) (v : Value) (zs : List LV) (hs : a.eval s = v) (hown : RowC base w v zs) (g : Nat) (p : Bool) (z1 z2 : SV) (hx : a.eval x = .slice (some ⟨g, 0, none⟩) 1 1)
    (hnews : ∀ j u, [Value.bool p, encS z1, encS z2][j]? = some u → w.cell? ((⟨g, 0, none⟩ : Addr).add j) = some u)
    (hl : zs.length ≤ 1048576) (hbase : base ≤ w.heap.size)
    (h : ∀ ad n c w', RowC base w' (.slice ad n c) (zs ++ [(p, encS z1, encS z2)]) → w.grownBy w' v.ownBlock → K (a.put (some d) (.slice ad n c)) w') :
    if Region.wanted o (yielded ops a.tmps) = true then Oper.wp Try.prog o a w K Q else E := by
  obtain ⟨i0, hi0, hz0, hz1, hz2⟩ := info_parts Try.info106
  have hw : Region.wanted o (yielded ops a.tmps) = true := by simp [Region.wanted, hgd]
  rw [if_pos hw]
  rw [← hd] at h
  refine wp_append_own w s x 54 ho base 106 i0 (.agg #[.bool false, .slice none 0 0, .slice none 0 0]) 3 56 Try.underlying54 hi0 hz0 hz1 hz2 rfl (by decide) v zs.length (cellsC zs) hs hown
    ⟨g, 0, none⟩ 1 1 [.bool p, encS z1, encS z2] hx (by simp) hnews (one_lit _ _ _ _ _ _ _) (by unfold maxLen; omega) (by omega) hbase (fun v' w' h1 h2 _ => ?_)
  obtain ⟨ad, n, c, rfl⟩ := own_form h1
  refine h ad n c w' ?_ h2
  have e : cellsC (zs ++ [(p, encS z1, encS z2)]) = cellsC zs ++ [.bool p, encS z1, encS z2] := by rw [cellsC_app]; rfl
  show World.ownsRow _ _ _ _ _ _ _
  rw [e]
  simpa using h1
end Go.Proofs.Ytikllmdmifecpaa
end
section
/- A row of literals of the call's own, whose terms are the call's own too, grown by append. -/
namespace Go.Proofs.Ytikllmdmifecpaa
open Go.RowKit

/-- One more, in a block that none of the others has. -/
theorem Ins.snocG {lo hi b : Nat} {w : World} {us : List Value} {xss : List (List Int)} {bs : Nat → Nat} (h : Ins lo hi b w us xss bs) {l2 h2 : Nat} {u : Value} {xs : List Int} (ho : OwnI l2 h2 w u xs)
    (hne : ∀ j, j < xss.length → 0 < (xss.getD j []).length → bs j < l2 ∨ h2 ≤ bs j) (hlo : lo ≤ l2) (hbl : b < l2 ∨ h2 ≤ b) {hi2 : Nat} (h1 : h2 ≤ hi2) (h3 : hi ≤ hi2) :
    ∃ bs', Ins lo hi2 b w (us ++ [u]) (xss ++ [xs]) bs' ∧ (∀ j, j < xss.length → bs' j = bs j) ∧ (0 < xs.length → l2 ≤ bs' xss.length ∧ bs' xss.length < h2) := by
  obtain ⟨c, hc, hr⟩ := ho.block
  have hn := h.len
  refine ⟨fun j => if j = xss.length then c else bs j, ⟨by simp [hn], fun j hj hp => ?_, fun i j hij hj hpi hpj => ?_, fun j v hj => ?_⟩, fun j hj => by simp; omega, fun hp => by simpa using hr hp⟩
  · by_cases e : j = xss.length
    · subst e
      simp only [List.getD, List.getElem?_append_right (Nat.le_refl _), Nat.sub_self, List.getElem?_cons_zero, Option.getD_some] at hp
      have := hr hp
      simp only [if_true]
      omega
    · have hlt : j < xss.length := by simp at hj; omega
      simp only [List.getD, List.getElem?_append_left hlt] at hp
      have := h.rng j hlt hp
      simp only [e, if_false]
      omega
  · have hilt : i < xss.length := by simp at hj; omega
    simp only [List.getD, List.getElem?_append_left hilt] at hpi
    by_cases e : j = xss.length
    · subst e
      simp only [List.getD, List.getElem?_append_right (Nat.le_refl _), Nat.sub_self, List.getElem?_cons_zero, Option.getD_some] at hpj
      have h5 := hr hpj
      have h6 := hne i hilt hpi
      simp only [if_true]
      rw [if_neg (by omega)]
      omega
    · have hlt : j < xss.length := by simp at hj; omega
      simp only [List.getD, List.getElem?_append_left hlt] at hpj
      simp only [e, if_false]
      rw [if_neg (by omega)]
      exact h.inj i j hij hlt hpi hpj
  · by_cases e : j = xss.length
    · subst e
      rw [List.getElem?_append_right (by omega), hn, Nat.sub_self] at hj
      simp only [List.getElem?_cons_zero, Option.some.injEq] at hj
      subst hj
      simpa [List.getD] using hc
    · have hlt : j < us.length := by
        have := (List.getElem?_eq_some_iff.1 hj).1
        simp at this; omega
      rw [List.getElem?_append_left hlt] at hj
      have := h.own j v hj
      simp only [e, if_false]
      simpa [List.getD, List.getElem?_append_left (show j < xss.length by omega)] using this

def RowCO (base : Nat) (w : World) (v : Value) (c : List Lt) : Prop :=
  ∃ (zs : List LV) (bs : Nat → Nat), RowC base w v zs ∧ zs.map (·.1) = c.map (·.1) ∧ Ins base w.heap.size (rowBlk w v) w (rowsC zs) (flatC c) bs
theorem RowCO.nil (base : Nat) (w : World) : RowCO base w (.slice none 0 0) [] := ⟨[], _, RowC.nil _ _, rfl, (Ins.none _ _ _ _).mono (Nat.le_refl _) (Nat.le_refl _)⟩
theorem RowCO.len {base : Nat} {w : World} {v : Value} {c : List Lt} (h : RowCO base w v c) : ∃ zs : List LV, RowC base w v zs ∧ zs.length = c.length := by
  obtain ⟨zs, bs, h1, h2, _⟩ := h
  exact ⟨zs, h1, by simpa using congrArg List.length h2⟩
theorem RowCO.bel {base : Nat} {w w' : World} {v : Value} {c : List Lt} (h : RowCO base w v c) (hb : Bel w w') : RowCO base w' v c := by
  obtain ⟨zs, bs, ho, hp, hi⟩ := h
  refine ⟨zs, bs, ownsRow_bel ho hb, hp, ((hi.below hb).mono (Nat.le_refl _) hb.size).blk fun j hj hpos => ?_⟩
  have hr := hi.rng j hj hpos
  unfold rowBlk at hr ⊢
  cases hv : v.ownBlock with
  | none => have := hb.size; simp only [Option.getD_none]; omega
  | some g => rw [hv] at hr; simp only [Option.getD_some] at hr ⊢; exact hr.2.2
theorem RowCO.own {base : Nat} {w : World} {v : Value} {c : List Lt} (h : RowCO base w v c) : OwnC base w.heap.size w v c := by
  obtain ⟨zs, bs, ho, hp, hi⟩ := h
  have hzl : zs.length = c.length := by simpa using congrArg List.length hp
  refine OwnC.of_row (zs := zs) (bs := bs) (e := 106) (by rw [← hzl]; exact ho) (Nat.le_refl _) hp (fun g hg => ?_)
  unfold rowBlk at hi
  rw [hg] at hi
  exact hi
theorem RowCO.blk {base : Nat} {w : World} {v : Value} {c : List Lt} (h : RowCO base w v c) : ∀ g, v.ownBlock = some g → base ≤ g ∧ g < w.heap.size := by
  obtain ⟨zs, bs, ho, _⟩ := h
  exact ho.lt
theorem row_len3 {w : World} {base e n m c : Nat} {ad : Option Addr} {xs : List Value} (h : w.ownsRow base e 3 (.slice ad n c) m xs) : n = m := by
  rcases h.2 with ⟨e1, h2⟩ | ⟨g, cap, cur, e1, _⟩
  · simp only [Value.slice.injEq] at e1; omega
  · simp only [Value.slice.injEq] at e1; omega
theorem RowCO.form {base : Nat} {w : World} {v : Value} {c : List Lt} (h : RowCO base w v c) : ∃ ad k, v = .slice ad c.length k := h.own.sl.form
theorem RowCO.step {base l1 h1 l2 h2 : Nat} {w0 w1 w2 : World} {v u1 u2 : Value} {c : List Lt} {t1 t2 : List Int} (h : RowCO base w0 v c) (hb1 : Bel w0 w1) (hb2 : Bel w1 w2) (o1 : OwnI l1 h1 w1 u1 t1) (o2 : OwnI l2 h2 w1 u2 t2)
    (r1 : w0.heap.size ≤ l1) (r2 : w0.heap.size ≤ l2) (q1 : h1 ≤ w1.heap.size) (q2 : h2 ≤ w1.heap.size) (hd : h1 ≤ l2 ∨ h2 ≤ l1) (hbase : base ≤ w0.heap.size) (p : Bool) :
    ∃ zs : List LV, RowC base w2 v zs ∧ zs.length = c.length ∧ ∀ w3 v', RowC base w3 v' (zs ++ [(p, u1, u2)]) → w2.grownBy w3 v.ownBlock → (v'.ownBlock = v.ownBlock ∨ v'.ownBlock = some w2.heap.size) → RowCO base w3 v' (c ++ [(p, t1, t2)]) := by
  obtain ⟨zs, bs, hw, hp, hi⟩ := h
  have hlt := hw.lt
  have hz1 := hb1.size
  have hz2 := hb2.size
  have hzl : zs.length = c.length := by simpa using congrArg List.length hp
  refine ⟨zs, ownsRow_bel hw (hb1.step hb2), hzl, fun w3 v' hown hg hat => ?_⟩
  have hz3 := hg.size
  obtain ⟨b', hb'⟩ : ∃ b', v'.ownBlock = some b' := by
    rcases hown.2 with ⟨_, hn⟩ | ⟨g, cap, cur, rfl, _⟩
    · simp at hn
    · exact ⟨g, by simp [Value.ownBlock]⟩
  have hrb : rowBlk w3 v' = b' := by unfold rowBlk; rw [hb']; rfl
  have hi2 := hi.below (hb1.step hb2)
  have hi3 : Ins base w0.heap.size (rowBlk w0 v) w3 (rowsC zs) (flatC c) bs := by
    refine hi2.but fun x hx _ hxl hx2 => hg.block x hx2 fun e => hx ?_
    unfold rowBlk; rw [← e]; rfl
  have hbb : b' < w0.heap.size ∨ w2.heap.size ≤ b' := by
    rcases hat with e | e
    · rw [hb'] at e; exact .inl (hlt b' e.symm).2
    · rw [hb'] at e; simp at e; exact .inr (by omega)
  have hne : ∀ j, j < (flatC c).length → 0 < ((flatC c).getD j []).length → bs j ≠ b' := by
    intro j hj hpos
    have hr := hi.rng j hj hpos
    rcases hat with e | e
    · unfold rowBlk at hr; rw [← e, hb'] at hr; exact hr.2.2
    · rw [hb'] at e; simp at e; omega
  have ho1 : OwnI l1 h1 w3 u1 t1 := (o1.below hb2).same fun x hx1 hx2 hx3 => hg.block x hx3 fun e => by have := (hlt x e.symm).2; omega
  have ho2 : OwnI l2 h2 w3 u2 t2 := (o2.below hb2).same fun x hx1 hx2 hx3 => hg.block x hx3 fun e => by have := (hlt x e.symm).2; omega
  have hi4 := hi3.blk hne
  obtain ⟨bs1, hf1, hsame, hnew⟩ := hi4.snocG ho1 (fun j hj hpos => by have := hi4.rng j hj hpos; omega) (by omega) (by omega) (hi2 := w1.heap.size) (by omega) (by omega)
  obtain ⟨bs2, hf2, _, _⟩ := hf1.snocG ho2 (fun j hj hpos => by
    by_cases e : j = (flatC c).length
    · subst e
      have : 0 < t1.length := by simpa [List.getD] using hpos
      have := hnew this
      omega
    · have hjl : j < (flatC c).length := by simp at hj; omega
      have hp' : 0 < ((flatC c).getD j []).length := by simpa [List.getD, List.getElem?_append_left hjl] using hpos
      have := hi4.rng j hjl hp'
      rw [hsame j hjl]
      omega) (by omega) (by omega) (hi2 := w3.heap.size) (by omega) (by omega)
  refine ⟨zs ++ [(p, u1, u2)], bs2, hown, by rw [List.map_append, List.map_append, hp]; rfl, ?_⟩
  rw [hrb, rowsC_app, flatC_app]
  simpa [rowsC, flatC] using hf2

theorem step_append_litO {w : World} {ops : Array Oper} {o : Oper} {a : Act} {K : Act → World → Prop} {Q : Exit → Act → World → Prop} {E : Prop} (hgd : o.guard = none) (s x : Operand) (d : Nat) (hd : o.dst = some d)
    (ho : o.op = .call { callee := .builtin .append, args := #[s, x], argTypes := #[54, 54] })
    (base : Nat) (v : Value) (zs : List LV) (hs : a.eval s = v) (hown : RowC base w v zs) (g : Nat) (p : Bool) (z1 z2 : SV) (hx : a.eval x = .slice (some ⟨g, 0, none⟩) 1 1)
    (hnews : ∀ j u, [Value.bool p, encS z1, encS z2][j]? = some u → w.cell? ((⟨g, 0, none⟩ : Addr).add j) = some u)
    (hl : zs.length ≤ 1048576) (hbase : base ≤ w.heap.size)
    (h : ∀ b k w', RowC base w' (.slice (some ⟨b, 0, none⟩) (zs.length + 1) k) (zs ++ [(p, encS z1, encS z2)]) → w.grownBy w' v.ownBlock → ((Value.slice (some ⟨b, 0, none⟩) (zs.length + 1) k).ownBlock = v.ownBlock ∨ (Value.slice (some ⟨b, 0, none⟩) (zs.length + 1) k).ownBlock = some w.heap.size) → K (a.put (some d) (.slice (some ⟨b, 0, none⟩) (zs.length + 1) k)) w') :
    if Region.wanted o (yielded ops a.tmps) = true then Oper.wp Try.prog o a w K Q else E := by
  obtain ⟨i0, hi0, hz0, hz1, hz2⟩ := info_parts Try.info106
  rw [← hd] at h
  refine step_append_lies w hgd s x 54 ho base 106 i0 (.agg #[.bool false, .slice none 0 0, .slice none 0 0]) 3 56 Try.underlying54 hi0 hz0 hz1 hz2 rfl (by decide) v zs.length (cellsC zs) hs hown
    ⟨g, 0, none⟩ 1 1 [.bool p, encS z1, encS z2] hx (by simp) hnews (one_lit _ _ _ _ _ _ _) (by decide) (by unfold maxLen; omega) (by omega) hbase w.heap.size rfl (fun b k w' h1 h2 h3 _ => ?_)
  refine h b k w' ?_ h2 ?_
  · have e : cellsC (zs ++ [(p, encS z1, encS z2)]) = cellsC zs ++ [.bool p, encS z1, encS z2] := by rw [cellsC_app]; rfl
    show World.ownsRow _ _ _ _ _ _ _
    rw [e]
    simpa using h1
  · rcases h3 with h3 | h3
    · exact .inl (by rw [h3]; simp [Value.ownBlock])
    · exact .inr (by subst h3; simp [Value.ownBlock])
end Go.Proofs.Ytikllmdmifecpaa
end
section
/- A row of literals of the draws, whose terms may be shared. No program. -/
namespace Go.Proofs.Ytikllmdmifecpaa
open Go.RowKit

/-- A term of the draws, in a block that is not the row's. -/
def TD (B : Nat) (w : World) (o v : Value) (t : List Int) : Prop := (∃ g, B ≤ g ∧ g < w.heap.size ∧ o.ownBlock ≠ some g ∧ SlI g (g+1) w v t) ∧ t.length ≤ 400
theorem TD.of {B : Nat} {w0 w : World} {o v : Value} {t : List Int} (h : Rl.TF w0 w v t) (hB : B ≤ w0.heap.size) (ho : ∀ g, o.ownBlock = some g → g < w0.heap.size) : TD B w o v t := by
  obtain ⟨⟨c, h1, h2, h3⟩, h4⟩ := h
  exact ⟨⟨c, by omega, h2, fun e => by have := ho c e; omega, h3⟩, h4.2⟩
theorem TD.bel {B : Nat} {w w' : World} {o v : Value} {t : List Int} (h : TD B w o v t) (hb : Bel w w') : TD B w' o v t := by
  obtain ⟨⟨c, h1, h2, h3, h5⟩, h4⟩ := h
  exact ⟨⟨c, h1, Nat.lt_of_lt_of_le h2 hb.size, h3, h5.below hb⟩, h4⟩
theorem TD.chg {b B : Nat} {w w' : World} {o v : Value} {t : List Int} (h : TD B w o v t) (k : Chg b (b+1) w w') (hb : b < B) : TD B w' o v t := by
  obtain ⟨⟨c, h1, h2, h3, h5⟩, h4⟩ := h
  exact ⟨⟨c, h1, Nat.lt_of_lt_of_le h2 k.size, h3, h5.chg k (by omega)⟩, h4⟩
theorem TD.grown {B : Nat} {w w' : World} {o o' v : Value} {t : List Int} (h : TD B w o v t) (hg : w.grownBy w' o.ownBlock) (ho : o'.ownBlock = o.ownBlock ∨ o'.ownBlock = some w.heap.size) : TD B w' o' v t := by
  obtain ⟨⟨c, h1, h2, h3, h5⟩, h4⟩ := h
  refine ⟨⟨c, h1, Nat.lt_of_lt_of_le h2 hg.size, fun e => ?_, h5.same fun x hx1 hx2 hx3 => hg.block x hx3 fun e => ?_⟩, h4⟩
  · rcases ho with ho | ho
    · exact h3 (by rw [← ho]; exact e)
    · rw [ho] at e; simp at e; omega
  · exact h3 (by rw [← e]; congr 1; omega)
theorem TD.form {B : Nat} {w : World} {o v : Value} {t : List Int} (h : TD B w o v t) : ∃ a c, v = .slice a t.length c := by
  obtain ⟨⟨c, _, _, _, h3⟩, _⟩ := h
  exact h3.form

def RowD (B : Nat) (w : World) (o : Value) (c : List Lt) : Prop :=
  ∃ zs : List LV, RowC B w o zs ∧ zs.length = c.length ∧ ∀ j z, zs[j]? = some z → z.1 = (c.getD j lt0).1 ∧ TD B w o z.2.1 (c.getD j lt0).2.1 ∧ TD B w o z.2.2 (c.getD j lt0).2.2
theorem RowD.nil (B : Nat) (w : World) : RowD B w (.slice none 0 0) [] := ⟨[], RowC.nil _ _, rfl, fun j z h => by simp at h⟩
theorem RowD.form {B : Nat} {w : World} {o : Value} {c : List Lt} (h : RowD B w o c) : ∃ ad k, o = .slice ad c.length k := by
  obtain ⟨zs, ho, h1, h2⟩ := h
  obtain ⟨ad, n, k, rfl⟩ := own_form ho
  exact ⟨ad, k, by rw [row_len3 ho, h1]⟩
theorem RowD.bel {B : Nat} {w w' : World} {o : Value} {c : List Lt} (h : RowD B w o c) (hb : Bel w w') : RowD B w' o c := by
  obtain ⟨zs, ho, h1, h2⟩ := h
  exact ⟨zs, ownsRow_bel ho hb, h1, fun j z hz => ⟨(h2 j z hz).1, (h2 j z hz).2.1.bel hb, (h2 j z hz).2.2.bel hb⟩⟩
theorem row3_chg {w w' : World} {b base : Nat} {e : TypeId} {v : Value} {m : Nat} {xs : List Value} (h : w.ownsRow base e 3 v m xs) (hb : b < base) (k : Chg b (b+1) w w') : w'.ownsRow base e 3 v m xs := by
  refine ⟨h.1, ?_⟩
  rcases h.2 with h0 | ⟨g, cap, cur, e1, e2, hh, r⟩
  · exact .inl h0
  · exact .inr ⟨g, cap, cur, e1, e2, by rw [k.block g (Array.getElem?_eq_some_iff.1 hh).1 (by omega)]; exact hh, r⟩
theorem RowD.chg {b B : Nat} {w w' : World} {o : Value} {c : List Lt} (h : RowD B w o c) (k : Chg b (b+1) w w') (hb : b < B) : RowD B w' o c := by
  obtain ⟨zs, ho, h1, h2⟩ := h
  exact ⟨zs, row3_chg ho hb k, h1, fun j z hz => ⟨(h2 j z hz).1, (h2 j z hz).2.1.chg k hb, (h2 j z hz).2.2.chg k hb⟩⟩
theorem RowD.lt {B : Nat} {w : World} {o : Value} {c : List Lt} (h : RowD B w o c) : ∀ g, o.ownBlock = some g → B ≤ g ∧ g < w.heap.size := by
  obtain ⟨zs, ho, _⟩ := h
  exact ho.lt
/-- One literal more. -/
theorem RowD.snoc {B : Nat} {w w' : World} {o o' : Value} {c : List Lt} {zs : List LV} {z : LV} {x : Lt} (h1 : zs.length = c.length) (h2 : ∀ j z, zs[j]? = some z → z.1 = (c.getD j lt0).1 ∧ TD B w o z.2.1 (c.getD j lt0).2.1 ∧ TD B w o z.2.2 (c.getD j lt0).2.2)
    (hz : z.1 = x.1 ∧ TD B w o z.2.1 x.2.1 ∧ TD B w o z.2.2 x.2.2) (hn : RowC B w' o' (zs ++ [z])) (hg : w.grownBy w' o.ownBlock) (ho : o'.ownBlock = o.ownBlock ∨ o'.ownBlock = some w.heap.size) : RowD B w' o' (c ++ [x]) := by
  refine ⟨zs ++ [z], hn, by simp [h1], fun j y hj => ?_⟩
  by_cases e : j < zs.length
  · rw [List.getElem?_append_left e] at hj
    obtain ⟨a1, a2, a3⟩ := h2 j y hj
    have e2 : (c ++ [x]).getD j lt0 = c.getD j lt0 := by simp [List.getD, List.getElem?_append_left (show j < c.length by omega)]
    rw [e2]
    exact ⟨a1, a2.grown hg ho, a3.grown hg ho⟩
  · have hlt := (List.getElem?_eq_some_iff.1 hj).1
    simp at hlt
    obtain rfl : j = zs.length := by omega
    rw [List.getElem?_append_right (Nat.le_refl _), Nat.sub_self] at hj
    simp at hj
    subst hj
    have e2 : (c ++ [x]).getD zs.length lt0 = x := by rw [h1]; simp [List.getD]
    rw [e2]
    exact ⟨hz.1, hz.2.1.grown hg ho, hz.2.2.grown hg ho⟩
/-- As a slice of literals that may be read. -/
theorem RowD.slc {B : Nat} {w : World} {o : Value} {c : List Lt} (h : RowD B w o c) : SlC B w.heap.size w o c := by
  obtain ⟨zs, ho, h1, h2⟩ := h
  have h0 := ho
  rcases ho.2 with ⟨rfl, hn⟩ | ⟨g, cap, cur, rfl, hg, hh, hn, hc, hs, ht⟩
  · obtain rfl : c = [] := List.length_eq_zero_iff.1 (by omega)
    exact SlC.nil _ _ _
  · have hgs : g < w.heap.size := (Array.getElem?_eq_some_iff.1 hh).1
    refine ⟨_, cap, by rw [h1], by omega, ⟨hc, fun h => by simp at h⟩, fun hp => ⟨g, 0, rfl, hg, hgs, fun j hj => ?_⟩⟩
    have hz : zs[j]? = some zs[j] := List.getElem?_eq_getElem (by omega)
    obtain ⟨e1, ⟨⟨b1, p1, q1, _, s1⟩, _⟩, ⟨⟨b2, p2, q2, _, s2⟩, _⟩⟩ := h2 j _ hz
    obtain ⟨t0, t1, t2⟩ := cellsC_get zs j _ hz
    refine ⟨zs[j].2.1, zs[j].2.2, ?_, ?_, ?_, s1.mono p1 q1, s2.mono p2 q2⟩
    · rw [Nat.zero_add, h0.cellAt _ (by omega), t0, e1]
    · rw [Nat.zero_add, h0.cellAt _ (by omega), t1]
    · rw [Nat.zero_add, h0.cellAt _ (by omega), t2]
theorem RowD.short {B : Nat} {w : World} {o : Value} {c : List Lt} (h : RowD B w o c) : ∀ x ∈ c, x.2.1.length ≤ 400 ∧ x.2.2.length ≤ 400 := by
  obtain ⟨zs, ho, h1, h2⟩ := h
  intro x hx
  obtain ⟨j, hj, rfl⟩ := List.getElem_of_mem hx
  obtain ⟨_, ⟨_, a⟩, ⟨_, b⟩⟩ := h2 j zs[j] (List.getElem?_eq_getElem (by omega))
  rw [show c.getD j lt0 = c[j] from by simp [List.getD, hj]] at a b
  exact ⟨a, b⟩
theorem rows3_set (zs : List LV) (p : Bool) (u1 u2 v : Value) : (cellsC ((p, u1, u2) :: zs)).set 2 v = cellsC ((p, u1, v) :: zs) := rfl
/-- The first literal's left side becomes its right side too. -/
theorem RowD.first {B : Nat} {w : World} {g n k : Nat} {x : Lt} {c : List Lt} (h : RowD B w (.slice (some ⟨g, 0, none⟩) n k) (x :: c)) :
    ∃ u1 u2, w.cell? ⟨g, 0, none⟩ = some (.bool x.1) ∧ w.cell? ⟨g, 1, none⟩ = some u1 ∧ w.cell? ⟨g, 2, none⟩ = some u2 ∧ (∃ a m, u1 = .slice a x.2.1.length m) ∧ (∃ a m, u2 = .slice a x.2.2.length m) ∧ (∀ j, w.frozen? ⟨g, j, none⟩ = false) ∧
      RowD B (w.setCell ⟨g, 2, none⟩ u1) (.slice (some ⟨g, 0, none⟩) n k) ((x.1, x.2.1, x.2.1) :: c) := by
  obtain ⟨zs, ho, h1, h2⟩ := h
  obtain ⟨⟨p, u1, u2⟩, zs, rfl⟩ : ∃ z zs', zs = z :: zs' := by cases zs with | nil => simp at h1 | cons z zs => exact ⟨z, zs, rfl⟩
  obtain ⟨e1, t1, t2⟩ := h2 0 (p, u1, u2) rfl
  simp only [List.getD, List.getElem?_cons_zero, Option.getD_some] at e1 t1 t2
  obtain ⟨d0, d1, d2⟩ := cellsC_get ((p, u1, u2) :: zs) 0 _ rfl
  have hl3 : (0 : Nat) < ((p, u1, u2) :: zs).length := by simp
  have hn := row_len3 ho
  subst hn
  have k0 := ho.cellAt 0 (by simp only [List.length_cons]; omega)
  have k1 := ho.cellAt 1 (by simp only [List.length_cons]; omega)
  have k2 := ho.cellAt 2 (by simp only [List.length_cons]; omega)
  obtain ⟨a2, m2, f2⟩ := t2.form
  refine ⟨u1, u2, by rw [k0]; rw [← e1]; exact d0, by rw [k1]; exact d1, by rw [k2]; exact d2, t1.form, ⟨a2, m2, f2⟩, fun j => ho.frozenAt j, ?_⟩
  have hst := (ho.stored 2 u1).1
  rw [rows3_set] at hst
  have hs2 : w.cell? ⟨g, 2, none⟩ = some (.slice a2 x.2.2.length m2) := by rw [k2, ← f2]; exact d2
  have keep : ∀ v t, TD B w (.slice (some ⟨g, 0, none⟩) ((p, u1, u2) :: zs).length k) v t → TD B (w.setCell ⟨g, 2, none⟩ u1) (.slice (some ⟨g, 0, none⟩) ((p, u1, u2) :: zs).length k) v t := fun v t ht => by
    obtain ⟨⟨q, q1, q2, q3, q4⟩, q5⟩ := ht
    exact ⟨⟨q, q1, by rw [World.size_setCell]; exact q2, q3, Rl.slOther q4 hs2 (fun n => by simp) u1⟩, q5⟩
  refine ⟨(p, u1, u1) :: zs, hst, by simpa using h1, fun j z hz => ?_⟩
  cases j with
  | zero =>
    simp at hz; subst hz
    simp only [List.getD, List.getElem?_cons_zero, Option.getD_some]
    exact ⟨e1, keep _ _ t1, keep _ _ t1⟩
  | succ j =>
    obtain ⟨a1, a2, a3⟩ := h2 (j+1) z (by simpa using hz)
    simp only [List.getD, List.getElem?_cons_succ] at a1 a2 a3 ⊢
    exact ⟨a1, keep _ _ a2, keep _ _ a3⟩
end Go.Proofs.Ytikllmdmifecpaa
end
section
/- A clause of the draws: what is known between two of its steps. -/
namespace Go.Proofs.Ytikllmdmifecpaa
open Go.RowKit

theorem Rl.LF.mono {b n k d d' : Nat} {w0 w : World} (h : Rl.LF b n k d w0 w) (hd : d ≤ d') : Rl.LF b n k d' w0 w := by
  obtain ⟨k', h1, h2, h3⟩ := h
  exact ⟨k', h1, by omega, h3⟩
theorem Rl.LF.chg {b n k d : Nat} {w0 w : World} (h : Rl.LF b n k d w0 w) : Chg b (b+1) w0 w := by obtain ⟨_, _, _, _, h4⟩ := h; exact h4
/-- Between two steps: the row, the cursor, the signature's box. -/
structure CS (b n k d : Nat) (v : Value) (w w' : World) (o : Value) (c : List Lt) : Prop where
  row : RowD (w.heap.size + 1) w' o c
  cur : Rl.LF b n k d w w'
  box : w'.cell? ⟨w.heap.size, 0, none⟩ = some v
  big : w.heap.size + 1 ≤ w'.heap.size
  low : b < w.heap.size
theorem CS.start {b n k : Nat} {v : Value} {w : World} (hc : Cur b n k w) : CS b n k 0 v w (w.alloc (.cells #[v] 29)) (.slice none 0 0) [] :=
  ⟨RowD.nil _ _, ⟨k, Nat.le_refl _, by omega, hc.below (Bel.alloc0 _ _), Chg.of_bel (Bel.alloc0 _ _)⟩, by simp [go_sem], by simp, hc.lt⟩
theorem CS.mono {b n k d d' : Nat} {v : Value} {w w' : World} {o : Value} {c : List Lt} (h : CS b n k d v w w' o c) (hd : d ≤ d') : CS b n k d' v w w' o c := ⟨h.row, h.cur.mono hd, h.box, h.big, h.low⟩
/-- The cursor goes on. -/
theorem CS.step {b n k d d' : Nat} {v : Value} {w w1 w2 : World} {o : Value} {c : List Lt} (h : CS b n k d v w w1 o c) {k1 k2 : Nat} (a1 : k ≤ k1) (a2 : k1 ≤ k + d) (a3 : k1 ≤ k2) (a4 : k2 ≤ k1 + d') (hc : Cur b n k2 w2) (hg : Chg b (b+1) w1 w2) : CS b n k (d + d') v w w2 o c :=
  ⟨h.row.chg hg (by have := h.low; omega), ⟨k2, by omega, by omega, hc, h.cur.chg.trans hg⟩, hg.cell (by have := h.big; omega) (.inr (by have := h.low; omega)) h.box, Nat.le_trans h.big hg.size, h.low⟩
theorem CS.bel {b n k d : Nat} {v : Value} {w w1 w2 : World} {o : Value} {c : List Lt} (h : CS b n k d v w w1 o c) (hb : Bel w1 w2) : CS b n k d v w w2 o c := by
  refine ⟨h.row.bel hb, ?_, hb.at (by have := h.big; omega) h.box, Nat.le_trans h.big hb.size, h.low⟩
  obtain ⟨k', h1, h2, h3, h4⟩ := h.cur
  exact ⟨k', h1, h2, h3.below hb, h4.trans (Chg.of_bel hb)⟩
/-- One literal more: what the append asks for and what it gives. -/
theorem CS.append {b n k d : Nat} {v : Value} {w w1 : World} {o : Value} {c : List Lt} (h : CS b n k d v w w1 o c) (p : Bool) {v1 v2 : Value} {t1 t2 : List Int} (h1 : TD (w.heap.size + 1) w1 o v1 t1) (h2 : TD (w.heap.size + 1) w1 o v2 t2) (ob : Obj) :
    ∃ zs : List LV, RowC (w.heap.size + 1) (w1.alloc ob) o zs ∧ zs.length = c.length ∧ w.heap.size + 1 ≤ (w1.alloc ob).heap.size ∧
      ∀ w4 o', RowC (w.heap.size + 1) w4 o' (zs ++ [(p, v1, v2)]) → (w1.alloc ob).grownBy w4 o.ownBlock → (o'.ownBlock = o.ownBlock ∨ o'.ownBlock = some (w1.alloc ob).heap.size) → CS b n k d v w w4 o' (c ++ [(p, t1, t2)]) := by
  have hb := Bel.alloc0 w1 ob
  have hB := h.bel hb
  have hlt := hB.row.lt
  have hlow := h.low
  obtain ⟨zs, r1, r2, r3⟩ := hB.row
  refine ⟨zs, r1, r2, hB.big, fun w4 o' hn hg ho => ⟨?_, ?_, ?_, Nat.le_trans hB.big hg.size, h.low⟩⟩
  · exact RowD.snoc r2 r3 ⟨rfl, h1.bel hb, h2.bel hb⟩ hn hg ho
  · obtain ⟨k', a1, a2, a3, a4⟩ := hB.cur
    have hgg : Chg (w.heap.size + 1) (w4.heap.size + 1) (w1.alloc ob) w4 := ⟨hg.os, hg.tape, hg.output, hg.size, fun i hi hq => hg.block i hi (fun e => by have := hlt i e.symm; have := hg.size; omega)⟩
    exact ⟨k', a1, a2, a3.chg hgg (by omega), a4.news hgg (by omega)⟩
  · have hbg := hB.big
    exact (World.cell?_of_block (w := w1.alloc ob) (w' := w4) (a := ⟨w.heap.size, 0, none⟩) (hg.block w.heap.size (by omega) (fun e => by have := (hlt _ e.symm).1; omega))).trans hB.box
/-- A drawn literal's terms, beside the row. -/
theorem CS.lit {b n k d : Nat} {v : Value} {w w1 w2 : World} {o : Value} {c : List Lt} (h : CS b n k d v w w1 o c) {v1 : Value} {t1 : List Int} (h1 : Rl.TF w1 w2 v1 t1) : TD (w.heap.size + 1) w2 o v1 t1 :=
  TD.of h1 h.big (fun g e => (h.row.lt g e).2)
end Go.Proofs.Ytikllmdmifecpaa
end
section
/- A clause of the draws. -/
namespace Go.Proofs.Ytikllmdmifecpaa
open Go.RowKit

theorem row_lit {B : Nat} {w : World} {o' : Value} {zs : List LV} {p : Bool} {x y : Value} {n : Nat} (hn : n = zs.length) (h : w.ownsRow B 106 3 o' (n + 1) (cellsC zs ++ [.bool p, x, y])) : RowC B w o' (zs ++ [(p, x, y)]) := by
  subst hn
  have e : cellsC (zs ++ [(p, x, y)]) = cellsC zs ++ [.bool p, x, y] := by rw [cellsC_app]; rfl
  show World.ownsRow _ _ _ _ _ _ _
  rw [e]
  simpa using h
def lenV : Value → Nat
  | .slice _ n _ => n
  | _ => 0
/-- A clause of the draws, of new blocks. -/
def RetCl (b n k d : Nat) (w : World) (e : Ending) (w' : World) : Prop :=
  ∃ (o : Value) (c : List Lt), e = .returned o ∧ SlC (w.heap.size + 1) w'.heap.size w' o c ∧ c.length ≤ 9 ∧ (∀ x ∈ c, x.2.1.length ≤ 400 ∧ x.2.2.length ≤ 400) ∧ Rl.LF b n k d w w'

set_option maxRecDepth 100000 in
set_option maxHeartbeats 2000000 in
theorem clause_c (b n k lo hi : Nat) (v : Value) (ar : List Int) (w : World) (hn : n ≤ 1099511627776) (hk : k ≤ 100000000000) (hdr : drawn ar) (hblo : b < lo) (hc : Cur b n k w) (hv : SlI lo hi w v ar) :
    Calls Try.prog 116 #[.pointer (some ⟨b, 0, none⟩), .agg #[v]] w (RetCl b n k 200000 w) := by
  obtain ⟨i0, hi0, hz0, hz1, hz2⟩ := info_parts Try.info106
  have hbl := hc.lt
  have hB := Bel.alloc2 w (.cells #[v] 29) (.cells #[.int .i64 0, .int .i64 1, .int .i64 1, .int .i64 1, .int .i64 2, .int .i64 2, .int .i64 3] 3)
  have hc0 := hc.below hB
  have hS : SlI (w.heap.size + 1) (w.heap.size + 2) ((w.alloc (.cells #[v] 29)).alloc (.cells #[.int .i64 0, .int .i64 1, .int .i64 1, .int .i64 1, .int .i64 2, .int .i64 2, .int .i64 3] 3)) (.slice (some ⟨w.heap.size + 1, 0, none⟩) 7 7) [0, 1, 1, 1, 2, 2, 3] := SlI.arr (xs := [0, 1, 1, 1, 2, 2, 3]) rfl (by simp) (by simp) (Nat.le_refl _) (Nat.lt_succ_self _)
  have HA := Lib.hid (among_c b n k _ _ _ [0, 1, 1, 1, 2, 2, 3] _ hn (by omega) (by simp) (by simp) (by omega) hc0 hS)
  have hcs := (CS.start (b := b) (n := n) (k := k) (v := v) hc).bel (Bel.alloc0 _ (.cells #[.int .i64 0, .int .i64 1, .int .i64 1, .int .i64 1, .int .i64 2, .int .i64 2, .int .i64 3] 3))
  have HC0 := Lib.hid hcs
  clear hcs hS hc0 hc
  go_enter Try.func116, Try.ntmps116
  go_wp2_with fail
  refine HA.out.mono ?_; rintro e w1 ⟨z, k0, rfl, hz, g1, g2, g3, g4⟩
  have hz03 : 0 ≤ z ∧ z ≤ 3 := by simp at hz; omega
  clear hz HA
  have hcs1 := HC0.out.step (Nat.le_refl _) (Nat.le_refl _) g1 g2 g3 g4
  clear HC0 g3 g4
  obtain ⟨m0, rfl⟩ : ∃ m : Nat, z = (m : Int) := ⟨z.toNat, by omega⟩
  
  go_wp2_with fail
  go_loopw [5, 6] (fun o i wr => ∃ (j : Nat) (c : List Lt), i = .int .i64 j ∧ c.length + j ≤ 3 ∧ CS b n k (2 + 10000 * c.length) v w wr o c) (fun _ i _ => (intOf i).toNat)
  case atStart => exact ⟨m0, [], rfl, by simp; omega, hcs1.mono (by simp)⟩
  case round =>
    clear hcs1
    obtain ⟨j, c, rfl, hcj, hcs⟩ := hrel
    by_cases hj : 0 < j
    · have hd : decide ((0 : Int) < j) = true := by simpa using hj
      obtain ⟨k1, f1, f2, f3, f4⟩ := hcs.cur
      obtain ⟨ad, kk, rfl⟩ := hcs.row.form
      have hbxr := hcs.box
      have HL := Lib.hid (lit_c b n k1 lo hi v ar wr hn (by omega) hdr hblo f3 (hv.chg f4 (by omega)))
      have HCS := Lib.hid hcs
      clear hcs f3 f4 
      go_wp2_with fail
      refine HL.out.mono ?_; rintro e w2 ⟨p, v1, v2, t1, t2, rfl, T1, T2, k2, g1, g2, g3, g4⟩
      obtain ⟨a1, c1, rfl⟩ := Rl.TF.form T1
      obtain ⟨a2, c2, rfl⟩ := Rl.TF.form T2
      obtain ⟨zs, r1, r2, r3, hnext⟩ := (HCS.out.step f1 f2 g1 g2 g3 g4).append p (HCS.out.lit T1) (HCS.out.lit T2) (.cells #[.bool p, .slice a1 t1.length c1, .slice a2 t2.length c2] 106)
      have HN := Lib.hid hnext
      have HX := Lib.hid (And.intro T1 T2)
      clear hnext T1 T2 HL g3 g4 HCS
      have hzl : zs.length ≤ 20 := by omega
      go_wp2_with (at_builtin; refine wpList_append_own_at _ rfl _ _ 54 rfl (w.heap.size + 1) 106 i0 (.agg #[.bool false, .slice none 0 0, .slice none 0 0]) 3 56 Try.underlying54 hi0 hz0 hz1 hz2 rfl (by decide) _ _ _ rfl r1 _ _ _ [.bool p, .slice a1 t1.length c1, .slice a2 t2.length c2] rfl rfl (news_lit _ _ _ _ _ _ rfl) (one_lit _ _ _ _ _ _ _) (by unfold maxLen; omega) (by omega) r3 ?_; intro o' w4 hown' hgrow _ hat)
      have hcs4 := HN.out w4 o' (row_lit rfl hown') hgrow hat
      go_roundw
      case rel => exact ⟨j - 1, _, by simp; omega, by simp; omega, hcs4.mono (by simp; omega)⟩
      case measure => simp [intOf]; omega
    · have hd : decide ((0 : Int) < j) = false := by simp; omega
      clear hz03 hB
      have hc3 : c.length ≤ 3 := by omega
      obtain ⟨ad, kk, rfl⟩ := hcs.row.form
      go_upto_region 6 with fail
      go_cut [27] (fun s wx => ∃ q : Bool, s = .bool q ∧ (q = true → 0 < c.length) ∧ CS b n k 35000 v w wx (.slice ad c.length kk) c)
      case first =>
        by_cases hp : c.length = 0
        · have hd2 : decide ((0 : Int) < c.length) = false := decide_eq_false (by omega)
          go_wp2_with fail
          go_meet
          exact ⟨false, rfl, by simp, hcs.mono (by omega)⟩
        · have hd2 : decide ((0 : Int) < c.length) = true := decide_eq_true (by omega)
          obtain ⟨k1, f1, f2, f3, f4⟩ := hcs.cur
          have HO := Lib.hid (one_c b n k1 6 6 _ rfl hn (by omega) (by omega) f3)
          have HCS := Lib.hid hcs
          clear f3 f4
          go_wp2_with fail
          refine HO.out.mono ?_; rintro e w2 ⟨q, k2, rfl, g1, g2, g3, g4⟩
          have hcs2 := HCS.out.step f1 f2 g1 g2 g3 g4
          clear HO HCS g4
          go_wp2_with fail
          go_meet
          exact ⟨q, rfl, fun _ => by omega, hcs2.mono (by omega)⟩
      case rest =>
      obtain ⟨q, rfl, hq, hcs2⟩ := hcut
      clear hcs
      go_upto_if 27 with fail
      go_cut [5] (fun o wx => ∃ c2 : List Lt, c2.length ≤ 4 ∧ CS b n k 50000 v w wx o c2)
      case first =>
        cases q with
        | false =>
          go_wp2_with fail
          go_meet
          exact ⟨c, by omega, hcs2.mono (by omega)⟩
        | true =>
          have hpos := hq rfl
          obtain ⟨k2, f1, f2, f3, f4⟩ := hcs2.cur
          have HP := Lib.hid (pick_c b n k2 c.length c.length _ rfl hn (by omega) (by omega) f3)
          have HCS2 := Lib.hid hcs2
          clear f3 f4
          go_wp2_with fail
          refine HP.out.mono ?_; rintro e w3 ⟨x, k3, rfl, hx, g5, g6, g7, g8⟩
          have hx2 : x < c.length := by omega
          have hx3 : (x : Int) < c.length := by omega
          have hcs3 := HCS2.out.step f1 f2 g5 g6 g7 g8
          obtain ⟨zs0, r1, r2, r3⟩ := hcs3.row
          have hz0 : zs0[x]? = some (zs0[x]'(by omega)) := List.getElem?_eq_getElem (by omega)
          generalize zs0[x]'(by omega) = z0 at hz0
          obtain ⟨px, v1, v2⟩ := z0
          obtain ⟨e1, T1, T2⟩ := r3 x _ hz0
          obtain ⟨d0, d1, d2⟩ := cellsC_get zs0 x _ hz0
          obtain ⟨a1, m1, f5⟩ := T1.form
          obtain ⟨a2, m2, f6⟩ := T2.form
          simp only at e1 T1 T2 d0 d1 d2 f5 f6
          generalize hl1 : (c.getD x lt0).2.1 = l1 at *
          generalize hl2 : (c.getD x lt0).2.2 = l2 at *
          generalize hn1 : l1.length = n1 at *
          generalize hn2 : l2.length = n2 at *
          subst f5 f6
          obtain ⟨bb, rfl, q0, q1, q2⟩ : ∃ bb, ad = some ⟨bb, 0, none⟩ ∧ w3.cell? ⟨bb, x * 3, none⟩ = some (.bool px) ∧ w3.cell? ⟨bb, x * 3 + 1, none⟩ = some (.slice a1 n1 m1) ∧ w3.cell? ⟨bb, x * 3 + 2, none⟩ = some (.slice a2 n2 m2) := by
            rcases r1.2 with ⟨_, hn0⟩ | ⟨g, cap, cur, e2, _⟩
            · omega
            · simp only [Value.slice.injEq] at e2
              obtain ⟨rfl, -, rfl⟩ := e2
              refine ⟨g, rfl, ?_, ?_, ?_⟩
              · rw [r2.symm] at r1; rw [r1.cellAt _ (by omega)]; exact d0
              · rw [r2.symm] at r1; rw [r1.cellAt _ (by omega)]; exact d1
              · rw [r2.symm] at r1; rw [r1.cellAt _ (by omega)]; exact d2
          have BX := (Bel.alloc0 w3 (.cells #[.bool px, .slice a1 n1 m1, .slice a2 n2 m2] 106)).drew
          have hcsX := hcs3.bel BX
          have TX1 := T1.bel BX
          have TX2 := T2.bel BX
          have HFX := Lib.hid (fun (w' : World) (hg : Chg b (b+1) (w3.alloc (.cells #[.bool px, .slice a1 n1 m1, .slice a2 n2 m2] 106)).drew w') => (⟨hg.cell (by simp) (.inr (by have := hcs3.big; omega)) (boxc (Bel.drew0 _) 0 _ rfl), hg.cell (by simp) (.inr (by have := hcs3.big; omega)) (boxc (Bel.drew0 _) 1 _ rfl), hg.cell (by simp) (.inr (by have := hcs3.big; omega)) (boxc (Bel.drew0 _) 2 _ rfl)⟩ : (w'.cell? ⟨w3.heap.size, 0, none⟩ = some (.bool px) ∧ w'.cell? ⟨w3.heap.size, 1, none⟩ = some (.slice a1 n1 m1) ∧ w'.cell? ⟨w3.heap.size, 2, none⟩ = some (.slice a2 n2 m2))))
          have hX0 := HFX.out _ (Chg.refl _ _ _)
          obtain ⟨k4, f1', f2', f3', f4'⟩ := hcsX.cur
          have HO := Lib.hid (one_c b n k4 3 3 _ rfl hn (by omega) (by omega) f3')
          have HCX := Lib.hid (And.intro hcsX (And.intro TX1 TX2))
          have HNE : w3.heap.size ≠ bb := by have := (hcs3.row.lt bb rfl).2; omega
          have hb1 : b < w.heap.size + 1 := by omega
          clear e1
          have hc19 : c.length ≤ 19 := by omega
          clear hcsX TX1 TX2 f3' f4' T1 T2 hcs3 r1 r3 d0 d1 d2 hcs2 HCS2 HP hz0 g7 g8
          go_wp2_with fail
          go_region_held_law (fun w' => w'.cell? ⟨w3.heap.size, 0, none⟩ = some (.bool px) ∧ w'.cell? ⟨w3.heap.size, 1, none⟩ = some (.slice a1 n1 m1) ∧ w'.cell? ⟨w3.heap.size, 2, none⟩ = some (.slice a2 n2 m2))
            (first | exact hX7 | exact hX6 | exact hX5 | exact hX0 | fail)
            (first
              | (go_at_call 82; refine HO.out.mono ?_; rintro e w5 ⟨q2, k5, rfl, g5', g6', g7', g8'⟩; obtain ⟨zs, y1, y2, y3, hnx⟩ := (HCX.out.1.step f1' f2' g5' g6' g7' g8').append (px != q2) (HCX.out.2.2.chg g8' hb1) (HCX.out.2.1.chg g8' hb1) (.cells #[.bool (px != q2), .slice a2 n2 m2, .slice a1 n1 m1] 106); have HN := Lib.hid hnx; clear hnx; have hX5 := HFX.out _ g8'; have hX6 := (And.intro ((Bel.alloc0 w5 (.cells #[.bool (px != q2), .slice a2 n2 m2, .slice a1 n1 m1] 106)).at (World.block_lt_of_cell? _ ⟨_, _, none⟩ hX5.1) hX5.1) (And.intro ((Bel.alloc0 w5 (.cells #[.bool (px != q2), .slice a2 n2 m2, .slice a1 n1 m1] 106)).at (World.block_lt_of_cell? _ ⟨_, _, none⟩ hX5.1) hX5.2.1) ((Bel.alloc0 w5 (.cells #[.bool (px != q2), .slice a2 n2 m2, .slice a1 n1 m1] 106)).at (World.block_lt_of_cell? _ ⟨_, _, none⟩ hX5.1) hX5.2.2))))
              | (refine step_append_litO rfl (.tmp 35) (.tmp 46) 47 rfl rfl (w.heap.size + 1) _ zs rfl y1 w5.heap.size (px != q2) (a2, n2, m2) (a1, n1, m1) rfl (news_lit _ _ _ _ _ _ rfl) (by omega) y3 ?_; intro bo ko w6 R6 hg6 hat6; have hcs7 := HN.out w6 _ R6 hg6 hat6; have hX7 := And.intro (hg6.cell hX6.1 (fun e => HNE (Option.some.inj e))) (And.intro (hg6.cell hX6.2.1 (fun e => HNE (Option.some.inj e))) (hg6.cell hX6.2.2 (fun e => HNE (Option.some.inj e)))))
              | fail)
          all_goals
            go_wp2_with fail
            go_meet
            refine ⟨c ++ [(px != q2, l2, l1)], by simp; omega, ?_⟩
            rw [y2] at hcs7; exact hcs7.mono (by omega)
      case rest =>
      obtain ⟨c2, hc2, hcs4⟩ := hcut
      clear hcs2 hq hcj hj hd hc3
      obtain ⟨ad2, kk2, rfl⟩ := hcs4.row.form
      go_upto_region 9 with fail
      go_cut [54] (fun s wx => ∃ q : Bool, s = .bool q ∧ (q = true → 0 < c2.length) ∧ CS b n k 50010 v w wx (.slice ad2 c2.length kk2) c2)
      case first =>
        by_cases hp : c2.length = 0
        · have hd2 : decide ((0 : Int) < c2.length) = false := decide_eq_false (by omega)
          go_wp2_with fail
          go_meet
          exact ⟨false, rfl, by simp, hcs4.mono (by omega)⟩
        · have hd2 : decide ((0 : Int) < c2.length) = true := decide_eq_true (by omega)
          obtain ⟨k1, f1, f2, f3, f4⟩ := hcs4.cur
          have HO := Lib.hid (one_c b n k1 12 12 _ rfl hn (by omega) (by omega) f3)
          have HCS := Lib.hid hcs4
          clear f3 f4
          go_wp2_with fail
          refine HO.out.mono ?_; rintro e w2 ⟨q, k2, rfl, g1, g2, g3, g4⟩
          have hcs2 := HCS.out.step f1 f2 g1 g2 g3 g4
          clear HO HCS g4
          go_wp2_with fail
          go_meet
          exact ⟨q, rfl, fun _ => by omega, hcs2.mono (by omega)⟩
      case rest =>
      obtain ⟨q, rfl, hq, hcs5⟩ := hcut
      clear hcs4
      go_upto_if 54 with fail
      go_cut [] (fun wx => ∃ c3 : List Lt, c3.length = c2.length ∧ CS b n k 50010 v w wx (.slice ad2 c2.length kk2) c3)
      case first =>
        cases q with
        | false =>
          go_wp2_with fail
          go_meet
          exact ⟨c2, rfl, hcs5⟩
        | true =>
          have hpos := hq rfl
          clear hq
          cases c2 with
          | nil => simp at hpos
          | cons x c4 =>
            obtain ⟨bb, rfl⟩ : ∃ bb, ad2 = some ⟨bb, 0, none⟩ := by
              obtain ⟨zs0, r1, r2, r3⟩ := hcs5.row
              rcases r1.2 with ⟨_, hn0⟩ | ⟨g, cap, cur, e2, _⟩
              · simp at r2; omega
              · simp only [Value.slice.injEq] at e2
                exact ⟨g, e2.1⟩
            have hlt := hcs5.row.lt bb rfl
            obtain ⟨u1, u2, q0, q1, q2, ⟨a1, m1, rfl⟩, ⟨a2, m2, rfl⟩, hfz, hrow⟩ := hcs5.row.first
            have hlow := hcs5.low
            have hN : CS b n k 50010 v w _ _ _ := ⟨hrow, hcs5.cur.set (p := ⟨bb, 2, none⟩) (by show w.heap.size ≤ bb; omega) hlow _, by rw [World.cell?_setCell_other (h := by intro hh; simp at hh)]; exact hcs5.box, by rw [World.size_setCell]; exact hcs5.big, hlow⟩
            have HN := Lib.hid hN
            have hf2 := hfz 2
            have hp2 : (0 : Int) < (x :: c4).length := by omega
            clear hrow hN
            go_wp2_with fail
            go_meet
            exact ⟨(x.1, x.2.1, x.2.1) :: c4, by simp, HN.out⟩
      case rest =>
      obtain ⟨c3, hc3, hcs6⟩ := hcut
      have hc4 : c3.length ≤ 4 := by omega
      clear hcs5 hq
      obtain ⟨k1, f1, f2, f3, f4⟩ := hcs6.cur
      have HO := Lib.hid (pick_c b n k1 60 60 _ rfl hn (by omega) (by omega) f3)
      have HCS := Lib.hid hcs6
      clear f3 f4 hcs6
      go_wp2_with fail
      refine HO.out.mono ?_; rintro e w7 ⟨y, k2, rfl, hy, g1, g2, g3, g4⟩
      have hcs7 := HCS.out.step f1 f2 g1 g2 g3 g4
      clear HO HCS g3 g4 hy
      by_cases y0 : y = 0
      · subst y0
        go_wp2_with fail
        go_loopw [5] (fun o wr => ∃ c4 : List Lt, c4.length ≤ 9 ∧ CS b n k (60000 + 10000 * c4.length) v w wr o c4) (fun o _ => 9 - lenV o)
        case atStart => exact ⟨c3, by omega, hcs7.mono (by omega)⟩
        case round =>
          clear hcs7
          obtain ⟨c4, hc9, hcs8⟩ := hrel
          obtain ⟨ad4, kk4, rfl⟩ := hcs8.row.form
          obtain ⟨k3, f1, f2, f3, f4⟩ := hcs8.cur
          have HO := Lib.hid (pick_c b n k3 2 2 _ rfl hn (by omega) (by omega) f3)
          have HCS := Lib.hid hcs8
          clear f3 f4 hcs8
          go_wp2_with fail
          refine HO.out.mono ?_; rintro e w8 ⟨x2, k4, rfl, hx2, g1, g2, g3, g4⟩
          have hcs9 := HCS.out.step f1 f2 g1 g2 g3 g4
          clear HO HCS g3 g4
          have hw8 := IntWalk.i64_in (8 + (x2 : Int)) (by omega)
          by_cases hlt : c4.length < 8 + x2
          · have hd : decide ((c4.length : Int) < 8 + (x2 : Int)) = true := decide_eq_true (by omega)
            obtain ⟨k1, f1, f2, f3, f4⟩ := hcs9.cur
            skip
            have hbxr := hcs9.box
            have HL := Lib.hid (lit_c b n k1 lo hi v ar w8 hn (by omega) hdr hblo f3 (hv.chg f4 (by omega)))
            have HCS := Lib.hid hcs9
            clear hcs9 f3 f4 
            go_wp2_with fail
            refine HL.out.mono ?_; rintro e w2 ⟨p, v1, v2, t1, t2, rfl, T1, T2, k2, g1, g2, g3, g4⟩
            obtain ⟨a1, c1, rfl⟩ := Rl.TF.form T1
            obtain ⟨a2, c2, rfl⟩ := Rl.TF.form T2
            obtain ⟨zs, r1, r2, r3, hnext⟩ := (HCS.out.step f1 f2 g1 g2 g3 g4).append p (HCS.out.lit T1) (HCS.out.lit T2) (.cells #[.bool p, .slice a1 t1.length c1, .slice a2 t2.length c2] 106)
            have HN := Lib.hid hnext
            have HX := Lib.hid (And.intro T1 T2)
            clear hnext T1 T2 HL g3 g4 HCS
            have hzl : zs.length ≤ 20 := by omega
            go_wp2_with (at_builtin; refine wpList_append_own_at _ rfl _ _ 54 rfl (w.heap.size + 1) 106 i0 (.agg #[.bool false, .slice none 0 0, .slice none 0 0]) 3 56 Try.underlying54 hi0 hz0 hz1 hz2 rfl (by decide) _ _ _ rfl r1 _ _ _ [.bool p, .slice a1 t1.length c1, .slice a2 t2.length c2] rfl rfl (news_lit _ _ _ _ _ _ rfl) (one_lit _ _ _ _ _ _ _) (by unfold maxLen; omega) (by omega) r3 ?_; intro o' w4 hown' hgrow _ hat)
            have hcs4 := HN.out w4 o' (row_lit rfl hown') hgrow hat
            obtain ⟨ao, ko, eo⟩ := hcs4.row.form
            go_roundw
            case rel => exact ⟨_, by simp; omega, hcs4.mono (by simp; omega)⟩
            case measure => subst eo; simp [lenV]; omega
          · have hd : decide ((c4.length : Int) < 8 + (x2 : Int)) = false := decide_eq_false (by omega)
            go_wp2_with fail
            go_ret
            exact ⟨_, c4, rfl, hcs9.row.slc, hc9, hcs9.row.short, hcs9.cur.mono (by omega)⟩
      · by_cases y1 : y = 1
        · subst y1
          have hz7 := hcs7.big
          have BA := Bel.alloc0 w7 (.cells #[.int .i64 0] 3)
          have hcs8 := hcs7.bel BA
          have hltR := hcs7.row.lt
          have T0 : TD (w.heap.size + 1) (w7.alloc (.cells #[.int .i64 0] 3)) (.slice ad2 c2.length kk2) (.slice (some ⟨w7.heap.size, 0, none⟩) 1 1) [0] := ⟨⟨w7.heap.size, hz7, by simp, fun e => by have := (hltR _ e).2; omega, SlI.arr (xs := [0]) rfl rfl (by simp) (Nat.le_refl _) (Nat.lt_succ_self _)⟩, by simp⟩
          have T1 : TD (w.heap.size + 1) (w7.alloc (.cells #[.int .i64 0] 3)) (.slice ad2 c2.length kk2) (.slice none 0 0) [] := ⟨⟨w7.heap.size, hz7, by simp, fun e => by have := (hltR _ e).2; omega, SlI.nil _ _ _⟩, by simp⟩
          obtain ⟨zs, r1, r2, r3, hnext⟩ := hcs8.append false T0 T1 (.cells #[.bool false, .slice (some ⟨w7.heap.size, 0, none⟩) 1 1, .slice none 0 0] 106)
          have HN := Lib.hid hnext
          clear hnext T0 T1 hcs8 hcs7 hltR
          have hzl : zs.length ≤ 20 := by omega
          go_wp2_with (at_builtin; refine wpList_append_own_at _ rfl _ _ 54 rfl (w.heap.size + 1) 106 i0 (.agg #[.bool false, .slice none 0 0, .slice none 0 0]) 3 56 Try.underlying54 hi0 hz0 hz1 hz2 rfl (by decide) _ _ _ rfl r1 _ _ _ [.bool false, .slice (some ⟨w7.heap.size, 0, none⟩) 1 1, .slice none 0 0] rfl rfl (news_lit _ _ _ _ _ _ (by simp)) (one_lit _ _ _ _ _ _ _) (by unfold maxLen; omega) (by omega) r3 ?_; intro o' w4 hown' hgrow _ hat)
          have hcs9 := HN.out w4 o' (row_lit rfl hown') hgrow hat
          go_ret
          exact ⟨_, c3 ++ [(false, [0], [])], rfl, hcs9.row.slc, by simp; omega, hcs9.row.short, hcs9.cur.mono (by omega)⟩
        · have y0' : ¬ ((y : Int) = 0) := by omega
          have y1' : ¬ ((y : Int) = 1) := by omega
          go_wp2_with fail
          go_ret
          exact ⟨_, c3, rfl, hcs7.row.slc, by omega, hcs7.row.short, hcs7.cur.mono (by omega)⟩
end Go.Proofs.Ytikllmdmifecpaa
end
section
namespace Go.Proofs.Ytikllmdmifecpaa
open Go.RowKit
theorem conv1 (W : World) (m : Nat) (n : Int) (hm : m = W.heap.size) :
    (convert 39 9 (.slice (some ⟨m, 0, none⟩) 1 1)).run Try.prog (W.alloc (.cells #[.int .u8 n] 5)) = .ok (.string ⟨#[UInt8.ofNat n.toNat]⟩) (W.alloc (.cells #[.int .u8 n] 5)) := by
  subst hm
  rw [run_convert_bytes_string _ 39 9 5 _ _ _ Try.underlying39 Try.underlying5 Try.underlying9]
  rw [run_bytesToString _ _ 1 1 [n] ?_]
  · rfl
  · simp [loadCells, go_sem]
end Go.Proofs.Ytikllmdmifecpaa
end
section
/- TermText: both functions. -/
namespace Go.Proofs.Ytikllmdmifecpaa
open Go.RowKit

def letter (x : Int) : UInt8 := if x < 0 then (65 + (-1 - x)).toNat.toUInt8 else (97 + x).toNat.toUInt8
def bytesS (l : List UInt8) : Value := .string ⟨l.toArray⟩

theorem cut12 : ∀ k : Nat, k < 12 → (ByteArray.mk #[65, 66, 67, 68, 69, 70, 71, 72, 73, 74, 75, 76]).extract (-1 - (-1 - (k : Int))).toNat (-(-1 - (k : Int))).toNat = ⟨#[letter (-1 - (k : Int))]⟩ := by decide +kernel
theorem cut10 : ∀ k : Nat, k < 10 → (ByteArray.mk #[97, 98, 99, 100, 101, 102, 103, 104, 105, 106]).extract k (k + 1) = ⟨#[letter (k : Int)]⟩ := by decide +kernel

theorem letterOf_neg (k : Nat) (w : World) (h : k < 12) : Calls Try.prog 175 #[.int .i64 (-1 - (k : Int))] w (RetV w (bytesS [letter (-1 - (k : Int))])) := by
  have hneg : (-1 - (k : Int)) < 0 := by omega
  go_enter Try.func175, Try.ntmps175
  go_wp2_with fail
  go_ret
  refine ⟨?_, Bel.rfl' _⟩
  show Ending.returned (Value.string _) = _
  rw [cut12 k h]; rfl
theorem letterOf_pos (k : Nat) (w : World) (h : k < 10) : Calls Try.prog 175 #[.int .i64 k] w (RetV w (bytesS [letter k])) := by
  go_enter Try.func175, Try.ntmps175
  go_wp2_with fail
  go_ret
  refine ⟨?_, Bel.rfl' _⟩
  show Ending.returned (Value.string _) = _
  rw [cut10 k h]; rfl
theorem markBefore_0 (w : World) : Calls Try.prog 177 #[.int .i64 0] w (RetV w (bytesS [40])) := by
  go_enter Try.func177, Try.ntmps177
  go_wp2_with fail
  go_ret
  exact ⟨rfl, Bel.rfl' _⟩
theorem markBefore_n (k : Nat) (w : World) (h : k ≠ 0) : Calls Try.prog 177 #[.int .i64 k] w (RetV w (bytesS [44])) := by
  have h' : ((k : Int) == 0) = false := by simpa using h
  clear h
  go_enter Try.func177, Try.ntmps177
  go_wp2_with fail
  go_ret
  exact ⟨rfl, Bel.rfl' _⟩

def sepB (k : Nat) : UInt8 := if k = 0 then 40 else 44
def accT (g : Nat → List UInt8) (l : List Nat) : Nat → List UInt8
  | 0 => []
  | k + 1 => accT g l k ++ (sepB k :: g (l.getD k 0))
def textF (ar t : List Int) : Nat → Nat → List UInt8
  | 0, _ => []
  | f + 1, i => letter (t.getD i 0) :: (accT (textF ar t f) (argsOf ar t i) (argsOf ar t i).length ++ (if (argsOf ar t i).length = 0 then [] else [41]))
def textAt (ar t : List Int) (i : Nat) : List UInt8 := textF ar t (t.length - i) i

theorem accT_congr (g g' : Nat → List UInt8) (l : List Nat) (h : ∀ a ∈ l, g a = g' a) : ∀ k, k ≤ l.length → accT g l k = accT g' l k := by
  intro k
  induction k with
  | zero => intro _; rfl
  | succ k ih =>
    intro hk
    rw [accT, accT, ih (by omega), h (l.getD k 0) (by simp [List.getD, show k < l.length from by omega])]
theorem textF_fuel (ar t : List Int) (h : okTerm ar t = true) : ∀ (n i : Nat), i < t.length → t.length - i ≤ n → ∀ f, t.length - i ≤ f → textF ar t f i = textAt ar t i := by
  intro n
  induction n with
  | zero => intro i hi hn; omega
  | succ n ih =>
    intro i hi hn f hf
    obtain ⟨f, rfl⟩ : ∃ f', f = f' + 1 := ⟨f - 1, by omega⟩
    unfold textAt
    obtain ⟨g, hg⟩ : ∃ g, t.length - i = g + 1 := ⟨t.length - i - 1, by omega⟩
    rw [hg, textF, textF]
    congr 2
    refine accT_congr _ _ _ (fun a ha => ?_) _ (Nat.le_refl _)
    have hb := argsOf_bd ar t h i hi a ha
    rw [ih a hb.2 (by omega) f (by omega), ih a hb.2 (by omega) g (by omega)]
theorem textAt_eq (ar t : List Int) (h : okTerm ar t = true) (i : Nat) (hi : i < t.length) :
    textAt ar t i = letter (t.getD i 0) :: (accT (textAt ar t) (argsOf ar t i) (argsOf ar t i).length ++ (if (argsOf ar t i).length = 0 then [] else [41])) := by
  conv => lhs; unfold textAt
  obtain ⟨g, hg⟩ : ∃ g, t.length - i = g + 1 := ⟨t.length - i - 1, by omega⟩
  rw [hg, textF]
  congr 2
  refine accT_congr _ _ _ (fun a ha => ?_) _ (Nat.le_refl _)
  have hb := argsOf_bd ar t h i hi a ha
  exact textF_fuel ar t h t.length a hb.2 (by omega) g (by omega)

theorem accT_len (g : Nat → List UInt8) (l : List Nat) : ∀ k, k ≤ l.length → (accT g l k).length = ((l.take k).map fun a => (g a).length + 1).sum := by
  intro k
  induction k with
  | zero => intro _; rfl
  | succ k ih =>
    intro hk
    rw [accT, List.length_append, ih (by omega), List.take_succ_eq_append_getElem (by omega), List.map_append, List.sum_append]
    simp [List.getD, show k < l.length from by omega]
theorem sum_take_le (l : List Nat) (k : Nat) : (l.take k).sum ≤ l.sum := by
  conv => rhs; rw [← List.take_append_drop k l]
  rw [List.sum_append]; omega
theorem args_sum (ar t : List Int) (g : Nat → List UInt8) : ∀ (k p e : Nat), endGo ar (t.drop p) k p = some e → (∀ a ∈ argsGo ar t k p, ∀ q, endOf ar t a = some q → (g a).length + 1 ≤ 3 * (q - a)) → ((argsGo ar t k p).map fun a => (g a).length + 1).sum ≤ 3 * (e - p) := by
  intro k
  induction k with
  | zero => intro p e _ _; simp [argsGo]
  | succ k ih =>
    intro p e h hg
    obtain ⟨q, hq, hr, hpq, hqe⟩ := ends_step ar t p k e h
    rw [argsGo_succ hq] at hg ⊢
    have h1 := hg p (by simp) q hq
    have h2 := ih q e hr (fun a ha => hg a (by simp [ha]))
    simp only [List.map_cons, List.sum_cons]
    omega
theorem textAt_len (ar t : List Int) (h : okTerm ar t = true) : ∀ (n i : Nat), t.length - i ≤ n → i < t.length → ∀ q, endOf ar t i = some q → (textAt ar t i).length + 1 ≤ 3 * (q - i) := by
  intro n
  induction n with
  | zero => intro i hn hi; omega
  | succ n ih =>
    intro i hn hi q hq
    obtain ⟨e, h1, h2⟩ := good_args ar t h i hi
    have hs := good_sym ar t h i hi
    have he : e = q := by
      unfold endOf at hq
      rw [drop_cons t i hi, endGo_cons, if_pos hs, Nat.zero_add, h1] at hq
      simpa using hq
    subst he
    have hsum := args_sum ar t (textAt ar t) _ _ _ h1 (fun a ha q hq => ih a (by have := argsOf_bd ar t h i hi a ha; omega) (argsOf_bd ar t h i hi a ha).2 q hq)
    have hge := endGo_ge _ _ _ _ _ h1
    rw [textAt_eq ar t h i hi]
    simp only [List.length_cons, List.length_append]
    rw [accT_len _ _ _ (Nat.le_refl _), List.take_length]
    have e2 : argsOf ar t i = argsGo ar t (arOf ar (t.getD i 0)) (i + 1) := rfl
    rw [← e2] at hsum
    split <;> simp <;> omega
theorem textAt_le (ar t : List Int) (h : okTerm ar t = true) (i : Nat) (hi : i < t.length) : (textAt ar t i).length ≤ 120 := by
  obtain ⟨e, he, h1, h2⟩ := good_end ar t h i hi
  have := textAt_len ar t h t.length i (by omega) hi e he
  have := ((okTerm_iff ar t).1 h).2.1
  omega
theorem accT_le (g : Nat → List UInt8) (l : List Nat) (k n : Nat) (hk : k ≤ l.length) (h : (accT g l l.length).length ≤ n) : (accT g l k).length ≤ n := by
  rw [accT_len g l k hk]
  rw [accT_len g l _ (Nat.le_refl _), List.take_length] at h
  refine Nat.le_trans ?_ h
  rw [List.map_take]
  exact sum_take_le _ _
theorem acc_le (ar t : List Int) (h : okTerm ar t = true) (i : Nat) (hi : i < t.length) (k : Nat) (hk : k ≤ (argsOf ar t i).length) : (accT (textAt ar t) (argsOf ar t i) k).length ≤ 119 := by
  refine accT_le _ _ _ _ hk ?_
  have := textAt_le ar t h i hi
  rw [textAt_eq ar t h i hi] at this
  simp only [List.length_cons, List.length_append] at this
  omega

/-- A text. -/
def RetT (w : World) (l : List UInt8) (e : Ending) (w' : World) : Prop := ∃ A : ByteArray, e = .returned (.string A) ∧ A.data.toList = l ∧ Bel w w'
theorem ba_app (A B : ByteArray) : (A ++ B).data.toList = A.data.toList ++ B.data.toList := by rw [ByteArray.data_append, Array.toList_append]
theorem ba_size (A : ByteArray) : A.size = A.data.toList.length := by rw [Array.length_toList]; rfl
end Go.Proofs.Ytikllmdmifecpaa
end
