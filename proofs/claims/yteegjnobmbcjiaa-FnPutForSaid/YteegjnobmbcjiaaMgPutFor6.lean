/- Texts merged, part 6. -/
import Derived.Maps.AppendAt
import Derived.Shelf.SlicesE.Delete
import Derived.Lib.OwnBridge
import Derived.Deep.RegionWith
import Derived.Test.YteegjnobmbcjiaaMgPutFor5
section
/- The laws' helpers over literals, by contracts: copies, comparisons. -/
namespace Go.Proofs.Yteegjnobmbcjiaa
open Go.RowKit

/-- A literal of the call's own: its two terms in two ranges. -/
def RetL (w : World) (x : Lt) (e : Ending) (w' : World) : Prop :=
  ∃ a1 n1 c1 a2 n2 c2 m, e = .returned (.agg #[.bool x.1, .slice a1 n1 c1, .slice a2 n2 c2]) ∧ w.heap.size ≤ m ∧ m ≤ w'.heap.size ∧ OwnI w.heap.size m w' (.slice a1 n1 c1) x.2.1 ∧ OwnI m w'.heap.size w' (.slice a2 n2 c2) x.2.2 ∧ Bel w w'

set_option maxRecDepth 100000 in
set_option maxHeartbeats 400000 in
theorem eqLit_same (l h l' h' : Nat) (p : Bool) (u1 u2 q1 q2 : Value) (xl xr : List Int) (w : World) (hl : xl.length ≤ 1048576) (hr : xr.length ≤ 1048576) (a1 : SlI l h w u1 xl) (a2 : SlI l h w u2 xr) (b1 : SlI l' h' w q1 xl) (b2 : SlI l' h' w q2 xr) :
    Calls Try.prog 146 #[.agg #[.bool p, u1, u2], .agg #[.bool p, q1, q2]] w (RetV w (.bool true)) := by
  have HB : Bel w ((w.alloc (.cells #[.bool p, u1, u2] 91)).alloc (.cells #[.bool p, q1, q2] 91)) := Bel.alloc2 _ _ _
  have HC := Lib.hid (fun (w' : World) (hb : Bel w w') => eqIntS_same l h l' h' u1 q1 xl w' hl (a1.below hb) (b1.below hb))
  have HD := Lib.hid (fun (w' : World) (hb : Bel w w') => eqIntS_same l h l' h' u2 q2 xr w' hr (a2.below hb) (b2.below hb))
  clear a1 a2 b1 b2
  go_enter Try.func146, Try.ntmps146
  go_wp2_with fail
  refine (HC.out _ HB).mono ?_; rintro e w1 ⟨rfl, hb1⟩
  have ka := hb1.at (b := w.heap.size) (off := 2) (by simp; omega) (show World.cell? _ _ = some u2 by simp [go_sem])
  have kb := hb1.at (b := w.heap.size + 1) (off := 2) (by simp) (show World.cell? _ _ = some q2 by simp [go_sem])
  have HB1 := HB.step hb1
  go_wp2_with fail
  refine (HD.out _ HB1).mono ?_; rintro e w2 ⟨rfl, hb2⟩
  go_wp2_with fail
  go_ret
  exact ⟨rfl, HB1.step hb2⟩

set_option maxRecDepth 100000 in
set_option maxHeartbeats 400000 in
theorem toLit_c (l h : Nat) (p : Bool) (u1 u2 : Value) (xl xr : List Int) (w : World) (hl : xl.length ≤ 1048576) (hr : xr.length ≤ 1048576) (h1 : SlI l h w u1 xl) (h2 : SlI l h w u2 xr) :
    Calls Try.prog 145 #[.agg #[.bool p, u1, u2]] w (RetL w (p, xl, xr)) := by
  have HC := Lib.hid (fun (w' : World) (hb : Bel w w') => toIntS_c l h u1 xl w' hl (h1.below hb))
  have HD := Lib.hid (fun (w' : World) (hb : Bel w w') => toIntS_c l h u2 xr w' hr (h2.below hb))
  clear h1 h2
  go_enter Try.func145, Try.ntmps145
  go_wp2_with fail
  have HB : Bel w (((w.alloc (.cells #[.bool p, u1, u2] 155)).alloc (.cells #[.bool false, .slice none 0 0, .slice none 0 0] 91)).alloc (.cells #[.bool p, .slice none 0 0, .slice none 0 0] 91)) := Bel.alloc3 _ _ _ _
  refine (HC.out _ HB).mono ?_; rintro e w1 ⟨a1, n1, c1, rfl, o1, hb1⟩
  have hz1 := hb1.size
  simp only [World.size_alloc] at hz1 o1
  have e0 := hb1.at (b := w.heap.size) (off := 2) (by simp; omega) (show World.cell? _ _ = some u2 by simp [go_sem])
  have e1 := hb1.at (b := w.heap.size + 1) (off := 0) (by simp) (show World.cell? _ _ = some (.bool false) by simp [go_sem])
  have e2 := hb1.at (b := w.heap.size + 1) (off := 1) (by simp) (show World.cell? _ _ = some (.slice none 0 0) by simp [go_sem])
  have e3 := hb1.at (b := w.heap.size + 1) (off := 2) (by simp) (show World.cell? _ _ = some (.slice none 0 0) by simp [go_sem])
  have f0 := hb1.at (b := w.heap.size + 1 + 1) (off := 0) (by simp) (show World.cell? _ _ = some (.bool p) by simp [go_sem])
  have f1 := hb1.at (b := w.heap.size + 1 + 1) (off := 1) (by simp) (show World.cell? _ _ = some (.slice none 0 0) by simp [go_sem])
  have f2 := hb1.at (b := w.heap.size + 1 + 1) (off := 2) (by simp) (show World.cell? _ _ = some (.slice none 0 0) by simp [go_sem])
  have g1 : ∀ i, w1.frozen? ⟨w.heap.size + 1, i, none⟩ = false := fun i => (hb1.frozen (p := ⟨w.heap.size + 1, i, none⟩) (by simp)).trans (by simp [go_sem])
  have g2 : ∀ i, w1.frozen? ⟨w.heap.size + 1 + 1, i, none⟩ = false := fun i => (hb1.frozen (p := ⟨w.heap.size + 1 + 1, i, none⟩) (by simp)).trans (by simp [go_sem])
  have HB1 := HB.step hb1
  go_wp2_with fail
  have HS : Bel w (w1.setCell ⟨w.heap.size + 1 + 1, 1, none⟩ (.slice a1 n1 c1)) := HB1.set (by simp; omega) _
  refine (HD.out _ HS).mono ?_; rintro e w2 ⟨a2, n2, c2, rfl, o2, hb2⟩
  have hz2 := hb2.size
  simp only [World.size_setCell] at hz2 o2
  have far : ∀ {b o : Nat} {x : Value}, (b ≠ w.heap.size + 1 + 1 ∨ o ≠ 1) → w1.cell? ⟨b, o, none⟩ = some x → b < w1.heap.size → w2.cell? ⟨b, o, none⟩ = some x := fun hne hc hlt =>
    hb2.at (by simpa using hlt) (by rw [World.cell?_setCell_other (h := by intro h; simp at h; omega)]; exact hc)
  have e1' := far (.inl (by omega)) e1 (by omega)
  have e2' := far (.inl (by omega)) e2 (by omega)
  have e3' := far (.inl (by omega)) e3 (by omega)
  have f0' := far (.inr (by omega)) f0 (by omega)
  have f1' := hb2.at (b := w.heap.size + 1 + 1) (off := 1) (by simp; omega) (World.cell?_setCell_same w1 _ _ f1)
  have f2' := far (.inr (by omega)) f2 (by omega)
  have g1' : ∀ i, w2.frozen? ⟨w.heap.size + 1, i, none⟩ = false := fun i => (hb2.frozen (p := ⟨w.heap.size + 1, i, none⟩) (by simp; omega)).trans (by rw [World.frozen?_setCell]; exact g1 i)
  have g2' : ∀ i, w2.frozen? ⟨w.heap.size + 1 + 1, i, none⟩ = false := fun i => (hb2.frozen (p := ⟨w.heap.size + 1 + 1, i, none⟩) (by simp; omega)).trans (by rw [World.frozen?_setCell]; exact g2 i)
  have HB2 := HS.step hb2
  clear far
  go_wp2_with fail
  have o1' := ((((((o1.set (p := ⟨w.heap.size + 1 + 1, 1, none⟩) (.inl (by simp)) (.slice a1 n1 c1)).below hb2).set (p := ⟨w.heap.size + 1 + 1, 2, none⟩) (.inl (by simp)) (.slice a2 n2 c2)).set (p := ⟨w.heap.size + 1, 0, none⟩) (.inl (by simp)) (.bool p)).set (p := ⟨w.heap.size + 1, 1, none⟩) (.inl (by simp)) (.slice a1 n1 c1)).set (p := ⟨w.heap.size + 1, 2, none⟩) (.inl (by simp)) (.slice a2 n2 c2))
  have o2' := ((((o2.set (p := ⟨w.heap.size + 1 + 1, 2, none⟩) (.inl (by simp; omega)) (.slice a2 n2 c2)).set (p := ⟨w.heap.size + 1, 0, none⟩) (.inl (by simp; omega)) (.bool p)).set (p := ⟨w.heap.size + 1, 1, none⟩) (.inl (by simp; omega)) (.slice a1 n1 c1)).set (p := ⟨w.heap.size + 1, 2, none⟩) (.inl (by simp; omega)) (.slice a2 n2 c2))
  have HB3 := ((((HB2.set (p := ⟨w.heap.size + 1 + 1, 2, none⟩) (by simp; omega) (.slice a2 n2 c2)).set (p := ⟨w.heap.size + 1, 0, none⟩) (by simp) (.bool p)).set (p := ⟨w.heap.size + 1, 1, none⟩) (by simp) (.slice a1 n1 c1)).set (p := ⟨w.heap.size + 1, 2, none⟩) (by simp) (.slice a2 n2 c2))
  refine bodyPost_ret (v := .agg #[.bool p, .slice a1 n1 c1, .slice a2 n2 c2]) (by simp [results, Try.results145, go_sem, e1', e2', e3']) rfl ⟨_, _, _, _, _, _, w1.heap.size, rfl, by omega, by simp; omega, o1'.mono (by omega) (Nat.le_refl _), o2'.mono (Nat.le_refl _) (by simp), HB3⟩
end Go.Proofs.Yteegjnobmbcjiaa
end
section
/- The laws' helpers over slices of literals: copies. -/
namespace Go.Proofs.Yteegjnobmbcjiaa
open Go.RowKit

theorem Try.info91 : (Try.prog.info? 91).map (fun i => (i.zero, i.size, i.bytes)) = some (some (.agg #[.bool false, .slice none 0 0, .slice none 0 0]), 3, 56) := by kernel_rfl
theorem flatC_take' (c : List Lt) (k : Nat) (h : k < c.length) : flatC (c.take (k+1)) = flatC (c.take k) ++ [(c.getD k lt0).2.1] ++ [(c.getD k lt0).2.2] := by
  rw [List.take_succ_eq_append_getElem h, flatC_app]
  simp [flatC, List.getD, h]
def z0C : LV := (false, .slice none 0 0, .slice none 0 0)
theorem made3 (n : Nat) : (madeCells #[.bool false, .slice none 0 0, .slice none 0 0] (n * 3)).toList = cellsC (List.replicate n z0C) := by
  have e : ∀ m, (madeCells #[.bool false, .slice none 0 0, .slice none 0 0] m).toList = (List.range m).map (fun i => (#[Value.bool false, .slice none 0 0, .slice none 0 0] : Array Value)[i % 3]!) := by
    intro m; simp [madeCells, Array.toList_range]
  rw [e]
  induction n with
  | zero => rfl
  | succ n ih =>
    rw [List.replicate_succ', cellsC_app, ← ih, show (n + 1) * 3 = n * 3 + 1 + 1 + 1 from by omega, List.range_succ, List.range_succ, List.range_succ]
    simp only [List.map_append, List.map_cons, List.map_nil, List.append_assoc]
    congr 1
    have h0 : (n * 3) % 3 = 0 := by omega
    have h1 : (n * 3 + 1) % 3 = 1 := by omega
    have h2 : (n * 3 + 1 + 1) % 3 = 2 := by omega
    rw [h0, h1, h2]
    rfl
theorem cellsC_set (zs rest : List LV) (y : LV) (p : Bool) (a b : Value) :
    (((cellsC (zs ++ y :: rest)).set (zs.length * 3) (.bool p)).set (zs.length * 3 + 1) a).set (zs.length * 3 + 2) b = cellsC (zs ++ (p, a, b) :: rest) := by
  have hl := cellsC_len zs
  rw [cellsC_app, cellsC_app]
  rw [List.set_append_right _ _ (by omega), hl, Nat.sub_self, List.set_append_right _ _ (by omega), hl, Nat.add_sub_cancel_left, List.set_append_right _ _ (by omega), hl, Nat.add_sub_cancel_left]
  rfl

set_option maxRecDepth 100000 in
set_option maxHeartbeats 400000 in
theorem toLitS_c (l h : Nat) (v : Value) (c : List Lt) (w : World) (hx : sumC c ≤ 1048576) (hv : SlC l h w v c) :
    Calls Try.prog 106 #[v] w (RetC w c) := by
  obtain ⟨ad, cap, rfl⟩ := hv.form
  obtain ⟨hxl, hmax⟩ := shortC_of_sum hx
  obtain ⟨i0, hi, hz0, hz1, hz2⟩ := info_parts Try.info91
  go_enter Try.func106, Try.ntmps106
  go_wp2_with (at_make; refine wpList_make_full _ rfl _ _ 47 rfl w.heap.size 91 i0 (.agg #[.bool false, .slice none 0 0, .slice none 0 0]) 3 Try.underlying47 hi hz0 hz1 _ _ _ _ c.length rfl rfl rfl rfl (by rw [hz2]; omega) (by unfold maxLen; omega) (Nat.le_refl _) ?_; intro w1 hown hg)
  have hz3 : (madeCells (Value.agg #[.bool false, .slice none 0 0, .slice none 0 0]).cells (c.length * 3)).toList = cellsC ([] ++ List.replicate (c.length - 0) z0C) := by
    rw [show (Value.agg #[.bool false, .slice none 0 0, .slice none 0 0]).cells = #[.bool false, .slice none 0 0, .slice none 0 0] from rfl, made3]; simp
  rw [hz3] at hown
  have hb0 : Bel w w1 := (Bel.rfl' w).grown hg (by simp)
  have hs1 : w.heap.size + 1 ≤ w1.heap.size := by
    rcases hown.2 with ⟨e, _⟩ | ⟨g, c, cur, e, _, hh, _⟩
    · simp at e
    · simp at e; have := (Array.getElem?_eq_some_iff.1 hh).1; omega
  clear hg hz3
  go_loopw [4] (fun i wr => ∃ (k : Nat) (zs : List LV) (bs : Nat → Nat), k ≤ c.length ∧ i = .int .i64 k ∧ wr.ownsRow w.heap.size 91 3 (.slice (some ⟨w.heap.size, 0, none⟩) c.length c.length) c.length (cellsC (zs ++ List.replicate (c.length - k) z0C)) ∧
    zs.map (·.1) = (c.take k).map (·.1) ∧ Ins (w.heap.size + 1) wr.heap.size w.heap.size wr (rowsC zs) (flatC (c.take k)) bs ∧ w.heap.size + 1 ≤ wr.heap.size ∧ Bel w wr) (fun i _ => c.length - (intOf i).toNat)
  case atStart => exact ⟨0, [], _, Nat.zero_le _, rfl, hown, rfl, (Ins.none _ _ _ _), hs1, hb0⟩
  case round =>
    obtain ⟨k, zs, bs, hk, rfl, ho, hzp, hin, hs, hb⟩ := hrel
    have hzl : zs.length = k := by have := congrArg List.length hzp; simp at this; omega
    by_cases hlt : k < c.length
    · obtain ⟨b, off, u1, u2, rfl, hbs, c1, c2, c3, s1, s2⟩ := hv.at hb k hlt
      obtain ⟨hm1, hm2⟩ := hmax k hlt
      have HFT := Lib.hid (flatC_take' c k hlt)
      have HTK : Hid ((c.take (k+1)).map (·.1) = (c.take k).map (·.1) ++ [(c.getD k lt0).1]) := by show _ = _; rw [List.take_succ_eq_append_getElem hlt, List.map_append]; simp [List.getD, hlt]
      have hin1 : (k : Int) < c.length := by omega
      have hrep : List.replicate (c.length - k) z0C = z0C :: List.replicate (c.length - (k+1)) z0C := by rw [show c.length - k = (c.length - (k+1)) + 1 from by omega, List.replicate_succ]
      rw [hrep] at ho
      generalize c.getD k lt0 = x at *
      obtain ⟨p, xl, xr⟩ := x
      simp only at *
      obtain ⟨a1, d1, rfl⟩ := s1.form
      obtain ⟨a2, d2, rfl⟩ := s2.form
      have HG : Hid ((zs ++ z0C :: List.replicate (c.length - (k+1)) z0C)[k]? = some z0C) := by show _ = _; rw [List.getElem?_append_right (by omega), hzl, Nat.sub_self]; rfl
      have HC := Lib.hid (toLit_c l h p _ _ xl xr wr hm1 hm2 s1 s2)
      have HI := Lib.hid hin
      have HO := Lib.hid ho
      have HP := Lib.hid hzp
      clear hv s1 s2 hmax hown hin ho hzp
      go_wp2_with (go_at_call 145; refine HC.out.mono ?_; rintro e w' ⟨b1, m1, q1, b2, m2, q2, M, rfl, hM1, hM2, o1, o2, hb2⟩; have ho3 := ownsRow_bel HO.out hb2; obtain ⟨t0, t1, t2⟩ := cellsC_get _ k z0C (HG.out); have y0 := (ho3.cellAt (k * 3) (by omega)).trans t0; have y1 := (ho3.cellAt (k * 3 + 1) (by omega)).trans t1; have y2 := (ho3.cellAt (k * 3 + 2) (by omega)).trans t2; have x0 := ho3.frozenAt (k * 3); have x1 := ho3.frozenAt (k * 3 + 1); have x2 := ho3.frozenAt (k * 3 + 2))
      go_roundw
      case rel =>
        have hst := ((((ho3.stored (k * 3) (.bool p)).1).stored (k * 3 + 1) (.slice b1 m1 q1)).1.stored (k * 3 + 2) (.slice b2 m2 q2)).1
        have hst2 := cellsC_set zs (List.replicate (c.length - (k+1)) z0C) z0C p (.slice b1 m1 q1) (.slice b2 m2 q2)
        rw [hzl] at hst2
        rw [hst2] at hst
        obtain ⟨bs1, hin1⟩ := (HI.out.below hb2).snoc o1 (Nat.le_refl _) hs (.inl (by omega)) (hi2 := M) (Nat.le_refl _) hM1
        obtain ⟨bs2, hin2⟩ := hin1.snoc o2 (Nat.le_refl _) (by omega) (.inl (by omega)) (hi2 := w'.heap.size) (Nat.le_refl _) hM2
        rw [← HFT.out] at hin2
        have hin3 := hin2.same (w' := ((w'.setCell ⟨w.heap.size, k * 3, none⟩ (.bool p)).setCell ⟨w.heap.size, k * 3 + 1, none⟩ (.slice b1 m1 q1)).setCell ⟨w.heap.size, k * 3 + 2, none⟩ (.slice b2 m2 q2)) (fun b h1 h2 _ => by
          rw [Below.heap_setCell _ _ _ b (by simp; omega), Below.heap_setCell _ _ _ b (by simp; omega), Below.heap_setCell _ _ _ b (by simp; omega)])
        have hB := (((hb.step hb2).set (p := ⟨w.heap.size, k * 3, none⟩) (Nat.le_refl _) (.bool p)).set (p := ⟨w.heap.size, k * 3 + 1, none⟩) (Nat.le_refl _) (.slice b1 m1 q1)).set (p := ⟨w.heap.size, k * 3 + 2, none⟩) (Nat.le_refl _) (.slice b2 m2 q2)
        have hsz := hb2.size
        refine ⟨k+1, zs ++ [(p, .slice b1 m1 q1, .slice b2 m2 q2)], bs2, by omega, by go_num, by rw [List.append_assoc]; exact hst, by rw [List.map_append, HP.out, HTK.out]; rfl, ?_, by simp; omega, hB⟩
        rw [rowsC_app]
        simpa [rowsC] using hin3
      case measure => simp [intOf]; omega
    · rw [show c.length - k = 0 from by omega, List.replicate_zero, List.append_nil] at ho
      rw [List.take_of_length_le (by omega)] at hin hzp
      have HI := Lib.hid hin
      have HO := Lib.hid ho
      have HP := Lib.hid hzp
      clear hin ho hv hmax hown hzp
      go_wp2_with fail
      go_ret
      exact ⟨_, _, _, rfl, OwnC.of_row HO.out (Nat.le_refl _) HP.out (fun g hg => by simp [Value.ownBlock] at hg; subst hg; exact HI.out.mono (by omega) (Nat.le_refl _)), hb⟩
end Go.Proofs.Yteegjnobmbcjiaa
end
section
/- The laws' helpers over slices of literals: comparisons, marks. -/
namespace Go.Proofs.Yteegjnobmbcjiaa
open Go.RowKit

set_option maxRecDepth 100000 in
set_option maxHeartbeats 400000 in
theorem eqLitS_same (l h l' h' : Nat) (v u : Value) (c : List Lt) (w : World) (hx : sumC c ≤ 1048576) (hv : SlC l h w v c) (hu : SlC l' h' w u c) :
    Calls Try.prog 110 #[v, u] w (RetV w (.bool true)) := by
  obtain ⟨ad, cap, rfl⟩ := hv.form
  obtain ⟨ad', cap', rfl⟩ := hu.form
  obtain ⟨hxl, hmax⟩ := shortC_of_sum hx
  have hl' : ((c.length : Int) != c.length) = false := by simp
  go_enter Try.func110, Try.ntmps110
  go_wp2_with fail
  go_loopw [5] (fun i wr => ∃ k : Nat, k ≤ c.length ∧ i = .int .i64 k ∧ Bel w wr) (fun i _ => c.length - (intOf i).toNat)
  case atStart => exact ⟨0, Nat.zero_le _, rfl, Bel.rfl' _⟩
  case round =>
    obtain ⟨k, hk, rfl, hb⟩ := hrel
    by_cases hlt : k < c.length
    · obtain ⟨b, off, u1, u2, rfl, -, c1, c2, c3, s1, s2⟩ := hv.at hb k hlt
      obtain ⟨b', off', q1, q2, rfl, -, d1, d2, d3, t1, t2⟩ := hu.at hb k hlt
      obtain ⟨hm1, hm2⟩ := hmax k hlt
      have hin1 : (k : Int) < c.length := by omega
      clear hv hu hmax
      generalize c.getD k lt0 = x at *
      obtain ⟨p, xl, xr⟩ := x
      simp only at *
      have B1 := World.block_lt_of_cell? wr ⟨b, _, none⟩ c1
      have B2 := World.block_lt_of_cell? wr ⟨b', _, none⟩ d1
      have HC := Lib.hid (fun w' (h1 : Bel wr w') => eqLit_same _ _ _ _ p u1 u2 q1 q2 xl xr w' hm1 hm2 (s1.below h1) (s2.below h1) (t1.below h1) (t2.below h1))
      clear s1 s2 t1 t2
      go_wp2_with fail
      go_region_held3 (fun w' => Bel wr w' ∧ (w'.cell? ⟨b, off + k * 3, none⟩ = some (.bool p) ∧ w'.cell? ⟨b, off + k * 3 + 1, none⟩ = some u1 ∧ w'.cell? ⟨b, off + k * 3 + 2, none⟩ = some u2) ∧ (w'.cell? ⟨b', off' + k * 3, none⟩ = some (.bool p) ∧ w'.cell? ⟨b', off' + k * 3 + 1, none⟩ = some q1 ∧ w'.cell? ⟨b', off' + k * 3 + 2, none⟩ = some q2))
        (first | exact ⟨Bel.drew0 _, ⟨c1, c2, c3⟩, d1, d2, d3⟩ | exact ⟨hb2.of_drew, ⟨hb2.at B1 c1, hb2.at B1 c2, hb2.at B1 c3⟩, hb2.at B2 d1, hb2.at B2 d2, hb2.at B2 d3⟩ | fail)
        (first | (go_at_call 146; refine (HC.out _ (Bel.drew0 _)).mono ?_; rintro e w2 ⟨rfl, hb2⟩) | fail)
      go_wp2_with fail
      go_roundw
      case rel => exact ⟨k+1, by omega, by go_num, hb.step hb2.of_drew⟩
      case measure => simp [intOf]; omega
    · go_wp2_with fail
      go_ret
      exact ⟨rfl, hb⟩

theorem Ins.but {lo hi b w w' us xss bs} (h : Ins lo hi b w us xss bs) (hs : ∀ x, x ≠ b → lo ≤ x → x < hi → x < w.heap.size → w'.heap[x]? = w.heap[x]?) : Ins lo hi b w' us xss bs := by
  refine ⟨h.len, h.rng, h.inj, fun j u hj => ?_⟩
  have ho := h.own j u hj
  have hlt : j < xss.length := by rw [← h.len]; exact (List.getElem?_eq_some_iff.1 hj).1
  by_cases hp : 0 < (xss.getD j []).length
  · obtain ⟨a1, a2, a3⟩ := h.rng j hlt hp
    exact ho.same fun x h1 h2 h3 => hs x (by omega) (by omega) (by omega) h3
  · rw [len0 hp] at ho ⊢
    exact ho.empty
structure CRow (lo hi b off : Nat) (w : World) (zs : List LV) (c : List Lt) (bs : Nat → Nat) : Prop where
  hlo : lo ≤ b
  hhi : b < hi
  len : zs.length = c.length
  cell : ∀ j z, zs[j]? = some z → z.1 = (c.getD j lt0).1 ∧ w.cell? ⟨b, off + j * 3, none⟩ = some (.bool z.1) ∧ w.cell? ⟨b, off + j * 3 + 1, none⟩ = some z.2.1 ∧ w.cell? ⟨b, off + j * 3 + 2, none⟩ = some z.2.2
  free : ∀ i, w.frozen? ⟨b, i, none⟩ = false
  ins : Ins lo hi b w (rowsC zs) (flatC c) bs
theorem rowsC_set (zs : List LV) (j : Nat) (z : LV) (p : Bool) (h : zs[j]? = some z) : rowsC (zs.set j (p, z.2)) = rowsC zs := by
  induction zs generalizing j with
  | nil => simp
  | cons x r ih =>
    cases j with
    | zero => simp at h; subst h; rfl
    | succ j => simp only [List.set_cons_succ]; show _ :: _ :: rowsC _ = _ :: _ :: rowsC _; rw [ih j (by simpa using h)]
theorem flatC_set (c : List Lt) (j : Nat) (y : Lt) (h : j < c.length) : flatC (c.set j y) = ((flatC c).set (2 * j) y.2.1).set (2 * j + 1) y.2.2 := by
  induction c generalizing j with
  | nil => simp at h
  | cons x r ih =>
    cases j with
    | zero => rfl
    | succ j =>
      rw [List.set_cons_succ, flatC_cons, flatC_cons, ih j (by simpa using h), show 2 * (j + 1) = (2 * j) + 1 + 1 from by omega]
      simp
theorem CRow.sign {lo hi b off : Nat} {w : World} {zs : List LV} {c : List Lt} {bs : Nat → Nat} (h : CRow lo hi b off w zs c bs) (j : Nat) (z : LV) (hz : zs[j]? = some z) (p : Bool) :
    CRow lo hi b off (w.setCell ⟨b, off + j * 3, none⟩ (.bool p)) (zs.set j (p, z.2)) (c.set j (p, (c.getD j lt0).2)) bs := by
  have hj : j < zs.length := (List.getElem?_eq_some_iff.1 hz).1
  have hjc : j < c.length := by rw [← h.len]; exact hj
  have hflat : flatC (c.set j (p, (c.getD j lt0).2)) = flatC c := by
    rw [flatC_set c j _ hjc]
    have := flatC_get c j
    have hl := flatC_len c
    show ((flatC c).set (2 * j) (c.getD j lt0).2.1).set (2 * j + 1) (c.getD j lt0).2.2 = flatC c
    rw [← this.1, ← this.2]
    apply List.ext_getElem?
    intro i
    simp only [List.getElem?_set]
    split
    · rename_i e; subst e; simp [List.getD, show 2 * j + 1 < (flatC c).length by omega]
    · split
      · rename_i e; subst e; simp [List.getD, show 2 * j < (flatC c).length by omega]
      · rfl
  refine ⟨h.hlo, h.hhi, by simp [h.len], fun i y hy => ?_, fun i => by rw [World.frozen?_setCell]; exact h.free i, ?_⟩
  · rw [List.getElem?_set] at hy
    by_cases e : j = i
    · subst e
      rw [if_pos rfl, if_pos hj] at hy
      obtain rfl : (p, z.2) = y := by simpa using hy
      obtain ⟨_, c1, c2, c3⟩ := h.cell j z hz
      refine ⟨by simp [List.getD, hjc], World.cell?_setCell_same w _ _ c1, ?_, ?_⟩
      · rw [World.cell?_setCell_other (h := by intro h; simp at h <;> omega)]; exact c2
      · rw [World.cell?_setCell_other (h := by intro h; simp at h <;> omega)]; exact c3
    · rw [if_neg e] at hy
      obtain ⟨e1, c1, c2, c3⟩ := h.cell i y hy
      refine ⟨by rw [e1]; simp [List.getD, e], ?_, ?_, ?_⟩
      · rw [World.cell?_setCell_other (h := by intro h; simp at h <;> omega)]; exact c1
      · rw [World.cell?_setCell_other (h := by intro h; simp at h <;> omega)]; exact c2
      · rw [World.cell?_setCell_other (h := by intro h; simp at h <;> omega)]; exact c3
  · rw [rowsC_set zs j z p hz, hflat]
    exact h.ins.but fun x hx _ _ _ => Below.heap_setCell w _ _ x (by simpa using hx)
theorem CRow.terms {lo hi b off : Nat} {w w' : World} {zs : List LV} {c c' : List Lt} {bs : Nat → Nat} (h : CRow lo hi b off w zs c bs) (hb : w'.heap[b]? = w.heap[b]?) (hl : c'.length = c.length) (hp : ∀ j, (c'.getD j lt0).1 = (c.getD j lt0).1) (hi' : Ins lo hi b w' (rowsC zs) (flatC c') bs) :
    CRow lo hi b off w' zs c' bs :=
  ⟨h.hlo, h.hhi, by rw [h.len, hl], fun j z hz => by
    obtain ⟨e1, c1, c2, c3⟩ := h.cell j z hz
    exact ⟨by rw [hp]; exact e1, cell_same (fun _ => hb) c1, cell_same (fun _ => hb) c2, cell_same (fun _ => hb) c3⟩,
   fun i => by rw [World.frozen?_of_block (w := w) (a := ⟨b, i, none⟩) hb]; exact h.free i, hi'⟩
end Go.Proofs.Yteegjnobmbcjiaa
end
section
/- A row of slices of ints, all of the call's own, grown by append. -/
namespace Go.Proofs.Yteegjnobmbcjiaa
open Go.RowKit

def rowBlk (w : World) (v : Value) : Nat := v.ownBlock.getD w.heap.size
def RowO (base : Nat) (w : World) (v : Value) (xss : List (List Int)) : Prop :=
  ∃ (us : List Value) (bs : Nat → Nat), w.ownsRow base 22 1 v us.length us ∧ Ins base w.heap.size (rowBlk w v) w us xss bs
theorem RowO.nil (base : Nat) (w : World) : RowO base w (.slice none 0 0) [] := ⟨[], _, World.ownsRow_nil _ _ _ _, (Ins.none _ _ _ _).mono (Nat.le_refl _) (Nat.le_refl _)⟩
theorem Ins.blk {lo hi b b' w us xss bs} (h : Ins lo hi b w us xss bs) (hb : ∀ j, j < xss.length → 0 < (xss.getD j []).length → bs j ≠ b') : Ins lo hi b' w us xss bs :=
  ⟨h.len, fun j hj hp => ⟨(h.rng j hj hp).1, (h.rng j hj hp).2.1, hb j hj hp⟩, h.inj, h.own⟩
theorem RowO.form {base : Nat} {w : World} {v : Value} {xss : List (List Int)} (h : RowO base w v xss) : ∃ ad c, v = .slice ad xss.length c := by
  obtain ⟨us, bs, ho, hi⟩ := h
  obtain ⟨ad, n, c, rfl⟩ := own_form ho
  have := row_len ho
  exact ⟨ad, c, by rw [this, hi.len]⟩
theorem RowO.bel {base : Nat} {w w' : World} {v : Value} {xss : List (List Int)} (h : RowO base w v xss) (hb : Bel w w') : RowO base w' v xss := by
  obtain ⟨us, bs, ho, hi⟩ := h
  refine ⟨us, bs, ownsRow_bel ho hb, ((hi.below hb).mono (Nat.le_refl _) hb.size).blk fun j hj hp => ?_⟩
  have hr := hi.rng j hj hp
  unfold rowBlk at hr ⊢
  cases hv : v.ownBlock with
  | none => have := hb.size; simp only [Option.getD_none]; omega
  | some g => rw [hv] at hr; simp only [Option.getD_some] at hr ⊢; exact hr.2.2
theorem RowO.own {base : Nat} {w : World} {v : Value} {xss : List (List Int)} (h : RowO base w v xss) : OwnS base w.heap.size w v xss := by
  obtain ⟨us, bs, ho, hi⟩ := h
  refine OwnS.of_row (us := us) (bs := bs) (e := 22) (by rw [← hi.len]; exact ho) (Nat.le_refl _) (fun g hg => ?_)
  unfold rowBlk at hi
  rw [hg] at hi
  exact hi
theorem RowO.step {base : Nat} {w0 w1 w2 : World} {v u : Value} {xss : List (List Int)} {t : List Int} (h : RowO base w0 v xss) (h1 : Bel w0 w1) (h2 : Bel w1 w2) (ho : OwnI w0.heap.size w1.heap.size w1 u t) (hbase : base ≤ w0.heap.size) :
    ∃ us : List Value, w2.ownsRow base 22 1 v us.length us ∧ us.length = xss.length ∧ ∀ w3 v', w3.ownsRow base 22 1 v' (us.length + 1) (us ++ [u]) → w2.grownBy w3 v.ownBlock → (v'.ownBlock = v.ownBlock ∨ v'.ownBlock = some w2.heap.size) → RowO base w3 v' (xss ++ [t]) := by
  obtain ⟨us, bs, hw, hi⟩ := h
  have hlt := hw.lt
  have hz1 := h1.size
  have hz2 := h2.size
  refine ⟨us, ownsRow_bel hw (h1.step h2), hi.len, fun w3 v' hown hg hat => ?_⟩
  have hz3 := hg.size
  obtain ⟨b', hb'⟩ : ∃ b', v'.ownBlock = some b' := by
    rcases hown.2 with ⟨_, hn⟩ | ⟨g, cap, cur, rfl, _⟩
    · omega
    · exact ⟨g, by simp [Value.ownBlock]⟩
  have hrb : rowBlk w3 v' = b' := by unfold rowBlk; rw [hb']; rfl
  -- the elements, in the new world
  have hi2 := hi.below (h1.step h2)
  have hi3 : Ins base w0.heap.size (rowBlk w0 v) w3 us xss bs := by
    refine hi2.but fun x hx _ hxl hx2 => hg.block x hx2 fun e => hx ?_
    unfold rowBlk; rw [← e]; rfl
  have hbb : b' < w0.heap.size ∨ w2.heap.size ≤ b' := by
    rcases hat with e | e
    · rw [hb'] at e; exact .inl (hlt b' e.symm).2
    · rw [hb'] at e; simp at e; exact .inr (by omega)
  have hne : ∀ j, j < xss.length → 0 < (xss.getD j []).length → bs j ≠ b' := by
    intro j hj hp
    have hr := hi.rng j hj hp
    rcases hat with e | e
    · unfold rowBlk at hr; rw [← e, hb'] at hr; exact hr.2.2
    · rw [hb'] at e; simp at e; omega
  have ho3 : OwnI w0.heap.size w1.heap.size w3 u t := (ho.below h2).same fun x hx1 hx2 hx3 => hg.block x hx3 fun e => by have := (hlt x e.symm).2; omega
  obtain ⟨bs', hf⟩ := (hi3.blk hne).snoc ho3 (Nat.le_refl _) hbase (by omega) (hi2 := w3.heap.size) (by omega) (by omega)
  refine ⟨us ++ [u], bs', by simpa using hown, ?_⟩
  rw [hrb]
  exact hf
end Go.Proofs.Yteegjnobmbcjiaa
end
section
/- A number of bytes. -/
namespace Go.Proofs.Yteegjnobmbcjiaa
open Go.RowKit

def RetNum (w : World) (e : Ending) (w' : World) : Prop := ∃ x : Int, e = .returned (.int .i64 x) ∧ 0 ≤ x ∧ x < 1000003 ∧ Bel w w'
theorem numberOf_n (h n : Nat) (v : Value) (w : World) (hn : n ≤ 1048576) (hv : SlB h w v n) :
    Calls Try.prog 78 #[v] w (RetNum w) := by
  obtain ⟨ad, cap, rfl, -, hr⟩ := hv
  go_enter Try.func78, Try.ntmps78
  go_wp2_with fail
  go_loop [3, 8] (fun m i => ∃ (k : Nat) (x : Int), k ≤ n ∧ i = .int .i64 k ∧ m = .int .i64 x ∧ 0 ≤ x ∧ x < 1000003) (fun _ i => n - (intOf i).toNat)
  case atStart => exact ⟨0, 0, Nat.zero_le _, rfl, rfl, by omega, by omega⟩
  case round =>
    obtain ⟨k, x, hk, rfl, rfl, hx0, hx1⟩ := hrel
    by_cases hlt : k < n
    · obtain ⟨b, off, rfl, hb, hc⟩ := hr (by omega)
      have hcell := hc k hlt
      clear hr hc
      obtain ⟨y, hy, hcell⟩ := hcell
      have hw1 := IntWalk.i64_in (31 * x) (by omega)
      have hw2 := IntWalk.i64_in (y : Int) (by omega)
      have hw3 := IntWalk.i64_in (31 * x + (y : Int)) (by omega)
      have hy2 : (y : Int) < 256 := by omega
      go_wp2_with fail
      exact ⟨⟨k + 1, _, by omega, by go_num, rfl, by omega, by omega⟩, by simp [intOf]; omega⟩
    · go_wp2_with fail
      go_ret
      exact ⟨x, rfl, hx0, hx1, Bel.rfl' _⟩
end Go.Proofs.Yteegjnobmbcjiaa
end
section
/- Chapter 5: worlds, how many there are, the n-th. No program. -/
namespace Go.Proofs.Yteegjnobmbcjiaa
open Go.RowKit

theorem mem_gd {α : Type} (l : List α) (d : α) (j : Nat) (h : j < l.length) : l.getD j d ∈ l := by
  rw [List.getD_eq_getElem?_getD, List.getElem?_eq_getElem h]; exact List.getElem_mem h
theorem gd_eq {α : Type} (l : List α) (d : α) (j : Nat) (h : j < l.length) : l.getD j d = l[j] := by simp [List.getD, h]
/-- How many lists of arguments. -/
def longW (sz a : Int) : Nat := sz.toNat ^ a.toNat
def okTab (sz a : Int) (t : List Int) : Bool := decide (t.length = longW sz a) && t.all (fun x => inB x 0 (sz - 1))
def okTabs (ar : List Int) (sz : Int) (tb : List (List Int)) (n : Nat) : Bool := (List.range n).all fun k => okTab sz (ar.getD k 0) (tb.getD k [])
def isWorld (ar : List Int) (sz : Int) (tb : List (List Int)) : Bool := inB sz 1 3 && (decide (tb.length = ar.length) && okTabs ar sz tb tb.length)
def goodWorld (ar : List Int) (sz : Int) (tb : List (List Int)) : Bool := goodSign ar && isWorld ar sz tb
def okEnv (sz : Int) (env : List Int) : Bool := decide (env.length = 12) && env.all (fun x => inB x 0 (sz - 1))
theorem okTabs_zero (ar : List Int) (sz : Int) (tb : List (List Int)) : okTabs ar sz tb 0 = true := rfl
theorem okTabs_succ (ar : List Int) (sz : Int) (tb : List (List Int)) (k : Nat) : okTabs ar sz tb (k+1) = (okTabs ar sz tb k && okTab sz (ar.getD k 0) (tb.getD k [])) := by
  unfold okTabs
  rw [List.range_succ, List.all_append]
  simp
theorem okTabs_false {ar : List Int} {sz : Int} {tb : List (List Int)} {k n : Nat} (h : okTab sz (ar.getD k 0) (tb.getD k []) = false) (hk : k < n) : okTabs ar sz tb n = false := by
  unfold okTabs
  rw [List.all_eq_false]
  exact ⟨k, List.mem_range.2 hk, by rw [h]; simp⟩
theorem longW_le {sz a : Int} (h1 : sz ≤ 3) (h2 : a ≤ 3) : longW sz a ≤ 27 := by
  unfold longW
  calc sz.toNat ^ a.toNat ≤ 3 ^ a.toNat := Nat.pow_le_pow_left (by omega) _
    _ ≤ 3 ^ 3 := Nat.pow_le_pow_right (by omega) (by omega)
theorem longW_pos {sz a : Int} (h1 : 1 ≤ sz) : 1 ≤ longW sz a := Nat.one_le_iff_ne_zero.2 (Nat.pos_iff_ne_zero.1 (Nat.pow_pos (by omega)))
theorem isWorld_iff {ar : List Int} {sz : Int} {tb : List (List Int)} : isWorld ar sz tb = true ↔ 1 ≤ sz ∧ sz ≤ 3 ∧ tb.length = ar.length ∧ ∀ k, k < tb.length → (tb.getD k []).length = longW sz (ar.getD k 0) ∧ ∀ j, j < (tb.getD k []).length → 0 ≤ (tb.getD k []).getD j 0 ∧ (tb.getD k []).getD j 0 ≤ sz - 1 := by
  unfold isWorld okTabs okTab inB
  simp only [Bool.and_eq_true, decide_eq_true_eq, List.all_eq_true, List.mem_range]
  constructor
  · rintro ⟨⟨h1, h2⟩, h3, h4⟩
    refine ⟨h1, h2, h3, fun k hk => ⟨(h4 k hk).1, fun j hj => ?_⟩⟩
    exact (h4 k hk).2 _ (mem_gd _ 0 j hj)
  · rintro ⟨h1, h2, h3, h4⟩
    refine ⟨⟨h1, h2⟩, h3, fun k hk => ⟨(h4 k hk).1, fun x hx => ?_⟩⟩
    obtain ⟨j, hj, rfl⟩ := List.getElem_of_mem hx
    have := (h4 k hk).2 j hj
    rwa [gd_eq _ _ j hj] at this
theorem goodWorld_iff {ar : List Int} {sz : Int} {tb : List (List Int)} : goodWorld ar sz tb = true ↔ goodSign ar = true ∧ isWorld ar sz tb = true := by
  unfold goodWorld; rw [Bool.and_eq_true]
theorem okEnv_iff {sz : Int} {env : List Int} : okEnv sz env = true ↔ env.length = 12 ∧ ∀ j, j < 12 → 0 ≤ env.getD j 0 ∧ env.getD j 0 ≤ sz - 1 := by
  unfold okEnv inB
  simp only [Bool.and_eq_true, decide_eq_true_eq, List.all_eq_true]
  constructor
  · rintro ⟨h1, h2⟩
    exact ⟨h1, fun j hj => h2 _ (mem_gd _ 0 j (by omega))⟩
  · rintro ⟨h1, h2⟩
    refine ⟨h1, fun x hx => ?_⟩
    obtain ⟨j, hj, rfl⟩ := List.getElem_of_mem hx
    have := h2 j (by omega)
    rwa [gd_eq _ _ j hj] at this

/-- How many worlds: at most 10000 are counted. -/
def cwN (sz : Int) : Nat → Int
  | 0 => 1
  | n + 1 => min (cwN sz n * sz) 10000
theorem cwN_bd {sz : Int} (h1 : 1 ≤ sz) (n : Nat) : 1 ≤ cwN sz n ∧ cwN sz n ≤ 10000 := by
  induction n with
  | zero => exact ⟨Int.le_refl 1, show (1 : Int) ≤ 10000 by decide⟩
  | succ n ih =>
    rw [cwN]
    have := Int.mul_le_mul (show (1 : Int) ≤ cwN sz n from ih.1) h1 (by decide) (by omega)
    omega
theorem cwN_top {sz : Int} (h1 : 1 ≤ sz) {n : Nat} (h : cwN sz n = 10000) (m : Nat) : cwN sz (n + m) = 10000 := by
  induction m with
  | zero => exact h
  | succ m ih =>
    show min (cwN sz (n + m) * sz) 10000 = 10000
    rw [ih]; omega
/-- The lists of arguments of the first k symbols. -/
def sumW (ar : List Int) (sz : Int) : Nat → Nat
  | 0 => 0
  | k + 1 => sumW ar sz k + longW sz (ar.getD k 0)
def worldsAns (ar : List Int) (sz : Int) : Int := if goodSign ar && inB sz 1 3 then cwN sz (sumW ar sz ar.length) else 0

/-- The digits of no, and what is left of it. -/
def digW (sz no : Int) : Nat → List Int
  | 0 => []
  | k + 1 => digW sz no k ++ [no / sz ^ k % sz]
def tabsW (ar : List Int) (sz no : Int) : Nat → List (List Int)
  | 0 => []
  | k + 1 => tabsW ar sz no k ++ [digW sz (no / sz ^ sumW ar sz k) (longW sz (ar.getD k 0))]
theorem digW_len (sz no : Int) (k : Nat) : (digW sz no k).length = k := by
  induction k with
  | zero => rfl
  | succ k ih => simp [digW, ih]
theorem tabsW_len (ar : List Int) (sz no : Int) (k : Nat) : (tabsW ar sz no k).length = k := by
  induction k with
  | zero => rfl
  | succ k ih => simp [tabsW, ih]
end Go.Proofs.Yteegjnobmbcjiaa
end
section
/- The laws' assignments, of some bytes. -/
namespace Go.Proofs.Yteegjnobmbcjiaa
open Go.RowKit

/-- An assignment of new memory. -/
def RetEnv (Z : Int) (w : World) (e : Ending) (w' : World) : Prop := ∃ ad n c env, e = .returned (.slice ad n c) ∧ OwnI w.heap.size w'.heap.size w' (.slice ad n c) env ∧ okEnv Z env = true ∧ Bel w w'
theorem shift_bd (s : Int) : 0 ≤ wrap64 (IntKind.u64.wrap s / 1099511627776) ∧ wrap64 (IntKind.u64.wrap s / 1099511627776) < 16777216 := by
  have h0 : 0 ≤ IntKind.u64.wrap s ∧ IntKind.u64.wrap s ≤ 18446744073709551615 := by
    rw [IntKind.wrap_u64]; omega
  generalize IntKind.u64.wrap s = a at h0
  rw [IntWalk.wrap64_in (a / 1099511627776) (by omega)]
  omega

set_option maxRecDepth 100000 in
set_option maxHeartbeats 400000 in
theorem envOf_c (h n l m : Nat) (Z : Int) (tv bv : Value) (tb : List (List Int)) (w : World) (hn : n ≤ 1048576) (h1 : 1 ≤ Z) (h3 : Z ≤ 3) (ht : SlS l m w tv tb) (hv : SlB h w bv n) :
    Calls Try.prog 35 #[.agg #[.int .i64 Z, tv], bv] w (RetEnv Z w) := by
  obtain ⟨i0, hi0, hz0, hz1, hz2⟩ := info_parts Try.info3
  obtain ⟨ta, tc, rfl⟩ := ht.form
  have hv1 : SlB h (w.alloc (.cells #[.int .i64 Z, .slice ta tb.length tc] 58)) bv n := by
    obtain ⟨ad, cap, e, hc, hr⟩ := hv
    exact ⟨ad, cap, e, hc, fun hp => by
      obtain ⟨b, off, e1, e2, e3⟩ := hr hp
      exact ⟨b, off, e1, e2, fun j hj => by obtain ⟨x, hx, hcell⟩ := e3 j hj; exact ⟨x, hx, (Bel.alloc0 _ _).at (World.block_lt_of_cell? _ ⟨_, _, none⟩ hcell) hcell⟩⟩⟩
  obtain ⟨ba, bc, rfl, -⟩ := hv
  have HN := Lib.hid (numberOf_n h n (.slice ba n bc) _ hn hv1)
  clear hv1 ht
  go_enter Try.func35, Try.ntmps35
  go_wp2_with fail
  refine HN.out.mono ?_; rintro e w1 ⟨x, rfl, hx0, hx1, hb1⟩
  have hbox := boxc hb1 0 _ rfl
  have hB1 := hb1.of_alloc
  clear HN
  go_wp2_with fail
  go_loopw [5, 6, 7] (fun q o i wr => ∃ (k : Nat) (z : Int) (env : List Int), k ≤ 12 ∧ i = .int .i64 k ∧ q = .int .u64 z ∧ wr.ownsRow w1.heap.size 3 1 o env.length (env.map (Value.int .i64)) ∧ env.length = k ∧ (∀ x ∈ env, 0 ≤ x ∧ x ≤ Z - 1) ∧ Bel w1 wr) (fun _ _ i _ => 12 - (intOf i).toNat)
  case atStart => exact ⟨0, _, [], by omega, rfl, rfl, World.ownsRow_nil _ _ _ _, rfl, fun x hx => by simp at hx, Bel.rfl' _⟩
  case round =>
    obtain ⟨k, z, env, hk, rfl, rfl, hown, hlen, hall, hb⟩ := hrel
    by_cases hlt : k < 12
    · have hd : decide ((k : Int) < 12) = true := decide_eq_true (by omega)
      have hw := IntWalk.i64_in ((k : Int) + 1) (by omega)
      have hbox' := hb.at (World.block_lt_of_cell? _ ⟨_, _, none⟩ hbox) hbox
      have hZ0 : ¬ Z = 0 := by omega
      have hsb := shift_bd (IntKind.u64.wrap (z * 6364136223846793005) + 1442695040888963407)
      have hm0 := Int.emod_nonneg (wrap64 (IntKind.u64.wrap (IntKind.u64.wrap (z * 6364136223846793005) + 1442695040888963407) / 1099511627776)) hZ0
      have hm1 := Int.emod_lt_of_pos (wrap64 (IntKind.u64.wrap (IntKind.u64.wrap (z * 6364136223846793005) + 1442695040888963407) / 1099511627776)) (show (0 : Int) < Z by omega)
      have hsz := hb.size
      go_wp2_with (at_builtin; refine wpList_append_own _ rfl _ _ 22 rfl w1.heap.size 3 i0 (.int .i64 0) 1 8 Try.underlying22 hi0 hz0 hz1 hz2 rfl (by decide) _ _ _ rfl (hown.alloc _) ⟨wr.heap.size, 0, none⟩ 1 1 [.int .i64 (wrap64 (IntKind.u64.wrap (IntKind.u64.wrap (z * 6364136223846793005) + 1442695040888963407) / 1099511627776) % Z)] rfl rfl (news_one _ _ _) (one_int _) (by unfold maxLen; omega) (by omega) (by simp; omega) ?_; intro v' w3 hown' hgrow _)
      have hown4 : w3.ownsRow w1.heap.size 3 1 v' (env ++ [(wrap64 (IntKind.u64.wrap (IntKind.u64.wrap (z * 6364136223846793005) + 1442695040888963407) / 1099511627776) % Z)]).length ((env ++ [(wrap64 (IntKind.u64.wrap (IntKind.u64.wrap (z * 6364136223846793005) + 1442695040888963407) / 1099511627776) % Z)]).map (Value.int .i64)) := by simpa using hown'
      have hB3 := (hb.alloc (.cells #[.int .i64 (wrap64 (IntKind.u64.wrap (IntKind.u64.wrap (z * 6364136223846793005) + 1442695040888963407) / 1099511627776) % Z)] 3)).grown hgrow (fun j hj => own_base hown j hj)
      go_roundw
      case rel => exact ⟨k+1, _, env ++ [(wrap64 (IntKind.u64.wrap (IntKind.u64.wrap (z * 6364136223846793005) + 1442695040888963407) / 1099511627776) % Z)], by omega, by go_num, rfl, hown4, by simp; omega, fun y hy => by
        rcases List.mem_append.1 hy with h | h
        · exact hall y h
        · simp at h; subst h; omega, hB3⟩
      case measure => simp [intOf]; omega
    · have hd : decide ((k : Int) < 12) = false := decide_eq_false (by omega)
      obtain ⟨ao, no, co, rfl⟩ := own_form hown
      have HO := Lib.hid ((OwnI.of_row hown).mono hB1.size (Nat.le_refl _))
      clear hown
      go_wp2_with fail
      go_ret
      exact ⟨_, _, _, env, rfl, HO.out, okEnv_iff.2 ⟨by omega, fun j hj => hall _ (mem_gd env 0 j (by omega))⟩, hB1.step hb⟩
end Go.Proofs.Yteegjnobmbcjiaa
end
section
/- The laws' worlds, of some bytes. -/
namespace Go.Proofs.Yteegjnobmbcjiaa
open Go.RowKit

/-- A world of new memory: its tables are as long as they must be. -/
def RetWof (ar : List Int) (w : World) (e : Ending) (w' : World) : Prop :=
  ∃ v Z tb, e = .returned (.agg #[.int .i64 Z, v]) ∧ SlS w.heap.size w'.heap.size w' v tb ∧ (∀ j, (tb.getD j []).length ≤ 27) ∧ (goodSign ar = true → isWorld ar Z tb = true) ∧ tb.length = ar.length ∧ 1 ≤ Z ∧ Z ≤ 3 ∧ Bel w w'

theorem RowO.low {B : Nat} {w : World} {v : Value} {xss : List (List Int)} (h : RowO B w v xss) {p : Addr} (hp : p.block < B) (u : Value) : RowO B (w.setCell p u) v xss := by
  obtain ⟨us, bs, h1, h2⟩ := h
  refine ⟨us, bs, ownsRow_setCell_below h1 hp u, ?_⟩
  have h3 : rowBlk (w.setCell p u) v = rowBlk w v := by unfold rowBlk; rw [World.size_setCell]
  rw [h3, World.size_setCell]
  exact h2.same fun b hb1 _ _ => Below.heap_setCell w p u b (by omega)
theorem pow27 {Z e : Nat} (hZ : Z ≤ 3) (he : e ≤ 3) : Z ^ e ≤ 27 := Nat.le_trans (Nat.pow_le_pow_left hZ e) (Nat.le_trans (Nat.pow_le_pow_right (by omega) he) (by decide))
/-- What stays while the tables are made: the size, the signature, the result's cells. -/
structure WF (w : World) (g : Nat) (Z : Int) (sg : Value) (wr : World) : Prop where
  size : wr.cell? ⟨g, 0, none⟩ = some (.int .i64 Z)
  free : ∀ j, wr.frozen? ⟨g, j, none⟩ = false
  sign : wr.cell? ⟨w.heap.size, 0, none⟩ = some sg
  r0 : wr.cell? ⟨w.heap.size + 1, 0, none⟩ = some (.int .i64 0)
  r1 : wr.cell? ⟨w.heap.size + 1, 1, none⟩ = some (.slice none 0 0)
  rf : ∀ j, wr.frozen? ⟨w.heap.size + 1, j, none⟩ = false
  bel : Bel w wr
  big : g + 1 ≤ wr.heap.size
  low : w.heap.size + 2 ≤ g
theorem WF.same {w wr w' : World} {g : Nat} {Z : Int} {sg : Value} (h : WF w g Z sg wr) (hg : ∀ b, b ≤ g → w'.heap[b]? = wr.heap[b]?) (hb : Bel w w') (hz : wr.heap.size ≤ w'.heap.size) : WF w g Z sg w' := by
  have hl := h.low
  have c := fun (b j : Nat) (hbg : b ≤ g) => World.cell?_of_block (w := wr) (w' := w') (a := ⟨b, j, none⟩) (hg b hbg)
  have f := fun (b j : Nat) (hbg : b ≤ g) => World.frozen?_of_block (w := wr) (w' := w') (a := ⟨b, j, none⟩) (hg b hbg)
  exact ⟨(c g 0 (Nat.le_refl _)).trans h.size, fun j => (f g j (Nat.le_refl _)).trans (h.free j), (c _ 0 (by omega)).trans h.sign, (c _ 0 (by omega)).trans h.r0, (c _ 1 (by omega)).trans h.r1, fun j => (f _ j (by omega)).trans (h.rf j), hb, Nat.le_trans h.big hz, hl⟩
theorem WF.step {w wr w' : World} {g : Nat} {Z : Int} {sg : Value} (h : WF w g Z sg wr) (hb : Bel wr w') : WF w g Z sg w' :=
  h.same (fun b hbg => hb.block b (by have := h.big; omega)) (h.bel.step hb) hb.size
theorem WF.grown {w wr w' : World} {g : Nat} {Z : Int} {sg : Value} {r : Option Nat} (h : WF w g Z sg wr) (hg : wr.grownBy w' r) (hr : ∀ b, r = some b → g < b) : WF w g Z sg w' :=
  h.same (fun b hbg => hg.block b (by have := h.big; omega) (fun e => by have := hr b e.symm; omega)) (h.bel.grown hg (fun b e => by have := hr b e; have := h.low; omega)) hg.size
theorem WF.set1 {w wr : World} {g : Nat} {Z : Int} {sg : Value} (h : WF w g Z sg wr) (u : Value) : WF w g Z sg (wr.setCell ⟨g, 1, none⟩ u) := by
  have hl := h.low
  refine ⟨?_, fun j => by rw [World.frozen?_setCell]; exact h.free j, ?_, ?_, ?_, fun j => by rw [World.frozen?_setCell]; exact h.rf j, h.bel.set (p := ⟨g, 1, none⟩) (by show w.heap.size ≤ g; omega) u, by rw [World.size_setCell]; exact h.big, hl⟩
  · rw [World.cell?_setCell_other (h := by intro e; simp at e)]; exact h.size
  · rw [World.cell?_setCell_other (h := by intro e; simp at e)]; exact h.sign
  · rw [World.cell?_setCell_other (h := by intro e; simp at e)]; exact h.r0
  · rw [World.cell?_setCell_other (h := by intro e; simp at e <;> omega)]; exact h.r1

set_option maxRecDepth 100000 in
set_option maxHeartbeats 1000000 in
theorem worldOf_c (h n l m : Nat) (sv bv : Value) (ar : List Int) (w : World) (hn : n ≤ 1048576) (hdr : drawn ar) (hs : SlI l m w sv ar) (hv : SlB h w bv n) :
    Calls Try.prog 34 #[.agg #[sv], bv] w (RetWof ar w) := by
  obtain ⟨i0, hi0, hz0, hz1, hz2⟩ := info_parts Try.info3
  obtain ⟨i1, hi1, hy0, hy1, hy2⟩ := info_parts Try.info22
  obtain ⟨sa, sc, rfl⟩ := hs.form
  have hal := drawn_len hdr
  have hB2 := Bel.alloc2 w (.cells #[.slice sa ar.length sc] 30) (.cells #[.int .i64 0, .slice none 0 0] 58)
  have hv1 : SlB h ((w.alloc (.cells #[.slice sa ar.length sc] 30)).alloc (.cells #[.int .i64 0, .slice none 0 0] 58)) bv n := by
    obtain ⟨ad, cap, e, hc, hr⟩ := hv
    exact ⟨ad, cap, e, hc, fun hp => by
      obtain ⟨b, off, e1, e2, e3⟩ := hr hp
      exact ⟨b, off, e1, e2, fun j hj => by obtain ⟨x, hx, hcell⟩ := e3 j hj; exact ⟨x, hx, hB2.at (World.block_lt_of_cell? _ ⟨_, _, none⟩ hcell) hcell⟩⟩⟩
  obtain ⟨ba, bc, rfl, -⟩ := hv
  have HN := Lib.hid (numberOf_n h n (.slice ba n bc) _ hn hv1)
  have hbs0 : ((w.alloc (.cells #[.slice sa ar.length sc] 30)).alloc (.cells #[.int .i64 0, .slice none 0 0] 58)).cell? ⟨w.heap.size, 0, none⟩ = some (.slice sa ar.length sc) := (Bel.alloc0 _ _).at (by simp) (by simp [go_sem])
  clear hv1
  go_enter Try.func34, Try.ntmps34
  go_wp2_with fail
  refine HN.out.mono ?_; rintro e w1 ⟨x, rfl, hx0, hx1, hb1⟩
  have hbs1 := hb1.at (World.block_lt_of_cell? _ ⟨_, _, none⟩ hbs0) hbs0
  have hB1 := hB2.step hb1
  clear HN
  obtain ⟨Z, hZ⟩ : ∃ Z : Nat, (1 + (x + 7) % 3 : Int) = (Z : Int) := ⟨(1 + (x + 7) % 3).toNat, by omega⟩
  have hZ1 : 1 ≤ Z ∧ Z ≤ 3 := by omega
  have hz1 := hb1.size
  have hzz : w.heap.size + 2 ≤ w1.heap.size := by simp at hz1; omega
  have BW := Bel.alloc0 w1 (.cells #[.int .i64 (1 + (x + 7) % 3), .slice none 0 0] 58)
  have hbs2 := BW.at (World.block_lt_of_cell? _ ⟨_, _, none⟩ hbs1) hbs1
  have hq0 : ((w.alloc (.cells #[.slice sa ar.length sc] 30)).alloc (.cells #[.int .i64 0, .slice none 0 0] 58)).cell? ⟨w.heap.size + 1, 0, none⟩ = some (.int .i64 0) := by simp [go_sem]
  have hq1 : ((w.alloc (.cells #[.slice sa ar.length sc] 30)).alloc (.cells #[.int .i64 0, .slice none 0 0] 58)).cell? ⟨w.heap.size + 1, 1, none⟩ = some (.slice none 0 0) := by simp [go_sem]
  have hqf : ∀ j, ((w.alloc (.cells #[.slice sa ar.length sc] 30)).alloc (.cells #[.int .i64 0, .slice none 0 0] 58)).frozen? ⟨w.heap.size + 1, j, none⟩ = false := fun j => by simp [go_sem]
  have hWF : WF w w1.heap.size (1 + (x + 7) % 3) (.slice sa ar.length sc) (w1.alloc (.cells #[.int .i64 (1 + (x + 7) % 3), .slice none 0 0] 58)) :=
    ⟨by simp [go_sem], fun j => by simp [go_sem], hbs2, (hb1.step BW).at (World.block_lt_of_cell? _ ⟨_, _, none⟩ hq0) hq0, (hb1.step BW).at (World.block_lt_of_cell? _ ⟨_, _, none⟩ hq1) hq1, fun j => ((hb1.step BW).frozen (p := ⟨w.heap.size + 1, j, none⟩) (by simp)).trans (hqf j), hB1.step BW, by simp, hzz⟩
  have hT0 : (w1.alloc (.cells #[.int .i64 (1 + (x + 7) % 3), .slice none 0 0] 58)).cell? ⟨w1.heap.size, 1, none⟩ = some (.slice none 0 0) := by simp [go_sem]
  have HW := Lib.hid (And.intro hWF hT0)
  rw [hZ] at HW
  have HZ := Lib.hid hZ
  clear hWF hT0 hq0 hq1 hqf hb1 hbs0 hz1 hB1 BW hZ
  have hal2 : ar.length ≤ 1048576 := by omega
  go_wp2_with fail
  go_loopw [5, 23] (fun q i wr => ∃ (k : Nat) (z : Int) (o : Value) (tb : List (List Int)), k ≤ ar.length ∧ i = .int .i64 k ∧ q = .int .u64 z ∧ WF w w1.heap.size Z (.slice sa ar.length sc) wr ∧ wr.cell? ⟨w1.heap.size, 1, none⟩ = some o ∧ RowO (w1.heap.size + 1) wr o tb ∧ tb.length = k ∧ ∀ j, j < k → (tb.getD j []).length = Z ^ (ar.getD j 0).toNat ∧ ∀ y ∈ tb.getD j [], 0 ≤ y ∧ y ≤ (Z : Int) - 1) (fun _ i _ => ar.length - (intOf i).toNat)
  case atStart => exact ⟨0, _, _, [], Nat.zero_le _, rfl, rfl, by rw [HZ.out]; exact HW.out.1, by rw [HZ.out]; exact HW.out.2, RowO.nil _ _, rfl, fun j hj => by omega⟩
  case round =>
    clear HW
    obtain ⟨k, z, o, tb, hk, rfl, rfl, hWF, hT, hRow, hlen, hall⟩ := hrel
    by_cases hlt : k < ar.length
    · obtain ⟨bA, oA, rfl, -, hc⟩ := (hs.below hWF.bel).at k hlt
      obtain ⟨ha0, ha3⟩ := drawn_get hdr k
      obtain ⟨An, hAn⟩ : ∃ An : Nat, ar.getD k 0 = (An : Int) := ⟨(ar.getD k 0).toNat, by omega⟩
      rw [hAn] at hc ha0 ha3
      have hA3 : An ≤ 3 := by omega
      have hkI : (k : Int) < ar.length := by omega
      have hsize := hWF.size
      have hsign := hWF.sign
      have HP := Lib.hid (fun (j : Nat) (hj : j ≤ 3) => pow27 hZ1.2 hj)
      have HWFF := Lib.hid (And.intro hWF (And.intro hT (And.intro hRow (And.intro hlen hall))))
      clear hWF hRow hlen hall ha0 ha3
      go_wp2_with fail
      go_loop [8, 9] (fun u v => ∃ j : Nat, j ≤ An ∧ u = .int .i64 j ∧ v = .int .i64 ((Z ^ (An - j) : Nat) : Int)) (fun u _ => (intOf u).toNat)
      case atStart => exact ⟨An, Nat.le_refl _, rfl, by simp⟩
      case round =>
        obtain ⟨j, hj, rfl, rfl⟩ := hrel
        by_cases hj0 : 0 < j
        · have hd : decide ((0 : Int) < j) = true := decide_eq_true (by omega)
          have hp1 := HP.out (An - j) (by omega)
          have hp2 := HP.out (An - (j - 1)) (by omega)
          have he : Z ^ (An - j) * Z = Z ^ (An - (j - 1)) := by rw [← Nat.pow_succ]; congr 1; omega
          have he2 : ((Z ^ (An - j) : Nat) : Int) * (Z : Int) = ((Z ^ (An - (j - 1)) : Nat) : Int) := by rw [← he]; simp
          have hw := IntWalk.i64_in (((Z ^ (An - j) : Nat) : Int) * (Z : Int)) (by rw [he2]; omega)
          have HE := Lib.hid he2
          clear he he2 hp1 hp2
          generalize ((Z ^ (An - j) : Nat) : Int) = pj at *
          go_wp2_with fail
          exact ⟨⟨j - 1, by omega, by simp; omega, by rw [← HE.out]⟩, by simp [intOf]; omega⟩
        · obtain rfl : j = 0 := by omega
          have hN := HP.out An hA3
          rw [Nat.sub_zero]
          generalize hNN : Z ^ An = N at *
          obtain ⟨wt, hwt⟩ : ∃ wt, wt = wr := ⟨_, rfl⟩
          subst hwt
          have hbig := HWFF.out.1.big
          go_wp2_with fail
          go_loopw [5, 9, 10] (fun q cnt o3 wr => ∃ (j : Nat) (z3 : Int) (env : List Int), j ≤ N ∧ q = .int .u64 z3 ∧ cnt = .int .i64 j ∧ wr.ownsRow wt.heap.size 3 1 o3 env.length (env.map (Value.int .i64)) ∧ env.length = N - j ∧ (∀ y ∈ env, 0 ≤ y ∧ y ≤ (Z : Int) - 1) ∧ Bel wt wr) (fun _ cnt _ _ => (intOf cnt).toNat)
          case atStart => exact ⟨N, z, [], Nat.le_refl _, rfl, rfl, World.ownsRow_nil _ _ _ _, by simp, fun y hy => by simp at hy, Bel.rfl' _⟩
          case round =>
            obtain ⟨j, z3, env, hj, rfl, rfl, hown, hel, hen, hb⟩ := hrel
            by_cases hj0 : 0 < j
            · have hd : decide ((0 : Int) < j) = true := decide_eq_true (by omega)
              have hsz3 := hb.at (World.block_lt_of_cell? _ ⟨_, _, none⟩ hsize) hsize
              have hZ0 : ¬ (Z : Int) = 0 := by omega
              have hsb := shift_bd (IntKind.u64.wrap (z3 * 6364136223846793005) + 1442695040888963407)
              have hm0 := Int.emod_nonneg (wrap64 (IntKind.u64.wrap (IntKind.u64.wrap (z3 * 6364136223846793005) + 1442695040888963407) / 1099511627776)) hZ0
              have hm1 := Int.emod_lt_of_pos (wrap64 (IntKind.u64.wrap (IntKind.u64.wrap (z3 * 6364136223846793005) + 1442695040888963407) / 1099511627776)) (show (0 : Int) < (Z : Int) by omega)
              have hsz := hb.size
              go_wp2_with (at_builtin; refine wpList_append_own _ rfl _ _ 22 rfl wt.heap.size 3 i0 (.int .i64 0) 1 8 Try.underlying22 hi0 hz0 hz1 hz2 rfl (by decide) _ _ _ rfl (hown.alloc _) ⟨wr.heap.size, 0, none⟩ 1 1 [.int .i64 (wrap64 (IntKind.u64.wrap (IntKind.u64.wrap (z3 * 6364136223846793005) + 1442695040888963407) / 1099511627776) % (Z : Int))] rfl rfl (news_one _ _ _) (one_int _) (by unfold maxLen; omega) (by omega) (by simp; omega) ?_; intro v' w3 hown' hgrow _)
              have hown4 : w3.ownsRow wt.heap.size 3 1 v' (env ++ [(wrap64 (IntKind.u64.wrap (IntKind.u64.wrap (z3 * 6364136223846793005) + 1442695040888963407) / 1099511627776) % (Z : Int))]).length ((env ++ [(wrap64 (IntKind.u64.wrap (IntKind.u64.wrap (z3 * 6364136223846793005) + 1442695040888963407) / 1099511627776) % (Z : Int))]).map (Value.int .i64)) := by simpa using hown'
              have hB3 := (hb.alloc (.cells #[.int .i64 (wrap64 (IntKind.u64.wrap (IntKind.u64.wrap (z3 * 6364136223846793005) + 1442695040888963407) / 1099511627776) % (Z : Int))] 3)).grown hgrow (fun j hj => own_base hown j hj)
              go_roundw
              case rel => exact ⟨j - 1, _, env ++ [(wrap64 (IntKind.u64.wrap (IntKind.u64.wrap (z3 * 6364136223846793005) + 1442695040888963407) / 1099511627776) % (Z : Int))], by omega, rfl, by simp; omega, hown4, by simp; omega, fun y hy => by
                rcases List.mem_append.1 hy with h | h
                · exact hen y h
                · simp at h; subst h; omega, hB3⟩
              case measure => simp [intOf]; omega
            · obtain rfl : j = 0 := by omega
              have hd : decide ((0 : Int) < 0) = false := by decide
              rw [Nat.sub_zero] at hel
              have hoi := OwnI.of_row hown
              obtain ⟨ao, no, co, rfl⟩ := own_form hown
              obtain ⟨hWF, hT, hRow, hlen, hall⟩ := HWFF.out
              have hT2 := hb.at (World.block_lt_of_cell? _ ⟨_, _, none⟩ hT) hT
              have hWF2 := hWF.step hb
              obtain ⟨ot, oc, rfl⟩ := hRow.form
              have hAl := Bel.alloc0 wr (.cells #[.slice ao no co] 22)
              obtain ⟨us, hown2, hul, hnext⟩ := hRow.step hb hAl hoi hWF.big
              have hWF3 := hWF2.step hAl
              have HN := Lib.hid hnext
              have HX := Lib.hid (And.intro hWF3 (And.intro hlen hall))
              have hfr := hWF2.free 1
              have hul2 : us.length ≤ 6 := by omega
              have hob := own_base hown2
              clear hnext hown hoi hWF hRow hlen hall hWF2 hWF3 HWFF
              have hz5 : w1.heap.size + 1 ≤ (wr.alloc (.cells #[.slice ao no co] 22)).heap.size := HX.out.1.big
              go_wp2_with (at_builtin; refine wpList_append_own_at _ rfl _ _ 56 rfl (w1.heap.size + 1) 22 i1 (.slice none 0 0) 1 24 Try.underlying56 hi1 hy0 hy1 hy2 rfl (by decide) _ _ _ rfl hown2 _ _ _ [.slice ao no co] rfl rfl (news_oneV _ _ _) (one_slice _ _ _) (by unfold maxLen; omega) (by omega) hz5 ?_; intro v' w4 hown' hgrow _ hat; have hRow4 := HN.out w4 v' hown' hgrow hat; obtain ⟨ov, kv, rfl⟩ := hRow4.form; have hWF4 := HX.out.1.grown hgrow (fun q hq => by have := hob q hq; omega); have hT4 : w4.cell? ⟨w1.heap.size, 1, none⟩ = some (.slice ot tb.length oc) := hgrow.cell (hAl.at (World.block_lt_of_cell? _ ⟨_, _, none⟩ hT2) hT2) (fun e => by have := hob _ e.symm; simp at this; omega); have hf4 := hWF4.free 1)
              have hl5 : (tb ++ [env]).length = tb.length + 1 := by simp
              rw [hl5] at hRow4
              obtain ⟨-, hlen, hall⟩ := HX.out
              refine ⟨⟨k + 1, z3, .slice ov (tb.length + 1) kv, tb ++ [env], by omega, by simp, rfl, hWF4.set1 _, World.cell?_setCell_same w4 ⟨w1.heap.size, 1, none⟩ _ hT4, hRow4.low (by show w1.heap.size < w1.heap.size + 1; omega) _, by omega, fun j hj => ?_⟩, by simp [intOf]; omega⟩
              by_cases hjk : j < k
              · have e : (tb ++ [env]).getD j [] = tb.getD j [] := by simp only [List.getD_eq_getElem?_getD]; rw [List.getElem?_append_left (by omega)]
                rw [e]; exact hall j hjk
              · obtain rfl : j = tb.length := by omega
                have e : (tb ++ [env]).getD tb.length [] = env := by simp
                rw [e, hlen, hAn, hel, ← hNN]
                exact ⟨by simp, hen⟩
    · obtain rfl : k = ar.length := by omega
      have hd : decide ((ar.length : Int) < ar.length) = false := by simp
      have hOS := hRow.own
      obtain ⟨ot, oc, rfl⟩ := hRow.form
      have hsize := hWF.size
      have hr0 := hWF.r0
      have hr1 := hWF.r1
      have hrf0 := hWF.rf 0
      have hrf1 := hWF.rf 1
      have HX := Lib.hid (And.intro hWF (And.intro hOS (And.intro hlen hall)))
      clear hWF hRow hOS hlen hall hB2 hbs1 hbs2
      go_wp2_with fail
      obtain ⟨hWF, hOS, hlen, hall⟩ := HX.out
      have hl := hWF.low
      have c0 : ((wr.setCell ⟨w.heap.size + 1, 0, none⟩ (.int .i64 Z)).setCell ⟨w.heap.size + 1, 1, none⟩ (.slice ot tb.length oc)).cell? ⟨w.heap.size + 1, 0, none⟩ = some (.int .i64 Z) := by
        rw [World.cell?_setCell_other (h := by intro e; simp at e)]; exact World.cell?_setCell_same wr _ _ hr0
      have c1 : ((wr.setCell ⟨w.heap.size + 1, 0, none⟩ (.int .i64 Z)).setCell ⟨w.heap.size + 1, 1, none⟩ (.slice ot tb.length oc)).cell? ⟨w.heap.size + 1, 1, none⟩ = some (.slice ot tb.length oc) :=
        World.cell?_setCell_same _ _ _ (by rw [World.cell?_setCell_other (h := by intro e; simp at e)]; exact hr1)
      have hOS2 : OwnS (w1.heap.size + 1) wr.heap.size ((wr.setCell ⟨w.heap.size + 1, 0, none⟩ (.int .i64 Z)).setCell ⟨w.heap.size + 1, 1, none⟩ (.slice ot tb.length oc)) (.slice ot tb.length oc) tb :=
        hOS.same fun b hb1 _ _ => by rw [Below.heap_setCell _ _ _ b (by show b ≠ w.heap.size + 1; omega), Below.heap_setCell _ _ _ b (by show b ≠ w.heap.size + 1; omega)]
      refine bodyPost_ret (v := .agg #[.int .i64 Z, .slice ot tb.length oc]) (by simp [results, Try.results34, go_sem, c0, c1]) rfl ⟨_, Z, tb, rfl, (hOS2.mono (by omega) (by simp)).sl, fun j => ?_, fun _ => isWorld_iff.2 ⟨by omega, by omega, hlen, fun j hj => ⟨?_, fun q hq => (hall j (by omega)).2 _ (mem_gd _ 0 q hq)⟩⟩, hlen, by omega, by omega, (hWF.bel.set (p := ⟨w.heap.size + 1, 0, none⟩) (by show w.heap.size ≤ w.heap.size + 1; omega) _).set (p := ⟨w.heap.size + 1, 1, none⟩) (by show w.heap.size ≤ w.heap.size + 1; omega) _⟩
      · by_cases hj : j < ar.length
        · rw [(hall j hj).1]
          exact pow27 hZ1.2 (by have := (drawn_get hdr j).2; omega)
        · have e : tb.getD j [] = [] := by simp [List.getD, show tb.length ≤ j by omega]
          rw [e]; exact Nat.zero_le _
      · rw [(hall j (by omega)).1]; rfl
end Go.Proofs.Yteegjnobmbcjiaa
end
section
/- Chapter 5, the reference: GoodWorld. -/
namespace Go.Proofs.Yteegjnobmbcjiaa
open Go.RowKit

theorem pw_le {Z k : Nat} (h1 : Z ≤ 3) (h2 : k ≤ 3) : Z ^ k ≤ 27 :=
  Nat.le_trans (Nat.pow_le_pow_left h1 _) (Nat.pow_le_pow_right (n := 3) (by omega) h2)
theorem pw_succ (Z k : Nat) : ((Z ^ k : Nat) : Int) * (Z : Int) = ((Z ^ (k + 1) : Nat) : Int) := by rw [Nat.pow_succ]; simp

set_option maxRecDepth 100000 in
set_option maxHeartbeats 400000 in
theorem l5Long_c (Z A : Nat) (w : World) (h2 : Z ≤ 3) (h3 : A ≤ 3) :
    Calls Try.prog 139 #[.int .i64 (Z : Int), .int .i64 (A : Int)] w (RetV w (.int .i64 ((Z ^ A : Nat) : Int))) := by
  go_enter Try.func139, Try.ntmps139
  go_wp2_with fail
  go_loop [1, 5] (fun a n => ∃ k : Nat, k ≤ A ∧ a = .int .i64 ((A - k : Nat) : Int) ∧ n = .int .i64 ((Z ^ k : Nat) : Int)) (fun a _ => (intOf a).toNat)
  case atStart => exact ⟨0, Nat.zero_le _, rfl, rfl⟩
  case round =>
    obtain ⟨k, hk, rfl, rfl⟩ := hrel
    by_cases hlt : k < A
    · have E := Lib.hid (pw_succ Z k)
      have hb := pw_le h2 (show k + 1 ≤ 3 by omega)
      have hw : -9223372036854775808 ≤ ((Z ^ k : Nat) : Int) * (Z : Int) ∧ ((Z ^ k : Nat) : Int) * (Z : Int) ≤ 9223372036854775807 := by rw [E.out]; omega
      have hw1 := IntWalk.i64_in (((Z ^ k : Nat) : Int) * (Z : Int)) hw
      have hpos : (0 : Int) < ((A - k : Nat) : Int) := by omega
      have hg3 : ((A - k : Nat) : Int) ≤ 3 := by omega
      have hsub : ((A - k : Nat) : Int) - 1 = ((A - (k + 1) : Nat) : Int) := by omega
      have HS := Lib.hid hsub
      clear hw hb hsub
      generalize ((A - k : Nat) : Int) = g at *
      generalize ((Z ^ k : Nat) : Int) = y at *
      go_wp2_with fail
      go_round
      case rel => exact ⟨k+1, by omega, by rw [← HS.out], by rw [← E.out]⟩
      case measure => simp [intOf]; omega
    · obtain rfl : k = A := by omega
      have hz : ((k - k : Nat) : Int) = 0 := by simp
      rw [hz]
      generalize ((Z ^ k : Nat) : Int) = y at *
      go_wp2_with fail
      go_ret
      exact ⟨rfl, Bel.rfl' _⟩
end Go.Proofs.Yteegjnobmbcjiaa
end
section
/- Rows of slices whose elements lie in older memory: copies, deletion. -/
namespace Go.Proofs.Yteegjnobmbcjiaa
open Go.RowKit

/-- A slice's three words. -/
abbrev SV := Option Addr × Nat × Nat
def encS (x : SV) : Value := .slice x.1 x.2.1 x.2.2
theorem encS_one (zs : List SV) : ∀ u ∈ zs.map encS, u.oneCell' = true := by
  intro u hu; obtain ⟨z, _, rfl⟩ := List.mem_map.1 hu; rfl
/-- The elements, read in the world W. -/
def Els (W : World) (zs : List SV) (xss : List (List Int)) : Prop := zs.length = xss.length ∧ ∀ j z, zs[j]? = some z → SlI 0 W.heap.size W (encS z) (xss.getD j [])
def RowV (W wr : World) (v : Value) (xss : List (List Int)) : Prop := ∃ zs : List SV, wr.ownsRow W.heap.size 22 1 v zs.length (zs.map encS) ∧ Els W zs xss
def RetRow (W : World) (xss : List (List Int)) (e : Ending) (w' : World) : Prop := ∃ ad n c, e = .returned (.slice ad n c) ∧ RowV W w' (.slice ad n c) xss ∧ Bel W w'
theorem Els.nil (W : World) : Els W [] [] := ⟨rfl, fun j z h => by simp at h⟩
theorem Els.at {W : World} {zs : List SV} {xss : List (List Int)} (h : Els W zs xss) {j : Nat} (hj : j < xss.length) : ∃ z, zs[j]? = some z ∧ SlI 0 W.heap.size W (encS z) (xss.getD j []) :=
  ⟨_, List.getElem?_eq_getElem (by rw [h.1]; exact hj), h.2 j _ (List.getElem?_eq_getElem (by rw [h.1]; exact hj))⟩
theorem Els.erase {W : World} {zs : List SV} {xss : List (List Int)} (h : Els W zs xss) (i : Nat) (_ : i < xss.length) : Els W (zs.eraseIdx i) (xss.eraseIdx i) := by
  refine ⟨by rw [List.length_eraseIdx, List.length_eraseIdx, h.1], fun j z hj => ?_⟩
  rw [List.getElem?_eraseIdx] at hj
  by_cases hlt : j < i
  · rw [if_pos hlt] at hj
    have := h.2 j z hj
    rwa [show (xss.eraseIdx i).getD j [] = xss.getD j [] from by simp [List.getD, List.getElem?_eraseIdx, hlt]]
  · rw [if_neg hlt] at hj
    have := h.2 (j+1) z hj
    rwa [show (xss.eraseIdx i).getD j [] = xss.getD (j+1) [] from by simp [List.getD, List.getElem?_eraseIdx, hlt]]
theorem Els.snoc {W : World} {zs : List SV} {xss : List (List Int)} (h : Els W zs xss) {z : SV} {t : List Int} (hz : SlI 0 W.heap.size W (encS z) t) : Els W (zs ++ [z]) (xss ++ [t]) := by
  refine ⟨by simp [h.1], fun j u hj => ?_⟩
  by_cases e : j < zs.length
  · rw [List.getElem?_append_left e] at hj
    have := h.2 j u hj
    rwa [show (xss ++ [t]).getD j [] = xss.getD j [] from by simp [List.getD, List.getElem?_append_left (show j < xss.length by rw [← h.1]; exact e)]]
  · have hlt := (List.getElem?_eq_some_iff.1 hj).1
    simp at hlt
    obtain rfl : j = zs.length := by omega
    rw [List.getElem?_append_right (Nat.le_refl _), Nat.sub_self] at hj
    simp at hj
    subst hj
    rwa [show (xss ++ [t]).getD zs.length [] = t from by rw [h.1]; simp [List.getD]]
theorem RowV.form {W wr : World} {v : Value} {xss : List (List Int)} (h : RowV W wr v xss) : ∃ ad c, v = .slice ad xss.length c := by
  obtain ⟨zs, ho, he⟩ := h
  obtain ⟨ad, n, c, rfl⟩ := own_form ho
  have := row_len ho
  rw [he.1] at this
  exact ⟨ad, c, by rw [this]⟩
theorem RowV.bel {W wr w2 : World} {v : Value} {xss : List (List Int)} (h : RowV W wr v xss) (hb : Bel wr w2) : RowV W w2 v xss := by
  obtain ⟨zs, ho, he⟩ := h
  exact ⟨zs, ownsRow_bel ho hb, he⟩
theorem RowV.sls {W wr : World} {v : Value} {xss : List (List Int)} (h : RowV W wr v xss) (hb : Bel W wr) : SlS 0 wr.heap.size wr v xss := by
  obtain ⟨zs, h1, h2, h3⟩ := h
  have h0 := h1
  rcases h1.2 with ⟨rfl, hn⟩ | ⟨g, cap, cur, rfl, hg, hh, hn, hc, hs, ht⟩
  · obtain rfl : xss = [] := List.length_eq_zero_iff.1 (by omega)
    exact SlS.nil _ _ _
  · have hgs : g < wr.heap.size := (Array.getElem?_eq_some_iff.1 hh).1
    refine ⟨_, cap, by rw [h2], by omega, ⟨hc, fun h => by simp at h⟩, fun hp => ⟨g, 0, rfl, Nat.zero_le _, hgs, fun j hj => ?_⟩⟩
    have hju : zs[j]? = some zs[j] := List.getElem?_eq_getElem (by omega)
    refine ⟨encS zs[j], by rw [Nat.zero_add, h0.cellAt j (by omega), List.getElem?_map, hju]; rfl, ?_⟩
    exact ((h3 j _ hju).below hb).mono (Nat.le_refl _) hb.size
/-- Reading the k-th. -/
theorem RowV.at {W wr : World} {ad : Option Addr} {n c : Nat} {xss : List (List Int)} (h : RowV W wr (.slice ad n c) xss) (k : Nat) (hk : k < xss.length) :
    ∃ g z, ad = some ⟨g, 0, none⟩ ∧ W.heap.size ≤ g ∧ wr.cell? ⟨g, k, none⟩ = some (encS z) ∧ SlI 0 W.heap.size W (encS z) (xss.getD k []) := by
  obtain ⟨zs, h1, h2⟩ := h
  have h0 := h1
  obtain ⟨z, hz, hs⟩ := h2.at hk
  rcases h1.2 with ⟨e, hn⟩ | ⟨g, cap, cur, e, hg, hh, _⟩
  · rw [h2.1] at hn; omega
  · simp only [Value.slice.injEq] at e
    obtain ⟨rfl, rfl, rfl⟩ := e
    exact ⟨g, z, rfl, hg, by rw [h0.cellAt k (by rw [h2.1]; omega), List.getElem?_map, hz]; rfl, hs⟩

theorem skolem_lt {α : Type} [Inhabited α] {n : Nat} {P : Nat → α → Prop} (H : ∀ j, j < n → ∃ z, P j z) : ∃ f : Nat → α, ∀ j, j < n → P j (f j) :=
  ⟨fun j => if h : j < n then Classical.choose (H j h) else default, fun j hj => by
    show P j (dite (j < n) (fun h => Classical.choose (H j h)) (fun _ => default))
    rw [dif_pos hj]; exact Classical.choose_spec (H j hj)⟩
/-- The three words of the elements of a slice of slices. -/
theorem SlS.vals {lo hi : Nat} {w : World} {ad : Option Addr} {n c : Nat} {xss : List (List Int)} (h : SlS lo hi w (.slice ad n c) xss) : ∃ zs : List SV, Els w zs xss ∧ ∀ a, ad = some a → ∀ j u, (zs.map encS)[j]? = some u → w.cell? (a.add j) = some u := by
  obtain ⟨ad', cap, e, hc, hm, hr⟩ := h
  simp only [Value.slice.injEq] at e
  obtain ⟨rfl, rfl, rfl⟩ := e
  by_cases hp : 0 < xss.length
  · obtain ⟨b, off, rfl, a1, a2, a3⟩ := hr hp
    have H : ∀ j, j < xss.length → ∃ z : SV, w.cell? ⟨b, off + j, none⟩ = some (encS z) ∧ SlI lo hi w (encS z) (xss.getD j []) := fun j hj => by
      obtain ⟨u, h1, h2⟩ := a3 j hj
      obtain ⟨x, y, rfl⟩ := h2.form
      exact ⟨(x, _, y), h1, h2⟩
    obtain ⟨f, hf⟩ := skolem_lt H
    refine ⟨(List.range xss.length).map f, ⟨by simp, fun j z hj => ?_⟩, fun a ha j u hj => ?_⟩
    · have hlt := (List.getElem?_eq_some_iff.1 hj).1
      simp at hlt
      rw [List.getElem?_map, List.getElem?_range hlt] at hj
      simp only [Option.map_some, Option.some.injEq] at hj
      subst hj
      exact (hf j hlt).2.in'
    · have hlt := (List.getElem?_eq_some_iff.1 hj).1
      simp at hlt
      rw [List.getElem?_map, List.getElem?_map, List.getElem?_range hlt] at hj
      simp only [Option.map_some, Option.some.injEq] at hj
      subst hj
      simp only [Option.some.injEq] at ha
      subst ha
      rw [addr_add]
      exact (hf j hlt).1
  · obtain rfl : xss = [] := List.length_eq_zero_iff.1 (by omega)
    exact ⟨[], Els.nil _, fun a _ j u hj => by simp at hj⟩

end Go.Proofs.Yteegjnobmbcjiaa
end
section
/- The terms of a clause, literal by literal: both sides. -/
namespace Go.Proofs.Yteegjnobmbcjiaa
open Go.RowKit

theorem news_two (w : World) (x y : Value) (t : TypeId) : ∀ j u, [x, y][j]? = some u → (w.alloc (.cells #[x, y] t)).cell? ((⟨w.heap.size, 0, none⟩ : Addr).add j) = some u := by
  intro j u hj
  match j, hj with
  | 0, hj => simp at hj; subst hj; rw [show (⟨w.heap.size, 0, none⟩ : Addr).add 0 = ⟨w.heap.size, 0, none⟩ from rfl, World.cell?_alloc_new w]; rfl
  | 1, hj => simp at hj; subst hj; rw [addr_add, World.cell?_alloc_new w]; rfl
theorem news_two_at (w : World) (x y : Value) (t : TypeId) (g : Nat) (hg : g = w.heap.size) : ∀ j u, [x, y][j]? = some u → (w.alloc (.cells #[x, y] t)).cell? ((⟨g, 0, none⟩ : Addr).add j) = some u := by subst hg; exact news_two w x y t
theorem news_one_at (w : World) (x : Value) (t : TypeId) (g : Nat) (hg : g = w.heap.size) : ∀ j u, [x][j]? = some u → (w.alloc (.cells #[x] t)).cell? ((⟨g, 0, none⟩ : Addr).add j) = some u := by subst hg; exact news_one w x t
theorem two_slice (a b : Option Addr) (n m c d : Nat) : ∀ u ∈ [Value.slice a n c, Value.slice b m d], u.oneCell' = true := by
  intro u hu; simp at hu; rcases hu with rfl | rfl <;> rfl
theorem flatC_take (c : List Lt) (k : Nat) (h : k < c.length) : flatC (c.take (k+1)) = flatC (c.take k) ++ [(c.getD k lt0).2.1] ++ [(c.getD k lt0).2.2] := by
  rw [List.take_succ_eq_append_getElem h, flatC_app]
  simp [flatC, List.getD, h]
/-- A literal's terms as they lie in the world W. -/
theorem SlC.two {lo hi : Nat} {w : World} {ad : Option Addr} {n k : Nat} {c : List Lt} (h : SlC lo hi w (.slice ad n k) c) (j : Nat) (hj : j < c.length) :
    ∃ (b off : Nat) (z1 z2 : SV), ad = some ⟨b, off, none⟩ ∧ b < w.heap.size ∧ w.cell? ⟨b, off + j * 3, none⟩ = some (.bool (c.getD j lt0).1) ∧ w.cell? ⟨b, off + j * 3 + 1, none⟩ = some (encS z1) ∧ w.cell? ⟨b, off + j * 3 + 2, none⟩ = some (encS z2) ∧
      SlI 0 w.heap.size w (encS z1) (c.getD j lt0).2.1 ∧ SlI 0 w.heap.size w (encS z2) (c.getD j lt0).2.2 := by
  obtain ⟨b, off, u1, u2, rfl, hb, c1, c2, c3, s1, s2⟩ := h.at (Bel.rfl' w) j hj
  obtain ⟨x1, y1, rfl⟩ := s1.form
  obtain ⟨x2, y2, rfl⟩ := s2.form
  exact ⟨b, off, (x1, _, y1), (x2, _, y2), rfl, hb, c1, c2, c3, s1.in', s2.in'⟩

set_option maxRecDepth 100000 in
set_option maxHeartbeats 400000 in
theorem termsIn_c (l h : Nat) (v : Value) (c : List Lt) (w : World) (hx : c.length ≤ 1048576) (hv : SlC l h w v c) :
    Calls Try.prog 75 #[v] w (RetRow w (flatC c)) := by
  obtain ⟨i1, hi1, hy0, hy1, hy2⟩ := info_parts Try.info22
  obtain ⟨ad, cap, rfl⟩ := hv.form
  go_enter Try.func75, Try.ntmps75
  go_wp2_with fail
  go_loopw [3, 8] (fun o i wr => ∃ k : Nat, k ≤ c.length ∧ i = .int .i64 k ∧ RowV w wr o (flatC (c.take k)) ∧ Bel w wr) (fun _ i _ => c.length - (intOf i).toNat)
  case atStart => exact ⟨0, Nat.zero_le _, rfl, ⟨[], World.ownsRow_nil _ _ _ _, Els.nil _⟩, Bel.rfl' _⟩
  case round =>
    obtain ⟨k, hk, rfl, hrow, hb⟩ := hrel
    by_cases hlt : k < c.length
    · obtain ⟨b, off, z1, z2, rfl, hbs, e1, e2, e3, s1, s2⟩ := hv.two k hlt
      have c1 := hb.at (World.block_lt_of_cell? _ ⟨_, _, none⟩ e1) e1
      have c2 := hb.at (World.block_lt_of_cell? _ ⟨_, _, none⟩ e2) e2
      have c3 := hb.at (World.block_lt_of_cell? _ ⟨_, _, none⟩ e3) e3
      have HF := Lib.hid (flatC_take c k hlt)
      have hfl := flatC_len (c.take k)
      have hkl : (c.take k).length = k := by rw [List.length_take]; omega
      obtain ⟨zs, ho, hE⟩ := hrow
      have hzl := hE.1
      have hE2 := Lib.hid ((hE.snoc s1).snoc s2)
      have hin1 : (k : Int) < c.length := by omega
      generalize (c.getD k lt0).1 = p at *
      obtain ⟨a1, n1, d1⟩ := z1
      obtain ⟨a2, n2, d2⟩ := z2
      simp only [encS] at c2 c3
      have hbz := hb.size
      clear hv s1 s2 hE e1 e2 e3
      go_wp2_with (at_builtin; refine wpList_append_own _ rfl _ _ 56 rfl w.heap.size 22 i1 (.slice none 0 0) 1 24 Try.underlying56 hi1 hy0 hy1 hy2 rfl (by decide) _ _ _ rfl ((ho.alloc _).alloc _) ⟨wr.heap.size + 1, 0, none⟩ 2 2 [.slice a1 n1 d1, .slice a2 n2 d2] rfl rfl (news_two_at _ _ _ _ _ (by simp)) (two_slice _ _ _ _ _ _) (by unfold maxLen; rw [hzl]; omega) (by rw [hzl]; omega) (by simp; omega) ?_; intro v' w1 hown' hgrow _)
      go_roundw
      case rel =>
        refine ⟨k+1, by omega, by go_num, ?_, ?_⟩
        · rw [HF.out]
          exact ⟨zs ++ [(a1, n1, d1)] ++ [(a2, n2, d2)], by simpa [encS] using hown', hE2.out⟩
        · exact ((hb.alloc _).alloc _).grown hgrow (fun q hq => own_base ho q hq)
      case measure => simp [intOf]; omega
    · rw [List.take_of_length_le (by omega)] at hrow
      obtain ⟨og, oc, rfl⟩ := hrow.form
      go_wp2_with fail
      go_ret
      exact ⟨_, _, _, rfl, hrow, hb⟩

set_option maxRecDepth 100000 in
set_option maxHeartbeats 400000 in
theorem l4Terms_c (l h : Nat) (v : Value) (c : List Lt) (w : World) (hx : c.length ≤ 1048576) (hv : SlC l h w v c) :
    Calls Try.prog 124 #[v] w (RetRow w (flatC c)) := by
  obtain ⟨i1, hi1, hy0, hy1, hy2⟩ := info_parts Try.info22
  obtain ⟨ad, cap, rfl⟩ := hv.form
  go_enter Try.func124, Try.ntmps124
  go_wp2_with fail
  go_loopw [3, 8] (fun o i wr => ∃ k : Nat, k ≤ c.length ∧ i = .int .i64 k ∧ RowV w wr o (flatC (c.take k)) ∧ Bel w wr) (fun _ i _ => c.length - (intOf i).toNat)
  case atStart => exact ⟨0, Nat.zero_le _, rfl, ⟨[], World.ownsRow_nil _ _ _ _, Els.nil _⟩, Bel.rfl' _⟩
  case round =>
    obtain ⟨k, hk, rfl, hrow, hb⟩ := hrel
    by_cases hlt : k < c.length
    · obtain ⟨b, off, z1, z2, rfl, hbs, e1, e2, e3, s1, s2⟩ := hv.two k hlt
      have c1 := hb.at (World.block_lt_of_cell? _ ⟨_, _, none⟩ e1) e1
      have c2 := hb.at (World.block_lt_of_cell? _ ⟨_, _, none⟩ e2) e2
      have c3 := hb.at (World.block_lt_of_cell? _ ⟨_, _, none⟩ e3) e3
      have HF := Lib.hid (flatC_take c k hlt)
      have hfl := flatC_len (c.take k)
      have hkl : (c.take k).length = k := by rw [List.length_take]; omega
      obtain ⟨zs, ho, hE⟩ := hrow
      have hzl := hE.1
      have hE2 := Lib.hid ((hE.snoc s1).snoc s2)
      have hin1 : (k : Int) < c.length := by omega
      generalize (c.getD k lt0).1 = p at *
      obtain ⟨a1, n1, d1⟩ := z1
      obtain ⟨a2, n2, d2⟩ := z2
      simp only [encS] at c2 c3
      have hbz := hb.size
      clear hv s1 s2 hE e1 e2 e3
      go_wp2_with (at_builtin; refine wpList_append_own _ rfl _ _ 56 rfl w.heap.size 22 i1 (.slice none 0 0) 1 24 Try.underlying56 hi1 hy0 hy1 hy2 rfl (by decide) _ _ _ rfl ((ho.alloc _).alloc _) ⟨wr.heap.size + 1, 0, none⟩ 2 2 [.slice a1 n1 d1, .slice a2 n2 d2] rfl rfl (news_two_at _ _ _ _ _ (by simp)) (two_slice _ _ _ _ _ _) (by unfold maxLen; rw [hzl]; omega) (by rw [hzl]; omega) (by simp; omega) ?_; intro v' w1 hown' hgrow _)
      go_roundw
      case rel =>
        refine ⟨k+1, by omega, by go_num, ?_, ?_⟩
        · rw [HF.out]
          exact ⟨zs ++ [(a1, n1, d1)] ++ [(a2, n2, d2)], by simpa [encS] using hown', hE2.out⟩
        · exact ((hb.alloc _).alloc _).grown hgrow (fun q hq => own_base ho q hq)
      case measure => simp [intOf]; omega
    · rw [List.take_of_length_le (by omega)] at hrow
      obtain ⟨og, oc, rfl⟩ := hrow.form
      go_wp2_with fail
      go_ret
      exact ⟨_, _, _, rfl, hrow, hb⟩
end Go.Proofs.Yteegjnobmbcjiaa
end
section
/- Chapter 4: facts on the answers. No program. -/
namespace Go.Proofs.Yteegjnobmbcjiaa
open Go.RowKit

theorem flat_all (ar : List Int) (c : List Lt) : (flatC c).all (okTerm ar) = c.all (okLit ar) := by
  induction c with
  | nil => rfl
  | cons x r ih => rw [flatC_cons]; simp only [List.all_cons, ih, okLit, Bool.and_assoc]
theorem goodTerms_flat (ar : List Int) {c : List Lt} (h : c.length ≤ 8) : goodTerms ar (flatC c) 16 = goodClause ar c := by
  unfold goodTerms goodClause okLits
  rw [flat_all, flatC_len, decide_eq_true (show 2 * c.length ≤ 16 by omega), decide_eq_true h, Bool.and_true, Bool.true_and]
theorem goodClause_long (ar : List Int) {c : List Lt} (h : ¬ c.length ≤ 8) : goodClause ar c = false := by
  unfold goodClause okLits
  rw [decide_eq_false h]; simp
theorem flat_mem {c : List Lt} {t : List Int} (h : t ∈ flatC c) : ∃ x ∈ c, t = x.2.1 ∨ t = x.2.2 := by
  unfold flatC at h
  obtain ⟨x, hx, ht⟩ := List.mem_flatMap.1 h
  exact ⟨x, hx, by simpa using ht⟩
theorem flat_ok {ar : List Int} {c : List Lt} (h : ∀ x ∈ c, okLit ar x = true) {t : List Int} (ht : t ∈ flatC c) : okTerm ar t = true := by
  obtain ⟨x, hx, e⟩ := flat_mem ht
  have := okLit_iff.1 (h x hx)
  rcases e with rfl | rfl
  · exact this.1
  · exact this.2
theorem mem_getD {α : Type} (l : List α) (d : α) (j : Nat) (h : j < l.length) : l.getD j d ∈ l := by
  rw [List.getD_eq_getElem?_getD, List.getElem?_eq_getElem h]; exact List.getElem_mem h
theorem ok_litC {ar : List Int} {c : List Lt} (h : goodClause ar c = true) {j : Nat} (hj : j < c.length) : okTerm ar (c.getD j lt0).2.1 = true ∧ okTerm ar (c.getD j lt0).2.2 = true :=
  okLits_get (goodClause_iff.1 h).2.2 j hj

theorem low_memC {t : List Int} (h : ∀ n ∈ t, -12 ≤ n) : ∀ k, k < t.length → -12 ≤ t.getD k 0 := fun k hk => h _ (mem_getD t 0 k hk)
theorem ok_low {ar t : List Int} (h : okTerm ar t = true) {n : Int} (hn : n ∈ t) : -12 ≤ n := by
  obtain ⟨k, hk, rfl⟩ := List.getElem_of_mem hn
  have := good_sym ar t h k hk
  simp [okSym, inB, hk] at this
  exact this.1
theorem flat_low {ar : List Int} {c : List Lt} (h : goodClause ar c = true) : ∀ k, k < (flatC c).flatten.length → -12 ≤ (flatC c).flatten.getD k 0 := by
  refine low_memC fun n hn => ?_
  obtain ⟨t, ht, hnt⟩ := List.mem_flatten.1 hn
  exact ok_low (flat_ok (goodClause_iff.1 h).2.2 ht) hnt

/-- The signs of c, those terms. -/
theorem zipC_len (c : List Lt) : ∀ ts : List (List Int), ts.length = 2 * c.length → (zipC c ts).length = c.length := by
  induction c with
  | nil => intro ts _; rfl
  | cons x c ih =>
    intro ts h
    match ts, h with
    | l :: r :: ts, h => simp [zipC, ih ts (by simp at h; omega)]
theorem zipC_flat (c : List Lt) : ∀ ts : List (List Int), ts.length = 2 * c.length → flatC (zipC c ts) = ts := by
  induction c with
  | nil => intro ts h; simp at h; subst h; rfl
  | cons x c ih =>
    intro ts h
    match ts, h with
    | l :: r :: ts, h => simp only [zipC, flatC_cons]; rw [ih ts (by simp at h; omega)]
theorem zipC_signs (c : List Lt) : ∀ ts : List (List Int), ts.length = 2 * c.length → (zipC c ts).map (·.1) = c.map (·.1) := by
  induction c with
  | nil => intro ts _; rfl
  | cons x c ih =>
    intro ts h
    match ts, h with
    | l :: r :: ts, h => simp [zipC, ih ts (by simp at h; omega)]
theorem zipC_get (c : List Lt) : ∀ (ts : List (List Int)) (j : Nat), ts.length = 2 * c.length → j < c.length → (zipC c ts).getD j lt0 = ((c.getD j lt0).1, ts.getD (2*j) [], ts.getD (2*j+1) []) := by
  induction c with
  | nil => intro ts j _ h; simp at h
  | cons x c ih =>
    intro ts j h hj
    match ts, h with
    | l :: r :: ts, h =>
      cases j with
      | zero => simp [zipC]
      | succ j =>
        have := ih ts j (by simp at h; omega) (by simpa using hj)
        simpa [zipC, show 2 * (j + 1) = 2 * j + 1 + 1 from by omega] using this
theorem zipC_map (f : List Int → List Int) (c : List Lt) : zipC c ((flatC c).map f) = c.map fun x => (x.1, f x.2.1, f x.2.2) := by
  induction c with
  | nil => rfl
  | cons x c ih => rw [flatC_cons]; simp [zipC, ih]

def varsInAns (ar : List Int) (c : List Lt) : List Int := if goodClause ar c then natsI (varsTo (mk (flatC c).flatten) 12) else []
theorem varsInAns_len (ar : List Int) (c : List Lt) : (varsInAns ar c).length ≤ 1048576 := by
  unfold varsInAns
  split
  · rw [natsI_len]; exact Nat.le_trans (varsTo_len _ _) (by omega)
  · exact Nat.zero_le _

def applyC (b : List (List Int)) (c : List Lt) : List Lt := c.map fun x => (x.1, appT b x.2.1, appT b x.2.2)
def applyCok (ar : List Int) (b : List (List Int)) (c : List Lt) : Bool := (goodSubst ar b && okLits ar c) && okLits ar (applyC b c)
def applyCAns (ar : List Int) (b : List (List Int)) (c : List Lt) : List Lt := if applyCok ar b c then applyC b c else []
theorem applyC_flat (b : List (List Int)) (c : List Lt) : flatC (applyC b c) = (flatC c).map (appT b) := by
  induction c with
  | nil => rfl
  | cons x c ih => rw [flatC_cons, show applyC b (x :: c) = (x.1, appT b x.2.1, appT b x.2.2) :: applyC b c from rfl, flatC_cons, ih]; rfl
theorem applyC_ok {ar : List Int} {b : List (List Int)} {c : List Lt} (hb : goodSubst ar b = true) (hc : okLits ar c = true) : okLits ar (applyC b c) = (flatC c).all (app40ok b) := by
  obtain ⟨hl, h⟩ := okLits_iff.1 hc
  unfold okLits
  rw [← flat_all, applyC_flat, show (applyC b c).length = c.length from by simp [applyC], decide_eq_true hl, Bool.true_and, List.all_map]
  rw [Bool.eq_iff_iff, List.all_eq_true, List.all_eq_true]
  constructor
  · intro k t ht
    rw [← app_ok hb (flat_ok h ht)]; exact k t ht
  · intro k t ht
    show okTerm ar (appT b t) = true
    rw [app_ok hb (flat_ok h ht)]; exact k t ht

def renC (c : List Lt) : List Lt := zipC c (renS [] (flatC c))
def renCAns (ar : List Int) (c : List Lt) : List Lt := if goodClause ar c then renC c else []
end Go.Proofs.Yteegjnobmbcjiaa
end
section
/- Chapter 4, the program: GoodClause, WeightOf. -/
namespace Go.Proofs.Yteegjnobmbcjiaa
open Go.RowKit

theorem short_flat {c : List Lt} (h : sumC c ≤ 1048576) : sumL (flatC c) ≤ 1048576 ∧ ∀ j, j < (flatC c).length → ((flatC c).getD j []).length ≤ 1048576 := by
  have h1 : sumL (flatC c) ≤ 1048576 := by have := sumC_eq c; unfold lenC at this; omega
  exact ⟨h1, fun j hj => by have := sumL_get (flatC c) j hj; omega⟩
theorem short_flat8 {c : List Lt} (h : sumC c ≤ 1048576) (h8 : c.length ≤ 8) : short (flatC c) := ⟨by rw [flatC_len]; omega, (short_flat h).2⟩

theorem short_flat8s {c : List Lt} (h : shortC c) (h8 : c.length ≤ 8) : short (flatC c) := by
  refine ⟨by rw [flatC_len]; omega, fun j hj => ?_⟩
  obtain ⟨x, hx, e⟩ := flat_mem (mem_getD (flatC c) [] j hj)
  obtain ⟨i, hi, rfl⟩ := List.getElem_of_mem hx
  have := h.2 i hi
  rw [show c.getD i lt0 = c[i] from by simp [List.getD, hi]] at this
  rcases e with e | e <;> rw [e]
  · exact this.1
  · exact this.2

set_option maxRecDepth 100000 in
set_option maxHeartbeats 400000 in
theorem iGoodClause_sh {l h l' h' : Nat} {v u : Value} {ar : List Int} {c : List Lt} {w : World} (ha : ar.length ≤ 1048576) (hv : SlI l h w v ar) (hc : shortC c) (hu : SlC l' h' w u c) :
    Calls Try.prog 32 #[.agg #[v], u] w (RetV w (.bool (goodClause ar c))) := by
  obtain ⟨ad, cap, rfl⟩ := hu.form
  have hle := hc.1
  by_cases h8 : c.length ≤ 8
  · have hd : decide ((c.length : Int) ≤ 8) = true := by rw [decide_eq_true]; omega
    have HE := Lib.hid (goodTerms_flat ar h8)
    have hsh := short_flat8s hc h8
    have HT := Lib.hid (fun (w' : World) (hb : Bel w w') => termsIn_c l' h' _ c w' (by omega) (hu.below hb))
    have HD := Lib.hid (fun (w' : World) (x : Value) (hb : Bel w w') (hx : SlS 0 w'.heap.size w' x (flatC c)) => goodTerms_c l h _ _ v x ar (flatC c) 16 w' (by omega) ha (hv.below hb) hsh hx)
    rw [HE.out] at HD
    clear hsh hle hu hv HE h8
    have HB0 : Bel w (w.alloc (.cells #[v] 30)).drew := (Bel.alloc0 _ _).drew
    have hbox0 : (w.alloc (.cells #[v] 30)).drew.cell? ⟨w.heap.size, 0, none⟩ = some v := boxc ((Bel.rfl' _).drew) 0 _ rfl
    go_enter Try.func32, Try.ntmps32
    go_wp2_with fail
    go_region_held3 (fun w' => Bel w w' ∧ w'.cell? ⟨w.heap.size, 0, none⟩ = some v)
      (first | exact ⟨HB2, hbox2⟩ | exact ⟨HB1, hbox1⟩ | exact ⟨HB0, hbox0⟩ | fail)
      (first | (go_at_call 74; refine (HD.out _ _ HB1 hrow).mono ?_; rintro e w2 ⟨rfl, hb2⟩; have HB2 := HB1.step hb2; have hbox2 := hb2.at (World.block_lt_of_cell? _ ⟨_, _, none⟩ hbox1) hbox1) | (go_at_call 75; refine (HT.out _ HB0).mono ?_; rintro e w1 ⟨ad1, n1, c1, rfl, hrw, hb1⟩; have HB1 := HB0.step hb1; have hbox1 := hb1.at (World.block_lt_of_cell? _ ⟨_, _, none⟩ hbox0) hbox0; have hrow := hrw.sls hb1) | fail)
    go_wp2_with fail
    go_ret
    exact ⟨rfl, HB2⟩
  · have hd : decide ((c.length : Int) ≤ 8) = false := by rw [decide_eq_false]; omega
    have E := Lib.hid (goodClause_long ar h8)
    clear h8
    go_enter Try.func32, Try.ntmps32
    go_wp2_with fail
    have hbox0 : (w.alloc (.cells #[v] 30)).drew.cell? ⟨w.heap.size, 0, none⟩ = some v := boxc ((Bel.rfl' _).drew) 0 _ rfl
    go_region
    all_goals
      go_wp2_with fail
      go_ret
      exact ⟨by rw [E.out]; rfl, (Bel.alloc0 _ _).drew⟩
theorem iGoodClause_t {l h l' h' : Nat} {v u : Value} {ar : List Int} {c : List Lt} {w : World} (ha : ar.length ≤ 1048576) (hv : SlI l h w v ar) (hc : sumC c ≤ 1048576) (hu : SlC l' h' w u c) :
    Calls Try.prog 32 #[.agg #[v], u] w (RetV w (.bool (goodClause ar c))) := iGoodClause_sh ha hv (shortC_of_sum hc) hu
theorem iGoodClause_v {l h l' h' : Nat} {v u : Value} {ar : List Int} {c : List Lt} {w : World} {q : Bool} (he : goodClause ar c = q) (ha : ar.length ≤ 1048576) (hv : SlI l h w v ar) (hc : sumC c ≤ 1048576) (hu : SlC l' h' w u c) :
    Calls Try.prog 32 #[.agg #[v], u] w (RetV w (.bool q)) := by subst he; exact iGoodClause_t ha hv hc hu

set_option maxRecDepth 100000 in
set_option maxHeartbeats 400000 in
theorem clauseWeight_c (l' h' : Nat) (u : Value) (c : List Lt) (w : World) (hc : sumC c ≤ 1048576) (hu : SlC l' h' w u c) :
    Calls Try.prog 82 #[u] w (RetV w (.int .i64 (sumL (flatC c) : Nat))) := by
  have hle := sumC_len c
  have hsum := (short_flat hc).1
  have hfl := flatC_len c
  have HC := Lib.hid (fun (w' : World) (hb : Bel w w') => termsIn_c l' h' u c w' (by omega) (hu.below hb))
  have hcl : c.length ≤ 1048576 := by omega
  clear hc hu
  go_enter Try.func82, Try.ntmps82
  go_wp2_with fail
  refine (HC.out _ (Bel.rfl' _)).mono ?_; rintro e w2 ⟨a2, n2, c2, rfl, hrow, hb2⟩
  generalize flatC c = L at *
  have hs := hrow.sls hb2
  obtain ⟨ad, cap, e⟩ := hs.form
  simp only [Value.slice.injEq] at e
  obtain ⟨rfl, rfl, rfl⟩ := e
  go_wp2_with fail
  go_loopw [3, 9] (fun m i wr => ∃ k : Nat, k ≤ L.length ∧ i = .int .i64 k ∧ m = .int .i64 (sumL (L.take k) : Nat) ∧ Bel w2 wr) (fun _ i _ => L.length - (intOf i).toNat)
  case atStart => exact ⟨0, Nat.zero_le _, rfl, by simp [sumL], Bel.rfl' _⟩
  case round =>
    obtain ⟨k, hk, rfl, rfl, hb⟩ := hrel
    by_cases hlt : k < L.length
    · obtain ⟨b, off, u1, rfl, hbs, c1, s1⟩ := hs.at hb k hlt
      have hst := sumL_take L k hlt
      have hsl := sumL_get L k hlt
      have hin1 : (k : Int) < L.length := by omega
      have hin2 : (k : Int) < 2 * c.length := by omega
      clear hs hrow
      generalize L.getD k [] = x at *
      obtain ⟨a1, d1, rfl⟩ := s1.form
      have HE : Hid (((sumL (L.take k) : Nat) : Int) + (x.length : Int) = (sumL (L.take (k+1)) : Nat)) := by show _ = _; omega
      have i2 := IntWalk.i64_in (((sumL (L.take k) : Nat) : Int) + (x.length : Int)) (by omega)
      clear s1 hst hsl
      go_wp2_with fail
      go_roundw
      case rel => exact ⟨k+1, by omega, by go_num, by rw [← HE.out], hb⟩
      case measure => simp [intOf]; omega
    · have hin2 : ¬ (k : Int) < 2 * c.length := by omega
      rw [sumL_all L k hlt]
      go_wp2_with fail
      go_ret
      exact ⟨rfl, hb2.step hb⟩

set_option maxRecDepth 100000 in
set_option maxHeartbeats 400000 in
theorem iWeightOf_t {l h l' h' : Nat} {v u : Value} {ar : List Int} {c : List Lt} {w : World} (ha : ar.length ≤ 1048576) (hv : SlI l h w v ar) (hc : sumC c ≤ 1048576) (hu : SlC l' h' w u c) :
    Calls Try.prog 39 #[.agg #[v], u] w (RetV w (.tuple #[.int .i64 (weightAns ar c), .bool (goodClause ar c)])) := by
  unfold weightAns
  cases hg : goodClause ar c with
  | false =>
    rw [if_neg (by simp)]
    have HG := Lib.hid hg; clear hg
    go_enter Try.func39, Try.ntmps39
    go_wp2_with fail
    refine (iGoodClause_v HG.out ha (hv.alloc _) hc (hu.alloc _)).mono ?_; rintro e w1 ⟨rfl, hb1⟩
    go_wp2_with fail
    go_ret2
    exact ⟨rfl, hb1.of_alloc⟩
  | true =>
    rw [if_pos rfl]
    have HG := Lib.hid hg; clear hg
    go_enter Try.func39, Try.ntmps39
    go_wp2_with fail
    refine (iGoodClause_v HG.out ha (hv.alloc _) hc (hu.alloc _)).mono ?_; rintro e w1 ⟨rfl, hb1⟩
    have HC := Lib.hid (clauseWeight_c _ _ u c w1 hc ((hu.alloc _).below hb1))
    clear hu hv
    generalize sumL (flatC c) = q at *
    go_wp2_with fail
    refine HC.out.mono ?_; rintro e w2 ⟨rfl, hb2⟩
    go_wp2_with fail
    go_ret2
    exact ⟨rfl, (hb1.step hb2).of_alloc⟩
end Go.Proofs.Yteegjnobmbcjiaa
end
section
/- Chapter 4, the program: VarsIn. -/
namespace Go.Proofs.Yteegjnobmbcjiaa
open Go.RowKit

set_option maxRecDepth 100000 in
set_option maxHeartbeats 400000 in
theorem concat_nil (w : World) : Calls Try.prog 130 #[.slice none 0 0] w (RetI w []) := by
  go_enter Try.func130, Try.ntmps130
  go_wp2_with fail
  go_loop [3, 11] (fun n i => n = .int .i64 0 ∧ i = .int .i64 0) (fun _ _ => 0)
  case atStart => exact ⟨rfl, rfl⟩
  case round =>
    obtain ⟨rfl, rfl⟩ := hrel
    go_wp2_with fail
    refine (grow_c 0 _ (by omega)).mono ?_; rintro e w1 ⟨ad, m, c1, rfl, hown, hb⟩
    go_wp2_with fail
    go_loopw [6, 27] (fun v i wr => i = .int .i64 0 ∧ v = .slice ad m c1 ∧ wr = w1) (fun _ _ _ => 0)
    case atStart => exact ⟨rfl, rfl, rfl⟩
    case round =>
      obtain ⟨rfl, rfl, rfl⟩ := hrel
      go_wp2_with fail
      go_ret
      exact ⟨_, _, _, rfl, OwnI.of_row hown, hb⟩
theorem concatV_c (W : World) (v : Value) (L : List (List Int)) (w : World) (hb : Bel W w) (hL : L.length ≤ 1048576) (hs : sumLen L ≤ 1099511627776) (hv : RowV W w v L) :
    Calls Try.prog 130 #[v] w (RetI w L.flatten) := by
  have hsl := hv.sls hb
  obtain ⟨zs, h1, h2⟩ := hv
  rcases h1.2 with ⟨rfl, hn⟩ | ⟨g, cap, cur, rfl, _⟩
  · have : L = [] := List.length_eq_zero_iff.1 (by rw [← h2.1]; exact hn)
    subst this
    exact concat_nil w
  · obtain ⟨ad, cap', e, hc, hm, hr⟩ := hsl
    simp only [Value.slice.injEq] at e
    obtain ⟨rfl, e2, rfl⟩ := e
    rw [e2]
    refine concat_c 0 w.heap.size g 0 cap L w hL hs (fun j hj => ?_)
    obtain ⟨b, off, e3, _, _, hx⟩ := hr (by omega)
    simp only [Option.some.injEq, Addr.mk.injEq, and_true] at e3
    obtain ⟨rfl, rfl⟩ := e3
    obtain ⟨u, h1, h2⟩ := hx j hj
    obtain ⟨y, z, rfl⟩ := h2.form
    exact ⟨y, z, h1, h2⟩

set_option maxRecDepth 100000 in
set_option maxHeartbeats 400000 in
theorem clauseVars_c {l' h' : Nat} {u : Value} {c : List Lt} {w : World} (hsum : sumL (flatC c) ≤ 1048576) (h8 : c.length ≤ 8) (hlow : ∀ k, k < (flatC c).flatten.length → -12 ≤ (flatC c).flatten.getD k 0) (hu : SlC l' h' w u c) :
    Calls Try.prog 84 #[u] w (RetI w (natsI (varsTo (mk (flatC c).flatten) 12))) := by
  have hfl := flatC_len c
  have HC := Lib.hid (termsIn_c l' h' u c w (by omega) hu)
  have hcl : c.length ≤ 1048576 := by omega
  clear hu
  go_enter Try.func84, Try.ntmps84
  go_wp2_with fail
  refine HC.out.mono ?_; rintro e w2 ⟨a2, n2, c2, rfl, hrow, hb2⟩
  have hsl : sumLen (flatC c) = sumL (flatC c) := rfl
  have hfn := flat_len (flatC c)
  generalize flatC c = L at *
  go_wp2_with fail
  refine (concatV_c w _ L w2 hb2 (by omega) (by omega) hrow).mono ?_; rintro e w3 ⟨a3, n3, c3, rfl, ho3, hb3⟩
  go_wp2_with fail
  refine (marksOf_c _ _ _ L.flatten w3 (by omega) hlow ho3.sl).mono ?_; rintro e w4 ⟨rfl, hb4⟩
  go_wp2_with fail
  refine (mvars_c _ w4).mono ?_; rintro e w5 ⟨a5, n5, c5, rfl, ho5, hb5⟩
  have HB4 := (hb2.step hb3).step hb4
  go_wp2_with fail
  go_ret
  exact ⟨_, _, _, rfl, ho5.mono HB4.size (Nat.le_refl _), HB4.step hb5⟩

set_option maxRecDepth 100000 in
set_option maxHeartbeats 400000 in
theorem iVarsIn_t {l h l' h' : Nat} {v u : Value} {ar : List Int} {c : List Lt} {w : World} (ha : ar.length ≤ 1048576) (hv : SlI l h w v ar) (hc : sumC c ≤ 1048576) (hu : SlC l' h' w u c) :
    Calls Try.prog 41 #[.agg #[v], u] w (RetIB w (varsInAns ar c) (goodClause ar c)) := by
  unfold varsInAns
  cases hg : goodClause ar c with
  | false =>
    rw [if_neg (by simp)]
    have HG := Lib.hid hg; clear hg
    go_enter Try.func41, Try.ntmps41
    go_wp2_with fail
    refine (iGoodClause_v HG.out ha (hv.alloc _) hc (hu.alloc _)).mono ?_; rintro e w1 ⟨rfl, hb1⟩
    go_wp2_with fail
    go_ret2
    exact ⟨_, _, _, rfl, OwnI.nil _ _ _, hb1.of_alloc⟩
  | true =>
    rw [if_pos rfl]
    have hsum := (short_flat hc).1
    have hlow := flat_low hg
    have h8 := (goodClause_iff.1 hg).2.1
    have HG := Lib.hid hg; clear hg
    have HC := Lib.hid (fun (w' : World) (hb : Bel w w') => clauseVars_c hsum h8 hlow (hu.below hb))
    go_enter Try.func41, Try.ntmps41
    go_wp2_with fail
    refine (iGoodClause_v HG.out ha (hv.alloc _) hc (hu.alloc _)).mono ?_; rintro e w1 ⟨rfl, hb1⟩
    clear hc hu hv hlow
    go_wp2_with fail
    refine (HC.out _ hb1.of_alloc).mono ?_; rintro e w5 ⟨a5, n5, c5, rfl, ho5, hb5⟩
    go_wp2_with fail
    go_ret2
    exact ⟨_, _, _, rfl, ho5.mono hb1.of_alloc.size (Nat.le_refl _), hb1.of_alloc.step hb5⟩
end Go.Proofs.Yteegjnobmbcjiaa
end
section
/- Chapter 5: the value of a term; of an instance. No program. -/
namespace Go.Proofs.Yteegjnobmbcjiaa
open Go.RowKit

/-- The entry of symbol n's table for the values vs. -/
def noOf (sz : Int) (vs : List Int) : Int := vs.foldl (fun no v => no * sz + v) 0
def entry (sz : Int) (tb : List (List Int)) (n : Int) (vs : List Int) : Int := (tb.getD n.toNat []).getD (noOf sz vs).toNat 0
def evF (ar t : List Int) (sz : Int) (tb : List (List Int)) (env : List Int) : Nat → Nat → Int
  | 0, _ => 0
  | f + 1, i => if t.getD i 0 < 0 then env.getD (-1 - t.getD i 0).toNat 0 else entry sz tb (t.getD i 0) ((argsOf ar t i).map (evF ar t sz tb env f))
def evT (ar : List Int) (sz : Int) (tb : List (List Int)) (env t : List Int) : Int := evF ar t sz tb env t.length 0

/-- The terms y have the values vs; none: one term; some m: m terms. -/
inductive Ev (ar : List Int) (sz : Int) (tb : List (List Int)) (env : List Int) : Option Nat → List Int → List Int → Prop
  | var (n : Int) : okSym ar n = true → n < 0 → Ev ar sz tb env none [n] [env.getD (-1 - n).toNat 0]
  | node (n : Int) (ys vs : List Int) : okSym ar n = true → 0 ≤ n → Ev ar sz tb env (some (arOf ar n)) ys vs → Ev ar sz tb env none (n :: ys) [entry sz tb n vs]
  | nil : Ev ar sz tb env (some 0) [] []
  | cons (m : Nat) (y ys : List Int) (v : Int) (vs : List Int) : Ev ar sz tb env none y [v] → Ev ar sz tb env (some m) ys vs → Ev ar sz tb env (some (m + 1)) (y ++ ys) (v :: vs)
section
variable {ar : List Int} {sz : Int} {tb : List (List Int)} {env : List Int}
theorem Ev.seq {s : Option Nat} {y vs : List Int} (h : Ev ar sz tb env s y vs) : seqT ar (match s with | none => 1 | some m => m) y := by
  induction h with
  | var n h1 h2 => exact seqT_cons.2 ⟨h1, by rw [arOf_neg h2]; rfl⟩
  | node n ys vs h1 h2 _ ih => exact seqT_cons.2 ⟨h1, by rw [Nat.zero_add]; exact ih⟩
  | nil => rfl
  | cons m y ys v vs _ _ ih1 ih2 =>
    have := seqT_append ih1 ih2
    rwa [Nat.add_comm] at this
theorem Ev.det {s : Option Nat} {y vs : List Int} (h : Ev ar sz tb env s y vs) : ∀ {z us : List Int}, Ev ar sz tb env s z us → z = y → us = vs := by
  induction h with
  | var n h1 h2 =>
    intro z us h' e
    cases h' with
    | var n' _ _ => simp at e; rw [e]
    | node n' ys' vs' _ h3 _ => simp at e; omega
  | node n ys vs h1 h2 _ ih =>
    intro z us h' e
    cases h' with
    | var n' _ h3 => simp at e; omega
    | node n' ys' vs' _ _ h4 =>
      simp at e
      obtain ⟨rfl, rfl⟩ := e
      rw [ih h4 rfl]
  | nil =>
    intro z us h' e
    cases h' with
    | nil => rfl
  | cons m y ys v vs hy hys ih1 ih2 =>
    intro z us h' e
    cases h' with
    | cons _ y' ys' v' vs' h3 h4 =>
      have e1 : y' = y := seq_prefix (show seqT ar 1 y' from h3.seq) (show seqT ar 1 y from hy.seq) e
      subst e1
      have e2 := List.append_cancel_left e
      subst e2
      have e3 := ih1 h3 rfl
      simp at e3
      rw [e3, ih2 h4 rfl]
theorem args_ev {t : List Int} {g : Nat → Int} : ∀ (k p e : Nat), endGo ar (t.drop p) k p = some e → (∀ a ∈ argsGo ar t k p, ∀ q, endOf ar t a = some q → Ev ar sz tb env none (partOf t a q) [g a]) → Ev ar sz tb env (some k) (partOf t p e) ((argsGo ar t k p).map g) := by
  intro k
  induction k with
  | zero =>
    intro p e h _
    rw [endGo_zero] at h
    simp at h
    subst h
    have : partOf t p p = [] := by simp [partOf]
    rw [this]
    exact Ev.nil
  | succ k ih =>
    intro p e h hp
    obtain ⟨q, hq, hr, h1, h2⟩ := ends_step ar t p k e h
    have hgo : argsGo ar t (k+1) p = p :: argsGo ar t k q := by rw [argsGo]; simp [hq]
    rw [hgo] at hp ⊢
    rw [part_split (Nat.le_of_lt h1) h2, List.map_cons]
    exact Ev.cons k _ _ _ _ (hp p List.mem_cons_self q hq) (ih q e hr (fun a ha => hp a (List.mem_cons_of_mem _ ha)))
theorem ev_at {t : List Int} (h : okTerm ar t = true) : ∀ (n i e : Nat), t.length - i ≤ n → i < t.length → endOf ar t i = some e → Ev ar sz tb env none (partOf t i e) [evF ar t sz tb env n i] := by
  intro n
  induction n with
  | zero => intro i e hn hi; omega
  | succ n ih =>
    intro i e hn hi he
    have hs := good_sym ar t h i hi
    have hend : endGo ar (t.drop (i+1)) (arOf ar (t.getD i 0)) (i+1) = some e := by
      have h1 := he
      unfold endOf at h1
      rw [drop_cons t i hi, endGo_cons, if_pos hs, Nat.zero_add] at h1
      exact h1
    have hge := endGo_ge _ _ _ _ _ hend
    have hpart : partOf t i e = t.getD i 0 :: partOf t (i+1) e := by
      unfold partOf
      rw [drop_cons t i hi, show e - i = (e - (i+1)) + 1 by omega, List.take_succ_cons]
    rw [hpart, evF]
    by_cases h0 : t.getD i 0 < 0
    · rw [if_pos h0]
      rw [arOf_neg h0, endGo_zero] at hend
      simp at hend
      subst hend
      have : partOf t (i+1) (i+1) = [] := by simp [partOf]
      rw [this]
      exact Ev.var _ hs h0
    · rw [if_neg h0]
      exact Ev.node _ _ _ hs (by omega) (args_ev _ (i+1) e hend (fun a ha q hq => by
        have hb := argsOf_bd ar t h i hi a ha
        exact ih a q (by omega) hb.2 hq))
/-- A valid term has its value. -/
theorem ev_whole {t : List Int} (h : okTerm ar t = true) : Ev ar sz tb env none t [evT ar sz tb env t] := by
  obtain ⟨h1, _, h3⟩ := (okTerm_iff ar t).1 h
  have := ev_at (sz := sz) (tb := tb) (env := env) h t.length 0 t.length (by omega) (by omega) h3
  rwa [show partOf t 0 t.length = t from by simp [partOf]] at this
theorem ev_eq {t : List Int} {n : Int} (h : okTerm ar t = true) (hv : Ev ar sz tb env none t [n]) : evT ar sz tb env t = n := by
  have := hv.det (ev_whole h) rfl
  simpa using this
/-- More fuel changes nothing. -/
theorem evF_fuel {t : List Int} (h : okTerm ar t = true) (n i : Nat) (hn : t.length - i ≤ n) (hi : i < t.length) : evF ar t sz tb env n i = evF ar t sz tb env (t.length - i) i := by
  obtain ⟨e, he, _⟩ := good_end ar t h i hi
  have h1 := ev_at (sz := sz) (tb := tb) (env := env) h n i e hn hi he
  have h2 := ev_at (sz := sz) (tb := tb) (env := env) h (t.length - i) i e (Nat.le_refl _) hi he
  have := h2.det h1 rfl
  simpa using this
/-- The value of an instance is the value under the values of the substitution. -/
theorem Ev.sub {env' : List Int} {b : List (List Int)} (hb : ∀ n : Int, okSym ar n = true → n < 0 → Ev ar sz tb env none (one1 b n) [env'.getD (-1 - n).toNat 0]) {s : Option Nat} {y vs : List Int} (h : Ev ar sz tb env' s y vs) : Ev ar sz tb env s (appT b y) vs := by
  induction h with
  | var n h1 h2 => rw [appT_one]; exact hb n h1 h2
  | node n ys vs h1 h2 _ ih =>
    have e : appT b (n :: ys) = n :: appT b ys := by
      show one1 b n ++ appT b ys = _
      rw [one1_sym (by omega)]; rfl
    rw [e]
    exact Ev.node n _ vs h1 h2 ih
  | nil => exact Ev.nil
  | cons m y ys v vs _ _ ih1 ih2 => rw [appT_append]; exact Ev.cons m _ _ v vs ih1 ih2
/-- The values that an assignment gives to a substitution. -/
def subEnv (ar : List Int) (sz : Int) (tb : List (List Int)) (env : List Int) (b : List (List Int)) : List Int := (List.range 12).map fun v => if 0 < (b.getD v []).length then evT ar sz tb env (b.getD v []) else env.getD v 0
theorem sub_value {b : List (List Int)} {t : List Int} (ht : okTerm ar t = true) (hb : ∀ v, v < 12 → 0 < (b.getD v []).length → okTerm ar (b.getD v []) = true) (hi : okTerm ar (appT b t) = true) :
    evT ar sz tb env (appT b t) = evT ar sz tb (subEnv ar sz tb env b) t := by
  refine ev_eq hi (Ev.sub (env' := subEnv ar sz tb env b) (fun n h1 h2 => ?_) (ev_whole ht))
  have hlt : (-1 - n).toNat < 12 := by unfold okSym inB at h1; simp at h1; omega
  have hg : (subEnv ar sz tb env b).getD (-1 - n).toNat 0 = if 0 < (b.getD (-1 - n).toNat []).length then evT ar sz tb env (b.getD (-1 - n).toNat []) else env.getD (-1 - n).toNat 0 := by
    unfold subEnv
    rw [List.getD_eq_getElem?_getD, List.getElem?_map, List.getElem?_range hlt]
    rfl
  rw [hg]
  by_cases hp : 0 < (b.getD (-1 - n).toNat []).length
  · rw [if_pos hp, one1_var h2 hp]
    exact ev_whole (hb _ hlt hp)
  · rw [if_neg hp, one1_free hp]
    exact Ev.var n h1 h2
end
end Go.Proofs.Yteegjnobmbcjiaa
end
section
/- Chapter 5: the values of terms lie in the world. No program. -/
namespace Go.Proofs.Yteegjnobmbcjiaa
open Go.RowKit

/-- The values of terms lie below the size. -/
theorem noOf_snoc (sz : Int) (vs : List Int) (v : Int) : noOf sz (vs ++ [v]) = noOf sz vs * sz + v := by simp [noOf]
theorem fold_bd {sz : Int} (h1 : 1 ≤ sz) : ∀ (vs : List Int) (acc : Int) (m : Nat), (∀ v ∈ vs, 0 ≤ v ∧ v ≤ sz - 1) → 0 ≤ acc → acc < ((sz.toNat ^ m : Nat) : Int) → 0 ≤ vs.foldl (fun no v => no * sz + v) acc ∧ vs.foldl (fun no v => no * sz + v) acc < ((sz.toNat ^ (m + vs.length) : Nat) : Int) := by
  intro vs
  induction vs with
  | nil => intro acc m _ h2 h3; exact ⟨h2, h3⟩
  | cons v vs ih =>
    intro acc m h h2 h3
    obtain ⟨v1, v2⟩ := h v (by simp)
    have hz : ((sz.toNat : Nat) : Int) = sz := by omega
    have h4 := Int.mul_nonneg h2 (show 0 ≤ sz by omega)
    have h5 : (acc + 1) * sz ≤ ((sz.toNat ^ m : Nat) : Int) * sz := Int.mul_le_mul_of_nonneg_right (by omega) (by omega)
    rw [Int.add_mul] at h5
    have h6 : ((sz.toNat ^ (m + 1) : Nat) : Int) = ((sz.toNat ^ m : Nat) : Int) * sz := by rw [Nat.pow_succ, Int.natCast_mul, hz]
    have := ih (acc * sz + v) (m + 1) (fun x hx => h x (by simp [hx])) (by omega) (by omega)
    rw [show m + (v :: vs).length = m + 1 + vs.length from by simp; omega]
    exact this
theorem noOf_bd {sz : Int} (h1 : 1 ≤ sz) (vs : List Int) (h : ∀ v ∈ vs, 0 ≤ v ∧ v ≤ sz - 1) : 0 ≤ noOf sz vs ∧ noOf sz vs < (longW sz vs.length : Nat) := by
  have := fold_bd h1 vs 0 0 h (Int.le_refl _) (by simp)
  rw [Nat.zero_add] at this
  exact this
theorem evT_bd {ar : List Int} {sz : Int} {tb : List (List Int)} {env : List Int} (_ : goodSign ar = true) (hw : isWorld ar sz tb = true) (he : okEnv sz env = true) {s : Option Nat} {y vs : List Int} (h : Ev ar sz tb env s y vs) :
    (∀ v ∈ vs, 0 ≤ v ∧ v ≤ sz - 1) ∧ vs.length = (match s with | none => 1 | some m => m) := by
  obtain ⟨w1, w2, w3, w4⟩ := isWorld_iff.1 hw
  obtain ⟨e1, e2⟩ := okEnv_iff.1 he
  induction h with
  | var n h1 h2 =>
    refine ⟨fun v hv => ?_, rfl⟩
    simp at hv
    subst hv
    exact e2 _ (by unfold okSym inB at h1; simp at h1; omega)
  | node n ys vs h1 h2 _ ih =>
    refine ⟨fun v hv => ?_, rfl⟩
    simp at hv
    subst hv
    have hn : n.toNat < tb.length := by unfold okSym inB at h1; simp at h1; omega
    obtain ⟨t1, t2⟩ := w4 n.toNat hn
    obtain ⟨i1, i2⟩ := ih
    simp only at i2
    have hb := noOf_bd w1 vs i1
    unfold entry
    refine t2 _ ?_
    rw [t1]
    have ha : (ar.getD n.toNat 0).toNat = vs.length := by rw [i2]; unfold arOf; rw [if_neg (by omega)]
    have : longW sz (ar.getD n.toNat 0) = longW sz (vs.length : Nat) := by unfold longW; rw [ha]; rfl
    omega
  | nil => exact ⟨fun v hv => by simp at hv, rfl⟩
  | cons m y ys v vs _ _ ih1 ih2 =>
    refine ⟨fun x hx => ?_, ?_⟩
    · rcases List.mem_cons.1 hx with rfl | hx
      · exact ih1.1 _ (by simp)
      · exact ih2.1 _ hx
    · simp at ih2 ⊢; exact ih2.2

end Go.Proofs.Yteegjnobmbcjiaa
end
section
/- Chapter 5: the value of a term, reckoned from its end. No program. -/
namespace Go.Proofs.Yteegjnobmbcjiaa
open Go.RowKit

/-- The values of the terms that a list is. -/
def sufV (ar : List Int) (sz : Int) (tb : List (List Int)) (env : List Int) : List Int → List Int
  | [] => []
  | n :: r => if n < 0 then env.getD (-1 - n).toNat 0 :: sufV ar sz tb env r else entry sz tb n ((sufV ar sz tb env r).take (arOf ar n)) :: (sufV ar sz tb env r).drop (arOf ar n)
section
variable {ar : List Int} {sz : Int} {tb : List (List Int)} {env : List Int}
theorem sufV_neg {n : Int} {r : List Int} (h : n < 0) : sufV ar sz tb env (n :: r) = env.getD (-1 - n).toNat 0 :: sufV ar sz tb env r := by rw [sufV, if_pos h]
theorem sufV_sym {n : Int} {r : List Int} (h : ¬ n < 0) : sufV ar sz tb env (n :: r) = entry sz tb n ((sufV ar sz tb env r).take (arOf ar n)) :: (sufV ar sz tb env r).drop (arOf ar n) := by rw [sufV, if_neg h]
theorem sufV_len : ∀ y : List Int, (sufV ar sz tb env y).length ≤ y.length := by
  intro y
  induction y with
  | nil => exact Nat.le_refl _
  | cons n r ih =>
    by_cases h : n < 0
    · rw [sufV_neg h]; simp; exact ih
    · rw [sufV_sym h]; simp; omega
theorem Ev.len {s : Option Nat} {y vs : List Int} (h : Ev ar sz tb env s y vs) : vs.length = (match s with | none => 1 | some m => m) := by
  induction h with
  | var n h1 h2 => rfl
  | node n ys vs h1 h2 _ ih => rfl
  | nil => rfl
  | cons m y ys v vs _ _ ih1 ih2 => simp at ih2 ⊢; exact ih2
theorem Ev.suf {s : Option Nat} {y vs : List Int} (h : Ev ar sz tb env s y vs) : ∀ r, sufV ar sz tb env (y ++ r) = vs ++ sufV ar sz tb env r := by
  induction h with
  | var n h1 h2 => intro r; exact sufV_neg h2
  | node n ys vs h1 h2 hy ih =>
    intro r
    have hl := hy.len
    simp only at hl
    show sufV ar sz tb env (n :: (ys ++ r)) = _
    rw [sufV_sym (by omega), ih r, ← hl, List.take_left', List.drop_left']
    · rfl
    · rfl
    · rfl
  | nil => intro r; rfl
  | cons m y ys v vs _ _ ih1 ih2 =>
    intro r
    rw [List.append_assoc, ih1, ih2]
    rfl
theorem suf_ev {t : List Int} (h : okTerm ar t = true) : ∀ (k i : Nat), t.length - i ≤ k → i ≤ t.length → ∃ m, Ev ar sz tb env (some m) (t.drop i) (sufV ar sz tb env (t.drop i)) := by
  intro k
  induction k with
  | zero =>
    intro i hk hi
    rw [List.drop_of_length_le (by omega)]
    exact ⟨0, Ev.nil⟩
  | succ k ih =>
    intro i hk hi
    by_cases hlt : i < t.length
    · obtain ⟨e, he, h1, h2⟩ : ∃ e, endOf ar t i = some e ∧ i < e ∧ e ≤ t.length := by
        obtain ⟨e, he, h2⟩ := good_end ar t h i hlt
        refine ⟨e, he, ?_, by omega⟩
        have hs := good_sym ar t h i hlt
        unfold endOf at he
        rw [drop_cons t i hlt, endGo_cons, if_pos hs, Nat.zero_add] at he
        have := endGo_ge _ _ _ _ _ he
        omega
      obtain ⟨m, hm⟩ := ih e (by omega) h2
      have hp := ev_at (sz := sz) (tb := tb) (env := env) h (t.length - i) i e (Nat.le_refl _) hlt he
      have hd : t.drop i = partOf t i e ++ t.drop e := by
        unfold partOf
        conv => lhs; rw [← List.take_append_drop (e - i) (t.drop i)]
        rw [List.drop_drop, show i + (e - i) = e from by omega]
      have hsuf := hp.suf (t.drop e)
      rw [← hd] at hsuf
      refine ⟨m + 1, ?_⟩
      rw [hsuf, hd]
      exact Ev.cons m _ _ _ _ hp hm
    · rw [List.drop_of_length_le (by omega)]
      exact ⟨0, Ev.nil⟩
theorem suf_all {t : List Int} (h : okTerm ar t = true) : sufV ar sz tb env t = [evT ar sz tb env t] := by
  have := (ev_whole (sz := sz) (tb := tb) (env := env) h).suf []
  rw [List.append_nil] at this
  exact this
theorem suf_bd (hg : goodSign ar = true) (hw : isWorld ar sz tb = true) (he : okEnv sz env = true) {t : List Int} (h : okTerm ar t = true) (i : Nat) (hi : i ≤ t.length) : ∀ v ∈ sufV ar sz tb env (t.drop i), 0 ≤ v ∧ v ≤ sz - 1 := by
  obtain ⟨m, hm⟩ := suf_ev (sz := sz) (tb := tb) (env := env) h (t.length - i) i (Nat.le_refl _) hi
  exact (evT_bd hg hw he hm).1
/-- The arguments of the symbol at i stand on top. -/
theorem suf_args {t : List Int} (h : okTerm ar t = true) (i : Nat) (hi : i < t.length) (hn : ¬ t.getD i 0 < 0) : arOf ar (t.getD i 0) ≤ (sufV ar sz tb env (t.drop (i+1))).length := by
  obtain ⟨m, hm⟩ := suf_ev (sz := sz) (tb := tb) (env := env) h (t.length - i) i (Nat.le_refl _) (by omega)
  rw [drop_cons t i hi, sufV_sym hn] at hm
  generalize hY : sufV ar sz tb env (t.drop (i+1)) = Y at *
  generalize hT : t.getD i 0 :: t.drop (i+1) = T at hm
  generalize hV : entry sz tb (t.getD i 0) (Y.take (arOf ar (t.getD i 0))) :: Y.drop (arOf ar (t.getD i 0)) = V at hm
  clear hV
  generalize t.getD i 0 = s at *
  cases hm with
  | nil => simp at hT
  | cons m y ys v vs h1 h2 =>
    cases h1 with
    | var n _ h3 =>
      simp at hT
      omega
    | node n ys' vs' _ _ h4 =>
      simp at hT
      obtain ⟨rfl, e2⟩ := hT
      have := h4.suf ys
      rw [← e2, hY] at this
      have hl := h4.len
      simp only at hl
      rw [this]; simp; omega
end

/-- The stack: forty numbers, the first value on top. -/
def Stk (w : World) (B : Nat) (vs : List Int) : Prop :=
  B < w.heap.size ∧ (∀ j, j < 40 → ∃ x : Int, w.cell? ⟨B, j, none⟩ = some (.int .i64 x) ∧ w.frozen? ⟨B, j, none⟩ = false) ∧ ∀ j, j < vs.length → w.cell? ⟨B, vs.length - 1 - j, none⟩ = some (.int .i64 (vs.getD j 0))
theorem Stk.new (w : World) (T : TypeId) (cs : Array Value) (hcs : cs = Array.replicate 40 (.int .i64 0)) : Stk (w.alloc (.cells cs T)) w.heap.size [] := by
  subst hcs
  refine ⟨by simp, fun j hj => ⟨0, ?_, ?_⟩, fun j h => by simp at h⟩
  · rw [World.cell?_alloc_new w]; simp [hj]
  · exact World.frozen?_alloc_at _ _ _ _ rfl
theorem Stk.below {w w' : World} {B : Nat} {vs : List Int} (h : Stk w B vs) (hb : Bel w w') : Stk w' B vs := by
  obtain ⟨h1, h2, h3⟩ := h
  refine ⟨Nat.lt_of_lt_of_le h1 hb.size, fun j hj => ?_, fun j a => hb.at h1 (h3 j a)⟩
  obtain ⟨x, e1, e2⟩ := h2 j hj
  exact ⟨x, hb.at h1 e1, (hb.frozen (p := ⟨B, j, none⟩) h1).trans e2⟩
theorem Stk.drop {w : World} {B : Nat} {vs : List Int} (h : Stk w B vs) (a : Nat) (ha : a ≤ vs.length) : Stk w B (vs.drop a) := by
  refine ⟨h.1, h.2.1, fun j hj => ?_⟩
  rw [List.length_drop] at hj ⊢
  have := h.2.2 (a + j) (by omega)
  rw [show vs.length - 1 - (a + j) = vs.length - a - 1 - j from by omega] at this
  rw [this]
  simp [List.getD, List.getElem?_drop]
theorem Stk.push {w : World} {B : Nat} {vs : List Int} (h : Stk w B vs) (x : Int) (hl : vs.length < 40) : Stk (w.setCell ⟨B, vs.length, none⟩ (.int .i64 x)) B (x :: vs) := by
  obtain ⟨h1, h2, h3⟩ := h
  obtain ⟨x0, e1, e2⟩ := h2 vs.length hl
  have hne : ∀ j, j ≠ vs.length → (⟨B, vs.length, none⟩ : Addr) ≠ ⟨B, j, none⟩ := by intro j h1 h2; simp only [Addr.mk.injEq, and_true, true_and] at h2; omega
  refine ⟨by simpa using h1, fun j hj => ?_, fun j a => ?_⟩
  · by_cases e : j = vs.length
    · subst e; exact ⟨_, World.cell?_setCell_same _ _ _ e1, by rw [World.frozen?_setCell]; exact e2⟩
    · obtain ⟨y, f1, f2⟩ := h2 j hj
      exact ⟨y, by rw [World.cell?_setCell_other (h := hne j e)]; exact f1, by rw [World.frozen?_setCell]; exact f2⟩
  · cases j with
    | zero =>
      rw [show (x :: vs).length - 1 - 0 = vs.length from by simp]
      exact World.cell?_setCell_same _ _ _ e1
    | succ j =>
      simp only [List.length_cons] at a
      rw [show (x :: vs).length - 1 - (j + 1) = vs.length - 1 - j from by simp; omega, World.cell?_setCell_other (h := hne _ (by omega))]
      simpa using h3 j (by omega)
end Go.Proofs.Yteegjnobmbcjiaa
end
section
/- Chapter 5, the reference: GoodWorld. -/
namespace Go.Proofs.Yteegjnobmbcjiaa
open Go.RowKit

/-- The length of the k-th table and its elements, as the loop asks. -/
theorem ne_len {a b : Nat} (h : a = b) : ((a : Int) != (b : Int)) = false := by subst h; simp
theorem ne_len' {a b : Nat} (h : a ≠ b) : ((a : Int) != (b : Int)) = true := by rw [bne, beq_eq_false_iff_ne.2 (by omega)]; rfl

set_option maxRecDepth 100000 in
set_option maxHeartbeats 1000000 in
theorem l5World_c (l h l' h' : Nat) (v u : Value) (ar : List Int) (sz : Int) (tb : List (List Int)) (w : World) (hg : goodSign ar = true) (hx : short tb) (hv : SlI l h w v ar) (hu : SlS l' h' w u tb) :
    Calls Try.prog 102 #[.agg #[v], .agg #[.int .i64 sz, u]] w (RetV w (.bool (isWorld ar sz tb))) := by
  obtain ⟨ad, cap, rfl, -, -, hr⟩ := hv
  obtain ⟨au, cu, rfl⟩ := hu.form
  have hlen := (sign_len ar hg).2
  by_cases h1 : inB sz 1 3 = true
  · by_cases h2 : tb.length = ar.length
    · have hn := Lib.hid (ne_len h2)
      have E0 : isWorld ar sz tb = okTabs ar sz tb tb.length := by unfold isWorld; rw [h1, decide_eq_true h2, Bool.true_and, Bool.true_and]
      obtain ⟨z1, z3⟩ : 1 ≤ sz ∧ sz ≤ 3 := by unfold inB at h1; simpa using h1
      obtain ⟨Z, rfl⟩ : ∃ Z : Nat, sz = (Z : Int) := ⟨sz.toNat, by omega⟩
      have HI := Lib.hid h1
      have H2 := Lib.hid h2
      rw [E0]
      have hnn := hn.out
      clear h1 h2 E0 hn
      go_enter Try.func102, Try.ntmps102
      go_wp2_with fail
      refine (l1In_qv _ _ _ _ HI.out _).mono ?_; rintro e w1 ⟨rfl, rfl⟩
      go_wp2_with fail
      obtain ⟨W, hW⟩ : ∃ W, W = (w.alloc (.cells #[.slice ad ar.length cap] 30)).alloc (.cells #[.int .i64 (Z : Int), .slice au tb.length cu] 58) := ⟨_, rfl⟩
      rw [← hW]
      have hB : Bel w W := by rw [hW]; exact Bel.alloc2 _ _ _
      have k0 : w.heap.size + 1 < W.heap.size ∧ W.cell? ⟨w.heap.size, 0, none⟩ = some (.slice ad ar.length cap) ∧ W.cell? ⟨w.heap.size + 1, 0, none⟩ = some (.int .i64 (Z : Int)) ∧ W.cell? ⟨w.heap.size + 1, 1, none⟩ = some (.slice au tb.length cu) := by rw [hW]; simp [go_sem]
      clear hW
      go_loopw [23] (fun j wr => ∃ k : Nat, k ≤ tb.length ∧ j = .int .i64 k ∧ okTabs ar Z tb k = true ∧ Bel W wr) (fun j _ => tb.length - (intOf j).toNat)
      case atStart => exact ⟨0, Nat.zero_le _, rfl, okTabs_zero _ _ _, Bel.rfl' _⟩
      case round =>
        obtain ⟨k, hk, rfl, hall, hb⟩ := hrel
        have q0 := hb.at (b := w.heap.size) (by omega) k0.2.1
        have q1 := hb.at k0.1 k0.2.2.1
        have q2 := hb.at k0.1 k0.2.2.2
        by_cases hlt : k < tb.length
        · obtain ⟨b, off, u1, rfl, hbs, c1, s1⟩ := hu.at (hB.step hb) k hlt
          obtain ⟨b2, off2, rfl, hb2l, hc2⟩ := rd hr (hB.step hb) k (by rw [← H2.out]; exact hlt)
          have h03 := ar_nonneg ar hg k
          obtain ⟨A, hA⟩ : ∃ A : Nat, ar.getD k 0 = (A : Int) := ⟨(ar.getD k 0).toNat, by omega⟩
          have hxl := hx.2 k hlt
          have zl1 : w.heap.size + 1 < wr.heap.size := Nat.lt_of_lt_of_le k0.1 hb.size
          have zl0 : w.heap.size < wr.heap.size := by omega
          have zlc : b2 < wr.heap.size := World.block_lt_of_cell? _ ⟨_, _, none⟩ hc2
          have hkl : (k : Int) < ar.length := by rw [← H2.out]; omega
          have EO : okTab Z (ar.getD k 0) (tb.getD k []) = (decide ((tb.getD k []).length = Z ^ A) && (tb.getD k []).all (fun x => inB x 0 ((Z : Int) - 1))) := by rw [hA]; rfl
          have ES := okTabs_succ ar Z tb k
          have EF := fun (h : okTab Z (ar.getD k 0) (tb.getD k []) = false) => okTabs_false (tb := tb) (n := tb.length) h hlt
          rw [EO] at ES EF
          rw [hall, Bool.true_and] at ES
          rw [hA] at hc2 h03
          have hA3 : A ≤ 3 := by omega
          obtain ⟨d1, e1, rfl⟩ := s1.form
          have HL := Lib.hid (fun (w' : World) => l5Long_c Z A w' (by omega) hA3)
          have hi1 := IntWalk.i64_in ((Z : Int) - 1) (by omega)
          clear hA EO hall h03
          generalize tb.getD k [] = x at *
          by_cases hxz : x.length = Z ^ A
          · have hne := ne_len hxz
            have HA := Lib.hid (fun (q : Bool) (w' : World) (hq : x.all (fun x => inB x 0 ((Z : Int) - 1)) = q) (hb' : Bel wr w') => l1All_v _ _ _ x 0 ((Z : Int) - 1) w' q hq hxl (s1.below hb'))
            rw [decide_eq_true hxz, Bool.true_and] at ES EF
            clear s1 hxl hxz
            generalize hyy : Z ^ A = y at *
            clear hyy
            cases hq : x.all (fun x => inB x 0 ((Z : Int) - 1)) with
            | true =>
              have HQ := Lib.hid hq
              have ES2 := Lib.hid (ES.trans hq)
              clear hq ES EF
              go_wp2_with fail
              go_region_held3 (fun w' => Bel wr w' ∧ w'.cell? ⟨w.heap.size + 1, 0, none⟩ = some (.int .i64 (Z : Int)) ∧ w'.cell? ⟨w.heap.size, 0, none⟩ = some (.slice (some ⟨b2, off2, none⟩) ar.length cap) ∧ w'.cell? ⟨b2, off2 + k, none⟩ = some (.int .i64 (A : Int)))
                (first | exact ⟨Bel.drew0 _, q1, q0, hc2⟩ | exact ⟨HB8, p1, p0, pc⟩ | exact ⟨HB8.step hb9, hb9.at pl1 p1, hb9.at pl0 p0, hb9.at plc pc⟩ | fail)
                (first | (go_at_call 56; refine (HA.out _ _ HQ.out HB8).mono ?_; rintro e w9 ⟨rfl, hb9⟩) | (go_at_call 139; refine (HL.out _).mono ?_; rintro e w8 ⟨rfl, hb8⟩; have HB8 := hb8.of_drew; have hz8 := HB8.size; have p1 := HB8.at zl1 q1; have p0 := HB8.at zl0 q0; have pc := HB8.at zlc hc2; have pl1 : w.heap.size + 1 < w8.heap.size := Nat.lt_of_lt_of_le zl1 hz8; have pl0 : w.heap.size < w8.heap.size := Nat.lt_of_lt_of_le zl0 hz8; have plc : b2 < w8.heap.size := Nat.lt_of_lt_of_le zlc hz8) | fail)
              go_wp2_with fail
              go_roundw
              case rel => exact ⟨k+1, by omega, by go_num, ES2.out, (hb.step HB8).step hb9⟩
              case measure => simp [intOf]; omega
            | false =>
              have HQ := Lib.hid hq
              have EF2 := Lib.hid (EF hq)
              clear hq ES EF
              go_wp2_with fail
              go_region_held3 (fun w' => Bel wr w' ∧ w'.cell? ⟨w.heap.size + 1, 0, none⟩ = some (.int .i64 (Z : Int)) ∧ w'.cell? ⟨w.heap.size, 0, none⟩ = some (.slice (some ⟨b2, off2, none⟩) ar.length cap) ∧ w'.cell? ⟨b2, off2 + k, none⟩ = some (.int .i64 (A : Int)))
                (first | exact ⟨Bel.drew0 _, q1, q0, hc2⟩ | exact ⟨HB8, p1, p0, pc⟩ | exact ⟨HB8.step hb9, hb9.at pl1 p1, hb9.at pl0 p0, hb9.at plc pc⟩ | fail)
                (first | (go_at_call 56; refine (HA.out _ _ HQ.out HB8).mono ?_; rintro e w9 ⟨rfl, hb9⟩) | (go_at_call 139; refine (HL.out _).mono ?_; rintro e w8 ⟨rfl, hb8⟩; have HB8 := hb8.of_drew; have hz8 := HB8.size; have p1 := HB8.at zl1 q1; have p0 := HB8.at zl0 q0; have pc := HB8.at zlc hc2; have pl1 : w.heap.size + 1 < w8.heap.size := Nat.lt_of_lt_of_le zl1 hz8; have pl0 : w.heap.size < w8.heap.size := Nat.lt_of_lt_of_le zl0 hz8; have plc : b2 < w8.heap.size := Nat.lt_of_lt_of_le zlc hz8) | fail)
              go_wp2_with fail
              go_ret
              exact ⟨by rw [EF2.out]; rfl, (hB.step hb).step (HB8.step hb9)⟩
          · have hne := ne_len' hxz
            have EF2 := Lib.hid (EF (by rw [decide_eq_false hxz]; rfl))
            clear s1 hxl EF ES
            generalize hyy : Z ^ A = y at *
            clear hyy hxz
            go_wp2_with fail
            first | (go_region_with (first | (go_at_call 139; refine (HL.out _).mono ?_; rintro e w8 ⟨rfl, hb8⟩) | fail)) | fail
            all_goals
              have HB8 := hb8.of_drew
              go_wp2_with fail
              go_ret
              exact ⟨by rw [EF2.out]; rfl, (hB.step hb).step HB8⟩
        · obtain rfl : k = tb.length := by omega
          have HALL := Lib.hid hall
          clear hall hlt
          go_wp2_with fail
          go_ret
          exact ⟨by rw [HALL.out]; rfl, hB.step hb⟩
    · have E0 : Hid (isWorld ar sz tb = false) := by show _ = _; unfold isWorld; rw [decide_eq_false h2]; simp
      have HI := Lib.hid h1
      have hnn := ne_len' h2
      clear h1 h2
      go_enter Try.func102, Try.ntmps102
      go_wp2_with fail
      refine (l1In_qv _ _ _ _ HI.out _).mono ?_; rintro e w1 ⟨rfl, rfl⟩
      go_wp2_with fail
      go_ret
      exact ⟨by rw [E0.out]; rfl, Bel.alloc2 _ _ _⟩
  · have h1' : inB sz 1 3 = false := by simpa using h1
    have E0 : Hid (isWorld ar sz tb = false) := by show _ = _; unfold isWorld; rw [h1']; rfl
    have HI := Lib.hid h1'
    clear h1 h1'
    go_enter Try.func102, Try.ntmps102
    go_wp2_with fail
    refine (l1In_qv _ _ _ _ HI.out _).mono ?_; rintro e w1 ⟨rfl, rfl⟩
    go_wp2_with fail
    go_ret
    exact ⟨by rw [E0.out]; rfl, Bel.alloc2 _ _ _⟩

theorem l5World_v (l h l' h' : Nat) (v u : Value) (ar : List Int) (sz : Int) (tb : List (List Int)) (q : Bool) (w : World) (he : isWorld ar sz tb = q) (hg : goodSign ar = true) (hx : short tb) (hv : SlI l h w v ar) (hu : SlS l' h' w u tb) :
    Calls Try.prog 102 #[.agg #[v], .agg #[.int .i64 sz, u]] w (RetV w (.bool q)) := by subst he; exact l5World_c l h l' h' v u ar sz tb w hg hx hv hu

set_option maxRecDepth 100000 in
set_option maxHeartbeats 400000 in
theorem sGoodWorld_t {l h l' h' : Nat} {v u : Value} {ar : List Int} {sz : Int} {tb : List (List Int)} {w : World} (ha : ar.length ≤ 1048576) (hv : SlI l h w v ar) (hx : short tb) (hu : SlS l' h' w u tb) :
    Calls Try.prog 52 #[.agg #[v], .agg #[.int .i64 sz, u]] w (RetV w (.bool (goodWorld ar sz tb))) := by
  unfold goodWorld
  have HB : Bel w ((w.alloc (.cells #[v] 30)).alloc (.cells #[.int .i64 sz, u] 58)) := Bel.alloc2 _ _ _
  cases hg : goodSign ar with
  | false =>
    rw [Bool.false_and]
    have HC := Lib.hid (fun (w' : World) (hb : Bel w w') => sGoodSign_v l h v ar false w' hg ha (hv.below hb)); clear hg
    go_enter Try.func52, Try.ntmps52
    go_wp2_with fail
    refine (HC.out _ HB).mono ?_; rintro e w1 ⟨rfl, hb1⟩
    go_wp2_with fail
    go_ret
    exact ⟨rfl, HB.step hb1⟩
  | true =>
    rw [Bool.true_and]
    have HC := Lib.hid (fun (w' : World) (hb : Bel w w') => sGoodSign_v l h v ar true w' hg ha (hv.below hb))
    have HD := Lib.hid (fun (w' : World) (hb : Bel w w') => l5World_c l h l' h' v u ar sz tb w' hg hx (hv.below hb) (hu.below hb)); clear hg hx
    go_enter Try.func52, Try.ntmps52
    go_wp2_with fail
    refine (HC.out _ HB).mono ?_; rintro e w1 ⟨rfl, hb1⟩
    have k0 := hb1.at (b := w.heap.size) (off := 0) (by simp; omega) (show World.cell? _ _ = some v by simp [go_sem])
    have k1 := hb1.at (b := w.heap.size + 1) (off := 0) (by simp) (show World.cell? _ _ = some (.int .i64 sz) by simp [go_sem])
    have k2 := hb1.at (b := w.heap.size + 1) (off := 1) (by simp) (show World.cell? _ _ = some u by simp [go_sem])
    go_wp2_with fail
    refine (HD.out _ (HB.step hb1)).mono ?_; rintro e w2 ⟨rfl, hb2⟩
    go_wp2_with fail
    go_ret
    exact ⟨rfl, (HB.step hb1).step hb2⟩
theorem sGoodWorld_v {l h l' h' : Nat} {v u : Value} {ar : List Int} {sz : Int} {tb : List (List Int)} {w : World} {q : Bool} (he : goodWorld ar sz tb = q) (ha : ar.length ≤ 1048576) (hv : SlI l h w v ar) (hx : short tb) (hu : SlS l' h' w u tb) :
    Calls Try.prog 52 #[.agg #[v], .agg #[.int .i64 sz, u]] w (RetV w (.bool q)) := by subst he; exact sGoodWorld_t ha hv hx hu
end Go.Proofs.Yteegjnobmbcjiaa
end
section
/- Chapter 5, the reference: the value of a term, EvalIn. -/
namespace Go.Proofs.Yteegjnobmbcjiaa
open Go.RowKit

theorem evF_eq {ar t : List Int} {sz : Int} {tb : List (List Int)} {env : List Int} (h : okTerm ar t = true) {i : Nat} (hi : i < t.length) (h0 : ¬ t.getD i 0 < 0) :
    evF ar t sz tb env (t.length - i) i = entry sz tb (t.getD i 0) ((argsOf ar t i).map fun a => evF ar t sz tb env (t.length - a) a) := by
  obtain ⟨g, hg⟩ : ∃ g, t.length - i = g + 1 := ⟨t.length - i - 1, by omega⟩
  rw [hg, evF, if_neg h0]
  congr 1
  apply List.map_congr_left
  intro a ha
  have hb := argsOf_bd ar t h i hi a ha
  exact evF_fuel h g a (by omega) hb.2
theorem noOf_take {sz : Int} (f : Nat → Int) (l : List Nat) (k : Nat) (hk : k < l.length) : noOf sz ((l.take (k+1)).map f) = noOf sz ((l.take k).map f) * sz + f (l.getD k 0) := by
  rw [List.take_succ_eq_append_getElem hk, List.map_append]
  simp only [List.map_cons, List.map_nil]
  rw [noOf_snoc]
  simp [List.getD, hk]
end Go.Proofs.Yteegjnobmbcjiaa
end
section
/- Chapter 5, the reference: the value of a term. -/
namespace Go.Proofs.Yteegjnobmbcjiaa
open Go.RowKit

theorem evA_bd {ar t : List Int} {sz : Int} {tb : List (List Int)} {env : List Int} (hg : goodSign ar = true) (hw : isWorld ar sz tb = true) (he : okEnv sz env = true) (h : okTerm ar t = true) {i : Nat} (hi : i < t.length) :
    0 ≤ evF ar t sz tb env (t.length - i) i ∧ evF ar t sz tb env (t.length - i) i ≤ sz - 1 := by
  obtain ⟨e, he', _⟩ := good_end ar t h i hi
  exact (evT_bd hg hw he (ev_at (sz := sz) (tb := tb) (env := env) h _ i e (Nat.le_refl _) hi he')).1 _ (by simp)
theorem sub_ex {a b : Nat} (h : b < a) : ∃ g, a - b = g + 1 := ⟨a - b - 1, by omega⟩
theorem sub_lt2 {L i a n : Nat} (h1 : L - i ≤ n + 1) (h2 : i < a) : L - a ≤ n := by omega
theorem noOf_le {sz : Int} (h1 : 1 ≤ sz) (h3 : sz ≤ 3) (vs : List Int) (h : ∀ v ∈ vs, 0 ≤ v ∧ v ≤ sz - 1) (hl : vs.length ≤ 3) : 0 ≤ noOf sz vs ∧ noOf sz vs ≤ 26 := by
  have := noOf_bd h1 vs h
  have h2 := longW_le h3 (show ((vs.length : Nat) : Int) ≤ 3 by omega)
  omega

set_option maxRecDepth 100000 in
set_option maxHeartbeats 2000000 in
theorem l5Eval_c (l h l' h' l2 h2 l3 h3 : Nat) (v u vt ve : Value) (ar : List Int) (sz : Int) (tb : List (List Int)) (t env : List Int) (hg : goodSign ar = true) (hw : isWorld ar sz tb = true) (he : okEnv sz env = true) (hok : okTerm ar t = true) :
    ∀ (n i : Nat) (w : World), t.length - i ≤ n → i < t.length → SlI l h w v ar → SlS l' h' w u tb → SlI l2 h2 w vt t → SlI l3 h3 w ve env →
      Calls Try.prog 97 #[.agg #[v], .agg #[.int .i64 sz, u], vt, .int .i64 i, ve] w (RetV w (.int .i64 (evF ar t sz tb env (t.length - i) i))) := by
  intro n
  induction n with
  | zero => intro i w hn hi; omega
  | succ n ih =>
    intro i w hn hi hv hu ht hve
    obtain ⟨w1, w2, w3, w4⟩ := isWorld_iff.1 hw
    obtain ⟨e1, e2⟩ := okEnv_iff.1 he
    have hs := good_sym ar t hok i hi
    have htl := ((okTerm_iff ar t).1 hok).2.1
    have ht0 := ht
    have hve0 := hve
    have IH := Lib.hid ih; clear ih
    have HB : Bel w ((w.alloc (.cells #[v] 30)).alloc (.cells #[.int .i64 sz, u] 58)) := Bel.alloc2 _ _ _
    obtain ⟨at', ct, rfl, -, -, hrt⟩ := ht
    obtain ⟨bt, offt, rfl, hbtl, hct⟩ := rd hrt (Bel.rfl' w) i hi
    by_cases hneg : t.getD i 0 < 0
    · have E : Hid (evF ar t sz tb env (t.length - i) i = env.getD (-1 - t.getD i 0).toNat 0) := by
        show _ = _
        obtain ⟨g, hg'⟩ := sub_ex hi
        rw [hg', evF, if_pos hneg]
      rw [E.out]
      obtain ⟨j, hj⟩ : ∃ j : Nat, t.getD i 0 = -1 - (j : Int) := ⟨(-1 - t.getD i 0).toNat, by omega⟩
      have hj12 : j < 12 := by unfold okSym inB at hs; simp at hs; rw [← List.getD_eq_getElem?_getD, hj] at hs; omega
      rw [hj] at hct ⊢
      rw [show (-1 - (-1 - (j : Int))).toNat = j by omega]
      obtain ⟨ae, ce, rfl, -, -, hre⟩ := hve
      obtain ⟨be, offe, rfl, hbel, hce⟩ := rd hre (Bel.rfl' w) j (by omega)
      have hct' := HB.at hbtl hct
      have hce' := HB.at hbel hce
      have hw1 := IntWalk.i64_in (-1 - (-1 - (j : Int))) (by omega)
      have hjj : -1 - (-1 - (j : Int)) = (j : Int) := by omega
      rw [hjj] at hw1
      have hjl : (j : Int) < env.length := by omega
      have hneg2 : decide ((-1 - (j : Int)) < 0) = true := by simp; omega
      generalize env.getD j 0 = val at *
      clear hrt hre hve0 ht0 IH E hneg hj
      go_enter Try.func97, Try.ntmps97
      go_wp2_with fail
      go_ret
      exact ⟨rfl, HB⟩
    · obtain ⟨m, hm⟩ : ∃ m : Nat, t.getD i 0 = (m : Int) := ⟨(t.getD i 0).toNat, by omega⟩
      have EE := evF_eq (sz := sz) (tb := tb) (env := env) hok hi hneg
      have hargs := argsOf_bd ar t hok i hi
      have hal : (argsOf ar t i).length ≤ 3 := by rw [argsOf_len]; exact arOf_le ar hg _
      have hal2 : (argsOf ar t i).length = (ar.getD m 0).toNat := by rw [argsOf_len, hm, arOf_nat]
      have hmt : m < tb.length := by rw [hm] at hs; have := okSym_lt hs; omega
      clear w3
      have HA := Lib.hid (fun (w' : World) (hb : Bel w w') => l1Args_c l h l2 h2 v _ ar t i w' hg hok hi (hv.below hb) (ht0.below hb))
      have HE := Lib.hid (fun (a : Nat) (w' : World) (ha : a ∈ argsOf ar t i) (hb : Bel w w') => IH.out a w' (sub_lt2 hn (hargs a ha).1) (hargs a ha).2 (hv.below hb) (hu.below hb) (ht0.below hb) (hve0.below hb))
      have HV := Lib.hid (fun (a : Nat) (ha : a ∈ argsOf ar t i) => evA_bd (env := env) hg hw he hok (hargs a ha).2)
      have HN : Hid (∀ k, k ≤ (argsOf ar t i).length → 0 ≤ noOf sz (((argsOf ar t i).take k).map fun a => evF ar t sz tb env (t.length - a) a) ∧ noOf sz (((argsOf ar t i).take k).map fun a => evF ar t sz tb env (t.length - a) a) ≤ 26) := fun k hk => by
        refine noOf_le w1 w2 _ (fun x hx => ?_) (by simp; omega)
        obtain ⟨a, ha, rfl⟩ := List.mem_map.1 hx
        exact HV.out a (List.mem_of_mem_take ha)
      have HT : Hid (∀ k, k < (argsOf ar t i).length → noOf sz (((argsOf ar t i).take (k+1)).map fun a => evF ar t sz tb env (t.length - a) a) = noOf sz (((argsOf ar t i).take k).map fun a => evF ar t sz tb env (t.length - a) a) * sz + evF ar t sz tb env (t.length - (argsOf ar t i).getD k 0) ((argsOf ar t i).getD k 0)) := fun k hk => noOf_take _ _ k hk
      have HTB := Lib.hid (w4 m hmt)
      have HNL : Hid (noOf sz ((argsOf ar t i).map fun a => evF ar t sz tb env (t.length - a) a) < ((tb.getD m []).length : Nat)) := by
        show _ < _
        have := noOf_bd w1 ((argsOf ar t i).map fun a => evF ar t sz tb env (t.length - a) a) (fun x hx => by obtain ⟨a, ha, rfl⟩ := List.mem_map.1 hx; exact HV.out a ha)
        rw [(w4 m hmt).1]
        rw [List.length_map, hal2] at this
        exact this.2
      rw [hm] at EE hct
      unfold entry at EE
      simp only [Int.toNat_natCast] at EE
      have HEE := Lib.hid EE
      rw [EE]
      clear EE hs hneg hm hrt hal2
      generalize hFF : (fun a => evF ar t sz tb env (t.length - a) a) = F at *
      have HE2 : Hid (∀ (a : Nat) (w' : World), a ∈ argsOf ar t i → Bel w w' → Calls Try.prog 97 #[.agg #[v], .agg #[.int .i64 sz, u], .slice (some ⟨bt, offt, none⟩) t.length ct, .int .i64 a, ve] w' (RetV w' (.int .i64 (F a)))) := fun a w' ha hb => by have := HE.out a w' ha hb; rw [← hFF]; exact this
      have HV2 : Hid (∀ a, a ∈ argsOf ar t i → 0 ≤ F a ∧ F a ≤ sz - 1) := fun a ha => by have := HV.out a ha; rw [← hFF]; exact this
      have HT2 : Hid (∀ k, k < (argsOf ar t i).length → noOf sz (((argsOf ar t i).take (k+1)).map F) = noOf sz (((argsOf ar t i).take k).map F) * sz + F ((argsOf ar t i).getD k 0)) := fun k hk => by have := HT.out k hk; rw [this, ← hFF]
      clear HE HV HT HEE hFF
      obtain ⟨au, cu, rfl⟩ := hu.form
      go_enter Try.func97, Try.ntmps97
      have hct' := HB.at hbtl hct
      go_wp2_with fail
      refine (HA.out _ HB).mono ?_; rintro e W ⟨ad, q, c, rfl, ho, hb1⟩
      have HW := HB.step hb1
      have zW : w.heap.size + 1 < W.heap.size := by have := hb1.size; simp at this; omega
      have k0 := hb1.at (b := w.heap.size) (off := 0) (by simp; omega) (show World.cell? _ _ = some v by simp [go_sem])
      have k1 := hb1.at (b := w.heap.size + 1) (off := 0) (by simp) (show World.cell? _ _ = some (.int .i64 sz) by simp [go_sem])
      have k2 := hb1.at (b := w.heap.size + 1) (off := 1) (by simp) (show World.cell? _ _ = some (.slice au tb.length cu) by simp [go_sem])
      obtain ⟨ad', cap', e, -, -, hr⟩ := ho.1
      simp only [Value.slice.injEq] at e
      obtain ⟨rfl, rfl, rfl⟩ := e
      rw [natsI_len] at hr ⊢
      generalize argsOf ar t i = args at *
      clear HA hb1 ho
      go_wp2_with fail
      go_loopw [11, 32] (fun no j wr => ∃ k : Nat, k ≤ args.length ∧ j = .int .i64 k ∧ no = .int .i64 (noOf sz ((args.take k).map F)) ∧ Bel W wr) (fun _ j _ => args.length - (intOf j).toNat)
      case atStart => exact ⟨0, Nat.zero_le _, rfl, rfl, Bel.rfl' _⟩
      case round =>
        obtain ⟨k, hk, rfl, rfl, hbw⟩ := hrel
        have q0 := hbw.at (by omega) k0
        have q1 := hbw.at zW k1
        have q2 := hbw.at zW k2
        have hn0 := HN.out k hk
        have hbt2 : bt < wr.heap.size := Nat.lt_of_lt_of_le hbtl (HW.step hbw).size
        have zr1 : w.heap.size + 1 < wr.heap.size := Nat.lt_of_lt_of_le zW hbw.size
        have zr0 : w.heap.size < wr.heap.size := by omega
        by_cases hlt : k < args.length
        · obtain ⟨b, off, e2, -, -, hc⟩ := hr (by omega)
          subst e2
          have hcell := (hbw.cell (p := ⟨b, off + k, none⟩) (World.block_lt_of_cell? W ⟨b, off + k, none⟩ (hc k hlt))).trans (hc k hlt)
          rw [natsI_get _ _ hlt] at hcell
          have hmem : args.getD k 0 ∈ args := by simp [List.getD, hlt]
          have hva := HV2.out _ hmem
          have HS := Lib.hid (HT2.out k hlt)
          have HC := Lib.hid (fun (w' : World) (hb : Bel w w') => HE2.out _ w' hmem hb)
          have hmul : noOf sz ((args.take k).map F) * sz ≤ noOf sz ((args.take k).map F) * 3 := Int.mul_le_mul_of_nonneg_left w2 hn0.1
          have hmul0 := Int.mul_nonneg hn0.1 (show 0 ≤ sz by omega)
          clear hr hc hmem HE2 HV2 HT2 HN
          generalize noOf sz ((args.take k).map F) = no at *
          generalize args.getD k 0 = a at *
          generalize F a = fa at *
          have i1 := IntWalk.i64_in (no * sz) (by omega)
          have i2 := IntWalk.i64_in (no * sz + fa) (by omega)
          clear hmul hmul0
          go_wp2_with fail
          go_region_held3 (fun w' => Bel wr w' ∧ w'.cell? ⟨w.heap.size + 1, 0, none⟩ = some (.int .i64 sz) ∧ w'.cell? ⟨w.heap.size + 1, 1, none⟩ = some (.slice au tb.length cu) ∧ w'.cell? ⟨w.heap.size, 0, none⟩ = some v)
            (first | exact ⟨Bel.drew0 _, q1, q2, q0⟩ | exact ⟨HB8, HB8.at zr1 q1, HB8.at zr1 q2, HB8.at zr0 q0⟩ | fail)
            (first | (go_at_call 97; refine (HC.out _ ((HW.step hbw).step (Bel.drew0 _))).mono ?_; rintro e w8 ⟨rfl, hb8⟩; have HB8 := hb8.of_drew) | fail)
          go_wp2_with fail
          go_roundw
          case rel => exact ⟨k+1, by omega, by go_num, by rw [HS.out], hbw.step HB8⟩
          case measure => simp [intOf]; omega
        · obtain rfl : k = args.length := by omega
          rw [List.take_length] at hn0 ⊢
          obtain ⟨bb, off, u1, rfl, hbs, c1, s1⟩ := hu.at (HW.step hbw) m hmt
          obtain ⟨x1, x2, rfl, -, -, hrx⟩ := s1
          obtain ⟨N, hN⟩ : ∃ N : Nat, noOf sz (args.map F) = (N : Int) := ⟨(noOf sz (args.map F)).toNat, by omega⟩
          have HVAL : Hid ((tb.getD m []).getD (noOf sz (args.map F)).toNat 0 = (tb.getD m []).getD N 0) := by show _ = _; rw [hN, Int.toNat_natCast]
          have hnl := HNL.out
          rw [hN] at hnl hn0 ⊢
          rw [Int.toNat_natCast]
          have hNL : N < (tb.getD m []).length := by omega
          obtain ⟨bx, ofy, rfl, hyl, hcy⟩ := rd hrx (Bel.rfl' _) N hNL
          have hct2 := (HW.step hbw).at hbtl hct
          clear hr hrx HE2 HV2 HT2 HN HNL HTB
          generalize (tb.getD m []).getD N 0 = val at *
          generalize (tb.getD m []).length = xl at *
          have hil : (i : Int) < t.length := by omega
          have hml : (m : Int) < tb.length := by omega
          go_wp2_with fail
          go_region_held3 (fun w' => Bel wr w' ∧ w'.cell? ⟨w.heap.size + 1, 1, none⟩ = some (.slice (some ⟨bb, off, none⟩) tb.length cu) ∧ w'.cell? ⟨bt, offt + i, none⟩ = some (.int .i64 m) ∧ w'.cell? ⟨bb, off + m, none⟩ = some (.slice (some ⟨bx, ofy, none⟩) xl x2) ∧ w'.cell? ⟨bx, ofy + N, none⟩ = some (.int .i64 val))
            (first | exact ⟨Bel.drew0 _, q2, hct2, c1, hcy⟩ | fail)
            (first | fail)
          go_wp2_with fail
          go_ret
          exact ⟨by rw [HVAL.out]; rfl, (HW.step hbw).step (Bel.drew0 _)⟩
end Go.Proofs.Yteegjnobmbcjiaa
end
