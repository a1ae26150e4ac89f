/- Texts merged, part 12. -/
import Derived.Test.YtikllmdmifecpaaGreatDoorRows
import Derived.ProofKit
import Derived.OpenShut
import Derived.ShutString
import Derived.ChangeOld
import Derived.Lib.SmallJoins
import Derived.Deep.Slices
import Derived.Deep.Strs
import Derived.ChangeSame
import Derived.Test.YtikllmdmifecpaaGreatDoorCards
import Derived.Test.YtikllmdmifecpaaGreatDoorTie
import Derived.OpenVars
import Derived.Deep.DeepHandedRow
import Derived.Lib.LaidTab
import Derived.Test.YtikllmdmifecpaaGreatDoorMgSuperpose11
section
/- The laws' helpers over slices of literals: marks. -/
namespace Go.Proofs.YtikllmdmifecpaaGreatDoor
open Go.RowKit

def qlo (bs : Nat → Nat) (i : Nat) (xs : List Int) : Nat := if 0 < xs.length then bs i else 0
def qhi (bs : Nat → Nat) (i : Nat) (xs : List Int) : Nat := if 0 < xs.length then bs i + 1 else 0
theorem Ins.feed {lo hi b w us xss bs} (h : Ins lo hi b w us xss bs) (i : Nat) (u : Value) (hu : us[i]? = some u) : OwnI (qlo bs i (xss.getD i [])) (qhi bs i (xss.getD i [])) w u (xss.getD i []) := by
  have ho := h.own i u hu
  unfold qlo qhi
  split
  · exact ho
  · rename_i h0; rw [len0 h0] at ho ⊢; exact ho.empty
theorem Ins.fed {lo hi b w w' us xss bs} (h : Ins lo hi b w us xss bs) (hb : b < w.heap.size) (i : Nat) (hi' : i < xss.length) (u : Value) (hu : us[i]? = some u) (ys : List Int) (hl : ys.length = (xss.getD i []).length)
    (hch : Chg (qlo bs i (xss.getD i [])) (qhi bs i (xss.getD i [])) w w') (ho : OwnI (qlo bs i (xss.getD i [])) (qhi bs i (xss.getD i [])) w' u ys) :
    Ins lo hi b w' us (xss.set i ys) bs ∧ Chg lo hi w w' ∧ w'.heap[b]? = w.heap[b]? := by
  by_cases hp : 0 < (xss.getD i []).length
  · obtain ⟨a1, a2, a3⟩ := h.rng i hi' hp
    unfold qlo qhi at hch ho
    rw [if_pos hp, if_pos hp] at hch ho
    exact ⟨h.stored i hi' u hu ys hl (fun _ => hch) (fun h0 => absurd (by omega) h0) ho, hch.mono a1 (by omega), hch.block b hb (by omega)⟩
  · unfold qlo qhi at hch ho
    rw [if_neg hp, if_neg hp] at hch ho
    have hy : ys = [] := List.length_eq_zero_iff.1 (by omega)
    subst hy
    exact ⟨h.stored i hi' u hu [] hl (fun h0 => absurd h0 (by simp)) (fun _ => hch) ho.empty, ⟨hch.os, hch.tape, hch.output, hch.size, fun x hx _ => hch.block x hx (by omega)⟩, hch.block b hb (by omega)⟩
theorem CRow.left {lo hi b off : Nat} {w w' : World} {zs : List LV} {c : List Lt} {bs : Nat → Nat} (h : CRow lo hi b off w zs c bs) (hb : b < w.heap.size) (j : Nat) (z : LV) (hz : zs[j]? = some z) (ys : List Int) (hl : ys.length = (c.getD j lt0).2.1.length)
    (hch : Chg (qlo bs (2*j) (c.getD j lt0).2.1) (qhi bs (2*j) (c.getD j lt0).2.1) w w') (ho : OwnI (qlo bs (2*j) (c.getD j lt0).2.1) (qhi bs (2*j) (c.getD j lt0).2.1) w' z.2.1 ys) :
    CRow lo hi b off w' zs (c.set j ((c.getD j lt0).1, ys, (c.getD j lt0).2.2)) bs ∧ Chg lo hi w w' := by
  have hj : j < zs.length := (List.getElem?_eq_some_iff.1 hz).1
  have hjc : j < c.length := by rw [← h.len]; exact hj
  have hfl := flatC_len c
  obtain ⟨g1, g2⟩ := flatC_get c j
  rw [← g1] at hch ho hl
  obtain ⟨k1, k2, k3⟩ := h.ins.fed hb (2*j) (by omega) z.2.1 (rowsC_get zs j z hz).1 ys hl hch ho
  refine ⟨h.terms k3 (by simp) (fun i => ?_) ?_, k2⟩
  · by_cases e : j = i
    · subst e; simp [List.getD, hjc]
    · simp [List.getD, e]
  · have : flatC (c.set j ((c.getD j lt0).1, ys, (c.getD j lt0).2.2)) = (flatC c).set (2*j) ys := by
      rw [flatC_set c j _ hjc]
      show ((flatC c).set (2 * j) ys).set (2 * j + 1) (c.getD j lt0).2.2 = _
      rw [← g2]
      apply List.ext_getElem?
      intro i
      simp only [List.getElem?_set]
      by_cases e : 2 * j + 1 = i
      · subst e; simp [List.getD, show 2 * j + 1 < (flatC c).length by omega]
      · rw [if_neg e]
    rw [this]; exact k1
theorem CRow.right {lo hi b off : Nat} {w w' : World} {zs : List LV} {c : List Lt} {bs : Nat → Nat} (h : CRow lo hi b off w zs c bs) (hb : b < w.heap.size) (j : Nat) (z : LV) (hz : zs[j]? = some z) (ys : List Int) (hl : ys.length = (c.getD j lt0).2.2.length)
    (hch : Chg (qlo bs (2*j+1) (c.getD j lt0).2.2) (qhi bs (2*j+1) (c.getD j lt0).2.2) w w') (ho : OwnI (qlo bs (2*j+1) (c.getD j lt0).2.2) (qhi bs (2*j+1) (c.getD j lt0).2.2) w' z.2.2 ys) :
    CRow lo hi b off w' zs (c.set j ((c.getD j lt0).1, (c.getD j lt0).2.1, ys)) bs ∧ Chg lo hi w w' := by
  have hj : j < zs.length := (List.getElem?_eq_some_iff.1 hz).1
  have hjc : j < c.length := by rw [← h.len]; exact hj
  have hfl := flatC_len c
  obtain ⟨g1, g2⟩ := flatC_get c j
  rw [← g2] at hch ho hl
  obtain ⟨k1, k2, k3⟩ := h.ins.fed hb (2*j+1) (by omega) z.2.2 (rowsC_get zs j z hz).2 ys hl hch ho
  refine ⟨h.terms k3 (by simp) (fun i => ?_) ?_, k2⟩
  · by_cases e : j = i
    · subst e; simp [List.getD, hjc]
    · simp [List.getD, e]
  · have : flatC (c.set j ((c.getD j lt0).1, (c.getD j lt0).2.1, ys)) = (flatC c).set (2*j+1) ys := by
      rw [flatC_set c j _ hjc]
      show ((flatC c).set (2 * j) (c.getD j lt0).2.1).set (2 * j + 1) ys = _
      rw [← g1]
      apply List.ext_getElem?
      intro i
      simp only [List.getElem?_set, List.length_set]
      by_cases e : 2 * j + 1 = i
      · subst e; simp
      · rw [if_neg e, if_neg e]
        by_cases e2 : 2 * j = i
        · subst e2; simp [List.getD, show 2 * j < (flatC c).length by omega]
        · rw [if_neg e2]
    rw [this]; exact k1

theorem markIntS_z (lo hi : Nat) (v : Value) (xs : List Int) (z : Int) (k : Nat) (w : World) (hz : z = k) (hx : xs.length ≤ 1099511627776) (hk : k ≤ 1099511627776) (hv : OwnI lo hi w v xs) :
    Calls Tryz.prog 33 #[v, .int .i64 z] w (RetM lo hi w v xs k) := by subst hz; exact markIntS_c lo hi v xs k w hx hk hv
theorem heldIntS_z (l h : Nat) (v : Value) (n : Nat) (z : Int) (k : Nat) (w : World) (hz : z = k) (hx : n ≤ 1099511627776) (hk : k ≤ 1099511627776) (hv : SlI l h w v (marks k n)) :
    Calls Tryz.prog 34 #[v, .int .i64 z] w (RetV w (.int .i64 ((k + n : Nat) : Int))) := by subst hz; exact heldIntS_c l h v n k w hx hk hv
theorem set_twice {α : Type} (l : List α) (j : Nat) (a b : α) : (l.set j a).set j b = l.set j b := by simp

def RetMC (lo hi : Nat) (w : World) (v : Value) (c : List Lt) (k : Nat) (e : Ending) (w' : World) : Prop := e = .returned (.int .i64 ((k + sumC c : Nat) : Int)) ∧ Chg lo hi w w' ∧ OwnC lo hi w' v (marksC k c)
theorem OwnC.crow {lo hi : Nat} {w : World} {ad : Option Addr} {n k : Nat} {c : List Lt} (h : OwnC lo hi w (.slice ad n k) c) (hp : 0 < c.length) : ∃ b off zs bs, ad = some ⟨b, off, none⟩ ∧ n = c.length ∧ c.length ≤ k ∧ k ≤ maxLen ∧ CRow lo hi b off w zs c bs := by
  obtain ⟨ad', cap, e, hc, hm, hr⟩ := h
  simp only [Value.slice.injEq] at e
  obtain ⟨rfl, rfl, rfl⟩ := e
  obtain ⟨b, off, zs, bs, e, a1, a2, hl, a3, hf, hi⟩ := hr hp
  exact ⟨b, off, zs, bs, e, rfl, hc, hm.1, a1, a2, hl, a3, hf, hi⟩
theorem CRow.own {lo hi b off k : Nat} {w : World} {zs : List LV} {c : List Lt} {bs : Nat → Nat} (h : CRow lo hi b off w zs c bs) (hc : c.length ≤ k) (hm : k ≤ maxLen) : OwnC lo hi w (.slice (some ⟨b, off, none⟩) c.length k) c :=
  ⟨_, k, rfl, hc, ⟨hm, fun h => by simp at h⟩, fun _ => ⟨b, off, zs, bs, rfl, h.hlo, h.hhi, h.len, h.cell, h.free, h.ins⟩⟩

set_option maxRecDepth 100000 in
set_option maxHeartbeats 400000 in
theorem markLitS_c (lo hi : Nat) (v : Value) (c : List Lt) (k : Nat) (w : World) (hx : sumC c ≤ 1048576) (hk : k ≤ 1073741824) (hv : OwnC lo hi w v c) :
    Calls Tryz.prog 19 #[v, .int .i64 k] w (RetMC lo hi w v c k) := by
  obtain ⟨ad, cap, rfl⟩ := hv.sl.form
  go_enter Tryz.func19, Tryz.ntmps19
  go_wp2_with fail
  go_loopw [1, 5] (fun m i wr => ∃ j : Nat, j ≤ c.length ∧ i = .int .i64 j ∧ m = .int .i64 ((k + sumC (c.take j) : Nat) : Int) ∧ OwnC lo hi wr (.slice ad c.length cap) (markedC c k j) ∧ Chg lo hi w wr) (fun _ i _ => c.length - (intOf i).toNat)
  case atStart => exact ⟨0, Nat.zero_le _, rfl, by simp [sumC], by rw [markedC_zero]; exact hv, Chg.refl _ _ _⟩
  case round =>
    obtain ⟨j, hj, rfl, rfl, ho, hb⟩ := hrel
    by_cases hlt : j < c.length
    · have hl := markedC_len c k j hj
      have hst := sumC_take c j hlt
      have hsl := sumC_get c j hlt
      have hcl := sumC_len c
      obtain ⟨b, off, zs, bs, rfl, -, hcap, hml, hR⟩ := ho.crow (by omega)
      have hzl := hR.len
      have hz : zs[j]? = some zs[j] := List.getElem?_eq_getElem (by omega)
      obtain ⟨-, c1, c2, c3⟩ := hR.cell j _ hz
      have f1 := hR.free (off + j * 3)
      have hB := World.block_lt_of_cell? wr ⟨b, _, none⟩ c1
      have hget := markedC_get c k j hlt
      have hsucc := markedC_succ c k j hlt
      have hin1 : (j : Int) < c.length := by omega
      have hwd : wC (c.getD j lt0) = 1 + (c.getD j lt0).2.1.length + (c.getD j lt0).2.2.length := rfl
      generalize zs[j] = z at *
      obtain ⟨p0, u1, u2⟩ := z
      simp only at c1 c2 c3
      have hkj : k + sumC (c.take j) ≤ 1073741824 + 1048576 := by have := sumC_le c j; omega
      generalize hz0 : k + sumC (c.take j) = z0 at *
      have hrem : Int.tmod (z0 : Int) 3 = ((z0 % 3 : Nat) : Int) := by rw [Int.tmod_eq_emod_of_nonneg (by omega)]; omega
      -- the sign
      have hdec : (((z0 : Nat) : Int) % 3 == 0) = decide (z0 % 3 = 0) := by rw [Bool.eq_iff_iff]; simp; omega
      have hR1 := hR.sign j _ hz (((z0 : Nat) : Int) % 3 == 0)
      rw [hget] at hR1
      generalize hx : c.getD j lt0 = x at *
      obtain ⟨p, xl, xr⟩ := x
      simp only at *
      have hW1 := Chg.set (lo := lo) (hi := hi) wr (p := ⟨b, off + j * 3, none⟩) hR.hlo hR.hhi (.bool (((z0 : Nat) : Int) % 3 == 0))
      have hs1 : (wr.setCell ⟨b, off + j * 3, none⟩ (.bool (((z0 : Nat) : Int) % 3 == 0))).heap.size = wr.heap.size := by simp
      have e1 := World.cell?_setCell_other (h := show (⟨b, off + j * 3, none⟩ : Addr) ≠ ⟨b, off + j * 3 + 1, none⟩ by intro h; simp at h) (w := wr) (v := .bool (((z0 : Nat) : Int) % 3 == 0))
      rw [c2] at e1
      generalize hz1 : zs.set j (((z0 : Nat) : Int) % 3 == 0, u1, u2) = zs1 at hR1
      have hg1 : zs1[j]? = some (((z0 : Nat) : Int) % 3 == 0, u1, u2) := by rw [← hz1, List.getElem?_set]; simp; omega
      have hd1 : ((markedC c k j).set j (((z0 : Nat) : Int) % 3 == 0, xl, xr)).getD j lt0 = (((z0 : Nat) : Int) % 3 == 0, xl, xr) := by simp [List.getD, hl, hlt]
      have hfeed := hR1.ins.feed (2*j) u1 (rowsC_get zs1 j _ hg1).1
      rw [(flatC_get _ j).1, hd1] at hfeed
      have HC := Lib.hid (markIntS_z _ _ u1 xl ((z0 : Int) + 1) (z0 + 1) _ (by omega) (by omega) (by omega) hfeed)
      have HK := Lib.hid (And.intro hR1 (And.intro hg1 (And.intro hd1 (And.intro hsucc (And.intro hst (And.intro hl (And.intro hwd (And.intro hW1 hs1))))))))
      have HB2 := Lib.hid hb
      have HDEC := Lib.hid hdec
      clear hdec
      clear ho hv hR hR1 hz hget hsucc hst hl hwd hb hz1 hg1 hd1 hfeed hW1 hs1
      go_wp2_with fail
      refine HC.out.mono ?_; rintro e w1 ⟨rfl, hch, hom⟩
      obtain ⟨hR1, hg1, hd1, hsucc, hst, hl, hwd, hW1, hs1⟩ := HK.out
      have hB1 : b < (wr.setCell ⟨b, off + j * 3, none⟩ (.bool (((z0 : Nat) : Int) % 3 == 0))).heap.size := by rw [hs1]; exact hB
      have hst1 := hR1.left (w' := w1) hB1 j _ hg1 (marks (z0 + 1) xl.length) (by rw [hd1, marks_len]) (by rw [hd1]; exact hch) (by rw [hd1]; exact hom)
      rw [hd1, set_twice] at hst1
      obtain ⟨hR2, hW2⟩ := hst1
      obtain ⟨-, d1, d2, d3⟩ := hR2.cell j _ hg1
      simp only at d1 d2 d3
      have hB2 : b < w1.heap.size := Nat.lt_of_lt_of_le hB1 hW2.size
      have hd2 : ((markedC c k j).set j (((z0 : Nat) : Int) % 3 == 0, marks (z0 + 1) xl.length, xr)).getD j lt0 = (((z0 : Nat) : Int) % 3 == 0, marks (z0 + 1) xl.length, xr) := by simp [List.getD, hl, hlt]
      have hfeed := hR2.ins.feed (2*j+1) u2 (rowsC_get zs1 j _ hg1).2
      rw [(flatC_get _ j).2, hd2] at hfeed
      have HD := Lib.hid (markIntS_z _ _ u2 xr (((z0 + 1 + xl.length : Nat) : Int)) (z0 + 1 + xl.length) _ rfl (by omega) (by omega) hfeed)
      have HK2 := Lib.hid (And.intro hR2 (And.intro hg1 (And.intro hd2 (And.intro hsucc (And.intro hst (And.intro hl (And.intro hwd ((hW1.trans hW2)))))))))
      clear HK HC hR1 hR2 hg1 hd1 hd2 hsucc hst hl hwd hW1 hW2 hfeed hom hch hs1 hB1
      go_wp2_with fail
      refine HD.out.mono ?_; rintro e w2 ⟨rfl, hch, hom⟩
      obtain ⟨hR2, hg1, hd2, hsucc, hst, hl, hwd, hW⟩ := HK2.out
      have hst2 := hR2.right (w' := w2) hB2 j _ hg1 (marks (z0 + 1 + xl.length) xr.length) (by rw [hd2, marks_len]) (by rw [hd2]; exact hch) (by rw [hd2]; exact hom)
      rw [hd2, set_twice] at hst2
      obtain ⟨hR3, hW3⟩ := hst2
      rw [HDEC.out, show (decide (z0 % 3 = 0), marks (z0 + 1) xl.length, marks (z0 + 1 + xl.length) xr.length) = mark1 z0 (p, xl, xr) from rfl, hsucc] at hR3
      have hl3 := markedC_len c k (j+1) (by omega)
      have hown := hR3.own (k := cap) (by rw [hl3]; omega) hml
      rw [hl3] at hown
      have HO := Lib.hid (And.intro hown (And.intro (HB2.out.trans (hW.trans hW3)) (And.intro hst hwd)))
      clear hR2 hR3 hg1 hd2 hsucc hst hl hwd hW hW3 hch hom hown HK2 HD HB2
      go_wp2_with fail
      go_roundw
      case rel =>
        obtain ⟨h1, h2, h3, h4⟩ := HO.out
        exact ⟨j+1, by omega, by go_num, by rw [h3, h4, ← Nat.add_assoc, hz0]; exact congrArg (Value.int .i64) (by omega), h1, h2⟩
      case measure => simp [intOf]; omega
    · rw [markedC_all c k j hlt] at ho
      rw [sumC_all c j hlt]
      go_wp2_with fail
      go_ret
      exact ⟨rfl, hb, ho⟩

set_option maxRecDepth 100000 in
set_option maxHeartbeats 400000 in
theorem heldLitS_c (l h : Nat) (v : Value) (c : List Lt) (k : Nat) (w : World) (hx : sumC c ≤ 1048576) (hk : k ≤ 1073741824) (hv : SlC l h w v (marksC k c)) :
    Calls Tryz.prog 20 #[v, .int .i64 k] w (RetV w (.int .i64 ((k + sumC c : Nat) : Int))) := by
  obtain ⟨ad, cap, rfl⟩ := hv.form
  have hml := marksC_len k c
  rw [hml]
  go_enter Tryz.func20, Tryz.ntmps20
  go_wp2_with fail
  go_loopw [1, 5] (fun m i wr => ∃ j : Nat, j ≤ c.length ∧ i = .int .i64 j ∧ m = .int .i64 ((k + sumC (c.take j) : Nat) : Int) ∧ Bel w wr) (fun _ i _ => c.length - (intOf i).toNat)
  case atStart => exact ⟨0, Nat.zero_le _, rfl, by simp [sumC], Bel.rfl' _⟩
  case round =>
    obtain ⟨j, hj, rfl, rfl, hb⟩ := hrel
    by_cases hlt : j < c.length
    · have hst := sumC_take c j hlt
      have hsl := sumC_get c j hlt
      have hcl := sumC_len c
      obtain ⟨b, off, u1, u2, rfl, -, c1, c2, c3, s1, s2⟩ := hv.at hb j (by rw [hml]; exact hlt)
      rw [marksC_get k c j hlt] at c1 s1 s2
      have hin1 : (j : Int) < c.length := by omega
      have hwd : wC (c.getD j lt0) = 1 + (c.getD j lt0).2.1.length + (c.getD j lt0).2.2.length := rfl
      have hkj : k + sumC (c.take j) ≤ 1073741824 + 1048576 := by have := sumC_le c j; omega
      generalize hz0 : k + sumC (c.take j) = z0 at *
      unfold mark1 at c1 s1 s2
      generalize c.getD j lt0 = x at *
      obtain ⟨p, xl, xr⟩ := x
      simp only at c1 c2 c3 s1 s2 hwd
      have hdec : (((z0 : Nat) : Int) % 3 == 0) = decide (z0 % 3 = 0) := by rw [Bool.eq_iff_iff]; simp; omega
      have hrem : Int.tmod (z0 : Int) 3 = ((z0 % 3 : Nat) : Int) := by rw [Int.tmod_eq_emod_of_nonneg (by omega)]; omega
      rw [← hdec] at c1
      have hne : ((((z0 : Nat) : Int) % 3 == 0) != (((z0 : Nat) : Int) % 3 == 0)) = false := by simp
      have HC := Lib.hid (fun (w' : World) (hq : Bel wr w') => heldIntS_z _ _ u1 xl.length ((z0 : Int) + 1) (z0 + 1) w' (by omega) (by omega) (by omega) (s1.below hq))
      have HD := Lib.hid (fun (w' : World) (hq : Bel wr w') => heldIntS_z _ _ u2 xr.length ((z0 + 1 + xl.length : Nat) : Int) (z0 + 1 + xl.length) w' rfl (by omega) (by omega) (s2.below hq))
      have HS := Lib.hid (And.intro hst hwd)
      have B1 := World.block_lt_of_cell? wr ⟨b, _, none⟩ c1
      have hn1 : decide (((z0 + 1 + xl.length : Nat) : Int) < 0) = false := by simp; omega
      have hn2 : decide (((z0 + 1 + xl.length + xr.length : Nat) : Int) < 0) = false := by simp; omega
      clear hv s1 s2 hst hwd hdec
      go_wp2_with fail
      refine (HC.out _ (Bel.rfl' _)).mono ?_; rintro e w1 ⟨rfl, hb1⟩
      have d3 := hb1.at (World.block_lt_of_cell? wr ⟨b, _, none⟩ c3) c3
      go_wp2_with fail
      refine (HD.out _ hb1).mono ?_; rintro e w2 ⟨rfl, hb2⟩
      go_wp2_with fail
      go_roundw
      case rel =>
        obtain ⟨h3, h4⟩ := HS.out
        exact ⟨j+1, by omega, by go_num, by rw [h3, h4, ← Nat.add_assoc, hz0]; exact congrArg (Value.int .i64) (by omega), (hb.step hb1).step hb2⟩
      case measure => simp [intOf]; omega
    · rw [sumC_all c j hlt]
      go_wp2_with fail
      go_ret
      exact ⟨rfl, hb⟩
end Go.Proofs.YtikllmdmifecpaaGreatDoor
end
section
/- The arguments of a law, opened: slices of ints, a struct of one, strings, ints. -/
namespace Go.Proofs.YtikllmdmifecpaaGreatDoor
open Go.ChangeShapes Go.WideShapes Go.ChangeAt Go.RowKit
open Go.ChangeMaps (open_string shut_string)
set_option linter.unusedVariables false
set_option maxRecDepth 100000

theorem Row.own : ownKnob Tryz.prog.godebug = none := by kernel_rfl
theorem Row.laidOut : laidOutB Tryz.prog = true := by kernel_rfl

/-- A slice of ints that came in. -/
theorem op_slI {H : Type} {enc : TypeId × Value → H} {W : World} {fuel : Nat} {v : Value} {x : DataW H × List MemPlace}
    (h : DataW.trod enc Tryz.prog W 0 (fun _ => true) true fuel 22 [v] = some x) :
    ∃ xs : List Int, xs.length ≤ 9223372036854775807 ∧ SlI 0 W.heap.size W v xs ∧ ∀ n ∈ xs, (Lit.int .i64 n).wf = true := by
  rcases open_ints Tryz.underlying22 Tryz.underlying3 (by kernel_rfl) h with ⟨hcs, _⟩ | ⟨a, l, c, zs, hcs, _, hl, hm, hz, _, hcell, hwz⟩
  · simp at hcs
    subst hcs
    exact ⟨[], by simp, SlI.nil _ _ _, by simp⟩
  · simp at hcs
    subst hcs
    have hz' : zs.length = c := by simpa using hz
    have hlen : (zs.take l).length = l := by simp; omega
    refine ⟨zs.take l, by rw [hlen]; have : maxLen = 9223372036854775807 := rfl; omega, ⟨some a, c, by rw [hlen], by rw [hlen]; exact hl, ⟨hm, fun h => by simp at h⟩, fun hp => ?_⟩, fun n hn => hwz n (List.mem_of_mem_take hn)⟩
    rw [hlen] at hp
    obtain ⟨b, off, spot⟩ := a
    have h0 := hcell 0 (by omega)
    have hspot : spot = none := by simpa [Addr.add] using World.cell?_spot h0
    subst hspot
    refine ⟨b, off, rfl, Nat.zero_le _, World.block_lt_of_cell? W ⟨b, off + 0, none⟩ h0, fun j hj => ?_⟩
    rw [hlen] at hj
    rw [← add_plain, hcell j (by omega)]
    simp [List.getD, hj]

theorem op_int {H : Type} {enc : TypeId × Value → H} {W : World} {v : Value} {d : DataW H} {p : List MemPlace} {base : Nat} (hv : Value.okWide Tryz.prog W .any base 3 v)
    (h : DataW.Trod enc Tryz.prog W 0 (fun _ => true) true 3 v d p) : ∃ n : Int, v = .int .i64 n ∧ -9223372036854775808 ≤ n ∧ n ≤ 9223372036854775807 := by
  obtain ⟨n, rfl, rfl, rfl, wf⟩ := open_int Tryz.underlying3 hv h
  have h1 : IntKind.i64.min = -9223372036854775808 := rfl
  have h2 : IntKind.i64.max = 9223372036854775807 := rfl
  simp only [Lit.wf, Bool.and_eq_true, decide_eq_true_eq] at wf
  exact ⟨n, rfl, by omega, by omega⟩

theorem op_ints {H : Type} {enc : TypeId × Value → H} {W : World} {v : Value} {d : DataW H} {p : List MemPlace} {base : Nat} (hv : Value.okWide Tryz.prog W .any base 22 v)
    (h : DataW.Trod enc Tryz.prog W 0 (fun _ => true) true 22 v d p) : ∃ xs : List Int, xs.length ≤ 9223372036854775807 ∧ SlI 0 W.heap.size W v xs ∧ ∀ n ∈ xs, (Lit.int .i64 n).wf = true := by
  obtain ⟨a, n, c, rfl⟩ := okWide_slice Tryz.underlying22 hv
  obtain ⟨fuel, hf⟩ := h
  exact op_slI (x := (d, p)) (by simpa [Value.cells] using hf)

theorem op_sign {H : Type} {enc : TypeId × Value → H} {W : World} {v : Value} {d : DataW H} {p : List MemPlace} {base : Nat} (hv : Value.okWide Tryz.prog W .any base 24 v)
    (h : DataW.Trod enc Tryz.prog W 0 (fun _ => true) true 24 v d p) : ∃ u, v = .agg #[u] ∧ ∃ xs : List Int, xs.length ≤ 9223372036854775807 ∧ SlI 0 W.heap.size W u xs ∧ ∀ n ∈ xs, (Lit.int .i64 n).wf = true := by
  obtain ⟨cs, rfl, hsz⟩ := okWide_struct Tryz.underlying24 hv
  have hC : Tryz.prog.cellsOf 24 = 1 := by kernel_rfl
  obtain ⟨u, rfl⟩ : ∃ u, cs = #[u] := by
    rw [hC] at hsz
    match cs, hsz with
    | ⟨[u]⟩, _ => exact ⟨u, rfl⟩
  obtain ⟨fuel, hf⟩ := h
  obtain ⟨y0, n, hx, _, h0⟩ := trod_struct1 Tryz.underlying24 hf
  exact ⟨u, rfl, op_slI (x := y0) (by simpa [Value.cells, show Tryz.prog.cellsOf 22 = 1 from by kernel_rfl] using h0)⟩

theorem op_string {H : Type} {enc : TypeId × Value → H} {W : World} {v : Value} {d : DataW H} {p : List MemPlace} {base : Nat} (hv : Value.okWide Tryz.prog W .any base 9 v)
    (h : DataW.Trod enc Tryz.prog W 0 (fun _ => true) true 9 v d p) : ∃ s : ByteArray, v = .string s ∧ s.size ≤ 9223372036854775807 := by
  obtain ⟨s, rfl, rfl, rfl, hs⟩ := open_string Tryz.underlying9 hv h
  exact ⟨s, rfl, hs⟩

theorem op_lt {H : Type} {enc : TypeId × Value → H} {W : World} {t : TypeId} {v : Value} {d : DataW H} {p : List MemPlace}
    (h : DataW.Trod enc Tryz.prog W 0 (fun _ => true) true t v d p) : ∀ x ∈ p, x.block < W.heap.size := by
  obtain ⟨m, hm⟩ := h; exact DataW.trod_lt m _ _ _ hm

end Go.Proofs.YtikllmdmifecpaaGreatDoor
end
section
/- A literal that came in, and a slice of literals, opened. -/
namespace Go.Proofs.YtikllmdmifecpaaGreatDoor
open Go.ChangeShapes Go.WideShapes Go.ChangeAt Go.RowKit
set_option linter.unusedVariables false
set_option maxRecDepth 100000

theorem op_litcells {H : Type} {enc : TypeId × Value → H} {W : World} {fuel : Nat} {cs : List Value} {x : DataW H × List MemPlace}
    (h : DataW.trod enc Tryz.prog W 0 (fun _ => true) true fuel 81 cs = some x) :
    ∃ (p : Bool) (u1 u2 : Value) (l r : List Int), cs = [.bool p, u1, u2] ∧ SlI 0 W.heap.size W u1 l ∧ l.length ≤ 9223372036854775807 ∧ SlI 0 W.heap.size W u2 r ∧ r.length ≤ 9223372036854775807 := by
  have hC : Tryz.prog.cellsOf 81 = 3 := by kernel_rfl
  obtain ⟨y0, y1, y2, n, _, hl, h0, h1, h2⟩ := Go.Deep.trod_struct3 Tryz.underlying81 h
  rw [hC] at hl
  match cs, hl with
  | [v0, v1, v2], _ =>
    have c0 : Tryz.prog.cellsOf 4 = 1 := by kernel_rfl
    have c1 : Tryz.prog.cellsOf 22 = 1 := by kernel_rfl
    simp only [c0, c1] at h0 h1 h2
    obtain ⟨p, e0, _⟩ := DataW.trod_bool Tryz.underlying4 (by simpa using h0)
    obtain ⟨l, hl, s1, _⟩ := op_slI (v := v1) (by simpa using h1)
    obtain ⟨r, hr, s2, _⟩ := op_slI (v := v2) (by simpa using h2)
    refine ⟨p, v1, v2, l, r, ?_, s1, hl, s2, hr⟩
    simp at e0
    rw [e0]

theorem op_lit {H : Type} {enc : TypeId × Value → H} {W : World} {v : Value} {d : DataW H} {p : List MemPlace} {base : Nat} (hv : Value.okWide Tryz.prog W .any base 81 v)
    (h : DataW.Trod enc Tryz.prog W 0 (fun _ => true) true 81 v d p) : ∃ (p : Bool) (u1 u2 : Value) (l r : List Int), v = .agg #[.bool p, u1, u2] ∧ SlI 0 W.heap.size W u1 l ∧ l.length ≤ 9223372036854775807 ∧ SlI 0 W.heap.size W u2 r ∧ r.length ≤ 9223372036854775807 := by
  obtain ⟨cs, rfl, hsz⟩ := okWide_struct Tryz.underlying81 hv
  obtain ⟨fuel, hf⟩ := h
  obtain ⟨p, u1, u2, l, r, e, s1, hl, s2, hr⟩ := op_litcells (x := (d, p)) (cs := cs.toList) (by simpa [Value.cells] using hf)
  exact ⟨p, u1, u2, l, r, by rw [← e], s1, hl, s2, hr⟩

theorem op_lits {H : Type} {enc : TypeId × Value → H} {W : World} {v : Value} {d : DataW H} {p : List MemPlace} {base : Nat} (hv : Value.okWide Tryz.prog W .any base 25 v)
    (h : DataW.Trod enc Tryz.prog W 0 (fun _ => true) true 25 v d p) : ∃ c : List Lt, SlC 0 W.heap.size W v c := by
  obtain ⟨a, n, k, rfl⟩ := okWide_slice Tryz.underlying25 hv
  have hC : Tryz.prog.cellsOf 81 = 3 := by kernel_rfl
  obtain ⟨fuel, hf⟩ := h
  rcases Go.Deep.open_slice Tryz.underlying25 (by simpa [Value.cells] using hf) with ⟨hcs, _⟩ | ⟨ad, len, cap, m, n', D, Pl, hcs, _, hl, hm, hmm, _, hx⟩
  · simp at hcs
    obtain ⟨rfl, rfl, rfl⟩ := hcs
    exact ⟨[], SlC.nil _ _ _⟩
  · simp at hcs
    obtain ⟨rfl, rfl, rfl⟩ := hcs
    simp at hmm
    subst hmm
    have each : ∀ i, i < n → ∃ q : Bool × Value × Value × List Int × List Int, W.cell? (ad.add (i * 3)) = some (.bool q.1) ∧ W.cell? (ad.add (i * 3 + 1)) = some q.2.1 ∧ W.cell? (ad.add (i * 3 + 2)) = some q.2.2.1 ∧ SlI 0 W.heap.size W q.2.1 q.2.2.2.1 ∧ SlI 0 W.heap.size W q.2.2.1 q.2.2.2.2 := fun i hi => by
      obtain ⟨cs', h1, h2⟩ := hx i (by omega)
      rw [hC] at h1
      obtain ⟨_, hlen, hcell⟩ := World.cells?_some h1
      obtain ⟨p, u1, u2, l, r, rfl, s1, _, s2, _⟩ := op_litcells h2
      have e0 := hcell 0 (by omega)
      have e1 := hcell 1 (by omega)
      have e2 := hcell 2 (by omega)
      rw [Go.Deep.add_add] at e0 e1 e2
      exact ⟨(p, u1, u2, l, r), by simpa using e0, by simpa using e1, by simpa using e2, s1, s2⟩
    obtain ⟨Z, hZ⟩ := Go.Deep.choose_lt each
    have hlen : ((List.range n).map fun i => ((Z i).1, (Z i).2.2.2.1, (Z i).2.2.2.2)).length = n := by simp
    refine ⟨(List.range n).map fun i => ((Z i).1, (Z i).2.2.2.1, (Z i).2.2.2.2), some ad, _, by rw [hlen], by rw [hlen]; exact hl, ⟨hm, fun h => by simp at h⟩, fun hp => ?_⟩
    rw [hlen] at hp
    obtain ⟨b, off, spot⟩ := ad
    have h0 := (hZ 0 (by omega)).1
    have hspot : spot = none := by simpa [Addr.add] using World.cell?_spot h0
    subst hspot
    refine ⟨b, off, rfl, Nat.zero_le _, World.block_lt_of_cell? W ⟨b, off + 0 * 3, none⟩ (by rw [← add_plain]; exact h0), fun j hj => ?_⟩
    rw [hlen] at hj
    obtain ⟨z0, z1, z2, z3, z4⟩ := hZ j hj
    refine ⟨(Z j).2.1, (Z j).2.2.1, ?_, ?_, ?_, ?_, ?_⟩
    · rw [← add_plain]; simpa [List.getD, hj] using z0
    · rw [Nat.add_assoc, ← add_plain]; exact z1
    · rw [Nat.add_assoc, ← add_plain]; exact z2
    · simpa [List.getD, hj] using z3
    · simpa [List.getD, hj] using z4
end Go.Proofs.YtikllmdmifecpaaGreatDoor
end
section
/- The laws' helpers for ways: toWay. -/
namespace Go.Proofs.YtikllmdmifecpaaGreatDoor
open Go.RowKit

set_option maxRecDepth 100000 in
set_option maxHeartbeats 400000 in
theorem toWay_c (z0 z1 z2 z3 z4 : Int) (w : World) :
    Calls Tryz.prog 14 #[.agg #[.int .i64 z0, .int .i64 z1, .int .i64 z2, .int .i64 z3, .int .i64 z4]] w (RetV w (.agg #[.int .i64 z0, .int .i64 z1, .int .i64 z2, .int .i64 z3, .int .i64 z4])) := by
  go_enter Tryz.func14, Tryz.ntmps14
  go_wp2_with fail
  refine bodyPost_ret (v := .agg #[.int .i64 z0, .int .i64 z1, .int .i64 z2, .int .i64 z3, .int .i64 z4]) (by simp [results, Tryz.results14, go_sem]) rfl ⟨rfl, Bel.alloc3 _ _ _ _⟩
end Go.Proofs.YtikllmdmifecpaaGreatDoor
end
section
/- A slice of slices of ints that came in, opened. -/
namespace Go.Proofs.YtikllmdmifecpaaGreatDoor
open Go.ChangeShapes Go.WideShapes Go.ChangeAt Go.RowKit
set_option linter.unusedVariables false
set_option maxRecDepth 100000

theorem op_intss {H : Type} {enc : TypeId × Value → H} {W : World} {v : Value} {d : DataW H} {p : List MemPlace} {base : Nat} (hv : Value.okWide Tryz.prog W .any base 70 v)
    (h : DataW.Trod enc Tryz.prog W 0 (fun _ => true) true 70 v d p) : ∃ xss : List (List Int), SlS 0 W.heap.size W v xss := by
  obtain ⟨a, n, c, rfl⟩ := okWide_slice Tryz.underlying70 hv
  obtain ⟨fuel, hf⟩ := h
  rcases Go.Deep.open_slice1 Tryz.underlying70 (by kernel_rfl) (by simpa [Value.cells] using hf) with ⟨hcs, _⟩ | ⟨ad, len, cap, m, n', V, D, Pl, hcs, _, hl, hm, hmm, _, hx⟩
  · simp at hcs
    obtain ⟨rfl, rfl, rfl⟩ := hcs
    exact ⟨[], SlS.nil _ _ _⟩
  · simp at hcs
    obtain ⟨rfl, rfl, rfl⟩ := hcs
    simp at hmm
    subst hmm
    have each : ∀ i, i < n → ∃ xs : List Int, SlI 0 W.heap.size W (V i) xs := fun i hi => by
      obtain ⟨xs, _, h2, _⟩ := op_slI (hx i (by omega)).2
      exact ⟨xs, h2⟩
    obtain ⟨Z, hZ⟩ := Go.Deep.choose_lt each
    have hlen : ((List.range n).map Z).length = n := by simp
    refine ⟨(List.range n).map Z, some ad, _, by rw [hlen], by rw [hlen]; exact hl, ⟨hm, fun h => by simp at h⟩, fun hp => ?_⟩
    rw [hlen] at hp
    obtain ⟨b, off, spot⟩ := ad
    have h0 := (hx 0 (by omega)).1
    have hspot : spot = none := by simpa [Addr.add] using World.cell?_spot h0
    subst hspot
    refine ⟨b, off, rfl, Nat.zero_le _, World.block_lt_of_cell? W ⟨b, off + 0, none⟩ h0, fun j hj => ?_⟩
    rw [hlen] at hj
    refine ⟨V j, ?_, ?_⟩
    · rw [← add_plain]; exact (hx j (by omega)).1
    · have := hZ j hj
      simpa [List.getD, hj] using this
end Go.Proofs.YtikllmdmifecpaaGreatDoor
end
section
/- A way that came in, opened. -/
namespace Go.Proofs.YtikllmdmifecpaaGreatDoor
open Go.ChangeShapes Go.WideShapes Go.ChangeAt Go.RowKit
set_option linter.unusedVariables false
set_option maxRecDepth 100000

theorem trod_struct5 {P : Program} {w : World} {base : Nat} {spare : Nat → Bool} {held : Bool} {H : Type} {enc : TypeId × Value → H} {t : TypeId} {f0 f1 f2 f3 f4 : Field} {fuel : Nat} {cs : List Value} {x : DataW H × List MemPlace} (ht : P.underlying t = some (.struct #[f0, f1, f2, f3, f4])) (h : DataW.trod enc P w base spare held fuel t cs = some x) :
    ∃ y0 y1 y2 y3 y4 n, DataW.trod enc P w base spare held n f0.type ((cs.drop f0.offset).take (P.cellsOf f0.type)) = some y0 ∧ DataW.trod enc P w base spare held n f1.type ((cs.drop f1.offset).take (P.cellsOf f1.type)) = some y1 ∧
      DataW.trod enc P w base spare held n f2.type ((cs.drop f2.offset).take (P.cellsOf f2.type)) = some y2 ∧ DataW.trod enc P w base spare held n f3.type ((cs.drop f3.offset).take (P.cellsOf f3.type)) = some y3 ∧ DataW.trod enc P w base spare held n f4.type ((cs.drop f4.offset).take (P.cellsOf f4.type)) = some y4 := by
  obtain ⟨xs, n, _, rfl, hl, hlen, hf⟩ := DataW.trod_struct ht h
  match xs, hlen with
  | [y0, y1, y2, y3, y4], _ => exact ⟨y0, y1, y2, y3, y4, n, by simpa using hf 0 f0 rfl, by simpa using hf 1 f1 rfl, by simpa using hf 2 f2 rfl, by simpa using hf 3 f3 rfl, by simpa using hf 4 f4 rfl⟩
theorem op_way {H : Type} {enc : TypeId × Value → H} {W : World} {v : Value} {d : DataW H} {p : List MemPlace} {base : Nat} (hv : Value.okWide Tryz.prog W .any base 27 v)
    (h : DataW.Trod enc Tryz.prog W 0 (fun _ => true) true 27 v d p) : ∃ z0 z1 z2 z3 z4 : Int, v = .agg #[.int .i64 z0, .int .i64 z1, .int .i64 z2, .int .i64 z3, .int .i64 z4] := by
  obtain ⟨cs, rfl, hsz⟩ := okWide_struct Tryz.underlying27 hv
  have hC : Tryz.prog.cellsOf 27 = 5 := by kernel_rfl
  rw [hC] at hsz
  obtain ⟨v0, v1, v2, v3, v4, rfl⟩ : ∃ a b c d e, cs = #[a, b, c, d, e] := by
    match cs, hsz with
    | ⟨[a, b, c, d, e]⟩, _ => exact ⟨a, b, c, d, e, rfl⟩
  obtain ⟨fuel, hf⟩ := h
  obtain ⟨y0, y1, y2, y3, y4, n, h0, h1, h2, h3, h4⟩ := trod_struct5 Tryz.underlying27 hf
  have c0 : Tryz.prog.cellsOf 3 = 1 := by kernel_rfl
  simp only [c0] at h0 h1 h2 h3 h4
  obtain ⟨z0, e0, _⟩ := DataW.trod_int Tryz.underlying3 (by simpa [Value.cells] using h0)
  obtain ⟨z1, e1, _⟩ := DataW.trod_int Tryz.underlying3 (by simpa [Value.cells] using h1)
  obtain ⟨z2, e2, _⟩ := DataW.trod_int Tryz.underlying3 (by simpa [Value.cells] using h2)
  obtain ⟨z3, e3, _⟩ := DataW.trod_int Tryz.underlying3 (by simpa [Value.cells] using h3)
  obtain ⟨z4, e4, _⟩ := DataW.trod_int Tryz.underlying3 (by simpa [Value.cells] using h4)
  simp at e0 e1 e2 e3 e4
  subst e0 e1 e2 e3 e4
  exact ⟨z0, z1, z2, z3, z4, rfl⟩
end Go.Proofs.YtikllmdmifecpaaGreatDoor
end
section
/- A world that came in, opened. -/
namespace Go.Proofs.YtikllmdmifecpaaGreatDoor
open Go.ChangeShapes Go.WideShapes Go.ChangeAt Go.RowKit
set_option linter.unusedVariables false
set_option maxRecDepth 100000

theorem op_slS {H : Type} {enc : TypeId × Value → H} {W : World} {fuel : Nat} {v : Value} {x : DataW H × List MemPlace}
    (h : DataW.trod enc Tryz.prog W 0 (fun _ => true) true fuel 70 [v] = some x) : ∃ xss : List (List Int), SlS 0 W.heap.size W v xss := by
  rcases Go.Deep.open_slice1 Tryz.underlying70 (by kernel_rfl) h with ⟨hcs, _⟩ | ⟨ad, n, cap, m, n', V, D, Pl, hcs, _, hl, hm, hmm, _, hx⟩
  · simp at hcs
    subst hcs
    exact ⟨[], SlS.nil _ _ _⟩
  · simp at hcs
    subst hcs
    simp at hmm
    subst hmm
    have each : ∀ i, i < n → ∃ xs : List Int, SlI 0 W.heap.size W (V i) xs := fun i hi => by
      obtain ⟨xs, _, h2, _⟩ := op_slI (hx i (by omega)).2
      exact ⟨xs, h2⟩
    obtain ⟨Z, hZ⟩ := Go.Deep.choose_lt each
    have hlen : ((List.range n).map Z).length = n := by simp
    refine ⟨(List.range n).map Z, some ad, _, by rw [hlen], by rw [hlen]; exact hl, ⟨hm, fun h => by simp at h⟩, fun hp => ?_⟩
    rw [hlen] at hp
    obtain ⟨b, off, spot⟩ := ad
    have h0 := (hx 0 (by omega)).1
    have hspot : spot = none := by simpa [Addr.add] using World.cell?_spot h0
    subst hspot
    refine ⟨b, off, rfl, Nat.zero_le _, World.block_lt_of_cell? W ⟨b, off + 0, none⟩ h0, fun j hj => ?_⟩
    rw [hlen] at hj
    refine ⟨V j, ?_, ?_⟩
    · rw [← add_plain]; exact (hx j (by omega)).1
    · have := hZ j hj
      simpa [List.getD, hj] using this

end Go.Proofs.YtikllmdmifecpaaGreatDoor
end
section
/- The door: what the listed table gives, and a world for the witness. -/
namespace Go.Proofs.YtikllmdmifecpaaGreatDoor
open Go.ChangeShapes Go.WideShapes Go.ChangeAt Go.RowKit

theorem tab_of_laid {W : World} (h : laidMetH Tryz.prog [("loop.example/g00682/impl.weights", Rows.laid_loop_example_g00682_impl_weights)] W) : Tab W := by
  have g1 : Tryz.prog.globalNamed "loop.example/g00682/impl.weights" = some 0 := by kernel_rfl
  have g2 : (Tryz.prog.globals[0]?).map (·.type) = some 216 := by kernel_rfl
  have g3 : Tryz.prog.cellsOf 216 = 2 := by kernel_rfl
  have g4 : Tryz.prog.cellsOf 3 = 1 := by kernel_rfl
  have ht : Lib.TabIs Tryz.prog W "loop.example/g00682/impl.weights" .i64 [1, 1] := Lib.tabIs_of_head (rest := []) g1 g2 Tryz.underlying216 Tryz.underlying3 g4 g3 h
  exact ⟨ht.cell g1 0 (by decide), ht.cell g1 1 (by decide)⟩

/-- A world for the witness: the settled one, the table as its text lays it. -/
noncomputable def laidWorld (os : Os) : World :=
  { World.holding Tryz.prog os ⟨#[], #[], []⟩ with heap := (World.holding Tryz.prog os ⟨#[], #[], []⟩).heap.modify 0 fun
      | .cells _ t frozen => .cells #[.int .i64 1, .int .i64 1] t frozen
      | o => o }
theorem laid_met (os : Os) (args : Array Value) : laidMet Tryz.prog [("loop.example/g00682/impl.weights", Rows.laid_loop_example_g00682_impl_weights)] ((laidWorld os).forCall (fun _ _ => 0) ⟨#[], args, []⟩).memory :=
  laidMet_of_run' 8 (by kernel_rfl) (by kernel_rfl)
end Go.Proofs.YtikllmdmifecpaaGreatDoor
end
