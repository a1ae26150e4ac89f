/- The laws' helpers over slices of literals: marks. -/
import Derived.Test.YtikllmdmifecpabLwC4
namespace Go.Proofs.Ytikllmdmifecpab
open Go.RowKit

def qlo (bs : Nat → Nat) (i : Nat) (xs : List Int) : Nat := if 0 < xs.length then bs i else 0
def qhi (bs : Nat → Nat) (i : Nat) (xs : List Int) : Nat := if 0 < xs.length then bs i + 1 else 0
theorem Ins.feed {lo hi b w us xss bs} (h : Ins lo hi b w us xss bs) (i : Nat) (u : Value) (hu : us[i]? = some u) : OwnI (qlo bs i (xss.getD i [])) (qhi bs i (xss.getD i [])) w u (xss.getD i []) := by
  have ho := h.own i u hu
  unfold qlo qhi
  split
  · exact ho
  · rename_i h0; rw [len0 h0] at ho ⊢; exact ho.empty
theorem Ins.fed {lo hi b w w' us xss bs} (h : Ins lo hi b w us xss bs) (hb : b < w.heap.size) (i : Nat) (hi' : i < xss.length) (u : Value) (hu : us[i]? = some u) (ys : List Int) (hl : ys.length = (xss.getD i []).length)
    (hch : Chg (qlo bs i (xss.getD i [])) (qhi bs i (xss.getD i [])) w w') (ho : OwnI (qlo bs i (xss.getD i [])) (qhi bs i (xss.getD i [])) w' u ys) :
    Ins lo hi b w' us (xss.set i ys) bs ∧ Chg lo hi w w' ∧ w'.heap[b]? = w.heap[b]? := by
  by_cases hp : 0 < (xss.getD i []).length
  · obtain ⟨a1, a2, a3⟩ := h.rng i hi' hp
    unfold qlo qhi at hch ho
    rw [if_pos hp, if_pos hp] at hch ho
    exact ⟨h.stored i hi' u hu ys hl (fun _ => hch) (fun h0 => absurd (by omega) h0) ho, hch.mono a1 (by omega), hch.block b hb (by omega)⟩
  · unfold qlo qhi at hch ho
    rw [if_neg hp, if_neg hp] at hch ho
    have hy : ys = [] := List.length_eq_zero_iff.1 (by omega)
    subst hy
    exact ⟨h.stored i hi' u hu [] hl (fun h0 => absurd h0 (by simp)) (fun _ => hch) ho.empty, ⟨hch.os, hch.tape, hch.output, hch.size, fun x hx _ => hch.block x hx (by omega)⟩, hch.block b hb (by omega)⟩
theorem CRow.left {lo hi b off : Nat} {w w' : World} {zs : List LV} {c : List Lt} {bs : Nat → Nat} (h : CRow lo hi b off w zs c bs) (hb : b < w.heap.size) (j : Nat) (z : LV) (hz : zs[j]? = some z) (ys : List Int) (hl : ys.length = (c.getD j lt0).2.1.length)
    (hch : Chg (qlo bs (2*j) (c.getD j lt0).2.1) (qhi bs (2*j) (c.getD j lt0).2.1) w w') (ho : OwnI (qlo bs (2*j) (c.getD j lt0).2.1) (qhi bs (2*j) (c.getD j lt0).2.1) w' z.2.1 ys) :
    CRow lo hi b off w' zs (c.set j ((c.getD j lt0).1, ys, (c.getD j lt0).2.2)) bs ∧ Chg lo hi w w' := by
  have hj : j < zs.length := (List.getElem?_eq_some_iff.1 hz).1
  have hjc : j < c.length := by rw [← h.len]; exact hj
  have hfl := flatC_len c
  obtain ⟨g1, g2⟩ := flatC_get c j
  rw [← g1] at hch ho hl
  obtain ⟨k1, k2, k3⟩ := h.ins.fed hb (2*j) (by omega) z.2.1 (rowsC_get zs j z hz).1 ys hl hch ho
  refine ⟨h.terms k3 (by simp) (fun i => ?_) ?_, k2⟩
  · by_cases e : j = i
    · subst e; simp [List.getD, hjc]
    · simp [List.getD, e]
  · have : flatC (c.set j ((c.getD j lt0).1, ys, (c.getD j lt0).2.2)) = (flatC c).set (2*j) ys := by
      rw [flatC_set c j _ hjc]
      show ((flatC c).set (2 * j) ys).set (2 * j + 1) (c.getD j lt0).2.2 = _
      rw [← g2]
      apply List.ext_getElem?
      intro i
      simp only [List.getElem?_set]
      by_cases e : 2 * j + 1 = i
      · subst e; simp [List.getD, show 2 * j + 1 < (flatC c).length by omega]
      · rw [if_neg e]
    rw [this]; exact k1
theorem CRow.right {lo hi b off : Nat} {w w' : World} {zs : List LV} {c : List Lt} {bs : Nat → Nat} (h : CRow lo hi b off w zs c bs) (hb : b < w.heap.size) (j : Nat) (z : LV) (hz : zs[j]? = some z) (ys : List Int) (hl : ys.length = (c.getD j lt0).2.2.length)
    (hch : Chg (qlo bs (2*j+1) (c.getD j lt0).2.2) (qhi bs (2*j+1) (c.getD j lt0).2.2) w w') (ho : OwnI (qlo bs (2*j+1) (c.getD j lt0).2.2) (qhi bs (2*j+1) (c.getD j lt0).2.2) w' z.2.2 ys) :
    CRow lo hi b off w' zs (c.set j ((c.getD j lt0).1, (c.getD j lt0).2.1, ys)) bs ∧ Chg lo hi w w' := by
  have hj : j < zs.length := (List.getElem?_eq_some_iff.1 hz).1
  have hjc : j < c.length := by rw [← h.len]; exact hj
  have hfl := flatC_len c
  obtain ⟨g1, g2⟩ := flatC_get c j
  rw [← g2] at hch ho hl
  obtain ⟨k1, k2, k3⟩ := h.ins.fed hb (2*j+1) (by omega) z.2.2 (rowsC_get zs j z hz).2 ys hl hch ho
  refine ⟨h.terms k3 (by simp) (fun i => ?_) ?_, k2⟩
  · by_cases e : j = i
    · subst e; simp [List.getD, hjc]
    · simp [List.getD, e]
  · have : flatC (c.set j ((c.getD j lt0).1, (c.getD j lt0).2.1, ys)) = (flatC c).set (2*j+1) ys := by
      rw [flatC_set c j _ hjc]
      show ((flatC c).set (2 * j) (c.getD j lt0).2.1).set (2 * j + 1) ys = _
      rw [← g1]
      apply List.ext_getElem?
      intro i
      simp only [List.getElem?_set, List.length_set]
      by_cases e : 2 * j + 1 = i
      · subst e; simp
      · rw [if_neg e, if_neg e]
        by_cases e2 : 2 * j = i
        · subst e2; simp [List.getD, show 2 * j < (flatC c).length by omega]
        · rw [if_neg e2]
    rw [this]; exact k1

theorem markIntS_z (lo hi : Nat) (v : Value) (xs : List Int) (z : Int) (k : Nat) (w : World) (hz : z = k) (hx : xs.length ≤ 1099511627776) (hk : k ≤ 1099511627776) (hv : OwnI lo hi w v xs) :
    Calls Try.prog 105 #[v, .int .i64 z] w (RetM lo hi w v xs k) := by subst hz; exact markIntS_c lo hi v xs k w hx hk hv
theorem heldIntS_z (l h : Nat) (v : Value) (n : Nat) (z : Int) (k : Nat) (w : World) (hz : z = k) (hx : n ≤ 1099511627776) (hk : k ≤ 1099511627776) (hv : SlI l h w v (marks k n)) :
    Calls Try.prog 106 #[v, .int .i64 z] w (RetV w (.int .i64 ((k + n : Nat) : Int))) := by subst hz; exact heldIntS_c l h v n k w hx hk hv
theorem set_twice {α : Type} (l : List α) (j : Nat) (a b : α) : (l.set j a).set j b = l.set j b := by simp

def RetMC (lo hi : Nat) (w : World) (v : Value) (c : List Lt) (k : Nat) (e : Ending) (w' : World) : Prop := e = .returned (.int .i64 ((k + sumC c : Nat) : Int)) ∧ Chg lo hi w w' ∧ OwnC lo hi w' v (marksC k c)
theorem OwnC.crow {lo hi : Nat} {w : World} {ad : Option Addr} {n k : Nat} {c : List Lt} (h : OwnC lo hi w (.slice ad n k) c) (hp : 0 < c.length) : ∃ b off zs bs, ad = some ⟨b, off, none⟩ ∧ n = c.length ∧ c.length ≤ k ∧ k ≤ maxLen ∧ CRow lo hi b off w zs c bs := by
  obtain ⟨ad', cap, e, hc, hm, hr⟩ := h
  simp only [Value.slice.injEq] at e
  obtain ⟨rfl, rfl, rfl⟩ := e
  obtain ⟨b, off, zs, bs, e, a1, a2, hl, a3, hf, hi⟩ := hr hp
  exact ⟨b, off, zs, bs, e, rfl, hc, hm.1, a1, a2, hl, a3, hf, hi⟩
theorem CRow.own {lo hi b off k : Nat} {w : World} {zs : List LV} {c : List Lt} {bs : Nat → Nat} (h : CRow lo hi b off w zs c bs) (hc : c.length ≤ k) (hm : k ≤ maxLen) : OwnC lo hi w (.slice (some ⟨b, off, none⟩) c.length k) c :=
  ⟨_, k, rfl, hc, ⟨hm, fun h => by simp at h⟩, fun _ => ⟨b, off, zs, bs, rfl, h.hlo, h.hhi, h.len, h.cell, h.free, h.ins⟩⟩

set_option maxRecDepth 100000 in
set_option maxHeartbeats 400000 in
theorem markLitS_c (lo hi : Nat) (v : Value) (c : List Lt) (k : Nat) (w : World) (hx : sumC c ≤ 1048576) (hk : k ≤ 1073741824) (hv : OwnC lo hi w v c) :
    Calls Try.prog 50 #[v, .int .i64 k] w (RetMC lo hi w v c k) := by
  obtain ⟨ad, cap, rfl⟩ := hv.sl.form
  go_enter Try.func50, Try.ntmps50
  go_wp2_with fail
  go_loopw [1, 5] (fun m i wr => ∃ j : Nat, j ≤ c.length ∧ i = .int .i64 j ∧ m = .int .i64 ((k + sumC (c.take j) : Nat) : Int) ∧ OwnC lo hi wr (.slice ad c.length cap) (markedC c k j) ∧ Chg lo hi w wr) (fun _ i _ => c.length - (intOf i).toNat)
  case atStart => exact ⟨0, Nat.zero_le _, rfl, by simp [sumC], by rw [markedC_zero]; exact hv, Chg.refl _ _ _⟩
  case round =>
    obtain ⟨j, hj, rfl, rfl, ho, hb⟩ := hrel
    by_cases hlt : j < c.length
    · have hl := markedC_len c k j hj
      have hst := sumC_take c j hlt
      have hsl := sumC_get c j hlt
      have hcl := sumC_len c
      obtain ⟨b, off, zs, bs, rfl, -, hcap, hml, hR⟩ := ho.crow (by omega)
      have hzl := hR.len
      have hz : zs[j]? = some zs[j] := List.getElem?_eq_getElem (by omega)
      obtain ⟨-, c1, c2, c3⟩ := hR.cell j _ hz
      have f1 := hR.free (off + j * 3)
      have hB := World.block_lt_of_cell? wr ⟨b, _, none⟩ c1
      have hget := markedC_get c k j hlt
      have hsucc := markedC_succ c k j hlt
      have hin1 : (j : Int) < c.length := by omega
      have hwd : wC (c.getD j lt0) = 1 + (c.getD j lt0).2.1.length + (c.getD j lt0).2.2.length := rfl
      generalize zs[j] = z at *
      obtain ⟨p0, u1, u2⟩ := z
      simp only at c1 c2 c3
      have hkj : k + sumC (c.take j) ≤ 1073741824 + 1048576 := by have := sumC_le c j; omega
      generalize hz0 : k + sumC (c.take j) = z0 at *
      have hrem : Int.tmod (z0 : Int) 3 = ((z0 % 3 : Nat) : Int) := by rw [Int.tmod_eq_emod_of_nonneg (by omega)]; omega
      -- the sign
      have hdec : (((z0 : Nat) : Int) % 3 == 0) = decide (z0 % 3 = 0) := by rw [Bool.eq_iff_iff]; simp; omega
      have hR1 := hR.sign j _ hz (((z0 : Nat) : Int) % 3 == 0)
      rw [hget] at hR1
      generalize hx : c.getD j lt0 = x at *
      obtain ⟨p, xl, xr⟩ := x
      simp only at *
      have hW1 := Chg.set (lo := lo) (hi := hi) wr (p := ⟨b, off + j * 3, none⟩) hR.hlo hR.hhi (.bool (((z0 : Nat) : Int) % 3 == 0))
      have hs1 : (wr.setCell ⟨b, off + j * 3, none⟩ (.bool (((z0 : Nat) : Int) % 3 == 0))).heap.size = wr.heap.size := by simp
      have e1 := World.cell?_setCell_other (h := show (⟨b, off + j * 3, none⟩ : Addr) ≠ ⟨b, off + j * 3 + 1, none⟩ by intro h; simp at h) (w := wr) (v := .bool (((z0 : Nat) : Int) % 3 == 0))
      rw [c2] at e1
      generalize hz1 : zs.set j (((z0 : Nat) : Int) % 3 == 0, u1, u2) = zs1 at hR1
      have hg1 : zs1[j]? = some (((z0 : Nat) : Int) % 3 == 0, u1, u2) := by rw [← hz1, List.getElem?_set]; simp; omega
      have hd1 : ((markedC c k j).set j (((z0 : Nat) : Int) % 3 == 0, xl, xr)).getD j lt0 = (((z0 : Nat) : Int) % 3 == 0, xl, xr) := by simp [List.getD, hl, hlt]
      have hfeed := hR1.ins.feed (2*j) u1 (rowsC_get zs1 j _ hg1).1
      rw [(flatC_get _ j).1, hd1] at hfeed
      have HC := Lib.hid (markIntS_z _ _ u1 xl ((z0 : Int) + 1) (z0 + 1) _ (by omega) (by omega) (by omega) hfeed)
      have HK := Lib.hid (And.intro hR1 (And.intro hg1 (And.intro hd1 (And.intro hsucc (And.intro hst (And.intro hl (And.intro hwd (And.intro hW1 hs1))))))))
      have HB2 := Lib.hid hb
      have HDEC := Lib.hid hdec
      clear hdec
      clear ho hv hR hR1 hz hget hsucc hst hl hwd hb hz1 hg1 hd1 hfeed hW1 hs1
      go_wp2_with fail
      refine HC.out.mono ?_; rintro e w1 ⟨rfl, hch, hom⟩
      obtain ⟨hR1, hg1, hd1, hsucc, hst, hl, hwd, hW1, hs1⟩ := HK.out
      have hB1 : b < (wr.setCell ⟨b, off + j * 3, none⟩ (.bool (((z0 : Nat) : Int) % 3 == 0))).heap.size := by rw [hs1]; exact hB
      have hst1 := hR1.left (w' := w1) hB1 j _ hg1 (marks (z0 + 1) xl.length) (by rw [hd1, marks_len]) (by rw [hd1]; exact hch) (by rw [hd1]; exact hom)
      rw [hd1, set_twice] at hst1
      obtain ⟨hR2, hW2⟩ := hst1
      obtain ⟨-, d1, d2, d3⟩ := hR2.cell j _ hg1
      simp only at d1 d2 d3
      have hB2 : b < w1.heap.size := Nat.lt_of_lt_of_le hB1 hW2.size
      have hd2 : ((markedC c k j).set j (((z0 : Nat) : Int) % 3 == 0, marks (z0 + 1) xl.length, xr)).getD j lt0 = (((z0 : Nat) : Int) % 3 == 0, marks (z0 + 1) xl.length, xr) := by simp [List.getD, hl, hlt]
      have hfeed := hR2.ins.feed (2*j+1) u2 (rowsC_get zs1 j _ hg1).2
      rw [(flatC_get _ j).2, hd2] at hfeed
      have HD := Lib.hid (markIntS_z _ _ u2 xr (((z0 + 1 + xl.length : Nat) : Int)) (z0 + 1 + xl.length) _ rfl (by omega) (by omega) hfeed)
      have HK2 := Lib.hid (And.intro hR2 (And.intro hg1 (And.intro hd2 (And.intro hsucc (And.intro hst (And.intro hl (And.intro hwd ((hW1.trans hW2)))))))))
      clear HK HC hR1 hR2 hg1 hd1 hd2 hsucc hst hl hwd hW1 hW2 hfeed hom hch hs1 hB1
      go_wp2_with fail
      refine HD.out.mono ?_; rintro e w2 ⟨rfl, hch, hom⟩
      obtain ⟨hR2, hg1, hd2, hsucc, hst, hl, hwd, hW⟩ := HK2.out
      have hst2 := hR2.right (w' := w2) hB2 j _ hg1 (marks (z0 + 1 + xl.length) xr.length) (by rw [hd2, marks_len]) (by rw [hd2]; exact hch) (by rw [hd2]; exact hom)
      rw [hd2, set_twice] at hst2
      obtain ⟨hR3, hW3⟩ := hst2
      rw [HDEC.out, show (decide (z0 % 3 = 0), marks (z0 + 1) xl.length, marks (z0 + 1 + xl.length) xr.length) = mark1 z0 (p, xl, xr) from rfl, hsucc] at hR3
      have hl3 := markedC_len c k (j+1) (by omega)
      have hown := hR3.own (k := cap) (by rw [hl3]; omega) hml
      rw [hl3] at hown
      have HO := Lib.hid (And.intro hown (And.intro (HB2.out.trans (hW.trans hW3)) (And.intro hst hwd)))
      clear hR2 hR3 hg1 hd2 hsucc hst hl hwd hW hW3 hch hom hown HK2 HD HB2
      go_wp2_with fail
      go_roundw
      case rel =>
        obtain ⟨h1, h2, h3, h4⟩ := HO.out
        exact ⟨j+1, by omega, by go_num, by rw [h3, h4, ← Nat.add_assoc, hz0]; exact congrArg (Value.int .i64) (by omega), h1, h2⟩
      case measure => simp [intOf]; omega
    · rw [markedC_all c k j hlt] at ho
      rw [sumC_all c j hlt]
      go_wp2_with fail
      go_ret
      exact ⟨rfl, hb, ho⟩

end Go.Proofs.Ytikllmdmifecpab
