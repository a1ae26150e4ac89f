/- Texts merged, part 10. -/
import Derived.Test.YteegjnobmbcjiaaMgChooseOf9
section
/- The laws' helpers over slices of literals: marks. -/
namespace Go.Proofs.Yteegjnobmbcjiaa
open Go.RowKit

def qlo (bs : Nat → Nat) (i : Nat) (xs : List Int) : Nat := if 0 < xs.length then bs i else 0
def qhi (bs : Nat → Nat) (i : Nat) (xs : List Int) : Nat := if 0 < xs.length then bs i + 1 else 0
theorem Ins.feed {lo hi b w us xss bs} (h : Ins lo hi b w us xss bs) (i : Nat) (u : Value) (hu : us[i]? = some u) : OwnI (qlo bs i (xss.getD i [])) (qhi bs i (xss.getD i [])) w u (xss.getD i []) := by
  have ho := h.own i u hu
  unfold qlo qhi
  split
  · exact ho
  · rename_i h0; rw [len0 h0] at ho ⊢; exact ho.empty
theorem Ins.fed {lo hi b w w' us xss bs} (h : Ins lo hi b w us xss bs) (hb : b < w.heap.size) (i : Nat) (hi' : i < xss.length) (u : Value) (hu : us[i]? = some u) (ys : List Int) (hl : ys.length = (xss.getD i []).length)
    (hch : Chg (qlo bs i (xss.getD i [])) (qhi bs i (xss.getD i [])) w w') (ho : OwnI (qlo bs i (xss.getD i [])) (qhi bs i (xss.getD i [])) w' u ys) :
    Ins lo hi b w' us (xss.set i ys) bs ∧ Chg lo hi w w' ∧ w'.heap[b]? = w.heap[b]? := by
  by_cases hp : 0 < (xss.getD i []).length
  · obtain ⟨a1, a2, a3⟩ := h.rng i hi' hp
    unfold qlo qhi at hch ho
    rw [if_pos hp, if_pos hp] at hch ho
    exact ⟨h.stored i hi' u hu ys hl (fun _ => hch) (fun h0 => absurd (by omega) h0) ho, hch.mono a1 (by omega), hch.block b hb (by omega)⟩
  · unfold qlo qhi at hch ho
    rw [if_neg hp, if_neg hp] at hch ho
    have hy : ys = [] := List.length_eq_zero_iff.1 (by omega)
    subst hy
    exact ⟨h.stored i hi' u hu [] hl (fun h0 => absurd h0 (by simp)) (fun _ => hch) ho.empty, ⟨hch.os, hch.tape, hch.output, hch.size, fun x hx _ => hch.block x hx (by omega)⟩, hch.block b hb (by omega)⟩
theorem CRow.left {lo hi b off : Nat} {w w' : World} {zs : List LV} {c : List Lt} {bs : Nat → Nat} (h : CRow lo hi b off w zs c bs) (hb : b < w.heap.size) (j : Nat) (z : LV) (hz : zs[j]? = some z) (ys : List Int) (hl : ys.length = (c.getD j lt0).2.1.length)
    (hch : Chg (qlo bs (2*j) (c.getD j lt0).2.1) (qhi bs (2*j) (c.getD j lt0).2.1) w w') (ho : OwnI (qlo bs (2*j) (c.getD j lt0).2.1) (qhi bs (2*j) (c.getD j lt0).2.1) w' z.2.1 ys) :
    CRow lo hi b off w' zs (c.set j ((c.getD j lt0).1, ys, (c.getD j lt0).2.2)) bs ∧ Chg lo hi w w' := by
  have hj : j < zs.length := (List.getElem?_eq_some_iff.1 hz).1
  have hjc : j < c.length := by rw [← h.len]; exact hj
  have hfl := flatC_len c
  obtain ⟨g1, g2⟩ := flatC_get c j
  rw [← g1] at hch ho hl
  obtain ⟨k1, k2, k3⟩ := h.ins.fed hb (2*j) (by omega) z.2.1 (rowsC_get zs j z hz).1 ys hl hch ho
  refine ⟨h.terms k3 (by simp) (fun i => ?_) ?_, k2⟩
  · by_cases e : j = i
    · subst e; simp [List.getD, hjc]
    · simp [List.getD, e]
  · have : flatC (c.set j ((c.getD j lt0).1, ys, (c.getD j lt0).2.2)) = (flatC c).set (2*j) ys := by
      rw [flatC_set c j _ hjc]
      show ((flatC c).set (2 * j) ys).set (2 * j + 1) (c.getD j lt0).2.2 = _
      rw [← g2]
      apply List.ext_getElem?
      intro i
      simp only [List.getElem?_set]
      by_cases e : 2 * j + 1 = i
      · subst e; simp [List.getD, show 2 * j + 1 < (flatC c).length by omega]
      · rw [if_neg e]
    rw [this]; exact k1
theorem CRow.right {lo hi b off : Nat} {w w' : World} {zs : List LV} {c : List Lt} {bs : Nat → Nat} (h : CRow lo hi b off w zs c bs) (hb : b < w.heap.size) (j : Nat) (z : LV) (hz : zs[j]? = some z) (ys : List Int) (hl : ys.length = (c.getD j lt0).2.2.length)
    (hch : Chg (qlo bs (2*j+1) (c.getD j lt0).2.2) (qhi bs (2*j+1) (c.getD j lt0).2.2) w w') (ho : OwnI (qlo bs (2*j+1) (c.getD j lt0).2.2) (qhi bs (2*j+1) (c.getD j lt0).2.2) w' z.2.2 ys) :
    CRow lo hi b off w' zs (c.set j ((c.getD j lt0).1, (c.getD j lt0).2.1, ys)) bs ∧ Chg lo hi w w' := by
  have hj : j < zs.length := (List.getElem?_eq_some_iff.1 hz).1
  have hjc : j < c.length := by rw [← h.len]; exact hj
  have hfl := flatC_len c
  obtain ⟨g1, g2⟩ := flatC_get c j
  rw [← g2] at hch ho hl
  obtain ⟨k1, k2, k3⟩ := h.ins.fed hb (2*j+1) (by omega) z.2.2 (rowsC_get zs j z hz).2 ys hl hch ho
  refine ⟨h.terms k3 (by simp) (fun i => ?_) ?_, k2⟩
  · by_cases e : j = i
    · subst e; simp [List.getD, hjc]
    · simp [List.getD, e]
  · have : flatC (c.set j ((c.getD j lt0).1, (c.getD j lt0).2.1, ys)) = (flatC c).set (2*j+1) ys := by
      rw [flatC_set c j _ hjc]
      show ((flatC c).set (2 * j) (c.getD j lt0).2.1).set (2 * j + 1) ys = _
      rw [← g1]
      apply List.ext_getElem?
      intro i
      simp only [List.getElem?_set, List.length_set]
      by_cases e : 2 * j + 1 = i
      · subst e; simp
      · rw [if_neg e, if_neg e]
        by_cases e2 : 2 * j = i
        · subst e2; simp [List.getD, show 2 * j < (flatC c).length by omega]
        · rw [if_neg e2]
    rw [this]; exact k1

theorem markIntS_z (lo hi : Nat) (v : Value) (xs : List Int) (z : Int) (k : Nat) (w : World) (hz : z = k) (hx : xs.length ≤ 1099511627776) (hk : k ≤ 1099511627776) (hv : OwnI lo hi w v xs) :
    Calls Try.prog 19 #[v, .int .i64 z] w (RetM lo hi w v xs k) := by subst hz; exact markIntS_c lo hi v xs k w hx hk hv
theorem heldIntS_z (l h : Nat) (v : Value) (n : Nat) (z : Int) (k : Nat) (w : World) (hz : z = k) (hx : n ≤ 1099511627776) (hk : k ≤ 1099511627776) (hv : SlI l h w v (marks k n)) :
    Calls Try.prog 20 #[v, .int .i64 z] w (RetV w (.int .i64 ((k + n : Nat) : Int))) := by subst hz; exact heldIntS_c l h v n k w hx hk hv
theorem set_twice {α : Type} (l : List α) (j : Nat) (a b : α) : (l.set j a).set j b = l.set j b := by simp

def RetMC (lo hi : Nat) (w : World) (v : Value) (c : List Lt) (k : Nat) (e : Ending) (w' : World) : Prop := e = .returned (.int .i64 ((k + sumC c : Nat) : Int)) ∧ Chg lo hi w w' ∧ OwnC lo hi w' v (marksC k c)
theorem OwnC.crow {lo hi : Nat} {w : World} {ad : Option Addr} {n k : Nat} {c : List Lt} (h : OwnC lo hi w (.slice ad n k) c) (hp : 0 < c.length) : ∃ b off zs bs, ad = some ⟨b, off, none⟩ ∧ n = c.length ∧ c.length ≤ k ∧ k ≤ maxLen ∧ CRow lo hi b off w zs c bs := by
  obtain ⟨ad', cap, e, hc, hm, hr⟩ := h
  simp only [Value.slice.injEq] at e
  obtain ⟨rfl, rfl, rfl⟩ := e
  obtain ⟨b, off, zs, bs, e, a1, a2, hl, a3, hf, hi⟩ := hr hp
  exact ⟨b, off, zs, bs, e, rfl, hc, hm.1, a1, a2, hl, a3, hf, hi⟩
theorem CRow.own {lo hi b off k : Nat} {w : World} {zs : List LV} {c : List Lt} {bs : Nat → Nat} (h : CRow lo hi b off w zs c bs) (hc : c.length ≤ k) (hm : k ≤ maxLen) : OwnC lo hi w (.slice (some ⟨b, off, none⟩) c.length k) c :=
  ⟨_, k, rfl, hc, ⟨hm, fun h => by simp at h⟩, fun _ => ⟨b, off, zs, bs, rfl, h.hlo, h.hhi, h.len, h.cell, h.free, h.ins⟩⟩

set_option maxRecDepth 100000 in
set_option maxHeartbeats 400000 in
theorem markLitS_c (lo hi : Nat) (v : Value) (c : List Lt) (k : Nat) (w : World) (hx : sumC c ≤ 1048576) (hk : k ≤ 1073741824) (hv : OwnC lo hi w v c) :
    Calls Try.prog 63 #[v, .int .i64 k] w (RetMC lo hi w v c k) := by
  obtain ⟨ad, cap, rfl⟩ := hv.sl.form
  go_enter Try.func63, Try.ntmps63
  go_wp2_with fail
  go_loopw [1, 5] (fun m i wr => ∃ j : Nat, j ≤ c.length ∧ i = .int .i64 j ∧ m = .int .i64 ((k + sumC (c.take j) : Nat) : Int) ∧ OwnC lo hi wr (.slice ad c.length cap) (markedC c k j) ∧ Chg lo hi w wr) (fun _ i _ => c.length - (intOf i).toNat)
  case atStart => exact ⟨0, Nat.zero_le _, rfl, by simp [sumC], by rw [markedC_zero]; exact hv, Chg.refl _ _ _⟩
  case round =>
    obtain ⟨j, hj, rfl, rfl, ho, hb⟩ := hrel
    by_cases hlt : j < c.length
    · have hl := markedC_len c k j hj
      have hst := sumC_take c j hlt
      have hsl := sumC_get c j hlt
      have hcl := sumC_len c
      obtain ⟨b, off, zs, bs, rfl, -, hcap, hml, hR⟩ := ho.crow (by omega)
      have hzl := hR.len
      have hz : zs[j]? = some zs[j] := List.getElem?_eq_getElem (by omega)
      obtain ⟨-, c1, c2, c3⟩ := hR.cell j _ hz
      have f1 := hR.free (off + j * 3)
      have hB := World.block_lt_of_cell? wr ⟨b, _, none⟩ c1
      have hget := markedC_get c k j hlt
      have hsucc := markedC_succ c k j hlt
      have hin1 : (j : Int) < c.length := by omega
      have hwd : wC (c.getD j lt0) = 1 + (c.getD j lt0).2.1.length + (c.getD j lt0).2.2.length := rfl
      generalize zs[j] = z at *
      obtain ⟨p0, u1, u2⟩ := z
      simp only at c1 c2 c3
      have hkj : k + sumC (c.take j) ≤ 1073741824 + 1048576 := by have := sumC_le c j; omega
      generalize hz0 : k + sumC (c.take j) = z0 at *
      have hrem : Int.tmod (z0 : Int) 3 = ((z0 % 3 : Nat) : Int) := by rw [Int.tmod_eq_emod_of_nonneg (by omega)]; omega
      -- the sign
      have hdec : (((z0 : Nat) : Int) % 3 == 0) = decide (z0 % 3 = 0) := by rw [Bool.eq_iff_iff]; simp; omega
      have hR1 := hR.sign j _ hz (((z0 : Nat) : Int) % 3 == 0)
      rw [hget] at hR1
      generalize hx : c.getD j lt0 = x at *
      obtain ⟨p, xl, xr⟩ := x
      simp only at *
      have hW1 := Chg.set (lo := lo) (hi := hi) wr (p := ⟨b, off + j * 3, none⟩) hR.hlo hR.hhi (.bool (((z0 : Nat) : Int) % 3 == 0))
      have hs1 : (wr.setCell ⟨b, off + j * 3, none⟩ (.bool (((z0 : Nat) : Int) % 3 == 0))).heap.size = wr.heap.size := by simp
      have e1 := World.cell?_setCell_other (h := show (⟨b, off + j * 3, none⟩ : Addr) ≠ ⟨b, off + j * 3 + 1, none⟩ by intro h; simp at h) (w := wr) (v := .bool (((z0 : Nat) : Int) % 3 == 0))
      rw [c2] at e1
      generalize hz1 : zs.set j (((z0 : Nat) : Int) % 3 == 0, u1, u2) = zs1 at hR1
      have hg1 : zs1[j]? = some (((z0 : Nat) : Int) % 3 == 0, u1, u2) := by rw [← hz1, List.getElem?_set]; simp; omega
      have hd1 : ((markedC c k j).set j (((z0 : Nat) : Int) % 3 == 0, xl, xr)).getD j lt0 = (((z0 : Nat) : Int) % 3 == 0, xl, xr) := by simp [List.getD, hl, hlt]
      have hfeed := hR1.ins.feed (2*j) u1 (rowsC_get zs1 j _ hg1).1
      rw [(flatC_get _ j).1, hd1] at hfeed
      have HC := Lib.hid (markIntS_z _ _ u1 xl ((z0 : Int) + 1) (z0 + 1) _ (by omega) (by omega) (by omega) hfeed)
      have HK := Lib.hid (And.intro hR1 (And.intro hg1 (And.intro hd1 (And.intro hsucc (And.intro hst (And.intro hl (And.intro hwd (And.intro hW1 hs1))))))))
      have HB2 := Lib.hid hb
      have HDEC := Lib.hid hdec
      clear hdec
      clear ho hv hR hR1 hz hget hsucc hst hl hwd hb hz1 hg1 hd1 hfeed hW1 hs1
      go_wp2_with fail
      refine HC.out.mono ?_; rintro e w1 ⟨rfl, hch, hom⟩
      obtain ⟨hR1, hg1, hd1, hsucc, hst, hl, hwd, hW1, hs1⟩ := HK.out
      have hB1 : b < (wr.setCell ⟨b, off + j * 3, none⟩ (.bool (((z0 : Nat) : Int) % 3 == 0))).heap.size := by rw [hs1]; exact hB
      have hst1 := hR1.left (w' := w1) hB1 j _ hg1 (marks (z0 + 1) xl.length) (by rw [hd1, marks_len]) (by rw [hd1]; exact hch) (by rw [hd1]; exact hom)
      rw [hd1, set_twice] at hst1
      obtain ⟨hR2, hW2⟩ := hst1
      obtain ⟨-, d1, d2, d3⟩ := hR2.cell j _ hg1
      simp only at d1 d2 d3
      have hB2 : b < w1.heap.size := Nat.lt_of_lt_of_le hB1 hW2.size
      have hd2 : ((markedC c k j).set j (((z0 : Nat) : Int) % 3 == 0, marks (z0 + 1) xl.length, xr)).getD j lt0 = (((z0 : Nat) : Int) % 3 == 0, marks (z0 + 1) xl.length, xr) := by simp [List.getD, hl, hlt]
      have hfeed := hR2.ins.feed (2*j+1) u2 (rowsC_get zs1 j _ hg1).2
      rw [(flatC_get _ j).2, hd2] at hfeed
      have HD := Lib.hid (markIntS_z _ _ u2 xr (((z0 + 1 + xl.length : Nat) : Int)) (z0 + 1 + xl.length) _ rfl (by omega) (by omega) hfeed)
      have HK2 := Lib.hid (And.intro hR2 (And.intro hg1 (And.intro hd2 (And.intro hsucc (And.intro hst (And.intro hl (And.intro hwd ((hW1.trans hW2)))))))))
      clear HK HC hR1 hR2 hg1 hd1 hd2 hsucc hst hl hwd hW1 hW2 hfeed hom hch hs1 hB1
      go_wp2_with fail
      refine HD.out.mono ?_; rintro e w2 ⟨rfl, hch, hom⟩
      obtain ⟨hR2, hg1, hd2, hsucc, hst, hl, hwd, hW⟩ := HK2.out
      have hst2 := hR2.right (w' := w2) hB2 j _ hg1 (marks (z0 + 1 + xl.length) xr.length) (by rw [hd2, marks_len]) (by rw [hd2]; exact hch) (by rw [hd2]; exact hom)
      rw [hd2, set_twice] at hst2
      obtain ⟨hR3, hW3⟩ := hst2
      rw [HDEC.out, show (decide (z0 % 3 = 0), marks (z0 + 1) xl.length, marks (z0 + 1 + xl.length) xr.length) = mark1 z0 (p, xl, xr) from rfl, hsucc] at hR3
      have hl3 := markedC_len c k (j+1) (by omega)
      have hown := hR3.own (k := cap) (by rw [hl3]; omega) hml
      rw [hl3] at hown
      have HO := Lib.hid (And.intro hown (And.intro (HB2.out.trans (hW.trans hW3)) (And.intro hst hwd)))
      clear hR2 hR3 hg1 hd2 hsucc hst hl hwd hW hW3 hch hom hown HK2 HD HB2
      go_wp2_with fail
      go_roundw
      case rel =>
        obtain ⟨h1, h2, h3, h4⟩ := HO.out
        exact ⟨j+1, by omega, by go_num, by rw [h3, h4, ← Nat.add_assoc, hz0]; exact congrArg (Value.int .i64) (by omega), h1, h2⟩
      case measure => simp [intOf]; omega
    · rw [markedC_all c k j hlt] at ho
      rw [sumC_all c j hlt]
      go_wp2_with fail
      go_ret
      exact ⟨rfl, hb, ho⟩

end Go.Proofs.Yteegjnobmbcjiaa
end
section
/- The laws' helpers over slices of clauses: marks. -/
namespace Go.Proofs.Yteegjnobmbcjiaa
open Go.RowKit

theorem SlCs.chg {lo hi lo' hi' w w' v cs} (h : SlCs lo hi w v cs) (k : Chg lo' hi' w w') (hd : hi ≤ lo' ∨ hi' ≤ lo) : SlCs lo hi w' v cs := by
  obtain ⟨ad, cap, rfl, hc, hm, hr⟩ := h
  refine ⟨ad, cap, rfl, hc, hm, fun hp => ?_⟩
  obtain ⟨b, off, e, a1, a2, a3⟩ := hr hp
  refine ⟨b, off, e, a1, a2, fun j hj => ?_⟩
  obtain ⟨u, h1, h2⟩ := a3 j hj
  exact ⟨u, k.cell (World.block_lt_of_cell? w ⟨b, off + j, none⟩ h1) (by omega) h1, h2.chg k hd⟩
def RetMCs (lo hi : Nat) (w : World) (cs : List (List Lt)) (k : Nat) (e : Ending) (w' : World) : Prop := e = .returned (.int .i64 ((k + sumCs cs : Nat) : Int)) ∧ Chg lo hi w w' ∧ True
theorem ownsRow_far {w w' : World} {base e s n : Nat} {v : Value} {xs : List Value} (h : w.ownsRow base e s v n xs) {l' h' : Nat} (k : Chg l' h' w w') (hd : ∀ g, v.ownBlock = some g → g < l' ∨ h' ≤ g) : w'.ownsRow base e s v n xs := by
  have h0 := h
  obtain ⟨q1, q0 | ⟨g, cap, cur, e1, e2, hh, r⟩⟩ := h
  · exact ⟨q1, .inl q0⟩
  · have hb : v.ownBlock = some g := by rw [e1]; rfl
    exact ⟨q1, .inr ⟨g, cap, cur, e1, e2, by rw [k.block g (own_lt h0 hb).2 (hd g hb)]; exact hh, r⟩⟩

end Go.Proofs.Yteegjnobmbcjiaa
end
section
/- Slices of steps. No program. -/
namespace Go.Proofs.Yteegjnobmbcjiaa
open Go.RowKit

/-- A step: its rule, its parents, its way, its clause. -/
abbrev Stp := Int × List Int × List Int × List Lt
def st0 : Stp := (0, [], [], [])
/-- The slice value v holds the steps ss. -/
def SlSt (lo hi : Nat) (w : World) (v : Value) (ss : List Stp) : Prop :=
  ∃ ad cap, v = .slice ad ss.length cap ∧ ss.length ≤ cap ∧ (cap ≤ maxLen ∧ (ad = none → cap = 0)) ∧
    (0 < ss.length → ∃ b off, ad = some ⟨b, off, none⟩ ∧ lo ≤ b ∧ b < hi ∧ ∀ j, j < ss.length → ∃ u1 u2 u3, w.cell? ⟨b, off + j * 4, none⟩ = some (.int .i64 (ss.getD j st0).1) ∧ w.cell? ⟨b, off + j * 4 + 1, none⟩ = some u1 ∧ w.cell? ⟨b, off + j * 4 + 2, none⟩ = some u2 ∧ w.cell? ⟨b, off + j * 4 + 3, none⟩ = some u3 ∧
      SlI lo hi w u1 (ss.getD j st0).2.1 ∧ SlI lo hi w u2 (ss.getD j st0).2.2.1 ∧ SlC lo hi w u3 (ss.getD j st0).2.2.2)
theorem SlSt.form {lo hi w v ss} (h : SlSt lo hi w v ss) : ∃ ad k, v = .slice ad ss.length k := by obtain ⟨ad, k, h, _⟩ := h; exact ⟨ad, k, h⟩
theorem SlSt.nil (lo hi : Nat) (w : World) : SlSt lo hi w (.slice none 0 0) [] := ⟨none, 0, rfl, Nat.le_refl _, ⟨Nat.zero_le _, fun _ => rfl⟩, fun h => absurd h (by simp)⟩
theorem SlSt.mono {lo hi lo' hi' w v ss} (h : SlSt lo hi w v ss) (h1 : lo' ≤ lo) (h2 : hi ≤ hi') : SlSt lo' hi' w v ss := by
  obtain ⟨ad, cap, rfl, hc, hm, hr⟩ := h
  refine ⟨ad, cap, rfl, hc, hm, fun hp => ?_⟩
  obtain ⟨b, off, e, a1, a2, a3⟩ := hr hp
  refine ⟨b, off, e, by omega, by omega, fun j hj => ?_⟩
  obtain ⟨u1, u2, u3, c0, c1, c2, c3, s1, s2, s3⟩ := a3 j hj
  exact ⟨u1, u2, u3, c0, c1, c2, c3, s1.mono h1 h2, s2.mono h1 h2, s3.mono h1 h2⟩
theorem SlSt.same {lo hi w w' v ss} (h : SlSt lo hi w v ss) (hs : ∀ b, lo ≤ b → b < hi → b < w.heap.size → w'.heap[b]? = w.heap[b]?) : SlSt lo hi w' v ss := by
  obtain ⟨ad, cap, rfl, hc, hm, hr⟩ := h
  refine ⟨ad, cap, rfl, hc, hm, fun hp => ?_⟩
  obtain ⟨b, off, e, a1, a2, a3⟩ := hr hp
  refine ⟨b, off, e, a1, a2, fun j hj => ?_⟩
  obtain ⟨u1, u2, u3, c0, c1, c2, c3, s1, s2, s3⟩ := a3 j hj
  exact ⟨u1, u2, u3, cell_same (hs b a1 a2) c0, cell_same (hs b a1 a2) c1, cell_same (hs b a1 a2) c2, cell_same (hs b a1 a2) c3, s1.same hs, s2.same hs, s3.same hs⟩
theorem SlSt.below {lo hi w w' v ss} (h : SlSt lo hi w v ss) (hb : Bel w w') : SlSt lo hi w' v ss := h.same fun b _ _ h3 => hb.block b h3
theorem SlSt.alloc {lo hi w v ss} (h : SlSt lo hi w v ss) (o : Obj) : SlSt lo hi (w.alloc o) v ss := h.below (Bel.alloc0 w o)
theorem SlSt.k {lo hi w v ss} (h : SlSt lo hi w v ss) : K (fun w => SlSt lo hi w v ss) w := fun _ hb => h.below hb
theorem SlSt.chg {lo hi lo' hi' w w' v ss} (h : SlSt lo hi w v ss) (k : Chg lo' hi' w w') (hd : hi ≤ lo' ∨ hi' ≤ lo) : SlSt lo hi w' v ss :=
  h.same fun b h1 h2 h3 => k.block b h3 (by omega)
theorem slC_in {lo hi : Nat} {w : World} {v : Value} {c : List Lt} (h : SlC lo hi w v c) : SlC 0 w.heap.size w v c := by
  obtain ⟨ad, cap, rfl, hc, hm, hr⟩ := h
  refine ⟨ad, cap, rfl, hc, hm, fun hp => ?_⟩
  obtain ⟨b, off, e, a1, a2, a3⟩ := hr hp
  refine ⟨b, off, e, Nat.zero_le _, ?_, fun j hj => ?_⟩
  · obtain ⟨u1, u2, h1, _⟩ := a3 0 hp; exact World.block_lt_of_cell? w ⟨b, off + 0 * 3, none⟩ h1
  · obtain ⟨u1, u2, h1, h2, h3, h4, h5⟩ := a3 j hj; exact ⟨u1, u2, h1, h2, h3, h4.in', h5.in'⟩
theorem SlSt.in' {lo hi : Nat} {w : World} {v : Value} {ss : List Stp} (h : SlSt lo hi w v ss) : SlSt 0 w.heap.size w v ss := by
  obtain ⟨ad, cap, rfl, hc, hm, hr⟩ := h
  refine ⟨ad, cap, rfl, hc, hm, fun hp => ?_⟩
  obtain ⟨b, off, e, a1, a2, a3⟩ := hr hp
  refine ⟨b, off, e, Nat.zero_le _, ?_, fun j hj => ?_⟩
  · obtain ⟨u1, u2, u3, h1, _⟩ := a3 0 hp; exact World.block_lt_of_cell? w ⟨b, off + 0 * 4, none⟩ h1
  · obtain ⟨u1, u2, u3, h0, h1, h2, h3, h4, h5, h6⟩ := a3 j hj; exact ⟨u1, u2, u3, h0, h1, h2, h3, h4.in', h5.in', slC_in h6⟩
theorem SlSt.max {lo hi w v ss} (h : SlSt lo hi w v ss) : ss.length ≤ 9223372036854775807 ∧ ∀ j, j < ss.length → (ss.getD j st0).2.1.length ≤ 9223372036854775807 ∧ (ss.getD j st0).2.2.1.length ≤ 9223372036854775807 := by
  obtain ⟨ad, cap, e, hc, hm, hr⟩ := h
  have hml : maxLen = 9223372036854775807 := rfl
  refine ⟨by omega, fun j hj => ?_⟩
  obtain ⟨b, off, _, _, _, hx⟩ := hr (by omega)
  obtain ⟨u1, u2, u3, _, _, _, _, ⟨ad2, cap2, _, hc2, hm2, _⟩, ⟨ad3, cap3, _, hc3, hm3, _⟩, _⟩ := hx j hj
  omega
/-- Reading the j-th. -/
theorem SlSt.at {lo hi : Nat} {w wr : World} {ad : Option Addr} {k n : Nat} {ss : List Stp} (h : SlSt lo hi w (.slice ad n k) ss) (hb : Bel w wr) (j : Nat) (hj : j < ss.length) :
    ∃ b off u1 u2 u3, ad = some ⟨b, off, none⟩ ∧ b < w.heap.size ∧ wr.cell? ⟨b, off + j * 4, none⟩ = some (.int .i64 (ss.getD j st0).1) ∧ wr.cell? ⟨b, off + j * 4 + 1, none⟩ = some u1 ∧ wr.cell? ⟨b, off + j * 4 + 2, none⟩ = some u2 ∧ wr.cell? ⟨b, off + j * 4 + 3, none⟩ = some u3 ∧
      SlI lo hi wr u1 (ss.getD j st0).2.1 ∧ SlI lo hi wr u2 (ss.getD j st0).2.2.1 ∧ SlC lo hi wr u3 (ss.getD j st0).2.2.2 := by
  obtain ⟨ad', cap, e, _, _, hr⟩ := h
  obtain ⟨b, off, e2, _, _, hc⟩ := hr (by omega)
  obtain ⟨u1, u2, u3, c0, c1, c2, c3, s1, s2, s3⟩ := hc j hj
  have h1 := World.block_lt_of_cell? w ⟨b, off + j * 4, none⟩ c0
  simp only [Value.slice.injEq] at e
  exact ⟨b, off, u1, u2, u3, e.1.trans e2, h1, cell_same (fun h => hb.block b h) c0, cell_same (fun h => hb.block b h) c1, cell_same (fun h => hb.block b h) c2, cell_same (fun h => hb.block b h) c3, s1.below hb, s2.below hb, s3.below hb⟩

def wSt (x : Stp) : Nat := x.2.1.length + x.2.2.1.length + sumC x.2.2.2
def sumSt (ss : List Stp) : Nat := (ss.map wSt).sum
def totSt (ss : List Stp) : Nat := ss.length + sumSt ss
def szSt1 (x : Stp) (left : Int) : Int := if left - (wSt x : Nat) < 0 then -1 else left - (wSt x : Nat)
def szSt (ss : List Stp) (left : Int) : Int := if left - (totSt ss : Nat) < 0 then -1 else left - (totSt ss : Nat)
theorem sumSt_take (ss : List Stp) (k : Nat) (h : k < ss.length) : sumSt (ss.take (k+1)) = sumSt (ss.take k) + wSt (ss.getD k st0) := by
  unfold sumSt
  rw [List.take_succ_eq_append_getElem h, List.map_append, List.sum_append]
  simp [List.getD, h]
theorem sumSt_get (ss : List Stp) (k : Nat) (h : k < ss.length) : sumSt (ss.take k) + wSt (ss.getD k st0) ≤ sumSt ss := by
  rw [← sumSt_take ss k h]
  conv => rhs; rw [← List.take_append_drop (k+1) ss]
  unfold sumSt
  rw [List.map_append, List.sum_append]; omega
/-- What fits in a call's room. -/
theorem totSt_each {ss : List Stp} {n : Nat} (h : totSt ss ≤ n) : ss.length ≤ n ∧ ∀ k, k < ss.length → (ss.getD k st0).2.1.length ≤ n ∧ (ss.getD k st0).2.2.1.length ≤ n ∧ sumC (ss.getD k st0).2.2.2 ≤ n := by
  unfold totSt at h
  exact ⟨by omega, fun k hk => by have := sumSt_get ss k hk; unfold wSt at this; omega⟩
end Go.Proofs.Yteegjnobmbcjiaa
end
section
/- Chapter 7: IsUnit, both sides. -/
namespace Go.Proofs.Yteegjnobmbcjiaa
open Go.RowKit

def unitC (c : List Lt) : Bool := decide (c.length = 1) && (c.getD 0 lt0).1
def unitAns (ar : List Int) (c : List Lt) : Bool := goodClause ar c && unitC c

set_option maxRecDepth 100000 in
set_option maxHeartbeats 400000 in
theorem isUnit_c (l' h' : Nat) (u : Value) (c : List Lt) (w : World) (hu : SlC l' h' w u c) :
    Calls Try.prog 109 #[u] w (RetV w (.bool (unitC c))) := by
  obtain ⟨ad, cap, rfl⟩ := hu.form
  by_cases h1 : c.length = 1
  · have HU : Hid (unitC c = (c.getD 0 lt0).1) := by show _ = _; unfold unitC; rw [decide_eq_true h1]; rfl
    obtain ⟨b, off, u1, u2, rfl, -, c1, -, -, -, -⟩ := hu.at (Bel.rfl' w) 0 (by omega)
    simp only [Nat.zero_mul, Nat.add_zero] at c1
    clear hu
    generalize (c.getD 0 lt0).1 = q at *
    generalize unitC c = q2 at *
    generalize c.length = n at *
    subst h1
    go_enter Try.func109, Try.ntmps109
    go_wp2_with fail
    go_ret
    exact ⟨by rw [HU.out]; rfl, Bel.rfl' _⟩
  · have HU : Hid (unitC c = false) := by show _ = _; unfold unitC; rw [decide_eq_false h1]; rfl
    have hq : ((c.length : Int) == 1) = false := by simp; omega
    clear hu
    generalize unitC c = q2 at *
    generalize c.length = n at *
    go_enter Try.func109, Try.ntmps109
    go_wp2_with fail
    go_ret
    exact ⟨by rw [HU.out]; rfl, Bel.rfl' _⟩
theorem isUnit_v {l' h' : Nat} {u : Value} {c : List Lt} {q : Bool} {w : World} (he : unitC c = q) (hu : SlC l' h' w u c) :
    Calls Try.prog 109 #[u] w (RetV w (.bool q)) := by subst he; exact isUnit_c l' h' u c w hu

end Go.Proofs.Yteegjnobmbcjiaa
end
section
/- Chapter 8: what UnitsOf and ChooseOf answer. No program. -/
namespace Go.Proofs.Yteegjnobmbcjiaa
open Go.RowKit

def clsSt (ss : List Stp) : List (List Lt) := ss.map fun x => x.2.2.2
theorem clsSt_get (ss : List Stp) (j : Nat) : (clsSt ss).getD j [] = (ss.getD j st0).2.2.2 := by
  unfold clsSt
  simp only [List.getD_eq_getElem?_getD, List.getElem?_map]
  cases ss[j]? <;> rfl
theorem clsSt_len (ss : List Stp) : (clsSt ss).length = ss.length := by simp [clsSt]
/-- At most 200 steps whose clauses are valid. -/
def goodSts (ar : List Int) (ss : List Stp) : Bool := goodSign ar && (decide (ss.length ≤ 200) && (clsSt ss).all (okLits ar))
theorem goodSts_sign {ar : List Int} {ss : List Stp} (h : goodSign ar = false) : goodSts ar ss = false := by unfold goodSts; rw [h]; rfl
theorem goodSts_long {ar : List Int} {ss : List Stp} (h : ¬ ss.length ≤ 200) : goodSts ar ss = false := by unfold goodSts; rw [decide_eq_false h]; simp
theorem goodSts_bad {ar : List Int} {ss : List Stp} (k : Nat) (hk : k < ss.length) (h : okLits ar (ss.getD k st0).2.2.2 = false) : goodSts ar ss = false := by
  unfold goodSts
  rw [← clsSt_get] at h
  have : (clsSt ss).all (okLits ar) = false := by
    rw [List.all_eq_false]
    exact ⟨_, mem_getD (clsSt ss) [] k (by rw [clsSt_len]; exact hk), by simp only [h]; simp⟩
  rw [this]; simp
theorem goodSts_iff {ar : List Int} {ss : List Stp} : goodSts ar ss = true ↔ goodSign ar = true ∧ ss.length ≤ 200 ∧ (clsSt ss).all (okLits ar) = true := by
  unfold goodSts
  rw [Bool.and_eq_true, Bool.and_eq_true, decide_eq_true_iff]

def uStep (ss : List Stp) (out : List Int) (k : Int) : List Int := if unitC (ss.getD k.toNat st0).2.2.2 && decide (out.length < 10) then out ++ [k] else out
def unitsF (ss : List Stp) (act : List Int) : List Int := act.foldl (uStep ss) []
theorem foldl_take {α β : Type} (f : β → α → β) (z : β) (d : α) (l : List α) (k : Nat) (h : k < l.length) : (l.take (k+1)).foldl f z = f ((l.take k).foldl f z) (l.getD k d) := by
  rw [List.take_succ_eq_append_getElem h, List.foldl_append]
  simp [List.getD, h]
theorem unitsF_take (ss : List Stp) (act : List Int) (k : Nat) (h : k < act.length) : unitsF ss (act.take (k+1)) = uStep ss (unitsF ss (act.take k)) (act.getD k 0) := foldl_take _ _ _ _ _ h
theorem uStep_len (ss : List Stp) (out : List Int) (k : Int) (h : out.length ≤ 10) : (uStep ss out k).length ≤ 10 := by
  unfold uStep
  split
  · rename_i q
    simp at q
    simp; omega
  · exact h
theorem unitsF_len (ss : List Stp) (act : List Int) : (unitsF ss act).length ≤ 10 := by
  unfold unitsF
  have : ∀ (l : List Int) (z : List Int), z.length ≤ 10 → (l.foldl (uStep ss) z).length ≤ 10 := by
    intro l
    induction l with
    | nil => intro z h; exact h
    | cons x r ih => intro z h; exact ih _ (uStep_len ss z x h)
  exact this act [] (Nat.zero_le _)
def allIdx (ss : List Stp) (act : List Int) : Bool := act.all (fun x => inB x 0 ((ss.length : Int) - 1))
theorem allIdx_get {ss : List Stp} {act : List Int} (h : allIdx ss act = true) (k : Nat) (hk : k < act.length) : 0 ≤ act.getD k 0 ∧ (act.getD k 0).toNat < ss.length := by
  have := List.all_eq_true.1 h _ (mem_getD act 0 k hk)
  simp only [inB, Bool.and_eq_true, decide_eq_true_eq] at this
  omega
def unitsOK (ar : List Int) (ss : List Stp) (act : List Int) : Bool := goodSts ar ss && allIdx ss act
def unitsAns (ar : List Int) (ss : List Stp) (act : List Int) : List Int := if unitsOK ar ss act then unitsF ss act else []
theorem unitsAns_len (ar : List Int) (ss : List Stp) (act : List Int) : (unitsAns ar ss act).length ≤ 1048576 := by
  unfold unitsAns
  split
  · exact Nat.le_trans (unitsF_len ss act) (by omega)
  · exact Nat.zero_le _

def wAt (ss : List Stp) (k : Int) : Nat := sumL (flatC (ss.getD k.toNat st0).2.2.2)
def chStep (ss : List Stp) (best k : Int) : Int := if wAt ss k < wAt ss best then k else best
def chF (ss : List Stp) (p : List Int) : Int := p.foldl (chStep ss) (p.getD 0 0)
theorem chF_take (ss : List Stp) (p : List Int) (z : Int) (k : Nat) (h : k < p.length) : (p.take (k+1)).foldl (chStep ss) z = chStep ss ((p.take k).foldl (chStep ss) z) (p.getD k 0) := foldl_take _ _ _ _ _ h
theorem chF_first (ss : List Stp) (p : List Int) (h : 0 < p.length) : (p.take 1).foldl (chStep ss) (p.getD 0 0) = p.getD 0 0 := by
  rw [chF_take ss p _ 0 h]
  simp [chStep]
theorem chF_mem (ss : List Stp) (p : List Int) (h : 0 < p.length) (k : Nat) : (p.take k).foldl (chStep ss) (p.getD 0 0) ∈ p := by
  induction k with
  | zero => simp only [List.take_zero, List.foldl_nil]; exact mem_getD p 0 0 h
  | succ k ih =>
    by_cases hk : k < p.length
    · rw [chF_take ss p _ k hk]
      unfold chStep
      split
      · exact mem_getD p 0 k hk
      · exact ih
    · rw [List.take_of_length_le (by omega)]
      rw [List.take_of_length_le (by omega)] at ih
      exact ih
def chOK (ar : List Int) (ss : List Stp) (p : List Int) (r : Int) : Bool := goodSts ar ss && (allIdx ss p && (decide (0 < p.length) && decide (1 ≤ r)))
def chAns (ar : List Int) (ss : List Stp) (p : List Int) (r : Int) : Int := if chOK ar ss p r then (if r % 4 = 0 then p.getD 0 0 else chF ss p) else 0
end Go.Proofs.Yteegjnobmbcjiaa
end
section
/- Chapter 8, the reference: steps that are valid. -/
namespace Go.Proofs.Yteegjnobmbcjiaa
open Go.RowKit

set_option maxRecDepth 100000 in
set_option maxHeartbeats 400000 in
theorem l4Lit_any (l h l' h' : Nat) (v u1 u2 : Value) (ar xl xr : List Int) (p : Bool) (w : World) (ha : ar.length ≤ 1048576) (hl : xl.length ≤ 1048576) (hr : xr.length ≤ 1048576) (hv : SlI l h w v ar) (h1 : SlI l' h' w u1 xl) (h2 : SlI l' h' w u2 xr) :
    Calls Try.prog 126 #[.agg #[v], .agg #[.bool p, u1, u2]] w (RetB w) := by
  have HB : Bel w ((w.alloc (.cells #[v] 30)).alloc (.cells #[.bool p, u1, u2] 91)) := Bel.alloc2 _ _ _
  have HC := Lib.hid (fun (w' : World) (hb : Bel w w') => l1Term_any l h l' h' v u1 ar xl w' ha hl (hv.below hb) (h1.below hb))
  have HD := Lib.hid (fun (w' : World) (hb : Bel w w') => l1Term_any l h l' h' v u2 ar xr w' ha hr (hv.below hb) (h2.below hb))
  clear hv h1 h2
  go_enter Try.func126, Try.ntmps126
  go_wp2_with fail
  refine (HC.out _ HB).mono ?_; rintro e w1 ⟨q, rfl, hb1⟩
  cases q with
  | false =>
    go_wp2_with fail
    go_ret
    exact ⟨_, rfl, HB.step hb1⟩
  | true =>
    have k0 := hb1.at (b := w.heap.size) (off := 0) (by simp; omega) (show World.cell? _ _ = some v by simp [go_sem])
    have k2 := hb1.at (b := w.heap.size + 1) (off := 2) (by simp) (show World.cell? _ _ = some u2 by simp [go_sem])
    go_wp2_with fail
    refine (HD.out _ (HB.step hb1)).mono ?_; rintro e w2 ⟨q, rfl, hb2⟩
    go_wp2_with fail
    go_ret
    exact ⟨_, rfl, (HB.step hb1).step hb2⟩

set_option maxRecDepth 100000 in
set_option maxHeartbeats 400000 in
theorem l4Clause_any (l h l' h' : Nat) (v u : Value) (ar : List Int) (c : List Lt) (w : World) (ha : ar.length ≤ 1048576) (hx : shortC c) (hv : SlI l h w v ar) (hu : SlC l' h' w u c) :
    Calls Try.prog 77 #[.agg #[v], u] w (RetB w) := by
  obtain ⟨ad, cap, rfl⟩ := hu.form
  obtain ⟨hxl, hxj⟩ := hx
  go_enter Try.func77, Try.ntmps77
  go_wp2_with fail
  go_loopw [9] (fun i wr => ∃ k : Nat, k ≤ c.length ∧ i = .int .i64 k ∧ Bel (w.alloc (.cells #[v] 30)) wr) (fun i _ => c.length - (intOf i).toNat)
  case atStart => exact ⟨0, Nat.zero_le _, rfl, Bel.rfl' _⟩
  case round =>
    obtain ⟨k, hk, rfl, hb⟩ := hrel
    have hbox := boxc hb 0 _ rfl
    by_cases hlt : k < c.length
    · obtain ⟨b, off, u1, u2, rfl, hbs, c1, c2, c3, s1, s2⟩ := hu.at hb.of_alloc k hlt
      obtain ⟨hm1, hm2⟩ := hxj k hlt
      have hin1 : (k : Int) < c.length := by omega
      have hvr := hv.below hb.of_alloc
      clear hu hv hxj
      generalize c.getD k lt0 = x at *
      obtain ⟨p, xl, xr⟩ := x
      simp only at *
      obtain ⟨a1, d1, rfl⟩ := s1.form
      obtain ⟨a2, d2, rfl⟩ := s2.form
      have hbox2 := boxc (hb.alloc (.cells #[.bool p, .slice a1 xl.length d1, .slice a2 xr.length d2] 91)) 0 _ rfl
      go_wp2_with fail
      refine (l4Lit_any l h l' h' v _ _ ar xl xr p _ ha hm1 hm2 (hvr.alloc _) (s1.alloc _) (s2.alloc _)).mono ?_; rintro e w1 ⟨q, rfl, hb1⟩
      cases q with
      | false =>
        go_wp2_with fail
        go_ret
        exact ⟨_, rfl, hb.of_alloc.step ((Bel.alloc0 _ _).step hb1)⟩
      | true =>
        go_wp2_with fail
        go_roundw
        case rel => exact ⟨k+1, by omega, by go_num, hb.step ((Bel.alloc0 _ _).step hb1)⟩
        case measure => simp [intOf]; omega
    · obtain rfl : k = c.length := by omega
      go_wp2_with fail
      go_ret
      exact ⟨_, rfl, hb.of_alloc⟩

theorem l4Clause_v (l h l' h' : Nat) (v u : Value) (ar : List Int) (c : List Lt) (q : Bool) (w : World) (he : okLits ar c = q) (hg : goodSign ar = true) (hx : shortC c) (hv : SlI l h w v ar) (hu : SlC l' h' w u c) :
    Calls Try.prog 77 #[.agg #[v], u] w (RetV w (.bool q)) := by subst he; exact l4Clause_c l h l' h' v u ar c w hg hx hv hu

set_option maxRecDepth 100000 in
set_option maxHeartbeats 400000 in
theorem l8Steps_c (l h l' h' : Nat) (v u : Value) (ar : List Int) (ss : List Stp) (w : World) (ha : ar.length ≤ 1048576) (hx : totSt ss ≤ 1048576) (hv : SlI l h w v ar) (hu : SlSt l' h' w u ss) :
    Calls Try.prog 55 #[.agg #[v], u] w (RetV w (.bool (goodSts ar ss))) := by
  obtain ⟨ad, cap, rfl⟩ := hu.form
  obtain ⟨hxl, hxj⟩ := totSt_each hx
  cases hg : goodSign ar with
  | false =>
    have E := Lib.hid (goodSts_sign (ss := ss) hg)
    have HG := Lib.hid hg; clear hg
    go_enter Try.func55, Try.ntmps55
    go_wp2_with fail
    go_loopw [9] (fun i wr => ∃ k : Nat, k ≤ ss.length ∧ i = .int .i64 k ∧ Bel (w.alloc (.cells #[v] 30)) wr) (fun i _ => ss.length - (intOf i).toNat)
    case atStart => exact ⟨0, Nat.zero_le _, rfl, Bel.rfl' _⟩
    case round =>
      obtain ⟨k, hk, rfl, hb⟩ := hrel
      have hbox := boxc hb 0 _ rfl
      by_cases hlt : k < ss.length
      · obtain ⟨b, off, u1, u2, u3, rfl, hbs, c0, c1, c2, c3, s1, s2, s3⟩ := hu.at hb.of_alloc k hlt
        have hm := shortC_of_sum (hxj k hlt).2.2
        have hin1 : (k : Int) < ss.length := by omega
        have hvr := hv.below hb.of_alloc
        clear hu hv hxj
        generalize ss.getD k st0 = x at *
        obtain ⟨p, xp, xw, c⟩ := x
        simp only at *
        obtain ⟨a1, d1, rfl⟩ := s1.form
        obtain ⟨a2, d2, rfl⟩ := s2.form
        obtain ⟨a3, d3, rfl⟩ := s3.form
        have hbox2 := boxc (hb.alloc (.cells #[.int .i64 p, .slice a1 xp.length d1, .slice a2 xw.length d2, .slice a3 c.length d3] 82)) 0 _ rfl
        go_wp2_with fail
        refine (l4Clause_any l h l' h' v _ ar c _ ha hm (hvr.alloc _) (s3.alloc _)).mono ?_; rintro e w1 ⟨q, rfl, hb1⟩
        cases q with
        | false =>
          go_wp2_with fail
          go_ret
          exact ⟨by rw [E.out]; rfl, hb.of_alloc.step ((Bel.alloc0 _ _).step hb1)⟩
        | true =>
          go_wp2_with fail
          go_roundw
          case rel => exact ⟨k+1, by omega, by go_num, hb.step ((Bel.alloc0 _ _).step hb1)⟩
          case measure => simp [intOf]; omega
      · obtain rfl : k = ss.length := by omega
        go_wp2_with fail
        refine (sGoodSign_v _ _ _ _ _ _ HG.out ha (hv.below hb.of_alloc)).mono ?_; rintro e w2 ⟨rfl, hb3⟩
        go_wp2_with fail
        go_ret
        exact ⟨by rw [E.out]; rfl, hb.of_alloc.step hb3⟩
  | true =>
    have hG := hg
    have HG := Lib.hid hg; clear hg
    go_enter Try.func55, Try.ntmps55
    go_wp2_with fail
    go_loopw [9] (fun i wr => ∃ k : Nat, k ≤ ss.length ∧ i = .int .i64 k ∧ ((clsSt ss).take k).all (okLits ar) = true ∧ Bel (w.alloc (.cells #[v] 30)) wr) (fun i _ => ss.length - (intOf i).toNat)
    case atStart => exact ⟨0, Nat.zero_le _, rfl, rfl, Bel.rfl' _⟩
    case round =>
      obtain ⟨k, hk, rfl, hall, hb⟩ := hrel
      have hbox := boxc hb 0 _ rfl
      by_cases hlt : k < ss.length
      · obtain ⟨b, off, u1, u2, u3, rfl, hbs, c0, c1, c2, c3, s1, s2, s3⟩ := hu.at hb.of_alloc k hlt
        have hm := shortC_of_sum (hxj k hlt).2.2
        have hin1 : (k : Int) < ss.length := by omega
        have hvr := hv.below hb.of_alloc
        have hsp := allg_split (clsSt ss) [] (okLits ar) k (by rw [clsSt_len]; exact hlt) hall
        rw [clsSt_get] at hsp
        have hbad := goodSts_bad (ar := ar) k hlt
        clear hu hv hxj hall
        generalize ss.getD k st0 = x at *
        obtain ⟨p, xp, xw, c⟩ := x
        simp only at *
        obtain ⟨a1, d1, rfl⟩ := s1.form
        obtain ⟨a2, d2, rfl⟩ := s2.form
        obtain ⟨a3, d3, rfl⟩ := s3.form
        have hbox2 := boxc (hb.alloc (.cells #[.int .i64 p, .slice a1 xp.length d1, .slice a2 xw.length d2, .slice a3 c.length d3] 82)) 0 _ rfl
        cases hq : okLits ar c with
        | false =>
          have E := Lib.hid (hbad hq)
          have HQ := Lib.hid hq
          clear hsp hbad hq
          go_wp2_with fail
          refine (l4Clause_v l h l' h' v _ ar c false _ HQ.out hG hm (hvr.alloc _) (s3.alloc _)).mono ?_; rintro e w1 ⟨rfl, hb1⟩
          go_wp2_with fail
          go_ret
          exact ⟨by rw [E.out]; rfl, hb.of_alloc.step ((Bel.alloc0 _ _).step hb1)⟩
        | true =>
          have E := Lib.hid (hsp.trans hq)
          have HQ := Lib.hid hq
          clear hsp hbad hq
          go_wp2_with fail
          refine (l4Clause_v l h l' h' v _ ar c true _ HQ.out hG hm (hvr.alloc _) (s3.alloc _)).mono ?_; rintro e w1 ⟨rfl, hb1⟩
          go_wp2_with fail
          go_roundw
          case rel => exact ⟨k+1, by omega, by go_num, E.out, hb.step ((Bel.alloc0 _ _).step hb1)⟩
          case measure => simp [intOf]; omega
      · obtain rfl : k = ss.length := by omega
        have E : Hid (goodSts ar ss = decide (ss.length ≤ 200)) := by
          show _ = _
          rw [List.take_of_length_le (by rw [clsSt_len]; exact Nat.le_refl _)] at hall
          unfold goodSts; rw [hall, hG]; simp
        have hd : decide ((ss.length : Int) ≤ 200) = decide (ss.length ≤ 200) := by rw [decide_eq_decide]; omega
        go_wp2_with fail
        refine (sGoodSign_v _ _ _ _ _ _ HG.out ha (hv.below hb.of_alloc)).mono ?_; rintro e w2 ⟨rfl, hb3⟩
        go_wp2_with fail
        go_ret
        exact ⟨by rw [E.out, ← hd]; rfl, hb.of_alloc.step hb3⟩
theorem l8Steps_v {l h l' h' : Nat} {v u : Value} {ar : List Int} {ss : List Stp} {q : Bool} {w : World} (he : goodSts ar ss = q) (ha : ar.length ≤ 1048576) (hx : totSt ss ≤ 1048576) (hv : SlI l h w v ar) (hu : SlSt l' h' w u ss) :
    Calls Try.prog 55 #[.agg #[v], u] w (RetV w (.bool q)) := by subst he; exact l8Steps_c l h l' h' v u ar ss w ha hx hv hu
end Go.Proofs.Yteegjnobmbcjiaa
end
section
/- Chapter 8, the reference: UnitsOf. -/
namespace Go.Proofs.Yteegjnobmbcjiaa
open Go.RowKit

set_option maxRecDepth 100000 in
set_option maxHeartbeats 400000 in
theorem l8Unit_c (l' h' : Nat) (u : Value) (c : List Lt) (w : World) (hu : SlC l' h' w u c) :
    Calls Try.prog 105 #[u] w (RetV w (.bool (unitC c))) := by
  obtain ⟨ad, cap, rfl⟩ := hu.form
  by_cases h1 : c.length = 1
  · have HU : Hid (unitC c = (c.getD 0 lt0).1) := by show _ = _; unfold unitC; rw [decide_eq_true h1]; rfl
    obtain ⟨b, off, u1, u2, rfl, -, c1, -, -, -, -⟩ := hu.at (Bel.rfl' w) 0 (by omega)
    simp only [Nat.zero_mul, Nat.add_zero] at c1
    clear hu
    generalize (c.getD 0 lt0).1 = q at *
    generalize unitC c = q2 at *
    generalize c.length = n at *
    subst h1
    go_enter Try.func105, Try.ntmps105
    go_wp2_with fail
    go_ret
    exact ⟨by rw [HU.out]; rfl, Bel.rfl' _⟩
  · have HU : Hid (unitC c = false) := by show _ = _; unfold unitC; rw [decide_eq_false h1]; rfl
    have hq : ((c.length : Int) == 1) = false := by simp; omega
    clear hu
    generalize unitC c = q2 at *
    generalize c.length = n at *
    go_enter Try.func105, Try.ntmps105
    go_wp2_with fail
    go_ret
    exact ⟨by rw [HU.out]; rfl, Bel.rfl' _⟩
theorem l8Unit_v {l' h' : Nat} {u : Value} {c : List Lt} {q : Bool} {w : World} (he : unitC c = q) (hu : SlC l' h' w u c) :
    Calls Try.prog 105 #[u] w (RetV w (.bool q)) := by subst he; exact l8Unit_c l' h' u c w hu

theorem uStep_no1 {ss : List Stp} {out : List Int} {k : Int} (h : unitC (ss.getD k.toNat st0).2.2.2 = false) : uStep ss out k = out := by unfold uStep; rw [h]; rfl
theorem uStep_no2 {ss : List Stp} {out : List Int} {k : Int} (h : ¬ out.length < 10) : uStep ss out k = out := by unfold uStep; rw [decide_eq_false h]; simp
theorem uStep_yes {ss : List Stp} {out : List Int} {k : Int} (h : unitC (ss.getD k.toNat st0).2.2.2 = true) (h2 : out.length < 10) : uStep ss out k = out ++ [k] := by unfold uStep; rw [h, decide_eq_true h2]; rfl

theorem own_formn {w : World} {base e s n : Nat} {v : Value} {xs : List Value} (h : w.ownsRow base e s v n xs) : ∃ ad c, v = .slice ad n c := by
  rcases h.2 with ⟨rfl, h0⟩ | ⟨g, cap, cur, rfl, hg, _⟩
  · exact ⟨none, 0, by rw [h0]⟩
  · exact ⟨_, _, rfl⟩

set_option maxRecDepth 100000 in
set_option maxHeartbeats 1000000 in
theorem l8Units_c (l h l' h' : Nat) (v u : Value) (ss : List Stp) (act : List Int) (w : World) (hx : ss.length ≤ 1048576) (hi : allIdx ss act = true) (hl : act.length ≤ 1048576) (hv : SlSt l h w v ss) (hu : SlI l' h' w u act) :
    Calls Try.prog 57 #[v, u] w (RetI w (unitsF ss act)) := by
  obtain ⟨i0, hi0, hz0, hz1, hz2⟩ := info_parts Try.info3
  obtain ⟨ad, cap, rfl⟩ := hv.form
  obtain ⟨ad', cap', rfl, -, -, hr'⟩ := hu
  go_enter Try.func57, Try.ntmps57
  go_wp2_with fail
  go_loopw [5, 10] (fun vs i wr => ∃ m : Nat, m ≤ act.length ∧ i = .int .i64 m ∧ wr.ownsRow w.heap.size 3 1 vs (unitsF ss (act.take m)).length ((unitsF ss (act.take m)).map (Value.int .i64)) ∧ Bel w wr) (fun _ i _ => act.length - (intOf i).toNat)
  case atStart => exact ⟨0, Nat.zero_le _, rfl, World.ownsRow_nil _ _ _ _, Bel.rfl' _⟩
  case round =>
    obtain ⟨m, hm, rfl, hown, hb⟩ := hrel
    by_cases hlt : m < act.length
    · obtain ⟨bb, off2, rfl, hbb, hcell⟩ := rd hr' hb m hlt
      obtain ⟨hk0, hk1⟩ := allIdx_get hi m hlt
      have hut := unitsF_take ss act m hlt
      have hal := unitsF_len ss (act.take m)
      generalize unitsF ss (act.take m) = xs at *
      generalize act.getD m 0 = K at *
      obtain ⟨k, rfl⟩ : ∃ k : Nat, K = (k : Int) := ⟨K.toNat, by omega⟩
      simp only [Int.toNat_natCast] at hk1
      obtain ⟨b, off, u1, u2, u3, rfl, hbs, c0, c1, c2, c3, s1, s2, s3⟩ := hv.at hb k hk1
      have hy := uStep_yes (ss := ss) (out := xs) (k := (k : Int))
      have hn1 := uStep_no1 (ss := ss) (out := xs) (k := (k : Int))
      have hn2 := uStep_no2 (ss := ss) (out := xs) (k := (k : Int))
      simp only [Int.toNat_natCast] at hy hn1
      have hin1 : (k : Int) < ss.length := by omega
      obtain ⟨vg, vo, hvs⟩ := own_formn hown
      clear c0 s1 s2 hv hr' hi
      generalize (ss.getD k st0).2.2.2 = c at *
      cases hq : unitC c with
      | false =>
        have HC := Lib.hid (l8Unit_v hq s3)
        have E := Lib.hid (hut.trans (hn1 hq))
        clear hut hy hn1 hn2 hq
        obtain ⟨a3, d3, rfl⟩ := s3.form
        clear s3
        subst hvs
        go_wp2_with fail
        refine HC.out.mono ?_; rintro e w2 ⟨rfl, hb2⟩
        have hown2 := ownsRow_bel hown hb2
        go_wp2_with fail
        go_roundw
        case rel => exact ⟨m+1, by omega, by go_num, by rw [E.out]; exact hown2, hb.step hb2⟩
        case measure => simp [intOf]; omega
      | true =>
        have HC := Lib.hid (l8Unit_v hq s3)
        by_cases h10 : xs.length < 10
        · have E := Lib.hid (hut.trans (hy hq h10))
          clear hut hy hn1 hn2 hq
          obtain ⟨a3, d3, rfl⟩ := s3.form
          clear s3
          subst hvs
          have hd : decide ((xs.length : Int) < 10) = true := by simp; omega
          go_wp2_with fail
          refine HC.out.mono ?_; rintro e w2 ⟨rfl, hb2⟩
          have hown2 := ownsRow_bel hown hb2
          have hb3 := hb.step hb2
          clear hown hb hb2
          go_wp2_with (at_builtin; refine wpList_append_own _ rfl _ _ 22 rfl w.heap.size 3 i0 (.int .i64 0) 1 8 Try.underlying22 hi0 hz0 hz1 hz2 rfl (by decide) _ _ _ rfl (hown2.alloc _) ⟨w2.heap.size, 0, none⟩ 1 1 [.int .i64 k] rfl rfl (news_one _ _ _) (one_int _) (by unfold maxLen; omega) (by omega) (by have := hb3.size; simp at *; omega) ?_; intro v' w3 hown' hgrow _)
          have hown3 := row_snoc hown'
          rw [← E.out] at hown3
          exact ⟨⟨m+1, by omega, by go_num, hown3, (hb3.alloc (.cells #[.int .i64 k] 3)).grown hgrow (fun q hq => by have := own_base hown2 q hq; simp; omega)⟩, by simp [intOf]; omega⟩
        · have E := Lib.hid (hut.trans (hn2 h10))
          clear hut hy hn1 hn2 hq
          obtain ⟨a3, d3, rfl⟩ := s3.form
          clear s3
          subst hvs
          go_wp2_with fail
          refine HC.out.mono ?_; rintro e w2 ⟨rfl, hb2⟩
          have hown2 := ownsRow_bel hown hb2
          go_wp2_with fail
          go_roundw
          case rel => exact ⟨m+1, by omega, by go_num, by rw [E.out]; exact hown2, hb.step hb2⟩
          case measure => simp [intOf]; omega
    · obtain rfl : m = act.length := by omega
      rw [List.take_length] at hown
      go_wp2_with fail
      obtain ⟨g, n, o, hv'⟩ := own_form hown
      subst hv'
      go_ret
      exact ⟨_, _, _, rfl, OwnI.of_row hown, hb⟩

def RetUO (w : World) (ar : List Int) (ss : List Stp) (act : List Int) : Ending → World → Prop := RetIB w (unitsAns ar ss act) (unitsOK ar ss act)
theorem units_no1 {ar : List Int} {ss : List Stp} {act : List Int} (h : goodSts ar ss = false) : unitsOK ar ss act = false ∧ unitsAns ar ss act = [] := by
  have : unitsOK ar ss act = false := by unfold unitsOK; rw [h]; rfl
  exact ⟨this, by unfold unitsAns; rw [this]; rfl⟩
theorem units_no2 {ar : List Int} {ss : List Stp} {act : List Int} (h : allIdx ss act = false) : unitsOK ar ss act = false ∧ unitsAns ar ss act = [] := by
  have : unitsOK ar ss act = false := by unfold unitsOK; rw [h]; simp
  exact ⟨this, by unfold unitsAns; rw [this]; rfl⟩
theorem units_yes {ar : List Int} {ss : List Stp} {act : List Int} (h : goodSts ar ss = true) (h2 : allIdx ss act = true) : unitsOK ar ss act = true ∧ unitsAns ar ss act = unitsF ss act := by
  have : unitsOK ar ss act = true := by unfold unitsOK; rw [h, h2]; rfl
  exact ⟨this, by unfold unitsAns; rw [this]; rfl⟩
theorem retIB_nil {w w' : World} {xs : List Int} {ok : Bool} (h : ok = false ∧ xs = []) (hb : Bel w w') : RetIB w xs ok (.returned (.tuple #[.slice none 0 0, .bool false])) w' := by
  obtain ⟨rfl, rfl⟩ := h
  exact ⟨none, 0, 0, rfl, OwnI.nil _ _ _, hb⟩

set_option maxRecDepth 100000 in
set_option maxHeartbeats 1000000 in
theorem sUnitsOf_t {l h l' h' l2 h2 : Nat} {v u a : Value} {ar : List Int} {ss : List Stp} {act : List Int} {w : World} (ha : ar.length ≤ 1048576) (hv : SlI l h w v ar) (hx : totSt ss ≤ 1048576) (hu : SlSt l' h' w u ss) (hl : act.length ≤ 1048576) (hact : SlI l2 h2 w a act) :
    Calls Try.prog 9 #[.agg #[v], u, a] w (RetIB w (unitsAns ar ss act) (unitsOK ar ss act)) := by
  obtain ⟨hxl, -⟩ := totSt_each hx
  obtain ⟨au, cu, rfl⟩ := hu.form
  cases hg : goodSts ar ss with
  | false =>
    have E := Lib.hid (units_no1 (act := act) hg)
    have HG := Lib.hid hg; clear hg
    go_enter Try.func9, Try.ntmps9
    go_wp2_with fail
    refine (l8Steps_v HG.out ha hx (hv.alloc _) (hu.alloc _)).mono ?_; rintro e w1 ⟨rfl, hb1⟩
    go_wp2_with fail
    go_ret2
    exact retIB_nil E.out hb1.of_alloc
  | true =>
    have i1 := IntWalk.i64_in ((ss.length : Int) - 1) (by omega)
    cases hi : allIdx ss act with
    | false =>
      have E := Lib.hid (units_no2 (ar := ar) hi)
      have HG := Lib.hid hg; clear hg
      have HA := Lib.hid (fun (w' : World) (hb : Bel w w') => l1All_v _ _ a act 0 ((ss.length : Int) - 1) w' false hi hl (hact.below hb))
      clear hi
      go_enter Try.func9, Try.ntmps9
      go_wp2_with fail
      refine (l8Steps_v HG.out ha hx (hv.alloc _) (hu.alloc _)).mono ?_; rintro e w1 ⟨rfl, hb1⟩
      go_wp2_with fail
      refine (HA.out _ hb1.of_alloc).mono ?_; rintro e w2 ⟨rfl, hb2⟩
      go_wp2_with fail
      go_ret2
      exact retIB_nil E.out (hb1.of_alloc.step hb2)
    | true =>
      have E := Lib.hid (units_yes hg hi)
      have HG := Lib.hid hg; clear hg
      have HA := Lib.hid (fun (w' : World) (hb : Bel w w') => l1All_v _ _ a act 0 ((ss.length : Int) - 1) w' true hi hl (hact.below hb))
      have HU := Lib.hid (fun (w' : World) (hb : Bel w w') => l8Units_c _ _ _ _ _ a ss act w' hxl hi hl (hu.below hb) (hact.below hb))
      clear hi
      go_enter Try.func9, Try.ntmps9
      go_wp2_with fail
      refine (l8Steps_v HG.out ha hx (hv.alloc _) (hu.alloc _)).mono ?_; rintro e w1 ⟨rfl, hb1⟩
      go_wp2_with fail
      refine (HA.out _ hb1.of_alloc).mono ?_; rintro e w2 ⟨rfl, hb2⟩
      go_wp2_with fail
      refine (HU.out _ (hb1.of_alloc.step hb2)).mono ?_; rintro e w3 ⟨a3, n3, c3, rfl, ho, hb3⟩
      go_wp2_with fail
      go_ret2
      rw [E.out.1, E.out.2]
      exact ⟨_, _, _, rfl, ho.mono (hb1.of_alloc.step hb2).size (Nat.le_refl _), (hb1.of_alloc.step hb2).step hb3⟩
end Go.Proofs.Yteegjnobmbcjiaa
end
section
/- Chapter 8, the reference: ChooseOf. -/
namespace Go.Proofs.Yteegjnobmbcjiaa
open Go.RowKit

theorem ch_no1 {ar : List Int} {ss : List Stp} {p : List Int} {r : Int} (h : goodSts ar ss = false) : chOK ar ss p r = false ∧ chAns ar ss p r = 0 := by
  have : chOK ar ss p r = false := by unfold chOK; rw [h]; rfl
  exact ⟨this, by unfold chAns; rw [this]; rfl⟩
theorem ch_no2 {ar : List Int} {ss : List Stp} {p : List Int} {r : Int} (h : allIdx ss p = false) : chOK ar ss p r = false ∧ chAns ar ss p r = 0 := by
  have : chOK ar ss p r = false := by unfold chOK; rw [h]; simp
  exact ⟨this, by unfold chAns; rw [this]; rfl⟩
theorem ch_no3 {ar : List Int} {ss : List Stp} {p : List Int} {r : Int} (h : ¬ 0 < p.length) : chOK ar ss p r = false ∧ chAns ar ss p r = 0 := by
  have : chOK ar ss p r = false := by unfold chOK; rw [decide_eq_false h]; simp
  exact ⟨this, by unfold chAns; rw [this]; rfl⟩
theorem ch_no4 {ar : List Int} {ss : List Stp} {p : List Int} {r : Int} (h : ¬ 1 ≤ r) : chOK ar ss p r = false ∧ chAns ar ss p r = 0 := by
  have : chOK ar ss p r = false := by unfold chOK; rw [decide_eq_false h]; simp
  exact ⟨this, by unfold chAns; rw [this]; rfl⟩
def chV (ss : List Stp) (p : List Int) (r : Int) : Int := if r % 4 = 0 then p.getD 0 0 else chF ss p
theorem ch_yes {ar : List Int} {ss : List Stp} {p : List Int} {r : Int} (h1 : goodSts ar ss = true) (h2 : allIdx ss p = true) (h3 : 0 < p.length) (h4 : 1 ≤ r) : chOK ar ss p r = true ∧ chAns ar ss p r = chV ss p r := by
  have : chOK ar ss p r = true := by unfold chOK; rw [h1, h2, decide_eq_true h3, decide_eq_true h4]; rfl
  exact ⟨this, by unfold chAns; rw [this]; rfl⟩
theorem wAt_le {ss : List Stp} {k : Nat} (hx : totSt ss ≤ 1048576) (hk : k < ss.length) : sumC (ss.getD k st0).2.2.2 ≤ 1048576 := ((totSt_each hx).2 k hk).2.2
theorem lenC_le {c : List Lt} : lenC c ≤ sumC c := by rw [sumC_eq]; omega
theorem mem_idx {ss : List Stp} {p : List Int} (h : allIdx ss p = true) {x : Int} (hx : x ∈ p) : 0 ≤ x ∧ x.toNat < ss.length := by
  have := List.all_eq_true.1 h x hx
  simp only [inB, Bool.and_eq_true, decide_eq_true_eq] at this
  omega
theorem chStep_lt {ss : List Stp} {b k : Int} {wk wb : Nat} (h1 : wAt ss k = wk) (h2 : wAt ss b = wb) (h : wk < wb) : chStep ss b k = k := by unfold chStep; rw [h1, h2, if_pos h]
theorem chStep_ge {ss : List Stp} {b k : Int} {wk wb : Nat} (h1 : wAt ss k = wk) (h2 : wAt ss b = wb) (h : ¬ wk < wb) : chStep ss b k = b := by unfold chStep; rw [h1, h2, if_neg h]

set_option maxRecDepth 100000 in
set_option maxHeartbeats 1000000 in
theorem l8Choose_c (l h l' h' : Nat) (v u : Value) (ss : List Stp) (p : List Int) (r : Int) (w : World) (hx : totSt ss ≤ 1048576) (hi : allIdx ss p = true) (hl : p.length ≤ 1048576) (hp : 0 < p.length) (hr : 1 ≤ r) (hv : SlSt l h w v ss) (hu : SlI l' h' w u p) :
    Calls Try.prog 64 #[v, u, .int .i64 r] w (RetV w (.int .i64 (chV ss p r))) := by
  obtain ⟨hxl, -⟩ := totSt_each hx
  obtain ⟨ad, cap, rfl⟩ := hv.form
  obtain ⟨ad', cap', rfl, -, -, hr'⟩ := hu
  obtain ⟨bb, off2, rfl, hbb, hcell⟩ := rd hr' (Bel.rfl' w) 0 hp
  simp only [Nat.add_zero] at hcell
  have hrem : Int.tmod r 4 = r % 4 := Int.tmod_eq_emod_of_nonneg (by omega)
  have hp1 : (0 : Int) < p.length := by omega
  by_cases h4 : r % 4 = 0
  · have E : Hid (chV ss p r = p.getD 0 0) := by show _ = _; unfold chV; rw [if_pos h4]
    have hd : (r % 4 == 0) = true := by simpa using h4
    clear hv hr' hi
    generalize p.getD 0 0 = K at *
    go_enter Try.func64, Try.ntmps64
    go_wp2_with fail
    go_ret
    exact ⟨by rw [E.out]; rfl, Bel.rfl' _⟩
  · have E : Hid (chV ss p r = p.foldl (chStep ss) (p.getD 0 0)) := by show _ = _; unfold chV; rw [if_neg h4]; rfl
    have hd : (r % 4 == 0) = false := by simpa using h4
    have HM := Lib.hid (chF_mem ss p hp)
    have HT := Lib.hid (fun z k h => chF_take ss p z k h)
    generalize p.getD 0 0 = K0 at *
    go_enter Try.func64, Try.ntmps64
    go_wp2_with fail
    go_loopw [7, 19] (fun b i wr => ∃ m : Nat, m ≤ p.length ∧ i = .int .i64 m ∧ b = .int .i64 ((p.take m).foldl (chStep ss) K0) ∧ Bel w wr) (fun _ i _ => p.length - (intOf i).toNat)
    case atStart => exact ⟨0, Nat.zero_le _, rfl, rfl, Bel.rfl' _⟩
    case round =>
      obtain ⟨m, hm, rfl, rfl, hb⟩ := hrel
      by_cases hlt : m < p.length
      · obtain ⟨bb1, off1, e0, hbb1, hcell1⟩ := rd hr' hb m hlt
        simp only [Option.some.injEq, Addr.mk.injEq] at e0
        obtain ⟨rfl, rfl, -⟩ := e0
        obtain ⟨hk0, hk1⟩ := allIdx_get hi m hlt
        obtain ⟨hb0, hb1⟩ := mem_idx hi (HM.out m)
        have hut := HT.out K0 m hlt
        generalize (p.take m).foldl (chStep ss) K0 = B at *
        generalize p.getD m 0 = K at *
        obtain ⟨k, rfl⟩ : ∃ k : Nat, K = (k : Int) := ⟨K.toNat, by omega⟩
        obtain ⟨q, rfl⟩ : ∃ q : Nat, B = (q : Int) := ⟨B.toNat, by omega⟩
        simp only [Int.toNat_natCast] at hk1 hb1
        obtain ⟨b, off, u1, u2, u3, rfl, hbs, c0, c1, c2, c3, s1, s2, s3⟩ := hv.at hb k hk1
        obtain ⟨b', off', v1, v2, v3, e0, -, d0, d1, d2, d3, t1, t2, t3⟩ := hv.at hb q hb1
        simp only [Option.some.injEq, Addr.mk.injEq] at e0
        obtain ⟨rfl, rfl, -⟩ := e0
        have hin1 : (k : Int) < ss.length := by omega
        have hin2 : (q : Int) < ss.length := by omega
        have hwk := wAt_le hx hk1
        have hwq := wAt_le hx hb1
        have ek : wAt ss (k : Int) = lenC (ss.getD k st0).2.2.2 := by unfold wAt; rw [Int.toNat_natCast]; rfl
        have eq' : wAt ss (q : Int) = lenC (ss.getD q st0).2.2.2 := by unfold wAt; rw [Int.toNat_natCast]; rfl
        have hy := fun h => chStep_lt ek eq' h
        have hn := fun h => chStep_ge ek eq' h
        clear c0 d0 c1 c2 d1 d2 s1 s2 t1 t2 ek eq' hv hr' hi
        generalize (ss.getD k st0).2.2.2 = ck at *
        generalize (ss.getD q st0).2.2.2 = cq at *
        have HC := Lib.hid (fun (w' : World) (hq : Bel wr w') => l4Weight_c _ _ u3 ck w' hwk (s3.below hq))
        have HD := Lib.hid (fun (w' : World) (hq : Bel wr w') => l4Weight_c _ _ v3 cq w' hwq (t3.below hq))
        obtain ⟨a3, x3, rfl⟩ := s3.form
        obtain ⟨a4, x4, rfl⟩ := t3.form
        have hlk := lenC_le (c := ck)
        have hlq := lenC_le (c := cq)
        generalize lenC ck = wk at *
        generalize lenC cq = wq at *
        generalize ck.length = nk at *
        generalize cq.length = nq at *
        clear s3 t3
        have zb := World.block_lt_of_cell? wr ⟨b, _, none⟩ c3
        by_cases hlt2 : wk < wq
        · have hdd : decide ((wk : Int) < wq) = true := decide_eq_true (by omega)
          have E2 := Lib.hid (hut.trans (hy hlt2))
          clear hy hn hut
          go_wp2_with fail
          go_region_held3 (fun w' => Bel wr w' ∧ w'.cell? ⟨b, off + k * 4 + 3, none⟩ = some (.slice a3 nk x3) ∧ w'.cell? ⟨b, off + q * 4 + 3, none⟩ = some (.slice a4 nq x4))
            (first | exact ⟨HB2, HB2.at zb c3, HB2.at zb d3⟩ | exact ⟨HB1, HB1.at zb c3, HB1.at zb d3⟩ | exact ⟨Bel.drew0 _, c3, d3⟩ | fail)
            (first | (go_at_call 83; refine (HD.out _ HB1).mono ?_; rintro e w3 ⟨rfl, hb3⟩; have HB2 := HB1.step hb3) | (go_at_call 83; refine (HC.out _ (Bel.drew0 _)).mono ?_; rintro e w2 ⟨rfl, hb2⟩; have HB1 := (Bel.drew0 wr).step hb2) | fail)
          go_wp2_with fail
          go_roundw
          case rel => exact ⟨m+1, by omega, by go_num, by rw [E2.out], hb.step HB2⟩
          case measure => simp [intOf]; omega
        · have hdd : decide ((wk : Int) < wq) = false := decide_eq_false (by omega)
          have E2 := Lib.hid (hut.trans (hn hlt2))
          clear hy hn hut
          go_wp2_with fail
          go_region_held3 (fun w' => Bel wr w' ∧ w'.cell? ⟨b, off + k * 4 + 3, none⟩ = some (.slice a3 nk x3) ∧ w'.cell? ⟨b, off + q * 4 + 3, none⟩ = some (.slice a4 nq x4))
            (first | exact ⟨HB2, HB2.at zb c3, HB2.at zb d3⟩ | exact ⟨HB1, HB1.at zb c3, HB1.at zb d3⟩ | exact ⟨Bel.drew0 _, c3, d3⟩ | fail)
            (first | (go_at_call 83; refine (HD.out _ HB1).mono ?_; rintro e w3 ⟨rfl, hb3⟩; have HB2 := HB1.step hb3) | (go_at_call 83; refine (HC.out _ (Bel.drew0 _)).mono ?_; rintro e w2 ⟨rfl, hb2⟩; have HB1 := (Bel.drew0 wr).step hb2) | fail)
          go_wp2_with fail
          go_roundw
          case rel => exact ⟨m+1, by omega, by go_num, by rw [E2.out], hb.step HB2⟩
          case measure => simp [intOf]; omega
      · obtain rfl : m = p.length := by omega
        rw [List.take_length]
        go_wp2_with fail
        go_ret
        exact ⟨by rw [E.out]; rfl, hb⟩

set_option maxRecDepth 100000 in
set_option maxHeartbeats 1000000 in
theorem sChooseOf_t {l h l' h' l2 h2 : Nat} {v u a : Value} {ar : List Int} {ss : List Stp} {p : List Int} {r : Int} {w : World} (ha : ar.length ≤ 1048576) (hv : SlI l h w v ar) (hx : totSt ss ≤ 1048576) (hu : SlSt l' h' w u ss) (hl : p.length ≤ 1048576) (hact : SlI l2 h2 w a p) (_hr0 : -9223372036854775808 ≤ r) (_hr1 : r ≤ 9223372036854775807) :
    Calls Try.prog 21 #[.agg #[v], u, a, .int .i64 r] w (RetV w (.tuple #[.int .i64 (chAns ar ss p r), .bool (chOK ar ss p r)])) := by
  obtain ⟨hxl, -⟩ := totSt_each hx
  obtain ⟨au, cu, rfl⟩ := hu.form
  obtain ⟨aa, ca, rfl⟩ := hact.form
  cases hg : goodSts ar ss with
  | false =>
    have E := Lib.hid (ch_no1 (p := p) (r := r) hg)
    have HG := Lib.hid hg; clear hg
    go_enter Try.func21, Try.ntmps21
    go_wp2_with fail
    refine (l8Steps_v HG.out ha hx (hv.alloc _) (hu.alloc _)).mono ?_; rintro e w1 ⟨rfl, hb1⟩
    go_wp2_with fail
    go_ret2
    exact ⟨by rw [E.out.1, E.out.2]; rfl, hb1.of_alloc⟩
  | true =>
    have HG := Lib.hid hg
    by_cases hp : 0 < p.length
    · have i1 := IntWalk.i64_in ((ss.length : Int) - 1) (by omega)
      have hpe : ((p.length : Int) == 0) = false := beq_eq_false_iff_ne.2 (by omega)
      cases hi : allIdx ss p with
      | false =>
        have E := Lib.hid (ch_no2 (ar := ar) (r := r) hi)
        have HA := Lib.hid (fun (w' : World) (hb : Bel w w') => l1All_v _ _ _ p 0 ((ss.length : Int) - 1) w' false hi hl (hact.below hb))
        clear hi hg
        go_enter Try.func21, Try.ntmps21
        go_wp2_with fail
        refine (l8Steps_v HG.out ha hx (hv.alloc _) (hu.alloc _)).mono ?_; rintro e w1 ⟨rfl, hb1⟩
        go_wp2_with fail
        refine (HA.out _ hb1.of_alloc).mono ?_; rintro e w2 ⟨rfl, hb2⟩
        go_wp2_with fail
        go_ret2
        exact ⟨by rw [E.out.1, E.out.2]; rfl, hb1.of_alloc.step hb2⟩
      | true =>
        have HA := Lib.hid (fun (w' : World) (hb : Bel w w') => l1All_v _ _ _ p 0 ((ss.length : Int) - 1) w' true hi hl (hact.below hb))
        by_cases hr : 1 ≤ r
        · have E := Lib.hid (ch_yes (ar := ar) hg hi hp hr)
          have hdr : decide (r < 1) = false := decide_eq_false (by omega)
          have HU := Lib.hid (fun (w' : World) (hb : Bel w w') => l8Choose_c _ _ _ _ _ _ ss p r w' hx hi hl hp hr (hu.below hb) (hact.below hb))
          clear hi hg
          generalize chV ss p r = V at *
          go_enter Try.func21, Try.ntmps21
          go_wp2_with fail
          refine (l8Steps_v HG.out ha hx (hv.alloc _) (hu.alloc _)).mono ?_; rintro e w1 ⟨rfl, hb1⟩
          go_wp2_with fail
          refine (HA.out _ hb1.of_alloc).mono ?_; rintro e w2 ⟨rfl, hb2⟩
          go_wp2_with fail
          refine (HU.out _ (hb1.of_alloc.step hb2)).mono ?_; rintro e w3 ⟨rfl, hb3⟩
          go_wp2_with fail
          go_ret2
          exact ⟨by rw [E.out.1, E.out.2]; rfl, (hb1.of_alloc.step hb2).step hb3⟩
        · have E := Lib.hid (ch_no4 (ar := ar) (ss := ss) (p := p) hr)
          have hdr : decide (r < 1) = true := decide_eq_true (by omega)
          clear hi hg
          go_enter Try.func21, Try.ntmps21
          go_wp2_with fail
          refine (l8Steps_v HG.out ha hx (hv.alloc _) (hu.alloc _)).mono ?_; rintro e w1 ⟨rfl, hb1⟩
          go_wp2_with fail
          refine (HA.out _ hb1.of_alloc).mono ?_; rintro e w2 ⟨rfl, hb2⟩
          go_wp2_with fail
          go_ret2
          exact ⟨by rw [E.out.1, E.out.2]; rfl, hb1.of_alloc.step hb2⟩
    · have E := Lib.hid (ch_no3 (ar := ar) (ss := ss) (r := r) hp)
      have hpe : ((p.length : Int) == 0) = true := beq_iff_eq.2 (by omega)
      clear hg
      go_enter Try.func21, Try.ntmps21
      go_wp2_with fail
      refine (l8Steps_v HG.out ha hx (hv.alloc _) (hu.alloc _)).mono ?_; rintro e w1 ⟨rfl, hb1⟩
      go_wp2_with fail
      go_ret2
      exact ⟨by rw [E.out.1, E.out.2]; rfl, hb1.of_alloc⟩
end Go.Proofs.Yteegjnobmbcjiaa
end
section
/- Chapter 8, the program: steps that are valid. -/
namespace Go.Proofs.Yteegjnobmbcjiaa
open Go.RowKit

theorem one_sl (a : Option Addr) (n c : Nat) : ∀ u ∈ [Value.slice a n c], u.oneCell' = true := by
  intro u hu; simp at hu; rcases hu with rfl; rfl
/-- A row of slices' headers, whose clauses lay below. -/
theorem slcs_of_row {w w' : World} {base e : Nat} {v : Value} {zs : List Value} {cs : List (List Lt)} (h : w'.ownsRow base e 1 v cs.length zs) (hl : zs.length = cs.length) (hz : ∀ j u, zs[j]? = some u → SlC 0 w.heap.size w u (cs.getD j [])) (hb : Bel w w') : SlCs 0 w'.heap.size w' v cs := by
  have h0 := h
  obtain ⟨q1, ⟨rfl, q3⟩ | ⟨g, cap, cur, rfl, hg, hh, r1, r2, r3⟩⟩ := h
  · have hn : cs = [] := List.length_eq_zero_iff.1 q3
    subst hn
    exact ⟨none, 0, rfl, Nat.le_refl _, ⟨Nat.zero_le _, fun _ => rfl⟩, fun hp => absurd hp (by simp)⟩
  · refine ⟨some ⟨g, 0, none⟩, cap, rfl, r1, ⟨r2, fun h => by simp at h⟩, fun hp => ⟨g, 0, rfl, Nat.zero_le _, (Array.getElem?_eq_some_iff.1 hh).1, fun j hj => ?_⟩⟩
    have hj2 : j < zs.length := by omega
    refine ⟨zs[j], ?_, ?_⟩
    · rw [Nat.zero_add, h0.cellAt j (by omega), List.getElem?_eq_getElem hj2]
    · exact ((hz j _ (List.getElem?_eq_getElem hj2)).below hb).mono (Nat.le_refl _) hb.size
def RetCIn (w : World) (cs : List (List Lt)) (e : Ending) (w' : World) : Prop := ∃ ad n k, e = .returned (.slice ad n k) ∧ SlCs 0 w'.heap.size w' (.slice ad n k) cs ∧ Bel w w'
theorem litsInfo' : (Try.prog.info? 47).map (fun i => (i.zero, i.size, i.bytes)) = some (some (.slice none 0 0), 1, 24) := by kernel_rfl

set_option maxRecDepth 100000 in
set_option maxHeartbeats 1000000 in
theorem clausesIn_c (l h : Nat) (v : Value) (ss : List Stp) (w : World) (hx : ss.length ≤ 1048576) (hlo : h ≤ w.heap.size) (hv : SlSt l h w v ss) :
    Calls Try.prog 108 #[v] w (RetCIn w (clsSt ss)) := by
  obtain ⟨i1, hi1, hy0, hy1, hy2⟩ := info_parts litsInfo'
  obtain ⟨ad, cap, rfl⟩ := hv.form
  go_enter Try.func108, Try.ntmps108
  go_wp2_with fail
  go_loopw [3, 8] (fun o i wr => ∃ (k : Nat) (zs : List Value), k ≤ ss.length ∧ i = .int .i64 k ∧ wr.ownsRow w.heap.size 47 1 o k zs ∧ zs.length = k ∧ (∀ j u, zs[j]? = some u → SlC 0 w.heap.size w u ((clsSt ss).getD j [])) ∧ Bel w wr) (fun _ i _ => ss.length - (intOf i).toNat)
  case atStart => exact ⟨0, [], Nat.zero_le _, rfl, World.ownsRow_nil _ _ _ _, rfl, fun j u h => by simp at h, Bel.rfl' _⟩
  case round =>
    obtain ⟨k, zs, hk, rfl, ho, hzl, hz, hb⟩ := hrel
    by_cases hlt : k < ss.length
    · obtain ⟨b, off, v1, v2, v3, rfl, -, k0, k1, k2, k3, -, -, t3⟩ := hv.at (Bel.rfl' w) k hlt
      obtain ⟨b1, off1, u1, u2, u3, e0, hbs, c0, c1, c2, c3, s1, s2, s3⟩ := hv.at hb k hlt
      simp only [Option.some.injEq, Addr.mk.injEq] at e0
      obtain ⟨rfl, rfl, -⟩ := e0
      have e33 : u3 = v3 := by
        have := hb.at (World.block_lt_of_cell? w ⟨b, _, none⟩ k3) k3
        rw [c3] at this
        exact Option.some.inj this
      subst e33
      have hz2 : Hid (∀ j u, (zs ++ [u3])[j]? = some u → SlC 0 w.heap.size w u ((clsSt ss).getD j [])) := fun j u hj => by
        by_cases hjl : j < zs.length
        · rw [List.getElem?_append_left hjl] at hj; exact hz j u hj
        · have hje : j = k := by have := (List.getElem?_eq_some_iff.1 hj).1; simp at this; omega
          subst hje
          rw [List.getElem?_append_right (by omega), hzl, Nat.sub_self] at hj
          simp only [List.getElem?_cons_zero, Option.some.injEq] at hj
          subst hj
          rw [clsSt_get]
          exact t3.mono (Nat.zero_le _) hlo
      have hin1 : (k : Int) < ss.length := by omega
      clear hv hz t3 k0 k1 k2 k3
      generalize ss.getD k st0 = x at *
      obtain ⟨p, xp, xw, c⟩ := x
      simp only at *
      obtain ⟨a1, d1, rfl⟩ := s1.form
      obtain ⟨a2, d2, rfl⟩ := s2.form
      obtain ⟨a3, d3, rfl⟩ := s3.form
      have hbz := hb.size
      generalize c.length = n3 at *
      clear s1 s2 s3
      go_wp2_with (at_builtin; refine wpList_append_own _ rfl _ _ 101 rfl w.heap.size 47 i1 (.slice none 0 0) 1 24 (by kernel_rfl) hi1 hy0 hy1 hy2 rfl (by decide) _ _ _ rfl ((ho.alloc _).alloc _) ⟨wr.heap.size + 1, 0, none⟩ 1 1 [.slice a3 n3 d3] rfl rfl (news_one_at _ _ _ _ (by simp)) (one_sl _ _ _) (by unfold maxLen; omega) (by omega) (by simp; omega) ?_; intro v' w1 hown' hgrow _)
      go_roundw
      case rel => exact ⟨k+1, zs ++ [.slice a3 n3 d3], by omega, by go_num, hown', by simp [hzl], hz2.out, ((hb.alloc _).alloc _).grown hgrow (fun q hq => by have := own_base ho q hq; simp; omega)⟩
      case measure => simp [intOf]; omega
    · obtain rfl : k = ss.length := by omega
      have hs := slcs_of_row (cs := clsSt ss) (by rw [clsSt_len]; exact ho) (by rw [clsSt_len]; exact hzl) hz hb
      clear hz ho
      go_wp2_with fail
      obtain ⟨g, n, e⟩ := hs.form
      subst e
      go_ret
      exact ⟨_, _, _, rfl, hs, hb⟩

theorem gc_ok {ar : List Int} {c : List Lt} {q : Bool} (hg : goodSign ar = true) (h : okLits ar c = q) : goodClause ar c = q := by unfold goodClause; rw [hg, Bool.true_and]; exact h
def goodCs (ar : List Int) (cs : List (List Lt)) (most : Int) : Bool := decide ((cs.length : Int) ≤ most) && (goodSign ar && cs.all (okLits ar))
set_option maxRecDepth 100000 in
set_option maxHeartbeats 1000000 in
theorem goodClauses_c (l h l' h' : Nat) (v u : Value) (ar : List Int) (cs : List (List Lt)) (most : Int) (w : World) (ha : ar.length ≤ 1048576) (hx : cs.length ≤ 1048576) (hs : ∀ k, k < cs.length → sumC (cs.getD k []) ≤ 1048576) (hv : SlI l h w v ar) (hu : SlCs l' h' w u cs) :
    Calls Try.prog 107 #[.agg #[v], u, .int .i64 most] w (RetV w (.bool (goodCs ar cs most))) := by
  obtain ⟨ad, cap, rfl⟩ := hu.form
  by_cases hm : (cs.length : Int) ≤ most
  · have hd : decide ((cs.length : Int) > most) = false := decide_eq_false (by omega)
    cases hg : goodSign ar with
    | false =>
      have E : Hid (goodCs ar cs most = false) := by show _ = _; unfold goodCs; rw [hg]; simp
      have HG := Lib.hid hg; clear hg
      go_enter Try.func107, Try.ntmps107
      go_wp2_with fail
      refine (iGoodSign_v _ _ _ _ _ _ HG.out ha (hv.alloc _)).mono ?_; rintro e w2 ⟨rfl, hb3⟩
      go_wp2_with fail
      go_ret
      exact ⟨by rw [E.out]; rfl, hb3.of_alloc⟩
    | true =>
      have hG := hg
      have HG := Lib.hid hg; clear hg
      have hE : Hid (goodCs ar cs most = cs.all (okLits ar)) := by show _ = _; unfold goodCs; rw [hG, decide_eq_true hm]; simp
      go_enter Try.func107, Try.ntmps107
      go_wp2_with fail
      refine (iGoodSign_v _ _ _ _ _ _ HG.out ha (hv.alloc _)).mono ?_; rintro e w2 ⟨rfl, hb3⟩
      go_wp2_with fail
      go_loopw [20] (fun i wr => ∃ k : Nat, k ≤ cs.length ∧ i = .int .i64 k ∧ (cs.take k).all (okLits ar) = true ∧ Bel (w.alloc (.cells #[v] 30)) wr) (fun i _ => cs.length - (intOf i).toNat)
      case atStart => exact ⟨0, Nat.zero_le _, rfl, rfl, hb3⟩
      case round =>
        obtain ⟨k, hk, rfl, hall, hb⟩ := hrel
        have hbox := boxc hb 0 _ rfl
        by_cases hlt : k < cs.length
        · obtain ⟨b, off, u1, rfl, hbs, c1, s1⟩ := hu.at hb.of_alloc k hlt
          have hm2 := hs k hlt
          have hin1 : (k : Int) < cs.length := by omega
          have hvr := hv.below hb.of_alloc
          have hsp := allg_split cs [] (okLits ar) k hlt hall
          have hbad := allg_false cs [] (okLits ar) k hlt
          clear hu hv hs hall
          generalize cs.getD k [] = c at *
          obtain ⟨a1, d1, rfl⟩ := s1.form
          cases hq : okLits ar c with
          | false =>
            have E := Lib.hid (hE.out.trans (hbad hq))
            have HQ := Lib.hid (gc_ok hG hq)
            clear hsp hbad hq
            go_wp2_with fail
            refine (iGoodClause_v HQ.out ha hvr hm2 s1).mono ?_; rintro e w3 ⟨rfl, hb4⟩
            go_wp2_with fail
            go_ret
            exact ⟨by rw [E.out]; rfl, hb.of_alloc.step hb4⟩
          | true =>
            have E := Lib.hid (hsp.trans hq)
            have HQ := Lib.hid (gc_ok hG hq)
            clear hsp hbad hq
            go_wp2_with fail
            refine (iGoodClause_v HQ.out ha hvr hm2 s1).mono ?_; rintro e w3 ⟨rfl, hb4⟩
            go_wp2_with fail
            go_roundw
            case rel => exact ⟨k+1, by omega, by go_num, E.out, hb.step hb4⟩
            case measure => simp [intOf]; omega
        · obtain rfl : k = cs.length := by omega
          rw [List.take_length] at hall
          have E := Lib.hid (hE.out.trans hall)
          clear hall
          go_wp2_with fail
          go_ret
          exact ⟨by rw [E.out]; rfl, hb.of_alloc⟩
  · have hd : decide ((cs.length : Int) > most) = true := decide_eq_true (by omega)
    have E : Hid (goodCs ar cs most = false) := by show _ = _; unfold goodCs; rw [decide_eq_false hm]; rfl
    go_enter Try.func107, Try.ntmps107
    go_wp2_with fail
    go_ret
    exact ⟨by rw [E.out]; rfl, Bel.alloc0 _ _⟩

set_option maxRecDepth 100000 in
set_option maxHeartbeats 1000000 in
theorem goodSteps_c (l h l' h' : Nat) (v u : Value) (ar : List Int) (ss : List Stp) (w : World) (ha : ar.length ≤ 1048576) (hx : totSt ss ≤ 1048576) (hv : SlI l h w v ar) (hu0 : SlSt l' h' w u ss) :
    Calls Try.prog 59 #[.agg #[v], u] w (RetV w (.bool (goodSts ar ss))) := by
  have hu := hu0.in'
  clear hu0
  obtain ⟨ad, cap, rfl⟩ := hu.form
  obtain ⟨hxl, hxj⟩ := totSt_each hx
  by_cases h8 : ss.length ≤ 200
  · have hd : decide ((ss.length : Int) ≤ 200) = true := by rw [decide_eq_true]; omega
    have HE : Hid (goodCs ar (clsSt ss) 200 = goodSts ar ss) := by
      show _ = _
      unfold goodCs goodSts
      rw [clsSt_len, decide_eq_true h8, show decide ((ss.length : Int) ≤ 200) = true from hd]; simp
    have HT := Lib.hid (fun (w' : World) (hb : Bel w w') => clausesIn_c _ _ _ ss w' hxl hb.size (hu.below hb))
    have hsum : ∀ k, k < (clsSt ss).length → sumC ((clsSt ss).getD k []) ≤ 1048576 := fun k hk => by rw [clsSt_get]; exact (hxj k (by rw [clsSt_len] at hk; exact hk)).2.2
    have HD := Lib.hid (fun (w' : World) (x : Value) (hb : Bel w w') (hx : SlCs 0 w'.heap.size w' x (clsSt ss)) => goodClauses_c l h _ _ v x ar (clsSt ss) 200 w' ha (by rw [clsSt_len]; exact hxl) hsum (hv.below hb) hx)
    rw [HE.out] at HD
    clear hsum hu hv HE h8 hxj
    have HB0 : Bel w (w.alloc (.cells #[v] 30)).drew := (Bel.alloc0 _ _).drew
    have hbox0 : (w.alloc (.cells #[v] 30)).drew.cell? ⟨w.heap.size, 0, none⟩ = some v := boxc ((Bel.rfl' _).drew) 0 _ rfl
    go_enter Try.func59, Try.ntmps59
    go_wp2_with fail
    go_region_held3 (fun w' => Bel w w' ∧ w'.cell? ⟨w.heap.size, 0, none⟩ = some v)
      (first | exact ⟨HB2, hbox2⟩ | exact ⟨HB1, hbox1⟩ | exact ⟨HB0, hbox0⟩ | fail)
      (first | (go_at_call 107; refine (HD.out _ _ HB1 hrow).mono ?_; rintro e w2 ⟨rfl, hb2⟩; have HB2 := HB1.step hb2; have hbox2 := hb2.at (World.block_lt_of_cell? _ ⟨_, _, none⟩ hbox1) hbox1) | (go_at_call 108; refine (HT.out _ HB0).mono ?_; rintro e w1 ⟨ad1, n1, c1, rfl, hrow, hb1⟩; have HB1 := HB0.step hb1; have hbox1 := hb1.at (World.block_lt_of_cell? _ ⟨_, _, none⟩ hbox0) hbox0) | fail)
    go_wp2_with fail
    go_ret
    exact ⟨rfl, HB2⟩
  · have hd : decide ((ss.length : Int) ≤ 200) = false := by rw [decide_eq_false]; omega
    have E := Lib.hid (goodSts_long (ar := ar) h8)
    clear h8
    go_enter Try.func59, Try.ntmps59
    go_wp2_with fail
    have hbox0 : (w.alloc (.cells #[v] 30)).drew.cell? ⟨w.heap.size, 0, none⟩ = some v := boxc ((Bel.rfl' _).drew) 0 _ rfl
    go_region
    all_goals
      go_wp2_with fail
      go_ret
      exact ⟨by rw [E.out]; rfl, (Bel.alloc0 _ _).drew⟩
theorem goodSteps_v {l h l' h' : Nat} {v u : Value} {ar : List Int} {ss : List Stp} {q : Bool} {w : World} (he : goodSts ar ss = q) (ha : ar.length ≤ 1048576) (hx : totSt ss ≤ 1048576) (hv : SlI l h w v ar) (hu : SlSt l' h' w u ss) :
    Calls Try.prog 59 #[.agg #[v], u] w (RetV w (.bool q)) := by subst he; exact goodSteps_c l h l' h' v u ar ss w ha hx hv hu
end Go.Proofs.Yteegjnobmbcjiaa
end
