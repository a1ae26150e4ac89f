/- The draws: a signature. -/
import Derived.Test.YtngdhpelnjckjaaDraw
namespace Go.Proofs.Ytngdhpelnjckjaa
open Go.RowKit

theorem three_free {b : Nat} {w w1 : World} {ca cb cc : Array Value} {ta tb tc : TypeId} (hbl : b < w.heap.size) (hg : Chg b (b+1) (((w.alloc (.cells ca ta)).alloc (.cells cb tb)).alloc (.cells cc tc)) w1) :
    w1.frozen? ⟨w.heap.size, 0, none⟩ = false ∧ w1.frozen? ⟨w.heap.size + 1 + 1, 0, none⟩ = false := by
  refine ⟨(World.frozen?_of_block (hg.block w.heap.size (by simp; omega) (by omega))).trans (by simp [go_sem]; try rfl), (World.frozen?_of_block (hg.block (w.heap.size + 1 + 1) (by simp) (by omega))).trans (by simp [go_sem]; try rfl)⟩

theorem Cur.chg {b n k lo hi : Nat} {w w' : World} (h : Cur b n k w) (c : Chg lo hi w w') (hd : b < lo) : Cur b n k w' := by
  obtain ⟨code, seed, hbs, hr, c0, c1, c2, cf⟩ := h
  exact ⟨code, seed, Nat.lt_of_lt_of_le hbs c.size, hr.chg c (Nat.le_of_lt hd), c.cell hbs (.inl hd) c0, c.cell hbs (.inl hd) c1, c.cell hbs (.inl hd) c2,
    fun j => (World.frozen?_of_block (w := w) (a := ⟨b, j, none⟩) (c.block b hbs (.inl hd))).trans (cf j)⟩
theorem Chg.news {l1 h1 lo hi : Nat} {w w1 w' : World} (h : Chg l1 h1 w w1) (c : Chg lo hi w1 w') (hd : w.heap.size ≤ lo) : Chg l1 h1 w w' :=
  ⟨c.os.trans h.os, c.tape.trans h.tape, c.output.trans h.output, Nat.le_trans h.size c.size, fun i hi' ho => (c.block i (Nat.lt_of_lt_of_le hi' h.size) (.inl (by omega))).trans (h.block i hi' ho)⟩
theorem SlI.arr {w : World} {xs : List Int} {arr : Array Value} {T : TypeId} {B lo hi : Nat} (h : arr.toList = xs.map (Value.int .i64)) (hB : B = w.heap.size) (hl : xs.length ≤ 100) (h1 : lo ≤ B) (h2 : B < hi) :
    SlI lo hi (w.alloc (.cells arr T)) (.slice (some ⟨B, 0, none⟩) xs.length xs.length) xs := by
  subst hB
  refine ⟨_, xs.length, rfl, Nat.le_refl _, ⟨by unfold maxLen; omega, fun h => by simp at h⟩, fun hp => ⟨w.heap.size, 0, rfl, h1, h2, fun j hj => ?_⟩⟩
  rw [World.cell?_alloc_new w, ← Array.getElem?_toList, h, Nat.zero_add]
  simp [hj]

set_option maxRecDepth 100000 in
set_option maxHeartbeats 400000 in
theorem sign_c (b n k : Nat) (w : World) (hn : n ≤ 1099511627776) (hk : k ≤ 1099511627775) (hc : Cur b n k w) :
    Calls Try.prog 85 #[.pointer (some ⟨b, 0, none⟩)] w (RetG b n k 2 w) := by
  have hbl := hc.lt
  have H := Lib.hid (fun w' (h : Bel w w') => pick_c b n k 40 40 w' rfl hn hk (by omega) (hc.below h))
  clear hn hk hc
  go_enter Try.func85, Try.ntmps85
  go_wp2_with fail
  go_at_call 102
  refine (H.out _ (Bel.alloc3 _ _ _ _)).mono ?_
  clear H
  rintro e w1 ⟨x, k1, rfl, hx, hs⟩
  clear hx
  generalize hzx : (x : Int) = z
  have hz0 : 0 ≤ z := by omega
  clear hzx
  have h3 := three hbl hs.2.2.2
  have hf3 := three_free hbl hs.2.2.2
  have hz : w.heap.size + 1 + 1 < w1.heap.size := by have := hs.2.2.2.size; simp at this; omega
  have HS := Lib.hid hs
  clear hs
  have hd1 := h3.1 0 _ rfl
  have hd2 := h3.2.2 0 _ rfl
  have hf1 := hf3.1
  have hf2 := hf3.2
  have H3 := Lib.hid h3
  clear h3 hf3
  generalize hg2 : w.heap.size + 1 + 1 = g2 at hd2 hf2 hz ⊢
  generalize hg1 : w.heap.size + 1 = g1 at hd2 ⊢
  generalize hg0 : w.heap.size = g0 at hd1 hf1 ⊢
  have hlt0 : g0 < w1.heap.size := by omega
  have hne : g0 ≠ g2 := by omega
  have hne2 : g2 ≠ g0 := by omega
  have HG := Lib.hid (And.intro hg0 (And.intro hg1 hg2))
  clear hg2 hg1 hg0
  have hcase : z = 0 ∨ z = 1 ∨ z = 2 ∨ 2 < z := by omega
  rcases hcase with rfl | rfl | rfl | hx
  · go_wp2_with fail
    obtain ⟨hg0, hg1, hg2⟩ := HG.out
    obtain ⟨hk1, hk2, hcur, hchg⟩ := HS.out
    have hset2 := fun u v => (Chg.set (lo := g0) (hi := g2+1) (p := ⟨g2, 0, none⟩) w1 (by simp; omega) (by simp) u).trans (Chg.set (lo := g0) (hi := g2+1) (p := ⟨g0, 0, none⟩) (w1.setCell ⟨g2, 0, none⟩ u) (by simp) (by simp; omega) v)
    have hset1 := fun v => Chg.set (lo := g0) (hi := g2+1) (p := ⟨g0, 0, none⟩) w1 (by simp) (by simp; omega) v
    have hch0 := (Chg.of_bel (lo := b) (hi := b+1) (Bel.alloc3 w _ _ _)).trans hchg
    have hd1b : (w1.setCell ⟨g2, 0, none⟩ (.slice (some ⟨w1.heap.size, 0, none⟩) 5 5)).cell? ⟨g0, 0, none⟩ = some _ := (World.cell?_setCell_other w1 ⟨g2, 0, none⟩ ⟨g0, 0, none⟩ _ (fun h => hne2 (congrArg Addr.block h))).trans hd1
    have hd1c : ((w1.setCell ⟨g2, 0, none⟩ (.slice (some ⟨w1.heap.size, 0, none⟩) 5 5)).setCell ⟨g0, 0, none⟩ (.slice (some ⟨w1.heap.size, 0, none⟩) 5 5)).cell? ⟨g0, 0, none⟩ = some (.slice (some ⟨w1.heap.size, 0, none⟩) 5 5) := World.cell?_setCell_same _ _ _ hd1b
    have hfin := fun o => (Bel.alloc0 ((w1.setCell ⟨g2, 0, none⟩ (.slice (some ⟨w1.heap.size, 0, none⟩) 5 5)).setCell ⟨g0, 0, none⟩ (.slice (some ⟨w1.heap.size, 0, none⟩) 5 5)) o).at (by simp; omega) hd1c
    refine bodyPost_ret (v := .agg #[.slice (some ⟨w1.heap.size, 0, none⟩) 5 5]) (by simp [results, Try.results85, go_sem, hfin]) rfl ⟨_, [0, 1, 2, 3, 0], k1, rfl, by simp [drawn], ?_, hk1, hk2, ?_, ?_⟩
    · exact SlI.arr (xs := [0, 1, 2, 3, 0]) rfl (by first | rfl | simp) (by first | decide | simp) (by first | omega | (simp; omega)) (by first | omega | simp | (simp; omega))
    · exact hcur.chg ((hset2 _ _).trans (Chg.of_bel (Bel.alloc0 _ _))) (by omega)
    · exact hch0.news ((hset2 _ _).trans (Chg.of_bel (Bel.alloc0 _ _))) (by omega)
  · go_wp2_with fail
    obtain ⟨hg0, hg1, hg2⟩ := HG.out
    obtain ⟨hk1, hk2, hcur, hchg⟩ := HS.out
    have hset2 := fun u v => (Chg.set (lo := g0) (hi := g2+1) (p := ⟨g2, 0, none⟩) w1 (by simp; omega) (by simp) u).trans (Chg.set (lo := g0) (hi := g2+1) (p := ⟨g0, 0, none⟩) (w1.setCell ⟨g2, 0, none⟩ u) (by simp) (by simp; omega) v)
    have hset1 := fun v => Chg.set (lo := g0) (hi := g2+1) (p := ⟨g0, 0, none⟩) w1 (by simp) (by simp; omega) v
    have hch0 := (Chg.of_bel (lo := b) (hi := b+1) (Bel.alloc3 w _ _ _)).trans hchg
    refine bodyPost_ret (v := .agg #[.slice none 0 0]) (by simp [results, Try.results85, go_sem, hd1, hd2, hne, hne2]) rfl ⟨_, [], k1, rfl, by simp [drawn], ?_, hk1, hk2, ?_, ?_⟩
    · exact SlI.nil _ _ _
    · exact hcur.chg (hset2 _ _) (by omega)
    · exact hch0.news (hset2 _ _) (by omega)
  · go_wp2_with fail
    obtain ⟨hg0, hg1, hg2⟩ := HG.out
    obtain ⟨hk1, hk2, hcur, hchg⟩ := HS.out
    have hset2 := fun u v => (Chg.set (lo := g0) (hi := g2+1) (p := ⟨g2, 0, none⟩) w1 (by simp; omega) (by simp) u).trans (Chg.set (lo := g0) (hi := g2+1) (p := ⟨g0, 0, none⟩) (w1.setCell ⟨g2, 0, none⟩ u) (by simp) (by simp; omega) v)
    have hset1 := fun v => Chg.set (lo := g0) (hi := g2+1) (p := ⟨g0, 0, none⟩) w1 (by simp) (by simp; omega) v
    have hch0 := (Chg.of_bel (lo := b) (hi := b+1) (Bel.alloc3 w _ _ _)).trans hchg
    have hd1b : (w1.setCell ⟨g2, 0, none⟩ (.slice (some ⟨w1.heap.size, 0, none⟩) 2 2)).cell? ⟨g0, 0, none⟩ = some _ := (World.cell?_setCell_other w1 ⟨g2, 0, none⟩ ⟨g0, 0, none⟩ _ (fun h => hne2 (congrArg Addr.block h))).trans hd1
    have hd1c : ((w1.setCell ⟨g2, 0, none⟩ (.slice (some ⟨w1.heap.size, 0, none⟩) 2 2)).setCell ⟨g0, 0, none⟩ (.slice (some ⟨w1.heap.size, 0, none⟩) 2 2)).cell? ⟨g0, 0, none⟩ = some (.slice (some ⟨w1.heap.size, 0, none⟩) 2 2) := World.cell?_setCell_same _ _ _ hd1b
    have hfin := fun o => (Bel.alloc0 ((w1.setCell ⟨g2, 0, none⟩ (.slice (some ⟨w1.heap.size, 0, none⟩) 2 2)).setCell ⟨g0, 0, none⟩ (.slice (some ⟨w1.heap.size, 0, none⟩) 2 2)) o).at (by simp; omega) hd1c
    refine bodyPost_ret (v := .agg #[.slice (some ⟨w1.heap.size, 0, none⟩) 2 2]) (by simp [results, Try.results85, go_sem, hfin]) rfl ⟨_, [1, 0], k1, rfl, by simp [drawn], ?_, hk1, hk2, ?_, ?_⟩
    · exact SlI.arr (xs := [1, 0]) rfl (by first | rfl | simp) (by first | decide | simp) (by first | omega | (simp; omega)) (by first | omega | simp | (simp; omega))
    · exact hcur.chg ((hset2 _ _).trans (Chg.of_bel (Bel.alloc0 _ _))) (by omega)
    · exact hch0.news ((hset2 _ _).trans (Chg.of_bel (Bel.alloc0 _ _))) (by omega)
  · go_wp2_with fail
    obtain ⟨hg0, hg1, hg2⟩ := HG.out
    obtain ⟨hk1, hk2, hcur, hchg⟩ := HS.out
    have hset2 := fun u v => (Chg.set (lo := g0) (hi := g2+1) (p := ⟨g2, 0, none⟩) w1 (by simp; omega) (by simp) u).trans (Chg.set (lo := g0) (hi := g2+1) (p := ⟨g0, 0, none⟩) (w1.setCell ⟨g2, 0, none⟩ u) (by simp) (by simp; omega) v)
    have hset1 := fun v => Chg.set (lo := g0) (hi := g2+1) (p := ⟨g0, 0, none⟩) w1 (by simp) (by simp; omega) v
    have hch0 := (Chg.of_bel (lo := b) (hi := b+1) (Bel.alloc3 w _ _ _)).trans hchg
    refine bodyPost_ret (v := .agg #[.slice (some ⟨g1, 0, none⟩) 6 6]) (by simp [results, Try.results85, go_sem, hd1, hd2, hne, hne2]) rfl ⟨_, [0, 0, 0, 1, 1, 2], k1, rfl, by simp [drawn], ?_, hk1, hk2, ?_, ?_⟩
    · refine ⟨_, 6, rfl, by simp, ⟨by unfold maxLen; omega, fun h => by simp at h⟩, fun _ => ⟨g1, 0, rfl, by omega, by simp; omega, fun j hj => ?_⟩⟩
      rw [World.cell?_setCell_other w1 ⟨g0, 0, none⟩ ⟨g1, 0 + j, none⟩ _ (fun h => (show g0 ≠ g1 by omega) (congrArg Addr.block h))]
      simp only [List.length_cons, List.length_nil] at hj
      have h6 := H3.out.2.1 j
      rw [hg1] at h6
      rw [Nat.zero_add]
      match j, hj with
      | 0, _ => exact h6 _ rfl
      | 1, _ => exact h6 _ rfl
      | 2, _ => exact h6 _ rfl
      | 3, _ => exact h6 _ rfl
      | 4, _ => exact h6 _ rfl
      | 5, _ => exact h6 _ rfl
    · exact hcur.chg (hset1 _) (by omega)
    · exact hch0.news (hset1 _) (by omega)
end Go.Proofs.Ytngdhpelnjckjaa
