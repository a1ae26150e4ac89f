/- Texts merged, part 8. -/
import Derived.Test.YtajmjjandkdhiabDoorRows
import Derived.ProofKit
import Derived.OpenShut
import Derived.ShutString
import Derived.ChangeOld
import Derived.Lib.SmallJoins
import Derived.Test.YtajmjjandkdhiabDoorProg
import Derived.Shelf.Sort.Plain
import Derived.KernelRfl
import Derived.Shelf.Slices.In.SortNone
import Derived.Sort.OwnSortedInts
import Derived.Maps.OwnSet
import Derived.Maps.RangeWalk
import Derived.Test.YtajmjjandkdhiabDoorMgOrder7
section
/- The arguments of a law, opened: slices of ints, a struct of one, strings, ints. -/
namespace Go.Proofs.YtajmjjandkdhiabDoor
open Go.ChangeShapes Go.WideShapes Go.ChangeAt Go.RowKit
open Go.ChangeMaps (open_string shut_string)
set_option linter.unusedVariables false
set_option maxRecDepth 100000

theorem Row.own : ownKnob Tryd.prog.godebug = none := by kernel_rfl
theorem Row.laidOut : laidOutB Tryd.prog = true := by kernel_rfl

/-- A slice of ints that came in. -/
theorem op_slI {H : Type} {enc : TypeId × Value → H} {W : World} {fuel : Nat} {v : Value} {x : DataW H × List MemPlace}
    (h : DataW.trod enc Tryd.prog W 0 (fun _ => true) true fuel 24 [v] = some x) :
    ∃ xs : List Int, xs.length ≤ 9223372036854775807 ∧ SlI 0 W.heap.size W v xs ∧ ∀ n ∈ xs, (Lit.int .i64 n).wf = true := by
  rcases open_ints Tryd.underlying24 Tryd.underlying3 (by kernel_rfl) h with ⟨hcs, _⟩ | ⟨a, l, c, zs, hcs, _, hl, hm, hz, _, hcell, hwz⟩
  · simp at hcs
    subst hcs
    exact ⟨[], by simp, SlI.nil _ _ _, by simp⟩
  · simp at hcs
    subst hcs
    have hz' : zs.length = c := by simpa using hz
    have hlen : (zs.take l).length = l := by simp; omega
    refine ⟨zs.take l, by rw [hlen]; have : maxLen = 9223372036854775807 := rfl; omega, ⟨some a, c, by rw [hlen], by rw [hlen]; exact hl, ⟨hm, fun h => by simp at h⟩, fun hp => ?_⟩, fun n hn => hwz n (List.mem_of_mem_take hn)⟩
    rw [hlen] at hp
    obtain ⟨b, off, spot⟩ := a
    have h0 := hcell 0 (by omega)
    have hspot : spot = none := by simpa [Addr.add] using World.cell?_spot h0
    subst hspot
    refine ⟨b, off, rfl, Nat.zero_le _, World.block_lt_of_cell? W ⟨b, off + 0, none⟩ h0, fun j hj => ?_⟩
    rw [hlen] at hj
    rw [← add_plain, hcell j (by omega)]
    simp [List.getD, hj]

theorem op_int {H : Type} {enc : TypeId × Value → H} {W : World} {v : Value} {d : DataW H} {p : List MemPlace} {base : Nat} (hv : Value.okWide Tryd.prog W .any base 3 v)
    (h : DataW.Trod enc Tryd.prog W 0 (fun _ => true) true 3 v d p) : ∃ n : Int, v = .int .i64 n ∧ -9223372036854775808 ≤ n ∧ n ≤ 9223372036854775807 := by
  obtain ⟨n, rfl, rfl, rfl, wf⟩ := open_int Tryd.underlying3 hv h
  have h1 : IntKind.i64.min = -9223372036854775808 := rfl
  have h2 : IntKind.i64.max = 9223372036854775807 := rfl
  simp only [Lit.wf, Bool.and_eq_true, decide_eq_true_eq] at wf
  exact ⟨n, rfl, by omega, by omega⟩

theorem op_ints {H : Type} {enc : TypeId × Value → H} {W : World} {v : Value} {d : DataW H} {p : List MemPlace} {base : Nat} (hv : Value.okWide Tryd.prog W .any base 24 v)
    (h : DataW.Trod enc Tryd.prog W 0 (fun _ => true) true 24 v d p) : ∃ xs : List Int, xs.length ≤ 9223372036854775807 ∧ SlI 0 W.heap.size W v xs ∧ ∀ n ∈ xs, (Lit.int .i64 n).wf = true := by
  obtain ⟨a, n, c, rfl⟩ := okWide_slice Tryd.underlying24 hv
  obtain ⟨fuel, hf⟩ := h
  exact op_slI (x := (d, p)) (by simpa [Value.cells] using hf)

theorem op_string {H : Type} {enc : TypeId × Value → H} {W : World} {v : Value} {d : DataW H} {p : List MemPlace} {base : Nat} (hv : Value.okWide Tryd.prog W .any base 9 v)
    (h : DataW.Trod enc Tryd.prog W 0 (fun _ => true) true 9 v d p) : ∃ s : ByteArray, v = .string s ∧ s.size ≤ 9223372036854775807 := by
  obtain ⟨s, rfl, rfl, rfl, hs⟩ := open_string Tryd.underlying9 hv h
  exact ⟨s, rfl, hs⟩

theorem op_lt {H : Type} {enc : TypeId × Value → H} {W : World} {t : TypeId} {v : Value} {d : DataW H} {p : List MemPlace}
    (h : DataW.Trod enc Tryd.prog W 0 (fun _ => true) true t v d p) : ∀ x ∈ p, x.block < W.heap.size := by
  obtain ⟨m, hm⟩ := h; exact DataW.trod_lt m _ _ _ hm

end Go.Proofs.YtajmjjandkdhiabDoor
end
section
/- Slices of bytes that came in. -/
namespace Go.Proofs.YtajmjjandkdhiabDoor
open Go.ChangeShapes Go.WideShapes Go.ChangeAt Go.RowKit

set_option maxRecDepth 100000 in
theorem op_bytes {H : Type} {enc : TypeId × Value → H} {W : World} {v : Value} {d : DataW H} {p : List MemPlace} {base : Nat} (hv : Value.okWide Tryd.prog W .any base 22 v)
    (h : DataW.Trod enc Tryd.prog W 0 (fun _ => true) true 22 v d p) : ∃ n : Nat, n ≤ 9223372036854775807 ∧ SlB W.heap.size W v n := by
  obtain ⟨a, n, c, rfl⟩ := okWide_slice Tryd.underlying22 hv
  obtain ⟨fuel, hf⟩ := h
  have hf2 : DataW.trod enc Tryd.prog W 0 (fun _ => true) true fuel 22 [.slice a n c] = some (d, p) := by simpa [Value.cells] using hf
  rcases open_ints Tryd.underlying22 Tryd.underlying5 (by kernel_rfl) hf2 with ⟨hcs, _⟩ | ⟨a', l, c', zs, hcs, _, hl, hm, hz, _, hcell, hwz⟩
  · simp at hcs
    obtain ⟨rfl, rfl, rfl⟩ := hcs
    exact ⟨0, by omega, none, 0, rfl, Nat.le_refl _, fun h => absurd h (by omega)⟩
  · simp at hcs
    obtain ⟨rfl, rfl, rfl⟩ := hcs
    have hz' : zs.length = c := by simpa using hz
    have hml : maxLen = 9223372036854775807 := rfl
    refine ⟨n, by omega, some a', c, rfl, hl, fun hp => ?_⟩
    obtain ⟨b, off, spot⟩ := a'
    have h0 := hcell 0 (by omega)
    have hspot : spot = none := by simpa [Addr.add] using World.cell?_spot h0
    subst hspot
    refine ⟨b, off, rfl, World.block_lt_of_cell? W ⟨b, off + 0, none⟩ h0, fun j hj => ?_⟩
    have hj2 : j < zs.length := by omega
    have hw := hwz (zs.getD j 0) (by rw [show zs.getD j 0 = zs[j] from by simp [List.getD, hj2]]; exact List.getElem_mem hj2)
    have h1 : IntKind.u8.min = 0 := rfl
    have h2 : IntKind.u8.max = 255 := rfl
    simp only [Lit.wf, Bool.and_eq_true, decide_eq_true_eq] at hw
    refine ⟨(zs.getD j 0).toNat, by omega, ?_⟩
    rw [← add_plain, hcell j (by omega)]
    congr 2
    omega
end Go.Proofs.YtajmjjandkdhiabDoor
end
section
/- A number of bytes. -/
namespace Go.Proofs.YtajmjjandkdhiabDoor
open Go.RowKit

def RetNum (w : World) (e : Ending) (w' : World) : Prop := ∃ x : Int, e = .returned (.int .i64 x) ∧ 0 ≤ x ∧ x < 1000003 ∧ Bel w w'
theorem numberOf_n (h n : Nat) (v : Value) (w : World) (hn : n ≤ 1048576) (hv : SlB h w v n) :
    Calls Tryd.prog 16 #[v] w (RetNum w) := by
  obtain ⟨ad, cap, rfl, -, hr⟩ := hv
  go_enter Tryd.func16, Tryd.ntmps16
  go_wp2_with fail
  go_loop [3, 8] (fun m i => ∃ (k : Nat) (x : Int), k ≤ n ∧ i = .int .i64 k ∧ m = .int .i64 x ∧ 0 ≤ x ∧ x < 1000003) (fun _ i => n - (intOf i).toNat)
  case atStart => exact ⟨0, 0, Nat.zero_le _, rfl, rfl, by omega, by omega⟩
  case round =>
    obtain ⟨k, x, hk, rfl, rfl, hx0, hx1⟩ := hrel
    by_cases hlt : k < n
    · obtain ⟨b, off, rfl, hb, hc⟩ := hr (by omega)
      have hcell := hc k hlt
      clear hr hc
      obtain ⟨y, hy, hcell⟩ := hcell
      have hw1 := IntWalk.i64_in (31 * x) (by omega)
      have hw2 := IntWalk.i64_in (y : Int) (by omega)
      have hw3 := IntWalk.i64_in (31 * x + (y : Int)) (by omega)
      have hy2 : (y : Int) < 256 := by omega
      go_wp2_with fail
      exact ⟨⟨k + 1, _, by omega, by go_num, rfl, by omega, by omega⟩, by simp [intOf]; omega⟩
    · go_wp2_with fail
      go_ret
      exact ⟨x, rfl, hx0, hx1, Bel.rfl' _⟩
end Go.Proofs.YtajmjjandkdhiabDoor
end
section
/- The draws: a signature. -/
namespace Go.Proofs.YtajmjjandkdhiabDoor
open Go.RowKit

theorem three_free {b : Nat} {w w1 : World} {ca cb cc : Array Value} {ta tb tc : TypeId} (hbl : b < w.heap.size) (hg : Chg b (b+1) (((w.alloc (.cells ca ta)).alloc (.cells cb tb)).alloc (.cells cc tc)) w1) :
    w1.frozen? ⟨w.heap.size, 0, none⟩ = false ∧ w1.frozen? ⟨w.heap.size + 1 + 1, 0, none⟩ = false := by
  refine ⟨(World.frozen?_of_block (hg.block w.heap.size (by simp; omega) (by omega))).trans (by simp [go_sem]; try rfl), (World.frozen?_of_block (hg.block (w.heap.size + 1 + 1) (by simp) (by omega))).trans (by simp [go_sem]; try rfl)⟩

theorem Cur.chg {b n k lo hi : Nat} {w w' : World} (h : Cur b n k w) (c : Chg lo hi w w') (hd : b < lo) : Cur b n k w' := by
  obtain ⟨code, seed, hbs, hr, c0, c1, c2, cf⟩ := h
  exact ⟨code, seed, Nat.lt_of_lt_of_le hbs c.size, hr.chg c (Nat.le_of_lt hd), c.cell hbs (.inl hd) c0, c.cell hbs (.inl hd) c1, c.cell hbs (.inl hd) c2,
    fun j => (World.frozen?_of_block (w := w) (a := ⟨b, j, none⟩) (c.block b hbs (.inl hd))).trans (cf j)⟩
theorem Chg.news {l1 h1 lo hi : Nat} {w w1 w' : World} (h : Chg l1 h1 w w1) (c : Chg lo hi w1 w') (hd : w.heap.size ≤ lo) : Chg l1 h1 w w' :=
  ⟨c.os.trans h.os, c.tape.trans h.tape, c.output.trans h.output, Nat.le_trans h.size c.size, fun i hi' ho => (c.block i (Nat.lt_of_lt_of_le hi' h.size) (.inl (by omega))).trans (h.block i hi' ho)⟩
theorem SlI.arr {w : World} {xs : List Int} {arr : Array Value} {T : TypeId} {B lo hi : Nat} (h : arr.toList = xs.map (Value.int .i64)) (hB : B = w.heap.size) (hl : xs.length ≤ 100) (h1 : lo ≤ B) (h2 : B < hi) :
    SlI lo hi (w.alloc (.cells arr T)) (.slice (some ⟨B, 0, none⟩) xs.length xs.length) xs := by
  subst hB
  refine ⟨_, xs.length, rfl, Nat.le_refl _, ⟨by unfold maxLen; omega, fun h => by simp at h⟩, fun hp => ⟨w.heap.size, 0, rfl, h1, h2, fun j hj => ?_⟩⟩
  rw [World.cell?_alloc_new w, ← Array.getElem?_toList, h, Nat.zero_add]
  simp [hj]

set_option maxRecDepth 100000 in
set_option maxHeartbeats 400000 in
theorem sign_c (b n k : Nat) (w : World) (hn : n ≤ 1099511627776) (hk : k ≤ 1099511627775) (hc : Cur b n k w) :
    Calls Tryd.prog 19 #[.pointer (some ⟨b, 0, none⟩)] w (RetG b n k 2 w) := by
  have hbl := hc.lt
  have H := Lib.hid (fun w' (h : Bel w w') => pick_c b n k 40 40 w' rfl hn hk (by omega) (hc.below h))
  clear hn hk hc
  go_enter Tryd.func19, Tryd.ntmps19
  go_wp2_with fail
  go_at_call 21
  refine (H.out _ (Bel.alloc3 _ _ _ _)).mono ?_
  clear H
  rintro e w1 ⟨x, k1, rfl, hx, hs⟩
  clear hx
  generalize hzx : (x : Int) = z
  have hz0 : 0 ≤ z := by omega
  clear hzx
  have h3 := three hbl hs.2.2.2
  have hf3 := three_free hbl hs.2.2.2
  have hz : w.heap.size + 1 + 1 < w1.heap.size := by have := hs.2.2.2.size; simp at this; omega
  have HS := Lib.hid hs
  clear hs
  have hd1 := h3.1 0 _ rfl
  have hd2 := h3.2.2 0 _ rfl
  have hf1 := hf3.1
  have hf2 := hf3.2
  have H3 := Lib.hid h3
  clear h3 hf3
  generalize hg2 : w.heap.size + 1 + 1 = g2 at hd2 hf2 hz ⊢
  generalize hg1 : w.heap.size + 1 = g1 at hd2 ⊢
  generalize hg0 : w.heap.size = g0 at hd1 hf1 ⊢
  have hlt0 : g0 < w1.heap.size := by omega
  have hne : g0 ≠ g2 := by omega
  have hne2 : g2 ≠ g0 := by omega
  have HG := Lib.hid (And.intro hg0 (And.intro hg1 hg2))
  clear hg2 hg1 hg0
  have hcase : z = 0 ∨ z = 1 ∨ z = 2 ∨ 2 < z := by omega
  rcases hcase with rfl | rfl | rfl | hx
  · go_wp2_with fail
    obtain ⟨hg0, hg1, hg2⟩ := HG.out
    obtain ⟨hk1, hk2, hcur, hchg⟩ := HS.out
    have hset2 := fun u v => (Chg.set (lo := g0) (hi := g2+1) (p := ⟨g2, 0, none⟩) w1 (by simp; omega) (by simp) u).trans (Chg.set (lo := g0) (hi := g2+1) (p := ⟨g0, 0, none⟩) (w1.setCell ⟨g2, 0, none⟩ u) (by simp) (by simp; omega) v)
    have hset1 := fun v => Chg.set (lo := g0) (hi := g2+1) (p := ⟨g0, 0, none⟩) w1 (by simp) (by simp; omega) v
    have hch0 := (Chg.of_bel (lo := b) (hi := b+1) (Bel.alloc3 w _ _ _)).trans hchg
    have hd1b : (w1.setCell ⟨g2, 0, none⟩ (.slice (some ⟨w1.heap.size, 0, none⟩) 5 5)).cell? ⟨g0, 0, none⟩ = some _ := (World.cell?_setCell_other w1 ⟨g2, 0, none⟩ ⟨g0, 0, none⟩ _ (fun h => hne2 (congrArg Addr.block h))).trans hd1
    have hd1c : ((w1.setCell ⟨g2, 0, none⟩ (.slice (some ⟨w1.heap.size, 0, none⟩) 5 5)).setCell ⟨g0, 0, none⟩ (.slice (some ⟨w1.heap.size, 0, none⟩) 5 5)).cell? ⟨g0, 0, none⟩ = some (.slice (some ⟨w1.heap.size, 0, none⟩) 5 5) := World.cell?_setCell_same _ _ _ hd1b
    have hfin := fun o => (Bel.alloc0 ((w1.setCell ⟨g2, 0, none⟩ (.slice (some ⟨w1.heap.size, 0, none⟩) 5 5)).setCell ⟨g0, 0, none⟩ (.slice (some ⟨w1.heap.size, 0, none⟩) 5 5)) o).at (by simp; omega) hd1c
    refine bodyPost_ret (v := .agg #[.slice (some ⟨w1.heap.size, 0, none⟩) 5 5]) (by simp [results, Tryd.results19, go_sem, hfin]) rfl ⟨_, [0, 1, 2, 3, 0], k1, rfl, by simp [drawn], ?_, hk1, hk2, ?_, ?_⟩
    · exact SlI.arr (xs := [0, 1, 2, 3, 0]) rfl (by first | rfl | simp) (by first | decide | simp) (by first | omega | (simp; omega)) (by first | omega | simp | (simp; omega))
    · exact hcur.chg ((hset2 _ _).trans (Chg.of_bel (Bel.alloc0 _ _))) (by omega)
    · exact hch0.news ((hset2 _ _).trans (Chg.of_bel (Bel.alloc0 _ _))) (by omega)
  · go_wp2_with fail
    obtain ⟨hg0, hg1, hg2⟩ := HG.out
    obtain ⟨hk1, hk2, hcur, hchg⟩ := HS.out
    have hset2 := fun u v => (Chg.set (lo := g0) (hi := g2+1) (p := ⟨g2, 0, none⟩) w1 (by simp; omega) (by simp) u).trans (Chg.set (lo := g0) (hi := g2+1) (p := ⟨g0, 0, none⟩) (w1.setCell ⟨g2, 0, none⟩ u) (by simp) (by simp; omega) v)
    have hset1 := fun v => Chg.set (lo := g0) (hi := g2+1) (p := ⟨g0, 0, none⟩) w1 (by simp) (by simp; omega) v
    have hch0 := (Chg.of_bel (lo := b) (hi := b+1) (Bel.alloc3 w _ _ _)).trans hchg
    refine bodyPost_ret (v := .agg #[.slice none 0 0]) (by simp [results, Tryd.results19, go_sem, hd1, hd2, hne, hne2]) rfl ⟨_, [], k1, rfl, by simp [drawn], ?_, hk1, hk2, ?_, ?_⟩
    · exact SlI.nil _ _ _
    · exact hcur.chg (hset2 _ _) (by omega)
    · exact hch0.news (hset2 _ _) (by omega)
  · go_wp2_with fail
    obtain ⟨hg0, hg1, hg2⟩ := HG.out
    obtain ⟨hk1, hk2, hcur, hchg⟩ := HS.out
    have hset2 := fun u v => (Chg.set (lo := g0) (hi := g2+1) (p := ⟨g2, 0, none⟩) w1 (by simp; omega) (by simp) u).trans (Chg.set (lo := g0) (hi := g2+1) (p := ⟨g0, 0, none⟩) (w1.setCell ⟨g2, 0, none⟩ u) (by simp) (by simp; omega) v)
    have hset1 := fun v => Chg.set (lo := g0) (hi := g2+1) (p := ⟨g0, 0, none⟩) w1 (by simp) (by simp; omega) v
    have hch0 := (Chg.of_bel (lo := b) (hi := b+1) (Bel.alloc3 w _ _ _)).trans hchg
    have hd1b : (w1.setCell ⟨g2, 0, none⟩ (.slice (some ⟨w1.heap.size, 0, none⟩) 2 2)).cell? ⟨g0, 0, none⟩ = some _ := (World.cell?_setCell_other w1 ⟨g2, 0, none⟩ ⟨g0, 0, none⟩ _ (fun h => hne2 (congrArg Addr.block h))).trans hd1
    have hd1c : ((w1.setCell ⟨g2, 0, none⟩ (.slice (some ⟨w1.heap.size, 0, none⟩) 2 2)).setCell ⟨g0, 0, none⟩ (.slice (some ⟨w1.heap.size, 0, none⟩) 2 2)).cell? ⟨g0, 0, none⟩ = some (.slice (some ⟨w1.heap.size, 0, none⟩) 2 2) := World.cell?_setCell_same _ _ _ hd1b
    have hfin := fun o => (Bel.alloc0 ((w1.setCell ⟨g2, 0, none⟩ (.slice (some ⟨w1.heap.size, 0, none⟩) 2 2)).setCell ⟨g0, 0, none⟩ (.slice (some ⟨w1.heap.size, 0, none⟩) 2 2)) o).at (by simp; omega) hd1c
    refine bodyPost_ret (v := .agg #[.slice (some ⟨w1.heap.size, 0, none⟩) 2 2]) (by simp [results, Tryd.results19, go_sem, hfin]) rfl ⟨_, [1, 0], k1, rfl, by simp [drawn], ?_, hk1, hk2, ?_, ?_⟩
    · exact SlI.arr (xs := [1, 0]) rfl (by first | rfl | simp) (by first | decide | simp) (by first | omega | (simp; omega)) (by first | omega | simp | (simp; omega))
    · exact hcur.chg ((hset2 _ _).trans (Chg.of_bel (Bel.alloc0 _ _))) (by omega)
    · exact hch0.news ((hset2 _ _).trans (Chg.of_bel (Bel.alloc0 _ _))) (by omega)
  · go_wp2_with fail
    obtain ⟨hg0, hg1, hg2⟩ := HG.out
    obtain ⟨hk1, hk2, hcur, hchg⟩ := HS.out
    have hset2 := fun u v => (Chg.set (lo := g0) (hi := g2+1) (p := ⟨g2, 0, none⟩) w1 (by simp; omega) (by simp) u).trans (Chg.set (lo := g0) (hi := g2+1) (p := ⟨g0, 0, none⟩) (w1.setCell ⟨g2, 0, none⟩ u) (by simp) (by simp; omega) v)
    have hset1 := fun v => Chg.set (lo := g0) (hi := g2+1) (p := ⟨g0, 0, none⟩) w1 (by simp) (by simp; omega) v
    have hch0 := (Chg.of_bel (lo := b) (hi := b+1) (Bel.alloc3 w _ _ _)).trans hchg
    refine bodyPost_ret (v := .agg #[.slice (some ⟨g1, 0, none⟩) 6 6]) (by simp [results, Tryd.results19, go_sem, hd1, hd2, hne, hne2]) rfl ⟨_, [0, 0, 0, 1, 1, 2], k1, rfl, by simp [drawn], ?_, hk1, hk2, ?_, ?_⟩
    · refine ⟨_, 6, rfl, by simp, ⟨by unfold maxLen; omega, fun h => by simp at h⟩, fun _ => ⟨g1, 0, rfl, by omega, by simp; omega, fun j hj => ?_⟩⟩
      rw [World.cell?_setCell_other w1 ⟨g0, 0, none⟩ ⟨g1, 0 + j, none⟩ _ (fun h => (show g0 ≠ g1 by omega) (congrArg Addr.block h))]
      simp only [List.length_cons, List.length_nil] at hj
      have h6 := H3.out.2.1 j
      rw [hg1] at h6
      rw [Nat.zero_add]
      match j, hj with
      | 0, _ => exact h6 _ rfl
      | 1, _ => exact h6 _ rfl
      | 2, _ => exact h6 _ rfl
      | 3, _ => exact h6 _ rfl
      | 4, _ => exact h6 _ rfl
      | 5, _ => exact h6 _ rfl
    · exact hcur.chg (hset1 _) (by omega)
    · exact hch0.news (hset1 _) (by omega)
end Go.Proofs.YtajmjjandkdhiabDoor
end
section
/- slices.Sort at []int: the library's contract laid at this program (which functions and types stand for which). -/
namespace Go.Proofs.YtajmjjandkdhiabDoor
open Go.Shelf
end Go.Proofs.YtajmjjandkdhiabDoor
end
section
/- Maps from variables to terms: what they hold, by variable; the library's sort; the variables of a map. -/
namespace Go.Proofs.YtajmjjandkdhiabDoor
open Go.RowKit Go.Maps

/-- An element reads as itself. -/
def rawE : Value → Option (DataW Value × List MemPlace) := fun v => some (.held v, [])
theorem keyInt : Keyed Tryd.prog 3 := int_keyed Tryd.underlying3
abbrev kv (v : Nat) : Lit := .int .i64 v
theorem kv_inj {u v : Nat} (h : kv u = kv v) : u = v := by simp [kv] at h; omega
theorem kv_ne {u v : Nat} (h : u ≠ v) : kv u ≠ kv v := fun e => h (kv_inj e)
theorem kv_wf {v : Nat} (h : v < 12) : (Lit.int .i64 (v : Int)).wf = true := by
  simp only [Lit.wf, Bool.and_eq_true, decide_eq_true_eq]
  have h1 : IntKind.i64.min = -9223372036854775808 := rfl
  have h2 : IntKind.i64.max = 9223372036854775807 := rfl
  omega
theorem kv_key {v : Nat} (h : v < 12) : keyOf Tryd.prog 3 (.int .i64 (v : Int)) = some (kv v) := keyOf_int_mk Tryd.underlying3 (kv_wf h)
theorem kv_lit {v : Nat} (h : v < 12) : WideAt.IsKeyLit (kv v) := keyInt.key (kv_key h)
theorem zeroI (w : World) : (zeroValue 24).run Tryd.prog w = .ok (.slice none 0 0) w := by kernel_rfl
/-- The datum D holds f at the twelve variables, and nothing else. -/
structure KeyAt (D : DataW Value) (f : Nat → Option Value) : Prop where
  has : ∀ v, v < 12 → Maps.has D (kv v) = (f v).isSome
  at' : ∀ v u, v < 12 → f v = some u → ∀ z, D.atKey (kv v) z = .held u
  only : ∀ kl, Maps.has D kl = true → ∃ v, v < 12 ∧ kl = kv v
theorem KeyAt.empty : KeyAt (.map []) (fun _ => none) := ⟨fun _ _ => rfl, fun _ _ _ h => by simp at h, fun kl h => by simp [Maps.has] at h⟩
theorem KeyAt.put {D : DataW Value} {f : Nat → Option Value} (h : KeyAt D f) (hD : IsMap D) {v : Nat} (hv : v < 12) (u : Value) : KeyAt (D.put (kv v) (.held u)) (fun i => if i = v then some u else f i) := by
  refine ⟨fun i hi => ?_, fun i x hi hx z => ?_, fun kl hk => ?_⟩
  · by_cases e : i = v
    · subst e; rw [has_put_same hD (kv_lit hi)]; simp
    · rw [has_put_other (kv_ne e), h.has i hi]; simp [e]
  · by_cases e : i = v
    · subst e
      simp only [if_true, Option.some.injEq] at hx
      subst hx
      exact atKey_put_same hD (kv_lit hi) _ _
    · simp only [e, if_false] at hx
      rw [atKey_put_other (kv_ne e)]; exact h.at' i x hi hx z
  · by_cases e : kl = kv v
    · exact ⟨v, hv, e⟩
    · rw [has_put_other e] at hk; exact h.only kl hk
theorem KeyAt.del {D : DataW Value} {f : Nat → Option Value} (h : KeyAt D f) (v : Nat) : KeyAt (D.del (kv v)) (fun i => if i = v then none else f i) := by
  refine ⟨fun i hi => ?_, fun i x hi hx z => ?_, fun kl hk => ?_⟩
  · by_cases e : i = v
    · subst e; rw [has_del_same]; simp
    · rw [has_del_other (kv_ne e), h.has i hi]; simp [e]
  · by_cases e : i = v
    · subst e; simp at hx
    · simp only [e, if_false] at hx
      rw [atKey_del_other (kv_ne e)]; exact h.at' i x hi hx z
  · by_cases e : kl = kv v
    · subst e; rw [has_del_same] at hk; simp at hk
    · rw [has_del_other e] at hk; exact h.only kl hk
theorem KeyAt.at0 {D : DataW Value} {f : Nat → Option Value} (h : KeyAt D f) {v : Nat} (hv : v < 12) : D.atKey (kv v) (.held (.slice none 0 0)) = .held ((f v).getD (.slice none 0 0)) := by
  cases e : f v with
  | none => exact atKey_of_not_has (by rw [h.has v hv, e]; rfl) _
  | some u => exact h.at' v u hv e _

/-- Block b is a map that holds f; at most m stores went into it. -/
def MapV (w : World) (b m : Nat) (f : Nat → Option Value) : Prop := ∃ n D, n ≤ m ∧ w.ownsMap Tryd.prog 3 rawE b n D ∧ KeyAt D f
theorem MapV.made (w : World) : MapV (w.alloc (.map #[] 0)) w.heap.size 0 (fun _ => none) := ⟨0, .map [], Nat.le_refl _, World.ownsMap_made _ _ _ _, KeyAt.empty⟩
theorem MapV.kept {w w' : World} {b m : Nat} {f : Nat → Option Value} {row : Option Nat} (h : MapV w b m f) (hg : w.grownBy w' row) (hne : some b ≠ row) : MapV w' b m f := by
  obtain ⟨n, D, hn, ho, hk⟩ := h
  exact ⟨n, D, hn, ho.kept hg hne, hk⟩
theorem grown_of_bel {w w' : World} (h : Bel w w') : w.grownBy w' none := ⟨h.os, h.tape, h.output, h.size, fun k hk _ => h.block k hk⟩
theorem MapV.bel {w w' : World} {b m : Nat} {f : Nat → Option Value} (h : MapV w b m f) (hb : Bel w w') : MapV w' b m f := h.kept (grown_of_bel hb) (by simp)
theorem MapV.lt {w : World} {b m : Nat} {f : Nat → Option Value} (h : MapV w b m f) : b < w.heap.size := by obtain ⟨n, D, _, ho, _⟩ := h; exact ho.lt
theorem MapV.mono {w : World} {b m m' : Nat} {f : Nat → Option Value} (h : MapV w b m f) (hm : m ≤ m') : MapV w b m' f := by obtain ⟨n, D, hn, ho, hk⟩ := h; exact ⟨n, D, by omega, ho, hk⟩
theorem same_kv (u v : Nat) : (kv u).sameKey (kv v) = decide (u = v) := by
  by_cases h : u = v
  · subst h
    have : (kv u).sameKey (kv u) = true := by simp [Lit.sameKey]
    simpa using this
  · rw [sameKey_ne (kv_ne h)]; simp [h]
def castL (l : List Nat) : List Int := l.map fun (n : Nat) => (n : Int)
theorem castL_snoc (l : List Nat) (v : Nat) : castL (l ++ [v]) = castL l ++ [(v : Int)] := by simp [castL]
theorem mem_castL {l : List Nat} {x : Int} : x ∈ castL l ↔ ∃ v ∈ l, (v : Int) = x := by simp [castL]
theorem lenN : ∀ (n : Nat) (l : List Nat), l.Nodup → (∀ v ∈ l, v < n) → l.length ≤ n := by
  intro n
  induction n with
  | zero =>
    intro l _ h
    cases l with
    | nil => simp
    | cons x r => exact absurd (h x List.mem_cons_self) (by omega)
  | succ n ih =>
    intro l hd h
    by_cases hm : n ∈ l
    · have := ih (l.erase n) (hd.erase n) (fun v hv => by
        have h1 := (List.Nodup.mem_erase_iff hd).1 hv
        have := h v h1.2
        omega)
      rw [List.length_erase_of_mem hm] at this
      omega
    · have := ih l hd (fun v hv => by
        have := h v hv
        have : v ≠ n := fun e => hm (e ▸ hv)
        omega)
      omega
/-- Twelve at most. -/
theorem len12 {l : List Nat} (h : l.Nodup) (h12 : ∀ v ∈ l, v < 12) : l.length ≤ 12 := lenN 12 l h h12
end Go.Proofs.YtajmjjandkdhiabDoor
end
section
/- The variables of a map of bindings. -/
namespace Go.Proofs.YtajmjjandkdhiabDoor
open Go.RowKit Go.Maps

/-- The collected ones, while the loop is under way. -/
structure Coll (D : DataW Value) (left : Lit → Bool) (acc : List Nat) : Prop where
  nodup : acc.Nodup
  mem : ∀ v, v ∈ acc ↔ v < 12 ∧ Maps.has D (kv v) = true ∧ left (kv v) = false
  sub : ∀ kl, left kl = true → Maps.has D kl = true
theorem Coll.start (D : DataW Value) : Coll D (Maps.has D) [] := ⟨List.nodup_nil, fun v => by simp, fun _ h => h⟩
theorem Coll.step {D : DataW Value} {left : Lit → Bool} {acc : List Nat} {v : Nat} (h : Coll D left acc) (hv : v < 12) (hl : left (kv v) = true) : Coll D (fun z => left z && !z.sameKey (kv v)) (acc ++ [v]) := by
  refine ⟨?_, fun u => ?_, fun kl hk => h.sub kl (by simp at hk; exact hk.1)⟩
  · rw [List.nodup_append]
    refine ⟨h.nodup, by simp, fun a ha b hb => ?_⟩
    simp at hb
    subst hb
    intro e
    subst e
    have := ((h.mem a).1 ha).2.2
    rw [hl] at this; simp at this
  · rw [List.mem_append, List.mem_singleton, h.mem u]
    simp only [same_kv]
    by_cases e : u = v
    · subst e; simp [hv, h.sub _ hl]
    · simp [e]
def RetVars (f : Nat → Option Value) (w : World) (e : Ending) (w' : World) : Prop :=
  ∃ ad n c, ∃ ys : List Int, e = .returned (.slice ad n c) ∧ OwnI w.heap.size w'.heap.size w' (.slice ad n c) ys ∧ ys.length ≤ 12 ∧ ys.Nodup ∧ (∀ y ∈ ys, ∃ v : Nat, v < 12 ∧ y = v) ∧ (∀ v : Nat, v < 12 → ((v : Int) ∈ ys ↔ (f v).isSome = true)) ∧ Bel w w'

end Go.Proofs.YtajmjjandkdhiabDoor
end
section
/- A map of bindings as a substitution. -/
namespace Go.Proofs.YtajmjjandkdhiabDoor
open Go.RowKit Go.Maps

/-- A slice does not lie in a map's block. -/
theorem SlI.chgMap {lo hi : Nat} {w w' : World} {v : Value} {xs : List Int} {b m : Nat} {f : Nat → Option Value} (h : SlI lo hi w v xs) (hM : MapV w b m f) (k : Chg b (b+1) w w') : SlI lo hi w' v xs := by
  obtain ⟨ad, cap, rfl, hc, hm, hr⟩ := h
  refine ⟨ad, cap, rfl, hc, hm, fun hp => ?_⟩
  obtain ⟨b0, off, e, a1, a2, a3⟩ := hr hp
  have hne : b0 ≠ b := by
    intro e0
    subst e0
    obtain ⟨n, D, _, ⟨es, clock, hb, _⟩, _⟩ := hM
    have := a3 0 hp
    simp [World.cell?, hb] at this
  exact ⟨b0, off, e, a1, a2, fun j hj => k.cell (World.block_lt_of_cell? w ⟨b0, off + j, none⟩ (a3 j hj)) (by omega) (a3 j hj)⟩
theorem MapV.row_ne {w : World} {b m : Nat} {f : Nat → Option Value} (h : MapV w b m f) {base : Nat} {tag : Nat → Nat} {t : Nat} {e : TypeId} {v : Value} {xs : List Value} (ho : OwnT base tag t e w v xs) (hb : b < base) : some b ≠ v.ownBlock := by
  intro e
  have := own_base ho.1 b e.symm
  omega
theorem OwnT.chgMap {w w' : World} {b : Nat} {base : Nat} {tag : Nat → Nat} {t : Nat} {e : TypeId} {v : Value} {xs : List Value} (ho : OwnT base tag t e w v xs) (hb : b < base) (k : Chg b (b+1) w w') : OwnT base tag t e w' v xs := by
  refine ⟨⟨ho.1.1, ?_⟩, ho.2⟩
  rcases ho.1.2 with h0 | ⟨g, cap, cur, e1, e2, hh, r⟩
  · exact .inl h0
  · exact .inr ⟨g, cap, cur, e1, e2, by rw [k.block g (Array.getElem?_eq_some_iff.1 hh).1 (by omega)]; exact hh, r⟩
theorem chg_of_grown {w w' : World} {b : Nat} (h : w.grownBy w' (some b)) : Chg b (b+1) w w' := ⟨h.os, h.tape, h.output, h.size, fun k hk ho => h.block k hk (by simp; omega)⟩
/-- A new row at index v, where there was none. -/
theorem InT.put {base : Nat} {tag tag' : Nat → Nat} {ei : TypeId} {w w' : World} {us : List Value} {xss : List (List Int)} {u : Value} {xs : List Int} (h : InT base tag ei w us xss) (v : Nat) (hv : v < us.length)
    (hall : ∀ t' e' u zs, OwnT base tag t' e' w u zs → OwnT base tag' t' e' w' u zs) (hu : OwnT base tag' (10 + v) ei w' u (xs.map (Value.int .i64))) : InT base tag' ei w' (us.set v u) (xss.set v xs) := by
  refine ⟨by simp [h.1], fun j x hj => ?_⟩
  by_cases e : j = v
  · subst e
    rw [List.getElem?_set_self hv] at hj
    simp at hj
    subst hj
    rw [show (xss.set j xs).getD j [] = xs from by simp [List.getD, show j < xss.length by rw [← h.1]; exact hv]]
    exact hu
  · rw [List.getElem?_set_ne (Ne.symm e)] at hj
    rw [show (xss.set v xs).getD j [] = xss.getD j [] from by simp [List.getD, List.getElem?_set_ne (Ne.symm e)]]
    exact hall _ _ _ _ (h.2 j x hj)

theorem getD_rep (n j : Nat) : (List.replicate n ([] : List Int)).getD j [] = [] := by simp only [List.getD, List.getElem?_replicate]; split <;> rfl
theorem Chg.setNew {lo hi : Nat} {w w' : World} (h : Chg lo hi w w') {p : Addr} (hp : w.heap.size ≤ p.block) (u : Value) : Chg lo hi w (w'.setCell p u) :=
  ⟨h.os, h.tape, h.output, by simpa using h.size, fun b hb ho => (Below.heap_setCell w' p u b (by omega)).trans (h.block b hb ho)⟩
theorem MapV.set {w : World} {b m : Nat} {f : Nat → Option Value} (h : MapV w b m f) {p : Addr} (hp : b ≠ p.block) (u : Value) : MapV (w.setCell p u) b m f := by
  obtain ⟨n, D, hn, ho, hk⟩ := h
  exact ⟨n, D, hn, ho.setCell hp u, hk⟩
theorem SlI.lit {w : World} (x : Int) (T : TypeId) : SlI w.heap.size (w.heap.size + 1) (w.alloc (.cells #[.int .i64 x] T)) (.slice (some ⟨w.heap.size, 0, none⟩) 1 1) [x] := by
  refine ⟨_, 1, rfl, Nat.le_refl _, ⟨by unfold maxLen; omega, fun h => by simp at h⟩, fun _ => ⟨w.heap.size, 0, rfl, Nat.le_refl _, Nat.lt_succ_self _, fun j hj => ?_⟩⟩
  obtain rfl : j = 0 := by simp at hj; omega
  rw [World.cell?_alloc_new w]; rfl
/-- What a substitution holds for v. -/
def stayF (F : Nat → List Int) (v : Nat) : List Int := if F v = [-1 - (v : Int)] then [] else F v
def substL (F : Nat → List Int) : List (List Int) := (List.range 12).map (stayF F)
/-- .. after some of the variables. -/
def partL (F : Nat → List Int) (ys : List Int) : List (List Int) := (List.range 12).map fun (v : Nat) => if (v : Int) ∈ ys then stayF F v else []
theorem partL_nil (F : Nat → List Int) : partL F [] = List.replicate 12 [] := by simp [partL, List.range_succ, List.replicate]
theorem partL_len (F : Nat → List Int) (ys : List Int) : (partL F ys).length = 12 := by simp [partL]
theorem partL_snoc (F : Nat → List Int) (ys : List Int) (v : Nat) (hv : v < 12) : (partL F ys).set v (stayF F v) = partL F (ys ++ [(v : Int)]) := by
  apply List.ext_getElem?
  intro i
  rw [List.getElem?_set]
  unfold partL
  by_cases e : v = i
  · subst e; simp [hv]
  · by_cases hi : i < 12
    · have h1 : (List.range 12)[i]? = some i := by simp [hi]
      have e2 : ¬ (i : Int) = (v : Int) := by omega
      rw [if_neg e, List.getElem?_map, List.getElem?_map, h1]
      simp only [Option.map_some, List.mem_append, List.mem_singleton, e2, or_false]
    · rw [if_neg e, List.getElem?_eq_none (by simp; omega), List.getElem?_eq_none (by simp; omega)]
theorem partL_all (F : Nat → List Int) (ys : List Int) (h : ∀ v : Nat, v < 12 → (v : Int) ∉ ys → F v = []) : partL F ys = substL F := by
  unfold partL substL
  apply List.map_congr_left
  intro v hv
  rw [List.mem_range] at hv
  by_cases hm : (v : Int) ∈ ys
  · rw [if_pos hm]
  · rw [if_neg hm]; unfold stayF; rw [h v hv hm]; simp
def RetSub (F : Nat → List Int) (b : Nat) (w : World) (e : Ending) (w' : World) : Prop :=
  ∃ ad n c, e = .returned (.slice ad n c) ∧ OwnS w.heap.size w'.heap.size w' (.slice ad n c) (substL F) ∧ Chg b (b+1) w w'

end Go.Proofs.YtajmjjandkdhiabDoor
end
section
/- Compose: what is put together. -/
namespace Go.Proofs.YtajmjjandkdhiabDoor
open Go.RowKit

theorem ok_var (ar : List Int) (v : Nat) (hv : v < 12) : okTerm ar [-1 - (v : Int)] = true := by
  have hs : okSym ar (-1 - (v : Int)) = true := by simp [okSym, inB]; omega
  rw [okTerm_iff]
  refine ⟨by simp, by simp, ?_⟩
  unfold endOf
  rw [List.drop_zero, endGo_cons, if_pos hs, arOf_neg (by omega)]
  rfl
def compT (a : List (List Int)) (v : Nat) : List Int := if 0 < (a.getD v []).length then a.getD v [] else [-1 - (v : Int)]
def compF (a b : List (List Int)) (v : Nat) : List Int := appT b (compT a v)
theorem compT_pos {a : List (List Int)} {v : Nat} (h : 0 < (a.getD v []).length) : compT a v = a.getD v [] := by unfold compT; rw [if_pos h]
theorem compT_zero {a : List (List Int)} {v : Nat} (h : ¬ 0 < (a.getD v []).length) : compT a v = [-1 - (v : Int)] := by unfold compT; rw [if_neg h]
theorem compT_ok {ar : List Int} {a : List (List Int)} (h : goodSubst ar a = true) (v : Nat) (hv : v < 12) : okTerm ar (compT a v) = true := by
  by_cases hp : 0 < (a.getD v []).length
  · rw [compT_pos hp]; exact okEmpty_get (goodSubst_iff.1 h).2.2 v hp
  · rw [compT_zero hp]; exact ok_var ar v hv
def composeOk (ar : List Int) (a b : List (List Int)) : Bool := goodSubst ar a && goodSubst ar b && (List.range 12).all (fun v => app40ok b (compT a v))
def composeAns (ar : List Int) (a b : List (List Int)) : List (List Int) := if composeOk ar a b then substL (compF a b) else []
theorem composeAns_no {ar : List Int} {a b : List (List Int)} (h : composeOk ar a b = false) : composeAns ar a b = [] := by simp [composeAns, h]
theorem composeAns_yes {ar : List Int} {a b : List (List Int)} (h : composeOk ar a b = true) : composeAns ar a b = substL (compF a b) := by simp [composeAns, h]
theorem compose_bad {ar : List Int} {a b : List (List Int)} {v : Nat} (hv : v < 12) (h : app40ok b (compT a v) = false) : composeOk ar a b = false := by
  have : (List.range 12).all (fun v => app40ok b (compT a v)) = false := by
    rw [List.all_eq_false]
    exact ⟨v, by simpa using hv, by simp [h]⟩
  unfold composeOk
  rw [this, Bool.and_false]
theorem compose_good {ar : List Int} {a b : List (List Int)} (h1 : goodSubst ar a = true) (h2 : goodSubst ar b = true) (h : ∀ v, v < 12 → app40ok b (compT a v) = true) : composeOk ar a b = true := by
  unfold composeOk
  rw [h1, h2, Bool.true_and, Bool.true_and, List.all_eq_true]
  intro v hv
  exact h v (by simpa using hv)
theorem stayF_le (F : Nat → List Int) (v : Nat) : (stayF F v).length ≤ (F v).length := by unfold stayF; split <;> simp
theorem sumL_map_le (g : Nat → List Int) (c : Nat) : ∀ l : List Nat, (∀ v ∈ l, (g v).length ≤ c) → sumL (l.map g) ≤ c * l.length := by
  intro l
  induction l with
  | nil => intro _; simp [sumL]
  | cons x r ih =>
    intro h
    have h1 := ih (fun v hv => h v (List.mem_cons_of_mem _ hv))
    have h2 := h x List.mem_cons_self
    unfold sumL at h1 ⊢
    simp only [List.map_cons, List.sum_cons, List.length_cons] at h1 ⊢
    rw [Nat.mul_add]
    omega
theorem substL_tot (F : Nat → List Int) (h : ∀ v, v < 12 → (F v).length ≤ 40) : tot (substL F) ≤ 1048576 := by
  have h1 := sumL_map_le (stayF F) 40 (List.range 12) (fun v hv => by have h1 := stayF_le F v; have h2 := h v (by simpa using hv); omega)
  have h2 : (substL F).length = 12 := by simp [substL]
  unfold tot
  rw [h2]
  simp only [List.length_range] at h1
  unfold substL
  omega
theorem composeAns_len (ar : List Int) (a b : List (List Int)) : tot (composeAns ar a b) ≤ 1048576 := by
  unfold composeAns
  split
  · rename_i h
    unfold composeOk at h
    simp only [Bool.and_eq_true, List.all_eq_true] at h
    exact substL_tot _ fun v hv => by
      have := h.2 v (by simpa using hv)
      simp [app40ok] at this
      exact this
  · simp [tot, sumL]
theorem castL_range (k : Nat) : castL (List.range (k+1)) = castL (List.range k) ++ [(k : Int)] := by rw [List.range_succ, castL_snoc]

end Go.Proofs.YtajmjjandkdhiabDoor
end
section
/- Match: what is found. -/
namespace Go.Proofs.YtajmjjandkdhiabDoor
open Go.RowKit Go.Maps

def upd {α : Type} (F : Nat → α) (v : Nat) (x : α) : Nat → α := fun i => if i = v then x else F i
theorem upd_same {α : Type} (F : Nat → α) (v : Nat) (x : α) : upd F v x v = x := by simp [upd]
theorem upd_other {α : Type} (F : Nat → α) {v i : Nat} (x : α) (h : i ≠ v) : upd F v x i = F i := by simp [upd, h]
def matchGo (ar t : List Int) : List Int → Nat → (Nat → List Int) → Option (Nat → List Int)
  | [], _, F => some F
  | n :: r, j, F =>
    if 0 ≤ n then (if t.getD j 0 = n then matchGo ar t r (j+1) F else none)
    else if F (-1 - n).toNat = [] ∨ F (-1 - n).toNat = partOf t j ((endOf ar t j).getD 0) then matchGo ar t r ((endOf ar t j).getD 0) (upd F (-1 - n).toNat (partOf t j ((endOf ar t j).getD 0))) else none
theorem mg_sym {ar t r : List Int} {n : Int} {j : Nat} {F : Nat → List Int} (h : 0 ≤ n) (he : t.getD j 0 = n) : matchGo ar t (n :: r) j F = matchGo ar t r (j+1) F := by rw [matchGo, if_pos h, if_pos he]
theorem mg_symno {ar t r : List Int} {n : Int} {j : Nat} {F : Nat → List Int} (h : 0 ≤ n) (he : ¬ t.getD j 0 = n) : matchGo ar t (n :: r) j F = none := by rw [matchGo, if_pos h, if_neg he]
theorem mg_var {ar t r : List Int} {n : Int} {j e : Nat} {F : Nat → List Int} (h : ¬ 0 ≤ n) (he : endOf ar t j = some e) (hF : F (-1 - n).toNat = [] ∨ F (-1 - n).toNat = partOf t j e) :
    matchGo ar t (n :: r) j F = matchGo ar t r e (upd F (-1 - n).toNat (partOf t j e)) := by
  rw [matchGo, if_neg h, he]
  simp only [Option.getD_some]
  rw [if_pos hF]
theorem mg_varno {ar t r : List Int} {n : Int} {j e : Nat} {F : Nat → List Int} (h : ¬ 0 ≤ n) (he : endOf ar t j = some e) (hF : ¬ (F (-1 - n).toNat = [] ∨ F (-1 - n).toNat = partOf t j e)) :
    matchGo ar t (n :: r) j F = none := by
  rw [matchGo, if_neg h, he]
  simp only [Option.getD_some]
  rw [if_neg hF]

/-- Both terms have as many terms to come. -/
def Pair2 (ar p t : List Int) (i j : Nat) : Prop := ∃ m, endGo ar (p.drop i) m i = some p.length ∧ endGo ar (t.drop j) m j = some t.length
theorem Pair2.start {ar p t : List Int} (hp : okTerm ar p = true) (ht : okTerm ar t = true) : Pair2 ar p t 0 0 := ⟨1, ((okTerm_iff _ _).1 hp).2.2, ((okTerm_iff _ _).1 ht).2.2⟩
theorem need_pos {ar p : List Int} {i m : Nat} (h : endGo ar (p.drop i) m i = some p.length) (hi : i < p.length) : ∃ m', m = m' + 1 := by
  cases m with
  | zero => rw [endGo_zero] at h; simp at h; omega
  | succ m => exact ⟨m, rfl⟩
theorem need_lt {ar t : List Int} {j m : Nat} (h : endGo ar (t.drop j) (m+1) j = some t.length) : j < t.length := by
  rcases Nat.lt_or_ge j t.length with h1 | h1
  · exact h1
  · rw [List.drop_eq_nil_of_le h1, endGo_nil] at h; simp at h
theorem Pair2.lt {ar p t : List Int} {i j : Nat} (h : Pair2 ar p t i j) (hi : i < p.length) : j < t.length := by
  obtain ⟨m, h1, h2⟩ := h
  obtain ⟨m, rfl⟩ := need_pos h1 hi
  exact need_lt h2
theorem Pair2.sym {ar p t : List Int} {i j : Nat} (h : Pair2 ar p t i j) (hi : i < p.length) (he : t.getD j 0 = p.getD i 0) : Pair2 ar p t (i+1) (j+1) := by
  have hj := h.lt hi
  obtain ⟨m, h1, h2⟩ := h
  obtain ⟨m, rfl⟩ := need_pos h1 hi
  rw [drop_cons p i hi, endGo_cons] at h1
  rw [drop_cons t j hj, endGo_cons, he] at h2
  split at h1
  · rename_i hs
    rw [if_pos hs] at h2
    exact ⟨_, h1, h2⟩
  · simp at h1
theorem Pair2.var {ar p t : List Int} {i j : Nat} (h : Pair2 ar p t i j) (hi : i < p.length) (hn : p.getD i 0 < 0) : ∃ e, endOf ar t j = some e ∧ j < e ∧ e ≤ t.length ∧ Pair2 ar p t (i+1) e := by
  obtain ⟨m, h1, h2⟩ := h
  obtain ⟨m, rfl⟩ := need_pos h1 hi
  rw [drop_cons p i hi, endGo_cons, arOf_neg hn] at h1
  split at h1
  · obtain ⟨e, he, hr, hlt, hle⟩ := ends_step ar t j m t.length h2
    exact ⟨e, he, hlt, hle, m, h1, hr⟩
  · simp at h1
def matchOk0 (ar p t : List Int) : Bool := goodTerm ar p && okTerm ar t
def matchR (ar p t : List Int) : Option (Nat → List Int) := matchGo ar t p 0 (fun _ => [])
def matchOk (ar p t : List Int) : Bool := matchOk0 ar p t && (matchR ar p t).isSome
def matchAns (ar p t : List Int) : List (List Int) := if matchOk0 ar p t then (match matchR ar p t with | some F => substL F | none => []) else []
theorem match_no0 {ar p t : List Int} (h : matchOk0 ar p t = false) : matchAns ar p t = [] ∧ matchOk ar p t = false := by simp [matchAns, matchOk, h]
theorem match_no {ar p t : List Int} (h : matchR ar p t = none) : matchAns ar p t = [] ∧ matchOk ar p t = false := by
  unfold matchAns matchOk
  rw [h]
  simp
theorem match_yes {ar p t : List Int} {F : Nat → List Int} (h0 : matchOk0 ar p t = true) (h : matchR ar p t = some F) : matchAns ar p t = substL F ∧ matchOk ar p t = true := by
  unfold matchAns matchOk
  rw [h, h0]
  simp
/-- The terms found are not long. -/
theorem mg_len {ar t : List Int} (ht : okTerm ar t = true) (p0 : List Int) : ∀ (k i j : Nat) (F G : Nat → List Int), k = p0.length - i → i ≤ p0.length → Pair2 ar p0 t i j → (∀ v, (F v).length ≤ 40) → matchGo ar t (p0.drop i) j F = some G → ∀ v, (G v).length ≤ 40 := by
  intro k
  induction k with
  | zero =>
    intro i j F G hk hi hP hF h
    rw [List.drop_eq_nil_of_le (by omega), matchGo] at h
    simp at h
    rw [← h]; exact hF
  | succ k ih =>
    intro i j F G hk hi hP hF h
    have hlt : i < p0.length := by omega
    rw [drop_cons p0 i hlt] at h
    by_cases hn : 0 ≤ p0.getD i 0
    · by_cases he : t.getD j 0 = p0.getD i 0
      · rw [mg_sym hn he] at h
        exact ih (i+1) (j+1) F G (by omega) (by omega) (hP.sym hlt he) hF h
      · rw [mg_symno hn he] at h; simp at h
    · obtain ⟨e, h1, h2, h3, h4⟩ := hP.var hlt (by omega)
      by_cases hc : F (-1 - p0.getD i 0).toNat = [] ∨ F (-1 - p0.getD i 0).toNat = partOf t j e
      · rw [mg_var hn h1 hc] at h
        refine ih (i+1) e _ G (by omega) (by omega) h4 (fun v => ?_) h
        unfold upd
        split
        · rw [partOf_len t j e h3]; have := ((okTerm_iff _ _).1 ht).2.1; omega
        · exact hF v
      · rw [mg_varno hn h1 hc] at h; simp at h
theorem matchAns_len (ar p t : List Int) : tot (matchAns ar p t) ≤ 1048576 := by
  unfold matchAns
  split
  · rename_i h0
    simp only [matchOk0, Bool.and_eq_true] at h0
    have hp := (goodTerm_iff.1 h0.1).2
    cases h : matchR ar p t with
    | none => simp [tot, sumL]
    | some F =>
      have := mg_len h0.2 p p.length 0 0 (fun _ => []) F (by omega) (by omega) (Pair2.start hp h0.2) (by simp) (by simpa [matchR] using h)
      exact substL_tot F (fun v _ => this v)
  · simp [tot, sumL]
end Go.Proofs.YtajmjjandkdhiabDoor
end
