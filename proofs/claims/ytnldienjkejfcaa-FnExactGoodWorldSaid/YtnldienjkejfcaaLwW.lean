/- A law's helpers for worlds: sizes, copies, marks. -/
import Derived.Test.YtnldienjkejfcaaSS2
namespace Go.Proofs.Ytnldienjkejfcaa
open Go.RowKit

theorem cell_ko {w : World} {b off : Nat} {v : Value} (h : b < w.heap.size ∧ w.cell? ⟨b, off, none⟩ = some v) : K (fun w => b < w.heap.size ∧ w.cell? ⟨b, off, none⟩ = some v) w :=
  fun _ hb => ⟨Nat.lt_of_lt_of_le h.1 hb.size, hb.at h.1 h.2⟩
theorem boxk1 {w w' : World} {cs : Array Value} {t : TypeId} (hb : Bel (w.alloc (.cells cs t)) w') (v : Value) (hv : cs[1]? = some v) : w.heap.size < w'.heap.size ∧ w'.cell? ⟨w.heap.size, 1, none⟩ = some v :=
  ⟨by have := hb.size; simp at this; omega, boxc hb 1 v hv⟩
theorem boxk2 {w w' : World} {o : Obj} {cs : Array Value} {t : TypeId} (hb : Bel ((w.alloc o).alloc (.cells cs t)) w') (i : Nat) (v : Value) (hv : cs[i]? = some v) : w.heap.size + 1 < w'.heap.size ∧ w'.cell? ⟨w.heap.size + 1, i, none⟩ = some v :=
  ⟨by have := hb.size; simp at this; omega, by have := boxc hb i v hv; simpa using this⟩

theorem szWorld_c (l h : Nat) (z : Int) (v : Value) (tb : List (List Int)) (left : Int) (w : World) (h0 : 0 ≤ left) (h1 : left ≤ 1048576) (hv : SlS l h w v tb) :
    Calls Try.prog 18 #[.agg #[.int .i64 z, v], .int .i64 left] w (RetV w (.int .i64 (szS tb left))) := by
  have hl := szIntSS_c l h v tb left (w.alloc (.cells #[.int .i64 z, v] 41)) h0 h1 (hv.alloc _)
  by_cases hs : szS tb left < 0
  · have E : Hid (szS tb left = -1) := by show szS _ _ = _; revert hs; unfold szS; split <;> omega
    have HL := Lib.hid hl; clear hl
    rw [E.out] at HL
    rw [E.out]
    clear hs hv
    go_enter Try.func18, Try.ntmps18
    go_wp2_with (go_at_call 38; refine HL.out.mono ?_; rintro e w' ⟨rfl, hb1⟩)
    go_ret
    exact ⟨rfl, hb1.of_alloc⟩
  · have HL := Lib.hid hl; clear hl hv
    generalize szS tb left = r at *
    go_enter Try.func18, Try.ntmps18
    go_wp2_with (go_at_call 38; refine HL.out.mono ?_; rintro e w' ⟨rfl, hb1⟩)
    go_ret
    exact ⟨rfl, hb1.of_alloc⟩

/-- A world of the call's own. -/
def RetW (w : World) (z : Int) (tb : List (List Int)) (e : Ending) (w' : World) : Prop := ∃ ad n c, e = .returned (.agg #[.int .i64 z, .slice ad n c]) ∧ OwnS w.heap.size w'.heap.size w' (.slice ad n c) tb ∧ Bel w w'
def RetWB (w : World) (z : Int) (tb : List (List Int)) (ok : Bool) (e : Ending) (w' : World) : Prop := ∃ ad n c, e = .returned (.tuple #[.agg #[.int .i64 z, .slice ad n c], .bool ok]) ∧ OwnS w.heap.size w'.heap.size w' (.slice ad n c) tb ∧ Bel w w'
theorem OwnS.set {lo hi w v xss} (h : OwnS lo hi w v xss) {p : Addr} (hp : p.block < lo ∨ hi ≤ p.block) (u : Value) : OwnS lo hi (w.setCell p u) v xss :=
  h.same fun b h1 h2 _ => Below.heap_setCell w p u b (by omega)

theorem eqWorld_same {z : Int} (l h l' h' : Nat) (v u : Value) (tb : List (List Int)) (w : World) (hx : short tb) (hv : SlS l h w v tb) (hu : SlS l' h' w u tb) :
    Calls Try.prog 22 #[.agg #[.int .i64 z, v], .agg #[.int .i64 z, u]] w (RetV w (.bool true)) := by
  have HC := Lib.hid (eqIntSS_same l h l' h' v u tb ((w.alloc (.cells #[.int .i64 z, v] 44)).alloc (.cells #[.int .i64 z, u] 44)) hx (hv.below (Bel.alloc2 _ _ _)) (hu.below (Bel.alloc2 _ _ _)))
  clear hv hu hx
  go_enter Try.func22, Try.ntmps22
  go_wp2_with (go_at_call 45; refine HC.out.mono ?_; rintro e w' ⟨rfl, hb⟩)
  go_ret
  exact ⟨rfl, (Bel.alloc2 w _ _).step hb⟩

set_option maxRecDepth 100000 in
set_option maxHeartbeats 400000 in
theorem toWorld_c {z : Int} (l h : Nat) (v : Value) (tb : List (List Int)) (w : World) (hx : short tb) (hv : SlS l h w v tb) :
    Calls Try.prog 20 #[.agg #[.int .i64 z, v]] w (RetW w z tb) := by
  have HC := Lib.hid (fun (w' : World) (hb : Bel w w') => toIntSS_c l h v tb w' hx (hv.below hb))
  clear hv hx
  go_enter Try.func20, Try.ntmps20
  go_wp2_with fail
  have HB : Bel w (((w.alloc (.cells #[.int .i64 z, v] 41)).alloc (.cells #[.int .i64 0, .slice none 0 0] 44)).alloc (.cells #[.int .i64 z, .slice none 0 0] 44)) := Bel.alloc3 _ _ _ _
  refine (HC.out _ HB).mono ?_; rintro e w1 ⟨a1, n1, c1, rfl, o1, hb1⟩
  have hz1 := hb1.size
  simp only [World.size_alloc] at hz1 o1
  have e1 := hb1.at (b := w.heap.size + 1) (off := 0) (by simp) (show World.cell? _ _ = some (.int .i64 0) by simp [go_sem])
  have e2 := hb1.at (b := w.heap.size + 1) (off := 1) (by simp) (show World.cell? _ _ = some (.slice none 0 0) by simp [go_sem])
  have f0 := hb1.at (b := w.heap.size + 1 + 1) (off := 0) (by simp) (show World.cell? _ _ = some (.int .i64 z) by simp [go_sem])
  have f1 := hb1.at (b := w.heap.size + 1 + 1) (off := 1) (by simp) (show World.cell? _ _ = some (.slice none 0 0) by simp [go_sem])
  have g1 : ∀ i, w1.frozen? ⟨w.heap.size + 1, i, none⟩ = false := fun i => (hb1.frozen (p := ⟨w.heap.size + 1, i, none⟩) (by simp)).trans (by simp [go_sem])
  have g2 : ∀ i, w1.frozen? ⟨w.heap.size + 1 + 1, i, none⟩ = false := fun i => (hb1.frozen (p := ⟨w.heap.size + 1 + 1, i, none⟩) (by simp)).trans (by simp [go_sem])
  have HB1 := HB.step hb1
  go_wp2_with fail
  have o1' := ((o1.set (p := ⟨w.heap.size + 1 + 1, 1, none⟩) (.inl (by simp)) (.slice a1 n1 c1)).set (p := ⟨w.heap.size + 1, 0, none⟩) (.inl (by simp)) (.int .i64 z)).set (p := ⟨w.heap.size + 1, 1, none⟩) (.inl (by simp)) (.slice a1 n1 c1)
  have HB3 := ((HB1.set (p := ⟨w.heap.size + 1 + 1, 1, none⟩) (by simp; omega) (.slice a1 n1 c1)).set (p := ⟨w.heap.size + 1, 0, none⟩) (by simp) (.int .i64 z)).set (p := ⟨w.heap.size + 1, 1, none⟩) (by simp) (.slice a1 n1 c1)
  refine bodyPost_ret (v := .agg #[.int .i64 z, .slice a1 n1 c1]) (by simp [results, Try.results20, go_sem, e1, e2]) rfl ⟨_, _, _, rfl, o1'.mono (by omega) (by simp), HB3⟩
end Go.Proofs.Ytnldienjkejfcaa
