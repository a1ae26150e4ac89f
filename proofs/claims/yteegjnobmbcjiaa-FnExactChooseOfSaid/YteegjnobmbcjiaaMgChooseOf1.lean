/- Texts merged, part 1. -/
import Derived.WalkKit
import Derived.WalkSpells
import Derived.WalkLawsBesides
import Derived.BigQuiet
import Derived.Deep.QuietTactic
import Derived.Deep.RegionHeld3
import Derived.Deep.DeepCutAuto
import Derived.Deep.DeepFit
import Derived.Deep.DeepMust
import Derived.Outline
import Derived.Lib.Hide
import Derived.Laws.CopyOwn
import Derived.KernelRfl
import Derived.Test.YteegjnobmbcjiaaProg
section
/- Definitions and small lemmas on worlds and slices of ints. No program. -/
namespace Go.Proofs.Yteegjnobmbcjiaa
open Go.RowKit

/-- The frame of every contract: what was there is as it was. -/
abbrev Bel (w w' : World) : Prop := Below w.heap.size w w'

theorem Bel.rfl' (w : World) : Bel w w := Below.refl _ _
theorem Bel.step {a b c : World} (h : Bel a b) (k : Bel b c) : Bel a c := h.trans (k.mono h.size)

/-- The slice value v holds the numbers xs; its array lies in a block from lo on and below hi. -/
def SlI (lo hi : Nat) (w : World) (v : Value) (xs : List Int) : Prop :=
  ∃ ad cap, v = .slice ad xs.length cap ∧ xs.length ≤ cap ∧ (cap ≤ maxLen ∧ (ad = none → cap = 0)) ∧
    (0 < xs.length → ∃ b off, ad = some ⟨b, off, none⟩ ∧ lo ≤ b ∧ b < hi ∧ ∀ j, j < xs.length → w.cell? ⟨b, off + j, none⟩ = some (.int .i64 (xs.getD j 0)))

/-- .. and it may be written. -/
def OwnI (lo hi : Nat) (w : World) (v : Value) (xs : List Int) : Prop :=
  SlI lo hi w v xs ∧ ∀ b off n c, v = .slice (some ⟨b, off, none⟩) n c → 0 < n → ∀ j, w.frozen? ⟨b, off + j, none⟩ = false

theorem OwnI.sl {lo hi w v xs} (h : OwnI lo hi w v xs) : SlI lo hi w v xs := h.1

theorem SlI.mono {lo hi lo' hi' w v xs} (h : SlI lo hi w v xs) (h1 : lo' ≤ lo) (h2 : hi ≤ hi') : SlI lo' hi' w v xs := by
  obtain ⟨ad, cap, rfl, hc, hm, hr⟩ := h
  refine ⟨ad, cap, rfl, hc, hm, fun hp => ?_⟩
  obtain ⟨b, off, e, a1, a2, a3⟩ := hr hp
  exact ⟨b, off, e, by omega, by omega, a3⟩
theorem OwnI.mono {lo hi lo' hi' w v xs} (h : OwnI lo hi w v xs) (h1 : lo' ≤ lo) (h2 : hi ≤ hi') : OwnI lo' hi' w v xs := ⟨h.1.mono h1 h2, h.2⟩

/-- Blocks that are the same keep a slice. -/
theorem SlI.same {lo hi w w' v xs} (h : SlI lo hi w v xs) (hs : ∀ b, lo ≤ b → b < hi → b < w.heap.size → w'.heap[b]? = w.heap[b]?) : SlI lo hi w' v xs := by
  obtain ⟨ad, cap, rfl, hc, hm, hr⟩ := h
  refine ⟨ad, cap, rfl, hc, hm, fun hp => ?_⟩
  obtain ⟨b, off, e, a1, a2, a3⟩ := hr hp
  refine ⟨b, off, e, a1, a2, fun j hj => ?_⟩
  have hb : b < w.heap.size := World.block_lt_of_cell? w ⟨b, off + j, none⟩ (a3 j hj)
  rw [World.cell?_of_block (w := w) (a := ⟨b, off + j, none⟩) (hs b a1 a2 hb)]
  exact a3 j hj

theorem SlI.below {lo hi w w' v xs} (h : SlI lo hi w v xs) (hb : Bel w w') : SlI lo hi w' v xs :=
  h.same fun b _ _ h3 => hb.block b h3

theorem OwnI.same {lo hi w w' v xs} (h : OwnI lo hi w v xs) (hs : ∀ b, lo ≤ b → b < hi → b < w.heap.size → w'.heap[b]? = w.heap[b]?) : OwnI lo hi w' v xs := by
  refine ⟨h.1.same hs, fun b off n c hv hn j => ?_⟩
  obtain ⟨ad, cap, e, hc, hm, hr⟩ := h.1
  rw [e] at hv
  simp only [Value.slice.injEq] at hv
  obtain ⟨h1, hl, _⟩ := hv
  obtain ⟨b', off', e', a1, a2, a3⟩ := hr (by omega)
  rw [e'] at h1
  simp only [Option.some.injEq, Addr.mk.injEq] at h1
  obtain ⟨rfl, rfl, -⟩ := h1
  have hb : b' < w.heap.size := World.block_lt_of_cell? w ⟨b', off' + 0, none⟩ (a3 0 (by omega))
  rw [World.frozen?_of_block (w := w) (a := ⟨b', off' + j, none⟩) (hs b' a1 a2 hb)]
  exact h.2 b' off' n cap (by rw [e, e', hl]) hn j

theorem OwnI.below {lo hi w w' v xs} (h : OwnI lo hi w v xs) (hb : Bel w w') : OwnI lo hi w' v xs :=
  h.same fun b _ _ h3 => hb.block b h3

/-- Whatever is there lies in some block that is there. -/
theorem SlI.in' {lo hi w v xs} (h : SlI lo hi w v xs) : SlI 0 w.heap.size w v xs := by
  obtain ⟨ad, cap, rfl, hc, hm, hr⟩ := h
  refine ⟨ad, cap, rfl, hc, hm, fun hp => ?_⟩
  obtain ⟨b, off, e, a1, a2, a3⟩ := hr hp
  exact ⟨b, off, e, Nat.zero_le _, World.block_lt_of_cell? w ⟨b, off + 0, none⟩ (a3 0 hp), a3⟩
theorem SlI.nil (lo hi : Nat) (w : World) : SlI lo hi w (.slice none 0 0) [] := ⟨none, 0, rfl, Nat.le_refl _, ⟨Nat.zero_le _, fun _ => rfl⟩, fun h => absurd h (by simp)⟩
theorem OwnI.nil (lo hi : Nat) (w : World) : OwnI lo hi w (.slice none 0 0) [] := ⟨SlI.nil lo hi w, fun _ _ _ _ h => by simp at h⟩

/-- The value returned, and the frame. -/
def RetV (w : World) (v : Value) (e : Ending) (w' : World) : Prop := e = .returned v ∧ Bel w w'
/-- A slice of ints of the call's own. -/
def RetI (w : World) (xs : List Int) (e : Ending) (w' : World) : Prop := ∃ ad n c, e = .returned (.slice ad n c) ∧ OwnI w.heap.size w'.heap.size w' (.slice ad n c) xs ∧ Bel w w'
def RetIB (w : World) (xs : List Int) (ok : Bool) (e : Ending) (w' : World) : Prop := ∃ ad n c, e = .returned (.tuple #[.slice ad n c, .bool ok]) ∧ OwnI w.heap.size w'.heap.size w' (.slice ad n c) xs ∧ Bel w w'
/-- A struct of one slice. -/
def RetS (w : World) (xs : List Int) (e : Ending) (w' : World) : Prop := ∃ ad n c, e = .returned (.agg #[.slice ad n c]) ∧ OwnI w.heap.size w'.heap.size w' (.slice ad n c) xs ∧ Bel w w'
theorem addr_add (b off j : Nat) : (⟨b, off, none⟩ : Addr).add j = ⟨b, off + j, none⟩ := by cases j <;> simp [Addr.add]
theorem SlI.form {lo hi w v xs} (h : SlI lo hi w v xs) : ∃ ad c, v = .slice ad xs.length c := by obtain ⟨ad, c, h, _⟩ := h; exact ⟨ad, c, h⟩

/-- A row that the call itself made, as a slice of ints. -/
theorem OwnI.of_row {w : World} {base e : Nat} {v : Value} {xs : List Int} (h : w.ownsRow base e 1 v xs.length (xs.map (Value.int .i64))) : OwnI base w.heap.size w v xs := by
  have h0 := h
  obtain ⟨h1, h2⟩ := h
  rcases h2 with ⟨rfl, hn⟩ | ⟨g, cap, cur, rfl, hg, hh, hn, hc, hs, ht⟩
  · obtain rfl : xs = [] := List.length_eq_zero_iff.1 hn
    exact OwnI.nil _ _ _
  · have hgs : g < w.heap.size := by
      have := Array.getElem?_eq_some_iff.1 hh
      exact this.1
    refine ⟨⟨_, cap, rfl, hn, ⟨hc, fun h => by simp at h⟩, fun hp => ⟨g, 0, rfl, hg, hgs, fun j hj => ?_⟩⟩, ?_⟩
    · rw [Nat.zero_add, h0.cellAt j (by omega)]
      simp [List.getD, hj]
    · intro b off n c hv hn' j
      simp only [Value.slice.injEq, Option.some.injEq, Addr.mk.injEq] at hv
      obtain ⟨⟨rfl, rfl, -⟩, rfl, rfl⟩ := hv
      rw [Nat.zero_add]
      exact h0.frozenAt j

/-- Reading the k-th. -/
theorem rd {lo hi : Nat} {w wr : World} {ad : Option Addr} {xs : List Int} (hr : 0 < xs.length → ∃ b off, ad = some ⟨b, off, none⟩ ∧ lo ≤ b ∧ b < hi ∧ ∀ j, j < xs.length → w.cell? ⟨b, off + j, none⟩ = some (.int .i64 (xs.getD j 0)))
    (hb : Bel w wr) (k : Nat) (hk : k < xs.length) : ∃ b off, ad = some ⟨b, off, none⟩ ∧ b < w.heap.size ∧ wr.cell? ⟨b, off + k, none⟩ = some (.int .i64 (xs.getD k 0)) := by
  obtain ⟨b, off, e, _, _, hc⟩ := hr (by omega)
  have h1 := World.block_lt_of_cell? w ⟨b, off + k, none⟩ (hc k hk)
  exact ⟨b, off, e, h1, (hb.cell (p := ⟨b, off + k, none⟩) h1).trans (hc k hk)⟩

theorem rd0 {lo hi : Nat} {w : World} {ad : Option Addr} {xs : List Int} (hr : 0 < xs.length → ∃ b off, ad = some ⟨b, off, none⟩ ∧ lo ≤ b ∧ b < hi ∧ ∀ j, j < xs.length → w.cell? ⟨b, off + j, none⟩ = some (.int .i64 (xs.getD j 0)))
    (hk : 0 < xs.length) : ∃ b off, ad = some ⟨b, off, none⟩ ∧ b < w.heap.size ∧ w.cell? ⟨b, off, none⟩ = some (.int .i64 (xs.getD 0 0)) := rd hr (Bel.rfl' w) 0 hk
theorem Bel.at {w w' : World} (hb : Bel w w') {b off : Nat} {v : Value} (h : b < w.heap.size) (hc : w.cell? ⟨b, off, none⟩ = some v) : w'.cell? ⟨b, off, none⟩ = some v := (hb.cell (p := ⟨b, off, none⟩) h).trans hc

/-- The cells of a block that was laid first of all. -/
theorem boxc {w w' : World} {cs : Array Value} {t : TypeId} (hb : Bel (w.alloc (.cells cs t)) w') (i : Nat) (v : Value) (hv : cs[i]? = some v) : w'.cell? ⟨w.heap.size, i, none⟩ = some v := by
  rw [hb.cell (p := ⟨w.heap.size, i, none⟩) (by simp), World.cell?_alloc_new w cs t i]; exact hv
theorem Bel.of_alloc {w w' : World} {o : Obj} (hb : Bel (w.alloc o) w') : Bel w w' := Bel.step ((Below.refl w.heap.size w).alloc (Nat.le_refl _) o) hb
theorem Bel.alloc0 (w : World) (o : Obj) : Bel w (w.alloc o) := (Below.refl w.heap.size w).alloc (Nat.le_refl _) o

theorem own_cell {w : World} {base e g n cap : Nat} {ys : List Int} (ho : w.ownsRow base e 1 (.slice (some ⟨g, 0, none⟩) n cap) n (ys.map (Value.int .i64))) (k : Nat) (hk : k < ys.length) : ∃ x, w.cell? ⟨g, k, none⟩ = some (.int .i64 x) := by
  have hl := ho.1
  simp at hl
  exact ⟨ys[k], by rw [ho.cellAt k (by omega)]; simp [hk]⟩

theorem Bel.alloc {a w : World} (h : Bel a w) (o : Obj) : Bel a (w.alloc o) := Below.alloc h h.size o
theorem Bel.alloc2 (w : World) (o p : Obj) : Bel w ((w.alloc o).alloc p) := (Bel.alloc0 w o).alloc p
theorem Bel.alloc3 (w : World) (o p q : Obj) : Bel w (((w.alloc o).alloc p).alloc q) := (Bel.alloc2 w o p).alloc q
theorem Bel.drewN {a w : World} (h : Bel a w) (n : Nat) : Bel a (w.drewN n) := ⟨h.os, h.tape, h.output, h.size, h.block⟩
theorem Bel.drew {a w : World} (h : Bel a w) : Bel a w.drew := Below.drew h
theorem Bel.drew0 (w : World) : Bel w w.drew := Below.drew (Below.refl _ _)
theorem Bel.of_drew {a w : World} (h : Bel a.drew w) : Bel a w := Bel.step (Bel.drew0 a) h
theorem Bel.set {a w : World} (h : Bel a w) {p : Addr} (hp : a.heap.size ≤ p.block) (u : Value) : Bel a (w.setCell p u) := Below.setCell h hp u
theorem SlI.drewN {lo hi w v xs} (h : SlI lo hi w v xs) (n : Nat) : SlI lo hi (w.drewN n) v xs := h.below ((Bel.rfl' w).drewN n)
theorem SlI.alloc {lo hi w v xs} (h : SlI lo hi w v xs) (o : Obj) : SlI lo hi (w.alloc o) v xs := h.below (Bel.alloc0 w o)
theorem OwnI.alloc {lo hi w v xs} (h : OwnI lo hi w v xs) (o : Obj) : OwnI lo hi (w.alloc o) v xs := h.below (Bel.alloc0 w o)
/-- A store into a block outside. -/
theorem OwnI.set {lo hi w v xs} (h : OwnI lo hi w v xs) {p : Addr} (hp : p.block < lo ∨ hi ≤ p.block) (u : Value) : OwnI lo hi (w.setCell p u) v xs :=
  h.same fun b h1 h2 _ => Below.heap_setCell w p u b (by omega)
theorem SlI.set {lo hi w v xs} (h : SlI lo hi w v xs) {p : Addr} (hp : p.block < lo ∨ hi ≤ p.block) (u : Value) : SlI lo hi (w.setCell p u) v xs :=
  h.same fun b h1 h2 _ => Below.heap_setCell w p u b (by omega)

/-- Only blocks from lo on and below hi may have turned. -/
structure Chg (lo hi : Nat) (w w' : World) : Prop where
  os : w'.os = w.os
  tape : w'.tape = w.tape
  output : w'.output = w.output
  size : w.heap.size ≤ w'.heap.size
  block : ∀ b, b < w.heap.size → (b < lo ∨ hi ≤ b) → w'.heap[b]? = w.heap[b]?
theorem Chg.refl (lo hi : Nat) (w : World) : Chg lo hi w w := ⟨rfl, rfl, rfl, Nat.le_refl _, fun _ _ _ => rfl⟩
theorem Chg.trans {lo hi : Nat} {a b c : World} (h : Chg lo hi a b) (k : Chg lo hi b c) : Chg lo hi a c :=
  ⟨k.os.trans h.os, k.tape.trans h.tape, k.output.trans h.output, Nat.le_trans h.size k.size, fun i hi ho => (k.block i (Nat.lt_of_lt_of_le hi h.size) ho).trans (h.block i hi ho)⟩
theorem Chg.of_bel {lo hi : Nat} {w w' : World} (h : Bel w w') : Chg lo hi w w' := ⟨h.os, h.tape, h.output, h.size, fun b hb _ => h.block b hb⟩
theorem Chg.set {lo hi : Nat} (w : World) {p : Addr} (h1 : lo ≤ p.block) (h2 : p.block < hi) (u : Value) : Chg lo hi w (w.setCell p u) :=
  ⟨rfl, rfl, rfl, by simp [World.setCell], fun b _ ho => Below.heap_setCell w p u b (by omega)⟩
theorem Chg.mono {lo hi lo' hi' : Nat} {w w' : World} (h : Chg lo hi w w') (h1 : lo' ≤ lo) (h2 : hi ≤ hi') : Chg lo' hi' w w' :=
  ⟨h.os, h.tape, h.output, h.size, fun b hb ho => h.block b hb (by omega)⟩
/-- What the call itself had made may turn. -/
theorem Chg.bel {lo hi : Nat} {w0 w w' : World} (h : Chg lo hi w w') (h0 : Bel w0 w) (hlo : w0.heap.size ≤ lo) : Bel w0 w' :=
  ⟨h.os.trans h0.os, h.tape.trans h0.tape, h.output.trans h0.output, Nat.le_trans h0.size h.size, fun b hb => (h.block b (Nat.lt_of_lt_of_le hb h0.size) (.inl (by omega))).trans (h0.block b hb)⟩
theorem SlI.chg {lo hi lo' hi' w w' v xs} (h : SlI lo hi w v xs) (k : Chg lo' hi' w w') (hd : hi ≤ lo' ∨ hi' ≤ lo) : SlI lo hi w' v xs :=
  h.same fun b h1 h2 h3 => k.block b h3 (by omega)
theorem OwnI.chg {lo hi lo' hi' w w' v xs} (h : OwnI lo hi w v xs) (k : Chg lo' hi' w w') (hd : hi ≤ lo' ∨ hi' ≤ lo) : OwnI lo hi w' v xs :=
  h.same fun b h1 h2 h3 => k.block b h3 (by omega)
theorem Chg.cell {lo hi : Nat} {w w' : World} (k : Chg lo hi w w') {b off : Nat} {v : Value} (h : b < w.heap.size) (hd : b < lo ∨ hi ≤ b) (hc : w.cell? ⟨b, off, none⟩ = some v) : w'.cell? ⟨b, off, none⟩ = some v :=
  (World.cell?_of_block (w := w) (a := ⟨b, off, none⟩) (k.block b h hd)).trans hc

/-- What marking from k on leaves. -/
def marks (k n : Nat) : List Int := (List.range n).map (fun i => ((k + i : Nat) : Int))
theorem marks_len (k n : Nat) : (marks k n).length = n := by simp [marks]
theorem marks_get (k n i : Nat) (h : i < n) : (marks k n).getD i 0 = ((k + i : Nat) : Int) := by simp [marks, List.getD, h]
/-- The first j are marked, the rest is as it was. -/
def marked (xs : List Int) (k j : Nat) : List Int := marks k j ++ xs.drop j
theorem marked_zero (xs : List Int) (k : Nat) : marked xs k 0 = xs := by simp [marked, marks]
theorem marked_len (xs : List Int) (k j : Nat) (h : j ≤ xs.length) : (marked xs k j).length = xs.length := by simp [marked, marks_len]; omega
theorem marked_all (xs : List Int) (k j : Nat) (h : ¬ j < xs.length) (h2 : j ≤ xs.length) : marked xs k j = marks k xs.length := by
  obtain rfl : j = xs.length := by omega
  simp [marked]
theorem marked_succ (xs : List Int) (k j : Nat) (h : j < xs.length) : (marked xs k j).set j ((k + j : Nat) : Int) = marked xs k (j+1) := by
  unfold marked
  rw [List.set_append_right _ _ (by rw [marks_len]; exact Nat.le_refl _), marks_len, Nat.sub_self, List.drop_eq_getElem_cons h, List.set_cons_zero]
  simp [marks, List.range_succ]

/-- A store into a slice that may be written. -/
theorem OwnI.stored {lo hi : Nat} {w : World} {b off n c : Nat} {xs : List Int} (h : OwnI lo hi w (.slice (some ⟨b, off, none⟩) n c) xs) (j : Nat) (hj : j < xs.length) (x : Int) :
    OwnI lo hi (w.setCell ⟨b, off + j, none⟩ (.int .i64 x)) (.slice (some ⟨b, off, none⟩) n c) (xs.set j x) := by
  obtain ⟨⟨ad, cap, e, hc, hm, hr⟩, hf⟩ := h
  obtain ⟨b', off', e', a1, a2, a3⟩ := hr (by omega)
  simp only [Value.slice.injEq] at e
  obtain ⟨rfl, rfl, rfl⟩ := e
  simp only [Option.some.injEq, Addr.mk.injEq, and_true] at e'
  obtain ⟨rfl, rfl⟩ := e'
  refine ⟨⟨_, c, by rw [List.length_set], by rw [List.length_set]; exact hc, hm, fun _ => ⟨b, off, rfl, a1, a2, fun i hi => ?_⟩⟩, fun b2 off2 n2 c2 hv hn2 i => ?_⟩
  · rw [List.length_set] at hi
    have hne : i ≠ j → (⟨b, off + j, none⟩ : Addr) ≠ ⟨b, off + i, none⟩ := by intro h1 h2; simp only [Addr.mk.injEq, and_true, true_and] at h2; omega
    by_cases e : i = j
    · subst e
      rw [World.cell?_setCell_same (h := a3 i hi)]
      simp [List.getD, hi]
    · rw [World.cell?_setCell_other (h := hne e), a3 i hi]
      simp [List.getD, Ne.symm e]
  · simp only [Value.slice.injEq, Option.some.injEq, Addr.mk.injEq, and_true] at hv
    obtain ⟨⟨rfl, rfl⟩, rfl, rfl⟩ := hv
    rw [World.frozen?_setCell]
    exact hf b off _ c rfl hn2 i

def inB (n lo hi : Int) : Bool := decide (lo ≤ n) && decide (n ≤ hi)

theorem all_split (xs : List Int) (p : Int → Bool) (k : Nat) (hk : k < xs.length) (h : (xs.take k).all p = true) : (xs.take (k+1)).all p = p (xs.getD k 0) := by
  rw [List.take_succ_eq_append_getElem hk, List.all_append, h]
  simp [List.getD, hk]
theorem all_false (xs : List Int) (p : Int → Bool) (k : Nat) (hk : k < xs.length) (h : p (xs.getD k 0) = false) : xs.all p = false := by
  rw [List.all_eq_false]
  exact ⟨xs[k], List.getElem_mem hk, by simpa [List.getD, hk] using h⟩
theorem all_done (xs : List Int) (p : Int → Bool) (k : Nat) (hk : k ≤ xs.length) (h1 : ¬ k < xs.length) (h : (xs.take k).all p = true) : xs.all p = true := by
  obtain rfl : k = xs.length := by omega
  rwa [List.take_length] at h


/-- What holds now and in whatever world comes by adding memory. -/
def K (P : World → Prop) (w : World) : Prop := ∀ w', Bel w w' → P w'
theorem K.now {P : World → Prop} {w : World} (h : K P w) : P w := h w (Bel.rfl' w)
theorem K.step {P : World → Prop} {w w' : World} (h : K P w) (hb : Bel w w') : K P w' := fun _ h2 => h _ (hb.step h2)
theorem K.and {P Q : World → Prop} {w : World} (h : K P w) (k : K Q w) : K (fun w => P w ∧ Q w) w := fun w' hb => ⟨h w' hb, k w' hb⟩
theorem K.imp {P Q : World → Prop} {w : World} (h : K P w) (hpq : ∀ w, P w → Q w) : K Q w := fun w' hb => hpq _ (h w' hb)
theorem SlI.k {lo hi w v xs} (h : SlI lo hi w v xs) : K (fun w => SlI lo hi w v xs) w := fun _ hb => h.below hb
theorem OwnI.k {lo hi w v xs} (h : OwnI lo hi w v xs) : K (fun w => OwnI lo hi w v xs) w := fun _ hb => h.below hb
theorem cell_k {w : World} {b : Nat} {v : Value} (h : b < w.heap.size ∧ w.cell? ⟨b, 0, none⟩ = some v) : K (fun w => b < w.heap.size ∧ w.cell? ⟨b, 0, none⟩ = some v) w :=
  fun _ hb => ⟨Nat.lt_of_lt_of_le h.1 hb.size, hb.at h.1 h.2⟩
theorem le_k {n : Nat} {w : World} (h : n ≤ w.heap.size) : K (fun w => n ≤ w.heap.size) w := fun _ hb => Nat.le_trans h hb.size
theorem bel_k {w0 w : World} (h : Bel w0 w) : K (fun w => Bel w0 w) w := fun _ hb => h.step hb
theorem boxk {w w' : World} {cs : Array Value} {t : TypeId} (hb : Bel (w.alloc (.cells cs t)) w') (v : Value) (hv : cs[0]? = some v) : w.heap.size < w'.heap.size ∧ w'.cell? ⟨w.heap.size, 0, none⟩ = some v :=
  ⟨by have := hb.size; simp at this; omega, boxc hb 0 v hv⟩

theorem news_one (w : World) (x : Value) (t : TypeId) : ∀ j u, [x][j]? = some u → (w.alloc (.cells #[x] t)).cell? ((⟨w.heap.size, 0, none⟩ : Addr).add j) = some u := by
  intro j u hj
  match j, hj with
  | 0, hj => simp at hj; subst hj; rw [show (⟨w.heap.size, 0, none⟩ : Addr).add 0 = ⟨w.heap.size, 0, none⟩ from rfl, World.cell?_alloc_new w]; rfl
theorem one_int (n : Int) : ∀ u ∈ [Value.int .i64 n], u.oneCell' = true := by intro u hu; simp at hu; subst hu; rfl
/-- A row of ints grown by one. -/
theorem row_snoc {w : World} {base e : Nat} {v : Value} {acc : List Int} {x : Int} (h : w.ownsRow base e 1 v (acc.length + 1) (acc.map (Value.int .i64) ++ [.int .i64 x])) :
    w.ownsRow base e 1 v (acc ++ [x]).length ((acc ++ [x]).map (Value.int .i64)) := by simpa using h
theorem Bel.grown {a w w' : World} {r : Option Nat} (h : Bel a w) (g : w.grownBy w' r) (hr : ∀ k, r = some k → a.heap.size ≤ k) : Bel a w' := Below.grown h g h.size hr
theorem own_base {w : World} {base e s n : Nat} {v : Value} {xs : List Value} (h : w.ownsRow base e s v n xs) : ∀ k, v.ownBlock = some k → base ≤ k := by
  intro k hk
  rcases h.2 with ⟨rfl, _⟩ | ⟨g, cap, cur, rfl, hg, _⟩
  · simp [Value.ownBlock] at hk
  · simp [Value.ownBlock] at hk; omega
theorem own_form {w : World} {base e s n : Nat} {v : Value} {xs : List Value} (h : w.ownsRow base e s v n xs) : ∃ ad m c, v = .slice ad m c := by
  rcases h.2 with ⟨rfl, _⟩ | ⟨g, cap, cur, rfl, hg, _⟩ <;> exact ⟨_, _, _, rfl⟩
/-- A row lies nowhere but in its own block. -/
theorem ownsRow_bel {w w' : World} {base e s n : Nat} {v : Value} {xs : List Value} (h : w.ownsRow base e s v n xs) (hb : Bel w w') : w'.ownsRow base e s v n xs := by
  refine ⟨h.1, ?_⟩
  rcases h.2 with h0 | ⟨g, cap, cur, e1, e2, hh, r⟩
  · exact .inl h0
  · exact .inr ⟨g, cap, cur, e1, e2, by rw [hb.block g (Array.getElem?_eq_some_iff.1 hh).1]; exact hh, r⟩
end Go.Proofs.Yteegjnobmbcjiaa
end
section
/- Slices of slices of ints: read (SlS), or of the call's own, each in blocks of its own (OwnS); marks. No program. -/
namespace Go.Proofs.Yteegjnobmbcjiaa
open Go.RowKit

/-- The slice value v holds slices of ints. -/
def SlS (lo hi : Nat) (w : World) (v : Value) (xss : List (List Int)) : Prop :=
  ∃ ad cap, v = .slice ad xss.length cap ∧ xss.length ≤ cap ∧ (cap ≤ maxLen ∧ (ad = none → cap = 0)) ∧
    (0 < xss.length → ∃ b off, ad = some ⟨b, off, none⟩ ∧ lo ≤ b ∧ b < hi ∧ ∀ j, j < xss.length → ∃ u, w.cell? ⟨b, off + j, none⟩ = some u ∧ SlI lo hi w u (xss.getD j []))

theorem SlI.empty {lo hi lo' hi' w w' v} (h : SlI lo hi w v []) : SlI lo' hi' w' v [] := by
  obtain ⟨ad, cap, e, hc, hm, _⟩ := h
  exact ⟨ad, cap, e, hc, hm, fun h => absurd h (by simp)⟩
theorem OwnI.empty {lo hi lo' hi' w w' v} (h : OwnI lo hi w v []) : OwnI lo' hi' w' v [] := by
  refine ⟨h.1.empty, fun b off n c hv hn => ?_⟩
  obtain ⟨ad, cap, e, _⟩ := h.1
  rw [e] at hv; simp at hv; omega
theorem len0 {xs : List Int} (h : ¬ 0 < xs.length) : xs = [] := List.length_eq_zero_iff.1 (by omega)
theorem SlS.form {lo hi w v xss} (h : SlS lo hi w v xss) : ∃ ad c, v = .slice ad xss.length c := by obtain ⟨ad, c, h, _⟩ := h; exact ⟨ad, c, h⟩
theorem SlS.mono {lo hi lo' hi' w v xss} (h : SlS lo hi w v xss) (h1 : lo' ≤ lo) (h2 : hi ≤ hi') : SlS lo' hi' w v xss := by
  obtain ⟨ad, cap, rfl, hc, hm, hr⟩ := h
  refine ⟨ad, cap, rfl, hc, hm, fun hp => ?_⟩
  obtain ⟨b, off, e, a1, a2, a3⟩ := hr hp
  refine ⟨b, off, e, by omega, by omega, fun j hj => ?_⟩
  obtain ⟨u, hu, hs⟩ := a3 j hj
  exact ⟨u, hu, hs.mono h1 h2⟩
theorem SlS.same {lo hi w w' v xss} (h : SlS lo hi w v xss) (hs : ∀ b, lo ≤ b → b < hi → b < w.heap.size → w'.heap[b]? = w.heap[b]?) : SlS lo hi w' v xss := by
  obtain ⟨ad, cap, rfl, hc, hm, hr⟩ := h
  refine ⟨ad, cap, rfl, hc, hm, fun hp => ?_⟩
  obtain ⟨b, off, e, a1, a2, a3⟩ := hr hp
  refine ⟨b, off, e, a1, a2, fun j hj => ?_⟩
  obtain ⟨u, hu, hq⟩ := a3 j hj
  have hb : b < w.heap.size := World.block_lt_of_cell? w ⟨b, off + j, none⟩ hu
  refine ⟨u, ?_, hq.same hs⟩
  rw [World.cell?_of_block (w := w) (a := ⟨b, off + j, none⟩) (hs b a1 a2 hb)]
  exact hu
theorem SlS.below {lo hi w w' v xss} (h : SlS lo hi w v xss) (hb : Bel w w') : SlS lo hi w' v xss := h.same fun b _ _ h3 => hb.block b h3
theorem SlS.alloc {lo hi w v xss} (h : SlS lo hi w v xss) (o : Obj) : SlS lo hi (w.alloc o) v xss := h.below (Bel.alloc0 w o)
theorem SlS.k {lo hi w v xss} (h : SlS lo hi w v xss) : K (fun w => SlS lo hi w v xss) w := fun _ hb => h.below hb
theorem SlS.chg {lo hi lo' hi' w w' v xss} (h : SlS lo hi w v xss) (k : Chg lo' hi' w w') (hd : hi ≤ lo' ∨ hi' ≤ lo) : SlS lo hi w' v xss :=
  h.same fun b h1 h2 h3 => k.block b h3 (by omega)
theorem SlS.nil (lo hi : Nat) (w : World) : SlS lo hi w (.slice none 0 0) [] := ⟨none, 0, rfl, Nat.le_refl _, ⟨Nat.zero_le _, fun _ => rfl⟩, fun h => absurd h (by simp)⟩
/-- Reading the k-th. -/
theorem SlS.at {lo hi : Nat} {w wr : World} {ad : Option Addr} {c n : Nat} {xss : List (List Int)} (h : SlS lo hi w (.slice ad n c) xss) (hb : Bel w wr) (k : Nat) (hk : k < xss.length) :
    ∃ b off u, ad = some ⟨b, off, none⟩ ∧ b < w.heap.size ∧ wr.cell? ⟨b, off + k, none⟩ = some u ∧ SlI lo hi wr u (xss.getD k []) := by
  obtain ⟨ad', cap, e, _, _, hr⟩ := h
  obtain ⟨b, off, e2, _, _, hc⟩ := hr (by omega)
  obtain ⟨u, hu, hs⟩ := hc k hk
  have h1 := World.block_lt_of_cell? w ⟨b, off + k, none⟩ hu
  simp only [Value.slice.injEq] at e
  exact ⟨b, off, u, e.1.trans e2, h1, (hb.cell (p := ⟨b, off + k, none⟩) h1).trans hu, hs.below hb⟩
theorem SlS.len {lo hi : Nat} {w : World} {ad : Option Addr} {c n : Nat} {xss : List (List Int)} (h : SlS lo hi w (.slice ad n c) xss) : n = xss.length := by
  obtain ⟨ad', cap, e, _⟩ := h
  simp only [Value.slice.injEq] at e
  exact e.2.1
theorem SlS.max {lo hi w v xss} (h : SlS lo hi w v xss) : xss.length ≤ 9223372036854775807 ∧ ∀ j, j < xss.length → (xss.getD j []).length ≤ 9223372036854775807 := by
  obtain ⟨ad, cap, e, hc, hm, hr⟩ := h
  have hml : maxLen = 9223372036854775807 := rfl
  refine ⟨by omega, fun j hj => ?_⟩
  obtain ⟨b, off, _, _, _, hx⟩ := hr (by omega)
  obtain ⟨u, _, ad2, cap2, _, hc2, hm2, _⟩ := hx j hj
  omega

/-- The elements us of a row in block b: slices of the call's own, each in a block of its own. -/
structure Ins (lo hi b : Nat) (w : World) (us : List Value) (xss : List (List Int)) (bs : Nat → Nat) : Prop where
  len : us.length = xss.length
  rng : ∀ j, j < xss.length → 0 < (xss.getD j []).length → lo ≤ bs j ∧ bs j < hi ∧ bs j ≠ b
  inj : ∀ i j, i < j → j < xss.length → 0 < (xss.getD i []).length → 0 < (xss.getD j []).length → bs i ≠ bs j
  own : ∀ j u, us[j]? = some u → OwnI (bs j) (bs j + 1) w u (xss.getD j [])
def OwnS (lo hi : Nat) (w : World) (v : Value) (xss : List (List Int)) : Prop :=
  ∃ ad cap, v = .slice ad xss.length cap ∧ xss.length ≤ cap ∧ (cap ≤ maxLen ∧ (ad = none → cap = 0)) ∧
    (0 < xss.length → ∃ b off us bs, ad = some ⟨b, off, none⟩ ∧ lo ≤ b ∧ b < hi ∧ (∀ j u, us[j]? = some u → w.cell? ⟨b, off + j, none⟩ = some u) ∧ Ins lo hi b w us xss bs)

theorem OwnI.block {lo hi w v xs} (h : OwnI lo hi w v xs) : ∃ c, OwnI c (c + 1) w v xs ∧ (0 < xs.length → lo ≤ c ∧ c < hi) := by
  obtain ⟨⟨ad, cap, rfl, hc, hm, hr⟩, hf⟩ := h
  by_cases hp : 0 < xs.length
  · obtain ⟨b, off, e, a1, a2, a3⟩ := hr hp
    exact ⟨b, ⟨⟨ad, cap, rfl, hc, hm, fun _ => ⟨b, off, e, Nat.le_refl _, Nat.lt_succ_self _, a3⟩⟩, hf⟩, fun _ => ⟨a1, a2⟩⟩
  · exact ⟨0, ⟨⟨ad, cap, rfl, hc, hm, fun h => absurd h hp⟩, hf⟩, fun h => absurd h hp⟩
theorem Ins.sl {lo hi b w us xss bs} (h : Ins lo hi b w us xss bs) (j : Nat) (u : Value) (hj : us[j]? = some u) : SlI lo hi w u (xss.getD j []) := by
  have ho := h.own j u hj
  have hlt : j < xss.length := by rw [← h.len]; exact (List.getElem?_eq_some_iff.1 hj).1
  by_cases hp : 0 < (xss.getD j []).length
  · obtain ⟨a1, a2, _⟩ := h.rng j hlt hp
    exact ho.1.mono a1 (by omega)
  · rw [len0 hp] at ho ⊢
    exact ho.1.empty
theorem OwnS.sl {lo hi w v xss} (h : OwnS lo hi w v xss) : SlS lo hi w v xss := by
  obtain ⟨ad, cap, rfl, hc, hm, hr⟩ := h
  refine ⟨ad, cap, rfl, hc, hm, fun hp => ?_⟩
  obtain ⟨b, off, us, bs, e, a1, a2, a3, hi⟩ := hr hp
  refine ⟨b, off, e, a1, a2, fun j hj => ?_⟩
  have hl := hi.len
  have hj2 : us[j]? = some us[j] := List.getElem?_eq_getElem (by omega)
  exact ⟨us[j], a3 j _ hj2, hi.sl j _ hj2⟩
theorem Ins.same {lo hi b w w' us xss bs} (h : Ins lo hi b w us xss bs) (hs : ∀ b, lo ≤ b → b < hi → b < w.heap.size → w'.heap[b]? = w.heap[b]?) : Ins lo hi b w' us xss bs := by
  refine ⟨h.len, h.rng, h.inj, fun j u hj => ?_⟩
  have ho := h.own j u hj
  have hlt : j < xss.length := by rw [← h.len]; exact (List.getElem?_eq_some_iff.1 hj).1
  by_cases hp : 0 < (xss.getD j []).length
  · obtain ⟨a1, a2, _⟩ := h.rng j hlt hp
    exact ho.same fun b h1 h2 h3 => hs b (by omega) (by omega) h3
  · rw [len0 hp] at ho ⊢
    exact ho.empty
theorem Ins.below {lo hi b w w' us xss bs} (h : Ins lo hi b w us xss bs) (hb : Bel w w') : Ins lo hi b w' us xss bs := h.same fun b _ _ h3 => hb.block b h3
theorem Ins.mono {lo hi lo' hi' b w us xss bs} (h : Ins lo hi b w us xss bs) (h1 : lo' ≤ lo) (h2 : hi ≤ hi') : Ins lo' hi' b w us xss bs :=
  ⟨h.len, fun j hj hp => by have := h.rng j hj hp; omega, h.inj, h.own⟩
theorem OwnS.same {lo hi w w' v xss} (h : OwnS lo hi w v xss) (hs : ∀ b, lo ≤ b → b < hi → b < w.heap.size → w'.heap[b]? = w.heap[b]?) : OwnS lo hi w' v xss := by
  obtain ⟨ad, cap, rfl, hc, hm, hr⟩ := h
  refine ⟨ad, cap, rfl, hc, hm, fun hp => ?_⟩
  obtain ⟨b, off, us, bs, e, a1, a2, a3, hi⟩ := hr hp
  refine ⟨b, off, us, bs, e, a1, a2, fun j u hj => ?_, hi.same hs⟩
  have hb : b < w.heap.size := World.block_lt_of_cell? w ⟨b, off + j, none⟩ (a3 j u hj)
  rw [World.cell?_of_block (w := w) (a := ⟨b, off + j, none⟩) (hs b a1 a2 hb)]
  exact a3 j u hj
theorem OwnS.below {lo hi w w' v xss} (h : OwnS lo hi w v xss) (hb : Bel w w') : OwnS lo hi w' v xss := h.same fun b _ _ h3 => hb.block b h3
theorem OwnS.alloc {lo hi w v xss} (h : OwnS lo hi w v xss) (o : Obj) : OwnS lo hi (w.alloc o) v xss := h.below (Bel.alloc0 w o)
theorem OwnS.k {lo hi w v xss} (h : OwnS lo hi w v xss) : K (fun w => OwnS lo hi w v xss) w := fun _ hb => h.below hb
theorem OwnS.chg {lo hi lo' hi' w w' v xss} (h : OwnS lo hi w v xss) (k : Chg lo' hi' w w') (hd : hi ≤ lo' ∨ hi' ≤ lo) : OwnS lo hi w' v xss :=
  h.same fun b h1 h2 h3 => k.block b h3 (by omega)
theorem OwnS.mono {lo hi lo' hi' w v xss} (h : OwnS lo hi w v xss) (h1 : lo' ≤ lo) (h2 : hi ≤ hi') : OwnS lo' hi' w v xss := by
  obtain ⟨ad, cap, rfl, hc, hm, hr⟩ := h
  refine ⟨ad, cap, rfl, hc, hm, fun hp => ?_⟩
  obtain ⟨b, off, us, bs, e, a1, a2, a3, hi⟩ := hr hp
  exact ⟨b, off, us, bs, e, by omega, by omega, a3, hi.mono h1 h2⟩
theorem OwnS.nil (lo hi : Nat) (w : World) : OwnS lo hi w (.slice none 0 0) [] := ⟨none, 0, rfl, Nat.le_refl _, ⟨Nat.zero_le _, fun _ => rfl⟩, fun h => absurd h (by simp)⟩

theorem Ins.none (lo hi b : Nat) (w : World) : Ins lo hi b w [] [] (fun _ => 0) := ⟨rfl, fun j h => absurd h (by simp), fun i j _ h => absurd h (by simp), fun j u h => by simp at h⟩
/-- One more, in a newer block. -/
theorem Ins.snoc {lo hi b : Nat} {w : World} {us : List Value} {xss : List (List Int)} {bs : Nat → Nat} (h : Ins lo hi b w us xss bs) {l2 h2 : Nat} {u : Value} {xs : List Int} (ho : OwnI l2 h2 w u xs)
    (hl : hi ≤ l2) (hlo : lo ≤ l2) (hbl : b < l2 ∨ h2 ≤ b) {hi2 : Nat} (h1 : h2 ≤ hi2) (h3 : hi ≤ hi2) : ∃ bs', Ins lo hi2 b w (us ++ [u]) (xss ++ [xs]) bs' := by
  obtain ⟨c, hc, hr⟩ := ho.block
  have hn := h.len
  refine ⟨fun j => if j = xss.length then c else bs j, by simp [hn], fun j hj hp => ?_, fun i j hij hj hpi hpj => ?_, fun j v hj => ?_⟩
  · by_cases e : j = xss.length
    · subst e
      simp only [List.getD, List.getElem?_append_right (Nat.le_refl _), Nat.sub_self, List.getElem?_cons_zero, Option.getD_some] at hp
      have := hr hp
      simp only [if_true]
      omega
    · have hlt : j < xss.length := by simp at hj; omega
      simp only [List.getD, List.getElem?_append_left hlt] at hp
      have := h.rng j hlt hp
      simp only [e, if_false]
      omega
  · have hilt : i < xss.length := by simp at hj; omega
    simp only [List.getD, List.getElem?_append_left hilt] at hpi
    by_cases e : j = xss.length
    · subst e
      simp only [List.getD, List.getElem?_append_right (Nat.le_refl _), Nat.sub_self, List.getElem?_cons_zero, Option.getD_some] at hpj
      have h5 := hr hpj
      have h6 := h.rng i hilt hpi
      simp only [if_true]
      rw [if_neg (by omega)]
      omega
    · have hlt : j < xss.length := by simp at hj; omega
      simp only [List.getD, List.getElem?_append_left hlt] at hpj
      simp only [e, if_false]
      rw [if_neg (by omega)]
      exact h.inj i j hij hlt hpi hpj
  · by_cases e : j = xss.length
    · subst e
      rw [List.getElem?_append_right (by omega), hn, Nat.sub_self] at hj
      simp only [List.getElem?_cons_zero, Option.some.injEq] at hj
      subst hj
      simpa [List.getD] using hc
    · have hlt : j < us.length := by
        have := (List.getElem?_eq_some_iff.1 hj).1
        simp at this; omega
      rw [List.getElem?_append_left hlt] at hj
      have := h.own j v hj
      simp only [e, if_false]
      simpa [List.getD, List.getElem?_append_left (show j < xss.length by omega)] using this

/-- A row that the call itself made, as a slice of slices. -/
theorem OwnS.of_row {w : World} {base e hi : Nat} {v : Value} {us : List Value} {xss : List (List Int)} {bs : Nat → Nat} (h : w.ownsRow base e 1 v xss.length us) (hi' : w.heap.size ≤ hi)
    (hin : ∀ g, v.ownBlock = some g → Ins base hi g w us xss bs) : OwnS base hi w v xss := by
  have h0 := h
  obtain ⟨h1, h2⟩ := h
  rcases h2 with ⟨rfl, hn⟩ | ⟨g, cap, cur, rfl, hg, hh, hn, hc, hs, ht⟩
  · obtain rfl : xss = [] := List.length_eq_zero_iff.1 hn
    exact OwnS.nil _ _ _
  · have hgs : g < w.heap.size := (Array.getElem?_eq_some_iff.1 hh).1
    refine ⟨_, cap, rfl, hn, ⟨hc, fun h => by simp at h⟩, fun hp => ⟨g, 0, us, bs, rfl, hg, by omega, fun j u hj => ?_, hin g rfl⟩⟩
    rw [Nat.zero_add, h0.cellAt j (by have := (List.getElem?_eq_some_iff.1 hj).1; omega)]
    exact hj

def sumL (xss : List (List Int)) : Nat := (xss.map List.length).sum
theorem sumL_take (xss : List (List Int)) (k : Nat) (h : k < xss.length) : sumL (xss.take (k+1)) = sumL (xss.take k) + (xss.getD k []).length := by
  unfold sumL
  rw [List.take_succ_eq_append_getElem h, List.map_append, List.sum_append]
  simp [List.getD, h]
theorem sumL_all (xss : List (List Int)) (k : Nat) (h : ¬ k < xss.length) : sumL (xss.take k) = sumL xss := by rw [List.take_of_length_le (by omega)]
theorem sumL_le (xss : List (List Int)) (k : Nat) : sumL (xss.take k) ≤ sumL xss := by
  conv => rhs; rw [← List.take_append_drop k xss]
  unfold sumL
  rw [List.map_append, List.sum_append]
  omega
theorem sumL_get (xss : List (List Int)) (k : Nat) (h : k < xss.length) : sumL (xss.take k) + (xss.getD k []).length ≤ sumL xss := by
  rw [← sumL_take xss k h]; exact sumL_le _ _
def tot (xss : List (List Int)) : Nat := xss.length + sumL xss
def short (xss : List (List Int)) : Prop := xss.length ≤ 1048576 ∧ ∀ j, j < xss.length → (xss.getD j []).length ≤ 1048576
theorem short_of_tot {xss : List (List Int)} (h : tot xss ≤ 1048576) : short xss := by
  unfold tot at h
  refine ⟨by omega, fun j hj => ?_⟩
  have := sumL_get xss j hj
  omega

def marksS (k : Nat) : List (List Int) → List (List Int)
  | [] => []
  | x :: r => marks k x.length :: marksS (k + x.length) r
theorem marksS_len (k : Nat) (xss : List (List Int)) : (marksS k xss).length = xss.length := by
  induction xss generalizing k with
  | nil => rfl
  | cons x r ih => simp [marksS, ih]
theorem marksS_app (k : Nat) (xss yss : List (List Int)) : marksS k (xss ++ yss) = marksS k xss ++ marksS (k + sumL xss) yss := by
  induction xss generalizing k with
  | nil => simp [marksS, sumL]
  | cons x r ih => simp [marksS, ih, sumL, Nat.add_assoc]
theorem marksS_get (k : Nat) (xss : List (List Int)) (j : Nat) (h : j < xss.length) : (marksS k xss).getD j [] = marks (k + sumL (xss.take j)) (xss.getD j []).length := by
  conv => lhs; rw [← List.take_append_drop j xss, marksS_app, List.drop_eq_getElem_cons h]
  have hl : (marksS k (xss.take j)).length = j := by rw [marksS_len, List.length_take]; omega
  simp only [List.getD]
  rw [List.getElem?_append_right (by omega), hl, Nat.sub_self]
  simp [marksS, h]
/-- The first j are marked. -/
def markedS (xss : List (List Int)) (k j : Nat) : List (List Int) := marksS k (xss.take j) ++ xss.drop j
theorem markedS_zero (xss : List (List Int)) (k : Nat) : markedS xss k 0 = xss := by simp [markedS, marksS]
theorem markedS_len (xss : List (List Int)) (k j : Nat) (h : j ≤ xss.length) : (markedS xss k j).length = xss.length := by simp [markedS, marksS_len]; omega
theorem markedS_all (xss : List (List Int)) (k j : Nat) (h : ¬ j < xss.length) : markedS xss k j = marksS k xss := by
  unfold markedS
  rw [List.take_of_length_le (by omega), List.drop_eq_nil_of_le (by omega), List.append_nil]
theorem markedS_get (xss : List (List Int)) (k j : Nat) (h : j < xss.length) : (markedS xss k j).getD j [] = xss.getD j [] := by
  have hl : (marksS k (xss.take j)).length = j := by rw [marksS_len, List.length_take]; omega
  unfold markedS
  simp only [List.getD]
  rw [List.getElem?_append_right (by omega), hl, Nat.sub_self]
  simp
theorem markedS_succ (xss : List (List Int)) (k j : Nat) (h : j < xss.length) : (markedS xss k j).set j (marks (k + sumL (xss.take j)) (xss.getD j []).length) = markedS xss k (j+1) := by
  have hl : (marksS k (xss.take j)).length = j := by rw [marksS_len, List.length_take]; omega
  unfold markedS
  rw [List.set_append_right _ _ (by omega), hl, Nat.sub_self, List.drop_eq_getElem_cons h, List.set_cons_zero, List.take_succ_eq_append_getElem h, marksS_app]
  simp [marksS, List.getD, h]

/-- The j-th is written anew, at the same length. -/
theorem Ins.stored {lo hi b : Nat} {w w' : World} {us : List Value} {xss : List (List Int)} {bs : Nat → Nat} (h : Ins lo hi b w us xss bs) (j : Nat) (hj : j < xss.length) (u : Value) (hu : us[j]? = some u) (ys : List Int)
    (hl : ys.length = (xss.getD j []).length) (hg : 0 < ys.length → Chg (bs j) (bs j + 1) w w') (hg0 : ¬ 0 < ys.length → Chg 0 0 w w') (ho : OwnI (bs j) (bs j + 1) w' u ys) : Ins lo hi b w' us (xss.set j ys) bs := by
  have hget : ∀ i, ((xss.set j ys).getD i []) = if i = j then ys else xss.getD i [] := by
    intro i
    by_cases e : i = j
    · subst e; simp [List.getD, hj]
    · simp [List.getD, Ne.symm e, e]
  have hgl : ∀ i, ((xss.set j ys).getD i []).length = (xss.getD i []).length := by
    intro i; rw [hget i]; split
    · rename_i e; rw [e, hl]
    · rfl
  refine ⟨by simpa using h.len, fun i hi hp => ?_, fun i k hik hk h1 h2 => ?_, fun i v hv => ?_⟩
  · rw [hgl] at hp; exact h.rng i (by simpa using hi) hp
  · rw [hgl] at h1 h2; exact h.inj i k hik (by simpa using hk) h1 h2
  · rw [hget i]
    have hilt : i < xss.length := by rw [← h.len]; exact (List.getElem?_eq_some_iff.1 hv).1
    by_cases e : i = j
    · subst e
      rw [hu] at hv
      obtain rfl : u = v := by simpa using hv
      simpa using ho
    · simp only [e, if_false]
      have hio := h.own i v hv
      by_cases hp : 0 < (xss.getD i []).length
      · by_cases hpj : 0 < ys.length
        · have hne : bs i ≠ bs j := by
            rcases Nat.lt_or_gt_of_ne e with h1 | h1
            · exact h.inj i j h1 hj hp (by omega)
            · exact (h.inj j i h1 hilt (by omega) hp).symm
          exact hio.chg (hg hpj) (by omega)
        · exact hio.chg (hg0 hpj) (by omega)
      · rw [len0 hp] at hio ⊢
        exact hio.empty
def RetSS (w : World) (xss : List (List Int)) (e : Ending) (w' : World) : Prop := ∃ ad n c, e = .returned (.slice ad n c) ∧ OwnS w.heap.size w'.heap.size w' (.slice ad n c) xss ∧ Bel w w'
def RetSSB (w : World) (xss : List (List Int)) (ok : Bool) (e : Ending) (w' : World) : Prop := ∃ ad n c, e = .returned (.tuple #[.slice ad n c, .bool ok]) ∧ OwnS w.heap.size w'.heap.size w' (.slice ad n c) xss ∧ Bel w w'
end Go.Proofs.Yteegjnobmbcjiaa
end
section
/- Slices of literals (a sign and two slices of ints): read (SlC), or of the call's own (OwnC); marks. No program. -/
namespace Go.Proofs.Yteegjnobmbcjiaa
open Go.RowKit

/-- A literal: its sign, its two terms. -/
abbrev Lt := Bool × List Int × List Int
def lt0 : Lt := (false, [], [])
def wC (x : Lt) : Nat := 1 + x.2.1.length + x.2.2.length
def sumC (c : List Lt) : Nat := (c.map wC).sum
theorem sumC_take (c : List Lt) (k : Nat) (h : k < c.length) : sumC (c.take (k+1)) = sumC (c.take k) + wC (c.getD k lt0) := by
  unfold sumC
  rw [List.take_succ_eq_append_getElem h, List.map_append, List.sum_append]
  simp [List.getD, h]
theorem sumC_all (c : List Lt) (k : Nat) (h : ¬ k < c.length) : sumC (c.take k) = sumC c := by rw [List.take_of_length_le (by omega)]
theorem sumC_le (c : List Lt) (k : Nat) : sumC (c.take k) ≤ sumC c := by
  conv => rhs; rw [← List.take_append_drop k c]
  unfold sumC
  rw [List.map_append, List.sum_append]
  omega
theorem sumC_get (c : List Lt) (k : Nat) (h : k < c.length) : sumC (c.take k) + wC (c.getD k lt0) ≤ sumC c := by
  rw [← sumC_take c k h]; exact sumC_le _ _
theorem sumC_len (c : List Lt) : c.length ≤ sumC c := by
  induction c with
  | nil => simp [sumC]
  | cons x r ih => simp only [sumC, List.map_cons, List.sum_cons, List.length_cons, wC] at *; omega
def shortC (c : List Lt) : Prop := c.length ≤ 1048576 ∧ ∀ j, j < c.length → (c.getD j lt0).2.1.length ≤ 1048576 ∧ (c.getD j lt0).2.2.length ≤ 1048576
theorem shortC_of_sum {c : List Lt} (h : sumC c ≤ 1048576) : shortC c := by
  have := sumC_len c
  refine ⟨by omega, fun j hj => ?_⟩
  have := sumC_get c j hj
  unfold wC at this
  omega
/-- Its terms, literal by literal. -/
def flatC (c : List Lt) : List (List Int) := c.flatMap fun x => [x.2.1, x.2.2]
theorem flatC_nil : flatC [] = [] := rfl
theorem flatC_cons (x : Lt) (c : List Lt) : flatC (x :: c) = x.2.1 :: x.2.2 :: flatC c := rfl
theorem flatC_len (c : List Lt) : (flatC c).length = 2 * c.length := by
  induction c with
  | nil => rfl
  | cons x r ih => rw [flatC_cons]; simp [ih]; omega
theorem flatC_app (c d : List Lt) : flatC (c ++ d) = flatC c ++ flatC d := by simp [flatC]
theorem flatC_get (c : List Lt) (j : Nat) : (flatC c).getD (2*j) [] = (c.getD j lt0).2.1 ∧ (flatC c).getD (2*j+1) [] = (c.getD j lt0).2.2 := by
  induction c generalizing j with
  | nil => simp [flatC, lt0]
  | cons x r ih =>
    cases j with
    | zero => simp [flatC_cons]
    | succ j =>
      rw [flatC_cons, show 2 * (j+1) = (2*j+1) + 1 from by omega]
      simpa [List.getD] using ih j

def marksC (k : Nat) : List Lt → List Lt
  | [] => []
  | x :: r => (decide (k % 3 = 0), marks (k+1) x.2.1.length, marks (k+1+x.2.1.length) x.2.2.length) :: marksC (k + wC x) r
theorem marksC_len (k : Nat) (c : List Lt) : (marksC k c).length = c.length := by
  induction c generalizing k with
  | nil => rfl
  | cons x r ih => simp [marksC, ih]
theorem marksC_app (k : Nat) (c d : List Lt) : marksC k (c ++ d) = marksC k c ++ marksC (k + sumC c) d := by
  induction c generalizing k with
  | nil => simp [marksC, sumC]
  | cons x r ih => simp [marksC, ih, sumC, Nat.add_assoc]
def mark1 (k : Nat) (x : Lt) : Lt := (decide (k % 3 = 0), marks (k+1) x.2.1.length, marks (k+1+x.2.1.length) x.2.2.length)
theorem marksC_get (k : Nat) (c : List Lt) (j : Nat) (h : j < c.length) : (marksC k c).getD j lt0 = mark1 (k + sumC (c.take j)) (c.getD j lt0) := by
  conv => lhs; rw [← List.take_append_drop j c, marksC_app, List.drop_eq_getElem_cons h]
  have hl : (marksC k (c.take j)).length = j := by rw [marksC_len, List.length_take]; omega
  simp only [List.getD]
  rw [List.getElem?_append_right (by omega), hl, Nat.sub_self]
  simp [marksC, mark1, h]
/-- The first j are marked. -/
def markedC (c : List Lt) (k j : Nat) : List Lt := marksC k (c.take j) ++ c.drop j
theorem markedC_zero (c : List Lt) (k : Nat) : markedC c k 0 = c := by simp [markedC, marksC]
theorem markedC_len (c : List Lt) (k j : Nat) (h : j ≤ c.length) : (markedC c k j).length = c.length := by simp [markedC, marksC_len]; omega
theorem markedC_all (c : List Lt) (k j : Nat) (h : ¬ j < c.length) : markedC c k j = marksC k c := by
  unfold markedC
  rw [List.take_of_length_le (by omega), List.drop_eq_nil_of_le (by omega), List.append_nil]
theorem markedC_get (c : List Lt) (k j : Nat) (h : j < c.length) : (markedC c k j).getD j lt0 = c.getD j lt0 := by
  have hl : (marksC k (c.take j)).length = j := by rw [marksC_len, List.length_take]; omega
  unfold markedC
  simp only [List.getD]
  rw [List.getElem?_append_right (by omega), hl, Nat.sub_self]
  simp
theorem markedC_succ (c : List Lt) (k j : Nat) (h : j < c.length) : (markedC c k j).set j (mark1 (k + sumC (c.take j)) (c.getD j lt0)) = markedC c k (j+1) := by
  have hl : (marksC k (c.take j)).length = j := by rw [marksC_len, List.length_take]; omega
  unfold markedC
  rw [List.set_append_right _ _ (by omega), hl, Nat.sub_self, List.drop_eq_getElem_cons h, List.set_cons_zero, List.take_succ_eq_append_getElem h, marksC_app]
  simp [marksC, mark1, List.getD, h]

/-- The slice value v holds literals. -/
def SlC (lo hi : Nat) (w : World) (v : Value) (c : List Lt) : Prop :=
  ∃ ad cap, v = .slice ad c.length cap ∧ c.length ≤ cap ∧ (cap ≤ maxLen ∧ (ad = none → cap = 0)) ∧
    (0 < c.length → ∃ b off, ad = some ⟨b, off, none⟩ ∧ lo ≤ b ∧ b < hi ∧ ∀ j, j < c.length → ∃ u1 u2, w.cell? ⟨b, off + j * 3, none⟩ = some (.bool (c.getD j lt0).1) ∧ w.cell? ⟨b, off + j * 3 + 1, none⟩ = some u1 ∧ w.cell? ⟨b, off + j * 3 + 2, none⟩ = some u2 ∧ SlI lo hi w u1 (c.getD j lt0).2.1 ∧ SlI lo hi w u2 (c.getD j lt0).2.2)
theorem SlC.form {lo hi w v c} (h : SlC lo hi w v c) : ∃ ad k, v = .slice ad c.length k := by obtain ⟨ad, k, h, _⟩ := h; exact ⟨ad, k, h⟩
theorem SlC.mono {lo hi lo' hi' w v c} (h : SlC lo hi w v c) (h1 : lo' ≤ lo) (h2 : hi ≤ hi') : SlC lo' hi' w v c := by
  obtain ⟨ad, cap, rfl, hc, hm, hr⟩ := h
  refine ⟨ad, cap, rfl, hc, hm, fun hp => ?_⟩
  obtain ⟨b, off, e, a1, a2, a3⟩ := hr hp
  refine ⟨b, off, e, by omega, by omega, fun j hj => ?_⟩
  obtain ⟨u1, u2, c1, c2, c3, s1, s2⟩ := a3 j hj
  exact ⟨u1, u2, c1, c2, c3, s1.mono h1 h2, s2.mono h1 h2⟩
theorem cell_same {w w' : World} {a : Addr} {v : Value} (hs : a.block < w.heap.size → w'.heap[a.block]? = w.heap[a.block]?) (h : w.cell? a = some v) : w'.cell? a = some v := by
  rw [World.cell?_of_block (w := w) (a := a) (hs (World.block_lt_of_cell? w a h))]; exact h
theorem SlC.same {lo hi w w' v c} (h : SlC lo hi w v c) (hs : ∀ b, lo ≤ b → b < hi → b < w.heap.size → w'.heap[b]? = w.heap[b]?) : SlC lo hi w' v c := by
  obtain ⟨ad, cap, rfl, hc, hm, hr⟩ := h
  refine ⟨ad, cap, rfl, hc, hm, fun hp => ?_⟩
  obtain ⟨b, off, e, a1, a2, a3⟩ := hr hp
  refine ⟨b, off, e, a1, a2, fun j hj => ?_⟩
  obtain ⟨u1, u2, c1, c2, c3, s1, s2⟩ := a3 j hj
  exact ⟨u1, u2, cell_same (hs b a1 a2) c1, cell_same (hs b a1 a2) c2, cell_same (hs b a1 a2) c3, s1.same hs, s2.same hs⟩
theorem SlC.below {lo hi w w' v c} (h : SlC lo hi w v c) (hb : Bel w w') : SlC lo hi w' v c := h.same fun b _ _ h3 => hb.block b h3
theorem SlC.alloc {lo hi w v c} (h : SlC lo hi w v c) (o : Obj) : SlC lo hi (w.alloc o) v c := h.below (Bel.alloc0 w o)
theorem SlC.k {lo hi w v c} (h : SlC lo hi w v c) : K (fun w => SlC lo hi w v c) w := fun _ hb => h.below hb
theorem SlC.chg {lo hi lo' hi' w w' v c} (h : SlC lo hi w v c) (k : Chg lo' hi' w w') (hd : hi ≤ lo' ∨ hi' ≤ lo) : SlC lo hi w' v c :=
  h.same fun b h1 h2 h3 => k.block b h3 (by omega)
theorem SlC.nil (lo hi : Nat) (w : World) : SlC lo hi w (.slice none 0 0) [] := ⟨none, 0, rfl, Nat.le_refl _, ⟨Nat.zero_le _, fun _ => rfl⟩, fun h => absurd h (by simp)⟩
theorem SlC.len {lo hi : Nat} {w : World} {ad : Option Addr} {k n : Nat} {c : List Lt} (h : SlC lo hi w (.slice ad n k) c) : n = c.length := by
  obtain ⟨ad', cap, e, _⟩ := h
  simp only [Value.slice.injEq] at e
  exact e.2.1
/-- Reading the j-th. -/
theorem SlC.at {lo hi : Nat} {w wr : World} {ad : Option Addr} {k n : Nat} {c : List Lt} (h : SlC lo hi w (.slice ad n k) c) (hb : Bel w wr) (j : Nat) (hj : j < c.length) :
    ∃ b off u1 u2, ad = some ⟨b, off, none⟩ ∧ b < w.heap.size ∧ wr.cell? ⟨b, off + j * 3, none⟩ = some (.bool (c.getD j lt0).1) ∧ wr.cell? ⟨b, off + j * 3 + 1, none⟩ = some u1 ∧ wr.cell? ⟨b, off + j * 3 + 2, none⟩ = some u2 ∧ SlI lo hi wr u1 (c.getD j lt0).2.1 ∧ SlI lo hi wr u2 (c.getD j lt0).2.2 := by
  obtain ⟨ad', cap, e, _, _, hr⟩ := h
  obtain ⟨b, off, e2, _, _, hc⟩ := hr (by omega)
  obtain ⟨u1, u2, c1, c2, c3, s1, s2⟩ := hc j hj
  have h1 := World.block_lt_of_cell? w ⟨b, off + j * 3, none⟩ c1
  simp only [Value.slice.injEq] at e
  exact ⟨b, off, u1, u2, e.1.trans e2, h1, cell_same (fun h => hb.block b h) c1, cell_same (fun h => hb.block b h) c2, cell_same (fun h => hb.block b h) c3, s1.below hb, s2.below hb⟩

/-- A literal's three cells. -/
abbrev LV := Bool × Value × Value
def cellsC (zs : List LV) : List Value := zs.flatMap fun z => [.bool z.1, z.2.1, z.2.2]
def rowsC (zs : List LV) : List Value := zs.flatMap fun z => [z.2.1, z.2.2]
theorem cellsC_len (zs : List LV) : (cellsC zs).length = zs.length * 3 := by
  induction zs with
  | nil => rfl
  | cons x r ih => show (_ :: _ :: _ :: cellsC r).length = _; simp [ih]; omega
theorem rowsC_len (zs : List LV) : (rowsC zs).length = 2 * zs.length := by
  induction zs with
  | nil => rfl
  | cons x r ih => show (_ :: _ :: rowsC r).length = _; simp [ih]; omega
theorem cellsC_get (zs : List LV) (j : Nat) (z : LV) (h : zs[j]? = some z) : (cellsC zs)[j * 3]? = some (.bool z.1) ∧ (cellsC zs)[j * 3 + 1]? = some z.2.1 ∧ (cellsC zs)[j * 3 + 2]? = some z.2.2 := by
  induction zs generalizing j with
  | nil => simp at h
  | cons x r ih =>
    have e : cellsC (x :: r) = .bool x.1 :: x.2.1 :: x.2.2 :: cellsC r := rfl
    cases j with
    | zero => simp at h; subst h; rw [e]; simp
    | succ j =>
      rw [e, show (j + 1) * 3 = j * 3 + 1 + 1 + 1 from by omega]
      simpa using ih j (by simpa using h)
theorem rowsC_get (zs : List LV) (j : Nat) (z : LV) (h : zs[j]? = some z) : (rowsC zs)[2 * j]? = some z.2.1 ∧ (rowsC zs)[2 * j + 1]? = some z.2.2 := by
  induction zs generalizing j with
  | nil => simp at h
  | cons x r ih =>
    have e : rowsC (x :: r) = x.2.1 :: x.2.2 :: rowsC r := rfl
    cases j with
    | zero => simp at h; subst h; rw [e]; simp
    | succ j =>
      rw [e, show 2 * (j + 1) = 2 * j + 1 + 1 from by omega]
      simpa using ih j (by simpa using h)
theorem rowsC_app (zs ys : List LV) : rowsC (zs ++ ys) = rowsC zs ++ rowsC ys := by simp [rowsC]
theorem cellsC_app (zs ys : List LV) : cellsC (zs ++ ys) = cellsC zs ++ cellsC ys := by simp [cellsC]
theorem cellsC_one (zs : List LV) (h : ∀ z ∈ zs, z.2.1.oneCell' = true ∧ z.2.2.oneCell' = true) : ∀ u ∈ cellsC zs, u.oneCell' = true := by
  intro u hu
  obtain ⟨z, hz, hm⟩ := List.mem_flatMap.1 hu
  have := h z hz
  simp at hm
  rcases hm with rfl | rfl | rfl
  · rfl
  · exact this.1
  · exact this.2

/-- Literals of the call's own, each term in a block of its own. -/
def OwnC (lo hi : Nat) (w : World) (v : Value) (c : List Lt) : Prop :=
  ∃ ad cap, v = .slice ad c.length cap ∧ c.length ≤ cap ∧ (cap ≤ maxLen ∧ (ad = none → cap = 0)) ∧
    (0 < c.length → ∃ b off zs bs, ad = some ⟨b, off, none⟩ ∧ lo ≤ b ∧ b < hi ∧ zs.length = c.length ∧
      (∀ j z, zs[j]? = some z → z.1 = (c.getD j lt0).1 ∧ w.cell? ⟨b, off + j * 3, none⟩ = some (.bool z.1) ∧ w.cell? ⟨b, off + j * 3 + 1, none⟩ = some z.2.1 ∧ w.cell? ⟨b, off + j * 3 + 2, none⟩ = some z.2.2) ∧
      (∀ i, w.frozen? ⟨b, i, none⟩ = false) ∧ Ins lo hi b w (rowsC zs) (flatC c) bs)
theorem OwnC.sl {lo hi w v c} (h : OwnC lo hi w v c) : SlC lo hi w v c := by
  obtain ⟨ad, cap, rfl, hc, hm, hr⟩ := h
  refine ⟨ad, cap, rfl, hc, hm, fun hp => ?_⟩
  obtain ⟨b, off, zs, bs, e, a1, a2, hl, a3, _, hi⟩ := hr hp
  refine ⟨b, off, e, a1, a2, fun j hj => ?_⟩
  have hz : zs[j]? = some zs[j] := List.getElem?_eq_getElem (by omega)
  obtain ⟨e1, c1, c2, c3⟩ := a3 j _ hz
  obtain ⟨r1, r2⟩ := rowsC_get zs j _ hz
  have s1 := hi.sl _ _ r1
  have s2 := hi.sl _ _ r2
  rw [(flatC_get c j).1] at s1
  rw [(flatC_get c j).2] at s2
  exact ⟨_, _, by rw [← e1]; exact c1, c2, c3, s1, s2⟩
theorem OwnC.same {lo hi w w' v c} (h : OwnC lo hi w v c) (hs : ∀ b, lo ≤ b → b < hi → b < w.heap.size → w'.heap[b]? = w.heap[b]?) : OwnC lo hi w' v c := by
  obtain ⟨ad, cap, rfl, hc, hm, hr⟩ := h
  refine ⟨ad, cap, rfl, hc, hm, fun hp => ?_⟩
  obtain ⟨b, off, zs, bs, e, a1, a2, hl, a3, hf, hi⟩ := hr hp
  have hb : b < w.heap.size := by
    have hz : zs[0]? = some zs[0] := List.getElem?_eq_getElem (by omega)
    exact World.block_lt_of_cell? w ⟨b, off + 0 * 3, none⟩ (a3 0 _ hz).2.1
  refine ⟨b, off, zs, bs, e, a1, a2, hl, fun j z hz => ?_, fun i => ?_, hi.same hs⟩
  · obtain ⟨e1, c1, c2, c3⟩ := a3 j z hz
    exact ⟨e1, cell_same (hs b a1 a2) c1, cell_same (hs b a1 a2) c2, cell_same (hs b a1 a2) c3⟩
  · rw [World.frozen?_of_block (w := w) (a := ⟨b, i, none⟩) (hs b a1 a2 hb)]; exact hf i
theorem OwnC.below {lo hi w w' v c} (h : OwnC lo hi w v c) (hb : Bel w w') : OwnC lo hi w' v c := h.same fun b _ _ h3 => hb.block b h3
theorem OwnC.alloc {lo hi w v c} (h : OwnC lo hi w v c) (o : Obj) : OwnC lo hi (w.alloc o) v c := h.below (Bel.alloc0 w o)
theorem OwnC.k {lo hi w v c} (h : OwnC lo hi w v c) : K (fun w => OwnC lo hi w v c) w := fun _ hb => h.below hb
theorem OwnC.chg {lo hi lo' hi' w w' v c} (h : OwnC lo hi w v c) (k : Chg lo' hi' w w') (hd : hi ≤ lo' ∨ hi' ≤ lo) : OwnC lo hi w' v c :=
  h.same fun b h1 h2 h3 => k.block b h3 (by omega)
theorem OwnC.mono {lo hi lo' hi' w v c} (h : OwnC lo hi w v c) (h1 : lo' ≤ lo) (h2 : hi ≤ hi') : OwnC lo' hi' w v c := by
  obtain ⟨ad, cap, rfl, hc, hm, hr⟩ := h
  refine ⟨ad, cap, rfl, hc, hm, fun hp => ?_⟩
  obtain ⟨b, off, zs, bs, e, a1, a2, hl, a3, hf, hi⟩ := hr hp
  exact ⟨b, off, zs, bs, e, by omega, by omega, hl, a3, hf, hi.mono h1 h2⟩
theorem OwnC.nil (lo hi : Nat) (w : World) : OwnC lo hi w (.slice none 0 0) [] := ⟨none, 0, rfl, Nat.le_refl _, ⟨Nat.zero_le _, fun _ => rfl⟩, fun h => absurd h (by simp)⟩
/-- A row that the call itself made, as a slice of literals. -/
theorem OwnC.of_row {w : World} {base e hi : Nat} {v : Value} {zs : List LV} {c : List Lt} {bs : Nat → Nat} (h : w.ownsRow base e 3 v c.length (cellsC zs)) (hi' : w.heap.size ≤ hi)
    (hp : zs.map (·.1) = c.map (·.1)) (hin : ∀ g, v.ownBlock = some g → Ins base hi g w (rowsC zs) (flatC c) bs) : OwnC base hi w v c := by
  have h0 := h
  have hzl : zs.length = c.length := by simpa using congrArg List.length hp
  obtain ⟨h1, h2⟩ := h
  rcases h2 with ⟨rfl, hn⟩ | ⟨g, cap, cur, rfl, hg, hh, hn, hc, hs, ht⟩
  · obtain rfl : c = [] := List.length_eq_zero_iff.1 hn
    exact OwnC.nil _ _ _
  · have hgs : g < w.heap.size := (Array.getElem?_eq_some_iff.1 hh).1
    refine ⟨_, cap, rfl, hn, ⟨hc, fun h => by simp at h⟩, fun _ => ⟨g, 0, zs, bs, rfl, hg, by omega, hzl, fun j z hz => ?_, fun i => ?_, hin g rfl⟩⟩
    · have hj : j < zs.length := (List.getElem?_eq_some_iff.1 hz).1
      obtain ⟨c1, c2, c3⟩ := cellsC_get zs j z hz
      have hcell : ∀ i, i < c.length * 3 → w.cell? ⟨g, 0 + i, none⟩ = (cellsC zs)[i]? := fun i hi => by rw [Nat.zero_add]; exact h0.cellAt i hi
      refine ⟨?_, by rw [hcell _ (by omega)]; exact c1, by rw [Nat.add_assoc, hcell _ (by omega)]; exact c2, by rw [Nat.add_assoc, hcell _ (by omega)]; exact c3⟩
      have := congrArg (fun l => l[j]?) hp
      simp only [List.getElem?_map, hz, Option.map_some] at this
      rw [List.getD_eq_getElem?_getD]
      cases hcj : c[j]? with
      | none => rw [hcj] at this; simp at this
      | some y => rw [hcj] at this; simpa using this
    · simp [World.frozen?, hh]
def RetC (w : World) (c : List Lt) (e : Ending) (w' : World) : Prop := ∃ ad n k, e = .returned (.slice ad n k) ∧ OwnC w.heap.size w'.heap.size w' (.slice ad n k) c ∧ Bel w w'
def RetCB (w : World) (c : List Lt) (ok : Bool) (e : Ending) (w' : World) : Prop := ∃ ad n k, e = .returned (.tuple #[.slice ad n k, .bool ok]) ∧ OwnC w.heap.size w'.heap.size w' (.slice ad n k) c ∧ Bel w w'
end Go.Proofs.Yteegjnobmbcjiaa
end
section
/- The laws' own helpers, by contracts: sizes, copies, comparisons, marks over slices of ints and a signature. -/
namespace Go.Proofs.Yteegjnobmbcjiaa
open Go.RowKit



def szI (n left : Int) : Int := if left - n < 0 then -1 else left - n

theorem szIntS_c (l h : Nat) (v : Value) (xs : List Int) (left : Int) (w : World) (hx : xs.length ≤ 9223372036854775807) (h0 : 0 ≤ left) (h1 : left ≤ 1048576) (hv : SlI l h w v xs) :
    Calls Try.prog 53 #[v, .int .i64 left] w (RetV w (.int .i64 (szI xs.length left))) := by
  obtain ⟨ad, cap, rfl, -, -, hr⟩ := hv
  by_cases hs : left - xs.length < 0
  · have E : Hid (szI xs.length left = -1) := by show szI _ _ = _; simp [szI, hs]
    go_enter Try.func53, Try.ntmps53
    go_wp2_with fail
    go_ret
    exact ⟨by rw [E.out]; rfl, Bel.rfl' _⟩
  · have E : Hid (szI xs.length left = left - xs.length) := by show szI _ _ = _; simp [szI, hs]
    go_enter Try.func53, Try.ntmps53
    go_wp2_with fail
    go_ret
    exact ⟨by rw [E.out]; rfl, Bel.rfl' _⟩

theorem szSign_c (l h : Nat) (v : Value) (xs : List Int) (left : Int) (w : World) (hx : xs.length ≤ 9223372036854775807) (h0 : 0 ≤ left) (h1 : left ≤ 1048576) (hv : SlI l h w v xs) :
    Calls Try.prog 7 #[.agg #[v], .int .i64 left] w (RetV w (.int .i64 (szI xs.length left))) := by
  by_cases hs : szI xs.length left < 0
  · have E : Hid (szI xs.length left = -1) := by show szI _ _ = _; revert hs; unfold szI; split <;> omega
    have hl := szIntS_c l h v xs left (w.alloc (.cells #[v] 24)) hx h0 h1 (hv.below (Bel.alloc0 _ _))
    have HL := Lib.hid hl; clear hl
    rw [E.out] at HL
    rw [E.out]
    clear hs
    go_enter Try.func7, Try.ntmps7
    go_wp2_with (go_at_call 53; refine HL.out.mono ?_; rintro e w' ⟨rfl, hb1⟩)
    go_ret
    exact ⟨rfl, hb1.of_alloc⟩
  · have hl := szIntS_c l h v xs left (w.alloc (.cells #[v] 24)) hx h0 h1 (hv.below (Bel.alloc0 _ _))
    have HL := Lib.hid hl; clear hl
    generalize szI xs.length left = r at *
    go_enter Try.func7, Try.ntmps7
    go_wp2_with (go_at_call 53; refine HL.out.mono ?_; rintro e w' ⟨rfl, hb1⟩)
    go_ret
    exact ⟨rfl, hb1.of_alloc⟩

theorem Try.info3 : (Try.prog.info? 3).map (fun i => (i.zero, i.size, i.bytes)) = some (some (.int .i64 0), 1, 8) := by kernel_rfl

def madeI (xs : List Int) (k : Nat) : List Int := xs.take k ++ List.replicate (xs.length - k) 0


theorem madeI_0 (xs : List Int) : (madeCells (Value.int .i64 0).cells (xs.length * 1)).toList = (madeI xs 0).map (Value.int .i64) := by
  rw [Nat.mul_one]; show (madeCells #[_] _).toList = _; rw [toList_madeCells_one]; simp [madeI]
theorem madeI_all (xs : List Int) (k : Nat) (h : ¬ k < xs.length) : madeI xs k = xs := by
  unfold madeI; rw [show xs.length - k = 0 from by omega, List.take_of_length_le (by omega)]; simp
theorem madeI_len (xs : List Int) (k : Nat) (h : k ≤ xs.length) : (madeI xs k).length = xs.length := by simp [madeI]; omega
theorem madeI_get (xs : List Int) (k i : Nat) (h : k ≤ xs.length) : (madeI xs k)[i]? = if i < k then xs[i]? else if i < xs.length then some 0 else none := by
  unfold madeI
  simp only [List.getElem?_append, List.getElem?_take, List.getElem?_replicate, List.length_take]
  grind
theorem madeI_set (xs : List Int) (k : Nat) (h : k < xs.length) : (madeI xs k).set k (xs.getD k 0) = madeI xs (k+1) := by
  apply List.ext_getElem?
  intro i
  rw [List.getElem?_set, madeI_get _ _ _ (by omega), madeI_get _ _ _ (by omega)]
  have : (madeI xs k).length = xs.length := by simp [madeI]; omega
  rw [this]
  by_cases e : k = i
  · subst e; simp [h, List.getD]
  · simp only [e, if_false]
    by_cases h1 : i < k
    · simp [h1, show i < k + 1 from by omega]
    · simp [h1, show ¬ i < k + 1 from by omega]
theorem madeI_succ (xs : List Int) (k : Nat) (h : k < xs.length) : ((madeI xs k).map (Value.int .i64)).set k (.int .i64 (xs.getD k 0)) = (madeI xs (k+1)).map (Value.int .i64) := by
  rw [← List.map_set, madeI_set xs k h]

set_option maxRecDepth 100000 in
theorem toIntS_c (l h : Nat) (v : Value) (xs : List Int) (w : World) (hx : xs.length ≤ 1048576) (hv : SlI l h w v xs) :
    Calls Try.prog 12 #[v] w (RetI w xs) := by
  obtain ⟨ad, cap, rfl, -, -, hr⟩ := hv
  obtain ⟨i0, hi, hz0, hz1, hz2⟩ := info_parts Try.info3
  go_enter Try.func12, Try.ntmps12
  go_wp2_with (at_make; refine wpList_make_full _ rfl _ _ 22 rfl w.heap.size 3 i0 (.int .i64 0) 1 Try.underlying22 hi hz0 hz1 _ _ _ _ xs.length rfl rfl rfl rfl (by rw [hz2]; omega) (by unfold maxLen; omega) (Nat.le_refl _) ?_; intro w1 hown hg)
  rw [madeI_0] at hown
  have hb0 : Bel w w1 := (Bel.rfl' w).grown hg (by simp)
  clear hg
  go_loopw [4] (fun i wr => ∃ k : Nat, k ≤ xs.length ∧ i = .int .i64 k ∧ wr.ownsRow w.heap.size 3 1 (.slice (some ⟨w.heap.size, 0, none⟩) xs.length xs.length) xs.length ((madeI xs k).map (Value.int .i64)) ∧ Bel w wr) (fun i _ => xs.length - (intOf i).toNat)
  case atStart => exact ⟨0, Nat.zero_le _, rfl, hown, hb0⟩
  case round =>
    obtain ⟨k, hk, rfl, ho, hb⟩ := hrel
    by_cases hlt : k < xs.length
    · obtain ⟨b, off, rfl, hbs, hcell⟩ := rd hr hb k hlt
      obtain ⟨y, hc2⟩ := own_cell ho k (by rw [madeI_len xs k hk]; exact hlt)
      have hst := ho.stored k (.int .i64 (xs.getD k 0))
      rw [madeI_succ xs k hlt] at hst
      have hf2 := ho.frozenAt k
      have hb2 := hb.setCell (p := ⟨w.heap.size, k, none⟩) (Nat.le_refl _) (.int .i64 (xs.getD k 0))
      clear hr hown ho hb0
      generalize xs.getD k 0 = x at *
      go_wp2_with fail
      go_roundw
      case rel => exact ⟨k+1, by omega, by go_num, hst.1, hb2⟩
      case measure => simp [intOf]; omega
    · rw [madeI_all xs k hlt] at ho
      go_wp2_with fail
      go_ret
      exact ⟨_, _, _, rfl, OwnI.of_row ho, hb⟩


theorem toSign_c (l h : Nat) (v : Value) (xs : List Int) (w : World) (hx : xs.length ≤ 1048576) (hv : SlI l h w v xs) :
    Calls Try.prog 10 #[.agg #[v]] w (RetS w xs) := by
  go_enter Try.func10, Try.ntmps10
  go_wp2_with (go_at_call 12; refine (toIntS_c l h v xs _ hx (hv.below (Bel.alloc3 _ _ _ _))).mono ?_; rintro e w' ⟨ad', n', c', rfl, hv', hb⟩; have c1 := (hb.cell (p := ⟨w.heap.size+1+1, 0, none⟩) (by simp)).trans (by simp [go_sem]; rfl); have c2 := (hb.frozen (p := ⟨w.heap.size+1+1, 0, none⟩) (by simp)).trans (by simp [go_sem]; rfl); have c3 := (hb.cell (p := ⟨w.heap.size+1, 0, none⟩) (by simp)).trans (by simp [go_sem]; rfl); have c4 := (hb.frozen (p := ⟨w.heap.size+1, 0, none⟩) (by simp)).trans (by simp [go_sem]; rfl))
  have hs := hb.size
  simp only [World.size_alloc] at hs hv'
  refine bodyPost_ret (v := .agg #[.slice ad' n' c']) (by simp [results, Try.results10, go_sem, c3]) rfl ⟨_, _, _, rfl, ?_, ?_⟩
  · simp only [World.size_setCell]
    exact ((hv'.set (.inl (by simp)) _).set (.inl (by simp)) _).mono (by omega) (Nat.le_refl _)
  · exact (((Bel.alloc3 w _ _ _).step hb).set (by simp; omega) _).set (by simp) _

theorem take_ne (xs ys : List Int) (k : Nat) (_ : k < xs.length) (h2 : k < ys.length) (h : xs.getD k 0 ≠ ys.getD k 0) : xs ≠ ys := by rintro rfl; exact h rfl
theorem take_eq_succ (xs ys : List Int) (k : Nat) (h1 : k < xs.length) (h2 : k < ys.length) (h : xs.take k = ys.take k) (e : xs.getD k 0 = ys.getD k 0) : xs.take (k+1) = ys.take (k+1) := by
  rw [List.take_succ_eq_append_getElem h1, List.take_succ_eq_append_getElem h2, h]
  simp [List.getD, h1, h2] at e
  rw [e]

theorem eqIntS_c (l h l' h' : Nat) (v u : Value) (xs ys : List Int) (w : World) (hx : xs.length ≤ 1048576) (hy : ys.length ≤ 1048576) (hv : SlI l h w v xs) (hu : SlI l' h' w u ys) :
    Calls Try.prog 14 #[v, u] w (RetV w (.bool (decide (xs = ys)))) := by
  obtain ⟨ad, cap, rfl, -, -, hr⟩ := hv
  obtain ⟨ad', cap', rfl, -, -, hr'⟩ := hu
  by_cases hl : (xs.length : Int) = ys.length
  · have hl1 : xs.length = ys.length := by omega
    have hl' : ((xs.length : Int) != ys.length) = false := by simpa using hl
    have HL := Lib.hid hl1
    clear hl hl1
    go_enter Try.func14, Try.ntmps14
    go_wp2_with fail
    go_loopw [5] (fun i wr => ∃ k : Nat, k ≤ xs.length ∧ i = .int .i64 k ∧ xs.take k = ys.take k ∧ Bel w wr) (fun i _ => xs.length - (intOf i).toNat)
    case atStart => exact ⟨0, Nat.zero_le _, rfl, rfl, Bel.rfl' _⟩
    case round =>
      obtain ⟨k, hk, rfl, ha, hb⟩ := hrel
      by_cases hlt : k < xs.length
      · have hlt2 : k < ys.length := by rw [← HL.out]; exact hlt
        obtain ⟨b, off, rfl, -, hcell⟩ := rd hr hb k hlt
        obtain ⟨b', off', rfl, -, hcell'⟩ := rd hr' hb k hlt2
        have E1 := Lib.hid (take_eq_succ xs ys k hlt hlt2 ha)
        have E2 := Lib.hid (take_ne xs ys k)
        clear hr hr' ha
        generalize xs.getD k 0 = x at *
        generalize ys.getD k 0 = y at *
        by_cases hxy : x = y
        · have E3 := Lib.hid (E1.out hxy)
          clear E1 E2
          subst hxy
          go_wp2_with fail
          go_quiet (fail)
          go_wp2
          go_roundw
          case rel => exact ⟨k+1, by omega, by go_num, E3.out, hb.drewN _⟩
          case measure => simp [intOf]; omega
        · have e1 : Hid (decide (xs = ys) = false) := by show decide (xs = ys) = false; simpa using E2.out hlt hlt2 hxy
          have hxy' : (x != y) = true := by simpa using hxy
          clear hxy
          go_wp2_with fail
          go_quiet (fail)
          go_wp2
          go_ret
          exact ⟨by rw [e1.out]; rfl, hb.drewN _⟩
      · have HA := Lib.hid ha; clear ha
        have e1 : Hid (decide (xs = ys) = true) := by
          show decide (xs = ys) = true
          have h1 := HA.out
          rw [List.take_of_length_le (by omega), List.take_of_length_le (by rw [← HL.out]; omega)] at h1
          simpa using h1
        go_wp2_with fail
        go_ret
        exact ⟨by rw [e1.out]; rfl, hb⟩
  · have e1 : Hid (decide (xs = ys) = false) := by show decide (xs = ys) = false; simp; rintro rfl; exact hl rfl
    have hl' : ((xs.length : Int) != ys.length) = true := by simpa using hl
    clear hl
    go_enter Try.func14, Try.ntmps14
    go_wp2_with fail
    go_ret
    exact ⟨by rw [e1.out]; rfl, Bel.rfl' _⟩


theorem eqIntS_same (l h l' h' : Nat) (v u : Value) (xs : List Int) (w : World) (hx : xs.length ≤ 1048576) (hv : SlI l h w v xs) (hu : SlI l' h' w u xs) :
    Calls Try.prog 14 #[v, u] w (RetV w (.bool true)) := by
  have := eqIntS_c l h l' h' v u xs xs w hx hx hv hu
  simpa using this

theorem eqSign_c (l h l' h' : Nat) (v u : Value) (xs ys : List Int) (w : World) (hx : xs.length ≤ 1048576) (hy : ys.length ≤ 1048576) (hv : SlI l h w v xs) (hu : SlI l' h' w u ys) :
    Calls Try.prog 15 #[.agg #[v], .agg #[u]] w (RetV w (.bool (decide (xs = ys)))) := by
  have hc := eqIntS_c l h l' h' v u xs ys ((w.alloc (.cells #[v] 30)).alloc (.cells #[u] 30)) hx hy (hv.below (Bel.alloc2 _ _ _)) (hu.below (Bel.alloc2 _ _ _))
  generalize decide (xs = ys) = r at *
  cases r
  all_goals
    have HC := Lib.hid hc; clear hc
    go_enter Try.func15, Try.ntmps15
    go_wp2_with (go_at_call 14; refine HC.out.mono ?_; rintro e w' ⟨rfl, hb⟩)
    go_ret
    exact ⟨rfl, (Bel.alloc2 w _ _).step hb⟩

theorem eqSign_same (l h l' h' : Nat) (v u : Value) (xs : List Int) (w : World) (hx : xs.length ≤ 1048576) (hv : SlI l h w v xs) (hu : SlI l' h' w u xs) :
    Calls Try.prog 15 #[.agg #[v], .agg #[u]] w (RetV w (.bool true)) := by
  have := eqSign_c l h l' h' v u xs xs w hx hx hv hu
  simpa using this


/-- Marking: the returned count, and what may have turned. -/
def RetM (lo hi : Nat) (w : World) (v : Value) (xs : List Int) (k : Nat) (e : Ending) (w' : World) : Prop := e = .returned (.int .i64 ((k + xs.length : Nat) : Int)) ∧ Chg lo hi w w' ∧ OwnI lo hi w' v (marks k xs.length)

theorem markIntS_c (lo hi : Nat) (v : Value) (xs : List Int) (k : Nat) (w : World) (hx : xs.length ≤ 1099511627776) (hk : k ≤ 1099511627776) (hv : OwnI lo hi w v xs) :
    Calls Try.prog 19 #[v, .int .i64 k] w (RetM lo hi w v xs k) := by
  obtain ⟨ad, cap, rfl⟩ := hv.sl.form
  go_enter Try.func19, Try.ntmps19
  go_wp2_with fail
  go_loopw [1, 5] (fun m i wr => ∃ j : Nat, j ≤ xs.length ∧ i = .int .i64 j ∧ m = .int .i64 ((k + j : Nat) : Int) ∧ OwnI lo hi wr (.slice ad xs.length cap) (marked xs k j) ∧ Chg lo hi w wr) (fun _ i _ => xs.length - (intOf i).toNat)
  case atStart => exact ⟨0, Nat.zero_le _, rfl, rfl, by rw [marked_zero]; exact hv, Chg.refl _ _ _⟩
  case round =>
    obtain ⟨j, hj, rfl, rfl, ho, hb⟩ := hrel
    by_cases hlt : j < xs.length
    · have hl := marked_len xs k j hj
      have ho0 := ho
      obtain ⟨⟨ad', cap', e, hc, hm, hr⟩, hf⟩ := ho0
      obtain ⟨b, off, rfl, a1, a2, a3⟩ := hr (by omega)
      simp only [Value.slice.injEq] at e
      obtain ⟨rfl, -, rfl⟩ := e
      have hcell := a3 j (by omega)
      have hfr := hf b off _ _ rfl (by omega) j
      have hst := ho.stored j (by omega) ((k + j : Nat) : Int)
      rw [marked_succ xs k j hlt] at hst
      have hb2 := hb.trans (Chg.set wr (p := ⟨b, off + j, none⟩) a1 a2 (.int .i64 ((k + j : Nat) : Int)))
      generalize (marked xs k j).getD j 0 = x at hcell
      clear hr hf ho hb hv hc hm hl a3
      have hkj : ((k + j : Nat) : Int) ≤ 9223372036854775000 := by omega
      go_wp2_with fail
      go_roundw
      case rel => exact ⟨j+1, by omega, by go_num, by go_num, by simpa using hst, by simpa using hb2⟩
      case measure => simp [intOf]; omega
    · rw [marked_all xs k j hlt hj] at ho
      go_wp2_with fail
      go_ret
      obtain rfl : j = xs.length := by omega
      exact ⟨rfl, hb, ho⟩

theorem heldIntS_c (l h : Nat) (v : Value) (n k : Nat) (w : World) (hx : n ≤ 1099511627776) (hk : k ≤ 1099511627776) (hv : SlI l h w v (marks k n)) :
    Calls Try.prog 20 #[v, .int .i64 k] w (RetV w (.int .i64 ((k + n : Nat) : Int))) := by
  obtain ⟨ad, cap, rfl, -, -, hr⟩ := hv
  rw [marks_len] at hr ⊢
  go_enter Try.func20, Try.ntmps20
  go_wp2_with fail
  go_loop [1, 5] (fun m i => ∃ j : Nat, j ≤ n ∧ i = .int .i64 j ∧ m = .int .i64 ((k + j : Nat) : Int)) (fun _ i => n - (intOf i).toNat)
  case atStart => exact ⟨0, Nat.zero_le _, rfl, rfl⟩
  case round =>
    obtain ⟨j, hj, rfl, rfl⟩ := hrel
    by_cases hlt : j < n
    · obtain ⟨b, off, rfl, -, -, a3⟩ := hr (by omega)
      have hcell := a3 j (by omega)
      rw [marks_get k n j hlt] at hcell
      have hne : (((k + j : Nat) : Int) != ((k + j : Nat) : Int)) = false := by simp
      clear hr a3
      go_wp2_with fail
      go_round
      case rel => exact ⟨j+1, by omega, by go_num, by go_num⟩
      case measure => simp [intOf]; omega
    · go_wp2_with fail
      go_ret
      obtain rfl : j = n := by omega
      exact ⟨rfl, Bel.rfl' _⟩

theorem markSign_c (lo hi : Nat) (v : Value) (xs : List Int) (k : Nat) (w : World) (hx : xs.length ≤ 1048576) (hk : k ≤ 1073741824) (_ : hi ≤ w.heap.size) (hv : OwnI lo hi w v xs) :
    Calls Try.prog 17 #[.agg #[v], .int .i64 k] w (RetM lo hi w v xs k) := by
  go_enter Try.func17, Try.ntmps17
  go_wp2_with fail
  refine (markIntS_c lo hi v xs k _ (by omega) (by omega) (hv.alloc _)).mono ?_; rintro e w' ⟨rfl, hb, ho⟩
  go_wp2_with fail
  go_ret
  exact ⟨rfl, (Chg.of_bel (Bel.alloc0 w _)).trans hb, ho⟩
end Go.Proofs.Yteegjnobmbcjiaa
end
section
/- The laws' helpers over slices of slices of ints, by contracts. -/
namespace Go.Proofs.Yteegjnobmbcjiaa
open Go.RowKit

theorem Try.info22 : (Try.prog.info? 22).map (fun i => (i.zero, i.size, i.bytes)) = some (some (.slice none 0 0), 1, 24) := by kernel_rfl

def szS (xss : List (List Int)) (left : Int) : Int := if left - (tot xss : Nat) < 0 then -1 else left - (tot xss : Nat)

def RetMS (lo hi : Nat) (w : World) (v : Value) (xss : List (List Int)) (k : Nat) (e : Ending) (w' : World) : Prop := e = .returned (.int .i64 ((k + sumL xss : Nat) : Int)) ∧ Chg lo hi w w' ∧ OwnS lo hi w' v (marksS k xss)

end Go.Proofs.Yteegjnobmbcjiaa
end
