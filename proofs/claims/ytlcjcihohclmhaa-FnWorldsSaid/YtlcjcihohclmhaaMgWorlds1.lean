/- Texts merged, part 1. -/
import Derived.WalkKit
import Derived.WalkSpells
import Derived.WalkLawsBesides
import Derived.BigQuiet
import Derived.Deep.QuietTactic
import Derived.Deep.RegionHeld3
import Derived.Deep.DeepCutAuto
import Derived.Deep.DeepFit
import Derived.Deep.DeepMust
import Derived.Outline
import Derived.Lib.Hide
import Derived.Laws.CopyOwn
import Derived.KernelRfl
import Derived.Test.YtlcjcihohclmhaaProg
import Derived.Laws.AppendOwnNone
import Derived.Lib.AppendZeros
import Derived.IntWalk
section
/- Definitions and small lemmas on worlds and slices of ints. No program. -/
namespace Go.Proofs.Ytlcjcihohclmhaa
open Go.RowKit

/-- The frame of every contract: what was there is as it was. -/
abbrev Bel (w w' : World) : Prop := Below w.heap.size w w'

theorem Bel.rfl' (w : World) : Bel w w := Below.refl _ _
theorem Bel.step {a b c : World} (h : Bel a b) (k : Bel b c) : Bel a c := h.trans (k.mono h.size)

/-- The slice value v holds the numbers xs; its array lies in a block from lo on and below hi. -/
def SlI (lo hi : Nat) (w : World) (v : Value) (xs : List Int) : Prop :=
  ∃ ad cap, v = .slice ad xs.length cap ∧ xs.length ≤ cap ∧ (cap ≤ maxLen ∧ (ad = none → cap = 0)) ∧
    (0 < xs.length → ∃ b off, ad = some ⟨b, off, none⟩ ∧ lo ≤ b ∧ b < hi ∧ ∀ j, j < xs.length → w.cell? ⟨b, off + j, none⟩ = some (.int .i64 (xs.getD j 0)))

/-- .. and it may be written. -/
def OwnI (lo hi : Nat) (w : World) (v : Value) (xs : List Int) : Prop :=
  SlI lo hi w v xs ∧ ∀ b off n c, v = .slice (some ⟨b, off, none⟩) n c → 0 < n → ∀ j, w.frozen? ⟨b, off + j, none⟩ = false

theorem OwnI.sl {lo hi w v xs} (h : OwnI lo hi w v xs) : SlI lo hi w v xs := h.1

theorem SlI.mono {lo hi lo' hi' w v xs} (h : SlI lo hi w v xs) (h1 : lo' ≤ lo) (h2 : hi ≤ hi') : SlI lo' hi' w v xs := by
  obtain ⟨ad, cap, rfl, hc, hm, hr⟩ := h
  refine ⟨ad, cap, rfl, hc, hm, fun hp => ?_⟩
  obtain ⟨b, off, e, a1, a2, a3⟩ := hr hp
  exact ⟨b, off, e, by omega, by omega, a3⟩
theorem OwnI.mono {lo hi lo' hi' w v xs} (h : OwnI lo hi w v xs) (h1 : lo' ≤ lo) (h2 : hi ≤ hi') : OwnI lo' hi' w v xs := ⟨h.1.mono h1 h2, h.2⟩

/-- Blocks that are the same keep a slice. -/
theorem SlI.same {lo hi w w' v xs} (h : SlI lo hi w v xs) (hs : ∀ b, lo ≤ b → b < hi → b < w.heap.size → w'.heap[b]? = w.heap[b]?) : SlI lo hi w' v xs := by
  obtain ⟨ad, cap, rfl, hc, hm, hr⟩ := h
  refine ⟨ad, cap, rfl, hc, hm, fun hp => ?_⟩
  obtain ⟨b, off, e, a1, a2, a3⟩ := hr hp
  refine ⟨b, off, e, a1, a2, fun j hj => ?_⟩
  have hb : b < w.heap.size := World.block_lt_of_cell? w ⟨b, off + j, none⟩ (a3 j hj)
  rw [World.cell?_of_block (w := w) (a := ⟨b, off + j, none⟩) (hs b a1 a2 hb)]
  exact a3 j hj

theorem SlI.below {lo hi w w' v xs} (h : SlI lo hi w v xs) (hb : Bel w w') : SlI lo hi w' v xs :=
  h.same fun b _ _ h3 => hb.block b h3

theorem OwnI.same {lo hi w w' v xs} (h : OwnI lo hi w v xs) (hs : ∀ b, lo ≤ b → b < hi → b < w.heap.size → w'.heap[b]? = w.heap[b]?) : OwnI lo hi w' v xs := by
  refine ⟨h.1.same hs, fun b off n c hv hn j => ?_⟩
  obtain ⟨ad, cap, e, hc, hm, hr⟩ := h.1
  rw [e] at hv
  simp only [Value.slice.injEq] at hv
  obtain ⟨h1, hl, _⟩ := hv
  obtain ⟨b', off', e', a1, a2, a3⟩ := hr (by omega)
  rw [e'] at h1
  simp only [Option.some.injEq, Addr.mk.injEq] at h1
  obtain ⟨rfl, rfl, -⟩ := h1
  have hb : b' < w.heap.size := World.block_lt_of_cell? w ⟨b', off' + 0, none⟩ (a3 0 (by omega))
  rw [World.frozen?_of_block (w := w) (a := ⟨b', off' + j, none⟩) (hs b' a1 a2 hb)]
  exact h.2 b' off' n cap (by rw [e, e', hl]) hn j

theorem OwnI.below {lo hi w w' v xs} (h : OwnI lo hi w v xs) (hb : Bel w w') : OwnI lo hi w' v xs :=
  h.same fun b _ _ h3 => hb.block b h3

/-- Whatever is there lies in some block that is there. -/
theorem SlI.in' {lo hi w v xs} (h : SlI lo hi w v xs) : SlI 0 w.heap.size w v xs := by
  obtain ⟨ad, cap, rfl, hc, hm, hr⟩ := h
  refine ⟨ad, cap, rfl, hc, hm, fun hp => ?_⟩
  obtain ⟨b, off, e, a1, a2, a3⟩ := hr hp
  exact ⟨b, off, e, Nat.zero_le _, World.block_lt_of_cell? w ⟨b, off + 0, none⟩ (a3 0 hp), a3⟩
theorem SlI.nil (lo hi : Nat) (w : World) : SlI lo hi w (.slice none 0 0) [] := ⟨none, 0, rfl, Nat.le_refl _, ⟨Nat.zero_le _, fun _ => rfl⟩, fun h => absurd h (by simp)⟩
theorem OwnI.nil (lo hi : Nat) (w : World) : OwnI lo hi w (.slice none 0 0) [] := ⟨SlI.nil lo hi w, fun _ _ _ _ h => by simp at h⟩

/-- The value returned, and the frame. -/
def RetV (w : World) (v : Value) (e : Ending) (w' : World) : Prop := e = .returned v ∧ Bel w w'
/-- A slice of ints of the call's own. -/
def RetI (w : World) (xs : List Int) (e : Ending) (w' : World) : Prop := ∃ ad n c, e = .returned (.slice ad n c) ∧ OwnI w.heap.size w'.heap.size w' (.slice ad n c) xs ∧ Bel w w'
def RetIB (w : World) (xs : List Int) (ok : Bool) (e : Ending) (w' : World) : Prop := ∃ ad n c, e = .returned (.tuple #[.slice ad n c, .bool ok]) ∧ OwnI w.heap.size w'.heap.size w' (.slice ad n c) xs ∧ Bel w w'
/-- A struct of one slice. -/
def RetS (w : World) (xs : List Int) (e : Ending) (w' : World) : Prop := ∃ ad n c, e = .returned (.agg #[.slice ad n c]) ∧ OwnI w.heap.size w'.heap.size w' (.slice ad n c) xs ∧ Bel w w'
theorem addr_add (b off j : Nat) : (⟨b, off, none⟩ : Addr).add j = ⟨b, off + j, none⟩ := by cases j <;> simp [Addr.add]
theorem SlI.form {lo hi w v xs} (h : SlI lo hi w v xs) : ∃ ad c, v = .slice ad xs.length c := by obtain ⟨ad, c, h, _⟩ := h; exact ⟨ad, c, h⟩

/-- A row that the call itself made, as a slice of ints. -/
theorem OwnI.of_row {w : World} {base e : Nat} {v : Value} {xs : List Int} (h : w.ownsRow base e 1 v xs.length (xs.map (Value.int .i64))) : OwnI base w.heap.size w v xs := by
  have h0 := h
  obtain ⟨h1, h2⟩ := h
  rcases h2 with ⟨rfl, hn⟩ | ⟨g, cap, cur, rfl, hg, hh, hn, hc, hs, ht⟩
  · obtain rfl : xs = [] := List.length_eq_zero_iff.1 hn
    exact OwnI.nil _ _ _
  · have hgs : g < w.heap.size := by
      have := Array.getElem?_eq_some_iff.1 hh
      exact this.1
    refine ⟨⟨_, cap, rfl, hn, ⟨hc, fun h => by simp at h⟩, fun hp => ⟨g, 0, rfl, hg, hgs, fun j hj => ?_⟩⟩, ?_⟩
    · rw [Nat.zero_add, h0.cellAt j (by omega)]
      simp [List.getD, hj]
    · intro b off n c hv hn' j
      simp only [Value.slice.injEq, Option.some.injEq, Addr.mk.injEq] at hv
      obtain ⟨⟨rfl, rfl, -⟩, rfl, rfl⟩ := hv
      rw [Nat.zero_add]
      exact h0.frozenAt j

/-- Reading the k-th. -/
theorem rd {lo hi : Nat} {w wr : World} {ad : Option Addr} {xs : List Int} (hr : 0 < xs.length → ∃ b off, ad = some ⟨b, off, none⟩ ∧ lo ≤ b ∧ b < hi ∧ ∀ j, j < xs.length → w.cell? ⟨b, off + j, none⟩ = some (.int .i64 (xs.getD j 0)))
    (hb : Bel w wr) (k : Nat) (hk : k < xs.length) : ∃ b off, ad = some ⟨b, off, none⟩ ∧ b < w.heap.size ∧ wr.cell? ⟨b, off + k, none⟩ = some (.int .i64 (xs.getD k 0)) := by
  obtain ⟨b, off, e, _, _, hc⟩ := hr (by omega)
  have h1 := World.block_lt_of_cell? w ⟨b, off + k, none⟩ (hc k hk)
  exact ⟨b, off, e, h1, (hb.cell (p := ⟨b, off + k, none⟩) h1).trans (hc k hk)⟩

theorem rd0 {lo hi : Nat} {w : World} {ad : Option Addr} {xs : List Int} (hr : 0 < xs.length → ∃ b off, ad = some ⟨b, off, none⟩ ∧ lo ≤ b ∧ b < hi ∧ ∀ j, j < xs.length → w.cell? ⟨b, off + j, none⟩ = some (.int .i64 (xs.getD j 0)))
    (hk : 0 < xs.length) : ∃ b off, ad = some ⟨b, off, none⟩ ∧ b < w.heap.size ∧ w.cell? ⟨b, off, none⟩ = some (.int .i64 (xs.getD 0 0)) := rd hr (Bel.rfl' w) 0 hk
theorem Bel.at {w w' : World} (hb : Bel w w') {b off : Nat} {v : Value} (h : b < w.heap.size) (hc : w.cell? ⟨b, off, none⟩ = some v) : w'.cell? ⟨b, off, none⟩ = some v := (hb.cell (p := ⟨b, off, none⟩) h).trans hc

/-- The cells of a block that was laid first of all. -/
theorem boxc {w w' : World} {cs : Array Value} {t : TypeId} (hb : Bel (w.alloc (.cells cs t)) w') (i : Nat) (v : Value) (hv : cs[i]? = some v) : w'.cell? ⟨w.heap.size, i, none⟩ = some v := by
  rw [hb.cell (p := ⟨w.heap.size, i, none⟩) (by simp), World.cell?_alloc_new w cs t i]; exact hv
theorem Bel.of_alloc {w w' : World} {o : Obj} (hb : Bel (w.alloc o) w') : Bel w w' := Bel.step ((Below.refl w.heap.size w).alloc (Nat.le_refl _) o) hb
theorem Bel.alloc0 (w : World) (o : Obj) : Bel w (w.alloc o) := (Below.refl w.heap.size w).alloc (Nat.le_refl _) o

theorem own_cell {w : World} {base e g n cap : Nat} {ys : List Int} (ho : w.ownsRow base e 1 (.slice (some ⟨g, 0, none⟩) n cap) n (ys.map (Value.int .i64))) (k : Nat) (hk : k < ys.length) : ∃ x, w.cell? ⟨g, k, none⟩ = some (.int .i64 x) := by
  have hl := ho.1
  simp at hl
  exact ⟨ys[k], by rw [ho.cellAt k (by omega)]; simp [hk]⟩

theorem Bel.alloc {a w : World} (h : Bel a w) (o : Obj) : Bel a (w.alloc o) := Below.alloc h h.size o
theorem Bel.alloc2 (w : World) (o p : Obj) : Bel w ((w.alloc o).alloc p) := (Bel.alloc0 w o).alloc p
theorem Bel.alloc3 (w : World) (o p q : Obj) : Bel w (((w.alloc o).alloc p).alloc q) := (Bel.alloc2 w o p).alloc q
theorem Bel.drewN {a w : World} (h : Bel a w) (n : Nat) : Bel a (w.drewN n) := ⟨h.os, h.tape, h.output, h.size, h.block⟩
theorem Bel.drew {a w : World} (h : Bel a w) : Bel a w.drew := Below.drew h
theorem Bel.drew0 (w : World) : Bel w w.drew := Below.drew (Below.refl _ _)
theorem Bel.of_drew {a w : World} (h : Bel a.drew w) : Bel a w := Bel.step (Bel.drew0 a) h
theorem Bel.set {a w : World} (h : Bel a w) {p : Addr} (hp : a.heap.size ≤ p.block) (u : Value) : Bel a (w.setCell p u) := Below.setCell h hp u
theorem SlI.drewN {lo hi w v xs} (h : SlI lo hi w v xs) (n : Nat) : SlI lo hi (w.drewN n) v xs := h.below ((Bel.rfl' w).drewN n)
theorem SlI.alloc {lo hi w v xs} (h : SlI lo hi w v xs) (o : Obj) : SlI lo hi (w.alloc o) v xs := h.below (Bel.alloc0 w o)
theorem OwnI.alloc {lo hi w v xs} (h : OwnI lo hi w v xs) (o : Obj) : OwnI lo hi (w.alloc o) v xs := h.below (Bel.alloc0 w o)
/-- A store into a block outside. -/
theorem OwnI.set {lo hi w v xs} (h : OwnI lo hi w v xs) {p : Addr} (hp : p.block < lo ∨ hi ≤ p.block) (u : Value) : OwnI lo hi (w.setCell p u) v xs :=
  h.same fun b h1 h2 _ => Below.heap_setCell w p u b (by omega)
theorem SlI.set {lo hi w v xs} (h : SlI lo hi w v xs) {p : Addr} (hp : p.block < lo ∨ hi ≤ p.block) (u : Value) : SlI lo hi (w.setCell p u) v xs :=
  h.same fun b h1 h2 _ => Below.heap_setCell w p u b (by omega)

/-- Only blocks from lo on and below hi may have turned. -/
structure Chg (lo hi : Nat) (w w' : World) : Prop where
  os : w'.os = w.os
  tape : w'.tape = w.tape
  output : w'.output = w.output
  size : w.heap.size ≤ w'.heap.size
  block : ∀ b, b < w.heap.size → (b < lo ∨ hi ≤ b) → w'.heap[b]? = w.heap[b]?
theorem Chg.refl (lo hi : Nat) (w : World) : Chg lo hi w w := ⟨rfl, rfl, rfl, Nat.le_refl _, fun _ _ _ => rfl⟩
theorem Chg.trans {lo hi : Nat} {a b c : World} (h : Chg lo hi a b) (k : Chg lo hi b c) : Chg lo hi a c :=
  ⟨k.os.trans h.os, k.tape.trans h.tape, k.output.trans h.output, Nat.le_trans h.size k.size, fun i hi ho => (k.block i (Nat.lt_of_lt_of_le hi h.size) ho).trans (h.block i hi ho)⟩
theorem Chg.of_bel {lo hi : Nat} {w w' : World} (h : Bel w w') : Chg lo hi w w' := ⟨h.os, h.tape, h.output, h.size, fun b hb _ => h.block b hb⟩
theorem Chg.set {lo hi : Nat} (w : World) {p : Addr} (h1 : lo ≤ p.block) (h2 : p.block < hi) (u : Value) : Chg lo hi w (w.setCell p u) :=
  ⟨rfl, rfl, rfl, by simp [World.setCell], fun b _ ho => Below.heap_setCell w p u b (by omega)⟩
theorem Chg.mono {lo hi lo' hi' : Nat} {w w' : World} (h : Chg lo hi w w') (h1 : lo' ≤ lo) (h2 : hi ≤ hi') : Chg lo' hi' w w' :=
  ⟨h.os, h.tape, h.output, h.size, fun b hb ho => h.block b hb (by omega)⟩
/-- What the call itself had made may turn. -/
theorem Chg.bel {lo hi : Nat} {w0 w w' : World} (h : Chg lo hi w w') (h0 : Bel w0 w) (hlo : w0.heap.size ≤ lo) : Bel w0 w' :=
  ⟨h.os.trans h0.os, h.tape.trans h0.tape, h.output.trans h0.output, Nat.le_trans h0.size h.size, fun b hb => (h.block b (Nat.lt_of_lt_of_le hb h0.size) (.inl (by omega))).trans (h0.block b hb)⟩
theorem SlI.chg {lo hi lo' hi' w w' v xs} (h : SlI lo hi w v xs) (k : Chg lo' hi' w w') (hd : hi ≤ lo' ∨ hi' ≤ lo) : SlI lo hi w' v xs :=
  h.same fun b h1 h2 h3 => k.block b h3 (by omega)
theorem OwnI.chg {lo hi lo' hi' w w' v xs} (h : OwnI lo hi w v xs) (k : Chg lo' hi' w w') (hd : hi ≤ lo' ∨ hi' ≤ lo) : OwnI lo hi w' v xs :=
  h.same fun b h1 h2 h3 => k.block b h3 (by omega)
theorem Chg.cell {lo hi : Nat} {w w' : World} (k : Chg lo hi w w') {b off : Nat} {v : Value} (h : b < w.heap.size) (hd : b < lo ∨ hi ≤ b) (hc : w.cell? ⟨b, off, none⟩ = some v) : w'.cell? ⟨b, off, none⟩ = some v :=
  (World.cell?_of_block (w := w) (a := ⟨b, off, none⟩) (k.block b h hd)).trans hc

/-- What marking from k on leaves. -/
def marks (k n : Nat) : List Int := (List.range n).map (fun i => ((k + i : Nat) : Int))
theorem marks_len (k n : Nat) : (marks k n).length = n := by simp [marks]
theorem marks_get (k n i : Nat) (h : i < n) : (marks k n).getD i 0 = ((k + i : Nat) : Int) := by simp [marks, List.getD, h]
/-- The first j are marked, the rest is as it was. -/
def marked (xs : List Int) (k j : Nat) : List Int := marks k j ++ xs.drop j
theorem marked_zero (xs : List Int) (k : Nat) : marked xs k 0 = xs := by simp [marked, marks]
theorem marked_len (xs : List Int) (k j : Nat) (h : j ≤ xs.length) : (marked xs k j).length = xs.length := by simp [marked, marks_len]; omega
theorem marked_all (xs : List Int) (k j : Nat) (h : ¬ j < xs.length) (h2 : j ≤ xs.length) : marked xs k j = marks k xs.length := by
  obtain rfl : j = xs.length := by omega
  simp [marked]
theorem marked_succ (xs : List Int) (k j : Nat) (h : j < xs.length) : (marked xs k j).set j ((k + j : Nat) : Int) = marked xs k (j+1) := by
  unfold marked
  rw [List.set_append_right _ _ (by rw [marks_len]; exact Nat.le_refl _), marks_len, Nat.sub_self, List.drop_eq_getElem_cons h, List.set_cons_zero]
  simp [marks, List.range_succ]

/-- A store into a slice that may be written. -/
theorem OwnI.stored {lo hi : Nat} {w : World} {b off n c : Nat} {xs : List Int} (h : OwnI lo hi w (.slice (some ⟨b, off, none⟩) n c) xs) (j : Nat) (hj : j < xs.length) (x : Int) :
    OwnI lo hi (w.setCell ⟨b, off + j, none⟩ (.int .i64 x)) (.slice (some ⟨b, off, none⟩) n c) (xs.set j x) := by
  obtain ⟨⟨ad, cap, e, hc, hm, hr⟩, hf⟩ := h
  obtain ⟨b', off', e', a1, a2, a3⟩ := hr (by omega)
  simp only [Value.slice.injEq] at e
  obtain ⟨rfl, rfl, rfl⟩ := e
  simp only [Option.some.injEq, Addr.mk.injEq, and_true] at e'
  obtain ⟨rfl, rfl⟩ := e'
  refine ⟨⟨_, c, by rw [List.length_set], by rw [List.length_set]; exact hc, hm, fun _ => ⟨b, off, rfl, a1, a2, fun i hi => ?_⟩⟩, fun b2 off2 n2 c2 hv hn2 i => ?_⟩
  · rw [List.length_set] at hi
    have hne : i ≠ j → (⟨b, off + j, none⟩ : Addr) ≠ ⟨b, off + i, none⟩ := by intro h1 h2; simp only [Addr.mk.injEq, and_true, true_and] at h2; omega
    by_cases e : i = j
    · subst e
      rw [World.cell?_setCell_same (h := a3 i hi)]
      simp [List.getD, hi]
    · rw [World.cell?_setCell_other (h := hne e), a3 i hi]
      simp [List.getD, Ne.symm e]
  · simp only [Value.slice.injEq, Option.some.injEq, Addr.mk.injEq, and_true] at hv
    obtain ⟨⟨rfl, rfl⟩, rfl, rfl⟩ := hv
    rw [World.frozen?_setCell]
    exact hf b off _ c rfl hn2 i

def inB (n lo hi : Int) : Bool := decide (lo ≤ n) && decide (n ≤ hi)

theorem all_split (xs : List Int) (p : Int → Bool) (k : Nat) (hk : k < xs.length) (h : (xs.take k).all p = true) : (xs.take (k+1)).all p = p (xs.getD k 0) := by
  rw [List.take_succ_eq_append_getElem hk, List.all_append, h]
  simp [List.getD, hk]
theorem all_false (xs : List Int) (p : Int → Bool) (k : Nat) (hk : k < xs.length) (h : p (xs.getD k 0) = false) : xs.all p = false := by
  rw [List.all_eq_false]
  exact ⟨xs[k], List.getElem_mem hk, by simpa [List.getD, hk] using h⟩
theorem all_done (xs : List Int) (p : Int → Bool) (k : Nat) (hk : k ≤ xs.length) (h1 : ¬ k < xs.length) (h : (xs.take k).all p = true) : xs.all p = true := by
  obtain rfl : k = xs.length := by omega
  rwa [List.take_length] at h


/-- What holds now and in whatever world comes by adding memory. -/
def K (P : World → Prop) (w : World) : Prop := ∀ w', Bel w w' → P w'
theorem K.now {P : World → Prop} {w : World} (h : K P w) : P w := h w (Bel.rfl' w)
theorem K.step {P : World → Prop} {w w' : World} (h : K P w) (hb : Bel w w') : K P w' := fun _ h2 => h _ (hb.step h2)
theorem K.and {P Q : World → Prop} {w : World} (h : K P w) (k : K Q w) : K (fun w => P w ∧ Q w) w := fun w' hb => ⟨h w' hb, k w' hb⟩
theorem K.imp {P Q : World → Prop} {w : World} (h : K P w) (hpq : ∀ w, P w → Q w) : K Q w := fun w' hb => hpq _ (h w' hb)
theorem SlI.k {lo hi w v xs} (h : SlI lo hi w v xs) : K (fun w => SlI lo hi w v xs) w := fun _ hb => h.below hb
theorem OwnI.k {lo hi w v xs} (h : OwnI lo hi w v xs) : K (fun w => OwnI lo hi w v xs) w := fun _ hb => h.below hb
theorem cell_k {w : World} {b : Nat} {v : Value} (h : b < w.heap.size ∧ w.cell? ⟨b, 0, none⟩ = some v) : K (fun w => b < w.heap.size ∧ w.cell? ⟨b, 0, none⟩ = some v) w :=
  fun _ hb => ⟨Nat.lt_of_lt_of_le h.1 hb.size, hb.at h.1 h.2⟩
theorem le_k {n : Nat} {w : World} (h : n ≤ w.heap.size) : K (fun w => n ≤ w.heap.size) w := fun _ hb => Nat.le_trans h hb.size
theorem bel_k {w0 w : World} (h : Bel w0 w) : K (fun w => Bel w0 w) w := fun _ hb => h.step hb
theorem boxk {w w' : World} {cs : Array Value} {t : TypeId} (hb : Bel (w.alloc (.cells cs t)) w') (v : Value) (hv : cs[0]? = some v) : w.heap.size < w'.heap.size ∧ w'.cell? ⟨w.heap.size, 0, none⟩ = some v :=
  ⟨by have := hb.size; simp at this; omega, boxc hb 0 v hv⟩

theorem news_one (w : World) (x : Value) (t : TypeId) : ∀ j u, [x][j]? = some u → (w.alloc (.cells #[x] t)).cell? ((⟨w.heap.size, 0, none⟩ : Addr).add j) = some u := by
  intro j u hj
  match j, hj with
  | 0, hj => simp at hj; subst hj; rw [show (⟨w.heap.size, 0, none⟩ : Addr).add 0 = ⟨w.heap.size, 0, none⟩ from rfl, World.cell?_alloc_new w]; rfl
theorem one_int (n : Int) : ∀ u ∈ [Value.int .i64 n], u.oneCell' = true := by intro u hu; simp at hu; subst hu; rfl
/-- A row of ints grown by one. -/
theorem row_snoc {w : World} {base e : Nat} {v : Value} {acc : List Int} {x : Int} (h : w.ownsRow base e 1 v (acc.length + 1) (acc.map (Value.int .i64) ++ [.int .i64 x])) :
    w.ownsRow base e 1 v (acc ++ [x]).length ((acc ++ [x]).map (Value.int .i64)) := by simpa using h
theorem Bel.grown {a w w' : World} {r : Option Nat} (h : Bel a w) (g : w.grownBy w' r) (hr : ∀ k, r = some k → a.heap.size ≤ k) : Bel a w' := Below.grown h g h.size hr
theorem own_base {w : World} {base e s n : Nat} {v : Value} {xs : List Value} (h : w.ownsRow base e s v n xs) : ∀ k, v.ownBlock = some k → base ≤ k := by
  intro k hk
  rcases h.2 with ⟨rfl, _⟩ | ⟨g, cap, cur, rfl, hg, _⟩
  · simp [Value.ownBlock] at hk
  · simp [Value.ownBlock] at hk; omega
theorem own_form {w : World} {base e s n : Nat} {v : Value} {xs : List Value} (h : w.ownsRow base e s v n xs) : ∃ ad m c, v = .slice ad m c := by
  rcases h.2 with ⟨rfl, _⟩ | ⟨g, cap, cur, rfl, hg, _⟩ <;> exact ⟨_, _, _, rfl⟩
/-- A row lies nowhere but in its own block. -/
theorem ownsRow_bel {w w' : World} {base e s n : Nat} {v : Value} {xs : List Value} (h : w.ownsRow base e s v n xs) (hb : Bel w w') : w'.ownsRow base e s v n xs := by
  refine ⟨h.1, ?_⟩
  rcases h.2 with h0 | ⟨g, cap, cur, e1, e2, hh, r⟩
  · exact .inl h0
  · exact .inr ⟨g, cap, cur, e1, e2, by rw [hb.block g (Array.getElem?_eq_some_iff.1 hh).1]; exact hh, r⟩
end Go.Proofs.Ytlcjcihohclmhaa
end
section
/- The laws' own helpers, by contracts: sizes, copies, comparisons, marks over slices of ints and a signature. -/
namespace Go.Proofs.Ytlcjcihohclmhaa
open Go.RowKit



def szI (n left : Int) : Int := if left - n < 0 then -1 else left - n

theorem Try.info3 : (Try.prog.info? 3).map (fun i => (i.zero, i.size, i.bytes)) = some (some (.int .i64 0), 1, 8) := by kernel_rfl

def madeI (xs : List Int) (k : Nat) : List Int := xs.take k ++ List.replicate (xs.length - k) 0


theorem madeI_0 (xs : List Int) : (madeCells (Value.int .i64 0).cells (xs.length * 1)).toList = (madeI xs 0).map (Value.int .i64) := by
  rw [Nat.mul_one]; show (madeCells #[_] _).toList = _; rw [toList_madeCells_one]; simp [madeI]
theorem madeI_all (xs : List Int) (k : Nat) (h : ¬ k < xs.length) : madeI xs k = xs := by
  unfold madeI; rw [show xs.length - k = 0 from by omega, List.take_of_length_le (by omega)]; simp
theorem madeI_len (xs : List Int) (k : Nat) (h : k ≤ xs.length) : (madeI xs k).length = xs.length := by simp [madeI]; omega
theorem madeI_get (xs : List Int) (k i : Nat) (h : k ≤ xs.length) : (madeI xs k)[i]? = if i < k then xs[i]? else if i < xs.length then some 0 else none := by
  unfold madeI
  simp only [List.getElem?_append, List.getElem?_take, List.getElem?_replicate, List.length_take]
  grind
theorem madeI_set (xs : List Int) (k : Nat) (h : k < xs.length) : (madeI xs k).set k (xs.getD k 0) = madeI xs (k+1) := by
  apply List.ext_getElem?
  intro i
  rw [List.getElem?_set, madeI_get _ _ _ (by omega), madeI_get _ _ _ (by omega)]
  have : (madeI xs k).length = xs.length := by simp [madeI]; omega
  rw [this]
  by_cases e : k = i
  · subst e; simp [h, List.getD]
  · simp only [e, if_false]
    by_cases h1 : i < k
    · simp [h1, show i < k + 1 from by omega]
    · simp [h1, show ¬ i < k + 1 from by omega]
theorem madeI_succ (xs : List Int) (k : Nat) (h : k < xs.length) : ((madeI xs k).map (Value.int .i64)).set k (.int .i64 (xs.getD k 0)) = (madeI xs (k+1)).map (Value.int .i64) := by
  rw [← List.map_set, madeI_set xs k h]

theorem take_ne (xs ys : List Int) (k : Nat) (_ : k < xs.length) (h2 : k < ys.length) (h : xs.getD k 0 ≠ ys.getD k 0) : xs ≠ ys := by rintro rfl; exact h rfl
theorem take_eq_succ (xs ys : List Int) (k : Nat) (h1 : k < xs.length) (h2 : k < ys.length) (h : xs.take k = ys.take k) (e : xs.getD k 0 = ys.getD k 0) : xs.take (k+1) = ys.take (k+1) := by
  rw [List.take_succ_eq_append_getElem h1, List.take_succ_eq_append_getElem h2, h]
  simp [List.getD, h1, h2] at e
  rw [e]

/-- Marking: the returned count, and what may have turned. -/
def RetM (lo hi : Nat) (w : World) (v : Value) (xs : List Int) (k : Nat) (e : Ending) (w' : World) : Prop := e = .returned (.int .i64 ((k + xs.length : Nat) : Int)) ∧ Chg lo hi w w' ∧ OwnI lo hi w' v (marks k xs.length)

end Go.Proofs.Ytlcjcihohclmhaa
end
section
/- Copies and joins of slices of ints. -/
namespace Go.Proofs.Ytlcjcihohclmhaa
open Go.RowKit

theorem news_of_sl {lo hi : Nat} {w : World} {a : Addr} {n c : Nat} {xs : List Int} (h : SlI lo hi w (.slice (some a) n c) xs) : ∀ j u, (xs.map (Value.int .i64))[j]? = some u → w.cell? (a.add j) = some u := by
  intro j u hj
  obtain ⟨ad, cap, e, _, _, hr⟩ := h
  simp only [Value.slice.injEq] at e
  have hlt : j < xs.length := by
    have := List.getElem?_eq_some_iff.1 hj
    simpa using this.1
  obtain ⟨b, off, e2, _, _, hc⟩ := hr (by omega)
  rw [← e.1] at e2
  simp only [Option.some.injEq] at e2
  subst e2
  rw [addr_add, hc j hlt]
  simp [hlt] at hj
  simp [List.getD, hlt, hj]
theorem ones_int (xs : List Int) : ∀ u ∈ xs.map (Value.int .i64), u.oneCell' = true := by
  intro u hu; simp at hu; obtain ⟨n, _, rfl⟩ := hu; rfl

/-- A slice of ints that the call itself made, as a row that may grow. -/
def RetR (w : World) (xs : List Int) (e : Ending) (w' : World) : Prop := ∃ ad n c, e = .returned (.slice ad n c) ∧ w'.ownsRow w.heap.size 3 1 (.slice ad n c) xs.length (xs.map (Value.int .i64)) ∧ Bel w w'
theorem RetR.i {w : World} {xs : List Int} {e : Ending} {w' : World} (h : RetR w xs e w') : RetI w xs e w' := by
  obtain ⟨ad, n, c, h1, h2, h3⟩ := h
  exact ⟨ad, n, c, h1, OwnI.of_row h2, h3⟩

set_option maxRecDepth 100000 in
theorem l1Own_r (l h : Nat) (v : Value) (xs : List Int) (w : World) (hx : xs.length ≤ 1048576) (hv : SlI l h w v xs) :
    Calls Try.prog 82 #[v] w (RetR w xs) := by
  obtain ⟨i0, hi0, hz0, hz1, hz2⟩ := info_parts Try.info3
  have hv0 := hv
  obtain ⟨ad, cap, rfl, -, hm, hr⟩ := hv
  have hown : (w.alloc (.cells #[] 3)).ownsRow w.heap.size 3 1 (.slice (some ⟨w.heap.size, 0, none⟩) 0 0) ([] : List Int).length (([] : List Int).map (Value.int .i64)) :=
    World.ownsRow_lit w #[] 0 (Nat.le_refl _) (Nat.zero_le _) rfl
  cases ad with
  | none =>
    obtain rfl : xs = [] := by
      rcases Nat.eq_zero_or_pos xs.length with h0 | h0
      · exact List.length_eq_zero_iff.1 h0
      · obtain ⟨_, _, e, _⟩ := hr h0; simp at e
    obtain rfl : cap = 0 := hm.2 rfl
    clear hr hm hv0
    go_enter Try.func82, Try.ntmps82
    go_wp2_with (at_builtin; refine wpList_append_own_none rfl _ _ 24 rfl w.heap.size 3 i0 1 Try.underlying24 hi0 _ _ _ rfl hown rfl ?_)
    go_ret
    exact ⟨_, _, _, rfl, hown, Bel.alloc0 _ _⟩
  | some a =>
    have hn := news_of_sl (hv0.alloc (.cells #[] 3))
    clear hr hm
    go_enter Try.func82, Try.ntmps82
    go_wp2_with (at_builtin; refine wpList_append_own _ rfl _ _ 24 rfl w.heap.size 3 i0 (.int .i64 0) 1 8 Try.underlying24 hi0 hz0 hz1 hz2 rfl (by decide) _ _ _ rfl hown a xs.length cap (xs.map (Value.int .i64)) rfl (by simp) hn (ones_int _) (by unfold maxLen; simp; omega) (by simp; omega) (by simp) ?_; intro v' w1 hown' hgrow _)
    have hb1 := (Bel.alloc0 w (.cells #[] 3)).grown hgrow (fun k hk => own_base hown k hk)
    have hown2 : w1.ownsRow w.heap.size 3 1 v' xs.length (xs.map (Value.int .i64)) := by simpa using hown'
    obtain ⟨g, n, c, rfl⟩ := own_form hown2
    go_ret
    exact ⟨_, _, _, rfl, hown2, hb1⟩
theorem l1Own_c (l h : Nat) (v : Value) (xs : List Int) (w : World) (hx : xs.length ≤ 1048576) (hv : SlI l h w v xs) :
    Calls Try.prog 82 #[v] w (RetI w xs) := (l1Own_r l h v xs w hx hv).mono fun _ _ h => h.i

/-- A cut of a slice. -/
theorem SlI.cut {lo hi : Nat} {w : World} {b off n c : Nat} {xs : List Int} (h : SlI lo hi w (.slice (some ⟨b, off, none⟩) n c) xs) (i j : Nat) (hij : i ≤ j) (hj : j ≤ xs.length) :
    SlI lo hi w (.slice (some ⟨b, off + i, none⟩) (j - i) (c - i)) ((xs.drop i).take (j - i)) := by
  obtain ⟨ad, cap, e, hc, hm, hr⟩ := h
  simp only [Value.slice.injEq] at e
  obtain ⟨rfl, rfl, rfl⟩ := e
  have hl : ((xs.drop i).take (j - i)).length = j - i := by simp; omega
  refine ⟨_, c - i, by rw [hl], by rw [hl]; omega, ⟨by have := hm.1; omega, fun h => by simp at h⟩, fun hp => ?_⟩
  rw [hl] at hp
  obtain ⟨b', off', e2, a1, a2, a3⟩ := hr (by omega)
  simp only [Option.some.injEq, Addr.mk.injEq, and_true] at e2
  obtain ⟨rfl, rfl⟩ := e2
  refine ⟨b, off + i, rfl, a1, a2, fun k hk => ?_⟩
  rw [hl] at hk
  rw [show off + i + k = off + (i + k) from by omega, a3 (i + k) (by omega)]
  simp [List.getD, hk, List.getElem?_drop]

/-- The head of a slice that is not nil lies at a plain address. -/
theorem SlI.plain {lo hi : Nat} {w : World} {v : Value} {xs : List Int} (h : SlI lo hi w v xs) (hp : 0 < xs.length) : ∃ b off c, v = .slice (some ⟨b, off, none⟩) xs.length c ∧ xs.length ≤ c := by
  obtain ⟨ad, cap, rfl, hc, hm, hr⟩ := h
  obtain ⟨b, off, rfl, _⟩ := hr hp
  exact ⟨b, off, cap, rfl, hc⟩

set_option maxRecDepth 100000 in
theorem grow_c (n : Nat) (w : World) (hn : n ≤ 1099511627776) :
    Calls Try.prog 86 #[.slice none 0 0, .int .i64 n] w fun e w' => ∃ ad m c, e = .returned (.slice ad m c) ∧ w'.ownsRow w.heap.size 3 1 (.slice ad m c) ([] : List Int).length (([] : List Int).map (Value.int .i64)) ∧ Bel w w' := by
  obtain ⟨i0, hi0, hz0, hz1, hz2⟩ := info_parts Try.info3
  rcases Nat.eq_zero_or_pos n with rfl | hp
  · go_enter Try.func86, Try.ntmps86
    go_wp2_with fail
    go_ret
    exact ⟨_, _, _, rfl, World.ownsRow_nil _ _ _ _, Bel.rfl' _⟩
  · have hrun := Lib.run_append_nil_zeros (P := Try.prog) w 24 3 24 3 i0 (.int .i64 0) .i64 .i64 Try.underlying24 Try.underlying3 hi0 hz0 n hp (by omega) (by omega) (by rw [hz2]; omega)
    go_enter Try.func86, Try.ntmps86
    go_wp2_with (at_builtin; refine Lib.wpList_append_run _ rfl _ _ _ _ rfl _ _ rfl rfl _ _ hrun ?_)
    go_ret
    refine ⟨_, _, _, rfl, ⟨by simp, .inr ⟨w.heap.size, grownCap w n 0 3, _, rfl, Nat.le_refl _, heap_alloc_new w _, Nat.zero_le _, grownCap_le_maxLen w n 0 3 (by unfold maxLen; omega), ?_, by simp⟩⟩, (Bel.alloc0 w _).drew⟩
    have := grownCap_ge w n 0 3
    simp [size_zeroCells]
    omega

/-- A slice of slices of ints, as Concat reads it. -/
def PartsAt (lo hi : Nat) (w : World) (B o : Nat) (L : List (List Int)) : Prop :=
  ∀ j, j < L.length → ∃ ad c, w.cell? ⟨B, o + j, none⟩ = some (.slice ad (L.getD j []).length c) ∧ SlI lo hi w (.slice ad (L.getD j []).length c) (L.getD j [])
theorem PartsAt.below {lo hi : Nat} {w w' : World} {B o : Nat} {L : List (List Int)} (h : PartsAt lo hi w B o L) (hb : Bel w w') : PartsAt lo hi w' B o L := fun j hj => by
  obtain ⟨ad, c, h1, h2⟩ := h j hj
  exact ⟨ad, c, hb.at (World.block_lt_of_cell? w ⟨B, o + j, none⟩ h1) h1, h2.below hb⟩
def sumLen (L : List (List Int)) : Nat := (L.map List.length).sum
theorem sumLen_take (L : List (List Int)) (j : Nat) (h : j < L.length) : sumLen (L.take (j+1)) = sumLen (L.take j) + (L.getD j []).length := by
  unfold sumLen
  rw [List.take_succ_eq_append_getElem h, List.map_append, List.sum_append]
  simp only [List.map_cons, List.map_nil, List.sum_cons, List.sum_nil, Nat.add_zero]
  simp [List.getD, h]
theorem sumLen_le (L : List (List Int)) (j : Nat) : sumLen (L.take j) ≤ sumLen L := by
  unfold sumLen
  conv => rhs; rw [← List.take_append_drop j L]
  rw [List.map_append, List.sum_append]
  exact Nat.le_add_right _ _
theorem flat_take (L : List (List Int)) (j : Nat) (h : j < L.length) : (L.take (j+1)).flatten = (L.take j).flatten ++ L.getD j [] := by
  rw [List.take_succ_eq_append_getElem h, List.flatten_append]
  simp only [List.flatten_cons, List.flatten_nil, List.append_nil]
  simp [List.getD, h]
theorem flat_len (L : List (List Int)) : L.flatten.length = sumLen L := by simp [sumLen, List.length_flatten]

set_option maxRecDepth 100000 in
set_option maxHeartbeats 1000000 in
theorem concat_c (lo hi B o c : Nat) (L : List (List Int)) (w : World) (hL : L.length ≤ 1048576) (hs : sumLen L ≤ 1099511627776) (hp : PartsAt lo hi w B o L) :
    Calls Try.prog 77 #[.slice (some ⟨B, o, none⟩) L.length c] w (RetI w L.flatten) := by
  obtain ⟨i0, hi0, hz0, hz1, hz2⟩ := info_parts Try.info3
  go_enter Try.func77, Try.ntmps77
  go_wp2_with fail
  go_loop [3, 11] (fun n i => ∃ j : Nat, j ≤ L.length ∧ i = .int .i64 j ∧ n = .int .i64 (sumLen (L.take j))) (fun _ i => L.length - (intOf i).toNat)
  case atStart => exact ⟨0, Nat.zero_le _, rfl, by simp [sumLen]⟩
  case round =>
    obtain ⟨j, hj, rfl, rfl⟩ := hrel
    have hle := sumLen_le L j
    by_cases hlt : j < L.length
    · obtain ⟨ad, cc, hcell, hsl⟩ := hp j hlt
      have E := Lib.hid (sumLen_take L j hlt)
      have hle2 := sumLen_le L (j + 1)
      rw [E.out] at hle2
      clear hp hsl
      generalize L.getD j [] = xs at *
      generalize sumLen (L.take j) = m at *
      go_wp2_with fail
      go_round
      case rel => exact ⟨j + 1, by omega, by go_num, by rw [E.out]; go_num⟩
      case measure => simp [intOf]; omega
    · have e1 : L.take j = L := List.take_of_length_le (by omega)
      rw [e1]
      clear e1
      go_wp2_with fail
      refine (grow_c (sumLen L) _ (by omega)).mono ?_; rintro e w1 ⟨ad, m, c1, rfl, hown, hb⟩
      go_wp2_with fail
      go_loopw [6, 27] (fun v i wr => ∃ j : Nat, j ≤ L.length ∧ i = .int .i64 j ∧ wr.ownsRow w.heap.size 3 1 v (L.take j).flatten.length ((L.take j).flatten.map (Value.int .i64)) ∧ Bel w wr) (fun _ i _ => L.length - (intOf i).toNat)
      case atStart => exact ⟨0, Nat.zero_le _, rfl, by simpa using hown, hb⟩
      case round =>
        obtain ⟨j, hj, rfl, hown, hb⟩ := hrel
        have hle := sumLen_le L j
        rw [← flat_len] at hle
        by_cases hlt : j < L.length
        · obtain ⟨ad, cc, hcell, hsl⟩ := (hp.below hb) j hlt
          have E := Lib.hid (flat_take L j hlt)
          have hle2 := sumLen_le L (j + 1)
          rw [← flat_len, E.out, List.length_append] at hle2
          clear hp
          generalize L.getD j [] = xs at *
          generalize (L.take j).flatten = acc at *
          cases ad with
          | none =>
            obtain ⟨ad', cap', e, -, hm, hr⟩ := hsl
            simp only [Value.slice.injEq] at e
            obtain ⟨rfl, -, rfl⟩ := e
            obtain rfl : xs = [] := by
              rcases Nat.eq_zero_or_pos xs.length with h0 | h0
              · exact List.length_eq_zero_iff.1 h0
              · obtain ⟨_, _, e, _⟩ := hr h0; simp at e
            obtain rfl : cc = 0 := hm.2 rfl
            have E2 := Lib.hid (show (L.take (j+1)).flatten = acc by rw [E.out]; simp)
            clear hr hm E
            go_wp2_with (at_builtin; refine wpList_append_own_none rfl _ _ 24 rfl w.heap.size 3 i0 1 Try.underlying24 hi0 _ _ _ rfl hown rfl ?_)
            go_roundw
            case rel => exact ⟨j + 1, by omega, by go_num, by rw [E2.out]; exact hown, hb⟩
            case measure => simp [intOf]; omega
          | some a =>
            have hn := news_of_sl hsl
            clear hsl
            go_wp2_with (at_builtin; refine wpList_append_own _ rfl _ _ 24 rfl w.heap.size 3 i0 (.int .i64 0) 1 8 Try.underlying24 hi0 hz0 hz1 hz2 rfl (by decide) _ _ _ rfl hown a xs.length cc (xs.map (Value.int .i64)) rfl (by simp) hn (ones_int _) (by unfold maxLen; omega) (by omega) hb.size ?_; intro v' w2 hown' hgrow _)
            have hb2 := hb.grown hgrow (fun k hk => own_base hown k hk)
            have hown2 : w2.ownsRow w.heap.size 3 1 v' (acc ++ xs).length ((acc ++ xs).map (Value.int .i64)) := by simpa using hown'
            go_roundw
            case rel => exact ⟨j + 1, by omega, by go_num, by rw [E.out]; exact hown2, hb2⟩
            case measure => simp [intOf]; omega
        · have e1 : L.take j = L := List.take_of_length_le (by omega)
          rw [e1] at hown
          clear e1
          go_wp2_with fail
          obtain ⟨g, n, c2, hv⟩ := own_form hown
          subst hv
          go_ret
          exact ⟨_, _, _, rfl, OwnI.of_row hown, hb⟩

/-- Three slices in a new block, joined. -/
theorem concat3_c (lo hi : Nat) (p0 p1 p2 : Option Addr) (n0 n1 n2 c0 c1 c2 : Nat) (x0 x1 x2 : List Int) (w : World) (hs : x0.length + x1.length + x2.length ≤ 1099511627776)
    (h0 : SlI lo hi w (.slice p0 n0 c0) x0) (h1 : SlI lo hi w (.slice p1 n1 c1) x1) (h2 : SlI lo hi w (.slice p2 n2 c2) x2) (t : TypeId) :
    Calls Try.prog 77 #[.slice (some ⟨w.heap.size, 0, none⟩) 3 3] (w.alloc (.cells #[.slice p0 n0 c0, .slice p1 n1 c1, .slice p2 n2 c2] t)).drew (RetI (w.alloc (.cells #[.slice p0 n0 c0, .slice p1 n1 c1, .slice p2 n2 c2] t)).drew (x0 ++ x1 ++ x2)) := by
  have e0 : n0 = x0.length := by obtain ⟨ad, c, e, _⟩ := h0; simp at e; exact e.2.1
  have e1 : n1 = x1.length := by obtain ⟨ad, c, e, _⟩ := h1; simp at e; exact e.2.1
  have e2 : n2 = x2.length := by obtain ⟨ad, c, e, _⟩ := h2; simp at e; exact e.2.1
  subst e0 e1 e2
  have hb : Bel w (w.alloc (.cells #[.slice p0 x0.length c0, .slice p1 x1.length c1, .slice p2 x2.length c2] t)).drew := (Bel.alloc0 w _).drew
  have hp : PartsAt lo hi (w.alloc (.cells #[.slice p0 x0.length c0, .slice p1 x1.length c1, .slice p2 x2.length c2] t)).drew w.heap.size 0 [x0, x1, x2] := by
    intro j hj
    match j, hj with
    | 0, _ => exact ⟨p0, c0, (World.cell?_alloc_new w _ t 0).trans (by simp), h0.below hb⟩
    | 1, _ => exact ⟨p1, c1, (World.cell?_alloc_new w _ t 1).trans (by simp), h1.below hb⟩
    | 2, _ => exact ⟨p2, c2, (World.cell?_alloc_new w _ t 2).trans (by simp), h2.below hb⟩
  have := concat_c lo hi w.heap.size 0 3 [x0, x1, x2] _ (by simp) (by simp [sumLen]; omega) hp
  simpa using this
end Go.Proofs.Ytlcjcihohclmhaa
end
section
namespace Go.Proofs.Ytlcjcihohclmhaa
open Go.RowKit

theorem l1In_q (n lo hi : Int) (w : World) : Calls Try.prog 49 #[.int .i64 n, .int .i64 lo, .int .i64 hi] w fun e w' => e = .returned (.bool (inB n lo hi)) ∧ w' = w := by
  unfold inB
  go_enter Try.func49, Try.ntmps49
  by_cases h1 : lo ≤ n
  · by_cases h2 : n ≤ hi
    · go_wp2
      go_ret
      exact ⟨by simp [h1, h2], rfl⟩
    · go_wp2
      go_ret
      exact ⟨by simp; omega, rfl⟩
  · go_wp2
    go_ret
    exact ⟨by simp; omega, rfl⟩
theorem l1In_qv (n lo hi : Int) (b : Bool) (h : inB n lo hi = b) (w : World) : Calls Try.prog 49 #[.int .i64 n, .int .i64 lo, .int .i64 hi] w fun e w' => e = .returned (.bool b) ∧ w' = w := h ▸ l1In_q n lo hi w
theorem l1In_c (n lo hi : Int) (w : World) : Calls Try.prog 49 #[.int .i64 n, .int .i64 lo, .int .i64 hi] w (RetV w (.bool (inB n lo hi))) :=
  (l1In_q n lo hi w).mono fun _ _ ⟨h1, h2⟩ => ⟨h1, h2 ▸ Bel.rfl' w⟩
theorem l1In_t (n lo hi : Int) (w : World) (h : inB n lo hi = true) : Calls Try.prog 49 #[.int .i64 n, .int .i64 lo, .int .i64 hi] w (RetV w (.bool true)) := by
  rw [← h]; exact l1In_c n lo hi w
theorem l1In_f (n lo hi : Int) (w : World) (h : inB n lo hi = false) : Calls Try.prog 49 #[.int .i64 n, .int .i64 lo, .int .i64 hi] w (RetV w (.bool false)) := by
  rw [← h]; exact l1In_c n lo hi w

theorem l1All_c (l h : Nat) (v : Value) (xs : List Int) (lo hi : Int) (w : World) (hx : xs.length ≤ 1048576) (hv : SlI l h w v xs) :
    Calls Try.prog 72 #[v, .int .i64 lo, .int .i64 hi] w (RetV w (.bool (xs.all (inB · lo hi)))) := by
  obtain ⟨ad, cap, rfl, -, -, hr⟩ := hv
  go_enter Try.func72, Try.ntmps72
  go_wp2
  go_loopw [11] (fun i wr => ∃ k : Nat, k ≤ xs.length ∧ i = .int .i64 k ∧ (xs.take k).all (inB · lo hi) = true ∧ Bel w wr) (fun i _ => xs.length - (intOf i).toNat)
  case atStart => exact ⟨0, Nat.zero_le _, rfl, by simp, Bel.rfl' _⟩
  case round =>
    obtain ⟨k, hk, rfl, ha, hb⟩ := hrel
    by_cases hlt : k < xs.length
    · obtain ⟨b, off, rfl, -, hcell⟩ := rd hr hb k hlt
      have E1 := Lib.hid (all_split xs (inB · lo hi) k hlt ha)
      have E2 := Lib.hid (all_false xs (inB · lo hi) k hlt)
      clear hr ha
      generalize xs.getD k 0 = x at *
      by_cases hp : inB x lo hi = true
      · have HP := Lib.hid hp; clear hp
        go_wp2_with (go_at_call 49; refine (l1In_t _ _ _ _ HP.out).mono ?_; rintro e w' ⟨rfl, hb1⟩)
        go_roundw
        case rel => exact ⟨k+1, by omega, by go_num, by rw [E1.out]; exact HP.out, hb.step hb1⟩
        case measure => simp [intOf]; omega
      · have HP := Lib.hid (by simpa using hp : inB x lo hi = false); clear hp
        go_wp2_with (go_at_call 49; refine (l1In_f _ _ _ _ HP.out).mono ?_; rintro e w' ⟨rfl, hb1⟩)
        go_ret
        exact ⟨by rw [E2.out HP.out]; rfl, hb.step hb1⟩
    · have HA := Lib.hid ha; clear ha
      go_wp2_with fail
      go_ret
      exact ⟨by rw [all_done xs _ k hk hlt HA.out]; rfl, hb⟩
end Go.Proofs.Ytlcjcihohclmhaa
end
section
/- Terms as lists, plainly: where a subterm ends, its arguments, valid terms. No program. -/
namespace Go.Proofs.Ytlcjcihohclmhaa

def goodSign (ar : List Int) : Bool := inB ar.length 1 10 && ar.all (inB · 0 3) && (ar.getD 0 0 == 0)

/-- The arity of an entry. -/
def arOf (ar : List Int) (x : Int) : Nat := if x < 0 then 0 else (ar.getD x.toNat 0).toNat
def okSym (ar : List Int) (x : Int) : Bool := inB x (-12) ((ar.length : Int) - 1)

def endGo (ar : List Int) : List Int → Nat → Nat → Option Nat
  | _, 0, p => some p
  | [], _ + 1, _ => none
  | x :: r, n + 1, p => if okSym ar x then endGo ar r (n + arOf ar x) (p + 1) else none

theorem endGo_zero (ar r : List Int) (p : Nat) : endGo ar r 0 p = some p := by cases r <;> rfl
theorem endGo_nil (ar : List Int) (n p : Nat) : endGo ar [] (n + 1) p = none := rfl
theorem endGo_cons (ar : List Int) (x : Int) (r : List Int) (n p : Nat) : endGo ar (x :: r) (n + 1) p = if okSym ar x then endGo ar r (n + arOf ar x) (p + 1) else none := rfl

theorem endGo_ge (ar : List Int) : ∀ (r : List Int) (n p e : Nat), endGo ar r n p = some e → p ≤ e ∧ e ≤ p + r.length := by
  intro r
  induction r with
  | nil =>
    intro n p e h
    cases n with
    | zero => rw [endGo_zero] at h; simp at h; omega
    | succ n => simp [endGo_nil] at h
  | cons x r ih =>
    intro n p e h
    cases n with
    | zero => rw [endGo_zero] at h; simp at h; subst h; simp
    | succ n =>
      rw [endGo_cons] at h
      split at h
      · have := ih _ _ _ h; simp; omega
      · simp at h

theorem endGo_gt (ar r : List Int) (n p e : Nat) (h : endGo ar r (n + 1) p = some e) : p < e := by
  cases r with
  | nil => simp [endGo_nil] at h
  | cons x r =>
    rw [endGo_cons] at h
    split at h
    · have := endGo_ge _ _ _ _ _ h; omega
    · simp at h

theorem endGo_add (ar : List Int) : ∀ (r : List Int) (a b p : Nat), endGo ar r (a + b) p = (endGo ar r a p).bind fun e => endGo ar (r.drop (e - p)) b e := by
  intro r
  induction r with
  | nil =>
    intro a b p
    cases a with
    | zero => simp [endGo_zero]
    | succ a => rw [show a + 1 + b = (a + b) + 1 from by omega, endGo_nil, endGo_nil]; rfl
  | cons x r ih =>
    intro a b p
    cases a with
    | zero => simp [endGo_zero]
    | succ a =>
      rw [show a + 1 + b = (a + b) + 1 from by omega, endGo_cons, endGo_cons]
      split
      · rw [show a + b + arOf ar x = (a + arOf ar x) + b from by omega, ih]
        cases h : endGo ar r (a + arOf ar x) (p + 1) with
        | none => rfl
        | some e =>
          have := endGo_ge _ _ _ _ _ h
          simp only [Option.bind_some]
          rw [show e - p = (e - (p + 1)) + 1 from by omega, List.drop_succ_cons]
      · rfl

/-- The index behind the subterm at an index. -/
def endOf (ar t : List Int) (i : Nat) : Option Nat := endGo ar (t.drop i) 1 i
def okTerm (ar t : List Int) : Bool := inB t.length 1 40 && (endOf ar t 0 == some t.length)
def goodTerm (ar t : List Int) : Bool := goodSign ar && okTerm ar t

theorem okTerm_iff (ar t : List Int) : okTerm ar t = true ↔ 1 ≤ t.length ∧ t.length ≤ 40 ∧ endOf ar t 0 = some t.length := by
  unfold okTerm inB
  simp only [Bool.and_eq_true, decide_eq_true_eq, beq_iff_eq]
  constructor
  · rintro ⟨⟨h1, h2⟩, h3⟩; exact ⟨by omega, by omega, h3⟩
  · rintro ⟨h1, h2, h3⟩; exact ⟨⟨by omega, by omega⟩, h3⟩

theorem drop_cons (t : List Int) (i : Nat) (h : i < t.length) : t.drop i = t.getD i 0 :: t.drop (i + 1) := by
  rw [List.drop_eq_getElem_cons h]; simp [List.getD, h]

/-- In a valid term each place has what is still to come. -/
theorem good_need (ar t : List Int) (h : okTerm ar t = true) : ∀ i, i ≤ t.length → ∃ m, endGo ar (t.drop i) m i = some t.length ∧ (i < t.length → 0 < m) := by
  obtain ⟨h1, h2, h3⟩ := (okTerm_iff ar t).1 h
  intro i
  induction i with
  | zero => intro _; exact ⟨1, h3, fun _ => by omega⟩
  | succ i ih =>
    intro hi
    obtain ⟨m, hm, hp⟩ := ih (by omega)
    rw [drop_cons t i (by omega)] at hm
    obtain ⟨m, rfl⟩ : ∃ m', m = m' + 1 := ⟨m - 1, by have := hp (by omega); omega⟩
    rw [endGo_cons] at hm
    split at hm
    · refine ⟨_, hm, fun hl => ?_⟩
      rcases Nat.eq_zero_or_pos (m + arOf ar (t.getD i 0)) with h0 | h0
      · rw [h0, endGo_zero] at hm; simp at hm; omega
      · exact h0
    · simp at hm

theorem good_end (ar t : List Int) (h : okTerm ar t = true) (i : Nat) (hi : i < t.length) : ∃ e, endOf ar t i = some e ∧ i < e ∧ e ≤ t.length := by
  obtain ⟨m, hm, hp⟩ := good_need ar t h i (by omega)
  obtain ⟨m, rfl⟩ : ∃ m', m = 1 + m' := ⟨m - 1, by have := hp hi; omega⟩
  rw [endGo_add] at hm
  cases h1 : endGo ar (t.drop i) 1 i with
  | none => rw [h1] at hm; simp at hm
  | some e =>
    refine ⟨e, h1, endGo_gt _ _ _ _ _ h1, ?_⟩
    have := endGo_ge _ _ _ _ _ h1
    simp at this
    omega

theorem good_sym (ar t : List Int) (h : okTerm ar t = true) (i : Nat) (hi : i < t.length) : okSym ar (t.getD i 0) = true := by
  obtain ⟨e, he, _, _⟩ := good_end ar t h i hi
  unfold endOf at he
  rw [drop_cons t i hi, endGo_cons] at he
  by_cases h1 : okSym ar (t.getD i 0) = true
  · exact h1
  · rw [if_neg h1] at he; simp at he

/-- The ends of k terms, one behind the other. -/
theorem good_args (ar t : List Int) (h : okTerm ar t = true) (i : Nat) (hi : i < t.length) : ∃ e, endGo ar (t.drop (i + 1)) (arOf ar (t.getD i 0)) (i + 1) = some e ∧ e ≤ t.length := by
  obtain ⟨e, he, _, h2⟩ := good_end ar t h i hi
  have hs := good_sym ar t h i hi
  unfold endOf at he
  rw [drop_cons t i hi, endGo_cons, if_pos hs, Nat.zero_add] at he
  exact ⟨e, he, h2⟩

/-- From a place on where k + 1 terms stand: the first one's end, and the others behind it. -/
theorem ends_step (ar t : List Int) (p k e : Nat) (h : endGo ar (t.drop p) (k + 1) p = some e) : ∃ q, endOf ar t p = some q ∧ endGo ar (t.drop q) k q = some e ∧ p < q ∧ q ≤ e := by
  rw [show k + 1 = 1 + k from by omega, endGo_add] at h
  cases h1 : endGo ar (t.drop p) 1 p with
  | none => rw [h1] at h; simp at h
  | some q =>
    rw [h1] at h
    have hg := endGo_gt _ _ _ _ _ h1
    simp only [Option.bind_some, List.drop_drop, show p + (q - p) = q from by omega] at h
    exact ⟨q, h1, h, hg, (endGo_ge _ _ _ _ _ h).1⟩

/-- The places of k arguments from p on. -/
def argsGo (ar t : List Int) : Nat → Nat → List Nat
  | 0, _ => []
  | k + 1, p => p :: argsGo ar t k ((endOf ar t p).getD 0)
def argsOf (ar t : List Int) (i : Nat) : List Nat := argsGo ar t (arOf ar (t.getD i 0)) (i + 1)

theorem argsGo_len (ar t : List Int) : ∀ k p, (argsGo ar t k p).length = k := by
  intro k; induction k with
  | zero => intro p; rfl
  | succ k ih => intro p; simp [argsGo, ih]

theorem arOf_le (ar : List Int) (h : goodSign ar = true) (x : Int) : arOf ar x ≤ 3 := by
  unfold arOf
  split
  · omega
  · simp [goodSign, inB] at h
    by_cases hx : x.toNat < ar.length
    · have := h.1.2 (ar.getD x.toNat 0) (by simp [List.getD, hx])
      omega
    · simp [List.getD, hx]
theorem ar_nonneg (ar : List Int) (h : goodSign ar = true) (i : Nat) : 0 ≤ ar.getD i 0 ∧ ar.getD i 0 ≤ 3 := by
  simp [goodSign, inB] at h
  by_cases hx : i < ar.length
  · exact h.1.2 (ar.getD i 0) (by simp [List.getD, hx])
  · simp [List.getD, hx]
theorem sign_len (ar : List Int) (h : goodSign ar = true) : 1 ≤ ar.length ∧ ar.length ≤ 10 := by simp [goodSign, inB] at h; omega
end Go.Proofs.Ytlcjcihohclmhaa
end
section
namespace Go.Proofs.Ytlcjcihohclmhaa
open Go.RowKit



theorem l1All_v (l h : Nat) (v : Value) (xs : List Int) (lo hi : Int) (w : World) (b : Bool) (he : xs.all (inB · lo hi) = b) (hx : xs.length ≤ 1048576) (hv : SlI l h w v xs) :
    Calls Try.prog 72 #[v, .int .i64 lo, .int .i64 hi] w (RetV w (.bool b)) := he ▸ l1All_c l h v xs lo hi w hx hv

theorem sGoodSign_c (l h : Nat) (v : Value) (xs : List Int) (w : World) (hx : xs.length ≤ 1048576) (hv : SlI l h w v xs) :
    Calls Try.prog 50 #[.agg #[v]] w (RetV w (.bool (goodSign xs))) := by
  have hv0 := hv
  obtain ⟨ad, cap, rfl, -, -, hr⟩ := hv
  unfold goodSign
  by_cases h1 : inB xs.length 1 10 = true
  · have hp : 0 < xs.length := by simp [inB] at h1; omega
    have H1 := Lib.hid h1; clear h1
    cases h2 : xs.all (inB · 0 3)
    · have H2 := Lib.hid h2; clear h2
      go_enter Try.func50, Try.ntmps50
      go_wp2_with (first | (go_at_call 49; refine (l1In_t _ _ _ _ H1.out).mono ?_; rintro e w' ⟨rfl, hb1⟩; have hx1 := boxc hb1 0 _ rfl) | (go_at_call 72; refine (l1All_v _ _ _ _ _ _ _ _ H2.out hx (hv0.below hb1.of_alloc)).mono ?_; rintro e w' ⟨rfl, hb2⟩))
      go_ret
      exact ⟨by simp, hb1.of_alloc.step hb2⟩
    · have H2 := Lib.hid h2; clear h2
      obtain ⟨b, off, rfl, hlt, hcell⟩ := rd0 hr hp
      generalize xs.getD 0 0 = x at *
      go_enter Try.func50, Try.ntmps50
      go_wp2_with (first | (go_at_call 49; refine (l1In_t _ _ _ _ H1.out).mono ?_; rintro e w' ⟨rfl, hb1⟩; have hx1 := boxc hb1 0 _ rfl) | (go_at_call 72; refine (l1All_v _ _ _ _ _ _ _ _ H2.out hx (hv0.below hb1.of_alloc)).mono ?_; rintro e w' ⟨rfl, hb2⟩; have hx2 := boxc (hb1.step hb2) 0 _ rfl; have hcell2 := (hb1.of_alloc.step hb2).at hlt hcell))
      go_ret
      exact ⟨by rw [H1.out]; simp, hb1.of_alloc.step hb2⟩
  · have H1 := Lib.hid (by simpa using h1 : inB xs.length 1 10 = false); clear h1
    go_enter Try.func50, Try.ntmps50
    go_wp2_with (first | (go_at_call 49; refine (l1In_f _ _ _ _ H1.out).mono ?_; rintro e w' ⟨rfl, hb1⟩; have hx1 := boxc hb1 0 _ rfl))
    go_ret
    exact ⟨by rw [H1.out]; simp, hb1.of_alloc⟩
end Go.Proofs.Ytlcjcihohclmhaa
end
section
namespace Go.Proofs.Ytlcjcihohclmhaa
open Go.RowKit

theorem goodSign_none (xs : List Int) (h : ¬ inB xs.length 1 10 = true) : goodSign xs = false := by simp [goodSign, h]

theorem iGoodSign_c (l h : Nat) (v : Value) (xs : List Int) (w : World) (hx : xs.length ≤ 1048576) (hv : SlI l h w v xs) :
    Calls Try.prog 70 #[.agg #[v]] w (RetV w (.bool (goodSign xs))) := by
  obtain ⟨ad, cap, rfl, -, -, hr⟩ := hv
  by_cases h1 : xs.length < 1
  · have e1 : Hid (goodSign xs = false) := goodSign_none xs (by simp [inB]; omega)
    have h1' : decide ((xs.length : Int) < 1) = true := by simp; omega
    go_enter Try.func70, Try.ntmps70
    go_wp2_with fail
    go_ret
    exact ⟨by rw [e1.out]; rfl, Bel.alloc0 _ _⟩
  · by_cases h2 : 10 < xs.length
    · have e1 : Hid (goodSign xs = false) := goodSign_none xs (by simp [inB]; omega)
      go_enter Try.func70, Try.ntmps70
      go_wp2_with fail
      go_ret
      exact ⟨by rw [e1.out]; rfl, Bel.alloc0 _ _⟩
    · obtain ⟨b, off, rfl, hlt, hcell⟩ := rd0 hr (by omega)
      have hin : inB xs.length 1 10 = true := by simp [inB]; omega
      by_cases h3 : xs.getD 0 0 = 0
      · have E3 : Hid (goodSign xs = xs.all (inB · 0 3)) := by show goodSign xs = _; unfold goodSign; rw [hin, h3]; simp
        rw [h3] at hcell
        clear h3
        go_enter Try.func70, Try.ntmps70
        go_wp2_with fail
        go_loop [25] (fun i => ∃ k : Nat, k ≤ xs.length ∧ i = .int .i64 k ∧ (xs.take k).all (inB · 0 3) = true) (fun i => xs.length - (intOf i).toNat)
        case atStart => exact ⟨0, Nat.zero_le _, rfl, by simp⟩
        case round =>
          obtain ⟨k, hk, rfl, ha⟩ := hrel
          by_cases hltk : k < xs.length
          · obtain ⟨b', off', he, hb', hcell'⟩ := rd hr (Bel.alloc0 w (.cells #[.slice (some ⟨b, off, none⟩) xs.length cap] 26)) k hltk
            simp only [Option.some.injEq, Addr.mk.injEq, and_true] at he
            obtain ⟨rfl, rfl⟩ := he
            have E1 := Lib.hid (all_split xs (inB · 0 3) k hltk ha)
            have E2 := Lib.hid (all_false xs (inB · 0 3) k hltk)
            clear hr ha
            generalize xs.getD k 0 = x at *
            by_cases hp : x < 0
            · go_wp2_with fail
              go_ret
              exact ⟨by rw [E3.out, E2.out (by simp [inB]; omega)]; rfl, Bel.alloc0 _ _⟩
            · by_cases hp2 : 3 < x
              · go_wp2_with fail
                go_ret
                exact ⟨by rw [E3.out, E2.out (by simp [inB]; omega)]; rfl, Bel.alloc0 _ _⟩
              · go_wp2_with fail
                go_round
                case rel => exact ⟨k+1, by omega, by go_num, by rw [E1.out]; simp [inB]; omega⟩
                case measure => simp [intOf]; omega
          · have HA := Lib.hid ha; clear ha
            go_wp2_with fail
            go_ret
            exact ⟨by rw [E3.out, all_done xs _ k hk hltk HA.out]; rfl, Bel.alloc0 _ _⟩
      · have e1 : Hid (goodSign xs = false) := by show goodSign xs = _; unfold goodSign; rw [beq_eq_false_iff_ne.2 h3]; simp
        have h3' : (xs.getD 0 0 != 0) = true := by simpa using h3
        clear h3
        generalize xs.getD 0 0 = x at *
        go_enter Try.func70, Try.ntmps70
        go_wp2_with fail
        go_ret
        exact ⟨by rw [e1.out]; rfl, Bel.alloc0 _ _⟩
end Go.Proofs.Ytlcjcihohclmhaa
end
section
namespace Go.Proofs.Ytlcjcihohclmhaa
open Go.RowKit

def endI (ar t : List Int) (i : Nat) : Int := match endOf ar t i with | none => -1 | some e => e
theorem endI_none {ar t : List Int} {i : Nat} (h : endOf ar t i = none) : endI ar t i = -1 := by simp [endI, h]
theorem endI_some {ar t : List Int} {i e : Nat} (h : endOf ar t i = some e) : endI ar t i = e := by simp [endI, h]

theorem go_step_ok {ar t : List Int} {n p i : Nat} (h : endGo ar (t.drop p) (n + 1) p = endOf ar t i) (hp : p < t.length) (hs : okSym ar (t.getD p 0) = true) : endGo ar (t.drop (p + 1)) (n + arOf ar (t.getD p 0)) (p + 1) = endOf ar t i := by
  rw [← h, drop_cons t p hp, endGo_cons, if_pos hs]
theorem go_step_no {ar t : List Int} {n p i : Nat} (h : endGo ar (t.drop p) (n + 1) p = endOf ar t i) (hp : p < t.length) (hs : okSym ar (t.getD p 0) = false) : endOf ar t i = none := by
  rw [← h, drop_cons t p hp, endGo_cons, hs]; rfl
theorem go_step_end {ar t : List Int} {n p i : Nat} (h : endGo ar (t.drop p) (n + 1) p = endOf ar t i) (hp : ¬ p < t.length) : endOf ar t i = none := by
  rw [← h, List.drop_eq_nil_of_le (by omega), endGo_nil]
theorem go_step_done {ar t : List Int} {p i : Nat} (h : endGo ar (t.drop p) 0 p = endOf ar t i) : endOf ar t i = some p := by
  rw [← h, endGo_zero]
theorem arOf_nat {ar : List Int} (n : Nat) : arOf ar (n : Int) = (ar.getD n 0).toNat := by
  unfold arOf; rw [if_neg (by omega)]; simp
theorem arOf_neg {ar : List Int} {x : Int} (h : x < 0) : arOf ar x = 0 := by unfold arOf; rw [if_pos h]
theorem okSym_lt {ar : List Int} {n : Nat} (h : okSym ar (n : Int) = true) : n < ar.length := by simp [okSym, inB] at h; omega

set_option maxRecDepth 100000 in
set_option maxHeartbeats 1000000 in
theorem l1End_c (l h l' h' : Nat) (v u : Value) (ar t : List Int) (i : Nat) (w : World) (hg : goodSign ar = true) (ht : t.length ≤ 1048576) (hi : i ≤ t.length) (hv : SlI l h w v ar) (hu : SlI l' h' w u t) :
    Calls Try.prog 87 #[.agg #[v], u, .int .i64 i] w (RetV w (.int .i64 (endI ar t i))) := by
  obtain ⟨ad, cap, rfl, -, -, hr⟩ := hv
  obtain ⟨ad', cap', rfl, -, -, hr'⟩ := hu
  have hlen := sign_len ar hg
  go_enter Try.func87, Try.ntmps87
  go_wp2_with fail
  go_loopw [2, 7] (fun a n wr => ∃ p m : Nat, p ≤ t.length ∧ m ≤ 1 + 3 * p ∧ a = .int .i64 p ∧ n = .int .i64 m ∧ endGo ar (t.drop p) m p = endOf ar t i ∧ Bel (w.alloc (.cells #[.slice ad ar.length cap] 26)) wr) (fun a _ _ => t.length + 1 - (intOf a).toNat)
  case atStart => exact ⟨i, 1, hi, by omega, rfl, rfl, rfl, Bel.rfl' _⟩
  case round =>
    obtain ⟨p, m, hp, hm, rfl, rfl, hgo, hb⟩ := hrel
    have hbox := boxc hb 0 _ rfl
    cases m with
    | zero =>
      have E := Lib.hid (endI_some (go_step_done hgo))
      clear hgo
      go_wp2_with fail
      go_ret
      exact ⟨by rw [E.out]; rfl, hb.of_alloc⟩
    | succ m =>
      by_cases hlt : p < t.length
      · obtain ⟨b', off', rfl, -, hcell'⟩ := rd hr' hb.of_alloc p hlt
        have E1 := Lib.hid (go_step_ok hgo hlt)
        have E2 := Lib.hid (go_step_no hgo hlt)
        have ha3 := arOf_le ar hg (t.getD p 0)
        clear hgo hr'
        generalize t.getD p 0 = x at *
        have hm1 : ((m + 1 : Nat) : Int) = (m : Int) + 1 := by omega
        rw [hm1]
        clear hm1
        cases hs : okSym ar x with
        | false =>
          have E := Lib.hid (endI_none (E2.out hs))
          have HS := Lib.hid (show inB x (-12) ((ar.length : Int) - 1) = false from hs); clear hs
          have hw1 := IntWalk.i64_in ((ar.length : Int) - 1) (by omega)
          go_wp2_with fail
          go_quiet ((go_at_call 49; exact Calls.quiet_of_same (l1In_qv _ _ _ _ HS.out _)))
          go_wp2
          go_ret
          exact ⟨by rw [E.out]; rfl, hb.of_alloc.drewN _⟩
        | true =>
          have HS := Lib.hid (show inB x (-12) ((ar.length : Int) - 1) = true from hs)
          have hw1 := IntWalk.i64_in ((ar.length : Int) - 1) (by omega)
          by_cases hx : x < 0
          · have E := Lib.hid (E1.out hs)
            rw [arOf_neg hx] at E
            clear hs
            have hx' : decide (x ≥ 0) = false := by simp; omega
            go_wp2_with fail
            go_quiet ((go_at_call 49; exact Calls.quiet_of_same (l1In_qv _ _ _ _ HS.out _)))
            go_wp2
            go_roundw
            case rel => exact ⟨p+1, m, by omega, by omega, by go_num, rfl, E.out, hb.drewN _⟩
            case measure => simp [intOf]; omega
          · obtain ⟨k, rfl⟩ : ∃ k : Nat, x = k := ⟨x.toNat, by omega⟩
            have E := Lib.hid (E1.out hs)
            have hk := okSym_lt hs
            clear hs
            obtain ⟨b, off, rfl, -, hcell⟩ := rd hr hb.of_alloc k hk
            have hn := ar_nonneg ar hg k
            rw [arOf_nat] at E
            clear hr E1 E2 ha3
            obtain ⟨q, hq⟩ : ∃ q : Nat, ar.getD k 0 = q := ⟨(ar.getD k 0).toNat, by omega⟩
            rw [hq] at hcell E hn
            rw [show ((q : Int)).toNat = q from by omega] at E
            clear hq
            have hk2 : (k : Int) < ar.length := by omega
            have hw2 := IntWalk.i64_in ((m : Int) + (q : Int)) (by omega)
            go_wp2_with fail
            go_quiet ((go_at_call 49; exact Calls.quiet_of_same (l1In_qv _ _ _ _ HS.out _)))
            go_wp2
            go_quiet (fail)
            go_wp2
            go_roundw
            case rel => exact ⟨p+1, m + q, by omega, by omega, by go_num, by go_num, E.out, hb.drewN _⟩
            case measure => simp [intOf]; omega
      · have E := Lib.hid (endI_none (go_step_end hgo hlt))
        clear hgo
        have hm1 : ((m + 1 : Nat) : Int) = (m : Int) + 1 := by omega
        rw [hm1]
        clear hm1
        have hge : decide ((p : Int) ≥ t.length) = true := by simp; omega
        go_wp2_with fail
        go_quiet (fail)
        go_wp2
        go_ret
        exact ⟨by rw [E.out]; rfl, hb.of_alloc.drewN _⟩
end Go.Proofs.Ytlcjcihohclmhaa
end
section
namespace Go.Proofs.Ytlcjcihohclmhaa
open Go.RowKit

def endP (ar t : List Int) (i : Nat) : Value := match endOf ar t i with | none => .tuple #[.int .i64 0, .bool false] | some e => .tuple #[.int .i64 e, .bool true]
theorem endP_none {ar t : List Int} {i : Nat} (h : endOf ar t i = none) : endP ar t i = .tuple #[.int .i64 0, .bool false] := by simp [endP, h]
theorem endP_some {ar t : List Int} {i e : Nat} (h : endOf ar t i = some e) : endP ar t i = .tuple #[.int .i64 e, .bool true] := by simp [endP, h]

set_option maxRecDepth 100000 in
set_option maxHeartbeats 1000000 in
theorem termEnd_c (l h l' h' : Nat) (v u : Value) (ar t : List Int) (i : Nat) (w : World) (hg : goodSign ar = true) (ht : t.length ≤ 1048576) (hi : i ≤ t.length) (hv : SlI l h w v ar) (hu : SlI l' h' w u t) :
    Calls Try.prog 89 #[.agg #[v], u, .int .i64 i] w (RetV w (endP ar t i)) := by
  obtain ⟨ad, cap, rfl, -, -, hr⟩ := hv
  obtain ⟨ad', cap', rfl, -, -, hr'⟩ := hu
  have hlen := sign_len ar hg
  go_enter Try.func89, Try.ntmps89
  go_wp2_with fail
  go_step3
  go_wp2_with fail
  go_step3
  go_wp2_with fail
  go_loopw [8, 9] (fun n a wr => ∃ p m : Nat, p ≤ t.length ∧ m ≤ 3 * p ∧ a = .int .i64 p ∧ n = .int .i64 ((m : Int) + 1) ∧ endGo ar (t.drop p) (m + 1) p = endOf ar t i ∧ Bel (w.alloc (.cells #[.slice ad ar.length cap] 26)) wr) (fun _ a _ => t.length + 1 - (intOf a).toNat)
  case atStart => exact ⟨i, 0, hi, by omega, rfl, rfl, rfl, Bel.rfl' _⟩
  case round =>
    obtain ⟨p, m, hp, hm, rfl, rfl, hgo, hb⟩ := hrel
    have hbox := boxc hb 0 _ rfl
    by_cases hlt : p < t.length
    · obtain ⟨b', off', rfl, -, hcell'⟩ := rd hr' hb.of_alloc p hlt
      have E1 := go_step_ok hgo hlt
      have E2 := go_step_no hgo hlt
      have ha3 := arOf_le ar hg (t.getD p 0)
      clear hgo hr'
      generalize t.getD p 0 = x at *
      cases hs : okSym ar x with
      | false =>
        have E := Lib.hid (endP_none (E2 hs))
        have hs2 : (0 ≤ x ∧ (ar.length : Int) ≤ x) ∨ (x < 0 ∧ x < -12) := by simp [okSym, inB] at hs; omega
        clear E1 E2 hs
        rcases hs2 with ⟨h1, h2⟩ | ⟨h1, h2⟩
        · have h3 : decide (x ≥ 0) = true := by simpa using h1
          have h4 : decide (x < 0) = false := by simp; omega
          go_wp2_with fail
          try rw [Exit.noGoto_ret]
          go_ret2
          exact ⟨by rw [E.out]; rfl, hb.of_alloc⟩
        · have h3 : decide (x ≥ 0) = false := by simp; omega
          go_wp2_with fail
          try rw [Exit.noGoto_ret]
          go_ret2
          exact ⟨by rw [E.out]; rfl, hb.of_alloc⟩
      | true =>
        by_cases hx : x < 0
        · have E := E1 hs
          rw [arOf_neg hx] at E
          have hs2 : -12 ≤ x := by simp [okSym, inB] at hs; omega
          clear hs E1 E2
          have hx' : decide (x ≥ 0) = false := by simp; omega
          cases m with
          | zero =>
            have EE := Lib.hid (endP_some (go_step_done E))
            clear E
            go_wp2_with fail
            try rw [Exit.noGoto_ret]
            go_ret2
            exact ⟨by rw [EE.out]; rfl, hb.of_alloc⟩
          | succ m =>
            have EE := Lib.hid E
            clear E
            rw [show ((m + 1 : Nat) : Int) = (m : Int) + 1 from by omega]
            go_wp2_with fail
            go_roundw
            case rel => exact ⟨p+1, m, by omega, by omega, by go_num, by go_num, EE.out, hb⟩
            case measure => simp [intOf]; omega
        · obtain ⟨k, rfl⟩ : ∃ k : Nat, x = k := ⟨x.toNat, by omega⟩
          have E := E1 hs
          have hk := okSym_lt hs
          clear hs
          obtain ⟨b, off, rfl, -, hcell⟩ := rd hr hb.of_alloc k hk
          have hn := ar_nonneg ar hg k
          rw [arOf_nat] at E
          clear hr E1 E2 ha3
          obtain ⟨q, hq⟩ : ∃ q : Nat, ar.getD k 0 = q := ⟨(ar.getD k 0).toNat, by omega⟩
          rw [hq] at hcell E hn
          rw [show ((q : Int)).toNat = q from by omega] at E
          clear hq
          have hk2 : (k : Int) < ar.length := by omega
          have h3 : decide ((k : Int) ≥ 0) = true := by simp
          by_cases hz : m + q < 1
          · rw [show m + q = 0 from by omega] at E
            have EE := Lib.hid (endP_some (go_step_done E))
            clear E
            go_wp2_with fail
            try rw [Exit.noGoto_ret]
            go_ret2
            exact ⟨by rw [EE.out]; rfl, hb.of_alloc⟩
          · have E' : endGo ar (t.drop (p+1)) ((m + q - 1) + 1) (p+1) = endOf ar t i := by rw [← E]; congr 1; omega
            have EE := Lib.hid E'
            clear E E'
            go_wp2_with fail
            go_roundw
            case rel => exact ⟨p+1, m + q - 1, by omega, by omega, by go_num, by go_num, EE.out, hb⟩
            case measure => simp [intOf]; omega
    · have E := Lib.hid (endP_none (go_step_end hgo hlt))
      clear hgo
      go_wp2_with fail
      try rw [Exit.noGoto_ret]
      go_ret2
      exact ⟨by rw [E.out]; rfl, hb.of_alloc⟩
end Go.Proofs.Ytlcjcihohclmhaa
end
section
namespace Go.Proofs.Ytlcjcihohclmhaa
open Go.RowKit

theorem sGoodSign_v (l h : Nat) (v : Value) (xs : List Int) (b : Bool) (w : World) (he : goodSign xs = b) (hx : xs.length ≤ 1048576) (hv : SlI l h w v xs) :
    Calls Try.prog 50 #[.agg #[v]] w (RetV w (.bool b)) := he ▸ sGoodSign_c l h v xs w hx hv
theorem iGoodSign_v (l h : Nat) (v : Value) (xs : List Int) (b : Bool) (w : World) (he : goodSign xs = b) (hx : xs.length ≤ 1048576) (hv : SlI l h w v xs) :
    Calls Try.prog 70 #[.agg #[v]] w (RetV w (.bool b)) := he ▸ iGoodSign_c l h v xs w hx hv

theorem okTerm_short {ar t : List Int} (h : inB t.length 1 40 = false) : okTerm ar t = false := by simp [okTerm, h]
theorem okTerm_eq {ar t : List Int} (h : inB t.length 1 40 = true) : okTerm ar t = (endI ar t 0 == (t.length : Int)) := by
  simp only [okTerm, h, Bool.true_and, endI]
  cases endOf ar t 0 with
  | none => simp
  | some e => simp; rw [Bool.eq_iff_iff]; simp; omega

theorem l1Term_c (l h l' h' : Nat) (v u : Value) (ar t : List Int) (w : World) (hg : goodSign ar = true) (ht : t.length ≤ 1048576) (hv : SlI l h w v ar) (hu : SlI l' h' w u t) :
    Calls Try.prog 79 #[.agg #[v], u] w (RetV w (.bool (okTerm ar t))) := by
  have hu0 := hu
  obtain ⟨ad', cap', rfl⟩ := hu.form
  cases hs : inB t.length 1 40 with
  | false =>
    have E := Lib.hid (okTerm_short (ar := ar) hs)
    have HS := Lib.hid hs; clear hs
    go_enter Try.func79, Try.ntmps79
    go_wp2_with (go_at_call 49; refine (l1In_f _ _ _ _ HS.out).mono ?_; rintro e w' ⟨rfl, hb1⟩)
    go_ret
    exact ⟨by rw [E.out]; rfl, hb1.of_alloc⟩
  | true =>
    have E := Lib.hid (okTerm_eq (ar := ar) hs)
    have HS := Lib.hid hs; clear hs
    have hc := l1End_c l h l' h' v (.slice ad' t.length cap') ar t 0
    have HC := Lib.hid hc; clear hc
    generalize endI ar t 0 = r at *
    go_enter Try.func79, Try.ntmps79
    go_wp2_with fail
    refine (l1In_t _ _ _ _ HS.out).mono ?_; rintro e w' ⟨rfl, hb1⟩
    have hx1 := boxc hb1 0 _ rfl
    go_wp2_with fail
    refine (HC.out _ hg ht (by omega) (hv.below hb1.of_alloc) (hu0.below hb1.of_alloc)).mono ?_; rintro e w2 ⟨rfl, hb2⟩
    go_wp2_with fail
    go_ret
    exact ⟨by rw [E.out]; rfl, hb1.of_alloc.step hb2⟩
theorem l1Term_v (l h l' h' : Nat) (v u : Value) (ar t : List Int) (b : Bool) (w : World) (he : okTerm ar t = b) (hg : goodSign ar = true) (ht : t.length ≤ 1048576) (hv : SlI l h w v ar) (hu : SlI l' h' w u t) :
    Calls Try.prog 79 #[.agg #[v], u] w (RetV w (.bool b)) := he ▸ l1Term_c l h l' h' v u ar t w hg ht hv hu

theorem goodTerm_iff {ar t : List Int} : goodTerm ar t = true ↔ goodSign ar = true ∧ okTerm ar t = true := by simp [goodTerm]
theorem good_long {ar t : List Int} (h : 40 < t.length) : goodTerm ar t = false := by
  simp [goodTerm, okTerm, inB]; omega

theorem iGoodTerm_c (l h l' h' : Nat) (v u : Value) (ar t : List Int) (w : World) (ha : ar.length ≤ 1048576) (ht : t.length ≤ 1048576) (hv : SlI l h w v ar) (hu : SlI l' h' w u t) :
    Calls Try.prog 84 #[.agg #[v], u] w (RetV w (.bool (goodTerm ar t))) := by
  have hu0 := hu
  obtain ⟨ad', cap', rfl⟩ := hu.form
  by_cases hl : 40 < t.length
  · have E := Lib.hid (good_long (ar := ar) hl)
    go_enter Try.func84, Try.ntmps84
    go_wp2_with fail
    go_ret
    exact ⟨by rw [E.out]; rfl, Bel.alloc0 _ _⟩
  · cases hs : goodSign ar with
    | false =>
      have E : Hid (goodTerm ar t = false) := by show goodTerm ar t = false; simp [goodTerm, hs]
      have HS := Lib.hid hs; clear hs
      go_enter Try.func84, Try.ntmps84
      go_wp2_with fail
      refine (iGoodSign_v _ _ _ _ _ _ HS.out ha (hv.alloc _)).mono ?_; rintro e w' ⟨rfl, hb1⟩
      go_wp2_with fail
      go_ret
      exact ⟨by rw [E.out]; rfl, hb1.of_alloc⟩
    | true =>
      have E : Hid (goodTerm ar t = okTerm ar t) := by show goodTerm ar t = okTerm ar t; simp [goodTerm, hs]
      have hc := termEnd_c l h l' h' v (.slice ad' t.length cap') ar t 0
      have HS := Lib.hid hs; clear hs
      cases he : endOf ar t 0 with
      | none =>
        have HC := Lib.hid (fun w a b c d e => endP_none he ▸ hc w a b c d e)
        have E2 : Hid (okTerm ar t = false) := by show okTerm ar t = false; simp [okTerm, he]
        clear hc he
        go_enter Try.func84, Try.ntmps84
        go_wp2_with fail
        refine (iGoodSign_v _ _ _ _ _ _ HS.out ha (hv.alloc _)).mono ?_; rintro e w' ⟨rfl, hb1⟩
        have hx1 := boxc hb1 0 _ rfl
        go_wp2_with fail
        refine (HC.out _ HS.out ht (by omega) (hv.below hb1.of_alloc) (hu0.below hb1.of_alloc)).mono ?_; rintro e w2 ⟨rfl, hb2⟩
        go_wp2_with fail
        go_ret
        exact ⟨by rw [E.out, E2.out]; rfl, hb1.of_alloc.step hb2⟩
      | some q =>
        have HC := Lib.hid (fun w a b c d e => endP_some he ▸ hc w a b c d e)
        have E2 : Hid (okTerm ar t = ((q : Int) == (t.length : Int))) := by
          show okTerm ar t = _
          have hq := endGo_gt ar (t.drop 0) 0 0 q he
          have hq2 := endGo_ge ar (t.drop 0) 1 0 q he
          simp at hq2
          rw [Bool.eq_iff_iff]
          simp only [okTerm, inB, he, Bool.and_eq_true, decide_eq_true_eq, beq_iff_eq, Option.some.injEq]
          omega
        clear hc he
        go_enter Try.func84, Try.ntmps84
        go_wp2_with fail
        refine (iGoodSign_v _ _ _ _ _ _ HS.out ha (hv.alloc _)).mono ?_; rintro e w' ⟨rfl, hb1⟩
        have hx1 := boxc hb1 0 _ rfl
        go_wp2_with fail
        refine (HC.out _ HS.out ht (by omega) (hv.below hb1.of_alloc) (hu0.below hb1.of_alloc)).mono ?_; rintro e w2 ⟨rfl, hb2⟩
        go_wp2_with fail
        go_ret
        exact ⟨by rw [E.out, E2.out]; rfl, hb1.of_alloc.step hb2⟩
theorem iGoodTerm_v (l h l' h' : Nat) (v u : Value) (ar t : List Int) (b : Bool) (w : World) (he : goodTerm ar t = b) (ha : ar.length ≤ 1048576) (ht : t.length ≤ 1048576) (hv : SlI l h w v ar) (hu : SlI l' h' w u t) :
    Calls Try.prog 84 #[.agg #[v], u] w (RetV w (.bool b)) := he ▸ iGoodTerm_c l h l' h' v u ar t w ha ht hv hu

/-- A valid term and an index in it. -/
def askOk (ar t : List Int) (i : Int) : Bool := goodTerm ar t && inB i 0 ((t.length : Int) - 1)
theorem askOk_iff {ar t : List Int} {i : Int} : askOk ar t i = true ↔ goodTerm ar t = true ∧ 0 ≤ i ∧ i < t.length := by
  simp [askOk, inB]; omega

/-- What EndOf answers. -/
def endN (ar t : List Int) (i : Int) : Int := if askOk ar t i then endI ar t i.toNat else 0
def endAns (ar t : List Int) (i : Int) : Value := .tuple #[.int .i64 (endN ar t i), .bool (askOk ar t i)]
theorem endAns_no {ar t : List Int} {i : Int} (h : askOk ar t i = false) : endAns ar t i = .tuple #[.int .i64 0, .bool false] := by simp [endAns, endN, h]
/-- An index that is asked for: as a natural number, with the end of its subterm. -/
theorem ask_yes {ar t : List Int} {i : Int} (h : askOk ar t i = true) : ∃ k e : Nat, i = k ∧ k < t.length ∧ endOf ar t k = some e ∧ k < e ∧ e ≤ t.length ∧ t.length ≤ 40 ∧ goodSign ar = true ∧ okTerm ar t = true := by
  obtain ⟨h1, h2, h3⟩ := askOk_iff.1 h
  obtain ⟨h4, h5⟩ := goodTerm_iff.1 h1
  obtain ⟨k, rfl⟩ : ∃ k : Nat, i = k := ⟨i.toNat, by omega⟩
  obtain ⟨e, he, hl, hu⟩ := good_end ar t h5 k (by omega)
  exact ⟨k, e, rfl, by omega, he, hl, hu, ((okTerm_iff ar t).1 h5).2.1, h4, h5⟩
theorem endAns_yes {ar t : List Int} {k e : Nat} (h : askOk ar t k = true) (he : endOf ar t k = some e) : endAns ar t k = .tuple #[.int .i64 e, .bool true] := by simp [endAns, endN, h, endI, he]

theorem sGoodSign_t {l h : Nat} {v : Value} {ar : List Int} {w : World} (ha : ar.length ≤ 1048576) (hv : SlI l h w v ar) :
    Calls Try.prog 50 #[.agg #[v]] w (RetV w (.bool (goodSign ar))) := sGoodSign_c l h v ar w ha hv
theorem iGoodSign_t {l h : Nat} {v : Value} {ar : List Int} {w : World} (ha : ar.length ≤ 1048576) (hv : SlI l h w v ar) :
    Calls Try.prog 70 #[.agg #[v]] w (RetV w (.bool (goodSign ar))) := iGoodSign_c l h v ar w ha hv
theorem iGoodTerm_t {l h l' h' : Nat} {v u : Value} {ar t : List Int} {w : World} (ha : ar.length ≤ 1048576) (hv : SlI l h w v ar) (ht : t.length ≤ 1048576) (hu : SlI l' h' w u t) :
    Calls Try.prog 84 #[.agg #[v], u] w (RetV w (.bool (goodTerm ar t))) := iGoodTerm_c l h l' h' v u ar t w ha ht hv hu
end Go.Proofs.Ytlcjcihohclmhaa
end
section
/- Replacing a subterm in a valid term. No program. -/
namespace Go.Proofs.Ytlcjcihohclmhaa

theorem endGo_shift (ar : List Int) : ∀ (r : List Int) (n p d : Nat), endGo ar r n (p + d) = (endGo ar r n p).map (· + d) := by
  intro r
  induction r with
  | nil => intro n p d; cases n <;> simp [endGo]
  | cons x r ih =>
    intro n p d
    cases n with
    | zero => simp [endGo_zero]
    | succ n =>
      rw [endGo_cons, endGo_cons]
      split
      · rw [show p + d + 1 = (p + 1) + d from by omega, ih]
      · rfl

theorem endGo_ext (ar : List Int) : ∀ (r s : List Int) (n p e : Nat), endGo ar r n p = some e → endGo ar (r ++ s) n p = some e := by
  intro r
  induction r with
  | nil =>
    intro s n p e h
    cases n with
    | zero => rw [endGo_zero] at h ⊢; exact h
    | succ n => simp [endGo_nil] at h
  | cons x r ih =>
    intro s n p e h
    cases n with
    | zero => rw [endGo_zero] at h ⊢; exact h
    | succ n =>
      rw [endGo_cons] at h
      rw [List.cons_append, endGo_cons]
      split at h
      · rw [if_pos ‹_›]; exact ih _ _ _ _ h
      · simp at h

/-- What is cut off behind the end does not matter. -/
theorem endGo_cut (ar : List Int) : ∀ (r s : List Int) (n p e : Nat), endGo ar (r ++ s) n p = some e → e ≤ p + r.length → endGo ar r n p = some e := by
  intro r
  induction r with
  | nil =>
    intro s n p e h he
    cases n with
    | zero => rw [endGo_zero] at h ⊢; exact h
    | succ n => have := endGo_gt _ _ _ _ _ h; simp at he; omega
  | cons x r ih =>
    intro s n p e h he
    cases n with
    | zero => rw [endGo_zero] at h ⊢; exact h
    | succ n =>
      rw [List.cons_append, endGo_cons] at h
      rw [endGo_cons]
      split at h
      · rw [if_pos ‹_›]; exact ih s _ _ _ h (by simp at he; omega)
      · simp at h

/-- Behind a head that does not come to the end. -/
theorem endGo_head (ar : List Int) : ∀ (a : List Int) (n p : Nat) (r : List Int) (e : Nat), endGo ar (a ++ r) n p = some e → p + a.length < e → ∃ m, ∀ s, endGo ar (a ++ s) n p = endGo ar s (m + 1) (p + a.length) := by
  intro a
  induction a with
  | nil =>
    intro n p r e h he
    cases n with
    | zero => rw [endGo_zero] at h; simp at h he; omega
    | succ n => exact ⟨n, fun s => by simp⟩
  | cons x a ih =>
    intro n p r e h he
    cases n with
    | zero => rw [endGo_zero] at h; simp at h he; omega
    | succ n =>
      rw [List.cons_append, endGo_cons] at h
      split at h
      · rename_i hx
        obtain ⟨m, hm⟩ := ih _ _ _ _ h (by simp at he; omega)
        exact ⟨m, fun s => by rw [List.cons_append, endGo_cons, if_pos hx, hm, List.length_cons]; congr 1; omega⟩
      · simp at h

/-- The term with the subterm at i, which ends at e, replaced by u. -/
def replaced (t : List Int) (i e : Nat) (u : List Int) : List Int := t.take i ++ u ++ t.drop e
theorem replaced_len (t u : List Int) (i e : Nat) (h1 : i ≤ e) (h2 : e ≤ t.length) : (replaced t i e u).length = i + u.length + (t.length - e) := by
  simp [replaced]; omega

theorem replaced_end (ar t u : List Int) (i e : Nat) (ht : okTerm ar t = true) (hu : okTerm ar u = true) (hi : i < t.length) (he : endOf ar t i = some e) :
    endOf ar (replaced t i e u) 0 = some (replaced t i e u).length := by
  obtain ⟨_, _, h3⟩ := (okTerm_iff ar t).1 ht
  obtain ⟨hu1, _, h4⟩ := (okTerm_iff ar u).1 hu
  unfold endOf at h3 h4 he ⊢
  rw [List.drop_zero] at h3 h4 ⊢
  have hge := endGo_ge _ _ _ _ _ he
  have hgt := endGo_gt _ _ _ _ _ he
  simp at hge
  have hcut : t = t.take i ++ t.drop i := (List.take_append_drop i t).symm
  rw [hcut] at h3
  have hl : (t.take i).length = i := by simp; omega
  obtain ⟨m, hm⟩ := endGo_head ar (t.take i) 1 0 (t.drop i) _ h3 (by rw [hl]; simp; omega)
  rw [hm, hl, Nat.zero_add, show m + 1 = 1 + m from by omega, endGo_add, he] at h3
  simp only [Option.bind_some, List.drop_drop, show i + (e - i) = e from by omega] at h3
  unfold replaced
  rw [List.append_assoc, hm, hl, Nat.zero_add, show m + 1 = 1 + m from by omega, endGo_add]
  have h5 : endGo ar (u ++ t.drop e) 1 i = some (u.length + i) := by
    have := endGo_shift ar (u ++ t.drop e) 1 0 i
    rw [Nat.zero_add] at this
    rw [this, endGo_ext ar u _ _ _ _ h4]; rfl
  rw [h5]
  simp only [Option.bind_some, show u.length + i - i = u.length from by omega, List.drop_left']
  have h6 := endGo_shift ar (t.drop e) m 0 e
  rw [Nat.zero_add, h3] at h6
  have h7 := endGo_shift ar (t.drop e) m 0 (u.length + i)
  rw [Nat.zero_add] at h7
  rw [h7]
  cases h8 : endGo ar (t.drop e) m 0 with
  | none => rw [h8] at h6; simp at h6
  | some z =>
    rw [h8] at h6
    simp only [Option.map_some, Option.some.injEq] at h6 ⊢
    simp at h6 ⊢
    omega

theorem replaced_ok (ar t u : List Int) (i e : Nat) (ht : okTerm ar t = true) (hu : okTerm ar u = true) (hi : i < t.length) (he : endOf ar t i = some e) :
    okTerm ar (replaced t i e u) = decide ((replaced t i e u).length ≤ 40) := by
  have h1 := replaced_end ar t u i e ht hu hi he
  have h2 := ((okTerm_iff ar u).1 hu).1
  have hge := endGo_ge _ _ _ _ _ he
  simp at hge
  have h3 := replaced_len t u i e (by omega) (by omega)
  rw [Bool.eq_iff_iff, okTerm_iff, decide_eq_true_eq]
  constructor
  · exact fun h => h.2.1
  · exact fun h => ⟨by omega, h, h1⟩

/-- A subterm is a term. -/
def partOf (t : List Int) (i e : Nat) : List Int := (t.drop i).take (e - i)
theorem partOf_len (t : List Int) (i e : Nat) (h : e ≤ t.length) : (partOf t i e).length = e - i := by simp [partOf]; omega
theorem partOf_ok (ar t : List Int) (i e : Nat) (ht : okTerm ar t = true) (hi : i < t.length) (he : endOf ar t i = some e) : okTerm ar (partOf t i e) = true := by
  have h1 := ((okTerm_iff ar t).1 ht).2.1
  have hge := endGo_ge _ _ _ _ _ he
  have hgt := endGo_gt _ _ _ _ _ he
  simp at hge
  have hl := partOf_len t i e (by omega)
  rw [okTerm_iff]
  refine ⟨by omega, by omega, ?_⟩
  unfold endOf at he ⊢
  rw [List.drop_zero, hl]
  have h2 : t.drop i = partOf t i e ++ (t.drop i).drop (e - i) := by unfold partOf; rw [List.take_append_drop]
  rw [h2] at he
  have h3 := endGo_cut ar _ _ _ _ _ he (by omega)
  have h4 := endGo_shift ar (partOf t i e) 1 0 i
  rw [Nat.zero_add, h3] at h4
  cases h5 : endGo ar (partOf t i e) 1 0 with
  | none => rw [h5] at h4; simp at h4
  | some z => rw [h5] at h4; simp at h4 ⊢; omega
theorem replaced_self (t : List Int) (i e : Nat) (h1 : i ≤ e) : replaced t i e (partOf t i e) = t := by
  unfold replaced partOf
  rw [List.append_assoc]
  have : List.take (e - i) (List.drop i t) ++ List.drop e t = List.drop i t := by
    have h := List.take_append_drop (e - i) (List.drop i t)
    rw [List.drop_drop, show i + (e - i) = e from by omega] at h
    exact h
  rw [this, List.take_append_drop]
end Go.Proofs.Ytlcjcihohclmhaa
end
section
/- PartAt, ReplaceAt: both functions. -/
namespace Go.Proofs.Ytlcjcihohclmhaa
open Go.RowKit

theorem l1End_v (l h l' h' : Nat) (v u : Value) (ar t : List Int) (i q : Nat) (w : World) (he : endOf ar t i = some q) (hg : goodSign ar = true) (ht : t.length ≤ 1048576) (hi : i ≤ t.length) (hv : SlI l h w v ar) (hu : SlI l' h' w u t) :
    Calls Try.prog 87 #[.agg #[v], u, .int .i64 i] w (RetV w (.int .i64 q)) := endI_some he ▸ l1End_c l h l' h' v u ar t i w hg ht hi hv hu
theorem termEnd_v (l h l' h' : Nat) (v u : Value) (ar t : List Int) (i q : Nat) (w : World) (he : endOf ar t i = some q) (hg : goodSign ar = true) (ht : t.length ≤ 1048576) (hi : i ≤ t.length) (hv : SlI l h w v ar) (hu : SlI l' h' w u t) :
    Calls Try.prog 89 #[.agg #[v], u, .int .i64 i] w (RetV w (.tuple #[.int .i64 q, .bool true])) := endP_some he ▸ termEnd_c l h l' h' v u ar t i w hg ht hi hv hu

/-- What PartAt answers. -/
def partAns (ar t : List Int) (i : Int) : List Int := if askOk ar t i then partOf t i.toNat ((endOf ar t i.toNat).getD 0) else []
theorem partAns_yes {ar t : List Int} {k q : Nat} (h : askOk ar t k = true) (he : endOf ar t k = some q) : partAns ar t k = partOf t k q := by simp [partAns, h, he]
theorem partAns_len (ar t : List Int) (i : Int) : (partAns ar t i).length ≤ 1048576 := by
  unfold partAns
  split
  · rename_i h
    obtain ⟨k, e, rfl, hk, he, _, hle, hl, _, _⟩ := ask_yes h
    simp only [Int.toNat_natCast, he, Option.getD_some]
    rw [partOf_len t k e hle]
    omega
  · exact Nat.zero_le _

theorem replaced_len_le (t r : List Int) (i q : Nat) (ht : t.length ≤ 1048576) (hr : r.length ≤ 1048576) : (replaced t i q r).length ≤ 1099511627776 := by
  simp [replaced]; omega

end Go.Proofs.Ytlcjcihohclmhaa
end
section
/- ReplaceAt: both functions. -/
namespace Go.Proofs.Ytlcjcihohclmhaa
open Go.RowKit

def replIn (ar t : List Int) (i : Int) (u : List Int) : List Int := replaced t i.toNat ((endOf ar t i.toNat).getD 0) u
def replOk (ar t : List Int) (i : Int) (u : List Int) : Bool := askOk ar t i && okTerm ar u && okTerm ar (replIn ar t i u)
def replAns (ar t : List Int) (i : Int) (u : List Int) : List Int := if replOk ar t i u then replIn ar t i u else []
theorem replAns_len (ar t : List Int) (i : Int) (u : List Int) : (replAns ar t i u).length ≤ 1048576 := by
  unfold replAns
  split
  · rename_i h
    simp only [replOk, Bool.and_eq_true] at h
    have := ((okTerm_iff _ _).1 h.2).2.1
    omega
  · exact Nat.zero_le _
theorem replIn_eq {ar t u : List Int} {k q : Nat} (he : endOf ar t k = some q) : replIn ar t k u = replaced t k q u := by simp [replIn, he]
theorem repl_no {ar t u : List Int} {i : Int} (h : replOk ar t i u = false) : replAns ar t i u = [] := by simp [replAns, h]
theorem repl_yes {ar t u : List Int} {i : Int} (h : replOk ar t i u = true) : replAns ar t i u = replIn ar t i u := by simp [replAns, h]

end Go.Proofs.Ytlcjcihohclmhaa
end
