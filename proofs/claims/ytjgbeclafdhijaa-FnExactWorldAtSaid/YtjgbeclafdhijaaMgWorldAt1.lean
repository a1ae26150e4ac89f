/- Texts merged, part 1. -/
import Derived.WalkKit
import Derived.WalkSpells
import Derived.WalkLawsBesides
import Derived.BigQuiet
import Derived.Deep.QuietTactic
import Derived.Deep.RegionHeld3
import Derived.Deep.DeepCutAuto
import Derived.Deep.DeepFit
import Derived.Deep.DeepMust
import Derived.Outline
import Derived.Lib.Hide
import Derived.Laws.CopyOwn
import Derived.KernelRfl
import Derived.Test.YtjgbeclafdhijaaProg
section
/- Definitions and small lemmas on worlds and slices of ints. No program. -/
namespace Go.Proofs.Ytjgbeclafdhijaa
open Go.RowKit

/-- The frame of every contract: what was there is as it was. -/
abbrev Bel (w w' : World) : Prop := Below w.heap.size w w'

theorem Bel.rfl' (w : World) : Bel w w := Below.refl _ _
theorem Bel.step {a b c : World} (h : Bel a b) (k : Bel b c) : Bel a c := h.trans (k.mono h.size)

/-- The slice value v holds the numbers xs; its array lies in a block from lo on and below hi. -/
def SlI (lo hi : Nat) (w : World) (v : Value) (xs : List Int) : Prop :=
  ∃ ad cap, v = .slice ad xs.length cap ∧ xs.length ≤ cap ∧ (cap ≤ maxLen ∧ (ad = none → cap = 0)) ∧
    (0 < xs.length → ∃ b off, ad = some ⟨b, off, none⟩ ∧ lo ≤ b ∧ b < hi ∧ ∀ j, j < xs.length → w.cell? ⟨b, off + j, none⟩ = some (.int .i64 (xs.getD j 0)))

/-- .. and it may be written. -/
def OwnI (lo hi : Nat) (w : World) (v : Value) (xs : List Int) : Prop :=
  SlI lo hi w v xs ∧ ∀ b off n c, v = .slice (some ⟨b, off, none⟩) n c → 0 < n → ∀ j, w.frozen? ⟨b, off + j, none⟩ = false

theorem OwnI.sl {lo hi w v xs} (h : OwnI lo hi w v xs) : SlI lo hi w v xs := h.1

theorem SlI.mono {lo hi lo' hi' w v xs} (h : SlI lo hi w v xs) (h1 : lo' ≤ lo) (h2 : hi ≤ hi') : SlI lo' hi' w v xs := by
  obtain ⟨ad, cap, rfl, hc, hm, hr⟩ := h
  refine ⟨ad, cap, rfl, hc, hm, fun hp => ?_⟩
  obtain ⟨b, off, e, a1, a2, a3⟩ := hr hp
  exact ⟨b, off, e, by omega, by omega, a3⟩
theorem OwnI.mono {lo hi lo' hi' w v xs} (h : OwnI lo hi w v xs) (h1 : lo' ≤ lo) (h2 : hi ≤ hi') : OwnI lo' hi' w v xs := ⟨h.1.mono h1 h2, h.2⟩

/-- Blocks that are the same keep a slice. -/
theorem SlI.same {lo hi w w' v xs} (h : SlI lo hi w v xs) (hs : ∀ b, lo ≤ b → b < hi → b < w.heap.size → w'.heap[b]? = w.heap[b]?) : SlI lo hi w' v xs := by
  obtain ⟨ad, cap, rfl, hc, hm, hr⟩ := h
  refine ⟨ad, cap, rfl, hc, hm, fun hp => ?_⟩
  obtain ⟨b, off, e, a1, a2, a3⟩ := hr hp
  refine ⟨b, off, e, a1, a2, fun j hj => ?_⟩
  have hb : b < w.heap.size := World.block_lt_of_cell? w ⟨b, off + j, none⟩ (a3 j hj)
  rw [World.cell?_of_block (w := w) (a := ⟨b, off + j, none⟩) (hs b a1 a2 hb)]
  exact a3 j hj

theorem SlI.below {lo hi w w' v xs} (h : SlI lo hi w v xs) (hb : Bel w w') : SlI lo hi w' v xs :=
  h.same fun b _ _ h3 => hb.block b h3

theorem OwnI.same {lo hi w w' v xs} (h : OwnI lo hi w v xs) (hs : ∀ b, lo ≤ b → b < hi → b < w.heap.size → w'.heap[b]? = w.heap[b]?) : OwnI lo hi w' v xs := by
  refine ⟨h.1.same hs, fun b off n c hv hn j => ?_⟩
  obtain ⟨ad, cap, e, hc, hm, hr⟩ := h.1
  rw [e] at hv
  simp only [Value.slice.injEq] at hv
  obtain ⟨h1, hl, _⟩ := hv
  obtain ⟨b', off', e', a1, a2, a3⟩ := hr (by omega)
  rw [e'] at h1
  simp only [Option.some.injEq, Addr.mk.injEq] at h1
  obtain ⟨rfl, rfl, -⟩ := h1
  have hb : b' < w.heap.size := World.block_lt_of_cell? w ⟨b', off' + 0, none⟩ (a3 0 (by omega))
  rw [World.frozen?_of_block (w := w) (a := ⟨b', off' + j, none⟩) (hs b' a1 a2 hb)]
  exact h.2 b' off' n cap (by rw [e, e', hl]) hn j

theorem OwnI.below {lo hi w w' v xs} (h : OwnI lo hi w v xs) (hb : Bel w w') : OwnI lo hi w' v xs :=
  h.same fun b _ _ h3 => hb.block b h3

/-- Whatever is there lies in some block that is there. -/
theorem SlI.in' {lo hi w v xs} (h : SlI lo hi w v xs) : SlI 0 w.heap.size w v xs := by
  obtain ⟨ad, cap, rfl, hc, hm, hr⟩ := h
  refine ⟨ad, cap, rfl, hc, hm, fun hp => ?_⟩
  obtain ⟨b, off, e, a1, a2, a3⟩ := hr hp
  exact ⟨b, off, e, Nat.zero_le _, World.block_lt_of_cell? w ⟨b, off + 0, none⟩ (a3 0 hp), a3⟩
theorem SlI.nil (lo hi : Nat) (w : World) : SlI lo hi w (.slice none 0 0) [] := ⟨none, 0, rfl, Nat.le_refl _, ⟨Nat.zero_le _, fun _ => rfl⟩, fun h => absurd h (by simp)⟩
theorem OwnI.nil (lo hi : Nat) (w : World) : OwnI lo hi w (.slice none 0 0) [] := ⟨SlI.nil lo hi w, fun _ _ _ _ h => by simp at h⟩

/-- The value returned, and the frame. -/
def RetV (w : World) (v : Value) (e : Ending) (w' : World) : Prop := e = .returned v ∧ Bel w w'
/-- A slice of ints of the call's own. -/
def RetI (w : World) (xs : List Int) (e : Ending) (w' : World) : Prop := ∃ ad n c, e = .returned (.slice ad n c) ∧ OwnI w.heap.size w'.heap.size w' (.slice ad n c) xs ∧ Bel w w'
def RetIB (w : World) (xs : List Int) (ok : Bool) (e : Ending) (w' : World) : Prop := ∃ ad n c, e = .returned (.tuple #[.slice ad n c, .bool ok]) ∧ OwnI w.heap.size w'.heap.size w' (.slice ad n c) xs ∧ Bel w w'
/-- A struct of one slice. -/
def RetS (w : World) (xs : List Int) (e : Ending) (w' : World) : Prop := ∃ ad n c, e = .returned (.agg #[.slice ad n c]) ∧ OwnI w.heap.size w'.heap.size w' (.slice ad n c) xs ∧ Bel w w'
theorem addr_add (b off j : Nat) : (⟨b, off, none⟩ : Addr).add j = ⟨b, off + j, none⟩ := by cases j <;> simp [Addr.add]
theorem SlI.form {lo hi w v xs} (h : SlI lo hi w v xs) : ∃ ad c, v = .slice ad xs.length c := by obtain ⟨ad, c, h, _⟩ := h; exact ⟨ad, c, h⟩

/-- A row that the call itself made, as a slice of ints. -/
theorem OwnI.of_row {w : World} {base e : Nat} {v : Value} {xs : List Int} (h : w.ownsRow base e 1 v xs.length (xs.map (Value.int .i64))) : OwnI base w.heap.size w v xs := by
  have h0 := h
  obtain ⟨h1, h2⟩ := h
  rcases h2 with ⟨rfl, hn⟩ | ⟨g, cap, cur, rfl, hg, hh, hn, hc, hs, ht⟩
  · obtain rfl : xs = [] := List.length_eq_zero_iff.1 hn
    exact OwnI.nil _ _ _
  · have hgs : g < w.heap.size := by
      have := Array.getElem?_eq_some_iff.1 hh
      exact this.1
    refine ⟨⟨_, cap, rfl, hn, ⟨hc, fun h => by simp at h⟩, fun hp => ⟨g, 0, rfl, hg, hgs, fun j hj => ?_⟩⟩, ?_⟩
    · rw [Nat.zero_add, h0.cellAt j (by omega)]
      simp [List.getD, hj]
    · intro b off n c hv hn' j
      simp only [Value.slice.injEq, Option.some.injEq, Addr.mk.injEq] at hv
      obtain ⟨⟨rfl, rfl, -⟩, rfl, rfl⟩ := hv
      rw [Nat.zero_add]
      exact h0.frozenAt j

/-- Reading the k-th. -/
theorem rd {lo hi : Nat} {w wr : World} {ad : Option Addr} {xs : List Int} (hr : 0 < xs.length → ∃ b off, ad = some ⟨b, off, none⟩ ∧ lo ≤ b ∧ b < hi ∧ ∀ j, j < xs.length → w.cell? ⟨b, off + j, none⟩ = some (.int .i64 (xs.getD j 0)))
    (hb : Bel w wr) (k : Nat) (hk : k < xs.length) : ∃ b off, ad = some ⟨b, off, none⟩ ∧ b < w.heap.size ∧ wr.cell? ⟨b, off + k, none⟩ = some (.int .i64 (xs.getD k 0)) := by
  obtain ⟨b, off, e, _, _, hc⟩ := hr (by omega)
  have h1 := World.block_lt_of_cell? w ⟨b, off + k, none⟩ (hc k hk)
  exact ⟨b, off, e, h1, (hb.cell (p := ⟨b, off + k, none⟩) h1).trans (hc k hk)⟩

theorem rd0 {lo hi : Nat} {w : World} {ad : Option Addr} {xs : List Int} (hr : 0 < xs.length → ∃ b off, ad = some ⟨b, off, none⟩ ∧ lo ≤ b ∧ b < hi ∧ ∀ j, j < xs.length → w.cell? ⟨b, off + j, none⟩ = some (.int .i64 (xs.getD j 0)))
    (hk : 0 < xs.length) : ∃ b off, ad = some ⟨b, off, none⟩ ∧ b < w.heap.size ∧ w.cell? ⟨b, off, none⟩ = some (.int .i64 (xs.getD 0 0)) := rd hr (Bel.rfl' w) 0 hk
theorem Bel.at {w w' : World} (hb : Bel w w') {b off : Nat} {v : Value} (h : b < w.heap.size) (hc : w.cell? ⟨b, off, none⟩ = some v) : w'.cell? ⟨b, off, none⟩ = some v := (hb.cell (p := ⟨b, off, none⟩) h).trans hc

/-- The cells of a block that was laid first of all. -/
theorem boxc {w w' : World} {cs : Array Value} {t : TypeId} (hb : Bel (w.alloc (.cells cs t)) w') (i : Nat) (v : Value) (hv : cs[i]? = some v) : w'.cell? ⟨w.heap.size, i, none⟩ = some v := by
  rw [hb.cell (p := ⟨w.heap.size, i, none⟩) (by simp), World.cell?_alloc_new w cs t i]; exact hv
theorem Bel.of_alloc {w w' : World} {o : Obj} (hb : Bel (w.alloc o) w') : Bel w w' := Bel.step ((Below.refl w.heap.size w).alloc (Nat.le_refl _) o) hb
theorem Bel.alloc0 (w : World) (o : Obj) : Bel w (w.alloc o) := (Below.refl w.heap.size w).alloc (Nat.le_refl _) o

theorem own_cell {w : World} {base e g n cap : Nat} {ys : List Int} (ho : w.ownsRow base e 1 (.slice (some ⟨g, 0, none⟩) n cap) n (ys.map (Value.int .i64))) (k : Nat) (hk : k < ys.length) : ∃ x, w.cell? ⟨g, k, none⟩ = some (.int .i64 x) := by
  have hl := ho.1
  simp at hl
  exact ⟨ys[k], by rw [ho.cellAt k (by omega)]; simp [hk]⟩

theorem Bel.alloc {a w : World} (h : Bel a w) (o : Obj) : Bel a (w.alloc o) := Below.alloc h h.size o
theorem Bel.alloc2 (w : World) (o p : Obj) : Bel w ((w.alloc o).alloc p) := (Bel.alloc0 w o).alloc p
theorem Bel.alloc3 (w : World) (o p q : Obj) : Bel w (((w.alloc o).alloc p).alloc q) := (Bel.alloc2 w o p).alloc q
theorem Bel.drewN {a w : World} (h : Bel a w) (n : Nat) : Bel a (w.drewN n) := ⟨h.os, h.tape, h.output, h.size, h.block⟩
theorem Bel.drew {a w : World} (h : Bel a w) : Bel a w.drew := Below.drew h
theorem Bel.drew0 (w : World) : Bel w w.drew := Below.drew (Below.refl _ _)
theorem Bel.of_drew {a w : World} (h : Bel a.drew w) : Bel a w := Bel.step (Bel.drew0 a) h
theorem Bel.set {a w : World} (h : Bel a w) {p : Addr} (hp : a.heap.size ≤ p.block) (u : Value) : Bel a (w.setCell p u) := Below.setCell h hp u
theorem SlI.drewN {lo hi w v xs} (h : SlI lo hi w v xs) (n : Nat) : SlI lo hi (w.drewN n) v xs := h.below ((Bel.rfl' w).drewN n)
theorem SlI.alloc {lo hi w v xs} (h : SlI lo hi w v xs) (o : Obj) : SlI lo hi (w.alloc o) v xs := h.below (Bel.alloc0 w o)
theorem OwnI.alloc {lo hi w v xs} (h : OwnI lo hi w v xs) (o : Obj) : OwnI lo hi (w.alloc o) v xs := h.below (Bel.alloc0 w o)
/-- A store into a block outside. -/
theorem OwnI.set {lo hi w v xs} (h : OwnI lo hi w v xs) {p : Addr} (hp : p.block < lo ∨ hi ≤ p.block) (u : Value) : OwnI lo hi (w.setCell p u) v xs :=
  h.same fun b h1 h2 _ => Below.heap_setCell w p u b (by omega)
theorem SlI.set {lo hi w v xs} (h : SlI lo hi w v xs) {p : Addr} (hp : p.block < lo ∨ hi ≤ p.block) (u : Value) : SlI lo hi (w.setCell p u) v xs :=
  h.same fun b h1 h2 _ => Below.heap_setCell w p u b (by omega)

/-- Only blocks from lo on and below hi may have turned. -/
structure Chg (lo hi : Nat) (w w' : World) : Prop where
  os : w'.os = w.os
  tape : w'.tape = w.tape
  output : w'.output = w.output
  size : w.heap.size ≤ w'.heap.size
  block : ∀ b, b < w.heap.size → (b < lo ∨ hi ≤ b) → w'.heap[b]? = w.heap[b]?
theorem Chg.refl (lo hi : Nat) (w : World) : Chg lo hi w w := ⟨rfl, rfl, rfl, Nat.le_refl _, fun _ _ _ => rfl⟩
theorem Chg.trans {lo hi : Nat} {a b c : World} (h : Chg lo hi a b) (k : Chg lo hi b c) : Chg lo hi a c :=
  ⟨k.os.trans h.os, k.tape.trans h.tape, k.output.trans h.output, Nat.le_trans h.size k.size, fun i hi ho => (k.block i (Nat.lt_of_lt_of_le hi h.size) ho).trans (h.block i hi ho)⟩
theorem Chg.of_bel {lo hi : Nat} {w w' : World} (h : Bel w w') : Chg lo hi w w' := ⟨h.os, h.tape, h.output, h.size, fun b hb _ => h.block b hb⟩
theorem Chg.set {lo hi : Nat} (w : World) {p : Addr} (h1 : lo ≤ p.block) (h2 : p.block < hi) (u : Value) : Chg lo hi w (w.setCell p u) :=
  ⟨rfl, rfl, rfl, by simp [World.setCell], fun b _ ho => Below.heap_setCell w p u b (by omega)⟩
theorem Chg.mono {lo hi lo' hi' : Nat} {w w' : World} (h : Chg lo hi w w') (h1 : lo' ≤ lo) (h2 : hi ≤ hi') : Chg lo' hi' w w' :=
  ⟨h.os, h.tape, h.output, h.size, fun b hb ho => h.block b hb (by omega)⟩
/-- What the call itself had made may turn. -/
theorem Chg.bel {lo hi : Nat} {w0 w w' : World} (h : Chg lo hi w w') (h0 : Bel w0 w) (hlo : w0.heap.size ≤ lo) : Bel w0 w' :=
  ⟨h.os.trans h0.os, h.tape.trans h0.tape, h.output.trans h0.output, Nat.le_trans h0.size h.size, fun b hb => (h.block b (Nat.lt_of_lt_of_le hb h0.size) (.inl (by omega))).trans (h0.block b hb)⟩
theorem SlI.chg {lo hi lo' hi' w w' v xs} (h : SlI lo hi w v xs) (k : Chg lo' hi' w w') (hd : hi ≤ lo' ∨ hi' ≤ lo) : SlI lo hi w' v xs :=
  h.same fun b h1 h2 h3 => k.block b h3 (by omega)
theorem OwnI.chg {lo hi lo' hi' w w' v xs} (h : OwnI lo hi w v xs) (k : Chg lo' hi' w w') (hd : hi ≤ lo' ∨ hi' ≤ lo) : OwnI lo hi w' v xs :=
  h.same fun b h1 h2 h3 => k.block b h3 (by omega)
theorem Chg.cell {lo hi : Nat} {w w' : World} (k : Chg lo hi w w') {b off : Nat} {v : Value} (h : b < w.heap.size) (hd : b < lo ∨ hi ≤ b) (hc : w.cell? ⟨b, off, none⟩ = some v) : w'.cell? ⟨b, off, none⟩ = some v :=
  (World.cell?_of_block (w := w) (a := ⟨b, off, none⟩) (k.block b h hd)).trans hc

/-- What marking from k on leaves. -/
def marks (k n : Nat) : List Int := (List.range n).map (fun i => ((k + i : Nat) : Int))
theorem marks_len (k n : Nat) : (marks k n).length = n := by simp [marks]
theorem marks_get (k n i : Nat) (h : i < n) : (marks k n).getD i 0 = ((k + i : Nat) : Int) := by simp [marks, List.getD, h]
/-- The first j are marked, the rest is as it was. -/
def marked (xs : List Int) (k j : Nat) : List Int := marks k j ++ xs.drop j
theorem marked_zero (xs : List Int) (k : Nat) : marked xs k 0 = xs := by simp [marked, marks]
theorem marked_len (xs : List Int) (k j : Nat) (h : j ≤ xs.length) : (marked xs k j).length = xs.length := by simp [marked, marks_len]; omega
theorem marked_all (xs : List Int) (k j : Nat) (h : ¬ j < xs.length) (h2 : j ≤ xs.length) : marked xs k j = marks k xs.length := by
  obtain rfl : j = xs.length := by omega
  simp [marked]
theorem marked_succ (xs : List Int) (k j : Nat) (h : j < xs.length) : (marked xs k j).set j ((k + j : Nat) : Int) = marked xs k (j+1) := by
  unfold marked
  rw [List.set_append_right _ _ (by rw [marks_len]; exact Nat.le_refl _), marks_len, Nat.sub_self, List.drop_eq_getElem_cons h, List.set_cons_zero]
  simp [marks, List.range_succ]

/-- A store into a slice that may be written. -/
theorem OwnI.stored {lo hi : Nat} {w : World} {b off n c : Nat} {xs : List Int} (h : OwnI lo hi w (.slice (some ⟨b, off, none⟩) n c) xs) (j : Nat) (hj : j < xs.length) (x : Int) :
    OwnI lo hi (w.setCell ⟨b, off + j, none⟩ (.int .i64 x)) (.slice (some ⟨b, off, none⟩) n c) (xs.set j x) := by
  obtain ⟨⟨ad, cap, e, hc, hm, hr⟩, hf⟩ := h
  obtain ⟨b', off', e', a1, a2, a3⟩ := hr (by omega)
  simp only [Value.slice.injEq] at e
  obtain ⟨rfl, rfl, rfl⟩ := e
  simp only [Option.some.injEq, Addr.mk.injEq, and_true] at e'
  obtain ⟨rfl, rfl⟩ := e'
  refine ⟨⟨_, c, by rw [List.length_set], by rw [List.length_set]; exact hc, hm, fun _ => ⟨b, off, rfl, a1, a2, fun i hi => ?_⟩⟩, fun b2 off2 n2 c2 hv hn2 i => ?_⟩
  · rw [List.length_set] at hi
    have hne : i ≠ j → (⟨b, off + j, none⟩ : Addr) ≠ ⟨b, off + i, none⟩ := by intro h1 h2; simp only [Addr.mk.injEq, and_true, true_and] at h2; omega
    by_cases e : i = j
    · subst e
      rw [World.cell?_setCell_same (h := a3 i hi)]
      simp [List.getD, hi]
    · rw [World.cell?_setCell_other (h := hne e), a3 i hi]
      simp [List.getD, Ne.symm e]
  · simp only [Value.slice.injEq, Option.some.injEq, Addr.mk.injEq, and_true] at hv
    obtain ⟨⟨rfl, rfl⟩, rfl, rfl⟩ := hv
    rw [World.frozen?_setCell]
    exact hf b off _ c rfl hn2 i

def inB (n lo hi : Int) : Bool := decide (lo ≤ n) && decide (n ≤ hi)

theorem all_split (xs : List Int) (p : Int → Bool) (k : Nat) (hk : k < xs.length) (h : (xs.take k).all p = true) : (xs.take (k+1)).all p = p (xs.getD k 0) := by
  rw [List.take_succ_eq_append_getElem hk, List.all_append, h]
  simp [List.getD, hk]
theorem all_false (xs : List Int) (p : Int → Bool) (k : Nat) (hk : k < xs.length) (h : p (xs.getD k 0) = false) : xs.all p = false := by
  rw [List.all_eq_false]
  exact ⟨xs[k], List.getElem_mem hk, by simpa [List.getD, hk] using h⟩
theorem all_done (xs : List Int) (p : Int → Bool) (k : Nat) (hk : k ≤ xs.length) (h1 : ¬ k < xs.length) (h : (xs.take k).all p = true) : xs.all p = true := by
  obtain rfl : k = xs.length := by omega
  rwa [List.take_length] at h


/-- What holds now and in whatever world comes by adding memory. -/
def K (P : World → Prop) (w : World) : Prop := ∀ w', Bel w w' → P w'
theorem K.now {P : World → Prop} {w : World} (h : K P w) : P w := h w (Bel.rfl' w)
theorem K.step {P : World → Prop} {w w' : World} (h : K P w) (hb : Bel w w') : K P w' := fun _ h2 => h _ (hb.step h2)
theorem K.and {P Q : World → Prop} {w : World} (h : K P w) (k : K Q w) : K (fun w => P w ∧ Q w) w := fun w' hb => ⟨h w' hb, k w' hb⟩
theorem K.imp {P Q : World → Prop} {w : World} (h : K P w) (hpq : ∀ w, P w → Q w) : K Q w := fun w' hb => hpq _ (h w' hb)
theorem SlI.k {lo hi w v xs} (h : SlI lo hi w v xs) : K (fun w => SlI lo hi w v xs) w := fun _ hb => h.below hb
theorem OwnI.k {lo hi w v xs} (h : OwnI lo hi w v xs) : K (fun w => OwnI lo hi w v xs) w := fun _ hb => h.below hb
theorem cell_k {w : World} {b : Nat} {v : Value} (h : b < w.heap.size ∧ w.cell? ⟨b, 0, none⟩ = some v) : K (fun w => b < w.heap.size ∧ w.cell? ⟨b, 0, none⟩ = some v) w :=
  fun _ hb => ⟨Nat.lt_of_lt_of_le h.1 hb.size, hb.at h.1 h.2⟩
theorem le_k {n : Nat} {w : World} (h : n ≤ w.heap.size) : K (fun w => n ≤ w.heap.size) w := fun _ hb => Nat.le_trans h hb.size
theorem bel_k {w0 w : World} (h : Bel w0 w) : K (fun w => Bel w0 w) w := fun _ hb => h.step hb
theorem boxk {w w' : World} {cs : Array Value} {t : TypeId} (hb : Bel (w.alloc (.cells cs t)) w') (v : Value) (hv : cs[0]? = some v) : w.heap.size < w'.heap.size ∧ w'.cell? ⟨w.heap.size, 0, none⟩ = some v :=
  ⟨by have := hb.size; simp at this; omega, boxc hb 0 v hv⟩

theorem news_one (w : World) (x : Value) (t : TypeId) : ∀ j u, [x][j]? = some u → (w.alloc (.cells #[x] t)).cell? ((⟨w.heap.size, 0, none⟩ : Addr).add j) = some u := by
  intro j u hj
  match j, hj with
  | 0, hj => simp at hj; subst hj; rw [show (⟨w.heap.size, 0, none⟩ : Addr).add 0 = ⟨w.heap.size, 0, none⟩ from rfl, World.cell?_alloc_new w]; rfl
theorem one_int (n : Int) : ∀ u ∈ [Value.int .i64 n], u.oneCell' = true := by intro u hu; simp at hu; subst hu; rfl
/-- A row of ints grown by one. -/
theorem row_snoc {w : World} {base e : Nat} {v : Value} {acc : List Int} {x : Int} (h : w.ownsRow base e 1 v (acc.length + 1) (acc.map (Value.int .i64) ++ [.int .i64 x])) :
    w.ownsRow base e 1 v (acc ++ [x]).length ((acc ++ [x]).map (Value.int .i64)) := by simpa using h
theorem Bel.grown {a w w' : World} {r : Option Nat} (h : Bel a w) (g : w.grownBy w' r) (hr : ∀ k, r = some k → a.heap.size ≤ k) : Bel a w' := Below.grown h g h.size hr
theorem own_base {w : World} {base e s n : Nat} {v : Value} {xs : List Value} (h : w.ownsRow base e s v n xs) : ∀ k, v.ownBlock = some k → base ≤ k := by
  intro k hk
  rcases h.2 with ⟨rfl, _⟩ | ⟨g, cap, cur, rfl, hg, _⟩
  · simp [Value.ownBlock] at hk
  · simp [Value.ownBlock] at hk; omega
theorem own_form {w : World} {base e s n : Nat} {v : Value} {xs : List Value} (h : w.ownsRow base e s v n xs) : ∃ ad m c, v = .slice ad m c := by
  rcases h.2 with ⟨rfl, _⟩ | ⟨g, cap, cur, rfl, hg, _⟩ <;> exact ⟨_, _, _, rfl⟩
/-- A row lies nowhere but in its own block. -/
theorem ownsRow_bel {w w' : World} {base e s n : Nat} {v : Value} {xs : List Value} (h : w.ownsRow base e s v n xs) (hb : Bel w w') : w'.ownsRow base e s v n xs := by
  refine ⟨h.1, ?_⟩
  rcases h.2 with h0 | ⟨g, cap, cur, e1, e2, hh, r⟩
  · exact .inl h0
  · exact .inr ⟨g, cap, cur, e1, e2, by rw [hb.block g (Array.getElem?_eq_some_iff.1 hh).1]; exact hh, r⟩
end Go.Proofs.Ytjgbeclafdhijaa
end
section
namespace Go.Proofs.Ytjgbeclafdhijaa
open Go.RowKit

theorem l1In_q (n lo hi : Int) (w : World) : Calls Try.prog 33 #[.int .i64 n, .int .i64 lo, .int .i64 hi] w fun e w' => e = .returned (.bool (inB n lo hi)) ∧ w' = w := by
  unfold inB
  go_enter Try.func33, Try.ntmps33
  by_cases h1 : lo ≤ n
  · by_cases h2 : n ≤ hi
    · go_wp2
      go_ret
      exact ⟨by simp [h1, h2], rfl⟩
    · go_wp2
      go_ret
      exact ⟨by simp; omega, rfl⟩
  · go_wp2
    go_ret
    exact ⟨by simp; omega, rfl⟩
theorem l1In_qv (n lo hi : Int) (b : Bool) (h : inB n lo hi = b) (w : World) : Calls Try.prog 33 #[.int .i64 n, .int .i64 lo, .int .i64 hi] w fun e w' => e = .returned (.bool b) ∧ w' = w := h ▸ l1In_q n lo hi w
theorem l1In_c (n lo hi : Int) (w : World) : Calls Try.prog 33 #[.int .i64 n, .int .i64 lo, .int .i64 hi] w (RetV w (.bool (inB n lo hi))) :=
  (l1In_q n lo hi w).mono fun _ _ ⟨h1, h2⟩ => ⟨h1, h2 ▸ Bel.rfl' w⟩
theorem l1In_t (n lo hi : Int) (w : World) (h : inB n lo hi = true) : Calls Try.prog 33 #[.int .i64 n, .int .i64 lo, .int .i64 hi] w (RetV w (.bool true)) := by
  rw [← h]; exact l1In_c n lo hi w
theorem l1In_f (n lo hi : Int) (w : World) (h : inB n lo hi = false) : Calls Try.prog 33 #[.int .i64 n, .int .i64 lo, .int .i64 hi] w (RetV w (.bool false)) := by
  rw [← h]; exact l1In_c n lo hi w

theorem l1All_c (l h : Nat) (v : Value) (xs : List Int) (lo hi : Int) (w : World) (hx : xs.length ≤ 1048576) (hv : SlI l h w v xs) :
    Calls Try.prog 43 #[v, .int .i64 lo, .int .i64 hi] w (RetV w (.bool (xs.all (inB · lo hi)))) := by
  obtain ⟨ad, cap, rfl, -, -, hr⟩ := hv
  go_enter Try.func43, Try.ntmps43
  go_wp2
  go_loopw [11] (fun i wr => ∃ k : Nat, k ≤ xs.length ∧ i = .int .i64 k ∧ (xs.take k).all (inB · lo hi) = true ∧ Bel w wr) (fun i _ => xs.length - (intOf i).toNat)
  case atStart => exact ⟨0, Nat.zero_le _, rfl, by simp, Bel.rfl' _⟩
  case round =>
    obtain ⟨k, hk, rfl, ha, hb⟩ := hrel
    by_cases hlt : k < xs.length
    · obtain ⟨b, off, rfl, -, hcell⟩ := rd hr hb k hlt
      have E1 := Lib.hid (all_split xs (inB · lo hi) k hlt ha)
      have E2 := Lib.hid (all_false xs (inB · lo hi) k hlt)
      clear hr ha
      generalize xs.getD k 0 = x at *
      by_cases hp : inB x lo hi = true
      · have HP := Lib.hid hp; clear hp
        go_wp2_with (go_at_call 33; refine (l1In_t _ _ _ _ HP.out).mono ?_; rintro e w' ⟨rfl, hb1⟩)
        go_roundw
        case rel => exact ⟨k+1, by omega, by go_num, by rw [E1.out]; exact HP.out, hb.step hb1⟩
        case measure => simp [intOf]; omega
      · have HP := Lib.hid (by simpa using hp : inB x lo hi = false); clear hp
        go_wp2_with (go_at_call 33; refine (l1In_f _ _ _ _ HP.out).mono ?_; rintro e w' ⟨rfl, hb1⟩)
        go_ret
        exact ⟨by rw [E2.out HP.out]; rfl, hb.step hb1⟩
    · have HA := Lib.hid ha; clear ha
      go_wp2_with fail
      go_ret
      exact ⟨by rw [all_done xs _ k hk hlt HA.out]; rfl, hb⟩
end Go.Proofs.Ytjgbeclafdhijaa
end
section
/- Terms as lists, plainly: where a subterm ends, its arguments, valid terms. No program. -/
namespace Go.Proofs.Ytjgbeclafdhijaa

def goodSign (ar : List Int) : Bool := inB ar.length 1 10 && ar.all (inB · 0 3) && (ar.getD 0 0 == 0)

/-- The arity of an entry. -/
def arOf (ar : List Int) (x : Int) : Nat := if x < 0 then 0 else (ar.getD x.toNat 0).toNat
def okSym (ar : List Int) (x : Int) : Bool := inB x (-12) ((ar.length : Int) - 1)

def endGo (ar : List Int) : List Int → Nat → Nat → Option Nat
  | _, 0, p => some p
  | [], _ + 1, _ => none
  | x :: r, n + 1, p => if okSym ar x then endGo ar r (n + arOf ar x) (p + 1) else none

theorem endGo_zero (ar r : List Int) (p : Nat) : endGo ar r 0 p = some p := by cases r <;> rfl
theorem endGo_nil (ar : List Int) (n p : Nat) : endGo ar [] (n + 1) p = none := rfl
theorem endGo_cons (ar : List Int) (x : Int) (r : List Int) (n p : Nat) : endGo ar (x :: r) (n + 1) p = if okSym ar x then endGo ar r (n + arOf ar x) (p + 1) else none := rfl

theorem endGo_ge (ar : List Int) : ∀ (r : List Int) (n p e : Nat), endGo ar r n p = some e → p ≤ e ∧ e ≤ p + r.length := by
  intro r
  induction r with
  | nil =>
    intro n p e h
    cases n with
    | zero => rw [endGo_zero] at h; simp at h; omega
    | succ n => simp [endGo_nil] at h
  | cons x r ih =>
    intro n p e h
    cases n with
    | zero => rw [endGo_zero] at h; simp at h; subst h; simp
    | succ n =>
      rw [endGo_cons] at h
      split at h
      · have := ih _ _ _ h; simp; omega
      · simp at h

theorem endGo_gt (ar r : List Int) (n p e : Nat) (h : endGo ar r (n + 1) p = some e) : p < e := by
  cases r with
  | nil => simp [endGo_nil] at h
  | cons x r =>
    rw [endGo_cons] at h
    split at h
    · have := endGo_ge _ _ _ _ _ h; omega
    · simp at h

theorem endGo_add (ar : List Int) : ∀ (r : List Int) (a b p : Nat), endGo ar r (a + b) p = (endGo ar r a p).bind fun e => endGo ar (r.drop (e - p)) b e := by
  intro r
  induction r with
  | nil =>
    intro a b p
    cases a with
    | zero => simp [endGo_zero]
    | succ a => rw [show a + 1 + b = (a + b) + 1 from by omega, endGo_nil, endGo_nil]; rfl
  | cons x r ih =>
    intro a b p
    cases a with
    | zero => simp [endGo_zero]
    | succ a =>
      rw [show a + 1 + b = (a + b) + 1 from by omega, endGo_cons, endGo_cons]
      split
      · rw [show a + b + arOf ar x = (a + arOf ar x) + b from by omega, ih]
        cases h : endGo ar r (a + arOf ar x) (p + 1) with
        | none => rfl
        | some e =>
          have := endGo_ge _ _ _ _ _ h
          simp only [Option.bind_some]
          rw [show e - p = (e - (p + 1)) + 1 from by omega, List.drop_succ_cons]
      · rfl

/-- The index behind the subterm at an index. -/
def endOf (ar t : List Int) (i : Nat) : Option Nat := endGo ar (t.drop i) 1 i
def okTerm (ar t : List Int) : Bool := inB t.length 1 40 && (endOf ar t 0 == some t.length)
def goodTerm (ar t : List Int) : Bool := goodSign ar && okTerm ar t

theorem okTerm_iff (ar t : List Int) : okTerm ar t = true ↔ 1 ≤ t.length ∧ t.length ≤ 40 ∧ endOf ar t 0 = some t.length := by
  unfold okTerm inB
  simp only [Bool.and_eq_true, decide_eq_true_eq, beq_iff_eq]
  constructor
  · rintro ⟨⟨h1, h2⟩, h3⟩; exact ⟨by omega, by omega, h3⟩
  · rintro ⟨h1, h2, h3⟩; exact ⟨⟨by omega, by omega⟩, h3⟩

theorem drop_cons (t : List Int) (i : Nat) (h : i < t.length) : t.drop i = t.getD i 0 :: t.drop (i + 1) := by
  rw [List.drop_eq_getElem_cons h]; simp [List.getD, h]

/-- In a valid term each place has what is still to come. -/
theorem good_need (ar t : List Int) (h : okTerm ar t = true) : ∀ i, i ≤ t.length → ∃ m, endGo ar (t.drop i) m i = some t.length ∧ (i < t.length → 0 < m) := by
  obtain ⟨h1, h2, h3⟩ := (okTerm_iff ar t).1 h
  intro i
  induction i with
  | zero => intro _; exact ⟨1, h3, fun _ => by omega⟩
  | succ i ih =>
    intro hi
    obtain ⟨m, hm, hp⟩ := ih (by omega)
    rw [drop_cons t i (by omega)] at hm
    obtain ⟨m, rfl⟩ : ∃ m', m = m' + 1 := ⟨m - 1, by have := hp (by omega); omega⟩
    rw [endGo_cons] at hm
    split at hm
    · refine ⟨_, hm, fun hl => ?_⟩
      rcases Nat.eq_zero_or_pos (m + arOf ar (t.getD i 0)) with h0 | h0
      · rw [h0, endGo_zero] at hm; simp at hm; omega
      · exact h0
    · simp at hm

theorem good_end (ar t : List Int) (h : okTerm ar t = true) (i : Nat) (hi : i < t.length) : ∃ e, endOf ar t i = some e ∧ i < e ∧ e ≤ t.length := by
  obtain ⟨m, hm, hp⟩ := good_need ar t h i (by omega)
  obtain ⟨m, rfl⟩ : ∃ m', m = 1 + m' := ⟨m - 1, by have := hp hi; omega⟩
  rw [endGo_add] at hm
  cases h1 : endGo ar (t.drop i) 1 i with
  | none => rw [h1] at hm; simp at hm
  | some e =>
    refine ⟨e, h1, endGo_gt _ _ _ _ _ h1, ?_⟩
    have := endGo_ge _ _ _ _ _ h1
    simp at this
    omega

theorem good_sym (ar t : List Int) (h : okTerm ar t = true) (i : Nat) (hi : i < t.length) : okSym ar (t.getD i 0) = true := by
  obtain ⟨e, he, _, _⟩ := good_end ar t h i hi
  unfold endOf at he
  rw [drop_cons t i hi, endGo_cons] at he
  by_cases h1 : okSym ar (t.getD i 0) = true
  · exact h1
  · rw [if_neg h1] at he; simp at he

/-- The ends of k terms, one behind the other. -/
theorem good_args (ar t : List Int) (h : okTerm ar t = true) (i : Nat) (hi : i < t.length) : ∃ e, endGo ar (t.drop (i + 1)) (arOf ar (t.getD i 0)) (i + 1) = some e ∧ e ≤ t.length := by
  obtain ⟨e, he, _, h2⟩ := good_end ar t h i hi
  have hs := good_sym ar t h i hi
  unfold endOf at he
  rw [drop_cons t i hi, endGo_cons, if_pos hs, Nat.zero_add] at he
  exact ⟨e, he, h2⟩

/-- From a place on where k + 1 terms stand: the first one's end, and the others behind it. -/
theorem ends_step (ar t : List Int) (p k e : Nat) (h : endGo ar (t.drop p) (k + 1) p = some e) : ∃ q, endOf ar t p = some q ∧ endGo ar (t.drop q) k q = some e ∧ p < q ∧ q ≤ e := by
  rw [show k + 1 = 1 + k from by omega, endGo_add] at h
  cases h1 : endGo ar (t.drop p) 1 p with
  | none => rw [h1] at h; simp at h
  | some q =>
    rw [h1] at h
    have hg := endGo_gt _ _ _ _ _ h1
    simp only [Option.bind_some, List.drop_drop, show p + (q - p) = q from by omega] at h
    exact ⟨q, h1, h, hg, (endGo_ge _ _ _ _ _ h).1⟩

/-- The places of k arguments from p on. -/
def argsGo (ar t : List Int) : Nat → Nat → List Nat
  | 0, _ => []
  | k + 1, p => p :: argsGo ar t k ((endOf ar t p).getD 0)
def argsOf (ar t : List Int) (i : Nat) : List Nat := argsGo ar t (arOf ar (t.getD i 0)) (i + 1)

theorem argsGo_len (ar t : List Int) : ∀ k p, (argsGo ar t k p).length = k := by
  intro k; induction k with
  | zero => intro p; rfl
  | succ k ih => intro p; simp [argsGo, ih]

theorem arOf_le (ar : List Int) (h : goodSign ar = true) (x : Int) : arOf ar x ≤ 3 := by
  unfold arOf
  split
  · omega
  · simp [goodSign, inB] at h
    by_cases hx : x.toNat < ar.length
    · have := h.1.2 (ar.getD x.toNat 0) (by simp [List.getD, hx])
      omega
    · simp [List.getD, hx]
theorem ar_nonneg (ar : List Int) (h : goodSign ar = true) (i : Nat) : 0 ≤ ar.getD i 0 ∧ ar.getD i 0 ≤ 3 := by
  simp [goodSign, inB] at h
  by_cases hx : i < ar.length
  · exact h.1.2 (ar.getD i 0) (by simp [List.getD, hx])
  · simp [List.getD, hx]
theorem sign_len (ar : List Int) (h : goodSign ar = true) : 1 ≤ ar.length ∧ ar.length ≤ 10 := by simp [goodSign, inB] at h; omega
end Go.Proofs.Ytjgbeclafdhijaa
end
