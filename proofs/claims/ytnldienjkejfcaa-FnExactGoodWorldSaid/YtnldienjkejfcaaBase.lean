/- Definitions and small lemmas on worlds and slices of ints. No program. -/
import Derived.WalkKit
import Derived.WalkSpells
import Derived.WalkLawsBesides
import Derived.BigQuiet
import Derived.Deep.QuietTactic
import Derived.Deep.RegionHeld3
import Derived.Deep.DeepCutAuto
import Derived.Deep.DeepFit
import Derived.Deep.DeepMust
import Derived.Outline
import Derived.Lib.Hide
import Derived.Laws.CopyOwn
import Derived.KernelRfl
namespace Go.Proofs.Ytnldienjkejfcaa
open Go.RowKit

/-- The frame of every contract: what was there is as it was. -/
abbrev Bel (w w' : World) : Prop := Below w.heap.size w w'

theorem Bel.rfl' (w : World) : Bel w w := Below.refl _ _
theorem Bel.step {a b c : World} (h : Bel a b) (k : Bel b c) : Bel a c := h.trans (k.mono h.size)

/-- The slice value v holds the numbers xs; its array lies in a block from lo on and below hi. -/
def SlI (lo hi : Nat) (w : World) (v : Value) (xs : List Int) : Prop :=
  ∃ ad cap, v = .slice ad xs.length cap ∧ xs.length ≤ cap ∧ (cap ≤ maxLen ∧ (ad = none → cap = 0)) ∧
    (0 < xs.length → ∃ b off, ad = some ⟨b, off, none⟩ ∧ lo ≤ b ∧ b < hi ∧ ∀ j, j < xs.length → w.cell? ⟨b, off + j, none⟩ = some (.int .i64 (xs.getD j 0)))

/-- .. and it may be written. -/
def OwnI (lo hi : Nat) (w : World) (v : Value) (xs : List Int) : Prop :=
  SlI lo hi w v xs ∧ ∀ b off n c, v = .slice (some ⟨b, off, none⟩) n c → 0 < n → ∀ j, w.frozen? ⟨b, off + j, none⟩ = false

theorem OwnI.sl {lo hi w v xs} (h : OwnI lo hi w v xs) : SlI lo hi w v xs := h.1

theorem SlI.mono {lo hi lo' hi' w v xs} (h : SlI lo hi w v xs) (h1 : lo' ≤ lo) (h2 : hi ≤ hi') : SlI lo' hi' w v xs := by
  obtain ⟨ad, cap, rfl, hc, hm, hr⟩ := h
  refine ⟨ad, cap, rfl, hc, hm, fun hp => ?_⟩
  obtain ⟨b, off, e, a1, a2, a3⟩ := hr hp
  exact ⟨b, off, e, by omega, by omega, a3⟩
theorem OwnI.mono {lo hi lo' hi' w v xs} (h : OwnI lo hi w v xs) (h1 : lo' ≤ lo) (h2 : hi ≤ hi') : OwnI lo' hi' w v xs := ⟨h.1.mono h1 h2, h.2⟩

/-- Blocks that are the same keep a slice. -/
theorem SlI.same {lo hi w w' v xs} (h : SlI lo hi w v xs) (hs : ∀ b, lo ≤ b → b < hi → b < w.heap.size → w'.heap[b]? = w.heap[b]?) : SlI lo hi w' v xs := by
  obtain ⟨ad, cap, rfl, hc, hm, hr⟩ := h
  refine ⟨ad, cap, rfl, hc, hm, fun hp => ?_⟩
  obtain ⟨b, off, e, a1, a2, a3⟩ := hr hp
  refine ⟨b, off, e, a1, a2, fun j hj => ?_⟩
  have hb : b < w.heap.size := World.block_lt_of_cell? w ⟨b, off + j, none⟩ (a3 j hj)
  rw [World.cell?_of_block (w := w) (a := ⟨b, off + j, none⟩) (hs b a1 a2 hb)]
  exact a3 j hj

theorem SlI.below {lo hi w w' v xs} (h : SlI lo hi w v xs) (hb : Bel w w') : SlI lo hi w' v xs :=
  h.same fun b _ _ h3 => hb.block b h3

theorem OwnI.same {lo hi w w' v xs} (h : OwnI lo hi w v xs) (hs : ∀ b, lo ≤ b → b < hi → b < w.heap.size → w'.heap[b]? = w.heap[b]?) : OwnI lo hi w' v xs := by
  refine ⟨h.1.same hs, fun b off n c hv hn j => ?_⟩
  obtain ⟨ad, cap, e, hc, hm, hr⟩ := h.1
  rw [e] at hv
  simp only [Value.slice.injEq] at hv
  obtain ⟨h1, hl, _⟩ := hv
  obtain ⟨b', off', e', a1, a2, a3⟩ := hr (by omega)
  rw [e'] at h1
  simp only [Option.some.injEq, Addr.mk.injEq] at h1
  obtain ⟨rfl, rfl, -⟩ := h1
  have hb : b' < w.heap.size := World.block_lt_of_cell? w ⟨b', off' + 0, none⟩ (a3 0 (by omega))
  rw [World.frozen?_of_block (w := w) (a := ⟨b', off' + j, none⟩) (hs b' a1 a2 hb)]
  exact h.2 b' off' n cap (by rw [e, e', hl]) hn j

theorem OwnI.below {lo hi w w' v xs} (h : OwnI lo hi w v xs) (hb : Bel w w') : OwnI lo hi w' v xs :=
  h.same fun b _ _ h3 => hb.block b h3

/-- Whatever is there lies in some block that is there. -/
theorem SlI.in' {lo hi w v xs} (h : SlI lo hi w v xs) : SlI 0 w.heap.size w v xs := by
  obtain ⟨ad, cap, rfl, hc, hm, hr⟩ := h
  refine ⟨ad, cap, rfl, hc, hm, fun hp => ?_⟩
  obtain ⟨b, off, e, a1, a2, a3⟩ := hr hp
  exact ⟨b, off, e, Nat.zero_le _, World.block_lt_of_cell? w ⟨b, off + 0, none⟩ (a3 0 hp), a3⟩
theorem SlI.nil (lo hi : Nat) (w : World) : SlI lo hi w (.slice none 0 0) [] := ⟨none, 0, rfl, Nat.le_refl _, ⟨Nat.zero_le _, fun _ => rfl⟩, fun h => absurd h (by simp)⟩
theorem OwnI.nil (lo hi : Nat) (w : World) : OwnI lo hi w (.slice none 0 0) [] := ⟨SlI.nil lo hi w, fun _ _ _ _ h => by simp at h⟩

/-- The value returned, and the frame. -/
def RetV (w : World) (v : Value) (e : Ending) (w' : World) : Prop := e = .returned v ∧ Bel w w'
/-- A slice of ints of the call's own. -/
def RetI (w : World) (xs : List Int) (e : Ending) (w' : World) : Prop := ∃ ad n c, e = .returned (.slice ad n c) ∧ OwnI w.heap.size w'.heap.size w' (.slice ad n c) xs ∧ Bel w w'
def RetIB (w : World) (xs : List Int) (ok : Bool) (e : Ending) (w' : World) : Prop := ∃ ad n c, e = .returned (.tuple #[.slice ad n c, .bool ok]) ∧ OwnI w.heap.size w'.heap.size w' (.slice ad n c) xs ∧ Bel w w'
/-- A struct of one slice. -/
def RetS (w : World) (xs : List Int) (e : Ending) (w' : World) : Prop := ∃ ad n c, e = .returned (.agg #[.slice ad n c]) ∧ OwnI w.heap.size w'.heap.size w' (.slice ad n c) xs ∧ Bel w w'
theorem addr_add (b off j : Nat) : (⟨b, off, none⟩ : Addr).add j = ⟨b, off + j, none⟩ := by cases j <;> simp [Addr.add]
theorem SlI.form {lo hi w v xs} (h : SlI lo hi w v xs) : ∃ ad c, v = .slice ad xs.length c := by obtain ⟨ad, c, h, _⟩ := h; exact ⟨ad, c, h⟩

/-- A row that the call itself made, as a slice of ints. -/
theorem OwnI.of_row {w : World} {base e : Nat} {v : Value} {xs : List Int} (h : w.ownsRow base e 1 v xs.length (xs.map (Value.int .i64))) : OwnI base w.heap.size w v xs := by
  have h0 := h
  obtain ⟨h1, h2⟩ := h
  rcases h2 with ⟨rfl, hn⟩ | ⟨g, cap, cur, rfl, hg, hh, hn, hc, hs, ht⟩
  · obtain rfl : xs = [] := List.length_eq_zero_iff.1 hn
    exact OwnI.nil _ _ _
  · have hgs : g < w.heap.size := by
      have := Array.getElem?_eq_some_iff.1 hh
      exact this.1
    refine ⟨⟨_, cap, rfl, hn, ⟨hc, fun h => by simp at h⟩, fun hp => ⟨g, 0, rfl, hg, hgs, fun j hj => ?_⟩⟩, ?_⟩
    · rw [Nat.zero_add, h0.cellAt j (by omega)]
      simp [List.getD, hj]
    · intro b off n c hv hn' j
      simp only [Value.slice.injEq, Option.some.injEq, Addr.mk.injEq] at hv
      obtain ⟨⟨rfl, rfl, -⟩, rfl, rfl⟩ := hv
      rw [Nat.zero_add]
      exact h0.frozenAt j

/-- Reading the k-th. -/
theorem rd {lo hi : Nat} {w wr : World} {ad : Option Addr} {xs : List Int} (hr : 0 < xs.length → ∃ b off, ad = some ⟨b, off, none⟩ ∧ lo ≤ b ∧ b < hi ∧ ∀ j, j < xs.length → w.cell? ⟨b, off + j, none⟩ = some (.int .i64 (xs.getD j 0)))
    (hb : Bel w wr) (k : Nat) (hk : k < xs.length) : ∃ b off, ad = some ⟨b, off, none⟩ ∧ b < w.heap.size ∧ wr.cell? ⟨b, off + k, none⟩ = some (.int .i64 (xs.getD k 0)) := by
  obtain ⟨b, off, e, _, _, hc⟩ := hr (by omega)
  have h1 := World.block_lt_of_cell? w ⟨b, off + k, none⟩ (hc k hk)
  exact ⟨b, off, e, h1, (hb.cell (p := ⟨b, off + k, none⟩) h1).trans (hc k hk)⟩

theorem rd0 {lo hi : Nat} {w : World} {ad : Option Addr} {xs : List Int} (hr : 0 < xs.length → ∃ b off, ad = some ⟨b, off, none⟩ ∧ lo ≤ b ∧ b < hi ∧ ∀ j, j < xs.length → w.cell? ⟨b, off + j, none⟩ = some (.int .i64 (xs.getD j 0)))
    (hk : 0 < xs.length) : ∃ b off, ad = some ⟨b, off, none⟩ ∧ b < w.heap.size ∧ w.cell? ⟨b, off, none⟩ = some (.int .i64 (xs.getD 0 0)) := rd hr (Bel.rfl' w) 0 hk
theorem Bel.at {w w' : World} (hb : Bel w w') {b off : Nat} {v : Value} (h : b < w.heap.size) (hc : w.cell? ⟨b, off, none⟩ = some v) : w'.cell? ⟨b, off, none⟩ = some v := (hb.cell (p := ⟨b, off, none⟩) h).trans hc

/-- The cells of a block that was laid first of all. -/
theorem boxc {w w' : World} {cs : Array Value} {t : TypeId} (hb : Bel (w.alloc (.cells cs t)) w') (i : Nat) (v : Value) (hv : cs[i]? = some v) : w'.cell? ⟨w.heap.size, i, none⟩ = some v := by
  rw [hb.cell (p := ⟨w.heap.size, i, none⟩) (by simp), World.cell?_alloc_new w cs t i]; exact hv
theorem Bel.of_alloc {w w' : World} {o : Obj} (hb : Bel (w.alloc o) w') : Bel w w' := Bel.step ((Below.refl w.heap.size w).alloc (Nat.le_refl _) o) hb
theorem Bel.alloc0 (w : World) (o : Obj) : Bel w (w.alloc o) := (Below.refl w.heap.size w).alloc (Nat.le_refl _) o

theorem own_cell {w : World} {base e g n cap : Nat} {ys : List Int} (ho : w.ownsRow base e 1 (.slice (some ⟨g, 0, none⟩) n cap) n (ys.map (Value.int .i64))) (k : Nat) (hk : k < ys.length) : ∃ x, w.cell? ⟨g, k, none⟩ = some (.int .i64 x) := by
  have hl := ho.1
  simp at hl
  exact ⟨ys[k], by rw [ho.cellAt k (by omega)]; simp [hk]⟩

theorem Bel.alloc {a w : World} (h : Bel a w) (o : Obj) : Bel a (w.alloc o) := Below.alloc h h.size o
theorem Bel.alloc2 (w : World) (o p : Obj) : Bel w ((w.alloc o).alloc p) := (Bel.alloc0 w o).alloc p
theorem Bel.alloc3 (w : World) (o p q : Obj) : Bel w (((w.alloc o).alloc p).alloc q) := (Bel.alloc2 w o p).alloc q
theorem Bel.drewN {a w : World} (h : Bel a w) (n : Nat) : Bel a (w.drewN n) := ⟨h.os, h.tape, h.output, h.size, h.block⟩
theorem Bel.drew {a w : World} (h : Bel a w) : Bel a w.drew := Below.drew h
theorem Bel.drew0 (w : World) : Bel w w.drew := Below.drew (Below.refl _ _)
theorem Bel.of_drew {a w : World} (h : Bel a.drew w) : Bel a w := Bel.step (Bel.drew0 a) h
theorem Bel.set {a w : World} (h : Bel a w) {p : Addr} (hp : a.heap.size ≤ p.block) (u : Value) : Bel a (w.setCell p u) := Below.setCell h hp u
theorem SlI.drewN {lo hi w v xs} (h : SlI lo hi w v xs) (n : Nat) : SlI lo hi (w.drewN n) v xs := h.below ((Bel.rfl' w).drewN n)
theorem SlI.alloc {lo hi w v xs} (h : SlI lo hi w v xs) (o : Obj) : SlI lo hi (w.alloc o) v xs := h.below (Bel.alloc0 w o)
theorem OwnI.alloc {lo hi w v xs} (h : OwnI lo hi w v xs) (o : Obj) : OwnI lo hi (w.alloc o) v xs := h.below (Bel.alloc0 w o)
/-- A store into a block outside. -/
theorem OwnI.set {lo hi w v xs} (h : OwnI lo hi w v xs) {p : Addr} (hp : p.block < lo ∨ hi ≤ p.block) (u : Value) : OwnI lo hi (w.setCell p u) v xs :=
  h.same fun b h1 h2 _ => Below.heap_setCell w p u b (by omega)
theorem SlI.set {lo hi w v xs} (h : SlI lo hi w v xs) {p : Addr} (hp : p.block < lo ∨ hi ≤ p.block) (u : Value) : SlI lo hi (w.setCell p u) v xs :=
  h.same fun b h1 h2 _ => Below.heap_setCell w p u b (by omega)

/-- Only blocks from lo on and below hi may have turned. -/
structure Chg (lo hi : Nat) (w w' : World) : Prop where
  os : w'.os = w.os
  tape : w'.tape = w.tape
  output : w'.output = w.output
  size : w.heap.size ≤ w'.heap.size
  block : ∀ b, b < w.heap.size → (b < lo ∨ hi ≤ b) → w'.heap[b]? = w.heap[b]?
theorem Chg.refl (lo hi : Nat) (w : World) : Chg lo hi w w := ⟨rfl, rfl, rfl, Nat.le_refl _, fun _ _ _ => rfl⟩
theorem Chg.trans {lo hi : Nat} {a b c : World} (h : Chg lo hi a b) (k : Chg lo hi b c) : Chg lo hi a c :=
  ⟨k.os.trans h.os, k.tape.trans h.tape, k.output.trans h.output, Nat.le_trans h.size k.size, fun i hi ho => (k.block i (Nat.lt_of_lt_of_le hi h.size) ho).trans (h.block i hi ho)⟩
theorem Chg.of_bel {lo hi : Nat} {w w' : World} (h : Bel w w') : Chg lo hi w w' := ⟨h.os, h.tape, h.output, h.size, fun b hb _ => h.block b hb⟩
theorem Chg.set {lo hi : Nat} (w : World) {p : Addr} (h1 : lo ≤ p.block) (h2 : p.block < hi) (u : Value) : Chg lo hi w (w.setCell p u) :=
  ⟨rfl, rfl, rfl, by simp [World.setCell], fun b _ ho => Below.heap_setCell w p u b (by omega)⟩
theorem Chg.mono {lo hi lo' hi' : Nat} {w w' : World} (h : Chg lo hi w w') (h1 : lo' ≤ lo) (h2 : hi ≤ hi') : Chg lo' hi' w w' :=
  ⟨h.os, h.tape, h.output, h.size, fun b hb ho => h.block b hb (by omega)⟩
/-- What the call itself had made may turn. -/
theorem Chg.bel {lo hi : Nat} {w0 w w' : World} (h : Chg lo hi w w') (h0 : Bel w0 w) (hlo : w0.heap.size ≤ lo) : Bel w0 w' :=
  ⟨h.os.trans h0.os, h.tape.trans h0.tape, h.output.trans h0.output, Nat.le_trans h0.size h.size, fun b hb => (h.block b (Nat.lt_of_lt_of_le hb h0.size) (.inl (by omega))).trans (h0.block b hb)⟩
theorem SlI.chg {lo hi lo' hi' w w' v xs} (h : SlI lo hi w v xs) (k : Chg lo' hi' w w') (hd : hi ≤ lo' ∨ hi' ≤ lo) : SlI lo hi w' v xs :=
  h.same fun b h1 h2 h3 => k.block b h3 (by omega)
theorem OwnI.chg {lo hi lo' hi' w w' v xs} (h : OwnI lo hi w v xs) (k : Chg lo' hi' w w') (hd : hi ≤ lo' ∨ hi' ≤ lo) : OwnI lo hi w' v xs :=
  h.same fun b h1 h2 h3 => k.block b h3 (by omega)
theorem Chg.cell {lo hi : Nat} {w w' : World} (k : Chg lo hi w w') {b off : Nat} {v : Value} (h : b < w.heap.size) (hd : b < lo ∨ hi ≤ b) (hc : w.cell? ⟨b, off, none⟩ = some v) : w'.cell? ⟨b, off, none⟩ = some v :=
  (World.cell?_of_block (w := w) (a := ⟨b, off, none⟩) (k.block b h hd)).trans hc

/-- What marking from k on leaves. -/
def marks (k n : Nat) : List Int := (List.range n).map (fun i => ((k + i : Nat) : Int))
theorem marks_len (k n : Nat) : (marks k n).length = n := by simp [marks]
theorem marks_get (k n i : Nat) (h : i < n) : (marks k n).getD i 0 = ((k + i : Nat) : Int) := by simp [marks, List.getD, h]
/-- The first j are marked, the rest is as it was. -/
def marked (xs : List Int) (k j : Nat) : List Int := marks k j ++ xs.drop j
theorem marked_zero (xs : List Int) (k : Nat) : marked xs k 0 = xs := by simp [marked, marks]
theorem marked_len (xs : List Int) (k j : Nat) (h : j ≤ xs.length) : (marked xs k j).length = xs.length := by simp [marked, marks_len]; omega
theorem marked_all (xs : List Int) (k j : Nat) (h : ¬ j < xs.length) (h2 : j ≤ xs.length) : marked xs k j = marks k xs.length := by
  obtain rfl : j = xs.length := by omega
  simp [marked]
theorem marked_succ (xs : List Int) (k j : Nat) (h : j < xs.length) : (marked xs k j).set j ((k + j : Nat) : Int) = marked xs k (j+1) := by
  unfold marked
  rw [List.set_append_right _ _ (by rw [marks_len]; exact Nat.le_refl _), marks_len, Nat.sub_self, List.drop_eq_getElem_cons h, List.set_cons_zero]
  simp [marks, List.range_succ]

/-- A store into a slice that may be written. -/
theorem OwnI.stored {lo hi : Nat} {w : World} {b off n c : Nat} {xs : List Int} (h : OwnI lo hi w (.slice (some ⟨b, off, none⟩) n c) xs) (j : Nat) (hj : j < xs.length) (x : Int) :
    OwnI lo hi (w.setCell ⟨b, off + j, none⟩ (.int .i64 x)) (.slice (some ⟨b, off, none⟩) n c) (xs.set j x) := by
  obtain ⟨⟨ad, cap, e, hc, hm, hr⟩, hf⟩ := h
  obtain ⟨b', off', e', a1, a2, a3⟩ := hr (by omega)
  simp only [Value.slice.injEq] at e
  obtain ⟨rfl, rfl, rfl⟩ := e
  simp only [Option.some.injEq, Addr.mk.injEq, and_true] at e'
  obtain ⟨rfl, rfl⟩ := e'
  refine ⟨⟨_, c, by rw [List.length_set], by rw [List.length_set]; exact hc, hm, fun _ => ⟨b, off, rfl, a1, a2, fun i hi => ?_⟩⟩, fun b2 off2 n2 c2 hv hn2 i => ?_⟩
  · rw [List.length_set] at hi
    have hne : i ≠ j → (⟨b, off + j, none⟩ : Addr) ≠ ⟨b, off + i, none⟩ := by intro h1 h2; simp only [Addr.mk.injEq, and_true, true_and] at h2; omega
    by_cases e : i = j
    · subst e
      rw [World.cell?_setCell_same (h := a3 i hi)]
      simp [List.getD, hi]
    · rw [World.cell?_setCell_other (h := hne e), a3 i hi]
      simp [List.getD, Ne.symm e]
  · simp only [Value.slice.injEq, Option.some.injEq, Addr.mk.injEq, and_true] at hv
    obtain ⟨⟨rfl, rfl⟩, rfl, rfl⟩ := hv
    rw [World.frozen?_setCell]
    exact hf b off _ c rfl hn2 i

def inB (n lo hi : Int) : Bool := decide (lo ≤ n) && decide (n ≤ hi)

theorem all_split (xs : List Int) (p : Int → Bool) (k : Nat) (hk : k < xs.length) (h : (xs.take k).all p = true) : (xs.take (k+1)).all p = p (xs.getD k 0) := by
  rw [List.take_succ_eq_append_getElem hk, List.all_append, h]
  simp [List.getD, hk]
theorem all_false (xs : List Int) (p : Int → Bool) (k : Nat) (hk : k < xs.length) (h : p (xs.getD k 0) = false) : xs.all p = false := by
  rw [List.all_eq_false]
  exact ⟨xs[k], List.getElem_mem hk, by simpa [List.getD, hk] using h⟩
theorem all_done (xs : List Int) (p : Int → Bool) (k : Nat) (hk : k ≤ xs.length) (h1 : ¬ k < xs.length) (h : (xs.take k).all p = true) : xs.all p = true := by
  obtain rfl : k = xs.length := by omega
  rwa [List.take_length] at h


/-- What holds now and in whatever world comes by adding memory. -/
def K (P : World → Prop) (w : World) : Prop := ∀ w', Bel w w' → P w'
theorem K.now {P : World → Prop} {w : World} (h : K P w) : P w := h w (Bel.rfl' w)
theorem K.step {P : World → Prop} {w w' : World} (h : K P w) (hb : Bel w w') : K P w' := fun _ h2 => h _ (hb.step h2)
theorem K.and {P Q : World → Prop} {w : World} (h : K P w) (k : K Q w) : K (fun w => P w ∧ Q w) w := fun w' hb => ⟨h w' hb, k w' hb⟩
theorem K.imp {P Q : World → Prop} {w : World} (h : K P w) (hpq : ∀ w, P w → Q w) : K Q w := fun w' hb => hpq _ (h w' hb)
theorem SlI.k {lo hi w v xs} (h : SlI lo hi w v xs) : K (fun w => SlI lo hi w v xs) w := fun _ hb => h.below hb
theorem OwnI.k {lo hi w v xs} (h : OwnI lo hi w v xs) : K (fun w => OwnI lo hi w v xs) w := fun _ hb => h.below hb
theorem cell_k {w : World} {b : Nat} {v : Value} (h : b < w.heap.size ∧ w.cell? ⟨b, 0, none⟩ = some v) : K (fun w => b < w.heap.size ∧ w.cell? ⟨b, 0, none⟩ = some v) w :=
  fun _ hb => ⟨Nat.lt_of_lt_of_le h.1 hb.size, hb.at h.1 h.2⟩
theorem le_k {n : Nat} {w : World} (h : n ≤ w.heap.size) : K (fun w => n ≤ w.heap.size) w := fun _ hb => Nat.le_trans h hb.size
theorem bel_k {w0 w : World} (h : Bel w0 w) : K (fun w => Bel w0 w) w := fun _ hb => h.step hb
theorem boxk {w w' : World} {cs : Array Value} {t : TypeId} (hb : Bel (w.alloc (.cells cs t)) w') (v : Value) (hv : cs[0]? = some v) : w.heap.size < w'.heap.size ∧ w'.cell? ⟨w.heap.size, 0, none⟩ = some v :=
  ⟨by have := hb.size; simp at this; omega, boxc hb 0 v hv⟩

theorem news_one (w : World) (x : Value) (t : TypeId) : ∀ j u, [x][j]? = some u → (w.alloc (.cells #[x] t)).cell? ((⟨w.heap.size, 0, none⟩ : Addr).add j) = some u := by
  intro j u hj
  match j, hj with
  | 0, hj => simp at hj; subst hj; rw [show (⟨w.heap.size, 0, none⟩ : Addr).add 0 = ⟨w.heap.size, 0, none⟩ from rfl, World.cell?_alloc_new w]; rfl
theorem one_int (n : Int) : ∀ u ∈ [Value.int .i64 n], u.oneCell' = true := by intro u hu; simp at hu; subst hu; rfl
/-- A row of ints grown by one. -/
theorem row_snoc {w : World} {base e : Nat} {v : Value} {acc : List Int} {x : Int} (h : w.ownsRow base e 1 v (acc.length + 1) (acc.map (Value.int .i64) ++ [.int .i64 x])) :
    w.ownsRow base e 1 v (acc ++ [x]).length ((acc ++ [x]).map (Value.int .i64)) := by simpa using h
theorem Bel.grown {a w w' : World} {r : Option Nat} (h : Bel a w) (g : w.grownBy w' r) (hr : ∀ k, r = some k → a.heap.size ≤ k) : Bel a w' := Below.grown h g h.size hr
theorem own_base {w : World} {base e s n : Nat} {v : Value} {xs : List Value} (h : w.ownsRow base e s v n xs) : ∀ k, v.ownBlock = some k → base ≤ k := by
  intro k hk
  rcases h.2 with ⟨rfl, _⟩ | ⟨g, cap, cur, rfl, hg, _⟩
  · simp [Value.ownBlock] at hk
  · simp [Value.ownBlock] at hk; omega
theorem own_form {w : World} {base e s n : Nat} {v : Value} {xs : List Value} (h : w.ownsRow base e s v n xs) : ∃ ad m c, v = .slice ad m c := by
  rcases h.2 with ⟨rfl, _⟩ | ⟨g, cap, cur, rfl, hg, _⟩ <;> exact ⟨_, _, _, rfl⟩
/-- A row lies nowhere but in its own block. -/
theorem ownsRow_bel {w w' : World} {base e s n : Nat} {v : Value} {xs : List Value} (h : w.ownsRow base e s v n xs) (hb : Bel w w') : w'.ownsRow base e s v n xs := by
  refine ⟨h.1, ?_⟩
  rcases h.2 with h0 | ⟨g, cap, cur, e1, e2, hh, r⟩
  · exact .inl h0
  · exact .inr ⟨g, cap, cur, e1, e2, by rw [hb.block g (Array.getElem?_eq_some_iff.1 hh).1]; exact hh, r⟩
end Go.Proofs.Ytnldienjkejfcaa
