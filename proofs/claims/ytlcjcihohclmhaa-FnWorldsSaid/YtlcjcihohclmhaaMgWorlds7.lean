/- Texts merged, part 7. -/
import Derived.Maps.AppendAt
import Derived.Deep.AppendLies
import Derived.Laws.AppendOwnNone
import Derived.Deep.RegionHeldLaw
import Derived.Test.YtlcjcihohclmhaaMgWorlds6
section
/- A row of slices of ints, all of the call's own, grown by append. -/
namespace Go.Proofs.Ytlcjcihohclmhaa
open Go.RowKit

def rowBlk (w : World) (v : Value) : Nat := v.ownBlock.getD w.heap.size
def RowO (base : Nat) (w : World) (v : Value) (xss : List (List Int)) : Prop :=
  ∃ (us : List Value) (bs : Nat → Nat), w.ownsRow base 24 1 v us.length us ∧ Ins base w.heap.size (rowBlk w v) w us xss bs
theorem RowO.nil (base : Nat) (w : World) : RowO base w (.slice none 0 0) [] := ⟨[], _, World.ownsRow_nil _ _ _ _, (Ins.none _ _ _ _).mono (Nat.le_refl _) (Nat.le_refl _)⟩
theorem Ins.blk {lo hi b b' w us xss bs} (h : Ins lo hi b w us xss bs) (hb : ∀ j, j < xss.length → 0 < (xss.getD j []).length → bs j ≠ b') : Ins lo hi b' w us xss bs :=
  ⟨h.len, fun j hj hp => ⟨(h.rng j hj hp).1, (h.rng j hj hp).2.1, hb j hj hp⟩, h.inj, h.own⟩
theorem RowO.form {base : Nat} {w : World} {v : Value} {xss : List (List Int)} (h : RowO base w v xss) : ∃ ad c, v = .slice ad xss.length c := by
  obtain ⟨us, bs, ho, hi⟩ := h
  obtain ⟨ad, n, c, rfl⟩ := own_form ho
  have := row_len ho
  exact ⟨ad, c, by rw [this, hi.len]⟩
theorem RowO.bel {base : Nat} {w w' : World} {v : Value} {xss : List (List Int)} (h : RowO base w v xss) (hb : Bel w w') : RowO base w' v xss := by
  obtain ⟨us, bs, ho, hi⟩ := h
  refine ⟨us, bs, ownsRow_bel ho hb, ((hi.below hb).mono (Nat.le_refl _) hb.size).blk fun j hj hp => ?_⟩
  have hr := hi.rng j hj hp
  unfold rowBlk at hr ⊢
  cases hv : v.ownBlock with
  | none => have := hb.size; simp only [Option.getD_none]; omega
  | some g => rw [hv] at hr; simp only [Option.getD_some] at hr ⊢; exact hr.2.2
theorem RowO.own {base : Nat} {w : World} {v : Value} {xss : List (List Int)} (h : RowO base w v xss) : OwnS base w.heap.size w v xss := by
  obtain ⟨us, bs, ho, hi⟩ := h
  refine OwnS.of_row (us := us) (bs := bs) (e := 24) (by rw [← hi.len]; exact ho) (Nat.le_refl _) (fun g hg => ?_)
  unfold rowBlk at hi
  rw [hg] at hi
  exact hi
theorem RowO.step {base : Nat} {w0 w1 w2 : World} {v u : Value} {xss : List (List Int)} {t : List Int} (h : RowO base w0 v xss) (h1 : Bel w0 w1) (h2 : Bel w1 w2) (ho : OwnI w0.heap.size w1.heap.size w1 u t) (hbase : base ≤ w0.heap.size) :
    ∃ us : List Value, w2.ownsRow base 24 1 v us.length us ∧ us.length = xss.length ∧ ∀ w3 v', w3.ownsRow base 24 1 v' (us.length + 1) (us ++ [u]) → w2.grownBy w3 v.ownBlock → (v'.ownBlock = v.ownBlock ∨ v'.ownBlock = some w2.heap.size) → RowO base w3 v' (xss ++ [t]) := by
  obtain ⟨us, bs, hw, hi⟩ := h
  have hlt := hw.lt
  have hz1 := h1.size
  have hz2 := h2.size
  refine ⟨us, ownsRow_bel hw (h1.step h2), hi.len, fun w3 v' hown hg hat => ?_⟩
  have hz3 := hg.size
  obtain ⟨b', hb'⟩ : ∃ b', v'.ownBlock = some b' := by
    rcases hown.2 with ⟨_, hn⟩ | ⟨g, cap, cur, rfl, _⟩
    · omega
    · exact ⟨g, by simp [Value.ownBlock]⟩
  have hrb : rowBlk w3 v' = b' := by unfold rowBlk; rw [hb']; rfl
  -- the elements, in the new world
  have hi2 := hi.below (h1.step h2)
  have hi3 : Ins base w0.heap.size (rowBlk w0 v) w3 us xss bs := by
    refine hi2.but fun x hx _ hxl hx2 => hg.block x hx2 fun e => hx ?_
    unfold rowBlk; rw [← e]; rfl
  have hbb : b' < w0.heap.size ∨ w2.heap.size ≤ b' := by
    rcases hat with e | e
    · rw [hb'] at e; exact .inl (hlt b' e.symm).2
    · rw [hb'] at e; simp at e; exact .inr (by omega)
  have hne : ∀ j, j < xss.length → 0 < (xss.getD j []).length → bs j ≠ b' := by
    intro j hj hp
    have hr := hi.rng j hj hp
    rcases hat with e | e
    · unfold rowBlk at hr; rw [← e, hb'] at hr; exact hr.2.2
    · rw [hb'] at e; simp at e; omega
  have ho3 : OwnI w0.heap.size w1.heap.size w3 u t := (ho.below h2).same fun x hx1 hx2 hx3 => hg.block x hx3 fun e => by have := (hlt x e.symm).2; omega
  obtain ⟨bs', hf⟩ := (hi3.blk hne).snoc ho3 (Nat.le_refl _) hbase (by omega) (hi2 := w3.heap.size) (by omega) (by omega)
  refine ⟨us ++ [u], bs', by simpa using hown, ?_⟩
  rw [hrb]
  exact hf
end Go.Proofs.Ytlcjcihohclmhaa
end
section
/- A number of bytes. -/
namespace Go.Proofs.Ytlcjcihohclmhaa
open Go.RowKit

def RetNum (w : World) (e : Ending) (w' : World) : Prop := ∃ x : Int, e = .returned (.int .i64 x) ∧ 0 ≤ x ∧ x < 1000003 ∧ Bel w w'
end Go.Proofs.Ytlcjcihohclmhaa
end
section
/- The laws' assignments, of some bytes. -/
namespace Go.Proofs.Ytlcjcihohclmhaa
open Go.RowKit

/-- An assignment of new memory. -/
def RetEnv (Z : Int) (w : World) (e : Ending) (w' : World) : Prop := ∃ ad n c env, e = .returned (.slice ad n c) ∧ OwnI w.heap.size w'.heap.size w' (.slice ad n c) env ∧ okEnv Z env = true ∧ Bel w w'
theorem shift_bd (s : Int) : 0 ≤ wrap64 (IntKind.u64.wrap s / 1099511627776) ∧ wrap64 (IntKind.u64.wrap s / 1099511627776) < 16777216 := by
  have h0 : 0 ≤ IntKind.u64.wrap s ∧ IntKind.u64.wrap s ≤ 18446744073709551615 := by
    rw [IntKind.wrap_u64]; omega
  generalize IntKind.u64.wrap s = a at h0
  rw [IntWalk.wrap64_in (a / 1099511627776) (by omega)]
  omega

end Go.Proofs.Ytlcjcihohclmhaa
end
section
/- The laws' worlds, of some bytes. -/
namespace Go.Proofs.Ytlcjcihohclmhaa
open Go.RowKit

/-- A world of new memory: its tables are as long as they must be. -/
def RetWof (ar : List Int) (w : World) (e : Ending) (w' : World) : Prop :=
  ∃ v Z tb, e = .returned (.agg #[.int .i64 Z, v]) ∧ SlS w.heap.size w'.heap.size w' v tb ∧ (∀ j, (tb.getD j []).length ≤ 27) ∧ (goodSign ar = true → isWorld ar Z tb = true) ∧ tb.length = ar.length ∧ 1 ≤ Z ∧ Z ≤ 3 ∧ Bel w w'

theorem RowO.low {B : Nat} {w : World} {v : Value} {xss : List (List Int)} (h : RowO B w v xss) {p : Addr} (hp : p.block < B) (u : Value) : RowO B (w.setCell p u) v xss := by
  obtain ⟨us, bs, h1, h2⟩ := h
  refine ⟨us, bs, ownsRow_setCell_below h1 hp u, ?_⟩
  have h3 : rowBlk (w.setCell p u) v = rowBlk w v := by unfold rowBlk; rw [World.size_setCell]
  rw [h3, World.size_setCell]
  exact h2.same fun b hb1 _ _ => Below.heap_setCell w p u b (by omega)
theorem pow27 {Z e : Nat} (hZ : Z ≤ 3) (he : e ≤ 3) : Z ^ e ≤ 27 := Nat.le_trans (Nat.pow_le_pow_left hZ e) (Nat.le_trans (Nat.pow_le_pow_right (by omega) he) (by decide))
/-- What stays while the tables are made: the size, the signature, the result's cells. -/
structure WF (w : World) (g : Nat) (Z : Int) (sg : Value) (wr : World) : Prop where
  size : wr.cell? ⟨g, 0, none⟩ = some (.int .i64 Z)
  free : ∀ j, wr.frozen? ⟨g, j, none⟩ = false
  sign : wr.cell? ⟨w.heap.size, 0, none⟩ = some sg
  r0 : wr.cell? ⟨w.heap.size + 1, 0, none⟩ = some (.int .i64 0)
  r1 : wr.cell? ⟨w.heap.size + 1, 1, none⟩ = some (.slice none 0 0)
  rf : ∀ j, wr.frozen? ⟨w.heap.size + 1, j, none⟩ = false
  bel : Bel w wr
  big : g + 1 ≤ wr.heap.size
  low : w.heap.size + 2 ≤ g
theorem WF.same {w wr w' : World} {g : Nat} {Z : Int} {sg : Value} (h : WF w g Z sg wr) (hg : ∀ b, b ≤ g → w'.heap[b]? = wr.heap[b]?) (hb : Bel w w') (hz : wr.heap.size ≤ w'.heap.size) : WF w g Z sg w' := by
  have hl := h.low
  have c := fun (b j : Nat) (hbg : b ≤ g) => World.cell?_of_block (w := wr) (w' := w') (a := ⟨b, j, none⟩) (hg b hbg)
  have f := fun (b j : Nat) (hbg : b ≤ g) => World.frozen?_of_block (w := wr) (w' := w') (a := ⟨b, j, none⟩) (hg b hbg)
  exact ⟨(c g 0 (Nat.le_refl _)).trans h.size, fun j => (f g j (Nat.le_refl _)).trans (h.free j), (c _ 0 (by omega)).trans h.sign, (c _ 0 (by omega)).trans h.r0, (c _ 1 (by omega)).trans h.r1, fun j => (f _ j (by omega)).trans (h.rf j), hb, Nat.le_trans h.big hz, hl⟩
theorem WF.step {w wr w' : World} {g : Nat} {Z : Int} {sg : Value} (h : WF w g Z sg wr) (hb : Bel wr w') : WF w g Z sg w' :=
  h.same (fun b hbg => hb.block b (by have := h.big; omega)) (h.bel.step hb) hb.size
theorem WF.grown {w wr w' : World} {g : Nat} {Z : Int} {sg : Value} {r : Option Nat} (h : WF w g Z sg wr) (hg : wr.grownBy w' r) (hr : ∀ b, r = some b → g < b) : WF w g Z sg w' :=
  h.same (fun b hbg => hg.block b (by have := h.big; omega) (fun e => by have := hr b e.symm; omega)) (h.bel.grown hg (fun b e => by have := hr b e; have := h.low; omega)) hg.size
theorem WF.set1 {w wr : World} {g : Nat} {Z : Int} {sg : Value} (h : WF w g Z sg wr) (u : Value) : WF w g Z sg (wr.setCell ⟨g, 1, none⟩ u) := by
  have hl := h.low
  refine ⟨?_, fun j => by rw [World.frozen?_setCell]; exact h.free j, ?_, ?_, ?_, fun j => by rw [World.frozen?_setCell]; exact h.rf j, h.bel.set (p := ⟨g, 1, none⟩) (by show w.heap.size ≤ g; omega) u, by rw [World.size_setCell]; exact h.big, hl⟩
  · rw [World.cell?_setCell_other (h := by intro e; simp at e)]; exact h.size
  · rw [World.cell?_setCell_other (h := by intro e; simp at e)]; exact h.sign
  · rw [World.cell?_setCell_other (h := by intro e; simp at e)]; exact h.r0
  · rw [World.cell?_setCell_other (h := by intro e; simp at e <;> omega)]; exact h.r1

end Go.Proofs.Ytlcjcihohclmhaa
end
section
/- Chapter 5: a literal's truth hangs on its own variables; what a test remembers. No program. -/
namespace Go.Proofs.Ytlcjcihohclmhaa
open Go.RowKit

section
variable {ar : List Int} {sz : Int} {tb : List (List Int)}
theorem Ev.congr {env env' : List Int} {s : Option Nat} {y vs : List Int} (h : Ev ar sz tb env s y vs) (hq : ∀ n ∈ y, n < 0 → env.getD (-1 - n).toNat 0 = env'.getD (-1 - n).toNat 0) : Ev ar sz tb env' s y vs := by
  induction h with
  | var n h1 h2 => rw [hq n (by simp) h2]; exact Ev.var n h1 h2
  | node n ys vs h1 h2 _ ih => exact Ev.node n ys vs h1 h2 (ih fun m hm => hq m (List.mem_cons_of_mem _ hm))
  | nil => exact Ev.nil
  | cons m y ys v vs _ _ ih1 ih2 => exact Ev.cons m y ys v vs (ih1 fun k hk => hq k (List.mem_append_left _ hk)) (ih2 fun k hk => hq k (List.mem_append_right _ hk))
theorem evT_congr {env env' t : List Int} (ht : okTerm ar t = true) (hq : ∀ n ∈ t, n < 0 → env.getD (-1 - n).toNat 0 = env'.getD (-1 - n).toNat 0) : evT ar sz tb env t = evT ar sz tb env' t :=
  (ev_eq ht ((ev_whole ht).congr hq)).symm
end
theorem varsC_mem {c : List Lt} {x : Lt} (hx : x ∈ c) {n : Int} (hn : n ∈ x.2.1 ∨ n ∈ x.2.2) (h0 : n < 0) (h12 : -12 ≤ n) : (-1 - n).toNat ∈ varsC c := by
  unfold varsC varsTo
  rw [List.mem_filter, List.mem_range]
  refine ⟨by omega, ?_⟩
  unfold mk
  rw [decide_eq_true_eq, show (-1 - (((-1 - n).toNat : Nat) : Int)) = n by omega, List.mem_flatten]
  rcases hn with h | h
  · exact ⟨x.2.1, List.mem_flatMap.2 ⟨x, hx, by simp⟩, h⟩
  · exact ⟨x.2.2, List.mem_flatMap.2 ⟨x, hx, by simp⟩, h⟩
theorem litH_congr {ar : List Int} {sz : Int} {tb : List (List Int)} {x : Lt} {e e' : List Int} (o1 : okTerm ar x.2.1 = true) (o2 : okTerm ar x.2.2 = true) (h : ∀ v ∈ varsC [x], e.getD v 0 = e'.getD v 0) : litH ar sz tb e x = litH ar sz tb e' x := by
  unfold litH
  rw [evT_congr (env' := e') o1 (fun n hn h0 => h _ (varsC_mem (by simp) (.inl hn) h0 (ok_low o1 hn))), evT_congr (env' := e') o2 (fun n hn h0 => h _ (varsC_mem (by simp) (.inr hn) h0 (ok_low o2 hn)))]
/-- The index of an assignment among those of these variables. -/
def idxW (sz : Int) (vs : List Nat) (e : List Int) : Int := noOf sz (vs.map fun v => e.getD v 0)
theorem fold_inj {sz : Int} (hs : 1 ≤ sz) : ∀ (xs ys : List Int) (a b : Int), xs.length = ys.length → (∀ x ∈ xs, 0 ≤ x ∧ x ≤ sz - 1) → (∀ y ∈ ys, 0 ≤ y ∧ y ≤ sz - 1) → xs.foldl (fun no v => no * sz + v) a = ys.foldl (fun no v => no * sz + v) b → a = b ∧ xs = ys := by
  intro xs
  induction xs with
  | nil =>
    intro ys a b hl _ _ h
    obtain rfl : ys = [] := List.length_eq_zero_iff.1 hl.symm
    exact ⟨h, rfl⟩
  | cons x xs ih =>
    intro ys a b hl hx hy h
    match ys, hl with
    | y :: ys, hl =>
      obtain ⟨h1, h2⟩ := ih ys (a * sz + x) (b * sz + y) (by simpa using hl) (fun z hz => hx z (by simp [hz])) (fun z hz => hy z (by simp [hz])) h
      obtain ⟨x0, x1⟩ := hx x (by simp)
      obtain ⟨y0, y1⟩ := hy y (by simp)
      have e1 : (a * sz + x) % sz = x := by rw [Int.add_comm, Int.add_mul_emod_self_right]; exact Int.emod_eq_of_lt x0 (by omega)
      have e2 : (b * sz + y) % sz = y := by rw [Int.add_comm, Int.add_mul_emod_self_right]; exact Int.emod_eq_of_lt y0 (by omega)
      have hxy : x = y := by rw [← e1, ← e2, h1]
      subst hxy
      have h3 : a * sz = b * sz := by omega
      exact ⟨Int.eq_of_mul_eq_mul_right (by omega) h3, by rw [h2]⟩
theorem idx_inj {sz : Int} (hs : 1 ≤ sz) {vs : List Nat} {e e' : List Int} (hv : ∀ v ∈ vs, v < 12) (h : okEnv sz e = true) (h' : okEnv sz e' = true) (hi : idxW sz vs e = idxW sz vs e') : ∀ v ∈ vs, e.getD v 0 = e'.getD v 0 := by
  have hb : ∀ (f : List Int), okEnv sz f = true → ∀ x ∈ vs.map (fun v => f.getD v 0), 0 ≤ x ∧ x ≤ sz - 1 := fun f hf x hx => by
    obtain ⟨v, hv', rfl⟩ := List.mem_map.1 hx
    exact (okEnv_iff.1 hf).2 v (hv v hv')
  have := (fold_inj hs _ _ 0 0 (by simp) (hb e h) (hb e' h') hi).2
  intro v hm
  have h2 := List.map_inj_left.1 this v hm
  exact h2
theorem idx_bd {sz : Int} (hs : 1 ≤ sz) {vs : List Nat} {e : List Int} (hv : ∀ v ∈ vs, v < 12) (h : okEnv sz e = true) : 0 ≤ idxW sz vs e ∧ idxW sz vs e < ((sz.toNat ^ vs.length : Nat) : Int) := by
  have := noOf_bd hs (vs.map fun v => e.getD v 0) (fun x hx => by
    obtain ⟨v, hv', rfl⟩ := List.mem_map.1 hx
    exact (okEnv_iff.1 h).2 v (hv v hv'))
  unfold longW at this
  rw [List.length_map, Int.toNat_natCast] at this
  exact this
/-- What has been remembered is right. -/
def Known (ar : List Int) (sz : Int) (tb : List (List Int)) (x : Lt) (ks : List Int) : Prop :=
  ks.length = sz.toNat ^ (varsC [x]).length ∧ ∀ e, okEnv sz e = true → (ks.getD (idxW sz (varsC [x]) e).toNat 0 = 0 ∨ ks.getD (idxW sz (varsC [x]) e).toNat 0 = if litH ar sz tb e x then 2 else 1)
theorem Known.new (ar : List Int) (sz : Int) (tb : List (List Int)) (x : Lt) : Known ar sz tb x (List.replicate (sz.toNat ^ (varsC [x]).length) 0) := by
  refine ⟨by simp, fun e _ => .inl ?_⟩
  rw [List.getD_eq_getElem?_getD, List.getElem?_replicate]
  split <;> rfl
theorem varsC_lt {c : List Lt} : ∀ v ∈ varsC c, v < 12 := fun v hv => by
  unfold varsC varsTo at hv
  rw [List.mem_filter, List.mem_range] at hv
  exact hv.1
theorem Known.put {ar : List Int} {sz : Int} {tb : List (List Int)} {x : Lt} {ks : List Int} (h : Known ar sz tb x ks) (hs : 1 ≤ sz) (o1 : okTerm ar x.2.1 = true) (o2 : okTerm ar x.2.2 = true) {e : List Int} (he : okEnv sz e = true) (y : Int) (hy : y = if litH ar sz tb e x then 2 else 1) :
    Known ar sz tb x (ks.set (idxW sz (varsC [x]) e).toNat y) := by
  refine ⟨by simp [h.1], fun e' he' => ?_⟩
  rw [set_getD]
  by_cases hc : (idxW sz (varsC [x]) e).toNat = (idxW sz (varsC [x]) e').toNat ∧ (idxW sz (varsC [x]) e).toNat < ks.length
  · rw [if_pos hc]
    have h1 := idx_bd hs (varsC_lt (c := [x])) he
    have h2 := idx_bd hs (varsC_lt (c := [x])) he'
    have h3 := idx_inj hs (varsC_lt (c := [x])) he he' (by omega)
    refine .inr ?_
    rw [hy, litH_congr o1 o2 h3]
  · rw [if_neg hc]
    exact h.2 e' he'
end Go.Proofs.Ytlcjcihohclmhaa
end
section
/- Chapter 5, the reference: HoldsAt. -/
namespace Go.Proofs.Ytlcjcihohclmhaa
open Go.RowKit

theorem l4Clause_w (l h l' h' : Nat) (v u : Value) (ar : List Int) (c : List Lt) (q : Bool) (w : World) (he : okLits ar c = q) (hg : goodSign ar = true) (hx : shortC c) (hv : SlI l h w v ar) (hu : SlC l' h' w u c) :
    Calls Try.prog 29 #[.agg #[v], u] w (RetV w (.bool q)) := by subst he; exact l4Clause_c l h l' h' v u ar c w hg hx hv hu
def holdsOk (ar : List Int) (sz : Int) (tb : List (List Int)) (c : List Lt) (env : List Int) : Bool := goodWorld ar sz tb && (okLits ar c && okEnv sz env)
def holdsAns (ar : List Int) (sz : Int) (tb : List (List Int)) (c : List Lt) (env : List Int) : Bool := if holdsOk ar sz tb c env then clH ar sz tb env c else false

end Go.Proofs.Ytlcjcihohclmhaa
end
section
/- Chapter 5, the program: the value of a term. -/
namespace Go.Proofs.Ytlcjcihohclmhaa
open Go.RowKit

theorem noOf_tk {sz : Int} (l : List Int) (k : Nat) (hk : k < l.length) : noOf sz (l.take (k+1)) = noOf sz (l.take k) * sz + l.getD k 0 := by
  rw [List.take_succ_eq_append_getElem hk, noOf_snoc]
  simp [List.getD, hk]
theorem stk_at {w : World} {B : Nat} {vs : List Int} (h : Stk w B vs) (q : Nat) (hq : q < vs.length) : w.cell? ⟨B, vs.length - (q + 1), none⟩ = some (.int .i64 (vs.getD q 0)) := by
  have := h.2.2 q hq
  rwa [show vs.length - 1 - q = vs.length - (q + 1) by omega] at this

set_option maxRecDepth 100000 in
set_option maxHeartbeats 2000000 in
theorem valueIn_c (l h l' h' l2 h2 l3 h3 : Nat) (v u vt ve : Value) (ar : List Int) (sz : Int) (tb : List (List Int)) (t env : List Int) (w : World) (hg : goodSign ar = true) (hw : isWorld ar sz tb = true) (he : okEnv sz env = true) (hok : okTerm ar t = true)
    (hv : SlI l h w v ar) (hu : SlS l' h' w u tb) (ht : SlI l2 h2 w vt t) (hve : SlI l3 h3 w ve env) :
    Calls Try.prog 66 #[.agg #[v], .agg #[.int .i64 sz, u], vt, ve] w (RetV w (.int .i64 (evT ar sz tb env t))) := by
  obtain ⟨w1, w2, w3, w4⟩ := isWorld_iff.1 hw
  obtain ⟨e1, e2⟩ := okEnv_iff.1 he
  have htl := ((okTerm_iff ar t).1 hok).2.1
  have ht1 := ((okTerm_iff ar t).1 hok).1
  have HM : Hid (∀ m : Nat, okSym ar (m : Int) = true → m < tb.length) := fun m hm => by have := okSym_lt hm; omega
  have HALL := Lib.hid (suf_all (sz := sz) (tb := tb) (env := env) hok)
  have HBD := Lib.hid (fun i hi => suf_bd (tb := tb) (env := env) hg hw he hok i hi)
  have HARG := Lib.hid (fun i hi hn => suf_args (sz := sz) (tb := tb) (env := env) hok i hi hn)
  have HLEN := Lib.hid (fun y => sufV_len (ar := ar) (sz := sz) (tb := tb) (env := env) y)
  have HSYM := Lib.hid (good_sym ar t hok)
  have HTB := Lib.hid w4
  clear w3 w4 hok hw he
  obtain ⟨av, cv, rfl, -, -, hrv⟩ := hv
  obtain ⟨at', ct, rfl, -, -, hrt⟩ := ht
  obtain ⟨ae, ce, rfl, -, -, hre⟩ := hve
  obtain ⟨au, cu, rfl⟩ := hu.form
  go_enter Try.func66, Try.ntmps66
  go_wp2_with fail
  obtain ⟨W, hW⟩ : ∃ W, W = (w.alloc (.cells #[.slice av ar.length cv] 26)).alloc (.cells #[.int .i64 sz, .slice au tb.length cu] 29) := ⟨_, rfl⟩
  have hB : Bel w W := by rw [hW]; exact Bel.alloc2 _ _ _
  have zW : W.heap.size = w.heap.size + 1 + 1 := by rw [hW]; simp
  have k0 : W.cell? ⟨w.heap.size, 0, none⟩ = some (.slice av ar.length cv) := by rw [hW]; simp [go_sem]
  have k1 : W.cell? ⟨w.heap.size + 1, 0, none⟩ = some (.int .i64 sz) := by rw [hW]; simp [go_sem]
  have k2 : W.cell? ⟨w.heap.size + 1, 1, none⟩ = some (.slice au tb.length cu) := by rw [hW]; simp [go_sem]
  rw [← hW, ← zW]
  replace zW : w.heap.size + 1 < W.heap.size := by omega
  clear hW
  go_loopw [10, 11] (fun top i wr => ∃ k : Nat, k ≤ t.length ∧ i = .int .i64 ((k : Int) - 1) ∧ top = .int .i64 (((sufV ar sz tb env (t.drop k)).length : Nat) : Int) ∧ Stk wr W.heap.size (sufV ar sz tb env (t.drop k)) ∧ Bel W wr) (fun _ i _ => (intOf i + 1).toNat)
  case atStart =>
    refine ⟨t.length, Nat.le_refl _, rfl, ?_, ?_, Bel.alloc0 _ _⟩
    · rw [List.drop_length]; rfl
    · rw [List.drop_length]; exact Stk.new W _ _ rfl
  case round =>
    obtain ⟨k, hk, rfl, rfl, hst, hb⟩ := hrel
    have q0 := hb.at (by omega) k0
    have q1 := hb.at (by omega) k1
    have q2 := hb.at (by omega) k2
    cases k with
    | zero =>
      rw [List.drop_zero, HALL.out] at hst
      have hc0 : wr.cell? ⟨W.heap.size, 0, none⟩ = some (.int .i64 (evT ar sz tb env t)) := hst.2.2 0 (by simp)
      have hz : decide (((0 : Nat) : Int) - 1 ≥ 0) = false := by simp
      clear hst HALL HBD HARG
      go_wp2_with fail
      go_ret
      exact ⟨rfl, hB.step hb⟩
    | succ k =>
      rw [show ((k + 1 : Nat) : Int) - 1 = (k : Int) from by omega]
      obtain ⟨bt, offt, rfl, hbtl, hct⟩ := rd hrt (hB.step hb) k (by omega)
      have hsym := HSYM.out k (by omega)
      have hvl := HLEN.out (t.drop (k+1))
      rw [List.length_drop] at hvl
      have hbd := Lib.hid (HBD.out (k+1) (by omega))
      have harg := Lib.hid (HARG.out k (by omega))
      have hdrop : Hid (sufV ar sz tb env (t.drop k) = sufV ar sz tb env (t.getD k 0 :: t.drop (k+1))) := by show _ = _; rw [drop_cons t k (by omega)]
      have hkt : (k : Int) < t.length := by omega
      by_cases hneg : t.getD k 0 < 0
      · have E := Lib.hid (hdrop.out.trans (sufV_neg hneg))
        obtain ⟨j, hj⟩ : ∃ j : Nat, t.getD k 0 = -1 - (j : Int) := ⟨(-1 - t.getD k 0).toNat, by omega⟩
        have hj12 : j < 12 := by rw [hj] at hsym; unfold okSym inB at hsym; simp at hsym; omega
        rw [hj] at hct E
        obtain ⟨be, offe, rfl, hbel, hce⟩ := rd hre (hB.step hb) j (by omega)
        have hw1 := IntWalk.i64_in (-1 - (-1 - (j : Int))) (by omega)
        have hjj : -1 - (-1 - (j : Int)) = (j : Int) := by omega
        rw [hjj] at hw1
        have hjE : (-1 - (-1 - (j : Int))).toNat = j := by omega
        rw [hjE] at E
        have hneg2 : decide ((-1 - (j : Int)) < 0) = true := by simp; omega
        have hjl : (j : Int) < 12 := by omega
        clear harg hbd hdrop hneg hj hsym hjE hrt hre HALL HBD HARG HLEN HSYM HTB
        generalize env.getD j 0 = val at *
        generalize sufV ar sz tb env (t.drop (k+1)) = vs at *
        have hst2 := Lib.hid (hst.push val (by omega))
        obtain ⟨x, hcx, hfx⟩ := hst.2.1 vs.length (by omega)
        have hl40 : ((vs.length : Nat) : Int) < 40 := by omega
        have hbs := Lib.hid (hb.set (p := ⟨W.heap.size, vs.length, none⟩) (Nat.le_refl _) (.int .i64 val))
        clear hst hvl
        go_wp2_with fail
        go_roundw
        case rel => exact ⟨k, by omega, by go_num, by rw [E.out]; simp, by rw [E.out]; exact hst2.out, hbs.out⟩
        case measure => simp [intOf]
      · have E := Lib.hid (hdrop.out.trans (sufV_sym hneg))
        have hal := harg.out (by omega)
        obtain ⟨m, hm⟩ : ∃ m : Nat, t.getD k 0 = (m : Int) := ⟨(t.getD k 0).toNat, by omega⟩
        rw [hm] at hct E hal hsym
        have hma := okSym_lt hsym
        have hmt := HM.out m hsym
        obtain ⟨ba, offa, rfl, hbal, hca⟩ := rd hrv (hB.step hb) m hma
        have h03 := ar_nonneg ar hg m
        obtain ⟨A, hA⟩ : ∃ A : Nat, ar.getD m 0 = (A : Int) := ⟨(ar.getD m 0).toNat, by omega⟩
        have hTT := HTB.out m hmt
        have hAA : arOf ar (m : Int) = A := by rw [arOf_nat, hA]; simp
        rw [hAA] at E hal
        rw [hA] at hca h03 hTT
        have hA3 : A ≤ 3 := by omega
        have hneg2 : decide ((m : Int) < 0) = false := by simp
        have hmal : (m : Int) < ar.length := by omega
        have hmtl : (m : Int) < tb.length := by omega
        unfold entry at E
        rw [Int.toNat_natCast] at E
        obtain ⟨bb, off, u1, rfl, hbs, c1, s1⟩ := hu.at (hB.step hb) m hmt
        obtain ⟨x1, x2, rfl, -, -, hrx⟩ := s1
        clear harg hdrop hneg hm hsym hA hAA hrt hre hrv HALL HBD HARG HLEN HSYM HTB HM
        generalize sufV ar sz tb env (t.drop (k+1)) = vs at *
        have HNO : Hid (∀ q, q ≤ A → 0 ≤ noOf sz (vs.take q) ∧ noOf sz (vs.take q) ≤ 26) := fun q hq => noOf_le w1 w2 _ (fun x hx => hbd.out x (List.mem_of_mem_take hx)) (by rw [List.length_take]; omega)
        have HNL : Hid (noOf sz (vs.take A) < ((tb.getD m []).length : Nat)) := by
          show _ < _
          have := noOf_bd w1 (vs.take A) (fun x hx => hbd.out x (List.mem_of_mem_take hx))
          rw [hTT.1]
          rw [List.length_take, show min A vs.length = A by omega] at this
          exact this.2
        have HVB : Hid (∀ q, q < vs.length → 0 ≤ vs.getD q 0 ∧ vs.getD q 0 ≤ sz - 1) := fun q hq => hbd.out _ (mem_gd vs 0 q hq)
        have hvl40 : vs.length < 40 := by omega
        clear hTT hbd hvl
        go_wp2_with fail
        obtain ⟨wo, hwo⟩ : ∃ wo, wo = wr := ⟨_, rfl⟩
        subst hwo
        have zB : W.heap.size < wo.heap.size := hst.1
        go_loopw [10, 13, 41] (fun top no j w2' => ∃ q : Nat, q ≤ A ∧ j = .int .i64 q ∧ no = .int .i64 (noOf sz (vs.take q)) ∧ top = .int .i64 ((vs.length - q : Nat) : Int) ∧ Bel wo w2') (fun _ _ j _ => A - (intOf j).toNat)
        case atStart => exact ⟨0, Nat.zero_le _, rfl, by simp [noOf], rfl, Bel.rfl' _⟩
        case round =>
          obtain ⟨q, hq, rfl, rfl, rfl, hbq⟩ := hrel
          have hn0 := HNO.out q hq
          by_cases hqA : q < A
          · have hv0 := HVB.out q (by omega)
            have hs1 := hbq.at zB (stk_at hst q (by omega))
            have HS := Lib.hid (noOf_tk (sz := sz) vs q (by omega))
            have r1 := hbq.at (by omega) q1
            have hsub : ((vs.length - q : Nat) : Int) - 1 = ((vs.length - (q + 1) : Nat) : Int) := by omega
            have hs40 : ((vs.length - (q + 1) : Nat) : Int) < 40 := by omega
            have hs41 : ((vs.length - q : Nat) : Int) ≤ 40 := by omega
            have hs42 : (1 : Int) ≤ ((vs.length - q : Nat) : Int) := by omega
            have hmul : noOf sz (vs.take q) * sz ≤ noOf sz (vs.take q) * 3 := Int.mul_le_mul_of_nonneg_left w2 hn0.1
            have hmul0 := Int.mul_nonneg hn0.1 (show 0 ≤ sz by omega)
            generalize vs.getD q 0 = x at *
            generalize noOf sz (vs.take q) = no at *
            have i1 := IntWalk.i64_in (no * sz) (by omega)
            have i2 := IntWalk.i64_in (no * sz + x) (by omega)
            have i3 := IntWalk.i64_in (((vs.length - q : Nat) : Int) - 1) (by omega)
            rw [hsub] at i3
            have HSUB := Lib.hid hsub
            have hsz := Lib.hid hst
            clear hmul hmul0 HNO HNL HVB hst hrx hsub
            generalize hP : vs.length - (q + 1) = P at *
            generalize hQ : vs.length - q = Q at *
            have HP := Lib.hid hP
            have hPQ : (Q : Int) - 1 = (P : Int) := HSUB.out
            clear hP hQ
            go_wp2_with fail
            go_region_held3 (fun w' => Bel wr w' ∧ w'.cell? ⟨w.heap.size + 1, 0, none⟩ = some (.int .i64 sz) ∧ w'.cell? ⟨W.heap.size, P, none⟩ = some (.int .i64 x))
              (first | exact ⟨Bel.drew0 _, r1, hs1⟩ | fail)
              (first | fail)
            go_wp2_with fail
            go_roundw
            case rel => exact ⟨q+1, by omega, by go_num, by rw [HS.out], by rw [HP.out], hbq.step (Bel.drew0 _)⟩
            case measure => simp [intOf]; omega
          · obtain rfl : q = A := by omega
            obtain ⟨N, hN⟩ : ∃ N : Nat, noOf sz (vs.take q) = (N : Int) := ⟨(noOf sz (vs.take q)).toNat, by omega⟩
            have hnl := HNL.out
            rw [hN] at hnl hn0 E ⊢
            rw [Int.toNat_natCast] at E
            have hNL : N < (tb.getD m []).length := by omega
            obtain ⟨bx, ofx, rfl, hxl, hcx⟩ := rd hrx hbq N hNL
            have r2 := hbq.at (by omega) q2
            have c2 := hbq.at (World.block_lt_of_cell? _ ⟨_, _, none⟩ c1) c1
            have hst2 := (hst.below hbq).drop q hal
            have hdl : (vs.drop q).length = vs.length - q := List.length_drop
            obtain ⟨y, hcy, hfy⟩ := hst2.2.1 (vs.length - q) (by omega)
            have hl40 : ((vs.length - q : Nat) : Int) < 40 := by omega
            generalize (tb.getD m []).getD N 0 = val at *
            have hst3 := Lib.hid (hst2.push val (by omega))
            have hbs2 := Lib.hid ((hb.step hbq).set (p := ⟨W.heap.size, vs.length - q, none⟩) (Nat.le_refl _) (.int .i64 val))
            have HDL := Lib.hid hdl
            clear HNO HNL HVB hst hst2 hrx hN hnl hdl
            generalize (tb.getD m []).length = xl at *
            generalize hQ : vs.length - q = Q at *
            clear hQ
            go_wp2_with fail
            go_roundw
            case rel => exact ⟨k, by omega, by go_num, by rw [E.out, List.length_cons, HDL.out]; simp, by have h9 := hst3.out; rw [HDL.out] at h9; rw [E.out]; exact h9, hbs2.out⟩
            case measure => simp [intOf]
end Go.Proofs.Ytlcjcihohclmhaa
end
section
/- Chapter 5, the program: tables and their elements, GoodWorld. -/
namespace Go.Proofs.Ytlcjcihohclmhaa
open Go.RowKit

set_option maxRecDepth 100000 in
set_option maxHeartbeats 400000 in
theorem tableLength_c (Z A : Nat) (w : World) (h2 : Z ≤ 3) (h3 : A ≤ 3) :
    Calls Try.prog 46 #[.int .i64 (A : Int), .int .i64 (Z : Int)] w (RetV w (.int .i64 ((Z ^ A : Nat) : Int))) := by
  go_enter Try.func46, Try.ntmps46
  go_wp2_with fail
  go_loop [5, 7] (fun n a => ∃ k : Nat, k ≤ A ∧ a = .int .i64 k ∧ n = .int .i64 ((Z ^ k : Nat) : Int)) (fun _ a => A - (intOf a).toNat)
  case atStart => exact ⟨0, Nat.zero_le _, rfl, rfl⟩
  case round =>
    obtain ⟨k, hk, rfl, rfl⟩ := hrel
    by_cases hlt : k < A
    · have E := Lib.hid (pw_succ Z k)
      have hb := pw_le h2 (show k + 1 ≤ 3 by omega)
      have hw : -9223372036854775808 ≤ ((Z ^ k : Nat) : Int) * (Z : Int) ∧ ((Z ^ k : Nat) : Int) * (Z : Int) ≤ 9223372036854775807 := by rw [E.out]; omega
      have hw1 := IntWalk.i64_in (((Z ^ k : Nat) : Int) * (Z : Int)) hw
      clear hw hb
      generalize ((Z ^ k : Nat) : Int) = y at *
      go_wp2_with fail
      go_round
      case rel => exact ⟨k+1, by omega, by go_num, by rw [← E.out]⟩
      case measure => simp [intOf]; omega
    · obtain rfl : k = A := by omega
      generalize ((Z ^ k : Nat) : Int) = y at *
      go_wp2_with fail
      go_ret
      exact ⟨rfl, Bel.rfl' _⟩

theorem elem_in (x sz : Int) : inB x 0 (sz - 1) = (decide (0 ≤ x) && decide (x < sz)) := by
  unfold inB
  rw [show decide (x ≤ sz - 1) = decide (x < sz) from by rw [Bool.eq_iff_iff]; simp; omega]

set_option maxRecDepth 100000 in
set_option maxHeartbeats 400000 in
theorem areElements_c (l h : Nat) (v : Value) (xs : List Int) (sz : Int) (w : World) (hx : xs.length ≤ 1048576) (hv : SlI l h w v xs) :
    Calls Try.prog 47 #[v, .int .i64 sz] w (RetV w (.bool (xs.all (fun x => inB x 0 (sz - 1))))) := by
  obtain ⟨ad, cap, rfl, -, -, hr⟩ := hv
  go_enter Try.func47, Try.ntmps47
  go_wp2_with fail
  go_loop [9] (fun i => ∃ k : Nat, k ≤ xs.length ∧ i = .int .i64 k ∧ (xs.take k).all (fun x => inB x 0 (sz - 1)) = true) (fun i => xs.length - (intOf i).toNat)
  case atStart => exact ⟨0, Nat.zero_le _, rfl, by simp⟩
  case round =>
    obtain ⟨k, hk, rfl, hall⟩ := hrel
    by_cases hlt : k < xs.length
    · obtain ⟨b, off, rfl, hbl, hc⟩ := rd hr (Bel.rfl' w) k hlt
      have ES : (xs.take (k+1)).all (fun x => inB x 0 (sz - 1)) = (decide (0 ≤ xs.getD k 0) && decide (xs.getD k 0 < sz)) := (all_split xs (fun x => inB x 0 (sz - 1)) k hlt hall).trans (elem_in _ _)
      have EF : (decide (0 ≤ xs.getD k 0) && decide (xs.getD k 0 < sz)) = false → xs.all (fun x => inB x 0 (sz - 1)) = false := fun h => all_false xs (fun x => inB x 0 (sz - 1)) k hlt ((elem_in _ _).trans h)
      generalize xs.getD k 0 = x at *
      by_cases h0 : x < 0
      · have E := Lib.hid (EF (by rw [decide_eq_false (show ¬ 0 ≤ x by omega)]; rfl))
        clear ES EF hall hr
        go_wp2_with fail
        go_ret
        exact ⟨by rw [E.out]; rfl, Bel.rfl' _⟩
      · by_cases h1 : x < sz
        · have E := Lib.hid (ES.trans (by rw [decide_eq_true (show 0 ≤ x by omega), decide_eq_true h1, Bool.true_and]))
          clear ES EF hall hr
          go_wp2_with fail
          go_round
          case rel => exact ⟨k+1, by omega, by go_num, E.out⟩
          case measure => simp [intOf]; omega
        · have E := Lib.hid (EF (by rw [decide_eq_false h1, Bool.and_false]))
          clear ES EF hall hr
          go_wp2_with fail
          go_ret
          exact ⟨by rw [E.out]; rfl, Bel.rfl' _⟩
    · have E := Lib.hid (all_done xs _ k hk hlt hall)
      clear hall hr
      go_wp2_with fail
      go_ret
      exact ⟨by rw [E.out]; rfl, Bel.rfl' _⟩
theorem areElements_v (l h : Nat) (v : Value) (xs : List Int) (sz : Int) (q : Bool) (w : World) (he : xs.all (fun x => inB x 0 (sz - 1)) = q) (hx : xs.length ≤ 1048576) (hv : SlI l h w v xs) :
    Calls Try.prog 47 #[v, .int .i64 sz] w (RetV w (.bool q)) := by subst he; exact areElements_c l h v xs sz w hx hv

set_option maxRecDepth 100000 in
set_option maxHeartbeats 400000 in
theorem hasWorlds_c (l h : Nat) (v : Value) (ar : List Int) (sz : Int) (w : World) (ha : ar.length ≤ 1048576) (hv : SlI l h w v ar) :
    Calls Try.prog 45 #[.agg #[v], .int .i64 sz] w (RetV w (.bool (goodSign ar && inB sz 1 3))) := by
  cases hg : goodSign ar with
  | false =>
    have HC := Lib.hid (fun (w' : World) (hb : Bel w w') => iGoodSign_v l h v ar false w' hg ha (hv.below hb)); clear hg
    go_enter Try.func45, Try.ntmps45
    go_wp2_with fail
    refine (HC.out _ (Bel.alloc0 _ _)).mono ?_; rintro e w1 ⟨rfl, hb1⟩
    go_wp2_with fail
    go_ret
    exact ⟨rfl, hb1.of_alloc⟩
  | true =>
    rw [Bool.true_and]
    have HC := Lib.hid (fun (w' : World) (hb : Bel w w') => iGoodSign_v l h v ar true w' hg ha (hv.below hb)); clear hg
    by_cases h1 : 1 ≤ sz
    · by_cases h2 : sz ≤ 3
      · have E : Hid (inB sz 1 3 = true) := by show _ = _; unfold inB; simp [h1, h2]
        go_enter Try.func45, Try.ntmps45
        go_wp2_with fail
        refine (HC.out _ (Bel.alloc0 _ _)).mono ?_; rintro e w1 ⟨rfl, hb1⟩
        go_wp2_with fail
        go_ret
        exact ⟨by rw [E.out]; rfl, hb1.of_alloc⟩
      · have E : Hid (inB sz 1 3 = decide (sz ≤ 3)) := by show _ = _; unfold inB; rw [decide_eq_true h1, Bool.true_and]
        go_enter Try.func45, Try.ntmps45
        go_wp2_with fail
        refine (HC.out _ (Bel.alloc0 _ _)).mono ?_; rintro e w1 ⟨rfl, hb1⟩
        go_wp2_with fail
        go_ret
        exact ⟨by rw [E.out]; rfl, hb1.of_alloc⟩
    · have E : Hid (inB sz 1 3 = false) := by show _ = _; unfold inB; simp; omega
      go_enter Try.func45, Try.ntmps45
      go_wp2_with fail
      refine (HC.out _ (Bel.alloc0 _ _)).mono ?_; rintro e w1 ⟨rfl, hb1⟩
      go_wp2_with fail
      go_ret
      exact ⟨by rw [E.out]; rfl, hb1.of_alloc⟩
theorem hasWorlds_v (l h : Nat) (v : Value) (ar : List Int) (sz : Int) (q : Bool) (w : World) (he : (goodSign ar && inB sz 1 3) = q) (ha : ar.length ≤ 1048576) (hv : SlI l h w v ar) :
    Calls Try.prog 45 #[.agg #[v], .int .i64 sz] w (RetV w (.bool q)) := by subst he; exact hasWorlds_c l h v ar sz w ha hv
end Go.Proofs.Ytlcjcihohclmhaa
end
section
/- Chapter 5, the program: GoodWorld. -/
namespace Go.Proofs.Ytlcjcihohclmhaa
open Go.RowKit

set_option maxRecDepth 100000 in
set_option maxHeartbeats 1000000 in
theorem iGoodWorld_t {l h l' h' : Nat} {v u : Value} {ar : List Int} {sz : Int} {tb : List (List Int)} {w : World} (ha : ar.length ≤ 1048576) (hv : SlI l h w v ar) (hx : short tb) (hu : SlS l' h' w u tb) :
    Calls Try.prog 17 #[.agg #[v], .agg #[.int .i64 sz, u]] w (RetV w (.bool (goodWorld ar sz tb))) := by
  have hv0 := hv
  obtain ⟨ad, cap, rfl, -, -, hr⟩ := hv
  obtain ⟨au, cu, rfl⟩ := hu.form
  by_cases h1 : (goodSign ar && inB sz 1 3) = true
  · have hg : goodSign ar = true := by revert h1; cases goodSign ar <;> simp
    have h1b : inB sz 1 3 = true := by revert h1; cases inB sz 1 3 <;> simp
    have hlen := (sign_len ar hg).2
    have HH := Lib.hid (fun (w' : World) (hb : Bel w w') => hasWorlds_v l h _ ar sz true w' h1 ha (hv0.below hb))
    by_cases h2 : tb.length = ar.length
    · have hn := Lib.hid (ne_len h2)
      have E0 : goodWorld ar sz tb = okTabs ar sz tb tb.length := by unfold goodWorld isWorld; rw [hg, h1b, decide_eq_true h2, Bool.true_and, Bool.true_and, Bool.true_and]
      obtain ⟨z1, z3⟩ : 1 ≤ sz ∧ sz ≤ 3 := by unfold inB at h1b; simpa using h1b
      obtain ⟨Z, rfl⟩ : ∃ Z : Nat, sz = (Z : Int) := ⟨sz.toNat, by omega⟩
      have H2 := Lib.hid h2
      rw [E0]
      have hnn := hn.out
      clear h1 h1b h2 E0 hn hv0
      go_enter Try.func17, Try.ntmps17
      go_wp2_with fail
      refine (HH.out _ (Bel.alloc2 _ _ _)).mono ?_; rintro e W ⟨rfl, hb0⟩
      have hB : Bel w W := (Bel.alloc2 w _ _).step hb0
      have zW : w.heap.size + 1 < W.heap.size := by have := hb0.size; simp at this; omega
      have k0 := hb0.at (b := w.heap.size) (off := 0) (by simp; omega) (show World.cell? _ _ = some (.slice ad ar.length cap) by simp [go_sem])
      have k1 := hb0.at (b := w.heap.size + 1) (off := 0) (by simp) (show World.cell? _ _ = some (.int .i64 (Z : Int)) by simp [go_sem])
      have k2 := hb0.at (b := w.heap.size + 1) (off := 1) (by simp) (show World.cell? _ _ = some (.slice au tb.length cu) by simp [go_sem])
      clear HH hb0
      go_wp2_with fail
      go_loopw [24] (fun j wr => ∃ k : Nat, k ≤ tb.length ∧ j = .int .i64 k ∧ okTabs ar Z tb k = true ∧ Bel W wr) (fun j _ => tb.length - (intOf j).toNat)
      case atStart => exact ⟨0, Nat.zero_le _, rfl, okTabs_zero _ _ _, Bel.rfl' _⟩
      case round =>
        obtain ⟨k, hk, rfl, hall, hb⟩ := hrel
        have q0 := hb.at (b := w.heap.size) (by omega) k0
        have q1 := hb.at zW k1
        have q2 := hb.at zW k2
        by_cases hlt : k < tb.length
        · obtain ⟨b, off, u1, rfl, hbs, c1, s1⟩ := hu.at (hB.step hb) k hlt
          obtain ⟨b2, off2, rfl, hb2l, hc2⟩ := rd hr (hB.step hb) k (by rw [← H2.out]; exact hlt)
          have h03 := ar_nonneg ar hg k
          obtain ⟨A, hA⟩ : ∃ A : Nat, ar.getD k 0 = (A : Int) := ⟨(ar.getD k 0).toNat, by omega⟩
          have hxl := hx.2 k hlt
          have zl1 : w.heap.size + 1 < wr.heap.size := Nat.lt_of_lt_of_le zW hb.size
          have zl0 : w.heap.size < wr.heap.size := by omega
          have zlc : b2 < wr.heap.size := World.block_lt_of_cell? _ ⟨_, _, none⟩ hc2
          have hkl : (k : Int) < ar.length := by rw [← H2.out]; omega
          have EO : okTab Z (ar.getD k 0) (tb.getD k []) = (decide ((tb.getD k []).length = Z ^ A) && (tb.getD k []).all (fun x => inB x 0 ((Z : Int) - 1))) := by rw [hA]; rfl
          have ES := okTabs_succ ar Z tb k
          have EF := fun (h : okTab Z (ar.getD k 0) (tb.getD k []) = false) => okTabs_false (tb := tb) (n := tb.length) h hlt
          rw [EO] at ES EF
          rw [hall, Bool.true_and] at ES
          rw [hA] at hc2 h03
          have hA3 : A ≤ 3 := by omega
          obtain ⟨d1, e1, rfl⟩ := s1.form
          have HL := Lib.hid (fun (w' : World) => tableLength_c Z A w' (by omega) hA3)
          clear hA EO hall h03
          generalize tb.getD k [] = x at *
          by_cases hxz : x.length = Z ^ A
          · have hne := ne_len hxz
            have HA := Lib.hid (fun (q : Bool) (w' : World) (hq : x.all (fun x => inB x 0 ((Z : Int) - 1)) = q) (hb' : Bel wr w') => areElements_v _ _ _ x Z q w' hq hxl (s1.below hb'))
            rw [decide_eq_true hxz, Bool.true_and] at ES EF
            clear s1 hxl hxz
            generalize hyy : Z ^ A = y at *
            clear hyy
            cases hq : x.all (fun x => inB x 0 ((Z : Int) - 1)) with
            | true =>
              have HQ := Lib.hid hq
              have ES2 := Lib.hid (ES.trans hq)
              clear hq ES EF
              go_wp2_with fail
              go_region_held3 (fun w' => Bel wr w' ∧ w'.cell? ⟨w.heap.size + 1, 0, none⟩ = some (.int .i64 (Z : Int)) ∧ w'.cell? ⟨w.heap.size, 0, none⟩ = some (.slice (some ⟨b2, off2, none⟩) ar.length cap) ∧ w'.cell? ⟨b2, off2 + k, none⟩ = some (.int .i64 (A : Int)))
                (first | exact ⟨Bel.drew0 _, q1, q0, hc2⟩ | exact ⟨HB8, p1, p0, pc⟩ | exact ⟨HB8.step hb9, hb9.at pl1 p1, hb9.at pl0 p0, hb9.at plc pc⟩ | fail)
                (first | (go_at_call 47; refine (HA.out _ _ HQ.out HB8).mono ?_; rintro e w9 ⟨rfl, hb9⟩) | (go_at_call 46; refine (HL.out _).mono ?_; rintro e w8 ⟨rfl, hb8⟩; have HB8 := hb8.of_drew; have hz8 := HB8.size; have p1 := HB8.at zl1 q1; have p0 := HB8.at zl0 q0; have pc := HB8.at zlc hc2; have pl1 : w.heap.size + 1 < w8.heap.size := Nat.lt_of_lt_of_le zl1 hz8; have pl0 : w.heap.size < w8.heap.size := Nat.lt_of_lt_of_le zl0 hz8; have plc : b2 < w8.heap.size := Nat.lt_of_lt_of_le zlc hz8) | fail)
              go_wp2_with fail
              go_roundw
              case rel => exact ⟨k+1, by omega, by go_num, ES2.out, (hb.step HB8).step hb9⟩
              case measure => simp [intOf]; omega
            | false =>
              have HQ := Lib.hid hq
              have EF2 := Lib.hid (EF hq)
              clear hq ES EF
              go_wp2_with fail
              go_region_held3 (fun w' => Bel wr w' ∧ w'.cell? ⟨w.heap.size + 1, 0, none⟩ = some (.int .i64 (Z : Int)) ∧ w'.cell? ⟨w.heap.size, 0, none⟩ = some (.slice (some ⟨b2, off2, none⟩) ar.length cap) ∧ w'.cell? ⟨b2, off2 + k, none⟩ = some (.int .i64 (A : Int)))
                (first | exact ⟨Bel.drew0 _, q1, q0, hc2⟩ | exact ⟨HB8, p1, p0, pc⟩ | exact ⟨HB8.step hb9, hb9.at pl1 p1, hb9.at pl0 p0, hb9.at plc pc⟩ | fail)
                (first | (go_at_call 47; refine (HA.out _ _ HQ.out HB8).mono ?_; rintro e w9 ⟨rfl, hb9⟩) | (go_at_call 46; refine (HL.out _).mono ?_; rintro e w8 ⟨rfl, hb8⟩; have HB8 := hb8.of_drew; have hz8 := HB8.size; have p1 := HB8.at zl1 q1; have p0 := HB8.at zl0 q0; have pc := HB8.at zlc hc2; have pl1 : w.heap.size + 1 < w8.heap.size := Nat.lt_of_lt_of_le zl1 hz8; have pl0 : w.heap.size < w8.heap.size := Nat.lt_of_lt_of_le zl0 hz8; have plc : b2 < w8.heap.size := Nat.lt_of_lt_of_le zlc hz8) | fail)
              go_wp2_with fail
              go_ret
              exact ⟨by rw [EF2.out]; rfl, (hB.step hb).step (HB8.step hb9)⟩
          · have hne := ne_len' hxz
            have EF2 := Lib.hid (EF (by rw [decide_eq_false hxz]; rfl))
            clear s1 hxl EF ES
            generalize hyy : Z ^ A = y at *
            clear hyy hxz
            go_wp2_with fail
            first | (go_region_with (first | (go_at_call 46; refine (HL.out _).mono ?_; rintro e w8 ⟨rfl, hb8⟩) | fail)) | fail
            all_goals
              have HB8 := hb8.of_drew
              go_wp2_with fail
              go_ret
              exact ⟨by rw [EF2.out]; rfl, (hB.step hb).step HB8⟩
        · obtain rfl : k = tb.length := by omega
          have HALL := Lib.hid hall
          clear hall hlt
          go_wp2_with fail
          go_ret
          exact ⟨by rw [HALL.out]; rfl, hB.step hb⟩
    · have E0 : Hid (goodWorld ar sz tb = false) := by show _ = _; unfold goodWorld isWorld; rw [decide_eq_false h2]; simp
      have hnn := ne_len' h2
      clear h1 h1b h2 hv0
      go_enter Try.func17, Try.ntmps17
      go_wp2_with fail
      refine (HH.out _ (Bel.alloc2 _ _ _)).mono ?_; rintro e W ⟨rfl, hb0⟩
      have k0 := hb0.at (b := w.heap.size) (off := 0) (by simp; omega) (show World.cell? _ _ = some (.slice ad ar.length cap) by simp [go_sem])
      have k2 := hb0.at (b := w.heap.size + 1) (off := 1) (by simp) (show World.cell? _ _ = some (.slice au tb.length cu) by simp [go_sem])
      go_wp2_with fail
      go_ret
      exact ⟨by rw [E0.out]; rfl, (Bel.alloc2 w _ _).step hb0⟩
  · have h1' : (goodSign ar && inB sz 1 3) = false := by simpa using h1
    have HH := Lib.hid (fun (w' : World) (hb : Bel w w') => hasWorlds_v l h _ ar sz false w' h1' ha (hv0.below hb))
    have E0 : Hid (goodWorld ar sz tb = false) := by show _ = _; unfold goodWorld isWorld; rw [← Bool.and_assoc, h1']; rfl
    clear h1 h1' hv0
    go_enter Try.func17, Try.ntmps17
    go_wp2_with fail
    refine (HH.out _ (Bel.alloc2 _ _ _)).mono ?_; rintro e W ⟨rfl, hb0⟩
    go_wp2_with fail
    go_ret
    exact ⟨by rw [E0.out]; rfl, (Bel.alloc2 w _ _).step hb0⟩
theorem iGoodWorld_v {l h l' h' : Nat} {v u : Value} {ar : List Int} {sz : Int} {tb : List (List Int)} {w : World} {q : Bool} (he : goodWorld ar sz tb = q) (ha : ar.length ≤ 1048576) (hv : SlI l h w v ar) (hx : short tb) (hu : SlS l' h' w u tb) :
    Calls Try.prog 17 #[.agg #[v], .agg #[.int .i64 sz, u]] w (RetV w (.bool q)) := by subst he; exact iGoodWorld_t ha hv hx hu
end Go.Proofs.Ytlcjcihohclmhaa
end
section
/- Chapter 5, the program: EvalIn. -/
namespace Go.Proofs.Ytlcjcihohclmhaa
open Go.RowKit

set_option maxRecDepth 100000 in
set_option maxHeartbeats 400000 in
theorem goodEnv_c (l h : Nat) (u v : Value) (sz : Int) (env : List Int) (w : World) (_ : 1 ≤ sz) (_ : sz ≤ 3) (hx : env.length ≤ 1048576) (hv : SlI l h w v env) :
    Calls Try.prog 34 #[.agg #[.int .i64 sz, u], v] w (RetV w (.bool (okEnv sz env))) := by
  unfold okEnv
  have hv0 := hv
  obtain ⟨ad, cap, rfl⟩ := hv.form
  by_cases h12 : env.length = 12
  · rw [decide_eq_true h12, Bool.true_and]
    have he : ((env.length : Int) == 12) = true := by rw [h12]; rfl
    cases hq : env.all (fun x => inB x 0 (sz - 1)) with
    | false =>
      have HA := Lib.hid (fun (w' : World) (hb : Bel w w') => areElements_v _ _ _ env sz false w' hq hx (hv0.below hb))
      clear hq hv hv0 h12
      go_enter Try.func34, Try.ntmps34
      go_wp2_with fail
      refine (HA.out _ (Bel.alloc0 _ _)).mono ?_; rintro e w1 ⟨rfl, hb1⟩
      go_wp2_with fail
      go_ret
      exact ⟨rfl, hb1.of_alloc⟩
    | true =>
      have HA := Lib.hid (fun (w' : World) (hb : Bel w w') => areElements_v _ _ _ env sz true w' hq hx (hv0.below hb))
      clear hq hv hv0 h12
      go_enter Try.func34, Try.ntmps34
      go_wp2_with fail
      refine (HA.out _ (Bel.alloc0 _ _)).mono ?_; rintro e w1 ⟨rfl, hb1⟩
      go_wp2_with fail
      go_ret
      exact ⟨rfl, hb1.of_alloc⟩
  · rw [decide_eq_false h12, Bool.false_and]
    have he : ((env.length : Int) == 12) = false := beq_eq_false_iff_ne.2 (by omega)
    clear h12
    go_enter Try.func34, Try.ntmps34
    go_wp2_with fail
    go_ret
    exact ⟨rfl, Bel.alloc0 _ _⟩
theorem goodEnv_v (l h : Nat) (u v : Value) (sz : Int) (env : List Int) (q : Bool) (w : World) (he : okEnv sz env = q) (h1 : 1 ≤ sz) (h3 : sz ≤ 3) (hx : env.length ≤ 1048576) (hv : SlI l h w v env) :
    Calls Try.prog 34 #[.agg #[.int .i64 sz, u], v] w (RetV w (.bool q)) := by subst he; exact goodEnv_c l h u v sz env w h1 h3 hx hv

end Go.Proofs.Ytlcjcihohclmhaa
end
section
/- Chapter 5, the program: HoldsAt. -/
namespace Go.Proofs.Ytlcjcihohclmhaa
open Go.RowKit

set_option maxRecDepth 100000 in
set_option maxHeartbeats 2000000 in
theorem litHolds_c (l h l' h' l2 h2 l3 h3 : Nat) (v u u1 u2 ve : Value) (ar : List Int) (sz : Int) (tb : List (List Int)) (p : Bool) (xl xr : List Int) (env : List Int) (w : World) (hg : goodSign ar = true) (hw : isWorld ar sz tb = true) (he : okEnv sz env = true) (o1 : okTerm ar xl = true) (o2 : okTerm ar xr = true)
    (hv : SlI l h w v ar) (hu : SlS l' h' w u tb) (s1 : SlI l2 h2 w u1 xl) (s2 : SlI l2 h2 w u2 xr) (hve : SlI l3 h3 w ve env) :
    Calls Try.prog 35 #[.agg #[v], .agg #[.int .i64 sz, u], .agg #[.bool p, u1, u2], ve] w (RetV w (.bool (litH ar sz tb env (p, xl, xr)))) := by
  have HB : Bel w (((w.alloc (.cells #[v] 26)).alloc (.cells #[.int .i64 sz, u] 29)).alloc (.cells #[.bool p, u1, u2] 60)) := Bel.alloc3 _ _ _ _
  have HC1 := Lib.hid (fun (w' : World) (hq : Bel w w') => valueIn_c l h l' h' l2 h2 l3 h3 v u u1 ve ar sz tb xl env w' hg hw he o1 (hv.below hq) (hu.below hq) (s1.below hq) (hve.below hq))
  have HC2 := Lib.hid (fun (w' : World) (hq : Bel w w') => valueIn_c l h l' h' l2 h2 l3 h3 v u u2 ve ar sz tb xr env w' hg hw he o2 (hv.below hq) (hu.below hq) (s2.below hq) (hve.below hq))
  have KX : Hid (∀ w', Bel (((w.alloc (.cells #[v] 26)).alloc (.cells #[.int .i64 sz, u] 29)).alloc (.cells #[.bool p, u1, u2] 60)) w' → w'.cell? ⟨w.heap.size, 0, none⟩ = some v ∧ w'.cell? ⟨w.heap.size + 1, 0, none⟩ = some (.int .i64 sz) ∧ w'.cell? ⟨w.heap.size + 1, 1, none⟩ = some u ∧ w'.cell? ⟨w.heap.size + 1 + 1, 0, none⟩ = some (.bool p) ∧ w'.cell? ⟨w.heap.size + 1 + 1, 1, none⟩ = some u1 ∧ w'.cell? ⟨w.heap.size + 1 + 1, 2, none⟩ = some u2) := fun w' hq =>
    ⟨hq.at (by simp; omega) (by simp [go_sem]), hq.at (by simp) (by simp [go_sem]), hq.at (by simp) (by simp [go_sem]), hq.at (by simp) (by simp [go_sem]), hq.at (by simp) (by simp [go_sem]), hq.at (by simp) (by simp [go_sem])⟩
  clear hv hu s1 s2 hve hg hw he o1 o2
  unfold litH
  generalize evT ar sz tb env xl = e1 at *
  generalize evT ar sz tb env xr = e2 at *
  cases p with
  | false =>
    cases hq : ((e1 : Int) == e2)
    all_goals
      go_enter Try.func35, Try.ntmps35
      go_wp2_with fail
      go_region_held3 (fun w' => Bel w w' ∧ w'.cell? ⟨w.heap.size, 0, none⟩ = some v ∧ w'.cell? ⟨w.heap.size + 1, 0, none⟩ = some (.int .i64 sz) ∧ w'.cell? ⟨w.heap.size + 1, 1, none⟩ = some u ∧ w'.cell? ⟨w.heap.size + 1 + 1, 0, none⟩ = some (.bool false) ∧ w'.cell? ⟨w.heap.size + 1 + 1, 1, none⟩ = some u1 ∧ w'.cell? ⟨w.heap.size + 1 + 1, 2, none⟩ = some u2)
        (first | exact ⟨HB.drew, KX.out _ (Bel.drew0 _)⟩ | exact ⟨HB.step B8, KX.out _ B8⟩ | exact ⟨HB.step B9, KX.out _ B9⟩ | fail)
        (first | (go_at_call 66; refine (HC2.out _ (HB.step B8)).mono ?_; rintro e w9 ⟨rfl, hb9⟩; have B9 := B8.step hb9) | (go_at_call 66; refine (HC1.out _ HB.drew).mono ?_; rintro e w8 ⟨rfl, hb8⟩; have B8 := (Bel.drew0 _).step hb8) | fail)
      go_wp2_with fail
      go_ret
      exact ⟨rfl, HB.step B9⟩
  | true =>
    cases hq : ((e1 : Int) == e2)
    all_goals
      go_enter Try.func35, Try.ntmps35
      go_wp2_with fail
      go_region_held3 (fun w' => Bel w w' ∧ w'.cell? ⟨w.heap.size, 0, none⟩ = some v ∧ w'.cell? ⟨w.heap.size + 1, 0, none⟩ = some (.int .i64 sz) ∧ w'.cell? ⟨w.heap.size + 1, 1, none⟩ = some u ∧ w'.cell? ⟨w.heap.size + 1 + 1, 0, none⟩ = some (.bool true) ∧ w'.cell? ⟨w.heap.size + 1 + 1, 1, none⟩ = some u1 ∧ w'.cell? ⟨w.heap.size + 1 + 1, 2, none⟩ = some u2)
        (first | exact ⟨HB.drew, KX.out _ (Bel.drew0 _)⟩ | exact ⟨HB.step B8, KX.out _ B8⟩ | exact ⟨HB.step B9, KX.out _ B9⟩ | fail)
        (first | (go_at_call 66; refine (HC2.out _ (HB.step B8)).mono ?_; rintro e w9 ⟨rfl, hb9⟩; have B9 := B8.step hb9) | (go_at_call 66; refine (HC1.out _ HB.drew).mono ?_; rintro e w8 ⟨rfl, hb8⟩; have B8 := (Bel.drew0 _).step hb8) | fail)
      go_wp2_with fail
      go_ret
      exact ⟨rfl, HB.step B9⟩
end Go.Proofs.Ytlcjcihohclmhaa
end
section
/- Chapter 5, the program: the test of a literal, which remembers. -/
namespace Go.Proofs.Ytlcjcihohclmhaa
open Go.RowKit

theorem pw_le12 {Z k : Nat} (h1 : Z ≤ 3) (h2 : k ≤ 12) : Z ^ k ≤ 531441 :=
  Nat.le_trans (Nat.pow_le_pow_left h1 _) (Nat.pow_le_pow_right (n := 3) (by omega) h2)
set_option maxRecDepth 100000 in
set_option maxHeartbeats 400000 in
theorem tableLength_g (Z A : Nat) (w : World) (h2 : Z ≤ 3) (h3 : A ≤ 12) :
    Calls Try.prog 46 #[.int .i64 (A : Int), .int .i64 (Z : Int)] w (RetV w (.int .i64 ((Z ^ A : Nat) : Int))) := by
  go_enter Try.func46, Try.ntmps46
  go_wp2_with fail
  go_loop [5, 7] (fun n a => ∃ k : Nat, k ≤ A ∧ a = .int .i64 k ∧ n = .int .i64 ((Z ^ k : Nat) : Int)) (fun _ a => A - (intOf a).toNat)
  case atStart => exact ⟨0, Nat.zero_le _, rfl, rfl⟩
  case round =>
    obtain ⟨k, hk, rfl, rfl⟩ := hrel
    by_cases hlt : k < A
    · have E := Lib.hid (pw_succ Z k)
      have hb := pw_le12 h2 (show k + 1 ≤ 12 by omega)
      have hw : -9223372036854775808 ≤ ((Z ^ k : Nat) : Int) * (Z : Int) ∧ ((Z ^ k : Nat) : Int) * (Z : Int) ≤ 9223372036854775807 := by rw [E.out]; omega
      have hw1 := IntWalk.i64_in (((Z ^ k : Nat) : Int) * (Z : Int)) hw
      clear hw hb
      generalize ((Z ^ k : Nat) : Int) = y at *
      go_wp2_with fail
      go_round
      case rel => exact ⟨k+1, by omega, by go_num, by rw [← E.out]⟩
      case measure => simp [intOf]; omega
    · obtain rfl : k = A := by omega
      generalize ((Z ^ k : Nat) : Int) = y at *
      go_wp2_with fail
      go_ret
      exact ⟨rfl, Bel.rfl' _⟩

/-- The test of the literal x at these blocks. -/
structure Tst (ar : List Int) (sz : Int) (tb : List (List Int)) (L H lo hi : Nat) (x : Lt) (p7 p4 p8 p3 p5 bk : Nat) (a7 : Option Addr) (c7 : Nat) (v u u1 u2 : Value) (ks : List Int) (w : World) : Prop where
  b3 : lo ≤ p3 ∧ p3 < p7
  b4 : lo ≤ p4 ∧ p4 < p7
  b5 : lo ≤ p5 ∧ p5 < p7
  b7 : lo ≤ p7 ∧ p7 < bk
  b8 : bk < p8 ∧ p8 < hi
  old : H ≤ lo
  cur : hi ≤ w.heap.size
  s7 : w.cell? ⟨p7, 0, none⟩ = some (.slice a7 (varsC [x]).length c7)
  v7 : SlI lo p7 w (.slice a7 (varsC [x]).length c7) (natsI (varsC [x]))
  s40 : w.cell? ⟨p4, 0, none⟩ = some (.int .i64 sz)
  s41 : w.cell? ⟨p4, 1, none⟩ = some u
  v4 : SlS L H w u tb
  s3 : w.cell? ⟨p3, 0, none⟩ = some v
  v3 : SlI L H w v ar
  s50 : w.cell? ⟨p5, 0, none⟩ = some (.bool x.1)
  s51 : w.cell? ⟨p5, 1, none⟩ = some u1
  s52 : w.cell? ⟨p5, 2, none⟩ = some u2
  v51 : SlI L H w u1 x.2.1
  v52 : SlI L H w u2 x.2.2
  s8 : w.cell? ⟨p8, 0, none⟩ = some (.slice (some ⟨bk, 0, none⟩) ks.length ks.length)
  v8 : OwnI bk (bk + 1) w (.slice (some ⟨bk, 0, none⟩) ks.length ks.length) ks
  kn : Known ar sz tb x ks
theorem Tst.chg {ar : List Int} {sz : Int} {tb : List (List Int)} {L H lo hi : Nat} {x : Lt} {p7 p4 p8 p3 p5 bk : Nat} {a7 : Option Addr} {c7 : Nat} {v u u1 u2 : Value} {ks : List Int} {w w' : World} {l' h' : Nat}
    (t : Tst ar sz tb L H lo hi x p7 p4 p8 p3 p5 bk a7 c7 v u u1 u2 ks w) (k : Chg l' h' w w') (d1 : h' ≤ lo ∨ hi ≤ l') (d2 : h' ≤ L ∨ H ≤ l') : Tst ar sz tb L H lo hi x p7 p4 p8 p3 p5 bk a7 c7 v u u1 u2 ks w' := by
  obtain ⟨b3, b4, b5, b7, b8, old, cur, s7, v7, s40, s41, v4, s3, v3, s50, s51, s52, v51, v52, s8, v8, kn⟩ := t
  have hz := k.size
  exact ⟨b3, b4, b5, b7, b8, old, by omega, k.cell (by omega) (by omega) s7, v7.chg k (by omega), k.cell (by omega) (by omega) s40, k.cell (by omega) (by omega) s41, v4.chg k (by omega), k.cell (by omega) (by omega) s3, v3.chg k (by omega),
    k.cell (by omega) (by omega) s50, k.cell (by omega) (by omega) s51, k.cell (by omega) (by omega) s52, v51.chg k (by omega), v52.chg k (by omega), k.cell (by omega) (by omega) s8, v8.chg k (by omega), kn⟩
/-- What is remembered has turned, the rest not. -/
theorem Tst.put {ar : List Int} {sz : Int} {tb : List (List Int)} {L H lo hi : Nat} {x : Lt} {p7 p4 p8 p3 p5 bk : Nat} {a7 : Option Addr} {c7 : Nat} {v u u1 u2 : Value} {ks ks' : List Int} {w w' : World}
    (t : Tst ar sz tb L H lo hi x p7 p4 p8 p3 p5 bk a7 c7 v u u1 u2 ks w) (k : Chg bk (bk+1) w w') (hl : ks'.length = ks.length) (ho : OwnI bk (bk + 1) w' (.slice (some ⟨bk, 0, none⟩) ks.length ks.length) ks') (hk : Known ar sz tb x ks') : Tst ar sz tb L H lo hi x p7 p4 p8 p3 p5 bk a7 c7 v u u1 u2 ks' w' := by
  obtain ⟨b3, b4, b5, b7, b8, old, cur, s7, v7, s40, s41, v4, s3, v3, s50, s51, s52, v51, v52, s8, v8, kn⟩ := t
  have hz := k.size
  exact ⟨b3, b4, b5, b7, b8, old, by omega, k.cell (by omega) (by omega) s7, v7.chg k (by omega), k.cell (by omega) (by omega) s40, k.cell (by omega) (by omega) s41, v4.chg k (by omega), k.cell (by omega) (by omega) s3, v3.chg k (by omega),
    k.cell (by omega) (by omega) s50, k.cell (by omega) (by omega) s51, k.cell (by omega) (by omega) s52, v51.chg k (by omega), v52.chg k (by omega), by rw [hl]; exact k.cell (by omega) (by omega) s8, by rw [hl]; exact ho, hk⟩
end Go.Proofs.Ytlcjcihohclmhaa
end
section
/- Chapter 5, the program: a literal's test, called. -/
namespace Go.Proofs.Ytlcjcihohclmhaa
open Go.RowKit

def RetTst (ar : List Int) (sz : Int) (tb : List (List Int)) (L H lo hi : Nat) (x : Lt) (p7 p4 p8 p3 p5 bk : Nat) (a7 : Option Addr) (c7 : Nat) (v u u1 u2 : Value) (w : World) (b : Bool) (e : Ending) (w' : World) : Prop :=
  e = .returned (.bool b) ∧ ∃ ks, Tst ar sz tb L H lo hi x p7 p4 p8 p3 p5 bk a7 c7 v u u1 u2 ks w' ∧ Chg bk (bk+1) w w'

theorem idx_take {sz : Int} (vs : List Nat) (e : List Int) (q : Nat) (hq : q < vs.length) : noOf sz ((vs.map fun v => e.getD v 0).take (q+1)) = noOf sz ((vs.map fun v => e.getD v 0).take q) * sz + e.getD (vs.getD q 0) 0 := by
  rw [noOf_tk _ _ (by simpa using hq)]
  congr 1
  simp [List.getD, hq]

set_option maxRecDepth 100000 in
set_option maxHeartbeats 2000000 in
theorem litTest1_c {ar : List Int} {sz : Int} {tb : List (List Int)} {L H lo hi : Nat} {x : Lt} {p7 p4 p8 p3 p5 bk : Nat} {a7 : Option Addr} {c7 : Nat} {v u u1 u2 : Value} {ks : List Int} {w : World}
    (t : Tst ar sz tb L H lo hi x p7 p4 p8 p3 p5 bk a7 c7 v u u1 u2 ks w) (hg : goodSign ar = true) (hw : isWorld ar sz tb = true) (o1 : okTerm ar x.2.1 = true) (o2 : okTerm ar x.2.2 = true)
    (l3 h3 : Nat) (ve : Value) (env : List Int) (he : okEnv sz env = true) (hve : SlI l3 h3 w ve env) (hd : h3 ≤ bk ∨ bk + 1 ≤ l3) :
    Calls Try.prog 75 #[ve, .pointer (some ⟨p7, 0, none⟩), .pointer (some ⟨p4, 0, none⟩), .pointer (some ⟨p8, 0, none⟩), .pointer (some ⟨p3, 0, none⟩), .pointer (some ⟨p5, 0, none⟩)] w
      (RetTst ar sz tb L H lo hi x p7 p4 p8 p3 p5 bk a7 c7 v u u1 u2 w (litH ar sz tb env x)) := by
  obtain ⟨z1, z3, _, _⟩ := isWorld_iff.1 hw
  have hel := (okEnv_iff.1 he).1
  have hNB := idx_bd z1 (varsC_lt (c := [x])) he
  have hkl := t.kn.1
  have hvl : (varsC [x]).length ≤ 12 := varsTo_len _ _
  have hP := pw_le12 (Z := sz.toNat) (by omega) hvl
  have HK := Lib.hid (t.kn.2 env he)
  have HPUT : Hid (∀ y : Int, y = (if litH ar sz tb env x then 2 else 1) → Known ar sz tb x (ks.set (idxW sz (varsC [x]) env).toNat y)) := fun y hy => t.kn.put z1 o1 o2 he y hy
  have HT := Lib.hid t
  have HBD : Hid (∀ q, q ≤ (varsC [x]).length → 0 ≤ noOf sz (((varsC [x]).map fun v => env.getD v 0).take q) ∧ noOf sz (((varsC [x]).map fun v => env.getD v 0).take q) ≤ 531440) := fun q hq => by
    have h := noOf_bd z1 (((varsC [x]).map fun v => env.getD v 0).take q) (fun y hy => by
      obtain ⟨j, hj, rfl⟩ := List.mem_map.1 (List.mem_of_mem_take hy)
      exact (okEnv_iff.1 he).2 j (varsC_lt j hj))
    have h2 : longW sz (((varsC [x]).map fun v => env.getD v 0).take q).length ≤ 531441 := by
      unfold longW
      rw [Int.toNat_natCast]
      exact pw_le12 (by omega) (by rw [List.length_take]; omega)
    omega
  have HEV : Hid (∀ q, q < (varsC [x]).length → (varsC [x]).getD q 0 < 12 ∧ 0 ≤ env.getD ((varsC [x]).getD q 0) 0 ∧ env.getD ((varsC [x]).getD q 0) 0 ≤ sz - 1) := fun q hq => by
    have h := varsC_lt (c := [x]) ((varsC [x]).getD q 0) (mem_gd _ 0 q hq)
    exact ⟨h, (okEnv_iff.1 he).2 _ h⟩
  have HTK : Hid (∀ q, q < (varsC [x]).length → noOf sz (((varsC [x]).map fun v => env.getD v 0).take (q+1)) = noOf sz (((varsC [x]).map fun v => env.getD v 0).take q) * sz + env.getD ((varsC [x]).getD q 0) 0) := fun q hq => idx_take _ _ q hq
  have HIX : Hid (noOf sz (((varsC [x]).map fun v => env.getD v 0).take (varsC [x]).length) = idxW sz (varsC [x]) env) := by
    show _ = _
    unfold idxW; rw [List.take_of_length_le (by simp)]
  have HNT : Hid (∀ q, q < (varsC [x]).length → (natsI (varsC [x])).getD q 0 = (((varsC [x]).getD q 0 : Nat) : Int)) := fun q hq => by simp [natsI, List.getD, hq]
  have HLIT := Lib.hid (fun (w' : World) (s3 : SlI L H w' v ar) (s4 : SlS L H w' u tb) (s51 : SlI L H w' u1 x.2.1) (s52 : SlI L H w' u2 x.2.2) (se : SlI l3 h3 w' ve env) => litHolds_c L H L H L H l3 h3 v u u1 u2 ve ar sz tb x.1 x.2.1 x.2.2 env w' hg hw he o1 o2 s3 s4 s51 s52 se)
  have HLE : Hid (litH ar sz tb env (x.1, x.2.1, x.2.2) = litH ar sz tb env x) := rfl
  rw [HLE.out] at HLIT
  obtain ⟨b3, b4, b5, b7, b8, old, cur, s7, v7, s40, s41, v4, s3, v3, s50, s51, s52, v51, v52, s8, v8, -⟩ := t
  have HVE := Lib.hid hve
  obtain ⟨a7v, c7v, e7, -, -, hr7⟩ := v7
  have hnl : (natsI (varsC [x])).length = (varsC [x]).length := by simp [natsI]
  rw [hnl] at e7
  have HNL := Lib.hid hnl
  obtain ⟨ae, ce, rfl, -, -, hre⟩ := hve
  rw [hel] at HLIT HVE ⊢
  simp only [Value.slice.injEq] at e7
  obtain ⟨rfl, -, rfl⟩ := e7
  obtain ⟨N, hN⟩ : ∃ N : Nat, idxW sz (varsC [x]) env = (N : Int) := ⟨(idxW sz (varsC [x]) env).toNat, by omega⟩
  rw [hN, Int.toNat_natCast] at HK HPUT
  rw [hN] at HIX hNB
  have hNl : N < ks.length := by omega
  have hks : ks.length ≤ 531441 := by omega
  clear hN hNB hkl hP he hw hg o1 o2 hnl
  generalize hn : (varsC [x]).length = n at *
  generalize litH ar sz tb env x = B at *
  generalize hvs : varsC [x] = vs at *
  go_enter Try.func75, Try.ntmps75
  go_wp2_with fail
  go_loopw [8, 13] (fun no i wr => ∃ q : Nat, q ≤ n ∧ i = .int .i64 q ∧ no = .int .i64 (noOf sz ((vs.map fun v => env.getD v 0).take q)) ∧ Bel w wr) (fun _ i _ => n - (intOf i).toNat)
  case atStart => exact ⟨0, Nat.zero_le _, rfl, rfl, Bel.rfl' _⟩
  case round =>
    obtain ⟨q, hq, rfl, rfl, hb⟩ := hrel
    have hn0 := HBD.out q hq
    by_cases hqn : q < n
    · obtain ⟨hv12, hx0, hx1⟩ := HEV.out q hqn
      have HS := Lib.hid (HTK.out q hqn)
      obtain ⟨b7', off7, rfl, hbl7, hc7⟩ := rd hr7 hb q (by have := HNL.out; omega)
      rw [HNT.out q hqn] at hc7
      obtain ⟨be, offe, rfl, hble, hce⟩ := rd hre hb (vs.getD q 0) (by omega)
      have r40 := hb.at (by omega) s40
      have hmul : noOf sz ((vs.map fun v => env.getD v 0).take q) * sz ≤ noOf sz ((vs.map fun v => env.getD v 0).take q) * 3 := Int.mul_le_mul_of_nonneg_left z3 hn0.1
      have hmul0 := Int.mul_nonneg hn0.1 (show 0 ≤ sz by omega)
      generalize vs.getD q 0 = m at *
      generalize env.getD m 0 = y at *
      generalize noOf sz ((vs.map fun v => env.getD v 0).take q) = no at *
      have i1 := IntWalk.i64_in (no * sz) (by omega)
      have i2 := IntWalk.i64_in (no * sz + y) (by omega)
      have hm12 : (m : Int) < 12 := by omega
      clear hmul hmul0 HT HPUT HBD HEV HTK HIX HNT HLIT HVE HK
      go_wp2_with fail
      go_region_held3 (fun w' => Bel wr w' ∧ w'.cell? ⟨p4, 0, none⟩ = some (.int .i64 sz) ∧ w'.cell? ⟨be, offe + m, none⟩ = some (.int .i64 y))
        (first | exact ⟨Bel.drew0 _, r40, hce⟩ | fail)
        (first | fail)
      go_wp2_with fail
      go_roundw
      case rel => exact ⟨q+1, by omega, by go_num, by rw [HS.out], hb.step (Bel.drew0 _)⟩
      case measure => simp [intOf]; omega
    · obtain rfl : q = n := by omega
      rw [HIX.out] at hn0 ⊢
      have hT := Lib.hid (HT.out.chg (Chg.of_bel (lo := 0) (hi := 0) hb) (.inl (Nat.zero_le _)) (.inl (Nat.zero_le _)))
      have HP2 : Hid (∀ (w' : World) (y : Int), Chg bk (bk+1) wr w' → (y = if B then 2 else 1) → OwnI bk (bk + 1) w' (.slice (some ⟨bk, 0, none⟩) ks.length ks.length) (ks.set N y) → Tst ar sz tb L H lo hi x p7 p4 p8 p3 p5 bk a7 c7 v u u1 u2 (ks.set N y) w') := fun w' y k hy ho =>
        hT.out.put k (by simp) ho (HPUT.out y hy)
      obtain ⟨bb, oo, hbb, -, -, hcN, hfN, hst⟩ := (v8.below hb).at N hNl
      simp only [Option.some.injEq, Addr.mk.injEq, and_true] at hbb
      obtain ⟨rfl, rfl⟩ := hbb
      rw [Nat.zero_add] at hcN hfN hst
      have hNk : (N : Int) < ks.length := by omega
      have r8 := hb.at (by omega) s8
      have hSE := Lib.hid (HVE.out.below hb)
      have hLIT := Lib.hid (fun (w' : World) (k : Chg bk (bk+1) wr w') => HLIT.out w' ((v3.below hb).chg k (by omega)) ((v4.below hb).chg k (by omega)) ((v51.below hb).chg k (by omega)) ((v52.below hb).chg k (by omega)) (hSE.out.chg k hd))
      have r3 := hb.at (by omega) s3
      have r40 := hb.at (by omega) s40
      have r41 := hb.at (by omega) s41
      have r50 := hb.at (by omega) s50
      have r51 := hb.at (by omega) s51
      have r52 := hb.at (by omega) s52
      have hz := hb.size
      have hCH := Lib.hid (Chg.of_bel (lo := bk) (hi := bk+1) hb)
      clear HT HPUT HBD HEV HTK HIX HNT HLIT HVE hr7 hre s7 s40 s41 v4 s3 v3 s50 s51 s52 v51 v52 s8 v8 HNL
      generalize ks.getD N 0 = k0 at *
      rcases HK.out with rfl | hk0
      · have k3 := Chg.set (lo := bk) (hi := bk+1) wr (p := ⟨bk, N, none⟩) (Nat.le_refl _) (Nat.lt_succ_self _) (.int .i64 1)
        have g3 := k3.cell (by omega) (by omega) r3
        have g40 := k3.cell (by omega) (by omega) r40
        have g41 := k3.cell (by omega) (by omega) r41
        have g50 := k3.cell (by omega) (by omega) r50
        have g51 := k3.cell (by omega) (by omega) r51
        have g52 := k3.cell (by omega) (by omega) r52
        have g8 := k3.cell (by omega) (by omega) r8
        have gN := World.cell?_setCell_same wr ⟨bk, N, none⟩ (.int .i64 1) hcN
        have gf : (wr.setCell ⟨bk, N, none⟩ (.int .i64 1)).frozen? ⟨bk, N, none⟩ = false := by rw [World.frozen?_setCell]; exact hfN
        have HL := Lib.hid (hLIT.out _ k3)
        have HO := Lib.hid (hst 1)
        have hz3 := k3.size
        have K3 := Lib.hid k3
        clear hLIT hst k3
        go_wp2_with fail
        refine HL.out.mono ?_; rintro e w4 ⟨rfl, hb4⟩
        have d8 := hb4.at (by omega) g8
        have dN := hb4.at (World.block_lt_of_cell? _ ⟨_, _, none⟩ gN) gN
        have df := (hb4.frozen (p := ⟨bk, N, none⟩) (World.block_lt_of_cell? _ ⟨_, _, none⟩ gN)).trans gf
        have HO4 := HO.out.below hb4
        have K4 := K3.out.trans (Chg.of_bel hb4)
        cases B with
        | false =>
          have hT4 := HP2.out w4 1 K4 rfl HO4
          go_wp2_with fail
          go_ret
          exact ⟨rfl, _, hT4, hCH.out.trans K4⟩
        | true =>
          obtain ⟨b5', o5', e5, -, -, -, -, hst5⟩ := HO4.at N (by simpa using hNl)
          simp only [Option.some.injEq, Addr.mk.injEq, and_true] at e5
          obtain ⟨rfl, rfl⟩ := e5
          rw [Nat.zero_add] at hst5
          have HO5 := hst5 2
          rw [List.set_set] at HO5
          have k5 := Chg.set (lo := bk) (hi := bk+1) w4 (p := ⟨bk, N, none⟩) (Nat.le_refl _) (Nat.lt_succ_self _) (.int .i64 2)
          have hz4 := hb4.size
          have f8 := k5.cell (by omega) (by omega) d8
          have fN := World.cell?_setCell_same w4 ⟨bk, N, none⟩ (.int .i64 2) dN
          have hT5 := HP2.out _ 2 (K4.trans k5) rfl HO5
          have K5 := hCH.out.trans (K4.trans k5)
          go_wp2_with fail
          go_ret
          exact ⟨rfl, _, hT5, K5⟩
      · cases B with
        | false =>
          obtain rfl : k0 = 1 := hk0
          go_wp2_with fail
          go_ret
          exact ⟨rfl, _, hT.out, hCH.out⟩
        | true =>
          obtain rfl : k0 = 2 := hk0
          go_wp2_with fail
          go_ret
          exact ⟨rfl, _, hT.out, hCH.out⟩
end Go.Proofs.Ytlcjcihohclmhaa
end
section
/- Chapter 5, the program: a literal's test, made. -/
namespace Go.Proofs.Ytlcjcihohclmhaa
open Go.RowKit

/-- The function that tests. -/
def tstF (p7 p4 p8 p3 p5 : Nat) : Value := .func (.func 75) #[] #[.pointer (some ⟨p7, 0, none⟩), .pointer (some ⟨p4, 0, none⟩), .pointer (some ⟨p8, 0, none⟩), .pointer (some ⟨p3, 0, none⟩), .pointer (some ⟨p5, 0, none⟩)]
def RetT1 (ar : List Int) (sz : Int) (tb : List (List Int)) (L H : Nat) (x : Lt) (v u u1 u2 : Value) (w : World) (e : Ending) (w' : World) : Prop :=
  ∃ (p7 p4 p8 p3 p5 bk : Nat) (a7 : Option Addr) (c7 : Nat) (ks : List Int), e = .returned (tstF p7 p4 p8 p3 p5) ∧ Tst ar sz tb L H w.heap.size w'.heap.size x p7 p4 p8 p3 p5 bk a7 c7 v u u1 u2 ks w' ∧ Bel w w'

/-- One literal in a block of its own. -/
theorem slc_one {w : World} {x : Lt} {u1 u2 : Value} {t : TypeId} (g : Nat) (hg : g = w.heap.size) (h1 : SlI 0 w.heap.size w u1 x.2.1) (h2 : SlI 0 w.heap.size w u2 x.2.2) :
    SlC 0 (w.alloc (.cells #[.bool x.1, u1, u2] t)).heap.size (w.alloc (.cells #[.bool x.1, u1, u2] t)) (.slice (some ⟨g, 0, none⟩) 1 1) [x] := by
  subst hg
  have hb := Bel.alloc0 w (.cells #[.bool x.1, u1, u2] t)
  have hc : ∀ i v, (#[Value.bool x.1, u1, u2])[i]? = some v → (w.alloc (.cells #[.bool x.1, u1, u2] t)).cell? ⟨w.heap.size, i, none⟩ = some v := fun i v h => by rw [World.cell?_alloc_new w]; exact h
  refine ⟨_, 1, rfl, Nat.le_refl _, ⟨by unfold maxLen; omega, fun h => by simp at h⟩, fun _ => ⟨w.heap.size, 0, rfl, Nat.zero_le _, by simp, fun j hj => ?_⟩⟩
  match j, hj with
  | 0, _ => exact ⟨u1, u2, hc 0 _ rfl, hc 1 _ rfl, hc 2 _ rfl, (h1.below hb).mono (Nat.le_refl _) hb.size, (h2.below hb).mono (Nat.le_refl _) hb.size⟩

set_option maxRecDepth 100000 in
set_option maxHeartbeats 2000000 in
theorem litTest_c (ar : List Int) (Z : Nat) (tb : List (List Int)) (L H : Nat) (x : Lt) (v u u1 u2 : Value) (w : World) (z1 : 1 ≤ Z) (z3 : Z ≤ 3) (hH : H ≤ w.heap.size)
    (o1 : okTerm ar x.2.1 = true) (o2 : okTerm ar x.2.2 = true)
    (hv : SlI L H w v ar) (hu : SlS L H w u tb) (s1 : SlI L H w u1 x.2.1) (s2 : SlI L H w u2 x.2.2) :
    Calls Try.prog 56 #[.agg #[v], .agg #[.int .i64 (Z : Int), u], .agg #[.bool x.1, u1, u2]] w (RetT1 ar Z tb L H x v u u1 u2 w) := by
  obtain ⟨i0, hi0, hz0, hz1, hz2⟩ := info_parts Try.info3
  have hx1 := ((okTerm_iff ar x.2.1).1 o1).2.1
  have hx2 := ((okTerm_iff ar x.2.2).1 o2).2.1
  have HB : Bel w ((((w.alloc (.cells #[v] 26)).alloc (.cells #[.int .i64 (Z : Int), u] 29)).alloc (.cells #[.bool x.1, u1, u2] 60)).alloc (.cells #[.bool x.1, u1, u2] 60)) := (Bel.alloc3 _ _ _ _).alloc _
  have hsl := slc_one (w := ((w.alloc (.cells #[v] 26)).alloc (.cells #[.int .i64 (Z : Int), u] 29)).alloc (.cells #[.bool x.1, u1, u2] 60)) (t := 60) (w.heap.size + 1 + 1 + 1) (by simp) (s1.below (Bel.alloc3 _ _ _ _)).in' (s2.below (Bel.alloc3 _ _ _ _)).in'
  have hfc : flatC [x] = [x.2.1, x.2.2] := rfl
  have HV := Lib.hid (clauseVars_c (by rw [hfc]; simp [sumL]; omega) (by simp) (fun k hk => by
    have hm := mem_gd _ 0 k hk
    rw [hfc] at hm ⊢
    simp only [List.flatten_cons, List.flatten_nil, List.append_nil, List.mem_append] at hm ⊢
    rcases hm with h | h
    · exact ok_low o1 h
    · exact ok_low o2 h) hsl)
  have KX : Hid (∀ w', Bel ((((w.alloc (.cells #[v] 26)).alloc (.cells #[.int .i64 (Z : Int), u] 29)).alloc (.cells #[.bool x.1, u1, u2] 60)).alloc (.cells #[.bool x.1, u1, u2] 60)) w' → (w'.cell? ⟨w.heap.size, 0, none⟩ = some v ∧ w'.cell? ⟨w.heap.size + 1, 0, none⟩ = some (.int .i64 (Z : Int)) ∧ w'.cell? ⟨w.heap.size + 1, 1, none⟩ = some u) ∧ w'.cell? ⟨w.heap.size + 1 + 1, 0, none⟩ = some (.bool x.1) ∧ w'.cell? ⟨w.heap.size + 1 + 1, 1, none⟩ = some u1 ∧ w'.cell? ⟨w.heap.size + 1 + 1, 2, none⟩ = some u2) := fun w' hq =>
    ⟨⟨hq.at (by simp; omega) (by simp [go_sem]), hq.at (by simp) (by simp [go_sem]), hq.at (by simp) (by simp [go_sem])⟩, hq.at (by simp) (by simp [go_sem]), hq.at (by simp) (by simp [go_sem]), hq.at (by simp) (by simp [go_sem])⟩
  have HL := Lib.hid (fun (w' : World) => tableLength_g Z (varsC [x]).length w' z3 (varsTo_len _ _))
  have hpw := pw_le12 z3 (varsTo_len (mk (flatC [x]).flatten) 12)
  have hpos : 0 < Z ^ (varsC [x]).length := Nat.pow_pos (by omega)
  have hvl : (varsC [x]).length ≤ 12 := varsTo_len _ _
  have HKN := Lib.hid (Known.new ar Z tb x)
  have HVC : Hid (varsTo (mk (flatC [x]).flatten) 12 = varsC [x]) := rfl
  rw [show varsTo (mk (flatC [x]).flatten) 12 = varsC [x] from rfl] at hpw HV
  go_enter Try.func56, Try.ntmps56
  go_wp2_with fail
  refine HV.out.mono ?_; rintro e w2 ⟨a2, n2, c2, rfl, o2', hb2⟩
  have hn2 : n2 = (varsC [x]).length := by
    obtain ⟨_, _, e, _⟩ := o2'.sl
    simp only [Value.slice.injEq] at e
    rw [e.2.1]; simp [natsI]
  subst hn2
  have k0 := (KX.out _ (hb2.alloc (.cells #[.slice a2 (varsC [x]).length c2] 24))).1.2.1
  generalize hLL : Z ^ (varsC [x]).length = LL at *
  have HVL := Lib.hid hLL
  clear hLL hsl
  go_wp2_with fail
  refine (HL.out _).mono ?_; rintro e w3 ⟨rfl, hb3⟩
  go_wp2_with (at_make; refine wpList_make_full _ rfl _ _ 24 rfl w3.heap.size 3 i0 (.int .i64 0) 1 Try.underlying24 hi0 hz0 hz1 _ _ _ _ LL rfl rfl rfl rfl (by rw [hz2]; omega) (by unfold maxLen; omega) (Nat.le_refl _) ?_; intro w4 hown hg4)
  go_ret
  have hbf : Bel w3 (w4.alloc (.cells #[.slice (some ⟨w3.heap.size, 0, none⟩) LL LL] 24)) := ((Bel.rfl' w3).grown hg4 (by simp)).alloc _
  have hb2f : Bel w2 (w4.alloc (.cells #[.slice (some ⟨w3.heap.size, 0, none⟩) LL LL] 24)) := ((Bel.alloc0 w2 (.cells #[.slice a2 (varsC [x]).length c2] 24)).step hb3).step hbf
  have hwf := HB.step (hb2.step hb2f)
  have hk := KX.out _ (hb2.step hb2f)
  have z2 := hb2.size
  have z3' := hb3.size
  have z4 := ((Bel.rfl' w3).grown hg4 (by simp)).size
  simp only [World.size_alloc] at z2 z3'
  have hown' : w4.ownsRow w3.heap.size 3 1 (.slice (some ⟨w3.heap.size, 0, none⟩) LL LL) (List.replicate LL (0 : Int)).length ((List.replicate LL (0 : Int)).map (Value.int .i64)) := by
    have h := madeI_0 (List.replicate LL (0 : Int))
    rw [List.length_replicate] at h ⊢
    have h2 : madeI (List.replicate LL (0 : Int)) 0 = List.replicate LL 0 := by simp [madeI]
    rw [h2] at h
    rw [← h]; exact hown
  have ho8 := row_oneCell hown' rfl (by rw [List.length_replicate]; exact hpos)
  have hk4 : w3.heap.size < w4.heap.size := by
    obtain ⟨b, off, e, -, -, hc, -, -⟩ := ho8.at 0 (by rw [List.length_replicate]; exact hpos)
    simp only [Option.some.injEq, Addr.mk.injEq, and_true] at e
    obtain ⟨rfl, rfl⟩ := e
    exact World.block_lt_of_cell? _ ⟨_, _, none⟩ hc
  refine ⟨w2.heap.size, w.heap.size + 1, w4.heap.size, w.heap.size, w.heap.size + 1 + 1, w3.heap.size, a2, c2, List.replicate LL 0, rfl, ?_, hwf⟩
  refine ⟨by omega, by omega, by omega, by omega, by simp; omega, hH, Nat.le_refl _, ?_, ?_, hk.1.2.1, hk.1.2.2, hu.below hwf, hk.1.1, hv.below hwf, hk.2.1, hk.2.2.1, hk.2.2.2, s1.below hwf, s2.below hwf, ?_, ?_, ?_⟩
  · exact (hb3.step hbf).at (by simp) (by simp [go_sem])
  · exact (o2'.sl.mono (by simp; omega) (Nat.le_refl _)).below hb2f
  · rw [List.length_replicate]; simp [go_sem]
  · rw [List.length_replicate]; exact ho8.alloc _
  · rw [← HVL.out] ; have h := HKN.out; rwa [Int.toNat_natCast] at h
end Go.Proofs.Ytlcjcihohclmhaa
end
section
/- Chapter 5, the program: the tests of a clause's literals. -/
namespace Go.Proofs.Ytlcjcihohclmhaa
open Go.RowKit

/-- Where a test lies. -/
structure TR where
  (lo hi p7 p4 p8 p3 p5 bk c7 : Nat)
  (a7 : Option Addr)
  (u1 u2 : Value)
def TR.f (r : TR) : Value := tstF r.p7 r.p4 r.p8 r.p3 r.p5
def TR.ok (ar : List Int) (sz : Int) (tb : List (List Int)) (L H : Nat) (v u : Value) (x : Lt) (r : TR) (w : World) : Prop :=
  ∃ ks, Tst ar sz tb L H r.lo r.hi x r.p7 r.p4 r.p8 r.p3 r.p5 r.bk r.a7 r.c7 v u r.u1 r.u2 ks w
theorem TR.ok.chg {ar : List Int} {sz : Int} {tb : List (List Int)} {L H : Nat} {v u : Value} {x : Lt} {r : TR} {w w' : World} {l' h' : Nat} (t : TR.ok ar sz tb L H v u x r w) (k : Chg l' h' w w') (d1 : h' ≤ r.lo ∨ r.hi ≤ l') (d2 : h' ≤ L ∨ H ≤ l') : TR.ok ar sz tb L H v u x r w' := by
  obtain ⟨ks, h⟩ := t
  exact ⟨ks, h.chg k d1 d2⟩
def Tests (ar : List Int) (sz : Int) (tb : List (List Int)) (L H : Nat) (v u : Value) (base : Nat) (c : List Lt) (rs : List TR) (w : World) : Prop :=
  rs.length = c.length ∧ ∀ (j : Nat) (x : Lt) (r : TR), c[j]? = some x → rs[j]? = some r → base ≤ r.lo ∧ TR.ok ar sz tb L H v u x r w ∧ ∀ (i : Nat) (r' : TR), i < j → rs[i]? = some r' → r'.hi ≤ r.lo
section
variable {ar : List Int} {sz : Int} {tb : List (List Int)} {L H : Nat} {v u : Value} {base : Nat} {c : List Lt} {rs : List TR} {w w' : World}
theorem Tests.nil : Tests ar sz tb L H v u base [] [] w := ⟨rfl, fun j x r h => by simp at h⟩
theorem Tests.get (t : Tests ar sz tb L H v u base c rs w) {r : TR} (hr : r ∈ rs) : ∃ (j : Nat) (x : Lt), c[j]? = some x ∧ rs[j]? = some r := by
  obtain ⟨j, hj, e⟩ := List.mem_iff_getElem.1 hr
  exact ⟨j, c[j]'(by have := t.1; omega), by rw [List.getElem?_eq_getElem (by have := t.1; omega)], by rw [List.getElem?_eq_getElem hj, e]⟩
theorem Tests.cur (t : Tests ar sz tb L H v u base c rs w) {r : TR} (hr : r ∈ rs) : base ≤ r.lo ∧ r.lo ≤ r.p7 ∧ r.p7 < r.bk ∧ r.bk < r.hi ∧ r.hi ≤ w.heap.size ∧ H ≤ r.lo := by
  obtain ⟨j, x, h1, h2⟩ := t.get hr
  obtain ⟨a, ⟨ks, k⟩, _⟩ := t.2 j x r h1 h2
  have := k.b7; have := k.b8; have := k.cur; have := k.old
  omega
theorem Tests.chg (t : Tests ar sz tb L H v u base c rs w) {l' h' : Nat} (k : Chg l' h' w w') (d1 : ∀ r ∈ rs, h' ≤ r.lo ∨ r.hi ≤ l') (d2 : h' ≤ L ∨ H ≤ l') : Tests ar sz tb L H v u base c rs w' :=
  ⟨t.1, fun j x r h1 h2 => by
    obtain ⟨a, b, d⟩ := t.2 j x r h1 h2
    exact ⟨a, b.chg k (d1 r (List.mem_of_getElem? h2)) d2, d⟩⟩
theorem Tests.bel (t : Tests ar sz tb L H v u base c rs w) (k : Bel w w') : Tests ar sz tb L H v u base c rs w' :=
  t.chg (Chg.of_bel (lo := 0) (hi := 0) k) (fun _ _ => .inl (Nat.zero_le _)) (.inl (Nat.zero_le _))
/-- One test remembers. -/
theorem Tests.put (t : Tests ar sz tb L H v u base c rs w) {j : Nat} {x : Lt} {r : TR} (h1 : c[j]? = some x) (h2 : rs[j]? = some r) (k : Chg r.bk (r.bk+1) w w') (ho : TR.ok ar sz tb L H v u x r w') : Tests ar sz tb L H v u base c rs w' :=
  ⟨t.1, fun i y s g1 g2 => by
    obtain ⟨a, b, d⟩ := t.2 i y s g1 g2
    refine ⟨a, ?_, d⟩
    have hc := t.cur (List.mem_of_getElem? h2)
    by_cases e : i = j
    · subst e
      rw [h1] at g1; rw [h2] at g2
      simp only [Option.some.injEq] at g1 g2
      subst g1; subst g2
      exact ho
    · refine b.chg k ?_ (.inr (by omega))
      rcases Nat.lt_or_gt_of_ne e with h | h
      · have := (t.2 j x r h1 h2).2.2 i s h g2
        right; omega
      · have := d j r h h2
        left; omega⟩
theorem Tests.snoc (t : Tests ar sz tb L H v u base c rs w) {x : Lt} {r : TR} (hb : base ≤ r.lo) (ho : TR.ok ar sz tb L H v u x r w) (hl : ∀ r' ∈ rs, r'.hi ≤ r.lo) : Tests ar sz tb L H v u base (c ++ [x]) (rs ++ [r]) w := by
  refine ⟨by simp [t.1], fun j y s h1 h2 => ?_⟩
  by_cases hj : j < rs.length
  · have hjc : j < c.length := by have := t.1; omega
    rw [List.getElem?_append_left hjc] at h1
    rw [List.getElem?_append_left hj] at h2
    obtain ⟨a, b, d⟩ := t.2 j y s h1 h2
    exact ⟨a, b, fun i r' hi h3 => d i r' hi (by rwa [List.getElem?_append_left (by omega)] at h3)⟩
  · have hjl : j = rs.length := by
      have := (List.getElem?_eq_some_iff.1 h2).1
      simp at this
      omega
    subst hjl
    rw [List.getElem?_append_right (Nat.le_refl _), Nat.sub_self] at h2
    rw [List.getElem?_append_right (by have := t.1; omega), show rs.length - c.length = 0 by have := t.1; omega] at h1
    simp only [List.getElem?_cons_zero, Option.some.injEq] at h1 h2
    subst h1; subst h2
    exact ⟨hb, ho, fun i r' hi h3 => hl r' (List.mem_of_getElem? (by rwa [List.getElem?_append_left hi] at h3))⟩
end
/-- The tests, the variable that holds them and their array. -/
structure TS (ar : List Int) (sz : Int) (tb : List (List Int)) (L H : Nat) (v u : Value) (base top pT : Nat) (ad : Option Addr) (cap : Nat) (c : List Lt) (rs : List TR) (w : World) : Prop where
  tests : Tests ar sz tb L H v u base c rs w
  pt : pT < base
  tops : ∀ r ∈ rs, r.hi ≤ top
  cur : base ≤ top ∧ top ≤ w.heap.size
  cell : w.cell? ⟨pT, 0, none⟩ = some (.slice ad rs.length cap)
  fn : 0 < rs.length → ∃ bT, ad = some ⟨bT, 0, none⟩ ∧ (∀ r ∈ rs, bT < r.lo ∨ r.hi ≤ bT) ∧ ∀ j r, rs[j]? = some r → w.cell? ⟨bT, j, none⟩ = some r.f
section
variable {ar : List Int} {sz : Int} {tb : List (List Int)} {L H : Nat} {v u : Value} {base top pT : Nat} {ad : Option Addr} {cap : Nat} {c : List Lt} {rs : List TR} {w w' : World}
theorem TS.put (t : TS ar sz tb L H v u base top pT ad cap c rs w) {j : Nat} {x : Lt} {r : TR} (h1 : c[j]? = some x) (h2 : rs[j]? = some r) (k : Chg r.bk (r.bk+1) w w') (ho : TR.ok ar sz tb L H v u x r w') : TS ar sz tb L H v u base top pT ad cap c rs w' := by
  have hm := List.mem_of_getElem? h2
  have hc := t.tests.cur hm
  refine ⟨t.tests.put h1 h2 k ho, t.pt, t.tops, ⟨t.cur.1, Nat.le_trans t.cur.2 k.size⟩, k.cell (World.block_lt_of_cell? _ ⟨_, _, none⟩ t.cell) (.inl (by have := t.pt; omega)) t.cell, fun hp => ?_⟩
  obtain ⟨bT, e, d, f⟩ := t.fn hp
  refine ⟨bT, e, d, fun i s hs => k.cell (World.block_lt_of_cell? _ ⟨_, _, none⟩ (f i s hs)) ?_ (f i s hs)⟩
  have := d r hm
  omega
theorem TS.chg (t : TS ar sz tb L H v u base top pT ad cap c rs w) {l' h' : Nat} (k : Chg l' h' w w') (d1 : top ≤ l') (d2 : H ≤ l') (hT : ∀ bT, ad = some ⟨bT, 0, none⟩ → bT < l' ∨ h' ≤ bT) : TS ar sz tb L H v u base top pT ad cap c rs w' := by
  refine ⟨t.tests.chg k (fun r hr => .inr (by have := t.tops r hr; omega)) (.inr d2), t.pt, t.tops, ⟨t.cur.1, Nat.le_trans t.cur.2 k.size⟩, k.cell (World.block_lt_of_cell? _ ⟨_, _, none⟩ t.cell) (.inl (by have := t.pt; have := t.cur.1; omega)) t.cell, fun hp => ?_⟩
  obtain ⟨bT, e, d, f⟩ := t.fn hp
  exact ⟨bT, e, d, fun i s hs => k.cell (World.block_lt_of_cell? _ ⟨_, _, none⟩ (f i s hs)) (hT bT e) (f i s hs)⟩
end
end Go.Proofs.Ytlcjcihohclmhaa
end
section
/- Chapter 5, the program: what makes all literals false. -/
namespace Go.Proofs.Ytlcjcihohclmhaa
open Go.RowKit

def RetTS (ar : List Int) (sz : Int) (tb : List (List Int)) (L H : Nat) (v u : Value) (base top pT : Nat) (ad : Option Addr) (cap : Nat) (c : List Lt) (rs : List TR) (w : World) (b : Bool) (e : Ending) (w' : World) : Prop :=
  e = .returned (.bool b) ∧ TS ar sz tb L H v u base top pT ad cap c rs w' ∧ Chg base top w w'

set_option maxRecDepth 100000 in
set_option maxHeartbeats 2000000 in
theorem falseAt1_c {ar : List Int} {sz : Int} {tb : List (List Int)} {L H : Nat} {v u : Value} {base top pT : Nat} {ad : Option Addr} {cap : Nat} {c : List Lt} {rs : List TR} {w : World}
    (t : TS ar sz tb L H v u base top pT ad cap c rs w) (hg : goodSign ar = true) (hw : isWorld ar sz tb = true) (hok : okLits ar c = true)
    (l3 h3 : Nat) (ve : Value) (env : List Int) (he : okEnv sz env = true) (hve : SlI l3 h3 w ve env) (hd : top ≤ l3 ∨ h3 ≤ base) :
    Calls Try.prog 57 #[ve, .pointer (some ⟨pT, 0, none⟩)] w (RetTS ar sz tb L H v u base top pT ad cap c rs w (!clH ar sz tb env c)) := by
  have hcl : rs.length = c.length := t.tests.1
  have h8 := (okLits_iff.1 hok).1
  have HOK := Lib.hid (fun k hk => okLits_get (okLits_iff.1 hok).2 k hk)
  have HT := Lib.hid t
  have hcell := t.cell
  have HS1 := Lib.hid (fun k hk h => any_split c (litH ar sz tb env) k hk h)
  have HS2 := Lib.hid (fun k hk h => any_true c (litH ar sz tb env) k hk h)
  have HCL := Lib.hid hcl
  rw [hcl] at hcell
  clear t hok hcl
  go_enter Try.func57, Try.ntmps57
  go_wp2_with fail
  go_loopw [8] (fun i wr => ∃ k : Nat, k ≤ c.length ∧ i = .int .i64 k ∧ (c.take k).any (litH ar sz tb env) = false ∧ TS ar sz tb L H v u base top pT ad cap c rs wr ∧ Chg base top w wr) (fun i _ => c.length - (intOf i).toNat)
  case atStart => exact ⟨0, Nat.zero_le _, rfl, rfl, HT.out, Chg.refl _ _ _⟩
  case round =>
    obtain ⟨k, hk, rfl, hf, ht, hc⟩ := hrel
    by_cases hlt : k < c.length
    · obtain ⟨bT, rfl, hbT, hfn⟩ := ht.fn (by have := HCL.out; omega)
      obtain ⟨r, hr⟩ : ∃ r, rs[k]? = some r := ⟨_, List.getElem?_eq_getElem (by have := HCL.out; omega)⟩
      have hx : c[k]? = some (c.getD k lt0) := by simp [List.getD, hlt]
      have hfk := hfn k r hr
      obtain ⟨hb0, ⟨ks, htst⟩, -⟩ := ht.tests.2 k _ r hx hr
      have hcu := ht.tests.cur (List.mem_of_getElem? hr)
      have htop := ht.tops r (List.mem_of_getElem? hr)
      have hox := HOK.out k hlt
      have HL := Lib.hid (litTest1_c htst hg hw hox.1 hox.2 l3 h3 ve env he (hve.chg hc (by omega)) (by omega))
      have hw0 : wr.cell? ⟨pT, 0, none⟩ = some (.slice (some ⟨bT, 0, none⟩) c.length cap) := by have := ht.cell; rwa [HCL.out] at this
      unfold TR.f tstF at hfk
      have HTS := Lib.hid (HS1.out k hlt hf)
      have HTR := Lib.hid (HS2.out k hlt)
      generalize litH ar sz tb env (c.getD k lt0) = B at *
      have HPUT : Hid (∀ w', TR.ok ar sz tb L H v u (c.getD k lt0) r w' → Chg r.bk (r.bk+1) wr w' → TS ar sz tb L H v u base top pT (some ⟨bT, 0, none⟩) cap c rs w' ∧ Chg base top w w') := fun w' o q => ⟨ht.put hx hr q o, hc.trans (q.mono (by omega) (by omega))⟩
      clear hfn hr hx hbT ht htst hcu htop hox hc hcell HT HOK HS1 HS2
      cases B with
      | false =>
        go_wp2_with fail
        refine HL.out.mono ?_; rintro e w4 ⟨rfl, ks', T, q⟩
        obtain ⟨P1, P2⟩ := HPUT.out w4 ⟨ks', T⟩ q
        go_wp2_with fail
        go_roundw
        case rel => exact ⟨k+1, by omega, by go_num, HTS.out, P1, P2⟩
        case measure => simp [intOf]; omega
      | true =>
        have hcf : clH ar sz tb env c = true := HTR.out rfl
        rw [hcf]
        go_wp2_with fail
        refine HL.out.mono ?_; rintro e w4 ⟨rfl, ks', T, q⟩
        obtain ⟨P1, P2⟩ := HPUT.out w4 ⟨ks', T⟩ q
        go_wp2_with fail
        go_ret
        exact ⟨rfl, P1, P2⟩
    · obtain rfl : k = c.length := by omega
      rw [List.take_length] at hf
      have hcf : clH ar sz tb env c = false := hf
      go_wp2_with fail
      go_ret
      exact ⟨by rw [hcf]; rfl, ht, hc⟩
end Go.Proofs.Ytlcjcihohclmhaa
end
section
/- Chapter 5, the reference: the least assignment. -/
namespace Go.Proofs.Ytlcjcihohclmhaa
open Go.RowKit

def RetFal (eb eh : Nat) (ve : Value) (vs : List Nat) (e : List Int) (sz : Int) (w : World) (R : Option (List Int)) (x : Ending) (w' : World) : Prop :=
  match R with
  | some r => ∃ ad n k, x = .returned (.tuple #[.slice ad n k, .bool true]) ∧ OwnI w.heap.size w'.heap.size w' (.slice ad n k) r ∧ Chg eb eh w w'
  | none => ∃ ad n k, x = .returned (.tuple #[.slice ad n k, .bool false]) ∧ Chg eb eh w w' ∧ ∃ e2, OwnI eb eh w' ve e2 ∧ Off vs e e2 ∧ okEnv sz e2 = true
/-- The rest of a slice behind its first. -/
theorem SlI.rest {lo hi : Nat} {w : World} {b off n c : Nat} {x : Int} {xs : List Int} (h : SlI lo hi w (.slice (some ⟨b, off, none⟩) n c) (x :: xs)) (q : Nat) (hq : xs = [] ∨ q = off + 1) : SlI lo hi w (.slice (some ⟨b, q, none⟩) xs.length (c - 1)) xs := by
  obtain ⟨ad, cap, e, hc, hm, hr⟩ := h
  simp only [Value.slice.injEq] at e
  obtain ⟨rfl, rfl, rfl⟩ := e
  simp only [List.length_cons] at hc hr
  refine ⟨some ⟨b, q, none⟩, c - 1, rfl, by omega, ⟨by omega, fun h => by simp at h⟩, fun hp => ?_⟩
  obtain ⟨b', off', e', a1, a2, a3⟩ := hr (by omega)
  simp only [Option.some.injEq, Addr.mk.injEq, and_true] at e'
  obtain ⟨rfl, rfl⟩ := e'
  rcases hq with rfl | rfl
  · simp at hp
  · refine ⟨b, off + 1, rfl, a1, a2, fun j hj => ?_⟩
    have := a3 (j + 1) (by omega)
    rw [show off + 1 + j = off + (j + 1) by omega]
    exact this

set_option maxRecDepth 100000 in
set_option maxHeartbeats 4000000 in
theorem l5False_c (l h : Nat) (v u vc : Value) (ar : List Int) (Z : Nat) (tb : List (List Int)) (c : List Lt) (eb eh : Nat) (hg : goodSign ar = true) (hw : isWorld ar Z tb = true) (hok : okLits ar c = true) (hd : h ≤ eb ∨ eh ≤ l) (hbe : eh ≤ eb + 1) :
    ∀ (vars : List Nat) (e : List Int) (w : World) (vv ve : Value) (a b : Nat), (∀ x ∈ vars, x < 12) → vars.length ≤ 12 → okEnv Z e = true → SlI l h w v ar → SlS l h w u tb → SlC l h w vc c → SlI a b w vv (natsI vars) → OwnI eb eh w ve e → (b ≤ eb ∨ eh ≤ a) → eh ≤ w.heap.size →
      Calls Try.prog 63 #[.agg #[v], .agg #[.int .i64 (Z : Int), u], vc, vv, ve] w (RetFal eb eh ve vars e Z w (lw Z (fun e => clH ar Z tb e c) vars e)) := by
  obtain ⟨z1, z3, _⟩ := isWorld_iff.1 hw
  intro vars
  induction vars with
  | nil =>
    intro e w vv ve a b hvr hvl he hv hu hc hvv hve hdv hew
    obtain ⟨av, cv, rfl⟩ := hvv.form
    have hel := (okEnv_iff.1 he).1
    have HB : Bel w ((w.alloc (.cells #[v] 26)).alloc (.cells #[.int .i64 (Z : Int), u] 29)) := Bel.alloc2 _ _ _
    have KX : Hid (∀ w', Bel ((w.alloc (.cells #[v] 26)).alloc (.cells #[.int .i64 (Z : Int), u] 29)) w' → w'.cell? ⟨w.heap.size, 0, none⟩ = some v ∧ w'.cell? ⟨w.heap.size + 1, 0, none⟩ = some (.int .i64 (Z : Int)) ∧ w'.cell? ⟨w.heap.size + 1, 1, none⟩ = some u) := fun w' hb =>
      ⟨hb.at (by simp; omega) (by simp [go_sem]), hb.at (by simp) (by simp [go_sem]), hb.at (by simp) (by simp [go_sem])⟩
    have HO := Lib.hid (fun (w' : World) (hb : Bel w w') => l1Own_c eb eh ve e w' (by omega) (hve.sl.below hb))
    have HA := Lib.hid (fun (w' : World) (hb : Bel w w') => l5At_c l h l h l h eb eh v u vc ve ar Z tb c e w' hg hw he hok (hv.below hb) (hu.below hb) (hc.below hb) (hve.sl.below hb))
    have HVE := Lib.hid (fun (w' : World) (hb : Bel w w') => hve.below hb)
    have hnil : natsI [] = [] := rfl
    unfold lw
    generalize clH ar Z tb e c = P at *
    clear hv hu hc hvv hve hok hw hg hel
    obtain ⟨ae, ce, rfl⟩ : ∃ ae ce, ve = .slice ae e.length ce := by
      have := (HVE.out w (Bel.rfl' _)).1
      exact this.form
    cases P with
    | true =>
      rw [if_pos rfl]
      go_enter Try.func63, Try.ntmps63
      go_wp2_with fail
      go_region_held3 (fun w' => Bel w w' ∧ w'.cell? ⟨w.heap.size, 0, none⟩ = some v ∧ w'.cell? ⟨w.heap.size + 1, 0, none⟩ = some (.int .i64 (Z : Int)) ∧ w'.cell? ⟨w.heap.size + 1, 1, none⟩ = some u)
        (first | exact ⟨HB.drew, KX.out _ (Bel.drew0 _)⟩ | exact ⟨HB.step B8, KX.out _ B8⟩ | exact ⟨HB.step B9, KX.out _ B9⟩ | fail)
        (first | (go_at_call 83; refine (HA.out _ (HB.step B8)).mono ?_; rintro e w9 ⟨rfl, hb9⟩; have B9 := B8.step hb9) | (go_at_call 82; refine (HO.out _ HB.drew).mono ?_; rintro e w8 ⟨a8, n8, c8, rfl, o8, hb8⟩; have B8 := (Bel.drew0 _).step hb8) | fail)
      go_wp2_with fail
      go_ret2
      exact ⟨_, _, _, rfl, Chg.of_bel (HB.step B9), _, HVE.out _ (HB.step B9), Off.refl _ _, he⟩
    | false =>
      rw [if_neg (by simp)]
      go_enter Try.func63, Try.ntmps63
      go_wp2_with fail
      go_region_held3 (fun w' => Bel w w' ∧ w'.cell? ⟨w.heap.size, 0, none⟩ = some v ∧ w'.cell? ⟨w.heap.size + 1, 0, none⟩ = some (.int .i64 (Z : Int)) ∧ w'.cell? ⟨w.heap.size + 1, 1, none⟩ = some u)
        (first | exact ⟨HB.drew, KX.out _ (Bel.drew0 _)⟩ | exact ⟨HB.step B8, KX.out _ B8⟩ | exact ⟨HB.step B9, KX.out _ B9⟩ | fail)
        (first | (go_at_call 83; refine (HA.out _ (HB.step B8)).mono ?_; rintro e w9 ⟨rfl, hb9⟩; have B9 := B8.step hb9) | (go_at_call 82; refine (HO.out _ HB.drew).mono ?_; rintro e w8 ⟨a8, n8, c8, rfl, o8, hb8⟩; have B8 := (Bel.drew0 _).step hb8) | fail)
      go_wp2_with fail
      go_ret2
      exact ⟨_, _, _, rfl, (o8.below hb9).mono (by have := HB.drew.size; omega) hb9.size, Chg.of_bel (HB.step B9)⟩
  | cons x r ih =>
    intro e w vv ve a b hvr hvl he hv hu hc hvv hve hdv hew
    have hx12 := hvr x (by simp)
    have hel := (okEnv_iff.1 he).1
    have hnc : natsI (x :: r) = (x : Int) :: natsI r := rfl
    rw [hnc] at hvv
    obtain ⟨avv, cvv, rfl⟩ := hvv.form
    have hvv0 := hvv
    obtain ⟨adv, capv, ev, hcapv, hmaxv, hrv⟩ := hvv
    simp only [Value.slice.injEq] at ev
    obtain ⟨rfl, -, rfl⟩ := ev
    obtain ⟨bv, offv, rfl, hav, hbv, hcv⟩ := hrv (by simp)
    have hcv0 := hcv 0 (by simp)
    simp only [List.getD_cons_zero, Nat.add_zero] at hcv0
    simp only [List.length_cons] at hcapv hvv0 ⊢
    have hlr := Lib.hid (natsI_len r)
    obtain ⟨m, hm⟩ : ∃ m, (natsI r).length = m := ⟨_, rfl⟩
    rw [hm] at hcapv hvv0
    simp only [hm]
    have HM := Lib.hid hm
    clear hm
    obtain ⟨ae, ce, rfl⟩ : ∃ ae ce, ve = .slice ae e.length ce := hve.1.form
    obtain ⟨be, offe, hae, hbe1, hbe2⟩ : ∃ b off, ae = some ⟨b, off, none⟩ ∧ eb ≤ b ∧ b < eh := by
      obtain ⟨ad', cap', e', -, -, hr'⟩ := hve.1
      simp only [Value.slice.injEq] at e'
      obtain ⟨rfl, -, -⟩ := e'
      obtain ⟨b', o', h1, h2, h3, _⟩ := hr' (by omega)
      exact ⟨b', o', h1, h2, h3⟩
    subst hae
    obtain ⟨R, hR⟩ : ∃ R, R = lw Z (fun e => clH ar Z tb e c) (x :: r) e := ⟨_, rfl⟩
    have hR0 : R = tryW (fun (n : Nat) => lw Z (fun e => clH ar Z tb e c) r (e.set x (n : Int))) 0 Z := hR
    rw [← hR]
    clear hR
    have IH := Lib.hid ih
    clear ih hnc hcv hrv
    have HL12 := Lib.hid hel
    generalize hEL : e.length = EL at *
    clear hel
    go_enter Try.func63, Try.ntmps63
    go_wp2_with fail
    obtain ⟨W, hW⟩ : ∃ W, W = (w.alloc (.cells #[v] 26)).alloc (.cells #[.int .i64 (Z : Int), u] 29) := ⟨_, rfl⟩
    have hB : Bel w W := by rw [hW]; exact Bel.alloc2 _ _ _
    have zW : w.heap.size + 1 < W.heap.size := by rw [hW]; simp
    have k0 : W.cell? ⟨w.heap.size, 0, none⟩ = some v := by rw [hW]; simp [go_sem]
    have k1 : W.cell? ⟨w.heap.size + 1, 0, none⟩ = some (.int .i64 (Z : Int)) := by rw [hW]; simp [go_sem]
    have k2 : W.cell? ⟨w.heap.size + 1, 1, none⟩ = some u := by rw [hW]; simp [go_sem]
    rw [← hW]
    clear hW
    have zbv : bv < w.heap.size := World.block_lt_of_cell? w ⟨bv, offv, none⟩ hcv0
    have kv := hB.at zbv hcv0
    obtain ⟨G, hG⟩ : ∃ G : Nat → Option (List Int), G = fun (n : Nat) => lw Z (fun e => clH ar Z tb e c) r (e.set x ((n : Nat) : Int)) := ⟨_, rfl⟩
    have HGG : Hid (∀ (k : Nat) (e2 : List Int), Off (x :: r) e e2 → lw Z (fun e => clH ar Z tb e c) r (e2.set x (k : Int)) = G k) := fun k e2 ho => by rw [hG]; exact lw_off Z _ r _ _ (ho.set _)
    rw [← hG] at hR0
    have HR0 := Lib.hid hR0.symm
    clear hG hR0
    have hxi : (x : Int) < EL := by have := HL12.out; omega
    go_loopw [12] (fun i wr => ∃ (k : Nat) (ek : List Int), k ≤ Z ∧ i = .int .i64 k ∧ tryW G k (Z - k) = R ∧ OwnI eb eh wr (.slice (some ⟨be, offe, none⟩) EL ce) ek ∧ Off (x :: r) e ek ∧ okEnv Z ek = true ∧ Chg eb eh W wr) (fun i _ => Z - (intOf i).toNat)
    case atStart => exact ⟨0, e, Nat.zero_le _, rfl, HR0.out, hve.below hB, Off.refl _ _, he, Chg.refl _ _ _⟩
    case round =>
      obtain ⟨k, ek, hk, rfl, hR, ho, hoff, hoke, hch⟩ := hrel
      have q0 := hch.cell (by omega) (.inr hew) k0
      have q1 := hch.cell zW (.inr (by omega)) k1
      have q2 := hch.cell zW (.inr (by omega)) k2
      have qv := hch.cell (Nat.lt_of_lt_of_le zbv hB.size) (by omega) kv
      have hekl : ek.length = EL := hoff.1.trans hEL
      obtain ⟨y, hcy⟩ : ∃ y : Int, wr.cell? ⟨be, offe + x, none⟩ = some (.int .i64 y) := by
        obtain ⟨ad', cap', e', -, -, hr'⟩ := ho.1
        simp only [Value.slice.injEq] at e'
        obtain ⟨rfl, -, -⟩ := e'
        obtain ⟨b', o', h1, h2, h3, h4⟩ := hr' (by omega)
        simp only [Option.some.injEq, Addr.mk.injEq, and_true] at h1
        obtain ⟨rfl, rfl⟩ := h1
        exact ⟨_, h4 x (by omega)⟩
      have hfy := ho.2 be offe EL ce rfl (by omega) x
      have hchw : Chg eb eh w wr := (Chg.of_bel hB).trans hch
      by_cases hlt : k < Z
      · have hst := ho.stored x (by omega) (k : Int)
        have hCS : Chg eb eh w (wr.setCell ⟨be, offe + x, none⟩ (.int .i64 (k : Int))) := hchw.trans (Chg.set (p := ⟨be, offe + x, none⟩) _ hbe1 hbe2 _)
        have hCW : Chg eb eh W (wr.setCell ⟨be, offe + x, none⟩ (.int .i64 (k : Int))) := hch.trans (Chg.set (p := ⟨be, offe + x, none⟩) _ hbe1 hbe2 _)
        have q0 := hCW.cell (by omega) (.inr hew) k0
        have q1' := hCW.cell zW (.inr (by omega)) k1
        have q2 := hCW.cell zW (.inr (by omega)) k2
        have hoke2 := okEnv_set hoke x (x := (k : Int)) (by omega) (by omega)
        have hsl : ∀ q : Nat, (natsI r = [] ∨ q = offv + 1) → SlI a b (wr.setCell ⟨be, offe + x, none⟩ (.int .i64 (k : Int))).drew (.slice (some ⟨bv, q, none⟩) m (cvv - 1)) (natsI r) := fun q hq => by have h9 := ((hvv0.chg hCS (by omega)).below (Bel.drew0 _)).rest q hq; rw [HM.out] at h9; exact h9
        have HC := Lib.hid (fun q hq => IH.out (ek.set x (k : Int)) _ _ _ a b (fun y hy => hvr y (by simp [hy])) (by simp at hvl; omega) hoke2 ((hv.chg hCS hd).below (Bel.drew0 _)) ((hu.chg hCS hd).below (Bel.drew0 _)) ((hc.chg hCS hd).below (Bel.drew0 _)) (hsl q hq) (hst.below (Bel.drew0 _)) hdv (Nat.le_trans hew hCS.size))
        have hge := HGG.out k ek hoff
        rw [hge] at HC
        have hR1 : tryW G k ((Z - k - 1) + 1) = R := by rw [show Z - k - 1 + 1 = Z - k by omega]; exact hR
        have hoff1 := hoff.trans (Off.one x r ek (k : Int))
        have hcap1 : (1 : Int) ≤ cvv := by omega
        have hml : (m : Int) + 1 ≤ cvv := by omega
        have hm1 : (1 : Int) ≤ (m : Int) + 1 := by omega
        have hDR : Chg eb eh w (wr.setCell ⟨be, offe + x, none⟩ (.int .i64 (k : Int))).drew := hCS.trans (Chg.of_bel (Bel.drew0 _))
        have hDW : Chg eb eh W (wr.setCell ⟨be, offe + x, none⟩ (.int .i64 (k : Int))).drew := hCW.trans (Chg.of_bel (Bel.drew0 _))
        have hzk : (k : Int) < (Z : Int) := by omega
        clear hst hoke2 hsl hge hR hoff hoke ho hCS hCW hchw IH hv hu hc HGG HR0 hekl
        cases hGk : G k with
        | some r1 =>
          rw [hGk] at HC
          have hRR := Lib.hid ((tryW_some hGk).symm.trans hR1)
          clear hR1
          by_cases hcap : cvv = 1
          · have hrn : natsI r = [] := List.length_eq_zero_iff.1 (by rw [HM.out]; omega)
            have HC1 := Lib.hid (HC.out offv (.inl hrn))
            obtain rfl : m = 0 := by omega
            subst hcap
            clear HC hrn
            go_wp2_with fail
            go_region_held3 (fun w' => Chg eb eh w w' ∧ w'.cell? ⟨w.heap.size, 0, none⟩ = some v ∧ w'.cell? ⟨w.heap.size + 1, 0, none⟩ = some (.int .i64 (Z : Int)) ∧ w'.cell? ⟨w.heap.size + 1, 1, none⟩ = some u)
              (first | exact ⟨hDR, q0, q1', q2⟩ | exact ⟨hDR.trans hg9, (hDW.trans hg9).cell (by omega) (.inr hew) k0, (hDW.trans hg9).cell zW (.inr (by omega)) k1, (hDW.trans hg9).cell zW (.inr (by omega)) k2⟩ | fail)
              (first | (go_at_call 63; refine HC1.out.mono ?_; rintro e w9 ⟨a9, n9, c9, rfl, o9, hg9⟩) | fail)
            go_wp2_with fail
            go_ret2
            rw [← hRR.out]
            exact ⟨_, _, _, rfl, o9.mono (by have := hDR.size; omega) (Nat.le_refl _), hDR.trans hg9⟩
          · have HC1 := Lib.hid (HC.out (offv + 1) (.inr rfl))
            have hcp : (1 : Int) < cvv := by omega
            clear HC
            go_wp2_with fail
            go_region_held3 (fun w' => Chg eb eh w w' ∧ w'.cell? ⟨w.heap.size, 0, none⟩ = some v ∧ w'.cell? ⟨w.heap.size + 1, 0, none⟩ = some (.int .i64 (Z : Int)) ∧ w'.cell? ⟨w.heap.size + 1, 1, none⟩ = some u)
              (first | exact ⟨hDR, q0, q1', q2⟩ | exact ⟨hDR.trans hg9, (hDW.trans hg9).cell (by omega) (.inr hew) k0, (hDW.trans hg9).cell zW (.inr (by omega)) k1, (hDW.trans hg9).cell zW (.inr (by omega)) k2⟩ | fail)
              (first | (go_at_call 63; refine HC1.out.mono ?_; rintro e w9 ⟨a9, n9, c9, rfl, o9, hg9⟩) | fail)
            go_wp2_with fail
            go_ret2
            rw [← hRR.out]
            exact ⟨_, _, _, rfl, o9.mono (by have := hDR.size; omega) (Nat.le_refl _), hDR.trans hg9⟩
        | none =>
          rw [hGk] at HC
          have hRR := Lib.hid ((tryW_none hGk).symm.trans hR1)
          clear hR1
          by_cases hcap : cvv = 1
          · have hrn : natsI r = [] := List.length_eq_zero_iff.1 (by rw [HM.out]; omega)
            have HC1 := Lib.hid (HC.out offv (.inl hrn))
            obtain rfl : m = 0 := by omega
            subst hcap
            clear HC hrn
            go_wp2_with fail
            go_region_held3 (fun w' => Chg eb eh w w' ∧ w'.cell? ⟨w.heap.size, 0, none⟩ = some v ∧ w'.cell? ⟨w.heap.size + 1, 0, none⟩ = some (.int .i64 (Z : Int)) ∧ w'.cell? ⟨w.heap.size + 1, 1, none⟩ = some u)
              (first | exact ⟨hDR, q0, q1', q2⟩ | exact ⟨hDR.trans hg9, (hDW.trans hg9).cell (by omega) (.inr hew) k0, (hDW.trans hg9).cell zW (.inr (by omega)) k1, (hDW.trans hg9).cell zW (.inr (by omega)) k2⟩ | fail)
              (first | (go_at_call 63; refine HC1.out.mono ?_; rintro e w9 ⟨a9, n9, c9, rfl, hg9, e9, o9, hf9, hk9⟩) | fail)
            go_wp2_with fail
            refine ⟨?_, ?measure⟩
            iterate 90 (try apply Exists.intro)
            refine ⟨?rel, rfl⟩
            case rel => exact ⟨k+1, e9, by omega, by go_num, by rw [← hRR.out, show Z - (k + 1) = Z - k - 1 by omega], o9, hoff1.trans (hf9.wider (by simp +contextual)), hk9, hDW.trans hg9⟩
            case measure => simp [intOf]; omega
          · have HC1 := Lib.hid (HC.out (offv + 1) (.inr rfl))
            have hcp : (1 : Int) < cvv := by omega
            clear HC
            go_wp2_with fail
            go_region_held3 (fun w' => Chg eb eh w w' ∧ w'.cell? ⟨w.heap.size, 0, none⟩ = some v ∧ w'.cell? ⟨w.heap.size + 1, 0, none⟩ = some (.int .i64 (Z : Int)) ∧ w'.cell? ⟨w.heap.size + 1, 1, none⟩ = some u)
              (first | exact ⟨hDR, q0, q1', q2⟩ | exact ⟨hDR.trans hg9, (hDW.trans hg9).cell (by omega) (.inr hew) k0, (hDW.trans hg9).cell zW (.inr (by omega)) k1, (hDW.trans hg9).cell zW (.inr (by omega)) k2⟩ | fail)
              (first | (go_at_call 63; refine HC1.out.mono ?_; rintro e w9 ⟨a9, n9, c9, rfl, hg9, e9, o9, hf9, hk9⟩) | fail)
            go_wp2_with fail
            refine ⟨?_, ?measure⟩
            iterate 90 (try apply Exists.intro)
            refine ⟨?rel, rfl⟩
            case rel => exact ⟨k+1, e9, by omega, by go_num, by rw [← hRR.out, show Z - (k + 1) = Z - k - 1 by omega], o9, hoff1.trans (hf9.wider (by simp +contextual)), hk9, hDW.trans hg9⟩
            case measure => simp [intOf]; omega
      · obtain rfl : k = Z := by omega
        have hR2 : Hid (R = none) := by show _ = _; rw [← hR, Nat.sub_self]; rfl
        have hst := ho.stored x (by omega) (0 : Int)
        have hCS : Chg eb eh w (wr.setCell ⟨be, offe + x, none⟩ (.int .i64 (0 : Int))) := hchw.trans (Chg.set (p := ⟨be, offe + x, none⟩) _ hbe1 hbe2 _)
        have hoke2 := okEnv_set hoke x (x := (0 : Int)) (Int.le_refl _) (by omega)
        have hoff1 := hoff.trans (Off.one x r ek (0 : Int))
        clear hekl IH
        go_wp2_with fail
        go_ret2
        rw [hR2.out]
        exact ⟨_, _, _, rfl, hCS, _, hst, hoff1, hoke2⟩
end Go.Proofs.Ytlcjcihohclmhaa
end
section
/- Chapter 5, the program: the least assignment. -/
namespace Go.Proofs.Ytlcjcihohclmhaa
open Go.RowKit

/-- The function that asks for all literals. -/
def allF (pT : Nat) : Value := .func (.func 57) #[] #[.pointer (some ⟨pT, 0, none⟩)]
def RetLW (ar : List Int) (Z : Nat) (tb : List (List Int)) (L H : Nat) (v u : Value) (base top pT : Nat) (ad : Option Addr) (cap : Nat) (c : List Lt) (rs : List TR) (eb : Nat) (ve : Value) (vs : List Nat) (e : List Int) (w : World) (R : Option (List Int)) (x : Ending) (w' : World) : Prop :=
  x = .returned (.bool R.isSome) ∧ TS ar Z tb L H v u base top pT ad cap c rs w' ∧ Chg base (eb+1) w w' ∧ ∃ e2, OwnI eb (eb+1) w' ve e2 ∧ Off vs e e2 ∧ okEnv Z e2 = true ∧ ∀ r, R = some r → e2 = r

set_option maxRecDepth 100000 in
set_option maxHeartbeats 4000000 in
theorem leastWhere_c {ar : List Int} {Z : Nat} {tb : List (List Int)} {L H : Nat} {v u : Value} {base top pT : Nat} {ad : Option Addr} {cap : Nat} {c : List Lt} {rs : List TR}
    (hg : goodSign ar = true) (hw : isWorld ar Z tb = true) (hok : okLits ar c = true) (eb : Nat) (htop : top ≤ eb) (hH : H ≤ eb) (hT : ∀ bT, ad = some ⟨bT, 0, none⟩ → bT < eb) :
    ∀ (vars : List Nat) (e : List Int) (w : World) (vv ve : Value) (a b : Nat), (∀ x ∈ vars, x < 12) → vars.length ≤ 12 → okEnv Z e = true → TS ar Z tb L H v u base top pT ad cap c rs w → SlI a b w vv (natsI vars) → OwnI eb (eb+1) w ve e → (b ≤ base ∨ eb + 1 ≤ a) →
      Calls Try.prog 58 #[allF pT, ve, vv, .int .i64 (Z : Int)] w (RetLW ar Z tb L H v u base top pT ad cap c rs eb ve vars e w (lw Z (fun e => clH ar Z tb e c) vars e)) := by
  obtain ⟨z1, z3, _⟩ := isWorld_iff.1 hw
  intro vars
  induction vars with
  | nil =>
    intro e w vv ve a b hvr hvl he ht hvv hve hdv
    obtain ⟨av, cv, rfl⟩ := hvv.form
    have HA := Lib.hid (falseAt1_c ht hg hw hok eb (eb+1) ve e he hve.sl (.inl htop))
    have hnil : natsI [] = [] := rfl
    have hbt : base ≤ eb := by have := ht.cur; omega
    have HP : Hid ((lw Z (fun e => clH ar Z tb e c) [] e) = if clH ar Z tb e c then none else some e) := rfl
    rw [HP.out]
    generalize clH ar Z tb e c = P at *
    have HR1 : Hid ((if P = true then none else some e : Option (List Int)).isSome = !P) := by show _ = _; cases P <;> rfl
    have HR2 : Hid (∀ r, (if P = true then none else some e : Option (List Int)) = some r → e = r) := fun r h => by cases P <;> simp at h; exact h
    clear HP
    generalize (if P = true then none else some e : Option (List Int)) = R at *
    unfold allF
    rw [hnil, List.length_nil]
    clear ht hvv hnil
    go_enter Try.func58, Try.ntmps58
    go_wp2_with fail
    refine HA.out.mono ?_; rintro x w2 ⟨rfl, T2, k2⟩
    go_wp2_with fail
    go_ret
    refine ⟨?_, T2, k2.mono (Nat.le_refl _) (by omega), e, hve.chg k2 (by omega), Off.refl _ _, he, ?_⟩
    · rw [HR1.out]; rfl
    · exact HR2.out
  | cons x r ih =>
    intro e w vv ve a b hvr hvl he ht hvv hve hdv
    have hx12 := hvr x (by simp)
    have hel := (okEnv_iff.1 he).1
    have hbt : base ≤ eb := by have := ht.cur; omega
    have hnc : natsI (x :: r) = (x : Int) :: natsI r := rfl
    rw [hnc] at hvv
    obtain ⟨avv, cvv, rfl⟩ := hvv.form
    have hvv0 := hvv
    obtain ⟨adv, capv, ev, hcapv, hmaxv, hrv⟩ := hvv
    simp only [Value.slice.injEq] at ev
    obtain ⟨rfl, -, rfl⟩ := ev
    obtain ⟨bv, offv, rfl, hav, hbv, hcv⟩ := hrv (by simp)
    have hcv0 := hcv 0 (by simp)
    simp only [List.getD_cons_zero, Nat.add_zero] at hcv0
    simp only [List.length_cons] at hcapv hvv0 ⊢
    obtain ⟨m, hm⟩ : ∃ m, (natsI r).length = m := ⟨_, rfl⟩
    rw [hm] at hcapv hvv0
    simp only [hm]
    have HM := Lib.hid hm
    clear hm
    obtain ⟨ae, ce, rfl⟩ : ∃ ae ce, ve = .slice ae e.length ce := hve.1.form
    obtain ⟨be, offe, hae, hbe1, hbe2⟩ : ∃ b off, ae = some ⟨b, off, none⟩ ∧ eb ≤ b ∧ b < eb + 1 := by
      obtain ⟨ad', cap', e', -, -, hr'⟩ := hve.1
      simp only [Value.slice.injEq] at e'
      obtain ⟨rfl, -, -⟩ := e'
      obtain ⟨b', o', h1, h2, h3, _⟩ := hr' (by omega)
      exact ⟨b', o', h1, h2, h3⟩
    subst hae
    obtain rfl : be = eb := by omega
    obtain ⟨R, hR⟩ : ∃ R, R = lw Z (fun e => clH ar Z tb e c) (x :: r) e := ⟨_, rfl⟩
    have hR0 : R = tryW (fun (n : Nat) => lw Z (fun e => clH ar Z tb e c) r (e.set x (n : Int))) 0 Z := hR
    rw [← hR]
    clear hR
    have IH := Lib.hid ih
    clear ih hnc hcv hrv
    have HL12 := Lib.hid hel
    generalize hEL : e.length = EL at *
    clear hel
    obtain ⟨G, hG⟩ : ∃ G : Nat → Option (List Int), G = fun (n : Nat) => lw Z (fun e => clH ar Z tb e c) r (e.set x ((n : Nat) : Int)) := ⟨_, rfl⟩
    have HGG : Hid (∀ (k : Nat) (e2 : List Int), Off (x :: r) e e2 → lw Z (fun e => clH ar Z tb e c) r (e2.set x (k : Int)) = G k) := fun k e2 ho => by rw [hG]; exact lw_off Z _ r _ _ (ho.set _)
    rw [← hG] at hR0
    have HR0 := Lib.hid hR0.symm
    clear hG hR0
    have hxi : (x : Int) < EL := by have := HL12.out; omega
    have zbv : bv < w.heap.size := World.block_lt_of_cell? w ⟨bv, offv, none⟩ hcv0
    have hne : (((m : Int) + 1) == 0) = false := beq_eq_false_iff_ne.2 (by omega)
    have htm1 : ((m + 1 : Nat) : Int) = (m : Int) + 1 := by omega
    have HT := Lib.hid ht
    have hALL : allF pT = .func (.func 57) #[] #[.pointer (some ⟨pT, 0, none⟩)] := rfl
    rw [hALL]
    clear ht
    go_enter Try.func58, Try.ntmps58
    go_wp2_with fail
    go_loopw [17] (fun i wr => ∃ (k : Nat) (ek : List Int), k ≤ Z ∧ i = .int .i64 k ∧ tryW G k (Z - k) = R ∧ OwnI be (be+1) wr (.slice (some ⟨be, offe, none⟩) EL ce) ek ∧ Off (x :: r) e ek ∧ okEnv Z ek = true ∧ Chg base (be+1) w wr ∧ TS ar Z tb L H v u base top pT ad cap c rs wr) (fun i _ => Z - (intOf i).toNat)
    case atStart => exact ⟨0, e, Nat.zero_le _, rfl, HR0.out, hve, Off.refl _ _, he, Chg.refl _ _ _, HT.out⟩
    case round =>
      obtain ⟨k, ek, hk, rfl, hR, ho, hoff, hoke, hch, hts⟩ := hrel
      have qv := hch.cell zbv (by omega) hcv0
      have hekl : ek.length = EL := hoff.1.trans hEL
      by_cases hlt : k < Z
      · obtain ⟨b1, o1, e1, -, -, hcy, hfy, hst⟩ := ho.at x (by omega)
        simp only [Option.some.injEq, Addr.mk.injEq, and_true] at e1
        obtain ⟨rfl, rfl⟩ := e1
        have hst := hst (k : Int)
        have hCS : Chg base (be+1) w (wr.setCell ⟨be, offe + x, none⟩ (.int .i64 (k : Int))) := hch.trans (Chg.set (p := ⟨be, offe + x, none⟩) _ hbt (Nat.lt_succ_self _) _)
        have hTS : TS ar Z tb L H v u base top pT ad cap c rs (wr.setCell ⟨be, offe + x, none⟩ (.int .i64 (k : Int))) := hts.chg (Chg.set (p := ⟨be, offe + x, none⟩) (lo := be) (hi := be+1) _ (Nat.le_refl _) (Nat.lt_succ_self _) _) htop hH (fun bT h => .inl (hT bT h))
        have hoke2 := okEnv_set hoke x (x := (k : Int)) (by omega) (by omega)
        have hsl : ∀ q : Nat, (natsI r = [] ∨ q = offv + 1) → SlI a b (wr.setCell ⟨be, offe + x, none⟩ (.int .i64 (k : Int))) (.slice (some ⟨bv, q, none⟩) m (cvv - 1)) (natsI r) := fun q hq => by have h9 := (hvv0.chg hCS (by omega)).rest q hq; rw [HM.out] at h9; exact h9
        have HC := Lib.hid (fun q hq => IH.out (ek.set x (k : Int)) _ _ _ a b (fun y hy => hvr y (by simp [hy])) (by simp at hvl; omega) hoke2 hTS (hsl q hq) hst hdv)
        have hge := HGG.out k ek hoff
        rw [hge] at HC
        have hR1 : tryW G k ((Z - k - 1) + 1) = R := by rw [show Z - k - 1 + 1 = Z - k by omega]; exact hR
        have hoff1 := hoff.trans (Off.one x r ek (k : Int))
        have hcap1 : (1 : Int) ≤ cvv := by omega
        have hml : (m : Int) + 1 ≤ cvv := by omega
        have hm1 : (1 : Int) ≤ (m : Int) + 1 := by omega
        have hzk : (k : Int) < (Z : Int) := by omega
        rw [hALL] at HC
        have HKW := Lib.hid hCS
        clear hst hoke2 hsl hge hR hoff hoke ho hCS hch IH HGG HR0 hekl hts hTS HT hve
        cases hGk : G k with
        | some r1 =>
          rw [hGk] at HC
          have hRR := Lib.hid ((tryW_some hGk).symm.trans hR1)
          clear hR1
          by_cases hcap : cvv = 1
          · have hrn : natsI r = [] := List.length_eq_zero_iff.1 (by rw [HM.out]; omega)
            have HC1 := Lib.hid (HC.out offv (.inl hrn))
            obtain rfl : m = 0 := by omega
            subst hcap
            clear HC hrn
            go_wp2_with fail
            refine HC1.out.mono ?_; rintro e' w9 ⟨rfl, t9, c9, e2, o9, f9, k9, r9⟩
            go_wp2_with fail
            go_ret
            rw [← hRR.out]
            exact ⟨rfl, t9, HKW.out.trans c9, e2, o9, hoff1.trans (f9.wider (by simp +contextual)), k9, r9⟩
          · have HC1 := Lib.hid (HC.out (offv + 1) (.inr rfl))
            have hcp : (1 : Int) < cvv := by omega
            clear HC
            go_wp2_with fail
            refine HC1.out.mono ?_; rintro e' w9 ⟨rfl, t9, c9, e2, o9, f9, k9, r9⟩
            go_wp2_with fail
            go_ret
            rw [← hRR.out]
            exact ⟨rfl, t9, HKW.out.trans c9, e2, o9, hoff1.trans (f9.wider (by simp +contextual)), k9, r9⟩
        | none =>
          rw [hGk] at HC
          have hRR := Lib.hid ((tryW_none hGk).symm.trans hR1)
          clear hR1
          by_cases hcap : cvv = 1
          · have hrn : natsI r = [] := List.length_eq_zero_iff.1 (by rw [HM.out]; omega)
            have HC1 := Lib.hid (HC.out offv (.inl hrn))
            obtain rfl : m = 0 := by omega
            subst hcap
            clear HC hrn
            go_wp2_with fail
            refine HC1.out.mono ?_; rintro e' w9 ⟨rfl, t9, c9, e2, o9, f9, k9, r9⟩
            go_wp2_with fail
            refine ⟨?_, ?measure⟩
            iterate 90 (try apply Exists.intro)
            refine ⟨?rel, rfl⟩
            case rel => exact ⟨k+1, e2, by omega, by go_num, by rw [← hRR.out, show Z - (k + 1) = Z - k - 1 by omega], o9, hoff1.trans (f9.wider (by simp +contextual)), k9, HKW.out.trans c9, t9⟩
            case measure => simp [intOf]; omega
          · have HC1 := Lib.hid (HC.out (offv + 1) (.inr rfl))
            have hcp : (1 : Int) < cvv := by omega
            clear HC
            go_wp2_with fail
            refine HC1.out.mono ?_; rintro e' w9 ⟨rfl, t9, c9, e2, o9, f9, k9, r9⟩
            go_wp2_with fail
            go_roundw
            case rel => exact ⟨k+1, e2, by omega, by go_num, by rw [← hRR.out, show Z - (k + 1) = Z - k - 1 by omega], o9, hoff1.trans (f9.wider (by simp +contextual)), k9, HKW.out.trans c9, t9⟩
            case measure => simp [intOf]; omega
      · obtain rfl : k = Z := by omega
        have hR2 : Hid (R = none) := by show _ = _; rw [← hR, Nat.sub_self]; rfl
        clear hekl IH
        go_wp2_with fail
        go_ret
        rw [hR2.out]
        exact ⟨rfl, hts, hch, _, ho, hoff, hoke, fun r h => by simp at h⟩
end Go.Proofs.Ytlcjcihohclmhaa
end
section
/- append of a row of ints to a row of ints, at a step of a region that draws. -/
namespace Go.Proofs.Ytlcjcihohclmhaa
open Go.RowKit

theorem step_append_row {w : World} {ops : Array Oper} {o : Oper} {a : Act} {K : Act → World → Prop} {Q : Exit → Act → World → Prop} {E : Prop} (hgd : o.guard = none) (s x : Operand) (d : Nat) (hd : o.dst = some d)
    (ho : o.op = .call { callee := .builtin .append, args := #[s, x], argTypes := #[24, 24] })
    (base base2 : Nat) (v y : Value) (xs ys : List Int) (hs : a.eval s = v) (hown : RowI base w v xs) (hx : a.eval x = y) (hy : RowI base2 w y ys)
    (hl : xs.length + ys.length ≤ 1099511627776) (hbase : base ≤ w.heap.size)
    (h : ∀ ad n c w', RowI base w' (.slice ad n c) (xs ++ ys) → w.grownBy w' v.ownBlock → K (a.put (some d) (.slice ad n c)) w') :
    if Region.wanted o (yielded ops a.tmps) = true then Oper.wp Try.prog o a w K Q else E := by
  obtain ⟨i0, hi0, hz0, hz1, hz2⟩ := info_parts Try.info3
  have hw : Region.wanted o (yielded ops a.tmps) = true := by simp [Region.wanted, hgd]
  rw [if_pos hw]
  rw [← hd] at h
  rcases hy.2 with ⟨rfl, hn⟩ | ⟨g, cap, cur, rfl, hg, hh, hn, hc, hsz, ht⟩
  · have he : ys = [] := List.length_eq_zero_iff.1 hn
    subst he
    obtain ⟨ad, n, c, rfl⟩ := own_form hown
    have hrun := run_append_owned_none (P := Try.prog) (w := w) base 24 o.type 3 i0 1 Try.underlying24 hi0 (.slice ad n c) xs.length (xs.map (Value.int .i64)) hown
    unfold Oper.wp
    simp [execOp, ho, resolve, invoke, builtin, hs, hx, hrun, Result.andThen]
    exact h ad n c w (by simpa using hown) (World.grownBy.refl _ _)
  · refine wp_append_own w s x 24 ho base 3 i0 (.int .i64 0) 1 8 Try.underlying24 hi0 hz0 hz1 hz2 rfl (by decide) v xs.length (xs.map (Value.int .i64)) hs hown
      ⟨g, 0, none⟩ ys.length cap (ys.map (Value.int .i64)) hx (by simp) (hy.cells rfl) (ones_int _) (by unfold maxLen; omega) (by omega) hbase (fun v' w' h1 h2 _ => ?_)
    obtain ⟨ad, n, c, rfl⟩ := own_form h1
    exact h ad n c w' (by simpa [RowI] using h1) h2
end Go.Proofs.Ytlcjcihohclmhaa
end
section
/- Chapter 4, the reference: VarsIn. -/
namespace Go.Proofs.Ytlcjcihohclmhaa
open Go.RowKit

theorem varsTo_congr {f g : Nat → Bool} (n : Nat) (h : ∀ j, j < n → f j = g j) : varsTo f n = varsTo g n := by
  unfold varsTo
  refine List.filter_congr fun j hj => h j (by simpa using hj)
theorem varsTo_mem {f : Nat → Bool} {n j : Nat} : j ∈ varsTo f n ↔ j < n ∧ f j = true := by simp [varsTo]
theorem mk_app (a b : List Int) (j : Nat) : mk (a ++ b) j = (mk a j || mk b j) := by
  unfold mk; rw [Bool.eq_iff_iff]; simp
/-- The numbers of two terms' variables. -/
def two12 (xl xr : List Int) : List Nat := varsTo (mk xl) 12 ++ varsTo (mk xr) 12
theorem two12_lt {xl xr : List Int} : ∀ m ∈ two12 xl xr, m < 12 := by
  intro m hm
  unfold two12 at hm
  rcases List.mem_append.1 hm with h | h <;> exact (varsTo_mem.1 h).1
theorem two12_len (xl xr : List Int) : (two12 xl xr).length ≤ 24 := by
  have h1 := varsTo_len (mk xl) 12
  have h2 := varsTo_len (mk xr) 12
  unfold two12; simp; omega
theorem two12_nats (xl xr : List Int) : natsI (varsTo (mk xl) 12) ++ natsI (varsTo (mk xr) 12) = natsI (two12 xl xr) := by simp [two12, natsI]
theorem two12_mem {A xl xr : List Int} {F G : Nat → Bool} (hF : ∀ j, j < 12 → F j = mk A j) (hG : ∀ j, j < 12 → G j = (F j || decide (j ∈ two12 xl xr))) : ∀ j, j < 12 → G j = mk (A ++ xl ++ xr) j := by
  intro j hj
  rw [hG j hj, hF j hj, mk_app, mk_app, Bool.or_assoc]
  congr 1
  rw [Bool.eq_iff_iff]
  simp [two12, varsTo_mem, hj]
theorem put_take {N : List Nat} {i : Nat} (hi : i < N.length) {F F0 : Nat → Bool} (h : ∀ j, j < 12 → F j = (F0 j || decide (j ∈ N.take i))) : ∀ j, j < 12 → setF F (N.getD i 0) j = (F0 j || decide (j ∈ N.take (i+1))) := by
  intro j hj
  have e : N.take (i+1) = N.take i ++ [N.getD i 0] := by rw [List.take_succ_eq_append_getElem hi]; simp [List.getD, hi]
  rw [e]
  unfold setF
  by_cases hq : j = N.getD i 0
  · rw [if_pos hq]; simp [hq]
  · rw [if_neg hq, h j hj]; simp [List.mem_append]; simp [List.getD] at hq; simp [hq]

set_option maxRecDepth 100000 in
set_option maxHeartbeats 1000000 in
theorem l4Vars_c (l h : Nat) (v : Value) (c : List Lt) (w : World) (hx : shortC c) (hlow : ∀ t ∈ flatC c, ∀ k, k < t.length → -12 ≤ t.getD k 0) (hv : SlC l h w v c) :
    Calls Try.prog 62 #[v] w (RetI w (natsI (varsTo (mk (flatC c).flatten) 12))) := by
  obtain ⟨ad, cap, rfl⟩ := hv.form
  obtain ⟨hxl, hxj⟩ := hx
  go_enter Try.func62, Try.ntmps62
  go_wp2_with fail
  go_loopw [3, 10] (fun o i wr => ∃ (k : Nat) (F : Nat → Bool), k ≤ c.length ∧ i = .int .i64 k ∧ RowI w.heap.size wr o (natsI (varsTo F 12)) ∧ (varsTo F 12 = [] → o = .slice none 0 0) ∧ (∀ j, j < 12 → F j = mk (flatC (c.take k)).flatten j) ∧ Bel w wr) (fun _ i _ => c.length - (intOf i).toNat)
  case atStart =>
    have e : varsTo (fun _ => false) 12 = [] := rfl
    exact ⟨0, fun _ => false, Nat.zero_le _, rfl, by rw [e]; exact World.ownsRow_nil _ _ _ _, fun _ => rfl, fun j _ => by simp [mk, flatC], Bel.rfl' _⟩
  case round =>
    obtain ⟨k, F, hk, rfl, hrow, hnil, hF, hb⟩ := hrel
    by_cases hlt : k < c.length
    · obtain ⟨b, off, u1, u2, rfl, hbs, c1, c2, c3, s1, s2⟩ := hv.at hb k hlt
      obtain ⟨hm1, hm2⟩ := hxj k hlt
      have HFT : Hid ((flatC (c.take (k+1))).flatten = (flatC (c.take k)).flatten ++ (c.getD k lt0).2.1 ++ (c.getD k lt0).2.2) := by show _ = _; rw [flatC_take c k hlt]; simp
      have hlo1 := hlow _ (show (c.getD k lt0).2.1 ∈ flatC c from List.mem_flatMap.2 ⟨_, mem_getD c lt0 k hlt, by simp⟩)
      have hlo2 := hlow _ (show (c.getD k lt0).2.2 ∈ flatC c from List.mem_flatMap.2 ⟨_, mem_getD c lt0 k hlt, by simp⟩)
      have hin1 : (k : Int) < c.length := by omega
      generalize c.getD k lt0 = x at *
      obtain ⟨p, xl, xr⟩ := x
      simp only at *
      obtain ⟨a1, d1, rfl⟩ := s1.form
      obtain ⟨a2, d2, rfl⟩ := s2.form
      have HL := Lib.hid (fun (w' : World) (hq : Bel wr w') => l1Vars_r l h _ xl w' (by omega) hlo1 (s1.below hq))
      have HR := Lib.hid (fun (w' : World) (hq : Bel wr w') => l1Vars_r l h _ xr w' (by omega) hlo2 (s2.below hq))
      have hvl1 : (natsI (varsTo (mk xl) 12)).length ≤ 12 := by rw [natsI_len]; exact varsTo_len _ _
      have hvl2 : (natsI (varsTo (mk xr) 12)).length ≤ 12 := by rw [natsI_len]; exact varsTo_len _ _
      have HT := Lib.hid (two12_nats xl xr)
      have HTL := Lib.hid (two12_lt (xl := xl) (xr := xr))
      have htl := two12_len xl xr
      have HM := Lib.hid (fun G => two12_mem (A := (flatC (c.take k)).flatten) (xl := xl) (xr := xr) (F := F) (G := G) hF)
      have HROW := Lib.hid hrow
      have HNIL := Lib.hid hnil
      generalize hA1 : natsI (varsTo (mk xl) 12) = A1 at *
      generalize hA2 : natsI (varsTo (mk xr) 12) = A2 at *
      generalize hN : two12 xl xr = N at *
      clear hv s1 s2 hlow hlo1 hlo2 hF hA1 hA2 hN hrow hnil hxj
      have HB0 : Bel wr (wr.alloc (.cells #[.bool p, .slice a1 xl.length d1, .slice a2 xr.length d2] 60)).drew := (Bel.alloc0 _ _).drew
      have HZ0 : wr.heap.size + 1 ≤ (wr.alloc (.cells #[.bool p, .slice a1 xl.length d1, .slice a2 xr.length d2] 60)).drew.heap.size := by simp [World.drew]
      have k1 : (wr.alloc (.cells #[.bool p, .slice a1 xl.length d1, .slice a2 xr.length d2] 60)).drew.cell? ⟨wr.heap.size, 1, none⟩ = some (.slice a1 xl.length d1) := boxc ((Bel.rfl' _).drew) 1 _ rfl
      have k2 : (wr.alloc (.cells #[.bool p, .slice a1 xl.length d1, .slice a2 xr.length d2] 60)).drew.cell? ⟨wr.heap.size, 2, none⟩ = some (.slice a2 xr.length d2) := boxc ((Bel.rfl' _).drew) 2 _ rfl
      go_wp2_with fail
      go_region_held_law (fun w' => w'.cell? ⟨wr.heap.size, 1, none⟩ = some (.slice a1 xl.length d1) ∧ w'.cell? ⟨wr.heap.size, 2, none⟩ = some (.slice a2 xr.length d2))
        (first | exact ⟨k15, k25⟩ | exact ⟨k14, k24⟩ | exact ⟨k13, k23⟩ | exact ⟨k1, k2⟩ | fail)
        (first
          | (refine step_append_row ?a1 (.tmp 16) (.tmp 19) 20 ?a6 ?a2 (wr.heap.size + 1) (wr.heap.size + 1) _ _ A1 A2 ?a3 R1 ?a4 R2 (by omega) HZ4 ?a5; (case a1 => rfl); (case a6 => rfl); (case a2 => rfl); (case a3 => first | rfl | (simp [Act.eval, Act.put]; done)); (case a4 => first | rfl | (simp [Act.eval, Act.put]; done)); intro a5 n5 c5 w5 R5 hg5; have HB5 := HB4.grown hg5 (fun q hq => Nat.le_of_succ_le (own_base R1 q hq)); have k15 := hg5.cell k14 (fun e => Nat.lt_irrefl _ (own_base R1 _ e.symm)); have k25 := hg5.cell k24 (fun e => Nat.lt_irrefl _ (own_base R1 _ e.symm)))
          | (go_at_call 80; refine (HR.out _ HB3).mono ?_; rintro e w4 ⟨p2, m2, q2, rfl, r2, g4⟩; have HB4 := HB3.step g4; have HZ4 := Nat.le_trans HZ3 g4.size; have R1 : RowI (wr.heap.size + 1) w4 _ A1 := RowI.mono (ownsRow_bel r1 g4) HZ0; have R2 : RowI (wr.heap.size + 1) w4 _ A2 := RowI.mono r2 HZ3; have k14 := g4.at (World.block_lt_of_cell? _ ⟨_, _, none⟩ k13) k13; have k24 := g4.at (World.block_lt_of_cell? _ ⟨_, _, none⟩ k23) k23)
          | (go_at_call 80; refine (HL.out _ HB3).mono ?_; rintro e w4 ⟨p1, m1, q1, rfl, r1, g4⟩; have HB4 := HB3.step g4; have HZ4 := Nat.le_trans HZ3 g4.size; have R2 : RowI (wr.heap.size + 1) w4 _ A2 := RowI.mono (ownsRow_bel r2 g4) HZ0; have R1 : RowI (wr.heap.size + 1) w4 _ A1 := RowI.mono r1 HZ3; have k14 := g4.at (World.block_lt_of_cell? _ ⟨_, _, none⟩ k13) k13; have k24 := g4.at (World.block_lt_of_cell? _ ⟨_, _, none⟩ k23) k23)
          | (go_at_call 80; refine (HL.out _ HB0).mono ?_; rintro e w3 ⟨p1, m1, q1, rfl, r1, g3⟩; have HB3 := HB0.step g3; have HZ3 := Nat.le_trans HZ0 g3.size; have k13 := g3.at (World.block_lt_of_cell? _ ⟨_, _, none⟩ k1) k1; have k23 := g3.at (World.block_lt_of_cell? _ ⟨_, _, none⟩ k2) k2)
          | (go_at_call 80; refine (HR.out _ HB0).mono ?_; rintro e w3 ⟨p2, m2, q2, rfl, r2, g3⟩; have HB3 := HB0.step g3; have HZ3 := Nat.le_trans HZ0 g3.size; have k13 := g3.at (World.block_lt_of_cell? _ ⟨_, _, none⟩ k1) k1; have k23 := g3.at (World.block_lt_of_cell? _ ⟨_, _, none⟩ k2) k2)
          | fail)
      all_goals
        have hm5 := row_len R5
        subst hm5
        have hsl5 := (OwnI.of_row R5).sl
        have hal : (A1 ++ A2).length = N.length := by rw [HT.out, natsI_len]
        have HSL : Hid (SlI (wr.heap.size + 1) w5.heap.size w5 (.slice a5 (A1 ++ A2).length c5) (natsI N)) := by show SlI _ _ _ _ _; rw [← HT.out]; exact hsl5
        have hO5 : Hid (RowI w.heap.size w5 u3 (natsI (varsTo F 12))) := by show RowI _ _ _ _; exact ownsRow_bel HROW.out HB5
        have HNIL2 := Lib.hid HNIL.out
        have hB5 := hb.step HB5
        clear r1 r2 R1 R2 R5 hg5 hsl5 k1 k2 k13 k23 k14 k24 k15 k25 g3 g4 HT HB4 HB3 HB0 HZ0 HZ3 HZ4 HL HR c1 c2 c3
        rw [hal] at *
        go_wp2_with fail
        go_loopw [3, 22] (fun o i w6 => ∃ (q : Nat) (G : Nat → Bool), q ≤ N.length ∧ i = .int .i64 q ∧ RowI w.heap.size w6 o (natsI (varsTo G 12)) ∧ (varsTo G 12 = [] → o = .slice none 0 0) ∧ (∀ j, j < 12 → G j = (F j || decide (j ∈ N.take q))) ∧ Bel w5 w6) (fun _ i _ => N.length - (intOf i).toNat)
        case atStart => exact ⟨0, F, Nat.zero_le _, rfl, hO5.out, HNIL2.out, fun j _ => by simp, Bel.rfl' _⟩
        case round =>
          obtain ⟨q, G, hq, rfl, hrG, hnG, hG, hb6⟩ := hrel
          by_cases hlq : q < N.length
          · obtain ⟨ad5, cap5, e5, _, _, hr5⟩ := HSL.out
            simp only [Value.slice.injEq] at e5
            obtain ⟨rfl, -, rfl⟩ := e5
            obtain ⟨b5, o5, rfl, -, hcell⟩ := rd hr5 hb6 q (by rw [natsI_len]; exact hlq)
            rw [nget _ _ hlq] at hcell
            have hm12 := HTL.out _ (mem_getD N 0 q hlq)
            have HP := Lib.hid (put_take hlq hG)
            have hq1 : (q : Int) < N.length := by omega
            have hps := put_some G (N.getD q 0) hm12
            clear hr5 hG HSL
            generalize N.getD q 0 = m at *
            cases hl : varsTo G 12 with
            | nil =>
              have ho := hnG hl
              have E4 := Lib.hid (put_empty hm12 hl)
              have HPS := Lib.hid hps
              subst ho
              clear hrG hnG hl hps
              go_wp2_with fail
              refine (l1Put_nz _ m _ rfl).mono ?_; rintro e w7 ⟨a7, n7, c7, rfl, ho7, hb7⟩
              go_wp2_with fail
              go_roundw
              case rel => exact ⟨q+1, setF G m, by omega, by go_num, by rw [E4.out]; exact RowI.mono ho7 (hB5.step hb6).size, fun h => by have := HPS.out; rw [h] at this; simp at this, HP.out, hb6.step hb7⟩
              case measure => simp [intOf]; omega
            | cons y ys =>
              have hpos : 0 < (varsTo G 12).length := by rw [hl]; simp
              have HPS := Lib.hid hps
              have HO := Lib.hid hrG
              clear hrG hnG hl hps
              go_wp2_with fail
              refine (l1Put_q _ w.heap.size _ G m _ rfl hm12 (hB5.step hb6).size hpos HO.out).mono ?_; rintro e w7 ⟨a7, n7, c7, rfl, ho7, hb7⟩
              go_wp2_with fail
              go_roundw
              case rel => exact ⟨q+1, setF G m, by omega, by go_num, ho7, fun h => by have := HPS.out; rw [h] at this; simp at this, HP.out, hb6.step hb7⟩
              case measure => simp [intOf]; omega
          · rw [List.take_of_length_le (by omega)] at hG
            have hGG := HM.out G hG
            rw [← HFT.out] at hGG
            have HGG := Lib.hid hGG
            have HO := Lib.hid hrG
            have HNG := Lib.hid hnG
            clear hG hGG hrG hnG HSL
            have hq1 : ¬ (q : Int) < N.length := by omega
            go_wp2_with fail
            go_roundw
            case rel => exact ⟨k+1, G, by omega, by go_num, HO.out, HNG.out, HGG.out, hB5.step hb6⟩
            case measure => simp [intOf]; omega
    · rw [List.take_of_length_le (by omega)] at hF
      obtain ⟨g, n, c2, hv'⟩ := own_form hrow
      subst hv'
      have E := Lib.hid (varsTo_congr 12 hF)
      have HO := Lib.hid hrow
      clear hrow hnil hF
      go_wp2_with fail
      go_ret
      exact ⟨_, _, _, rfl, by rw [← E.out]; exact OwnI.of_row HO.out, hb⟩
theorem flat_low1 {ar : List Int} {c : List Lt} (h : goodClause ar c = true) : ∀ t ∈ flatC c, ∀ k, k < t.length → -12 ≤ t.getD k 0 :=
  fun _ ht => low_memC fun _ hn => ok_low (flat_ok (goodClause_iff.1 h).2.2 ht) hn

end Go.Proofs.Ytlcjcihohclmhaa
end
