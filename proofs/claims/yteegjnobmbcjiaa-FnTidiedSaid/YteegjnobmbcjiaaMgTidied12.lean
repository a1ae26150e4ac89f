/- Texts merged, part 12. -/
import Derived.Test.YteegjnobmbcjiaaMgTidied11
section
/- SameUpTo: the program's. -/
namespace Go.Proofs.Yteegjnobmbcjiaa
open Go.RowKit

theorem SlS.one {w : World} {va : Value} {a : List Int} {lo hi : Nat} (h : SlI lo hi w va a) (T : TypeId) : SlS 0 (w.alloc (.cells #[va] T)).heap.size (w.alloc (.cells #[va] T)) (.slice (some ⟨w.heap.size, 0, none⟩) 1 1) [a] := by
  refine ⟨_, 1, rfl, Nat.le_refl _, ⟨by unfold maxLen; omega, fun h => by simp at h⟩, fun _ => ⟨w.heap.size, 0, rfl, Nat.zero_le _, by simp, fun j hj => ?_⟩⟩
  obtain rfl : j = 0 := by simp at hj; omega
  refine ⟨va, ?_, ?_⟩
  · rw [World.cell?_alloc_new w]; rfl
  · have := (h.in').alloc (.cells #[va] T)
    exact this.mono (Nat.le_refl _) (by simp)
theorem SlS.one' {w : World} {va : Value} {a : List Int} {lo hi B : Nat} (h : SlI lo hi w va a) (T : TypeId) (hB : B = w.heap.size) : SlS 0 (w.alloc (.cells #[va] T)).heap.size (w.alloc (.cells #[va] T)) (.slice (some ⟨B, 0, none⟩) 1 1) [a] := hB ▸ SlS.one h T
theorem short_one {a : List Int} (h : a.length ≤ 1048576) : short [a] := by
  refine ⟨by simp, fun j hj => ?_⟩
  obtain rfl : j = 0 := by simp at hj; omega
  simpa [List.getD] using h
def sameOk (ar a b : List Int) : Bool := renameOk ar [a] && renameOk ar [b]
def sameAns (ar a b : List Int) : Bool := sameOk ar a b && decide (renT [] a = renT [] b)
theorem rename_one {ar a : List Int} (h : renameOk ar [a] = true) : renameAns ar [a] = [renT [] a] := by rw [renameAns_yes h]; simp [renS]
theorem renameOk_one {ar a : List Int} : renameOk ar [a] = goodTerm ar a := by simp [renameOk, goodTerm]

end Go.Proofs.Yteegjnobmbcjiaa
end
section
/- SameUpTo: the reference's. -/
namespace Go.Proofs.Yteegjnobmbcjiaa
open Go.RowKit

/-- A slice of slices somewhere. -/
def ExS (w : World) (v : Value) (xss : List (List Int)) : Prop := ∃ lo hi, SlS lo hi w v xss
theorem ExS.below {w w' : World} {v : Value} {xss : List (List Int)} (h : ExS w v xss) (hb : Bel w w') : ExS w' v xss := h.elim fun lo h => h.elim fun hi h => ⟨lo, hi, h.below hb⟩
theorem ExS.alloc {w : World} {v : Value} {xss : List (List Int)} (h : ExS w v xss) (o : Obj) : ExS (w.alloc o) v xss := h.below (Bel.alloc0 w o)
theorem ExS.one {w : World} {va : Value} {a : List Int} {lo hi B : Nat} (h : SlI lo hi w va a) (T : TypeId) (hB : B = w.heap.size) : ExS (w.alloc (.cells #[va] T)) (.slice (some ⟨B, 0, none⟩) 1 1) [a] := ⟨_, _, SlS.one' h T hB⟩
theorem rows_one {ar a : List Int} (h : okTerm ar a = true) : rows40 [a] := by
  refine ⟨by simp, fun j hj => ?_⟩
  obtain rfl : j = 0 := by simp at hj; omega
  exact ⟨((okTerm_iff _ _).1 h).2.1, okTerm_low h⟩
end Go.Proofs.Yteegjnobmbcjiaa
end
section
/- Renaming: again is the same, and each list alone. -/
namespace Go.Proofs.Yteegjnobmbcjiaa
open Go.RowKit

theorem stepM_sub {met : List Int} {n x : Int} (h : x ∈ met) : x ∈ stepM met n := by unfold stepM; split; exact List.mem_append_left _ h; exact h
theorem metT_sub {x : Int} : ∀ (t met : List Int), x ∈ met → x ∈ metT met t
  | [], _, h => h
  | n :: t, met, h => metT_sub t (stepM met n) (stepM_sub h)
theorem metS_sub {x : Int} : ∀ (l : List (List Int)) (met : List Int), x ∈ met → x ∈ metS met l
  | [], _, h => h
  | t :: l, met, h => metS_sub l (metT met t) (metT_sub t met h)
theorem metT_has {x : Int} (hx : x < 0) : ∀ (t met : List Int), x ∈ t → x ∈ metT met t
  | n :: t, met, h => by
    rcases List.mem_cons.1 h with rfl | h
    · exact metT_sub t _ (stepM_mem met x hx)
    · exact metT_has hx t _ h
theorem metS_has {x : Int} (hx : x < 0) : ∀ (l : List (List Int)) (met : List Int) (t : List Int), t ∈ l → x ∈ t → x ∈ metS met l
  | s :: l, met, t, h, ht => by
    rcases List.mem_cons.1 h with rfl | h
    · exact metS_sub l _ (metT_has hx t met ht)
    · exact metS_has hx l _ t h ht
/-- More that is met turns no earlier place. -/
def Ext (a b : List Int) : Prop := ∃ c, b = a ++ c
theorem Ext.rfl' (a : List Int) : Ext a a := ⟨[], by simp⟩
theorem Ext.trans {a b c : List Int} (h : Ext a b) (k : Ext b c) : Ext a c := by obtain ⟨x, rfl⟩ := h; obtain ⟨y, rfl⟩ := k; exact ⟨x ++ y, by simp⟩
theorem stepM_ext (met : List Int) (n : Int) : Ext met (stepM met n) := by unfold stepM; split; exact ⟨[n], rfl⟩; exact Ext.rfl' _
theorem metT_ext : ∀ (t met : List Int), Ext met (metT met t)
  | [], met => Ext.rfl' met
  | n :: t, met => (stepM_ext met n).trans (metT_ext t _)
theorem metS_ext : ∀ (l : List (List Int)) (met : List Int), Ext met (metS met l)
  | [], met => Ext.rfl' met
  | t :: l, met => (metT_ext t met).trans (metS_ext l _)
theorem valM_ext {a b : List Int} {n : Int} (h : Ext a b) (hn : n < 0 → n ∈ a) : valM b n = valM a n := by
  obtain ⟨c, rfl⟩ := h
  unfold valM
  split
  · rename_i h0
    rw [List.idxOf_append, if_pos (hn h0)]
  · rfl
theorem renT_map {M : List Int} : ∀ (t met : List Int), Ext (metT met t) M → renT met t = t.map (valM M)
  | [], _, _ => rfl
  | n :: t, met, h => by
    have h1 : Ext (stepM met n) M := (metT_ext t _).trans h
    rw [renT, List.map_cons, renT_map t _ h, ← valM_ext h1 (fun hn => stepM_mem met n hn)]
theorem renS_map {M : List Int} : ∀ (l : List (List Int)) (met : List Int), Ext (metS met l) M → renS met l = l.map (fun t => t.map (valM M))
  | [], _, _ => rfl
  | t :: l, met, h => by
    rw [renS, List.map_cons, renS_map l _ h, renT_map t met ((metS_ext l _).trans h)]
/-- A renaming that is one to one on what is met. -/
structure Inj1 (σ : Int → Int) (S : List Int) : Prop where
  pos : ∀ n, ¬ n < 0 → σ n = n
  neg : ∀ n ∈ S, n < 0 → σ n < 0
  inj : ∀ m ∈ S, ∀ n ∈ S, σ m = σ n → m = n
theorem mem_map_inj {σ : Int → Int} {S : List Int} (h : Inj1 σ S) {met : List Int} (hm : ∀ x ∈ met, x ∈ S) {n : Int} (hn : n ∈ S) : σ n ∈ met.map σ ↔ n ∈ met := by
  rw [List.mem_map]
  constructor
  · rintro ⟨m, h1, h2⟩
    rw [h.inj n hn m (hm m h1) h2.symm]; exact h1
  · exact fun h1 => ⟨n, h1, rfl⟩
theorem idx_map_inj {σ : Int → Int} {S : List Int} (h : Inj1 σ S) : ∀ {met : List Int}, (∀ x ∈ met, x ∈ S) → ∀ {n : Int}, n ∈ S → (met.map σ).idxOf (σ n) = met.idxOf n
  | [], _, _, _ => rfl
  | m :: met, hm, n, hn => by
    rw [List.map_cons, List.idxOf_cons, List.idxOf_cons]
    by_cases e : m = n
    · subst e; simp
    · have e2 : σ m ≠ σ n := fun h2 => e (h.inj m (hm m List.mem_cons_self) n hn h2)
      have e3 : (σ m == σ n) = false := by simpa using e2
      have e4 : (m == n) = false := by simpa using e
      rw [e3, e4, idx_map_inj h (fun x hx => hm x (List.mem_cons_of_mem _ hx)) hn]
theorem stepM_map {σ : Int → Int} {S : List Int} (h : Inj1 σ S) {met : List Int} (hm : ∀ x ∈ met, x ∈ S) {n : Int} (hn : n < 0 → n ∈ S) : stepM (met.map σ) (σ n) = (stepM met n).map σ ∧ ∀ x ∈ stepM met n, x ∈ S := by
  by_cases h0 : n < 0
  · have hs := hn h0
    have h1 := h.neg n hs h0
    by_cases h2 : n ∈ met
    · rw [stepM_old h2, stepM_old ((mem_map_inj h hm hs).2 h2)]; exact ⟨rfl, hm⟩
    · rw [stepM_new h0 h2, stepM_new h1 (fun h3 => h2 ((mem_map_inj h hm hs).1 h3)), List.map_append]
      refine ⟨rfl, fun x hx => ?_⟩
      rcases List.mem_append.1 hx with h3 | h3
      · exact hm x h3
      · simp at h3; rw [h3]; exact hs
  · rw [h.pos n h0, stepM_sym h0, stepM_sym h0]; exact ⟨rfl, hm⟩
theorem renT_inj {σ : Int → Int} {S : List Int} (h : Inj1 σ S) : ∀ {t met : List Int}, (∀ x ∈ met, x ∈ S) → (∀ x ∈ t, x < 0 → x ∈ S) → renT (met.map σ) (t.map σ) = renT met t ∧ metT (met.map σ) (t.map σ) = (metT met t).map σ ∧ ∀ x ∈ metT met t, x ∈ S
  | [], met, hm, _ => ⟨rfl, rfl, hm⟩
  | n :: t, met, hm, ht => by
    obtain ⟨h1, h2⟩ := stepM_map h hm (ht n List.mem_cons_self)
    obtain ⟨a1, a2, a3⟩ := renT_inj h (t := t) h2 (fun x hx => ht x (List.mem_cons_of_mem _ hx))
    have hv : valM ((stepM met n).map σ) (σ n) = valM (stepM met n) n := by
      unfold valM
      by_cases h0 : n < 0
      · have hs := ht n List.mem_cons_self h0
        rw [if_pos h0, if_pos (h.neg n hs h0), idx_map_inj h h2 hs]
      · rw [h.pos n h0]
        rw [if_neg h0, if_neg h0]
    refine ⟨?_, ?_, a3⟩
    · rw [List.map_cons, renT, renT, h1, hv, a1]
    · show metT (stepM (met.map σ) (σ n)) (t.map σ) = _
      rw [h1, a2]; rfl
theorem renS_inj {σ : Int → Int} {S : List Int} (h : Inj1 σ S) : ∀ {l : List (List Int)} {met : List Int}, (∀ x ∈ met, x ∈ S) → (∀ t ∈ l, ∀ x ∈ t, x < 0 → x ∈ S) → renS (met.map σ) (l.map fun t => t.map σ) = renS met l
  | [], _, _, _ => rfl
  | t :: l, met, hm, hl => by
    obtain ⟨a1, a2, a3⟩ := renT_inj h (t := t) hm (hl t List.mem_cons_self)
    rw [List.map_cons, renS, renS, a1, a2, renS_inj h a3 (fun s hs => hl s (List.mem_cons_of_mem _ hs))]
theorem metT_nodup : ∀ (t met : List Int), met.Nodup → (metT met t).Nodup
  | [], _, h => h
  | n :: t, met, h => metT_nodup t _ (by
      unfold stepM
      split
      · rename_i h0
        rw [List.nodup_append]
        exact ⟨h, by simp, fun a ha b hb => by simp at hb; subst hb; intro e; subst e; exact h0.2 ha⟩
      · exact h)
theorem metS_nodup : ∀ (l : List (List Int)) (met : List Int), met.Nodup → (metS met l).Nodup
  | [], _, h => h
  | t :: l, met, h => metS_nodup l _ (metT_nodup t met h)
theorem metT_of {x : Int} : ∀ (t met : List Int), x ∈ metT met t → x ∈ met ∨ (x ∈ t ∧ x < 0)
  | [], _, h => .inl h
  | n :: t, met, h => by
    rcases metT_of t _ h with h1 | ⟨h1, h2⟩
    · unfold stepM at h1
      split at h1
      · rename_i h0
        rcases List.mem_append.1 h1 with h3 | h3
        · exact .inl h3
        · simp at h3; rw [h3]; exact .inr ⟨List.mem_cons_self, h0.1⟩
      · exact .inl h1
    · exact .inr ⟨List.mem_cons_of_mem _ h1, h2⟩
theorem metS_of {x : Int} : ∀ (l : List (List Int)) (met : List Int), x ∈ metS met l → x ∈ met ∨ ∃ t ∈ l, x ∈ t ∧ x < 0
  | [], _, h => .inl h
  | t :: l, met, h => by
    rcases metS_of l _ h with h1 | ⟨s, h1, h2⟩
    · rcases metT_of t met h1 with h3 | h3
      · exact .inl h3
      · exact .inr ⟨t, List.mem_cons_self, h3⟩
    · exact .inr ⟨s, List.mem_cons_of_mem _ h1, h2⟩
theorem low_mem {ar t : List Int} (h : okTerm ar t = true) {x : Int} (hx : x ∈ t) : -12 ≤ x := by
  obtain ⟨i, hi, e⟩ := List.getElem_of_mem hx
  have := okTerm_low h i hi
  rwa [show t.getD i 0 = x from by simp [List.getD, hi, e]] at this
theorem met12 {ar : List Int} {l : List (List Int)} (h : ∀ t ∈ l, okTerm ar t = true) : (metS [] l).length ≤ 12 := by
  have hm : ∀ x ∈ metS [] l, -12 ≤ x ∧ x < 0 := fun x hx => by
    rcases metS_of l [] hx with h1 | ⟨t, h1, h2, h3⟩
    · simp at h1
    · exact ⟨low_mem (h t h1) h2, h3⟩
  have hn := metS_nodup l [] List.nodup_nil
  have h2 : ((metS [] l).map fun x => (-1 - x).toNat).Nodup := by
    show List.Pairwise (· ≠ ·) _
    rw [List.pairwise_map]
    refine List.Pairwise.imp_of_mem (fun {a b} ha hb hab e => hab ?_) hn
    have h1 := hm a ha
    have h2 := hm b hb
    omega
  have := lenN 12 _ h2 (fun v hv => by obtain ⟨x, hx, rfl⟩ := List.mem_map.1 hv; have := hm x hx; omega)
  simpa using this
theorem valM_inj {M S : List Int} (h : ∀ x ∈ S, x ∈ M) (hs : ∀ x ∈ S, x < 0) : Inj1 (valM M) S := by
  refine ⟨fun n hn => val_sym hn, fun n _ hn => ?_, fun m hm n hn e => ?_⟩
  · unfold valM; rw [if_pos hn]; omega
  · unfold valM at e
    rw [if_pos (hs m hm), if_pos (hs n hn)] at e
    have e2 : M.idxOf m = M.idxOf n := by omega
    have h1 := List.idxOf_lt_length_iff.2 (h m hm)
    have h3 := List.getElem_idxOf h1
    have h4 := List.getElem_idxOf (List.idxOf_lt_length_iff.2 (h n hn))
    rw [← h3, ← h4]
    simp only [e2]
theorem map_seq {ar : List Int} {σ : Int → Int} (hp : ∀ n, ¬ n < 0 → σ n = n) : ∀ {t : List Int} {k : Nat}, (∀ x ∈ t, x < 0 → -12 ≤ σ x ∧ σ x < 0) → seqT ar k t → seqT ar k (t.map σ)
  | [], _, _, h => h
  | n :: t, k, hb, h => by
    cases k with
    | zero => have := seqT_zero h; simp at this
    | succ k =>
      obtain ⟨h1, h2⟩ := seqT_cons.1 h
      rw [List.map_cons]
      by_cases h0 : n < 0
      · obtain ⟨b1, b2⟩ := hb n List.mem_cons_self h0
        have ih := map_seq hp (t := t) (fun x hx => hb x (List.mem_cons_of_mem _ hx)) h2
        refine seqT_cons.2 ⟨?_, by rw [arOf_neg b2]; rw [arOf_neg h0] at ih; exact ih⟩
        unfold okSym inB at h1 ⊢
        simp at h1 ⊢
        omega
      · rw [hp n h0]
        exact seqT_cons.2 ⟨h1, map_seq hp (t := t) (fun x hx => hb x (List.mem_cons_of_mem _ hx)) h2⟩
theorem rename_again {ar : List Int} {l : List (List Int)} (h : renameOk ar l = true) :
    renameOk ar (renameAns ar l) = true ∧ renameAns ar (renameAns ar l) = renameAns ar l ∧ (renameAns ar l).length = l.length ∧ ∀ k, k < l.length → sameOk ar (l.getD k []) ((renameAns ar l).getD k []) = true ∧ sameAns ar (l.getD k []) ((renameAns ar l).getD k []) = true := by
  obtain ⟨hg, hl, hok⟩ := renameOk_iff.1 h
  have h12 := met12 hok
  have hmap := renS_map l [] (Ext.rfl' (metS [] l))
  have hneg : ∀ x ∈ metS [] l, x < 0 := fun x hx => by
    rcases metS_of l [] hx with h1 | ⟨t, _, _, h3⟩
    · simp at h1
    · exact h3
  have hI := valM_inj (M := metS [] l) (S := metS [] l) (fun _ h => h) hneg
  have hin : ∀ t ∈ l, ∀ x ∈ t, x < 0 → x ∈ metS [] l := fun t ht x hx h0 => metS_has h0 l [] t ht hx
  have hans := renameAns_yes h
  have hr : ∀ t ∈ l, okTerm ar (t.map (valM (metS [] l))) = true := fun t ht => by
    obtain ⟨a1, a2⟩ := okTerm_seq.1 (hok t ht)
    refine okTerm_seq.2 ⟨by simpa using a1, map_seq hI.pos (fun x hx h0 => ?_) a2⟩
    have h1 := List.idxOf_lt_length_iff.2 (hin t ht x hx h0)
    unfold valM
    rw [if_pos h0]
    omega
  have hok2 : renameOk ar (renameAns ar l) = true := by
    rw [hans, hmap]
    refine renameOk_iff.2 ⟨hg, by simpa using hl, fun t ht => ?_⟩
    obtain ⟨s, hs, rfl⟩ := List.mem_map.1 ht
    exact hr s hs
  have hsame : renS [] (renS [] l) = renS [] l := by
    conv => lhs; rw [hmap]
    exact renS_inj hI (met := []) (fun x hx => by simp at hx) hin
  refine ⟨hok2, by rw [renameAns_yes hok2, hans, hsame], by rw [hans, renS_len], fun k hk => ?_⟩
  have hmem : l.getD k [] ∈ l := by rw [show l.getD k [] = l[k] from by simp [List.getD, hk]]; exact List.getElem_mem hk
  have hget : (renameAns ar l).getD k [] = (l.getD k []).map (valM (metS [] l)) := by
    rw [hans, hmap]
    simp [List.getD, hk]
  have hso : sameOk ar (l.getD k []) ((renameAns ar l).getD k []) = true := by
    unfold sameOk
    rw [renameOk_one, renameOk_one, hget]
    unfold goodTerm
    rw [hg, hok _ hmem, hr _ hmem]
    rfl
  refine ⟨hso, ?_⟩
  unfold sameAns
  rw [hso, hget]
  have := (renT_inj hI (t := l.getD k []) (met := []) (fun x hx => by simp at hx) (hin _ hmem)).1
  rw [List.map_nil] at this
  rw [this]
  simp
end Go.Proofs.Yteegjnobmbcjiaa
end
section
/- Chapters 4 and 5: what holds in a world: instances, renamings, tidied clauses. No program. -/
namespace Go.Proofs.Yteegjnobmbcjiaa
open Go.RowKit

theorem varsTo_lt' {f : Nat → Bool} {n j : Nat} (h : j ∈ varsTo f n) : j < n := by simp [varsTo] at h; exact h.1
theorem varsC_iff {c : List Lt} {j : Nat} : j ∈ varsC c ↔ j < 12 ∧ ∃ x ∈ c, (-1 - (j : Int)) ∈ x.2.1 ∨ (-1 - (j : Int)) ∈ x.2.2 := by
  unfold varsC varsTo mk
  rw [List.mem_filter, List.mem_range, decide_eq_true_eq, List.mem_flatten]
  refine and_congr_right fun _ => ⟨?_, ?_⟩
  · rintro ⟨t, ht, hn⟩
    obtain ⟨x, hx, e⟩ := flat_mem ht
    refine ⟨x, hx, ?_⟩
    rcases e with rfl | rfl
    · exact .inl hn
    · exact .inr hn
  · rintro ⟨x, hx, h | h⟩
    · exact ⟨x.2.1, List.mem_flatMap.2 ⟨x, hx, by simp⟩, h⟩
    · exact ⟨x.2.2, List.mem_flatMap.2 ⟨x, hx, by simp⟩, h⟩
theorem varsC_has {c : List Lt} {x : Lt} (hx : x ∈ c) {n : Int} (hn : n ∈ x.2.1 ∨ n ∈ x.2.2) (h0 : n < 0) (hlow : -12 ≤ n) : (-1 - n).toNat ∈ varsC c :=
  varsC_iff.2 ⟨by omega, x, hx, by rw [show (-1 - (((-1 - n).toNat : Nat) : Int)) = n from by omega]; exact hn⟩

section
variable {ar : List Int} {sz : Int} {tb : List (List Int)} {env : List Int}

theorem Ev.congrS {env' : List Int} {s : Option Nat} {y vs : List Int} (h : Ev ar sz tb env s y vs) (hq : ∀ n ∈ y, n < 0 → env.getD (-1 - n).toNat 0 = env'.getD (-1 - n).toNat 0) : Ev ar sz tb env' s y vs := by
  induction h with
  | var n h1 h2 => rw [hq n (by simp) h2]; exact Ev.var n h1 h2
  | node n ys vs h1 h2 _ ih => exact Ev.node n ys vs h1 h2 (ih fun m hm => hq m (List.mem_cons_of_mem _ hm))
  | nil => exact Ev.nil
  | cons m y ys v vs _ _ ih1 ih2 => exact Ev.cons m y ys v vs (ih1 fun k hk => hq k (List.mem_append_left _ hk)) (ih2 fun k hk => hq k (List.mem_append_right _ hk))
theorem evT_congrS {env' t : List Int} (ht : okTerm ar t = true) (hq : ∀ n ∈ t, n < 0 → env.getD (-1 - n).toNat 0 = env'.getD (-1 - n).toNat 0) : evT ar sz tb env t = evT ar sz tb env' t :=
  (ev_eq ht ((ev_whole ht).congrS hq)).symm
theorem clH_eq {env' : List Int} {c d : List Lt} (g : Lt → Lt) (hd : d = c.map g) (key : ∀ x ∈ c, litH ar sz tb env (g x) = litH ar sz tb env' x) : clH ar sz tb env d = clH ar sz tb env' c := by
  subst hd
  unfold clH
  rw [List.any_map, Bool.eq_iff_iff, List.any_eq_true, List.any_eq_true]
  constructor
  · rintro ⟨x, hx, h⟩; exact ⟨x, hx, by rw [← key x hx]; exact h⟩
  · rintro ⟨x, hx, h⟩; exact ⟨x, hx, by show litH ar sz tb env (g x) = true; rw [key x hx]; exact h⟩
theorem clH_congr {env' : List Int} {c : List Lt} (hc : ∀ x ∈ c, okLit ar x = true) (hq : ∀ x ∈ c, ∀ n, n ∈ x.2.1 ∨ n ∈ x.2.2 → n < 0 → env.getD (-1 - n).toNat 0 = env'.getD (-1 - n).toNat 0) : clH ar sz tb env c = clH ar sz tb env' c := by
  refine clH_eq id (by simp) fun x hx => ?_
  obtain ⟨o1, o2⟩ := okLit_iff.1 (hc x hx)
  unfold litH
  rw [id, evT_congrS o1 (fun n hn h0 => hq x hx n (.inl hn) h0), evT_congrS o2 (fun n hn h0 => hq x hx n (.inr hn) h0)]

/-- The least assignment: none, where there is none. -/
theorem tryW_all {g : Nat → Option (List Int)} : ∀ (m k : Nat), tryW g k m = none ↔ ∀ n, k ≤ n → n < k + m → g n = none := by
  intro m
  induction m with
  | zero => intro k; exact ⟨fun _ n h1 h2 => by omega, fun _ => rfl⟩
  | succ m ih =>
    intro k
    cases hg : g k with
    | some e =>
      rw [tryW_some hg]
      exact ⟨fun h => (Option.some_ne_none e h).elim, fun h => absurd ((h k (Nat.le_refl _) (by omega)).symm.trans hg) (by simp)⟩
    | none =>
      rw [tryW_none hg, ih]
      constructor
      · intro h n h1 h2
        by_cases e : n = k
        · subst e; exact hg
        · exact h n (by omega) (by omega)
      · intro h n h1 h2; exact h n (by omega) (by omega)
theorem lw_all {Z : Nat} {P : List Int → Bool} : ∀ (vs : List Nat) (e : List Int), okEnv Z e = true → (∀ v ∈ vs, v < 12) → (lw Z P vs e = none ↔ ∀ e', okEnv Z e' = true → Off vs e e' → P e' = true) := by
  intro vs
  induction vs with
  | nil =>
    intro e he _
    unfold lw
    constructor
    · intro h e' _ ho
      rw [ho.nil]
      by_cases hp : P e = true
      · exact hp
      · rw [if_neg hp] at h; cases h
    · intro h; rw [if_pos (h e he (Off.refl _ _))]
  | cons v r ih =>
    intro e he h12
    show tryW (fun n => lw Z P r (e.set v (n : Int))) 0 Z = none ↔ _
    rw [tryW_all]
    have hv := h12 v (by simp)
    have hr := fun u hu => h12 u (List.mem_cons_of_mem _ hu)
    constructor
    · intro h e' he' ho
      have hb := (okEnv_iff.1 he').2 v hv
      have hx := h (e'.getD v 0).toNat (Nat.zero_le _) (by omega)
      rw [ih _ (okEnv_set he v (by omega) (by omega)) hr] at hx
      refine hx e' he' ?_
      refine ⟨by rw [ho.1]; simp, fun j hj => ?_⟩
      rw [set_getD]
      by_cases e1 : v = j
      · subst e1
        by_cases hl : v < e.length
        · rw [if_pos ⟨rfl, hl⟩]; omega
        · have := (okEnv_iff.1 he).1; omega
      · rw [if_neg (fun h => e1 h.1)]
        exact ho.2 j (by simp [Ne.symm e1, hj])
    · intro h n _ hn
      rw [ih _ (okEnv_set he v (by omega) (by omega)) hr]
      intro e' he' ho
      exact h e' he' ((Off.one v r e n).trans (ho.wider fun u hu => List.mem_cons_of_mem _ hu))

/-- A clause holds in a world exactly where it does so under all assignments. -/
theorem heldC_iff (h1 : 1 ≤ sz) {c : List Lt} (hc : ∀ x ∈ c, okLit ar x = true) : heldC ar sz tb c = true ↔ ∀ env, okEnv sz env = true → clH ar sz tb env c = true := by
  have hZ : ((sz.toNat : Nat) : Int) = sz := by omega
  have hz := zeros_ok (Z := sz.toNat) (by omega)
  have hv12 : ∀ v ∈ varsC c, v < 12 := fun v hv => varsTo_lt' hv
  unfold heldC lwC
  rw [Bool.not_eq_true', Option.isSome_eq_false_iff, Option.isNone_iff_eq_none, lw_all _ _ hz hv12]
  rw [hZ] at *
  constructor
  · intro h env he
    obtain ⟨e1, e2⟩ := okEnv_iff.1 he
    have hb : okEnv sz ((List.range 12).map fun j => if j ∈ varsC c then env.getD j 0 else 0) = true := by
      refine okEnv_iff.2 ⟨by simp, fun j hj => ?_⟩
      rw [List.getD_eq_getElem?_getD, List.getElem?_map, List.getElem?_range hj]
      simp only [Option.map_some, Option.getD_some]
      split
      · exact e2 j hj
      · omega
    have ho : Off (varsC c) zeros12 ((List.range 12).map fun j => if j ∈ varsC c then env.getD j 0 else 0) := by
      refine ⟨by simp [zeros12], fun j hj => ?_⟩
      by_cases h12 : j < 12
      · rw [List.getD_eq_getElem?_getD, List.getElem?_map, List.getElem?_range h12]
        simp only [Option.map_some, Option.getD_some, if_neg hj]
        unfold zeros12
        rw [List.getD_eq_getElem?_getD, List.getElem?_replicate, if_pos h12]; rfl
      · rw [List.getD_eq_getElem?_getD, List.getElem?_eq_none (by simp; omega), List.getD_eq_getElem?_getD, List.getElem?_eq_none (by simp [zeros12]; omega)]
    rw [← h _ hb ho]
    refine clH_congr hc fun x hx n hn h0 => ?_
    obtain ⟨o1, o2⟩ := okLit_iff.1 (hc x hx)
    have hlow : -12 ≤ n := by rcases hn with hn | hn; exact ok_low o1 hn; exact ok_low o2 hn
    have h12 : (-1 - n).toNat < 12 := by omega
    have hm : (-1 - n).toNat ∈ varsC c := varsC_has hx hn h0 hlow
    rw [List.getD_eq_getElem?_getD (l := (List.range 12).map _), List.getElem?_map, List.getElem?_range h12]
    simp [hm]
  · intro h env' he' _; exact h env' he'

/-- The values of a substitution are an assignment. -/
theorem subEnv_ok (hg : goodSign ar = true) (hw : isWorld ar sz tb = true) {env : List Int} (he : okEnv sz env = true) {b : List (List Int)} (hb : ∀ v, v < 12 → 0 < (b.getD v []).length → okTerm ar (b.getD v []) = true) : okEnv sz (subEnv ar sz tb env b) = true := by
  obtain ⟨e1, e2⟩ := okEnv_iff.1 he
  refine okEnv_iff.2 ⟨by simp [subEnv], fun k hk => ?_⟩
  unfold subEnv
  rw [List.getD_eq_getElem?_getD, List.getElem?_map, List.getElem?_range hk]
  simp only [Option.map_some, Option.getD_some]
  by_cases hp : 0 < (b.getD k []).length
  · rw [if_pos hp]; exact (evT_bd hg hw he (ev_whole (hb k hk hp))).1 _ (by simp)
  · rw [if_neg hp]; exact e2 k hk
/-- An instance holds where the clause does under the values of the substitution. -/
theorem clH_sub {b : List (List Int)} {c : List Lt} (hc : ∀ x ∈ c, okLit ar x = true) (hb : ∀ v, v < 12 → 0 < (b.getD v []).length → okTerm ar (b.getD v []) = true) (hi : ∀ x ∈ applyC b c, okLit ar x = true) :
    clH ar sz tb env (applyC b c) = clH ar sz tb (subEnv ar sz tb env b) c := by
  refine clH_eq (fun x => (x.1, appT b x.2.1, appT b x.2.2)) rfl fun x hx => ?_
  obtain ⟨o1, o2⟩ := okLit_iff.1 (hc x hx)
  obtain ⟨i1, i2⟩ := okLit_iff.1 (hi (x.1, appT b x.2.1, appT b x.2.2) (List.mem_map.2 ⟨x, hx, rfl⟩))
  unfold litH
  show ((evT ar sz tb env (appT b x.2.1) == evT ar sz tb env (appT b x.2.2)) == x.1) = _
  rw [sub_value o1 hb i1, sub_value o2 hb i2]
/-- What holds in a world, holds there in each instance. -/
theorem heldC_sub (hg : goodSign ar = true) (hw : isWorld ar sz tb = true) {b : List (List Int)} {c : List Lt} (hc : ∀ x ∈ c, okLit ar x = true) (hb : ∀ v, v < 12 → 0 < (b.getD v []).length → okTerm ar (b.getD v []) = true) (hi : ∀ x ∈ applyC b c, okLit ar x = true)
    (h : heldC ar sz tb c = true) : heldC ar sz tb (applyC b c) = true := by
  have hs := (isWorld_iff.1 hw).1
  rw [heldC_iff hs hi]
  intro env he
  rw [clH_sub hc hb hi]
  exact (heldC_iff hs hc).1 h _ (subEnv_ok hg hw he hb)

theorem Ev.map {env' : List Int} {σ : Int → Int} (hp : ∀ n, ¬ n < 0 → σ n = n) {s : Option Nat} {y vs : List Int} (h : Ev ar sz tb env' s y vs)
    (hq : ∀ n ∈ y, n < 0 → okSym ar (σ n) = true ∧ σ n < 0 ∧ env'.getD (-1 - n).toNat 0 = env.getD (-1 - σ n).toNat 0) : Ev ar sz tb env s (y.map σ) vs := by
  induction h with
  | var n h1 h2 =>
    obtain ⟨a1, a2, a3⟩ := hq n (by simp) h2
    rw [a3]
    exact Ev.var (σ n) a1 a2
  | node n ys vs h1 h2 _ ih =>
    rw [List.map_cons, hp n (by omega)]
    exact Ev.node n _ vs h1 h2 (ih fun m hm => hq m (List.mem_cons_of_mem _ hm))
  | nil => exact Ev.nil
  | cons m y ys v vs _ _ ih1 ih2 =>
    rw [List.map_append]
    exact Ev.cons m _ _ v vs (ih1 fun k hk => hq k (List.mem_append_left _ hk)) (ih2 fun k hk => hq k (List.mem_append_right _ hk))
def mapL (σ : Int → Int) (c : List Lt) : List Lt := c.map fun x => (x.1, x.2.1.map σ, x.2.2.map σ)
theorem clH_map {env' : List Int} {σ : Int → Int} (hp : ∀ n, ¬ n < 0 → σ n = n) {c : List Lt} (hc : ∀ x ∈ c, okLit ar x = true) (hr : ∀ x ∈ mapL σ c, okLit ar x = true)
    (hq : ∀ x ∈ c, ∀ n, n ∈ x.2.1 ∨ n ∈ x.2.2 → n < 0 → okSym ar (σ n) = true ∧ σ n < 0 ∧ env'.getD (-1 - n).toNat 0 = env.getD (-1 - σ n).toNat 0) : clH ar sz tb env (mapL σ c) = clH ar sz tb env' c := by
  refine clH_eq (fun x => (x.1, x.2.1.map σ, x.2.2.map σ)) rfl fun x hx => ?_
  obtain ⟨o1, o2⟩ := okLit_iff.1 (hc x hx)
  obtain ⟨i1, i2⟩ := okLit_iff.1 (hr (x.1, x.2.1.map σ, x.2.2.map σ) (List.mem_map.2 ⟨x, hx, rfl⟩))
  unfold litH
  show ((evT ar sz tb env (x.2.1.map σ) == evT ar sz tb env (x.2.2.map σ)) == x.1) = _
  rw [ev_eq i1 ((ev_whole o1).map hp (fun n hn h0 => hq x hx n (.inl hn) h0)), ev_eq i2 ((ev_whole o2).map hp (fun n hn h0 => hq x hx n (.inr hn) h0))]
/-- The variables in the order in which they are met. -/
abbrev metC (c : List Lt) : List Int := metS [] (flatC c)
theorem metC_neg {c : List Lt} : ∀ x ∈ metC c, x < 0 := fun x hx => by
  rcases metS_of (flatC c) [] hx with h1 | ⟨t, _, _, h3⟩
  · simp at h1
  · exact h3
theorem metC_has {c : List Lt} {x : Lt} (hx : x ∈ c) {n : Int} (hn : n ∈ x.2.1 ∨ n ∈ x.2.2) (h0 : n < 0) : n ∈ metC c := by
  rcases hn with hn | hn
  · exact metS_has h0 (flatC c) [] x.2.1 (List.mem_flatMap.2 ⟨x, hx, by simp⟩) hn
  · exact metS_has h0 (flatC c) [] x.2.2 (List.mem_flatMap.2 ⟨x, hx, by simp⟩) hn
theorem metC_of {c : List Lt} {n : Int} (h : n ∈ metC c) : n < 0 ∧ ∃ x ∈ c, n ∈ x.2.1 ∨ n ∈ x.2.2 := by
  rcases metS_of (flatC c) [] h with h1 | ⟨t, ht, h2, h3⟩
  · simp at h1
  · obtain ⟨x, hx, e⟩ := flat_mem ht
    refine ⟨h3, x, hx, ?_⟩
    rcases e with rfl | rfl
    · exact .inl h2
    · exact .inr h2
theorem flat_okL {c : List Lt} (hc : ∀ x ∈ c, okLit ar x = true) : ∀ t ∈ flatC c, okTerm ar t = true := fun _ ht => flat_ok hc ht
theorem valC {c : List Lt} {n : Int} (h0 : n < 0) : valM (metC c) n = -1 - ((metC c).idxOf n : Int) := by unfold valM; rw [if_pos h0]
theorem ren_sym {c : List Lt} (hc : ∀ x ∈ c, okLit ar x = true) {n : Int} (hn : n ∈ metC c) : okSym ar (valM (metC c) n) = true ∧ valM (metC c) n < 0 := by
  have h0 := metC_neg n hn
  have h12 := met12 (flat_okL hc)
  have h1 := List.idxOf_lt_length_iff.2 hn
  rw [valC h0]
  refine ⟨?_, by omega⟩
  unfold okSym inB
  simp
  have : (metC c).length ≤ 12 := h12
  omega
theorem renC_map (c : List Lt) : renC c = mapL (valM (metC c)) c := by
  unfold renC
  rw [renS_map (flatC c) [] (Ext.rfl' (metC c))]
  generalize valM (metC c) = σ
  exact zipC_map (fun t => t.map σ) c
theorem renC_okL {c : List Lt} (hc : ∀ x ∈ c, okLit ar x = true) : ∀ x ∈ mapL (valM (metC c)) c, okLit ar x = true := by
  intro y hy
  obtain ⟨x, hx, rfl⟩ := List.mem_map.1 hy
  obtain ⟨o1, o2⟩ := okLit_iff.1 (hc x hx)
  have hI := valM_inj (M := metC c) (S := metC c) (fun _ h => h) metC_neg
  have one : ∀ t, okTerm ar t = true → (∀ n ∈ t, n < 0 → n ∈ metC c) → okTerm ar (t.map (valM (metC c))) = true := fun t ht hm => by
    obtain ⟨a1, a2⟩ := okTerm_seq.1 ht
    refine okTerm_seq.2 ⟨by simpa using a1, map_seq hI.pos (fun n hn h0 => ?_) a2⟩
    obtain ⟨b1, b2⟩ := ren_sym hc (hm n hn h0)
    unfold okSym inB at b1
    simp at b1
    omega
  exact okLit_iff.2 ⟨one _ o1 fun n hn h0 => metC_has hx (.inl hn) h0, one _ o2 fun n hn h0 => metC_has hx (.inr hn) h0⟩
theorem getD_memI {l : List Int} {i : Nat} (h : i < l.length) : l.getD i 0 ∈ l := mem_getD l 0 i h
/-- Renaming changes no model. -/
theorem heldC_ren (h1 : 1 ≤ sz) {c : List Lt} (hc : ∀ x ∈ c, okLit ar x = true) : heldC ar sz tb (renC c) = heldC ar sz tb c := by
  rw [renC_map]
  have hr := renC_okL hc
  have h12 : (metC c).length ≤ 12 := met12 (flat_okL hc)
  have hlow : ∀ n ∈ metC c, -12 ≤ n := fun n hn => by
    obtain ⟨_, x, hx, h⟩ := metC_of hn
    obtain ⟨o1, o2⟩ := okLit_iff.1 (hc x hx)
    rcases h with h | h
    · exact ok_low o1 h
    · exact ok_low o2 h
  rw [Bool.eq_iff_iff, heldC_iff h1 hr, heldC_iff h1 hc]
  have hI := valM_inj (M := metC c) (S := metC c) (fun _ h => h) metC_neg
  constructor
  · intro h env he
    obtain ⟨e1, e2⟩ := okEnv_iff.1 he
    have hok : okEnv sz ((List.range 12).map fun k => if k < (metC c).length then env.getD (-1 - (metC c).getD k 0).toNat 0 else 0) = true := by
      refine okEnv_iff.2 ⟨by simp, fun k hk => ?_⟩
      rw [List.getD_eq_getElem?_getD (l := (List.range 12).map _), List.getElem?_map, List.getElem?_range hk]
      simp only [Option.map_some, Option.getD_some]
      by_cases hlt : k < (metC c).length
      · rw [if_pos hlt]
        have hm := getD_memI hlt
        have h1 := metC_neg _ hm
        have h2 := hlow _ hm
        exact e2 _ (by omega)
      · rw [if_neg hlt]; omega
    rw [← h _ hok]
    refine (clH_map hI.pos hc hr fun x hx n hn h0 => ?_).symm
    have hm := metC_has hx hn h0
    obtain ⟨b1, b2⟩ := ren_sym hc hm
    refine ⟨b1, b2, ?_⟩
    have hlt := List.idxOf_lt_length_iff.2 hm
    rw [valC h0, show (-1 - (-1 - ((metC c).idxOf n : Int))).toNat = (metC c).idxOf n from by omega]
    rw [List.getD_eq_getElem?_getD (l := (List.range 12).map _), List.getElem?_map, List.getElem?_range (by omega)]
    simp only [Option.map_some, hlt, if_true, Option.getD_some]
    rw [show (metC c).getD ((metC c).idxOf n) 0 = n from by rw [List.getD_eq_getElem?_getD, List.getElem?_eq_getElem hlt, Option.getD_some]; exact List.getElem_idxOf hlt]
  · intro h env he
    obtain ⟨e1, e2⟩ := okEnv_iff.1 he
    have hok : okEnv sz ((List.range 12).map fun (v : Nat) => if (-1 - (v : Int)) ∈ metC c then env.getD ((metC c).idxOf (-1 - (v : Int))) 0 else 0) = true := by
      refine okEnv_iff.2 ⟨by simp, fun k hk => ?_⟩
      rw [List.getD_eq_getElem?_getD (l := (List.range 12).map _), List.getElem?_map, List.getElem?_range hk]
      simp only [Option.map_some, Option.getD_some]
      by_cases hm : (-1 - (k : Int)) ∈ metC c
      · rw [if_pos hm]
        have hlt := List.idxOf_lt_length_iff.2 hm
        exact e2 _ (by omega)
      · rw [if_neg hm]; omega
    rw [← h _ hok]
    refine clH_map hI.pos hc hr fun x hx n hn h0 => ?_
    have hm := metC_has hx hn h0
    obtain ⟨b1, b2⟩ := ren_sym hc hm
    refine ⟨b1, b2, ?_⟩
    have h2 := hlow n hm
    rw [valC h0, show (-1 - (-1 - ((metC c).idxOf n : Int))).toNat = (metC c).idxOf n from by omega]
    rw [List.getD_eq_getElem?_getD (l := (List.range 12).map _), List.getElem?_map, List.getElem?_range (by omega)]
    have e : (-1 - (((-1 - n).toNat : Nat) : Int)) = n := by omega
    simp only [Option.map_some, e, hm, if_true, Option.getD_some]
end

/-- Renaming keeps the number of the variables. -/
theorem len_of_mem {α : Type} {a b : List α} (ha : a.Nodup) (hb : b.Nodup) (h : ∀ x, x ∈ a ↔ x ∈ b) : a.length = b.length := ((List.perm_ext_iff_of_nodup ha hb).2 h).length_eq
theorem varsC_nodup (c : List Lt) : (varsC c).Nodup := List.Nodup.sublist List.filter_sublist List.nodup_range
theorem varsC_met {ar : List Int} {c : List Lt} (hc : ∀ x ∈ c, okLit ar x = true) : (varsC c).length = (metC c).length := by
  have h : ((varsC c).map fun (j : Nat) => -1 - (j : Int)).length = (metC c).length := by
    refine len_of_mem ?_ (metS_nodup _ _ List.nodup_nil) fun n => ?_
    · exact List.Pairwise.map _ (fun a b (h : a ≠ b) => by show -1 - (a : Int) ≠ -1 - (b : Int); omega) (varsC_nodup c)
    · rw [List.mem_map]
      constructor
      · rintro ⟨j, hj, rfl⟩
        obtain ⟨_, x, hx, h⟩ := varsC_iff.1 hj
        exact metC_has hx h (by omega)
      · intro hn
        obtain ⟨h0, x, hx, h⟩ := metC_of hn
        obtain ⟨o1, o2⟩ := okLit_iff.1 (hc x hx)
        have hlow : -12 ≤ n := by rcases h with h | h; exact ok_low o1 h; exact ok_low o2 h
        exact ⟨(-1 - n).toNat, varsC_has hx h h0 hlow, by omega⟩
  rw [← h, List.length_map]
theorem varsC_ren {ar : List Int} {c : List Lt} (hc : ∀ x ∈ c, okLit ar x = true) : (varsC (renC c)).length = (varsC c).length := by
  have h12 : (metC c).length ≤ 12 := met12 (flat_okL hc)
  have hI := valM_inj (M := metC c) (S := metC c) (fun _ h => h) metC_neg
  rw [varsC_met hc]
  have h : (varsC (renC c)).length = (List.range (metC c).length).length := by
    refine len_of_mem (varsC_nodup _) List.nodup_range fun j => ?_
    rw [varsC_iff, List.mem_range, renC_map]
    constructor
    · rintro ⟨hj, y, hy, h⟩
      obtain ⟨x, hx, rfl⟩ := List.mem_map.1 hy
      have key : ∀ t : List Int, (-1 - (j : Int)) ∈ t.map (valM (metC c)) → (∀ n ∈ t, n < 0 → n ∈ metC c) → j < (metC c).length := fun t ht hm => by
        obtain ⟨n, hn, e⟩ := List.mem_map.1 ht
        by_cases h0 : n < 0
        · rw [valC h0] at e
          have := List.idxOf_lt_length_iff.2 (hm n hn h0)
          omega
        · rw [hI.pos n h0] at e; omega
      rcases h with h | h
      · exact key _ h fun n hn h0 => metC_has hx (.inl hn) h0
      · exact key _ h fun n hn h0 => metC_has hx (.inr hn) h0
    · intro hj
      have hm := getD_memI (l := metC c) hj
      have e : (metC c).idxOf ((metC c).getD j 0) = j := by
        have := List.Nodup.idxOf_getElem (metS_nodup (flatC c) [] List.nodup_nil) j hj
        rw [gd_eq _ _ _ hj]; exact this
      obtain ⟨h0, x, hx, h⟩ := metC_of hm
      refine ⟨by omega, _, List.mem_map.2 ⟨x, hx, rfl⟩, ?_⟩
      have hv : valM (metC c) ((metC c).getD j 0) = -1 - (j : Int) := by rw [valC h0, e]
      rcases h with h | h
      · exact .inl (List.mem_map.2 ⟨_, h, hv⟩)
      · exact .inr (List.mem_map.2 ⟨_, h, hv⟩)
  rw [h, List.length_range]
theorem fewC_ren {ar : List Int} {c : List Lt} (hc : ∀ x ∈ c, okLit ar x = true) : fewC (renC c) = fewC c := by unfold fewC; rw [varsC_ren hc]
theorem okLits_ren {ar : List Int} {c : List Lt} (h : okLits ar c = true) : okLits ar (renC c) = true := by
  obtain ⟨h8, hc⟩ := okLits_iff.1 h
  rw [renC_map]
  exact okLits_iff.2 ⟨by simpa [mapL] using h8, renC_okL hc⟩
theorem heldAns_ren {ar : List Int} {sz : Int} {tb : List (List Int)} {c : List Lt} (h : okLits ar c = true) : falseOk ar sz tb (renC c) = falseOk ar sz tb c ∧ heldAns ar sz tb (renC c) = heldAns ar sz tb c := by
  obtain ⟨h8, hc⟩ := okLits_iff.1 h
  have h1 : falseOk ar sz tb (renC c) = falseOk ar sz tb c := by unfold falseOk; rw [okLits_ren h, h, fewC_ren hc]
  refine ⟨h1, ?_⟩
  unfold heldAns
  rw [h1]
  by_cases hq : falseOk ar sz tb c = true
  · rw [if_pos hq, if_pos hq]
    unfold falseOk goodWorld at hq
    simp only [Bool.and_eq_true] at hq
    exact heldC_ren (isWorld_iff.1 hq.1.2).1 hc
  · rw [if_neg hq, if_neg hq]
end Go.Proofs.Yteegjnobmbcjiaa
end
section
/- Chapter 4: what tidying leaves out changes nothing; tautologies hold. No program. -/
namespace Go.Proofs.Yteegjnobmbcjiaa

section
variable (v : List Int → Int)
/-- v: the values of terms. -/
def holdsL (x : Lt) : Bool := decide (v x.2.1 = v x.2.2) == x.1
def holdsC (c : List Lt) : Bool := c.any (holdsL v)
end
variable {v : List Int → Int}
theorem sameTs_val {x y : Lt} (h : sameTs x y = true) : decide (v x.2.1 = v x.2.2) = decide (v y.2.1 = v y.2.2) := by
  unfold sameTs at h
  simp only [Bool.or_eq_true, Bool.and_eq_true, decide_eq_true_eq] at h
  rcases h with ⟨h1, h2⟩ | ⟨h1, h2⟩
  · rw [h1, h2]
  · rw [h1, h2]; exact decide_eq_decide.2 eq_comm
theorem eqvL_holds {x y : Lt} (h : eqvL x y = true) : holdsL v x = holdsL v y := by
  unfold eqvL at h
  rw [Bool.and_eq_true] at h
  unfold holdsL
  rw [sameTs_val h.2, eq_of_beq h.1]
theorem tidyStep_holds (out : List Lt) (x : Lt) : holdsC v (tidyStep out x) = (holdsC v out || holdsL v x) := by
  unfold tidyStep
  by_cases h1 : (!x.1 && decide (x.2.1 = x.2.2)) = true
  · rw [if_pos h1]
    rw [Bool.and_eq_true, Bool.not_eq_true', decide_eq_true_eq] at h1
    have : holdsL v x = false := by unfold holdsL; rw [h1.1, h1.2]; simp
    rw [this, Bool.or_false]
  · rw [if_neg h1]
    by_cases h2 : out.any (eqvL x) = true
    · rw [if_pos h2]
      obtain ⟨y, hy, he⟩ := List.any_eq_true.1 h2
      cases hx : holdsL v x with
      | false => rw [Bool.or_false]
      | true =>
        have : holdsC v out = true := List.any_eq_true.2 ⟨y, hy, by rw [← eqvL_holds he, hx]⟩
        rw [this]; rfl
    · rw [if_neg h2]
      unfold holdsC
      rw [List.any_append]; simp
theorem tidy_fold (c : List Lt) : ∀ out, holdsC v (c.foldl tidyStep out) = (holdsC v out || holdsC v c) := by
  induction c with
  | nil => intro out; simp [holdsC]
  | cons x c ih =>
    intro out
    rw [List.foldl_cons, ih, tidyStep_holds, Bool.or_assoc]
    rfl
/-- Tidying changes no model. -/
theorem tidy_holds (c : List Lt) : holdsC v (tidyC c) = holdsC v c := by
  unfold tidyC; rw [tidy_fold]; rfl

def trivL (x : Lt) : Bool := !x.1 && decide (x.2.1 = x.2.2)
def tidyOk : List Lt → List Lt → Prop
  | _, [] => True
  | pre, x :: r => trivL x = false ∧ pre.any (eqvL x) = false ∧ tidyOk (pre ++ [x]) r
theorem tidyOk_app (l : List Lt) (x : Lt) : ∀ pre, tidyOk pre l → trivL x = false → (pre ++ l).any (eqvL x) = false → tidyOk pre (l ++ [x]) := by
  induction l with
  | nil => intro pre _ h1 h2; exact ⟨h1, by simpa using h2, trivial⟩
  | cons y l ih =>
    intro pre h h1 h2
    exact ⟨h.1, h.2.1, ih _ h.2.2 h1 (by simpa [List.append_assoc] using h2)⟩
theorem tidyStep_ok {out : List Lt} (h : tidyOk [] out) (x : Lt) : tidyOk [] (tidyStep out x) := by
  unfold tidyStep
  by_cases h1 : (!x.1 && decide (x.2.1 = x.2.2)) = true
  · rw [if_pos h1]; exact h
  · rw [if_neg h1]
    by_cases h2 : out.any (eqvL x) = true
    · rw [if_pos h2]; exact h
    · rw [if_neg h2]
      exact tidyOk_app out x [] h (by unfold trivL; simpa using h1) (by simpa using h2)
theorem tidy_ok (c : List Lt) : ∀ out, tidyOk [] out → tidyOk [] (c.foldl tidyStep out) := by
  induction c with
  | nil => exact fun out h => h
  | cons x c ih => exact fun out h => ih _ (tidyStep_ok h x)
theorem tidy_fix (l : List Lt) : ∀ pre, tidyOk pre l → l.foldl tidyStep pre = pre ++ l := by
  induction l with
  | nil => intro pre _; simp
  | cons x l ih =>
    intro pre h
    have e : tidyStep pre x = pre ++ [x] := by
      unfold tidyStep
      rw [if_neg (by have := h.1; unfold trivL at this; rw [this]; simp), if_neg (by rw [h.2.1]; simp)]
    rw [List.foldl_cons, e, ih _ h.2.2, List.append_assoc]; rfl
/-- Tidied twice is tidied once. -/
theorem tidy_twice (c : List Lt) : tidyC (tidyC c) = tidyC c := by
  have := tidy_fix (tidyC c) [] (tidy_ok c [] trivial)
  simpa [tidyC] using this
theorem tidyStep_sub (out : List Lt) (x : Lt) : ∀ y ∈ tidyStep out x, y ∈ out ∨ y = x := by
  intro y hy
  unfold tidyStep at hy
  by_cases h1 : (!x.1 && decide (x.2.1 = x.2.2)) = true
  · rw [if_pos h1] at hy; exact .inl hy
  · rw [if_neg h1] at hy
    by_cases h2 : out.any (eqvL x) = true
    · rw [if_pos h2] at hy; exact .inl hy
    · rw [if_neg h2] at hy
      rcases List.mem_append.1 hy with h | h
      · exact .inl h
      · exact .inr (by simpa using h)
theorem tidyStep_len (out : List Lt) (x : Lt) : (tidyStep out x).length ≤ out.length + 1 := by
  unfold tidyStep
  split
  · omega
  · split
    · omega
    · simp
theorem tidy_sub (c : List Lt) : ∀ out, (∀ y ∈ c.foldl tidyStep out, y ∈ out ∨ y ∈ c) ∧ (c.foldl tidyStep out).length ≤ out.length + c.length := by
  induction c with
  | nil => intro out; exact ⟨fun y hy => .inl hy, by simp⟩
  | cons x c ih =>
    intro out
    rw [List.foldl_cons]
    obtain ⟨h1, h2⟩ := ih (tidyStep out x)
    refine ⟨fun y hy => ?_, by have := tidyStep_len out x; simp; omega⟩
    rcases h1 y hy with h | h
    · rcases tidyStep_sub out x y h with h | h
      · exact .inl h
      · exact .inr (by rw [h]; exact List.mem_cons_self)
    · exact .inr (List.mem_cons_of_mem _ h)
/-- A tidied clause is valid. -/
theorem tidy_good {ar : List Int} {c : List Lt} (h : goodClause ar c = true) : goodClause ar (tidyC c) = true := by
  obtain ⟨h1, h2, h3⟩ := goodClause_iff.1 h
  obtain ⟨k1, k2⟩ := tidy_sub c []
  refine goodClause_iff.2 ⟨h1, by unfold tidyC; simp at k2; omega, fun x hx => ?_⟩
  rcases k1 x hx with h | h
  · simp at h
  · exact h3 x h
/-- A tautology holds. -/
theorem taut_holds {c : List Lt} (h : tautC c = true) : holdsC v c = true := by
  unfold tautC at h
  obtain ⟨k, hk, ht⟩ := List.any_eq_true.1 h
  rw [List.mem_range] at hk
  have hx : c.getD k lt0 ∈ c := by simp [List.getD, hk]
  unfold tautAt at ht
  generalize c.getD k lt0 = x at *
  rw [Bool.or_eq_true, Bool.and_eq_true, decide_eq_true_eq, List.any_eq_true] at ht
  rcases ht with ⟨h1, h2⟩ | ⟨y, hy, h3⟩
  · exact List.any_eq_true.2 ⟨x, hx, by unfold holdsL; rw [h1, h2]; simp⟩
  · rw [Bool.and_eq_true] at h3
    have hyc : y ∈ c := List.mem_of_mem_take hy
    have hv := sameTs_val (v := v) h3.2
    by_cases hb : holdsL v x = true
    · exact List.any_eq_true.2 ⟨x, hx, hb⟩
    · refine List.any_eq_true.2 ⟨y, hyc, ?_⟩
      have hne := h3.1
      unfold holdsL at hb ⊢
      rw [hv] at hb
      revert hb hne
      cases x.1 <;> cases y.1 <;> cases decide (v y.2.1 = v y.2.2) <;> simp
end Go.Proofs.Yteegjnobmbcjiaa
end
section
/- A number of bytes. -/
namespace Go.Proofs.Yteegjnobmbcjiaa
open Go.RowKit

def RetNum (w : World) (e : Ending) (w' : World) : Prop := ∃ x : Int, e = .returned (.int .i64 x) ∧ 0 ≤ x ∧ x < 1000003 ∧ Bel w w'
theorem numberOf_n (h n : Nat) (v : Value) (w : World) (hn : n ≤ 1048576) (hv : SlB h w v n) :
    Calls Try.prog 78 #[v] w (RetNum w) := by
  obtain ⟨ad, cap, rfl, -, hr⟩ := hv
  go_enter Try.func78, Try.ntmps78
  go_wp2_with fail
  go_loop [3, 8] (fun m i => ∃ (k : Nat) (x : Int), k ≤ n ∧ i = .int .i64 k ∧ m = .int .i64 x ∧ 0 ≤ x ∧ x < 1000003) (fun _ i => n - (intOf i).toNat)
  case atStart => exact ⟨0, 0, Nat.zero_le _, rfl, rfl, by omega, by omega⟩
  case round =>
    obtain ⟨k, x, hk, rfl, rfl, hx0, hx1⟩ := hrel
    by_cases hlt : k < n
    · obtain ⟨b, off, rfl, hb, hc⟩ := hr (by omega)
      have hcell := hc k hlt
      clear hr hc
      obtain ⟨y, hy, hcell⟩ := hcell
      have hw1 := IntWalk.i64_in (31 * x) (by omega)
      have hw2 := IntWalk.i64_in (y : Int) (by omega)
      have hw3 := IntWalk.i64_in (31 * x + (y : Int)) (by omega)
      have hy2 : (y : Int) < 256 := by omega
      go_wp2_with fail
      exact ⟨⟨k + 1, _, by omega, by go_num, rfl, by omega, by omega⟩, by simp [intOf]; omega⟩
    · go_wp2_with fail
      go_ret
      exact ⟨x, rfl, hx0, hx1, Bel.rfl' _⟩
end Go.Proofs.Yteegjnobmbcjiaa
end
section
/- The laws' assignments, of some bytes. -/
namespace Go.Proofs.Yteegjnobmbcjiaa
open Go.RowKit

/-- An assignment of new memory. -/
def RetEnv (Z : Int) (w : World) (e : Ending) (w' : World) : Prop := ∃ ad n c env, e = .returned (.slice ad n c) ∧ OwnI w.heap.size w'.heap.size w' (.slice ad n c) env ∧ okEnv Z env = true ∧ Bel w w'
theorem shift_bd (s : Int) : 0 ≤ wrap64 (IntKind.u64.wrap s / 1099511627776) ∧ wrap64 (IntKind.u64.wrap s / 1099511627776) < 16777216 := by
  have h0 : 0 ≤ IntKind.u64.wrap s ∧ IntKind.u64.wrap s ≤ 18446744073709551615 := by
    rw [IntKind.wrap_u64]; omega
  generalize IntKind.u64.wrap s = a at h0
  rw [IntWalk.wrap64_in (a / 1099511627776) (by omega)]
  omega

set_option maxRecDepth 100000 in
set_option maxHeartbeats 400000 in
theorem envOf_c (h n l m : Nat) (Z : Int) (tv bv : Value) (tb : List (List Int)) (w : World) (hn : n ≤ 1048576) (h1 : 1 ≤ Z) (h3 : Z ≤ 3) (ht : SlS l m w tv tb) (hv : SlB h w bv n) :
    Calls Try.prog 35 #[.agg #[.int .i64 Z, tv], bv] w (RetEnv Z w) := by
  obtain ⟨i0, hi0, hz0, hz1, hz2⟩ := info_parts Try.info3
  obtain ⟨ta, tc, rfl⟩ := ht.form
  have hv1 : SlB h (w.alloc (.cells #[.int .i64 Z, .slice ta tb.length tc] 58)) bv n := by
    obtain ⟨ad, cap, e, hc, hr⟩ := hv
    exact ⟨ad, cap, e, hc, fun hp => by
      obtain ⟨b, off, e1, e2, e3⟩ := hr hp
      exact ⟨b, off, e1, e2, fun j hj => by obtain ⟨x, hx, hcell⟩ := e3 j hj; exact ⟨x, hx, (Bel.alloc0 _ _).at (World.block_lt_of_cell? _ ⟨_, _, none⟩ hcell) hcell⟩⟩⟩
  obtain ⟨ba, bc, rfl, -⟩ := hv
  have HN := Lib.hid (numberOf_n h n (.slice ba n bc) _ hn hv1)
  clear hv1 ht
  go_enter Try.func35, Try.ntmps35
  go_wp2_with fail
  refine HN.out.mono ?_; rintro e w1 ⟨x, rfl, hx0, hx1, hb1⟩
  have hbox := boxc hb1 0 _ rfl
  have hB1 := hb1.of_alloc
  clear HN
  go_wp2_with fail
  go_loopw [5, 6, 7] (fun q o i wr => ∃ (k : Nat) (z : Int) (env : List Int), k ≤ 12 ∧ i = .int .i64 k ∧ q = .int .u64 z ∧ wr.ownsRow w1.heap.size 3 1 o env.length (env.map (Value.int .i64)) ∧ env.length = k ∧ (∀ x ∈ env, 0 ≤ x ∧ x ≤ Z - 1) ∧ Bel w1 wr) (fun _ _ i _ => 12 - (intOf i).toNat)
  case atStart => exact ⟨0, _, [], by omega, rfl, rfl, World.ownsRow_nil _ _ _ _, rfl, fun x hx => by simp at hx, Bel.rfl' _⟩
  case round =>
    obtain ⟨k, z, env, hk, rfl, rfl, hown, hlen, hall, hb⟩ := hrel
    by_cases hlt : k < 12
    · have hd : decide ((k : Int) < 12) = true := decide_eq_true (by omega)
      have hw := IntWalk.i64_in ((k : Int) + 1) (by omega)
      have hbox' := hb.at (World.block_lt_of_cell? _ ⟨_, _, none⟩ hbox) hbox
      have hZ0 : ¬ Z = 0 := by omega
      have hsb := shift_bd (IntKind.u64.wrap (z * 6364136223846793005) + 1442695040888963407)
      have hm0 := Int.emod_nonneg (wrap64 (IntKind.u64.wrap (IntKind.u64.wrap (z * 6364136223846793005) + 1442695040888963407) / 1099511627776)) hZ0
      have hm1 := Int.emod_lt_of_pos (wrap64 (IntKind.u64.wrap (IntKind.u64.wrap (z * 6364136223846793005) + 1442695040888963407) / 1099511627776)) (show (0 : Int) < Z by omega)
      have hsz := hb.size
      go_wp2_with (at_builtin; refine wpList_append_own _ rfl _ _ 22 rfl w1.heap.size 3 i0 (.int .i64 0) 1 8 Try.underlying22 hi0 hz0 hz1 hz2 rfl (by decide) _ _ _ rfl (hown.alloc _) ⟨wr.heap.size, 0, none⟩ 1 1 [.int .i64 (wrap64 (IntKind.u64.wrap (IntKind.u64.wrap (z * 6364136223846793005) + 1442695040888963407) / 1099511627776) % Z)] rfl rfl (news_one _ _ _) (one_int _) (by unfold maxLen; omega) (by omega) (by simp; omega) ?_; intro v' w3 hown' hgrow _)
      have hown4 : w3.ownsRow w1.heap.size 3 1 v' (env ++ [(wrap64 (IntKind.u64.wrap (IntKind.u64.wrap (z * 6364136223846793005) + 1442695040888963407) / 1099511627776) % Z)]).length ((env ++ [(wrap64 (IntKind.u64.wrap (IntKind.u64.wrap (z * 6364136223846793005) + 1442695040888963407) / 1099511627776) % Z)]).map (Value.int .i64)) := by simpa using hown'
      have hB3 := (hb.alloc (.cells #[.int .i64 (wrap64 (IntKind.u64.wrap (IntKind.u64.wrap (z * 6364136223846793005) + 1442695040888963407) / 1099511627776) % Z)] 3)).grown hgrow (fun j hj => own_base hown j hj)
      go_roundw
      case rel => exact ⟨k+1, _, env ++ [(wrap64 (IntKind.u64.wrap (IntKind.u64.wrap (z * 6364136223846793005) + 1442695040888963407) / 1099511627776) % Z)], by omega, by go_num, rfl, hown4, by simp; omega, fun y hy => by
        rcases List.mem_append.1 hy with h | h
        · exact hall y h
        · simp at h; subst h; omega, hB3⟩
      case measure => simp [intOf]; omega
    · have hd : decide ((k : Int) < 12) = false := decide_eq_false (by omega)
      obtain ⟨ao, no, co, rfl⟩ := own_form hown
      have HO := Lib.hid ((OwnI.of_row hown).mono hB1.size (Nat.le_refl _))
      clear hown
      go_wp2_with fail
      go_ret
      exact ⟨_, _, _, env, rfl, HO.out, okEnv_iff.2 ⟨by omega, fun j hj => hall _ (mem_gd env 0 j (by omega))⟩, hB1.step hb⟩
end Go.Proofs.Yteegjnobmbcjiaa
end
section
/- The laws' worlds, of some bytes. -/
namespace Go.Proofs.Yteegjnobmbcjiaa
open Go.RowKit

/-- A world of new memory: its tables are as long as they must be. -/
def RetWof (ar : List Int) (w : World) (e : Ending) (w' : World) : Prop :=
  ∃ v Z tb, e = .returned (.agg #[.int .i64 Z, v]) ∧ SlS w.heap.size w'.heap.size w' v tb ∧ (∀ j, (tb.getD j []).length ≤ 27) ∧ (goodSign ar = true → isWorld ar Z tb = true) ∧ tb.length = ar.length ∧ 1 ≤ Z ∧ Z ≤ 3 ∧ Bel w w'

theorem RowO.low {B : Nat} {w : World} {v : Value} {xss : List (List Int)} (h : RowO B w v xss) {p : Addr} (hp : p.block < B) (u : Value) : RowO B (w.setCell p u) v xss := by
  obtain ⟨us, bs, h1, h2⟩ := h
  refine ⟨us, bs, ownsRow_setCell_below h1 hp u, ?_⟩
  have h3 : rowBlk (w.setCell p u) v = rowBlk w v := by unfold rowBlk; rw [World.size_setCell]
  rw [h3, World.size_setCell]
  exact h2.same fun b hb1 _ _ => Below.heap_setCell w p u b (by omega)
theorem pow27 {Z e : Nat} (hZ : Z ≤ 3) (he : e ≤ 3) : Z ^ e ≤ 27 := Nat.le_trans (Nat.pow_le_pow_left hZ e) (Nat.le_trans (Nat.pow_le_pow_right (by omega) he) (by decide))
/-- What stays while the tables are made: the size, the signature, the result's cells. -/
structure WF (w : World) (g : Nat) (Z : Int) (sg : Value) (wr : World) : Prop where
  size : wr.cell? ⟨g, 0, none⟩ = some (.int .i64 Z)
  free : ∀ j, wr.frozen? ⟨g, j, none⟩ = false
  sign : wr.cell? ⟨w.heap.size, 0, none⟩ = some sg
  r0 : wr.cell? ⟨w.heap.size + 1, 0, none⟩ = some (.int .i64 0)
  r1 : wr.cell? ⟨w.heap.size + 1, 1, none⟩ = some (.slice none 0 0)
  rf : ∀ j, wr.frozen? ⟨w.heap.size + 1, j, none⟩ = false
  bel : Bel w wr
  big : g + 1 ≤ wr.heap.size
  low : w.heap.size + 2 ≤ g
theorem WF.same {w wr w' : World} {g : Nat} {Z : Int} {sg : Value} (h : WF w g Z sg wr) (hg : ∀ b, b ≤ g → w'.heap[b]? = wr.heap[b]?) (hb : Bel w w') (hz : wr.heap.size ≤ w'.heap.size) : WF w g Z sg w' := by
  have hl := h.low
  have c := fun (b j : Nat) (hbg : b ≤ g) => World.cell?_of_block (w := wr) (w' := w') (a := ⟨b, j, none⟩) (hg b hbg)
  have f := fun (b j : Nat) (hbg : b ≤ g) => World.frozen?_of_block (w := wr) (w' := w') (a := ⟨b, j, none⟩) (hg b hbg)
  exact ⟨(c g 0 (Nat.le_refl _)).trans h.size, fun j => (f g j (Nat.le_refl _)).trans (h.free j), (c _ 0 (by omega)).trans h.sign, (c _ 0 (by omega)).trans h.r0, (c _ 1 (by omega)).trans h.r1, fun j => (f _ j (by omega)).trans (h.rf j), hb, Nat.le_trans h.big hz, hl⟩
theorem WF.step {w wr w' : World} {g : Nat} {Z : Int} {sg : Value} (h : WF w g Z sg wr) (hb : Bel wr w') : WF w g Z sg w' :=
  h.same (fun b hbg => hb.block b (by have := h.big; omega)) (h.bel.step hb) hb.size
theorem WF.grown {w wr w' : World} {g : Nat} {Z : Int} {sg : Value} {r : Option Nat} (h : WF w g Z sg wr) (hg : wr.grownBy w' r) (hr : ∀ b, r = some b → g < b) : WF w g Z sg w' :=
  h.same (fun b hbg => hg.block b (by have := h.big; omega) (fun e => by have := hr b e.symm; omega)) (h.bel.grown hg (fun b e => by have := hr b e; have := h.low; omega)) hg.size
theorem WF.set1 {w wr : World} {g : Nat} {Z : Int} {sg : Value} (h : WF w g Z sg wr) (u : Value) : WF w g Z sg (wr.setCell ⟨g, 1, none⟩ u) := by
  have hl := h.low
  refine ⟨?_, fun j => by rw [World.frozen?_setCell]; exact h.free j, ?_, ?_, ?_, fun j => by rw [World.frozen?_setCell]; exact h.rf j, h.bel.set (p := ⟨g, 1, none⟩) (by show w.heap.size ≤ g; omega) u, by rw [World.size_setCell]; exact h.big, hl⟩
  · rw [World.cell?_setCell_other (h := by intro e; simp at e)]; exact h.size
  · rw [World.cell?_setCell_other (h := by intro e; simp at e)]; exact h.sign
  · rw [World.cell?_setCell_other (h := by intro e; simp at e)]; exact h.r0
  · rw [World.cell?_setCell_other (h := by intro e; simp at e <;> omega)]; exact h.r1

set_option maxRecDepth 100000 in
set_option maxHeartbeats 1000000 in
theorem worldOf_c (h n l m : Nat) (sv bv : Value) (ar : List Int) (w : World) (hn : n ≤ 1048576) (hdr : drawn ar) (hs : SlI l m w sv ar) (hv : SlB h w bv n) :
    Calls Try.prog 34 #[.agg #[sv], bv] w (RetWof ar w) := by
  obtain ⟨i0, hi0, hz0, hz1, hz2⟩ := info_parts Try.info3
  obtain ⟨i1, hi1, hy0, hy1, hy2⟩ := info_parts Try.info22
  obtain ⟨sa, sc, rfl⟩ := hs.form
  have hal := drawn_len hdr
  have hB2 := Bel.alloc2 w (.cells #[.slice sa ar.length sc] 30) (.cells #[.int .i64 0, .slice none 0 0] 58)
  have hv1 : SlB h ((w.alloc (.cells #[.slice sa ar.length sc] 30)).alloc (.cells #[.int .i64 0, .slice none 0 0] 58)) bv n := by
    obtain ⟨ad, cap, e, hc, hr⟩ := hv
    exact ⟨ad, cap, e, hc, fun hp => by
      obtain ⟨b, off, e1, e2, e3⟩ := hr hp
      exact ⟨b, off, e1, e2, fun j hj => by obtain ⟨x, hx, hcell⟩ := e3 j hj; exact ⟨x, hx, hB2.at (World.block_lt_of_cell? _ ⟨_, _, none⟩ hcell) hcell⟩⟩⟩
  obtain ⟨ba, bc, rfl, -⟩ := hv
  have HN := Lib.hid (numberOf_n h n (.slice ba n bc) _ hn hv1)
  have hbs0 : ((w.alloc (.cells #[.slice sa ar.length sc] 30)).alloc (.cells #[.int .i64 0, .slice none 0 0] 58)).cell? ⟨w.heap.size, 0, none⟩ = some (.slice sa ar.length sc) := (Bel.alloc0 _ _).at (by simp) (by simp [go_sem])
  clear hv1
  go_enter Try.func34, Try.ntmps34
  go_wp2_with fail
  refine HN.out.mono ?_; rintro e w1 ⟨x, rfl, hx0, hx1, hb1⟩
  have hbs1 := hb1.at (World.block_lt_of_cell? _ ⟨_, _, none⟩ hbs0) hbs0
  have hB1 := hB2.step hb1
  clear HN
  obtain ⟨Z, hZ⟩ : ∃ Z : Nat, (1 + (x + 7) % 3 : Int) = (Z : Int) := ⟨(1 + (x + 7) % 3).toNat, by omega⟩
  have hZ1 : 1 ≤ Z ∧ Z ≤ 3 := by omega
  have hz1 := hb1.size
  have hzz : w.heap.size + 2 ≤ w1.heap.size := by simp at hz1; omega
  have BW := Bel.alloc0 w1 (.cells #[.int .i64 (1 + (x + 7) % 3), .slice none 0 0] 58)
  have hbs2 := BW.at (World.block_lt_of_cell? _ ⟨_, _, none⟩ hbs1) hbs1
  have hq0 : ((w.alloc (.cells #[.slice sa ar.length sc] 30)).alloc (.cells #[.int .i64 0, .slice none 0 0] 58)).cell? ⟨w.heap.size + 1, 0, none⟩ = some (.int .i64 0) := by simp [go_sem]
  have hq1 : ((w.alloc (.cells #[.slice sa ar.length sc] 30)).alloc (.cells #[.int .i64 0, .slice none 0 0] 58)).cell? ⟨w.heap.size + 1, 1, none⟩ = some (.slice none 0 0) := by simp [go_sem]
  have hqf : ∀ j, ((w.alloc (.cells #[.slice sa ar.length sc] 30)).alloc (.cells #[.int .i64 0, .slice none 0 0] 58)).frozen? ⟨w.heap.size + 1, j, none⟩ = false := fun j => by simp [go_sem]
  have hWF : WF w w1.heap.size (1 + (x + 7) % 3) (.slice sa ar.length sc) (w1.alloc (.cells #[.int .i64 (1 + (x + 7) % 3), .slice none 0 0] 58)) :=
    ⟨by simp [go_sem], fun j => by simp [go_sem], hbs2, (hb1.step BW).at (World.block_lt_of_cell? _ ⟨_, _, none⟩ hq0) hq0, (hb1.step BW).at (World.block_lt_of_cell? _ ⟨_, _, none⟩ hq1) hq1, fun j => ((hb1.step BW).frozen (p := ⟨w.heap.size + 1, j, none⟩) (by simp)).trans (hqf j), hB1.step BW, by simp, hzz⟩
  have hT0 : (w1.alloc (.cells #[.int .i64 (1 + (x + 7) % 3), .slice none 0 0] 58)).cell? ⟨w1.heap.size, 1, none⟩ = some (.slice none 0 0) := by simp [go_sem]
  have HW := Lib.hid (And.intro hWF hT0)
  rw [hZ] at HW
  have HZ := Lib.hid hZ
  clear hWF hT0 hq0 hq1 hqf hb1 hbs0 hz1 hB1 BW hZ
  have hal2 : ar.length ≤ 1048576 := by omega
  go_wp2_with fail
  go_loopw [5, 23] (fun q i wr => ∃ (k : Nat) (z : Int) (o : Value) (tb : List (List Int)), k ≤ ar.length ∧ i = .int .i64 k ∧ q = .int .u64 z ∧ WF w w1.heap.size Z (.slice sa ar.length sc) wr ∧ wr.cell? ⟨w1.heap.size, 1, none⟩ = some o ∧ RowO (w1.heap.size + 1) wr o tb ∧ tb.length = k ∧ ∀ j, j < k → (tb.getD j []).length = Z ^ (ar.getD j 0).toNat ∧ ∀ y ∈ tb.getD j [], 0 ≤ y ∧ y ≤ (Z : Int) - 1) (fun _ i _ => ar.length - (intOf i).toNat)
  case atStart => exact ⟨0, _, _, [], Nat.zero_le _, rfl, rfl, by rw [HZ.out]; exact HW.out.1, by rw [HZ.out]; exact HW.out.2, RowO.nil _ _, rfl, fun j hj => by omega⟩
  case round =>
    clear HW
    obtain ⟨k, z, o, tb, hk, rfl, rfl, hWF, hT, hRow, hlen, hall⟩ := hrel
    by_cases hlt : k < ar.length
    · obtain ⟨bA, oA, rfl, -, hc⟩ := (hs.below hWF.bel).at k hlt
      obtain ⟨ha0, ha3⟩ := drawn_get hdr k
      obtain ⟨An, hAn⟩ : ∃ An : Nat, ar.getD k 0 = (An : Int) := ⟨(ar.getD k 0).toNat, by omega⟩
      rw [hAn] at hc ha0 ha3
      have hA3 : An ≤ 3 := by omega
      have hkI : (k : Int) < ar.length := by omega
      have hsize := hWF.size
      have hsign := hWF.sign
      have HP := Lib.hid (fun (j : Nat) (hj : j ≤ 3) => pow27 hZ1.2 hj)
      have HWFF := Lib.hid (And.intro hWF (And.intro hT (And.intro hRow (And.intro hlen hall))))
      clear hWF hRow hlen hall ha0 ha3
      go_wp2_with fail
      go_loop [8, 9] (fun u v => ∃ j : Nat, j ≤ An ∧ u = .int .i64 j ∧ v = .int .i64 ((Z ^ (An - j) : Nat) : Int)) (fun u _ => (intOf u).toNat)
      case atStart => exact ⟨An, Nat.le_refl _, rfl, by simp⟩
      case round =>
        obtain ⟨j, hj, rfl, rfl⟩ := hrel
        by_cases hj0 : 0 < j
        · have hd : decide ((0 : Int) < j) = true := decide_eq_true (by omega)
          have hp1 := HP.out (An - j) (by omega)
          have hp2 := HP.out (An - (j - 1)) (by omega)
          have he : Z ^ (An - j) * Z = Z ^ (An - (j - 1)) := by rw [← Nat.pow_succ]; congr 1; omega
          have he2 : ((Z ^ (An - j) : Nat) : Int) * (Z : Int) = ((Z ^ (An - (j - 1)) : Nat) : Int) := by rw [← he]; simp
          have hw := IntWalk.i64_in (((Z ^ (An - j) : Nat) : Int) * (Z : Int)) (by rw [he2]; omega)
          have HE := Lib.hid he2
          clear he he2 hp1 hp2
          generalize ((Z ^ (An - j) : Nat) : Int) = pj at *
          go_wp2_with fail
          exact ⟨⟨j - 1, by omega, by simp; omega, by rw [← HE.out]⟩, by simp [intOf]; omega⟩
        · obtain rfl : j = 0 := by omega
          have hN := HP.out An hA3
          rw [Nat.sub_zero]
          generalize hNN : Z ^ An = N at *
          obtain ⟨wt, hwt⟩ : ∃ wt, wt = wr := ⟨_, rfl⟩
          subst hwt
          have hbig := HWFF.out.1.big
          go_wp2_with fail
          go_loopw [5, 9, 10] (fun q cnt o3 wr => ∃ (j : Nat) (z3 : Int) (env : List Int), j ≤ N ∧ q = .int .u64 z3 ∧ cnt = .int .i64 j ∧ wr.ownsRow wt.heap.size 3 1 o3 env.length (env.map (Value.int .i64)) ∧ env.length = N - j ∧ (∀ y ∈ env, 0 ≤ y ∧ y ≤ (Z : Int) - 1) ∧ Bel wt wr) (fun _ cnt _ _ => (intOf cnt).toNat)
          case atStart => exact ⟨N, z, [], Nat.le_refl _, rfl, rfl, World.ownsRow_nil _ _ _ _, by simp, fun y hy => by simp at hy, Bel.rfl' _⟩
          case round =>
            obtain ⟨j, z3, env, hj, rfl, rfl, hown, hel, hen, hb⟩ := hrel
            by_cases hj0 : 0 < j
            · have hd : decide ((0 : Int) < j) = true := decide_eq_true (by omega)
              have hsz3 := hb.at (World.block_lt_of_cell? _ ⟨_, _, none⟩ hsize) hsize
              have hZ0 : ¬ (Z : Int) = 0 := by omega
              have hsb := shift_bd (IntKind.u64.wrap (z3 * 6364136223846793005) + 1442695040888963407)
              have hm0 := Int.emod_nonneg (wrap64 (IntKind.u64.wrap (IntKind.u64.wrap (z3 * 6364136223846793005) + 1442695040888963407) / 1099511627776)) hZ0
              have hm1 := Int.emod_lt_of_pos (wrap64 (IntKind.u64.wrap (IntKind.u64.wrap (z3 * 6364136223846793005) + 1442695040888963407) / 1099511627776)) (show (0 : Int) < (Z : Int) by omega)
              have hsz := hb.size
              go_wp2_with (at_builtin; refine wpList_append_own _ rfl _ _ 22 rfl wt.heap.size 3 i0 (.int .i64 0) 1 8 Try.underlying22 hi0 hz0 hz1 hz2 rfl (by decide) _ _ _ rfl (hown.alloc _) ⟨wr.heap.size, 0, none⟩ 1 1 [.int .i64 (wrap64 (IntKind.u64.wrap (IntKind.u64.wrap (z3 * 6364136223846793005) + 1442695040888963407) / 1099511627776) % (Z : Int))] rfl rfl (news_one _ _ _) (one_int _) (by unfold maxLen; omega) (by omega) (by simp; omega) ?_; intro v' w3 hown' hgrow _)
              have hown4 : w3.ownsRow wt.heap.size 3 1 v' (env ++ [(wrap64 (IntKind.u64.wrap (IntKind.u64.wrap (z3 * 6364136223846793005) + 1442695040888963407) / 1099511627776) % (Z : Int))]).length ((env ++ [(wrap64 (IntKind.u64.wrap (IntKind.u64.wrap (z3 * 6364136223846793005) + 1442695040888963407) / 1099511627776) % (Z : Int))]).map (Value.int .i64)) := by simpa using hown'
              have hB3 := (hb.alloc (.cells #[.int .i64 (wrap64 (IntKind.u64.wrap (IntKind.u64.wrap (z3 * 6364136223846793005) + 1442695040888963407) / 1099511627776) % (Z : Int))] 3)).grown hgrow (fun j hj => own_base hown j hj)
              go_roundw
              case rel => exact ⟨j - 1, _, env ++ [(wrap64 (IntKind.u64.wrap (IntKind.u64.wrap (z3 * 6364136223846793005) + 1442695040888963407) / 1099511627776) % (Z : Int))], by omega, rfl, by simp; omega, hown4, by simp; omega, fun y hy => by
                rcases List.mem_append.1 hy with h | h
                · exact hen y h
                · simp at h; subst h; omega, hB3⟩
              case measure => simp [intOf]; omega
            · obtain rfl : j = 0 := by omega
              have hd : decide ((0 : Int) < 0) = false := by decide
              rw [Nat.sub_zero] at hel
              have hoi := OwnI.of_row hown
              obtain ⟨ao, no, co, rfl⟩ := own_form hown
              obtain ⟨hWF, hT, hRow, hlen, hall⟩ := HWFF.out
              have hT2 := hb.at (World.block_lt_of_cell? _ ⟨_, _, none⟩ hT) hT
              have hWF2 := hWF.step hb
              obtain ⟨ot, oc, rfl⟩ := hRow.form
              have hAl := Bel.alloc0 wr (.cells #[.slice ao no co] 22)
              obtain ⟨us, hown2, hul, hnext⟩ := hRow.step hb hAl hoi hWF.big
              have hWF3 := hWF2.step hAl
              have HN := Lib.hid hnext
              have HX := Lib.hid (And.intro hWF3 (And.intro hlen hall))
              have hfr := hWF2.free 1
              have hul2 : us.length ≤ 6 := by omega
              have hob := own_base hown2
              clear hnext hown hoi hWF hRow hlen hall hWF2 hWF3 HWFF
              have hz5 : w1.heap.size + 1 ≤ (wr.alloc (.cells #[.slice ao no co] 22)).heap.size := HX.out.1.big
              go_wp2_with (at_builtin; refine wpList_append_own_at _ rfl _ _ 56 rfl (w1.heap.size + 1) 22 i1 (.slice none 0 0) 1 24 Try.underlying56 hi1 hy0 hy1 hy2 rfl (by decide) _ _ _ rfl hown2 _ _ _ [.slice ao no co] rfl rfl (news_oneV _ _ _) (one_slice _ _ _) (by unfold maxLen; omega) (by omega) hz5 ?_; intro v' w4 hown' hgrow _ hat; have hRow4 := HN.out w4 v' hown' hgrow hat; obtain ⟨ov, kv, rfl⟩ := hRow4.form; have hWF4 := HX.out.1.grown hgrow (fun q hq => by have := hob q hq; omega); have hT4 : w4.cell? ⟨w1.heap.size, 1, none⟩ = some (.slice ot tb.length oc) := hgrow.cell (hAl.at (World.block_lt_of_cell? _ ⟨_, _, none⟩ hT2) hT2) (fun e => by have := hob _ e.symm; simp at this; omega); have hf4 := hWF4.free 1)
              have hl5 : (tb ++ [env]).length = tb.length + 1 := by simp
              rw [hl5] at hRow4
              obtain ⟨-, hlen, hall⟩ := HX.out
              refine ⟨⟨k + 1, z3, .slice ov (tb.length + 1) kv, tb ++ [env], by omega, by simp, rfl, hWF4.set1 _, World.cell?_setCell_same w4 ⟨w1.heap.size, 1, none⟩ _ hT4, hRow4.low (by show w1.heap.size < w1.heap.size + 1; omega) _, by omega, fun j hj => ?_⟩, by simp [intOf]; omega⟩
              by_cases hjk : j < k
              · have e : (tb ++ [env]).getD j [] = tb.getD j [] := by simp only [List.getD_eq_getElem?_getD]; rw [List.getElem?_append_left (by omega)]
                rw [e]; exact hall j hjk
              · obtain rfl : j = tb.length := by omega
                have e : (tb ++ [env]).getD tb.length [] = env := by simp
                rw [e, hlen, hAn, hel, ← hNN]
                exact ⟨by simp, hen⟩
    · obtain rfl : k = ar.length := by omega
      have hd : decide ((ar.length : Int) < ar.length) = false := by simp
      have hOS := hRow.own
      obtain ⟨ot, oc, rfl⟩ := hRow.form
      have hsize := hWF.size
      have hr0 := hWF.r0
      have hr1 := hWF.r1
      have hrf0 := hWF.rf 0
      have hrf1 := hWF.rf 1
      have HX := Lib.hid (And.intro hWF (And.intro hOS (And.intro hlen hall)))
      clear hWF hRow hOS hlen hall hB2 hbs1 hbs2
      go_wp2_with fail
      obtain ⟨hWF, hOS, hlen, hall⟩ := HX.out
      have hl := hWF.low
      have c0 : ((wr.setCell ⟨w.heap.size + 1, 0, none⟩ (.int .i64 Z)).setCell ⟨w.heap.size + 1, 1, none⟩ (.slice ot tb.length oc)).cell? ⟨w.heap.size + 1, 0, none⟩ = some (.int .i64 Z) := by
        rw [World.cell?_setCell_other (h := by intro e; simp at e)]; exact World.cell?_setCell_same wr _ _ hr0
      have c1 : ((wr.setCell ⟨w.heap.size + 1, 0, none⟩ (.int .i64 Z)).setCell ⟨w.heap.size + 1, 1, none⟩ (.slice ot tb.length oc)).cell? ⟨w.heap.size + 1, 1, none⟩ = some (.slice ot tb.length oc) :=
        World.cell?_setCell_same _ _ _ (by rw [World.cell?_setCell_other (h := by intro e; simp at e)]; exact hr1)
      have hOS2 : OwnS (w1.heap.size + 1) wr.heap.size ((wr.setCell ⟨w.heap.size + 1, 0, none⟩ (.int .i64 Z)).setCell ⟨w.heap.size + 1, 1, none⟩ (.slice ot tb.length oc)) (.slice ot tb.length oc) tb :=
        hOS.same fun b hb1 _ _ => by rw [Below.heap_setCell _ _ _ b (by show b ≠ w.heap.size + 1; omega), Below.heap_setCell _ _ _ b (by show b ≠ w.heap.size + 1; omega)]
      refine bodyPost_ret (v := .agg #[.int .i64 Z, .slice ot tb.length oc]) (by simp [results, Try.results34, go_sem, c0, c1]) rfl ⟨_, Z, tb, rfl, (hOS2.mono (by omega) (by simp)).sl, fun j => ?_, fun _ => isWorld_iff.2 ⟨by omega, by omega, hlen, fun j hj => ⟨?_, fun q hq => (hall j (by omega)).2 _ (mem_gd _ 0 q hq)⟩⟩, hlen, by omega, by omega, (hWF.bel.set (p := ⟨w.heap.size + 1, 0, none⟩) (by show w.heap.size ≤ w.heap.size + 1; omega) _).set (p := ⟨w.heap.size + 1, 1, none⟩) (by show w.heap.size ≤ w.heap.size + 1; omega) _⟩
      · by_cases hj : j < ar.length
        · rw [(hall j hj).1]
          exact pow27 hZ1.2 (by have := (drawn_get hdr j).2; omega)
        · have e : tb.getD j [] = [] := by simp [List.getD, show tb.length ≤ j by omega]
          rw [e]; exact Nat.zero_le _
      · rw [(hall j (by omega)).1]; rfl
end Go.Proofs.Yteegjnobmbcjiaa
end
section
/- Contracts of chapter 4 with the answers named. -/
namespace Go.Proofs.Yteegjnobmbcjiaa
open Go.RowKit

theorem slC_n {lo hi : Nat} {w : World} {ad : Option Addr} {n k : Nat} {c : List Lt} (h : SlC lo hi w (.slice ad n k) c) : n = c.length := h.len
theorem clH_val (ar : List Int) (Z : Int) (tb : List (List Int)) (env : List Int) (c : List Lt) : clH ar Z tb env c = holdsC (evT ar Z tb env) c := by
  unfold clH holdsC
  congr 1
/-- What a tidied, a renamed and an always true clause say. -/
theorem tidied_ok {ar : List Int} {c t r : List Lt} {ta : Bool} (hg : goodClause ar c = true) (hT : tidyAns ar c = t) (hR : renCAns ar c = r) (hTa : tautAns ar c = ta) :
    goodClause ar t = true ∧ tidyAns ar t = t ∧ ∀ Z tb env, 1 ≤ Z → Z ≤ 3 → (goodSign ar = true → isWorld ar Z tb = true) → okEnv Z env = true →
      holdsOk ar Z tb c env = true ∧ holdsOk ar Z tb t env = true ∧ holdsAns ar Z tb t env = holdsAns ar Z tb c env ∧ (ta && !(holdsAns ar Z tb c env)) = false ∧ falseOk ar Z tb r = falseOk ar Z tb c ∧ heldAns ar Z tb r = heldAns ar Z tb c := by
  obtain ⟨h1, h2, h3⟩ := goodClause_iff.1 hg
  have hok : okLits ar c = true := okLits_iff.2 ⟨h2, h3⟩
  have hgt := tidy_good hg
  unfold tidyAns at hT
  unfold renCAns at hR
  unfold tautAns at hTa
  rw [if_pos hg] at hT hR
  rw [hg, Bool.true_and] at hTa
  subst hT hR hTa
  obtain ⟨g1, g2, g3⟩ := goodClause_iff.1 hgt
  have hokt : okLits ar (tidyC c) = true := okLits_iff.2 ⟨g2, g3⟩
  refine ⟨hgt, ?_, fun Z tb env _ _ hw he => ?_⟩
  · unfold tidyAns
    rw [if_pos hgt]
    exact tidy_twice c
  · have hw' := hw h1
    have k1 : holdsOk ar Z tb c env = true := by unfold holdsOk goodWorld; rw [h1, hw', hok, he]; rfl
    have k2 : holdsOk ar Z tb (tidyC c) env = true := by unfold holdsOk goodWorld; rw [h1, hw', hokt, he]; rfl
    obtain ⟨k3, k4⟩ := heldAns_ren (sz := Z) (tb := tb) hok
    refine ⟨k1, k2, ?_, ?_, k3, k4⟩
    · unfold holdsAns
      rw [if_pos k1, if_pos k2, clH_val, clH_val]
      exact tidy_holds (v := evT ar Z tb env) c
    · unfold holdsAns
      rw [if_pos k1, clH_val]
      cases hta : tautC c
      · rfl
      · rw [taut_holds (v := evT ar Z tb env) hta]; rfl
theorem iTidyClause_vv {l h l' h' : Nat} {v u : Value} {ar : List Int} {c : List Lt} {w : World} (ha : ar.length ≤ 1048576) (hv : SlI l h w v ar) (hc : sumC c ≤ 1048576) (hu : SlC l' h' w u c) {y : List Lt} {k : Bool} (e1 : tidyAns ar c = y) (e2 : goodClause ar c = k) :
    Calls Try.prog 25 #[.agg #[v], u] w (RetCB w y k) := by subst e1 e2; exact iTidyClause_t ha hv hc hu
theorem iRenameClause_vv {l h l' h' : Nat} {v u : Value} {ar : List Int} {c : List Lt} {w : World} (ha : ar.length ≤ 1048576) (hv : SlI l h w v ar) (hc : sumC c ≤ 1048576) (hu : SlC l' h' w u c) {y : List Lt} {k : Bool} (e1 : renCAns ar c = y) (e2 : goodClause ar c = k) :
    Calls Try.prog 27 #[.agg #[v], u] w (RetCB w y k) := by subst e1 e2; exact iRenameClause_t ha hv hc hu
theorem iIsTautology_vv {l h l' h' : Nat} {v u : Value} {ar : List Int} {c : List Lt} {w : World} (ha : ar.length ≤ 1048576) (hv : SlI l h w v ar) (hc : sumC c ≤ 1048576) (hu : SlC l' h' w u c) {y k : Bool} (e1 : tautAns ar c = y) (e2 : goodClause ar c = k) :
    Calls Try.prog 29 #[.agg #[v], u] w (RetV w (.tuple #[.bool y, .bool k])) := by subst e1 e2; exact iIsTautology_t ha hv hc hu
theorem iWeightOf_vv {l h l' h' : Nat} {v u : Value} {ar : List Int} {c : List Lt} {w : World} (ha : ar.length ≤ 1048576) (hv : SlI l h w v ar) (hc : sumC c ≤ 1048576) (hu : SlC l' h' w u c) {y : Int} {k : Bool} (e1 : weightAns ar c = y) (e2 : goodClause ar c = k) :
    Calls Try.prog 39 #[.agg #[v], u] w (RetV w (.tuple #[.int .i64 y, .bool k])) := by subst e1 e2; exact iWeightOf_t ha hv hc hu
theorem iVarsIn_vv {l h l' h' : Nat} {v u : Value} {ar : List Int} {c : List Lt} {w : World} (ha : ar.length ≤ 1048576) (hv : SlI l h w v ar) (hc : sumC c ≤ 1048576) (hu : SlC l' h' w u c) {y : List Int} {k : Bool} (e1 : varsInAns ar c = y) (e2 : goodClause ar c = k) :
    Calls Try.prog 41 #[.agg #[v], u] w (RetIB w y k) := by subst e1 e2; exact iVarsIn_t ha hv hc hu
theorem sTidyClause_vv {l h l' h' : Nat} {v u : Value} {ar : List Int} {c : List Lt} {w : World} (ha : ar.length ≤ 1048576) (hv : SlI l h w v ar) (hc : sumC c ≤ 1048576) (hu : SlC l' h' w u c) {y : List Lt} {k : Bool} (e1 : tidyAns ar c = y) (e2 : goodClause ar c = k) :
    Calls Try.prog 26 #[.agg #[v], u] w (RetCB w y k) := by subst e1 e2; exact sTidyClause_t ha hv hc hu
theorem sRenameClause_vv {l h l' h' : Nat} {v u : Value} {ar : List Int} {c : List Lt} {w : World} (ha : ar.length ≤ 1048576) (hv : SlI l h w v ar) (hc : sumC c ≤ 1048576) (hu : SlC l' h' w u c) {y : List Lt} {k : Bool} (e1 : renCAns ar c = y) (e2 : goodClause ar c = k) :
    Calls Try.prog 28 #[.agg #[v], u] w (RetCB w y k) := by subst e1 e2; exact sRenameClause_t ha hv hc hu
theorem sIsTautology_vv {l h l' h' : Nat} {v u : Value} {ar : List Int} {c : List Lt} {w : World} (ha : ar.length ≤ 1048576) (hv : SlI l h w v ar) (hc : sumC c ≤ 1048576) (hu : SlC l' h' w u c) {y k : Bool} (e1 : tautAns ar c = y) (e2 : goodClause ar c = k) :
    Calls Try.prog 30 #[.agg #[v], u] w (RetV w (.tuple #[.bool y, .bool k])) := by subst e1 e2; exact sIsTautology_t ha hv hc hu
theorem sWeightOf_vv {l h l' h' : Nat} {v u : Value} {ar : List Int} {c : List Lt} {w : World} (ha : ar.length ≤ 1048576) (hv : SlI l h w v ar) (hc : sumC c ≤ 1048576) (hu : SlC l' h' w u c) {y : Int} {k : Bool} (e1 : weightAns ar c = y) (e2 : goodClause ar c = k) :
    Calls Try.prog 40 #[.agg #[v], u] w (RetV w (.tuple #[.int .i64 y, .bool k])) := by subst e1 e2; exact sWeightOf_t ha hv hc hu
theorem sVarsIn_vv {l h l' h' : Nat} {v u : Value} {ar : List Int} {c : List Lt} {w : World} (ha : ar.length ≤ 1048576) (hv : SlI l h w v ar) (hc : sumC c ≤ 1048576) (hu : SlC l' h' w u c) {y : List Int} {k : Bool} (e1 : varsInAns ar c = y) (e2 : goodClause ar c = k) :
    Calls Try.prog 42 #[.agg #[v], u] w (RetIB w y k) := by subst e1 e2; exact sVarsIn_t ha hv hc hu
theorem iHoldsAt_vv {l h l' h' l2 h2 l3 h3 : Nat} {v u vc ve : Value} {ar : List Int} {sz : Int} {tb : List (List Int)} {c : List Lt} {env : List Int} {w : World} (ha : ar.length ≤ 1048576) (hv : SlI l h w v ar) (hx : short tb) (hu : SlS l' h' w u tb) (hcs : sumC c ≤ 1048576) (hc : SlC l2 h2 w vc c) (hel : env.length ≤ 1048576) (he : SlI l3 h3 w ve env) {y k : Bool} (e1 : holdsAns ar sz tb c env = y) (e2 : holdsOk ar sz tb c env = k) :
    Calls Try.prog 36 #[.agg #[v], .agg #[.int .i64 sz, u], vc, ve] w (RetV w (.tuple #[.bool y, .bool k])) := by subst e1 e2; exact iHoldsAt_t ha hv hx hu hcs hc hel he
theorem iHoldsIn_vv {l h l' h' l2 h2 : Nat} {v u vc : Value} {ar : List Int} {sz : Int} {tb : List (List Int)} {c : List Lt} {w : World} (ha : ar.length ≤ 1048576) (hv : SlI l h w v ar) (hx : short tb) (hu : SlS l' h' w u tb) (hcs : sumC c ≤ 1048576) (hc : SlC l2 h2 w vc c) {y k : Bool} (e1 : heldAns ar sz tb c = y) (e2 : falseOk ar sz tb c = k) :
    Calls Try.prog 37 #[.agg #[v], .agg #[.int .i64 sz, u], vc] w (RetV w (.tuple #[.bool y, .bool k])) := by subst e1 e2; exact iHoldsIn_t ha hv hx hu hcs hc
end Go.Proofs.Yteegjnobmbcjiaa
end
