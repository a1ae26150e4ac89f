/- Texts merged, part 12. -/
import Derived.Test.YteegjnobmbcjiaaMgPutFor11
section
/- SameUpTo: the reference's. -/
namespace Go.Proofs.Yteegjnobmbcjiaa
open Go.RowKit

/-- A slice of slices somewhere. -/
def ExS (w : World) (v : Value) (xss : List (List Int)) : Prop := ∃ lo hi, SlS lo hi w v xss
theorem ExS.below {w w' : World} {v : Value} {xss : List (List Int)} (h : ExS w v xss) (hb : Bel w w') : ExS w' v xss := h.elim fun lo h => h.elim fun hi h => ⟨lo, hi, h.below hb⟩
theorem ExS.alloc {w : World} {v : Value} {xss : List (List Int)} (h : ExS w v xss) (o : Obj) : ExS (w.alloc o) v xss := h.below (Bel.alloc0 w o)
theorem ExS.one {w : World} {va : Value} {a : List Int} {lo hi B : Nat} (h : SlI lo hi w va a) (T : TypeId) (hB : B = w.heap.size) : ExS (w.alloc (.cells #[va] T)) (.slice (some ⟨B, 0, none⟩) 1 1) [a] := ⟨_, _, SlS.one' h T hB⟩
theorem rows_one {ar a : List Int} (h : okTerm ar a = true) : rows40 [a] := by
  refine ⟨by simp, fun j hj => ?_⟩
  obtain rfl : j = 0 := by simp at hj; omega
  exact ⟨((okTerm_iff _ _).1 h).2.1, okTerm_low h⟩
end Go.Proofs.Yteegjnobmbcjiaa
end
section
/- Renaming: again is the same, and each list alone. -/
namespace Go.Proofs.Yteegjnobmbcjiaa
open Go.RowKit

theorem stepM_sub {met : List Int} {n x : Int} (h : x ∈ met) : x ∈ stepM met n := by unfold stepM; split; exact List.mem_append_left _ h; exact h
theorem metT_sub {x : Int} : ∀ (t met : List Int), x ∈ met → x ∈ metT met t
  | [], _, h => h
  | n :: t, met, h => metT_sub t (stepM met n) (stepM_sub h)
theorem metS_sub {x : Int} : ∀ (l : List (List Int)) (met : List Int), x ∈ met → x ∈ metS met l
  | [], _, h => h
  | t :: l, met, h => metS_sub l (metT met t) (metT_sub t met h)
theorem metT_has {x : Int} (hx : x < 0) : ∀ (t met : List Int), x ∈ t → x ∈ metT met t
  | n :: t, met, h => by
    rcases List.mem_cons.1 h with rfl | h
    · exact metT_sub t _ (stepM_mem met x hx)
    · exact metT_has hx t _ h
theorem metS_has {x : Int} (hx : x < 0) : ∀ (l : List (List Int)) (met : List Int) (t : List Int), t ∈ l → x ∈ t → x ∈ metS met l
  | s :: l, met, t, h, ht => by
    rcases List.mem_cons.1 h with rfl | h
    · exact metS_sub l _ (metT_has hx t met ht)
    · exact metS_has hx l _ t h ht
/-- More that is met turns no earlier place. -/
def Ext (a b : List Int) : Prop := ∃ c, b = a ++ c
theorem Ext.rfl' (a : List Int) : Ext a a := ⟨[], by simp⟩
theorem Ext.trans {a b c : List Int} (h : Ext a b) (k : Ext b c) : Ext a c := by obtain ⟨x, rfl⟩ := h; obtain ⟨y, rfl⟩ := k; exact ⟨x ++ y, by simp⟩
theorem stepM_ext (met : List Int) (n : Int) : Ext met (stepM met n) := by unfold stepM; split; exact ⟨[n], rfl⟩; exact Ext.rfl' _
theorem metT_ext : ∀ (t met : List Int), Ext met (metT met t)
  | [], met => Ext.rfl' met
  | n :: t, met => (stepM_ext met n).trans (metT_ext t _)
theorem metS_ext : ∀ (l : List (List Int)) (met : List Int), Ext met (metS met l)
  | [], met => Ext.rfl' met
  | t :: l, met => (metT_ext t met).trans (metS_ext l _)
theorem valM_ext {a b : List Int} {n : Int} (h : Ext a b) (hn : n < 0 → n ∈ a) : valM b n = valM a n := by
  obtain ⟨c, rfl⟩ := h
  unfold valM
  split
  · rename_i h0
    rw [List.idxOf_append, if_pos (hn h0)]
  · rfl
theorem renT_map {M : List Int} : ∀ (t met : List Int), Ext (metT met t) M → renT met t = t.map (valM M)
  | [], _, _ => rfl
  | n :: t, met, h => by
    have h1 : Ext (stepM met n) M := (metT_ext t _).trans h
    rw [renT, List.map_cons, renT_map t _ h, ← valM_ext h1 (fun hn => stepM_mem met n hn)]
theorem renS_map {M : List Int} : ∀ (l : List (List Int)) (met : List Int), Ext (metS met l) M → renS met l = l.map (fun t => t.map (valM M))
  | [], _, _ => rfl
  | t :: l, met, h => by
    rw [renS, List.map_cons, renS_map l _ h, renT_map t met ((metS_ext l _).trans h)]
/-- A renaming that is one to one on what is met. -/
structure Inj1 (σ : Int → Int) (S : List Int) : Prop where
  pos : ∀ n, ¬ n < 0 → σ n = n
  neg : ∀ n ∈ S, n < 0 → σ n < 0
  inj : ∀ m ∈ S, ∀ n ∈ S, σ m = σ n → m = n
theorem mem_map_inj {σ : Int → Int} {S : List Int} (h : Inj1 σ S) {met : List Int} (hm : ∀ x ∈ met, x ∈ S) {n : Int} (hn : n ∈ S) : σ n ∈ met.map σ ↔ n ∈ met := by
  rw [List.mem_map]
  constructor
  · rintro ⟨m, h1, h2⟩
    rw [h.inj n hn m (hm m h1) h2.symm]; exact h1
  · exact fun h1 => ⟨n, h1, rfl⟩
theorem idx_map_inj {σ : Int → Int} {S : List Int} (h : Inj1 σ S) : ∀ {met : List Int}, (∀ x ∈ met, x ∈ S) → ∀ {n : Int}, n ∈ S → (met.map σ).idxOf (σ n) = met.idxOf n
  | [], _, _, _ => rfl
  | m :: met, hm, n, hn => by
    rw [List.map_cons, List.idxOf_cons, List.idxOf_cons]
    by_cases e : m = n
    · subst e; simp
    · have e2 : σ m ≠ σ n := fun h2 => e (h.inj m (hm m List.mem_cons_self) n hn h2)
      have e3 : (σ m == σ n) = false := by simpa using e2
      have e4 : (m == n) = false := by simpa using e
      rw [e3, e4, idx_map_inj h (fun x hx => hm x (List.mem_cons_of_mem _ hx)) hn]
theorem stepM_map {σ : Int → Int} {S : List Int} (h : Inj1 σ S) {met : List Int} (hm : ∀ x ∈ met, x ∈ S) {n : Int} (hn : n < 0 → n ∈ S) : stepM (met.map σ) (σ n) = (stepM met n).map σ ∧ ∀ x ∈ stepM met n, x ∈ S := by
  by_cases h0 : n < 0
  · have hs := hn h0
    have h1 := h.neg n hs h0
    by_cases h2 : n ∈ met
    · rw [stepM_old h2, stepM_old ((mem_map_inj h hm hs).2 h2)]; exact ⟨rfl, hm⟩
    · rw [stepM_new h0 h2, stepM_new h1 (fun h3 => h2 ((mem_map_inj h hm hs).1 h3)), List.map_append]
      refine ⟨rfl, fun x hx => ?_⟩
      rcases List.mem_append.1 hx with h3 | h3
      · exact hm x h3
      · simp at h3; rw [h3]; exact hs
  · rw [h.pos n h0, stepM_sym h0, stepM_sym h0]; exact ⟨rfl, hm⟩
theorem renT_inj {σ : Int → Int} {S : List Int} (h : Inj1 σ S) : ∀ {t met : List Int}, (∀ x ∈ met, x ∈ S) → (∀ x ∈ t, x < 0 → x ∈ S) → renT (met.map σ) (t.map σ) = renT met t ∧ metT (met.map σ) (t.map σ) = (metT met t).map σ ∧ ∀ x ∈ metT met t, x ∈ S
  | [], met, hm, _ => ⟨rfl, rfl, hm⟩
  | n :: t, met, hm, ht => by
    obtain ⟨h1, h2⟩ := stepM_map h hm (ht n List.mem_cons_self)
    obtain ⟨a1, a2, a3⟩ := renT_inj h (t := t) h2 (fun x hx => ht x (List.mem_cons_of_mem _ hx))
    have hv : valM ((stepM met n).map σ) (σ n) = valM (stepM met n) n := by
      unfold valM
      by_cases h0 : n < 0
      · have hs := ht n List.mem_cons_self h0
        rw [if_pos h0, if_pos (h.neg n hs h0), idx_map_inj h h2 hs]
      · rw [h.pos n h0]
        rw [if_neg h0, if_neg h0]
    refine ⟨?_, ?_, a3⟩
    · rw [List.map_cons, renT, renT, h1, hv, a1]
    · show metT (stepM (met.map σ) (σ n)) (t.map σ) = _
      rw [h1, a2]; rfl
theorem renS_inj {σ : Int → Int} {S : List Int} (h : Inj1 σ S) : ∀ {l : List (List Int)} {met : List Int}, (∀ x ∈ met, x ∈ S) → (∀ t ∈ l, ∀ x ∈ t, x < 0 → x ∈ S) → renS (met.map σ) (l.map fun t => t.map σ) = renS met l
  | [], _, _, _ => rfl
  | t :: l, met, hm, hl => by
    obtain ⟨a1, a2, a3⟩ := renT_inj h (t := t) hm (hl t List.mem_cons_self)
    rw [List.map_cons, renS, renS, a1, a2, renS_inj h a3 (fun s hs => hl s (List.mem_cons_of_mem _ hs))]
theorem metT_nodup : ∀ (t met : List Int), met.Nodup → (metT met t).Nodup
  | [], _, h => h
  | n :: t, met, h => metT_nodup t _ (by
      unfold stepM
      split
      · rename_i h0
        rw [List.nodup_append]
        exact ⟨h, by simp, fun a ha b hb => by simp at hb; subst hb; intro e; subst e; exact h0.2 ha⟩
      · exact h)
theorem metS_nodup : ∀ (l : List (List Int)) (met : List Int), met.Nodup → (metS met l).Nodup
  | [], _, h => h
  | t :: l, met, h => metS_nodup l _ (metT_nodup t met h)
theorem metT_of {x : Int} : ∀ (t met : List Int), x ∈ metT met t → x ∈ met ∨ (x ∈ t ∧ x < 0)
  | [], _, h => .inl h
  | n :: t, met, h => by
    rcases metT_of t _ h with h1 | ⟨h1, h2⟩
    · unfold stepM at h1
      split at h1
      · rename_i h0
        rcases List.mem_append.1 h1 with h3 | h3
        · exact .inl h3
        · simp at h3; rw [h3]; exact .inr ⟨List.mem_cons_self, h0.1⟩
      · exact .inl h1
    · exact .inr ⟨List.mem_cons_of_mem _ h1, h2⟩
theorem metS_of {x : Int} : ∀ (l : List (List Int)) (met : List Int), x ∈ metS met l → x ∈ met ∨ ∃ t ∈ l, x ∈ t ∧ x < 0
  | [], _, h => .inl h
  | t :: l, met, h => by
    rcases metS_of l _ h with h1 | ⟨s, h1, h2⟩
    · rcases metT_of t met h1 with h3 | h3
      · exact .inl h3
      · exact .inr ⟨t, List.mem_cons_self, h3⟩
    · exact .inr ⟨s, List.mem_cons_of_mem _ h1, h2⟩
theorem low_mem {ar t : List Int} (h : okTerm ar t = true) {x : Int} (hx : x ∈ t) : -12 ≤ x := by
  obtain ⟨i, hi, e⟩ := List.getElem_of_mem hx
  have := okTerm_low h i hi
  rwa [show t.getD i 0 = x from by simp [List.getD, hi, e]] at this
theorem met12 {ar : List Int} {l : List (List Int)} (h : ∀ t ∈ l, okTerm ar t = true) : (metS [] l).length ≤ 12 := by
  have hm : ∀ x ∈ metS [] l, -12 ≤ x ∧ x < 0 := fun x hx => by
    rcases metS_of l [] hx with h1 | ⟨t, h1, h2, h3⟩
    · simp at h1
    · exact ⟨low_mem (h t h1) h2, h3⟩
  have hn := metS_nodup l [] List.nodup_nil
  have h2 : ((metS [] l).map fun x => (-1 - x).toNat).Nodup := by
    show List.Pairwise (· ≠ ·) _
    rw [List.pairwise_map]
    refine List.Pairwise.imp_of_mem (fun {a b} ha hb hab e => hab ?_) hn
    have h1 := hm a ha
    have h2 := hm b hb
    omega
  have := lenN 12 _ h2 (fun v hv => by obtain ⟨x, hx, rfl⟩ := List.mem_map.1 hv; have := hm x hx; omega)
  simpa using this
theorem valM_inj {M S : List Int} (h : ∀ x ∈ S, x ∈ M) (hs : ∀ x ∈ S, x < 0) : Inj1 (valM M) S := by
  refine ⟨fun n hn => val_sym hn, fun n _ hn => ?_, fun m hm n hn e => ?_⟩
  · unfold valM; rw [if_pos hn]; omega
  · unfold valM at e
    rw [if_pos (hs m hm), if_pos (hs n hn)] at e
    have e2 : M.idxOf m = M.idxOf n := by omega
    have h1 := List.idxOf_lt_length_iff.2 (h m hm)
    have h3 := List.getElem_idxOf h1
    have h4 := List.getElem_idxOf (List.idxOf_lt_length_iff.2 (h n hn))
    rw [← h3, ← h4]
    simp only [e2]
theorem map_seq {ar : List Int} {σ : Int → Int} (hp : ∀ n, ¬ n < 0 → σ n = n) : ∀ {t : List Int} {k : Nat}, (∀ x ∈ t, x < 0 → -12 ≤ σ x ∧ σ x < 0) → seqT ar k t → seqT ar k (t.map σ)
  | [], _, _, h => h
  | n :: t, k, hb, h => by
    cases k with
    | zero => have := seqT_zero h; simp at this
    | succ k =>
      obtain ⟨h1, h2⟩ := seqT_cons.1 h
      rw [List.map_cons]
      by_cases h0 : n < 0
      · obtain ⟨b1, b2⟩ := hb n List.mem_cons_self h0
        have ih := map_seq hp (t := t) (fun x hx => hb x (List.mem_cons_of_mem _ hx)) h2
        refine seqT_cons.2 ⟨?_, by rw [arOf_neg b2]; rw [arOf_neg h0] at ih; exact ih⟩
        unfold okSym inB at h1 ⊢
        simp at h1 ⊢
        omega
      · rw [hp n h0]
        exact seqT_cons.2 ⟨h1, map_seq hp (t := t) (fun x hx => hb x (List.mem_cons_of_mem _ hx)) h2⟩
theorem rename_again {ar : List Int} {l : List (List Int)} (h : renameOk ar l = true) :
    renameOk ar (renameAns ar l) = true ∧ renameAns ar (renameAns ar l) = renameAns ar l ∧ (renameAns ar l).length = l.length ∧ ∀ k, k < l.length → sameOk ar (l.getD k []) ((renameAns ar l).getD k []) = true ∧ sameAns ar (l.getD k []) ((renameAns ar l).getD k []) = true := by
  obtain ⟨hg, hl, hok⟩ := renameOk_iff.1 h
  have h12 := met12 hok
  have hmap := renS_map l [] (Ext.rfl' (metS [] l))
  have hneg : ∀ x ∈ metS [] l, x < 0 := fun x hx => by
    rcases metS_of l [] hx with h1 | ⟨t, _, _, h3⟩
    · simp at h1
    · exact h3
  have hI := valM_inj (M := metS [] l) (S := metS [] l) (fun _ h => h) hneg
  have hin : ∀ t ∈ l, ∀ x ∈ t, x < 0 → x ∈ metS [] l := fun t ht x hx h0 => metS_has h0 l [] t ht hx
  have hans := renameAns_yes h
  have hr : ∀ t ∈ l, okTerm ar (t.map (valM (metS [] l))) = true := fun t ht => by
    obtain ⟨a1, a2⟩ := okTerm_seq.1 (hok t ht)
    refine okTerm_seq.2 ⟨by simpa using a1, map_seq hI.pos (fun x hx h0 => ?_) a2⟩
    have h1 := List.idxOf_lt_length_iff.2 (hin t ht x hx h0)
    unfold valM
    rw [if_pos h0]
    omega
  have hok2 : renameOk ar (renameAns ar l) = true := by
    rw [hans, hmap]
    refine renameOk_iff.2 ⟨hg, by simpa using hl, fun t ht => ?_⟩
    obtain ⟨s, hs, rfl⟩ := List.mem_map.1 ht
    exact hr s hs
  have hsame : renS [] (renS [] l) = renS [] l := by
    conv => lhs; rw [hmap]
    exact renS_inj hI (met := []) (fun x hx => by simp at hx) hin
  refine ⟨hok2, by rw [renameAns_yes hok2, hans, hsame], by rw [hans, renS_len], fun k hk => ?_⟩
  have hmem : l.getD k [] ∈ l := by rw [show l.getD k [] = l[k] from by simp [List.getD, hk]]; exact List.getElem_mem hk
  have hget : (renameAns ar l).getD k [] = (l.getD k []).map (valM (metS [] l)) := by
    rw [hans, hmap]
    simp [List.getD, hk]
  have hso : sameOk ar (l.getD k []) ((renameAns ar l).getD k []) = true := by
    unfold sameOk
    rw [renameOk_one, renameOk_one, hget]
    unfold goodTerm
    rw [hg, hok _ hmem, hr _ hmem]
    rfl
  refine ⟨hso, ?_⟩
  unfold sameAns
  rw [hso, hget]
  have := (renT_inj hI (t := l.getD k []) (met := []) (fun x hx => by simp at hx) (hin _ hmem)).1
  rw [List.map_nil] at this
  rw [this]
  simp
end Go.Proofs.Yteegjnobmbcjiaa
end
section
/- Chapters 4 and 5: what holds in a world: instances, renamings, tidied clauses. No program. -/
namespace Go.Proofs.Yteegjnobmbcjiaa
open Go.RowKit

theorem varsTo_lt' {f : Nat → Bool} {n j : Nat} (h : j ∈ varsTo f n) : j < n := by simp [varsTo] at h; exact h.1
theorem varsC_iff {c : List Lt} {j : Nat} : j ∈ varsC c ↔ j < 12 ∧ ∃ x ∈ c, (-1 - (j : Int)) ∈ x.2.1 ∨ (-1 - (j : Int)) ∈ x.2.2 := by
  unfold varsC varsTo mk
  rw [List.mem_filter, List.mem_range, decide_eq_true_eq, List.mem_flatten]
  refine and_congr_right fun _ => ⟨?_, ?_⟩
  · rintro ⟨t, ht, hn⟩
    obtain ⟨x, hx, e⟩ := flat_mem ht
    refine ⟨x, hx, ?_⟩
    rcases e with rfl | rfl
    · exact .inl hn
    · exact .inr hn
  · rintro ⟨x, hx, h | h⟩
    · exact ⟨x.2.1, List.mem_flatMap.2 ⟨x, hx, by simp⟩, h⟩
    · exact ⟨x.2.2, List.mem_flatMap.2 ⟨x, hx, by simp⟩, h⟩
theorem varsC_has {c : List Lt} {x : Lt} (hx : x ∈ c) {n : Int} (hn : n ∈ x.2.1 ∨ n ∈ x.2.2) (h0 : n < 0) (hlow : -12 ≤ n) : (-1 - n).toNat ∈ varsC c :=
  varsC_iff.2 ⟨by omega, x, hx, by rw [show (-1 - (((-1 - n).toNat : Nat) : Int)) = n from by omega]; exact hn⟩

section
variable {ar : List Int} {sz : Int} {tb : List (List Int)} {env : List Int}

theorem Ev.congrS {env' : List Int} {s : Option Nat} {y vs : List Int} (h : Ev ar sz tb env s y vs) (hq : ∀ n ∈ y, n < 0 → env.getD (-1 - n).toNat 0 = env'.getD (-1 - n).toNat 0) : Ev ar sz tb env' s y vs := by
  induction h with
  | var n h1 h2 => rw [hq n (by simp) h2]; exact Ev.var n h1 h2
  | node n ys vs h1 h2 _ ih => exact Ev.node n ys vs h1 h2 (ih fun m hm => hq m (List.mem_cons_of_mem _ hm))
  | nil => exact Ev.nil
  | cons m y ys v vs _ _ ih1 ih2 => exact Ev.cons m y ys v vs (ih1 fun k hk => hq k (List.mem_append_left _ hk)) (ih2 fun k hk => hq k (List.mem_append_right _ hk))
theorem evT_congrS {env' t : List Int} (ht : okTerm ar t = true) (hq : ∀ n ∈ t, n < 0 → env.getD (-1 - n).toNat 0 = env'.getD (-1 - n).toNat 0) : evT ar sz tb env t = evT ar sz tb env' t :=
  (ev_eq ht ((ev_whole ht).congrS hq)).symm
theorem clH_eq {env' : List Int} {c d : List Lt} (g : Lt → Lt) (hd : d = c.map g) (key : ∀ x ∈ c, litH ar sz tb env (g x) = litH ar sz tb env' x) : clH ar sz tb env d = clH ar sz tb env' c := by
  subst hd
  unfold clH
  rw [List.any_map, Bool.eq_iff_iff, List.any_eq_true, List.any_eq_true]
  constructor
  · rintro ⟨x, hx, h⟩; exact ⟨x, hx, by rw [← key x hx]; exact h⟩
  · rintro ⟨x, hx, h⟩; exact ⟨x, hx, by show litH ar sz tb env (g x) = true; rw [key x hx]; exact h⟩
theorem clH_congr {env' : List Int} {c : List Lt} (hc : ∀ x ∈ c, okLit ar x = true) (hq : ∀ x ∈ c, ∀ n, n ∈ x.2.1 ∨ n ∈ x.2.2 → n < 0 → env.getD (-1 - n).toNat 0 = env'.getD (-1 - n).toNat 0) : clH ar sz tb env c = clH ar sz tb env' c := by
  refine clH_eq id (by simp) fun x hx => ?_
  obtain ⟨o1, o2⟩ := okLit_iff.1 (hc x hx)
  unfold litH
  rw [id, evT_congrS o1 (fun n hn h0 => hq x hx n (.inl hn) h0), evT_congrS o2 (fun n hn h0 => hq x hx n (.inr hn) h0)]

/-- The least assignment: none, where there is none. -/
theorem tryW_all {g : Nat → Option (List Int)} : ∀ (m k : Nat), tryW g k m = none ↔ ∀ n, k ≤ n → n < k + m → g n = none := by
  intro m
  induction m with
  | zero => intro k; exact ⟨fun _ n h1 h2 => by omega, fun _ => rfl⟩
  | succ m ih =>
    intro k
    cases hg : g k with
    | some e =>
      rw [tryW_some hg]
      exact ⟨fun h => (Option.some_ne_none e h).elim, fun h => absurd ((h k (Nat.le_refl _) (by omega)).symm.trans hg) (by simp)⟩
    | none =>
      rw [tryW_none hg, ih]
      constructor
      · intro h n h1 h2
        by_cases e : n = k
        · subst e; exact hg
        · exact h n (by omega) (by omega)
      · intro h n h1 h2; exact h n (by omega) (by omega)
theorem lw_all {Z : Nat} {P : List Int → Bool} : ∀ (vs : List Nat) (e : List Int), okEnv Z e = true → (∀ v ∈ vs, v < 12) → (lw Z P vs e = none ↔ ∀ e', okEnv Z e' = true → Off vs e e' → P e' = true) := by
  intro vs
  induction vs with
  | nil =>
    intro e he _
    unfold lw
    constructor
    · intro h e' _ ho
      rw [ho.nil]
      by_cases hp : P e = true
      · exact hp
      · rw [if_neg hp] at h; cases h
    · intro h; rw [if_pos (h e he (Off.refl _ _))]
  | cons v r ih =>
    intro e he h12
    show tryW (fun n => lw Z P r (e.set v (n : Int))) 0 Z = none ↔ _
    rw [tryW_all]
    have hv := h12 v (by simp)
    have hr := fun u hu => h12 u (List.mem_cons_of_mem _ hu)
    constructor
    · intro h e' he' ho
      have hb := (okEnv_iff.1 he').2 v hv
      have hx := h (e'.getD v 0).toNat (Nat.zero_le _) (by omega)
      rw [ih _ (okEnv_set he v (by omega) (by omega)) hr] at hx
      refine hx e' he' ?_
      refine ⟨by rw [ho.1]; simp, fun j hj => ?_⟩
      rw [set_getD]
      by_cases e1 : v = j
      · subst e1
        by_cases hl : v < e.length
        · rw [if_pos ⟨rfl, hl⟩]; omega
        · have := (okEnv_iff.1 he).1; omega
      · rw [if_neg (fun h => e1 h.1)]
        exact ho.2 j (by simp [Ne.symm e1, hj])
    · intro h n _ hn
      rw [ih _ (okEnv_set he v (by omega) (by omega)) hr]
      intro e' he' ho
      exact h e' he' ((Off.one v r e n).trans (ho.wider fun u hu => List.mem_cons_of_mem _ hu))

/-- A clause holds in a world exactly where it does so under all assignments. -/
theorem heldC_iff (h1 : 1 ≤ sz) {c : List Lt} (hc : ∀ x ∈ c, okLit ar x = true) : heldC ar sz tb c = true ↔ ∀ env, okEnv sz env = true → clH ar sz tb env c = true := by
  have hZ : ((sz.toNat : Nat) : Int) = sz := by omega
  have hz := zeros_ok (Z := sz.toNat) (by omega)
  have hv12 : ∀ v ∈ varsC c, v < 12 := fun v hv => varsTo_lt' hv
  unfold heldC lwC
  rw [Bool.not_eq_true', Option.isSome_eq_false_iff, Option.isNone_iff_eq_none, lw_all _ _ hz hv12]
  rw [hZ] at *
  constructor
  · intro h env he
    obtain ⟨e1, e2⟩ := okEnv_iff.1 he
    have hb : okEnv sz ((List.range 12).map fun j => if j ∈ varsC c then env.getD j 0 else 0) = true := by
      refine okEnv_iff.2 ⟨by simp, fun j hj => ?_⟩
      rw [List.getD_eq_getElem?_getD, List.getElem?_map, List.getElem?_range hj]
      simp only [Option.map_some, Option.getD_some]
      split
      · exact e2 j hj
      · omega
    have ho : Off (varsC c) zeros12 ((List.range 12).map fun j => if j ∈ varsC c then env.getD j 0 else 0) := by
      refine ⟨by simp [zeros12], fun j hj => ?_⟩
      by_cases h12 : j < 12
      · rw [List.getD_eq_getElem?_getD, List.getElem?_map, List.getElem?_range h12]
        simp only [Option.map_some, Option.getD_some, if_neg hj]
        unfold zeros12
        rw [List.getD_eq_getElem?_getD, List.getElem?_replicate, if_pos h12]; rfl
      · rw [List.getD_eq_getElem?_getD, List.getElem?_eq_none (by simp; omega), List.getD_eq_getElem?_getD, List.getElem?_eq_none (by simp [zeros12]; omega)]
    rw [← h _ hb ho]
    refine clH_congr hc fun x hx n hn h0 => ?_
    obtain ⟨o1, o2⟩ := okLit_iff.1 (hc x hx)
    have hlow : -12 ≤ n := by rcases hn with hn | hn; exact ok_low o1 hn; exact ok_low o2 hn
    have h12 : (-1 - n).toNat < 12 := by omega
    have hm : (-1 - n).toNat ∈ varsC c := varsC_has hx hn h0 hlow
    rw [List.getD_eq_getElem?_getD (l := (List.range 12).map _), List.getElem?_map, List.getElem?_range h12]
    simp [hm]
  · intro h env' he' _; exact h env' he'

/-- The values of a substitution are an assignment. -/
theorem subEnv_ok (hg : goodSign ar = true) (hw : isWorld ar sz tb = true) {env : List Int} (he : okEnv sz env = true) {b : List (List Int)} (hb : ∀ v, v < 12 → 0 < (b.getD v []).length → okTerm ar (b.getD v []) = true) : okEnv sz (subEnv ar sz tb env b) = true := by
  obtain ⟨e1, e2⟩ := okEnv_iff.1 he
  refine okEnv_iff.2 ⟨by simp [subEnv], fun k hk => ?_⟩
  unfold subEnv
  rw [List.getD_eq_getElem?_getD, List.getElem?_map, List.getElem?_range hk]
  simp only [Option.map_some, Option.getD_some]
  by_cases hp : 0 < (b.getD k []).length
  · rw [if_pos hp]; exact (evT_bd hg hw he (ev_whole (hb k hk hp))).1 _ (by simp)
  · rw [if_neg hp]; exact e2 k hk
/-- An instance holds where the clause does under the values of the substitution. -/
theorem clH_sub {b : List (List Int)} {c : List Lt} (hc : ∀ x ∈ c, okLit ar x = true) (hb : ∀ v, v < 12 → 0 < (b.getD v []).length → okTerm ar (b.getD v []) = true) (hi : ∀ x ∈ applyC b c, okLit ar x = true) :
    clH ar sz tb env (applyC b c) = clH ar sz tb (subEnv ar sz tb env b) c := by
  refine clH_eq (fun x => (x.1, appT b x.2.1, appT b x.2.2)) rfl fun x hx => ?_
  obtain ⟨o1, o2⟩ := okLit_iff.1 (hc x hx)
  obtain ⟨i1, i2⟩ := okLit_iff.1 (hi (x.1, appT b x.2.1, appT b x.2.2) (List.mem_map.2 ⟨x, hx, rfl⟩))
  unfold litH
  show ((evT ar sz tb env (appT b x.2.1) == evT ar sz tb env (appT b x.2.2)) == x.1) = _
  rw [sub_value o1 hb i1, sub_value o2 hb i2]
/-- What holds in a world, holds there in each instance. -/
theorem heldC_sub (hg : goodSign ar = true) (hw : isWorld ar sz tb = true) {b : List (List Int)} {c : List Lt} (hc : ∀ x ∈ c, okLit ar x = true) (hb : ∀ v, v < 12 → 0 < (b.getD v []).length → okTerm ar (b.getD v []) = true) (hi : ∀ x ∈ applyC b c, okLit ar x = true)
    (h : heldC ar sz tb c = true) : heldC ar sz tb (applyC b c) = true := by
  have hs := (isWorld_iff.1 hw).1
  rw [heldC_iff hs hi]
  intro env he
  rw [clH_sub hc hb hi]
  exact (heldC_iff hs hc).1 h _ (subEnv_ok hg hw he hb)

theorem Ev.map {env' : List Int} {σ : Int → Int} (hp : ∀ n, ¬ n < 0 → σ n = n) {s : Option Nat} {y vs : List Int} (h : Ev ar sz tb env' s y vs)
    (hq : ∀ n ∈ y, n < 0 → okSym ar (σ n) = true ∧ σ n < 0 ∧ env'.getD (-1 - n).toNat 0 = env.getD (-1 - σ n).toNat 0) : Ev ar sz tb env s (y.map σ) vs := by
  induction h with
  | var n h1 h2 =>
    obtain ⟨a1, a2, a3⟩ := hq n (by simp) h2
    rw [a3]
    exact Ev.var (σ n) a1 a2
  | node n ys vs h1 h2 _ ih =>
    rw [List.map_cons, hp n (by omega)]
    exact Ev.node n _ vs h1 h2 (ih fun m hm => hq m (List.mem_cons_of_mem _ hm))
  | nil => exact Ev.nil
  | cons m y ys v vs _ _ ih1 ih2 =>
    rw [List.map_append]
    exact Ev.cons m _ _ v vs (ih1 fun k hk => hq k (List.mem_append_left _ hk)) (ih2 fun k hk => hq k (List.mem_append_right _ hk))
def mapL (σ : Int → Int) (c : List Lt) : List Lt := c.map fun x => (x.1, x.2.1.map σ, x.2.2.map σ)
theorem clH_map {env' : List Int} {σ : Int → Int} (hp : ∀ n, ¬ n < 0 → σ n = n) {c : List Lt} (hc : ∀ x ∈ c, okLit ar x = true) (hr : ∀ x ∈ mapL σ c, okLit ar x = true)
    (hq : ∀ x ∈ c, ∀ n, n ∈ x.2.1 ∨ n ∈ x.2.2 → n < 0 → okSym ar (σ n) = true ∧ σ n < 0 ∧ env'.getD (-1 - n).toNat 0 = env.getD (-1 - σ n).toNat 0) : clH ar sz tb env (mapL σ c) = clH ar sz tb env' c := by
  refine clH_eq (fun x => (x.1, x.2.1.map σ, x.2.2.map σ)) rfl fun x hx => ?_
  obtain ⟨o1, o2⟩ := okLit_iff.1 (hc x hx)
  obtain ⟨i1, i2⟩ := okLit_iff.1 (hr (x.1, x.2.1.map σ, x.2.2.map σ) (List.mem_map.2 ⟨x, hx, rfl⟩))
  unfold litH
  show ((evT ar sz tb env (x.2.1.map σ) == evT ar sz tb env (x.2.2.map σ)) == x.1) = _
  rw [ev_eq i1 ((ev_whole o1).map hp (fun n hn h0 => hq x hx n (.inl hn) h0)), ev_eq i2 ((ev_whole o2).map hp (fun n hn h0 => hq x hx n (.inr hn) h0))]
/-- The variables in the order in which they are met. -/
abbrev metC (c : List Lt) : List Int := metS [] (flatC c)
theorem metC_neg {c : List Lt} : ∀ x ∈ metC c, x < 0 := fun x hx => by
  rcases metS_of (flatC c) [] hx with h1 | ⟨t, _, _, h3⟩
  · simp at h1
  · exact h3
theorem metC_has {c : List Lt} {x : Lt} (hx : x ∈ c) {n : Int} (hn : n ∈ x.2.1 ∨ n ∈ x.2.2) (h0 : n < 0) : n ∈ metC c := by
  rcases hn with hn | hn
  · exact metS_has h0 (flatC c) [] x.2.1 (List.mem_flatMap.2 ⟨x, hx, by simp⟩) hn
  · exact metS_has h0 (flatC c) [] x.2.2 (List.mem_flatMap.2 ⟨x, hx, by simp⟩) hn
theorem metC_of {c : List Lt} {n : Int} (h : n ∈ metC c) : n < 0 ∧ ∃ x ∈ c, n ∈ x.2.1 ∨ n ∈ x.2.2 := by
  rcases metS_of (flatC c) [] h with h1 | ⟨t, ht, h2, h3⟩
  · simp at h1
  · obtain ⟨x, hx, e⟩ := flat_mem ht
    refine ⟨h3, x, hx, ?_⟩
    rcases e with rfl | rfl
    · exact .inl h2
    · exact .inr h2
theorem flat_okL {c : List Lt} (hc : ∀ x ∈ c, okLit ar x = true) : ∀ t ∈ flatC c, okTerm ar t = true := fun _ ht => flat_ok hc ht
theorem valC {c : List Lt} {n : Int} (h0 : n < 0) : valM (metC c) n = -1 - ((metC c).idxOf n : Int) := by unfold valM; rw [if_pos h0]
theorem ren_sym {c : List Lt} (hc : ∀ x ∈ c, okLit ar x = true) {n : Int} (hn : n ∈ metC c) : okSym ar (valM (metC c) n) = true ∧ valM (metC c) n < 0 := by
  have h0 := metC_neg n hn
  have h12 := met12 (flat_okL hc)
  have h1 := List.idxOf_lt_length_iff.2 hn
  rw [valC h0]
  refine ⟨?_, by omega⟩
  unfold okSym inB
  simp
  have : (metC c).length ≤ 12 := h12
  omega
theorem renC_map (c : List Lt) : renC c = mapL (valM (metC c)) c := by
  unfold renC
  rw [renS_map (flatC c) [] (Ext.rfl' (metC c))]
  generalize valM (metC c) = σ
  exact zipC_map (fun t => t.map σ) c
theorem renC_okL {c : List Lt} (hc : ∀ x ∈ c, okLit ar x = true) : ∀ x ∈ mapL (valM (metC c)) c, okLit ar x = true := by
  intro y hy
  obtain ⟨x, hx, rfl⟩ := List.mem_map.1 hy
  obtain ⟨o1, o2⟩ := okLit_iff.1 (hc x hx)
  have hI := valM_inj (M := metC c) (S := metC c) (fun _ h => h) metC_neg
  have one : ∀ t, okTerm ar t = true → (∀ n ∈ t, n < 0 → n ∈ metC c) → okTerm ar (t.map (valM (metC c))) = true := fun t ht hm => by
    obtain ⟨a1, a2⟩ := okTerm_seq.1 ht
    refine okTerm_seq.2 ⟨by simpa using a1, map_seq hI.pos (fun n hn h0 => ?_) a2⟩
    obtain ⟨b1, b2⟩ := ren_sym hc (hm n hn h0)
    unfold okSym inB at b1
    simp at b1
    omega
  exact okLit_iff.2 ⟨one _ o1 fun n hn h0 => metC_has hx (.inl hn) h0, one _ o2 fun n hn h0 => metC_has hx (.inr hn) h0⟩
theorem getD_memI {l : List Int} {i : Nat} (h : i < l.length) : l.getD i 0 ∈ l := mem_getD l 0 i h
/-- Renaming changes no model. -/
theorem heldC_ren (h1 : 1 ≤ sz) {c : List Lt} (hc : ∀ x ∈ c, okLit ar x = true) : heldC ar sz tb (renC c) = heldC ar sz tb c := by
  rw [renC_map]
  have hr := renC_okL hc
  have h12 : (metC c).length ≤ 12 := met12 (flat_okL hc)
  have hlow : ∀ n ∈ metC c, -12 ≤ n := fun n hn => by
    obtain ⟨_, x, hx, h⟩ := metC_of hn
    obtain ⟨o1, o2⟩ := okLit_iff.1 (hc x hx)
    rcases h with h | h
    · exact ok_low o1 h
    · exact ok_low o2 h
  rw [Bool.eq_iff_iff, heldC_iff h1 hr, heldC_iff h1 hc]
  have hI := valM_inj (M := metC c) (S := metC c) (fun _ h => h) metC_neg
  constructor
  · intro h env he
    obtain ⟨e1, e2⟩ := okEnv_iff.1 he
    have hok : okEnv sz ((List.range 12).map fun k => if k < (metC c).length then env.getD (-1 - (metC c).getD k 0).toNat 0 else 0) = true := by
      refine okEnv_iff.2 ⟨by simp, fun k hk => ?_⟩
      rw [List.getD_eq_getElem?_getD (l := (List.range 12).map _), List.getElem?_map, List.getElem?_range hk]
      simp only [Option.map_some, Option.getD_some]
      by_cases hlt : k < (metC c).length
      · rw [if_pos hlt]
        have hm := getD_memI hlt
        have h1 := metC_neg _ hm
        have h2 := hlow _ hm
        exact e2 _ (by omega)
      · rw [if_neg hlt]; omega
    rw [← h _ hok]
    refine (clH_map hI.pos hc hr fun x hx n hn h0 => ?_).symm
    have hm := metC_has hx hn h0
    obtain ⟨b1, b2⟩ := ren_sym hc hm
    refine ⟨b1, b2, ?_⟩
    have hlt := List.idxOf_lt_length_iff.2 hm
    rw [valC h0, show (-1 - (-1 - ((metC c).idxOf n : Int))).toNat = (metC c).idxOf n from by omega]
    rw [List.getD_eq_getElem?_getD (l := (List.range 12).map _), List.getElem?_map, List.getElem?_range (by omega)]
    simp only [Option.map_some, hlt, if_true, Option.getD_some]
    rw [show (metC c).getD ((metC c).idxOf n) 0 = n from by rw [List.getD_eq_getElem?_getD, List.getElem?_eq_getElem hlt, Option.getD_some]; exact List.getElem_idxOf hlt]
  · intro h env he
    obtain ⟨e1, e2⟩ := okEnv_iff.1 he
    have hok : okEnv sz ((List.range 12).map fun (v : Nat) => if (-1 - (v : Int)) ∈ metC c then env.getD ((metC c).idxOf (-1 - (v : Int))) 0 else 0) = true := by
      refine okEnv_iff.2 ⟨by simp, fun k hk => ?_⟩
      rw [List.getD_eq_getElem?_getD (l := (List.range 12).map _), List.getElem?_map, List.getElem?_range hk]
      simp only [Option.map_some, Option.getD_some]
      by_cases hm : (-1 - (k : Int)) ∈ metC c
      · rw [if_pos hm]
        have hlt := List.idxOf_lt_length_iff.2 hm
        exact e2 _ (by omega)
      · rw [if_neg hm]; omega
    rw [← h _ hok]
    refine clH_map hI.pos hc hr fun x hx n hn h0 => ?_
    have hm := metC_has hx hn h0
    obtain ⟨b1, b2⟩ := ren_sym hc hm
    refine ⟨b1, b2, ?_⟩
    have h2 := hlow n hm
    rw [valC h0, show (-1 - (-1 - ((metC c).idxOf n : Int))).toNat = (metC c).idxOf n from by omega]
    rw [List.getD_eq_getElem?_getD (l := (List.range 12).map _), List.getElem?_map, List.getElem?_range (by omega)]
    have e : (-1 - (((-1 - n).toNat : Nat) : Int)) = n := by omega
    simp only [Option.map_some, e, hm, if_true, Option.getD_some]
end

/-- Renaming keeps the number of the variables. -/
theorem len_of_mem {α : Type} {a b : List α} (ha : a.Nodup) (hb : b.Nodup) (h : ∀ x, x ∈ a ↔ x ∈ b) : a.length = b.length := ((List.perm_ext_iff_of_nodup ha hb).2 h).length_eq
theorem varsC_nodup (c : List Lt) : (varsC c).Nodup := List.Nodup.sublist List.filter_sublist List.nodup_range
theorem varsC_met {ar : List Int} {c : List Lt} (hc : ∀ x ∈ c, okLit ar x = true) : (varsC c).length = (metC c).length := by
  have h : ((varsC c).map fun (j : Nat) => -1 - (j : Int)).length = (metC c).length := by
    refine len_of_mem ?_ (metS_nodup _ _ List.nodup_nil) fun n => ?_
    · exact List.Pairwise.map _ (fun a b (h : a ≠ b) => by show -1 - (a : Int) ≠ -1 - (b : Int); omega) (varsC_nodup c)
    · rw [List.mem_map]
      constructor
      · rintro ⟨j, hj, rfl⟩
        obtain ⟨_, x, hx, h⟩ := varsC_iff.1 hj
        exact metC_has hx h (by omega)
      · intro hn
        obtain ⟨h0, x, hx, h⟩ := metC_of hn
        obtain ⟨o1, o2⟩ := okLit_iff.1 (hc x hx)
        have hlow : -12 ≤ n := by rcases h with h | h; exact ok_low o1 h; exact ok_low o2 h
        exact ⟨(-1 - n).toNat, varsC_has hx h h0 hlow, by omega⟩
  rw [← h, List.length_map]
theorem varsC_ren {ar : List Int} {c : List Lt} (hc : ∀ x ∈ c, okLit ar x = true) : (varsC (renC c)).length = (varsC c).length := by
  have h12 : (metC c).length ≤ 12 := met12 (flat_okL hc)
  have hI := valM_inj (M := metC c) (S := metC c) (fun _ h => h) metC_neg
  rw [varsC_met hc]
  have h : (varsC (renC c)).length = (List.range (metC c).length).length := by
    refine len_of_mem (varsC_nodup _) List.nodup_range fun j => ?_
    rw [varsC_iff, List.mem_range, renC_map]
    constructor
    · rintro ⟨hj, y, hy, h⟩
      obtain ⟨x, hx, rfl⟩ := List.mem_map.1 hy
      have key : ∀ t : List Int, (-1 - (j : Int)) ∈ t.map (valM (metC c)) → (∀ n ∈ t, n < 0 → n ∈ metC c) → j < (metC c).length := fun t ht hm => by
        obtain ⟨n, hn, e⟩ := List.mem_map.1 ht
        by_cases h0 : n < 0
        · rw [valC h0] at e
          have := List.idxOf_lt_length_iff.2 (hm n hn h0)
          omega
        · rw [hI.pos n h0] at e; omega
      rcases h with h | h
      · exact key _ h fun n hn h0 => metC_has hx (.inl hn) h0
      · exact key _ h fun n hn h0 => metC_has hx (.inr hn) h0
    · intro hj
      have hm := getD_memI (l := metC c) hj
      have e : (metC c).idxOf ((metC c).getD j 0) = j := by
        have := List.Nodup.idxOf_getElem (metS_nodup (flatC c) [] List.nodup_nil) j hj
        rw [gd_eq _ _ _ hj]; exact this
      obtain ⟨h0, x, hx, h⟩ := metC_of hm
      refine ⟨by omega, _, List.mem_map.2 ⟨x, hx, rfl⟩, ?_⟩
      have hv : valM (metC c) ((metC c).getD j 0) = -1 - (j : Int) := by rw [valC h0, e]
      rcases h with h | h
      · exact .inl (List.mem_map.2 ⟨_, h, hv⟩)
      · exact .inr (List.mem_map.2 ⟨_, h, hv⟩)
  rw [h, List.length_range]
theorem fewC_ren {ar : List Int} {c : List Lt} (hc : ∀ x ∈ c, okLit ar x = true) : fewC (renC c) = fewC c := by unfold fewC; rw [varsC_ren hc]
theorem okLits_ren {ar : List Int} {c : List Lt} (h : okLits ar c = true) : okLits ar (renC c) = true := by
  obtain ⟨h8, hc⟩ := okLits_iff.1 h
  rw [renC_map]
  exact okLits_iff.2 ⟨by simpa [mapL] using h8, renC_okL hc⟩
theorem heldAns_ren {ar : List Int} {sz : Int} {tb : List (List Int)} {c : List Lt} (h : okLits ar c = true) : falseOk ar sz tb (renC c) = falseOk ar sz tb c ∧ heldAns ar sz tb (renC c) = heldAns ar sz tb c := by
  obtain ⟨h8, hc⟩ := okLits_iff.1 h
  have h1 : falseOk ar sz tb (renC c) = falseOk ar sz tb c := by unfold falseOk; rw [okLits_ren h, h, fewC_ren hc]
  refine ⟨h1, ?_⟩
  unfold heldAns
  rw [h1]
  by_cases hq : falseOk ar sz tb c = true
  · rw [if_pos hq, if_pos hq]
    unfold falseOk goodWorld at hq
    simp only [Bool.and_eq_true] at hq
    exact heldC_ren (isWorld_iff.1 hq.1.2).1 hc
  · rw [if_neg hq, if_neg hq]
end Go.Proofs.Yteegjnobmbcjiaa
end
section
/- Contracts of chapter 5 with the answers named, for FnPutFor. -/
namespace Go.Proofs.Yteegjnobmbcjiaa
open Go.RowKit

/-- What stands for the variable v. -/
def xvOf (b : List (List Int)) (v : Nat) : List Int := if 0 < (b.getD v []).length then b.getD v [] else [-1 - (v : Int)]
theorem subEnv_len (ar : List Int) (sz : Int) (tb : List (List Int)) (env : List Int) (b : List (List Int)) : (subEnv ar sz tb env b).length = 12 := by simp [subEnv]
theorem putfor_ok {ar : List Int} {b : List (List Int)} {t p env : List Int} {Z : Int} {tb : List (List Int)} (hO : applyOk ar b t = true) (hP : applyAns ar b t = p) (hw : goodSign ar = true → isWorld ar Z tb = true) (he : okEnv Z env = true) :
    b.length = 12 ∧ (∀ v, v < 12 → evalOk ar Z tb (xvOf b v) env = true ∧ evalAns ar Z tb (xvOf b v) env = (subEnv ar Z tb env b).getD v 0) ∧
    evalOk ar Z tb p env = true ∧ evalOk ar Z tb t (subEnv ar Z tb env b) = true ∧ evalAns ar Z tb p env = evalAns ar Z tb t (subEnv ar Z tb env b) := by
  rw [applyAns_yes hO] at hP
  subst hP
  unfold applyOk at hO
  obtain ⟨hbt, h40⟩ := Bool.and_eq_true_iff.1 hO
  obtain ⟨hb, ht⟩ := Bool.and_eq_true_iff.1 hbt
  obtain ⟨hg, hl, hbs⟩ := goodSubst_iff.1 hb
  have hW : goodWorld ar Z tb = true := by unfold goodWorld; rw [hg, hw hg]; rfl
  have hbv : ∀ v, v < 12 → 0 < (b.getD v []).length → okTerm ar (b.getD v []) = true := fun v hv hp => by
    have h := hbs _ (mem_gd b [] v (by omega))
    unfold okEmpty at h
    rcases Bool.or_eq_true_iff.1 h with h | h
    · have : (b.getD v []).length = 0 := by simpa using h
      omega
    · exact h
  have hpo : okTerm ar (appT b t) = true := by rw [app_ok hb ht]; exact h40
  have hE := subEnv_ok hg (hw hg) he hbv
  have o1 : evalOk ar Z tb (appT b t) env = true := by unfold evalOk; rw [hW, hpo, he]; rfl
  have o2 : evalOk ar Z tb t (subEnv ar Z tb env b) = true := by unfold evalOk; rw [hW, ht, hE]; rfl
  refine ⟨hl, fun v hv => ?_, o1, o2, ?_⟩
  · have hxo : okTerm ar (xvOf b v) = true := by
      unfold xvOf
      split
      · rename_i hp; exact hbv v hv hp
      · exact ok_var ar v hv
    have hok : evalOk ar Z tb (xvOf b v) env = true := by unfold evalOk; rw [hW, hxo, he]; rfl
    refine ⟨hok, ?_⟩
    have hgd : (subEnv ar Z tb env b).getD v 0 = if 0 < (b.getD v []).length then evT ar Z tb env (b.getD v []) else env.getD v 0 := by
      unfold subEnv
      rw [List.getD_eq_getElem?_getD, List.getElem?_map, List.getElem?_range hv]
      rfl
    unfold evalAns
    rw [if_pos hok, hgd]
    unfold xvOf at hxo ⊢
    split
    · rfl
    · rename_i hp
      rw [if_neg hp] at hxo
      have h1 : okSym ar (-1 - (v : Int)) = true := by
        have := good_sym ar _ hxo 0 (by simp)
        simpa using this
      have h2 := Ev.var (ar := ar) (sz := Z) (tb := tb) (env := env) (-1 - (v : Int)) h1 (by omega)
      rw [show (-1 - (-1 - (v : Int))).toNat = v by omega] at h2
      exact ev_eq hxo h2
  · unfold evalAns
    rw [if_pos o1, if_pos o2]
    exact sub_value ht hbv hpo
theorem iEvalIn_vv {l h l' h' l2 h2 l3 h3 : Nat} {v u vt ve : Value} {ar : List Int} {sz : Int} {tb : List (List Int)} {t env : List Int} {w : World} (ha : ar.length ≤ 1048576) (hv : SlI l h w v ar) (hx : short tb) (hu : SlS l' h' w u tb) (htl : t.length ≤ 1048576) (ht : SlI l2 h2 w vt t) (hel : env.length ≤ 1048576) (he : SlI l3 h3 w ve env) {y : Int} {k : Bool} (e1 : evalAns ar sz tb t env = y) (e2 : evalOk ar sz tb t env = k) :
    Calls Try.prog 46 #[.agg #[v], .agg #[.int .i64 sz, u], vt, ve] w (RetV w (.tuple #[.int .i64 y, .bool k])) := by subst e1 e2; exact iEvalIn_t ha hv hx hu htl ht hel he
theorem iHoldsAt_ww {l h l' h' l2 h2 l3 h3 : Nat} {v u vc ve : Value} {ar : List Int} {sz : Int} {tb : List (List Int)} {c : List Lt} {env : List Int} {w : World} (ha : ar.length ≤ 1048576) (hv : SlI l h w v ar) (hx : short tb) (hu : SlS l' h' w u tb) (hcs : sumC c ≤ 1048576) (hc : SlC l2 h2 w vc c) (hel : env.length ≤ 1048576) (he : SlI l3 h3 w ve env) {y k : Bool} (e1 : holdsAns ar sz tb c env = y) (e2 : holdsOk ar sz tb c env = k) :
    Calls Try.prog 36 #[.agg #[v], .agg #[.int .i64 sz, u], vc, ve] w (RetV w (.tuple #[.bool y, .bool k])) := by subst e1 e2; exact iHoldsAt_t ha hv hx hu hcs hc hel he
theorem iGoodWorld_vv {l h l' h' : Nat} {v u : Value} {ar : List Int} {sz : Int} {tb : List (List Int)} {w : World} {k : Bool} (e1 : goodWorld ar sz tb = k) (ha : ar.length ≤ 1048576) (hv : SlI l h w v ar) (hx : short tb) (hu : SlS l' h' w u tb) :
    Calls Try.prog 51 #[.agg #[v], .agg #[.int .i64 sz, u]] w (RetV w (.bool k)) := by subst e1; exact iGoodWorld_t ha hv hx hu
theorem sEvalIn_vv {l h l' h' l2 h2 l3 h3 : Nat} {v u vt ve : Value} {ar : List Int} {sz : Int} {tb : List (List Int)} {t env : List Int} {w : World} (ha : ar.length ≤ 1048576) (hv : SlI l h w v ar) (hx : short tb) (hu : SlS l' h' w u tb) (htl : t.length ≤ 1048576) (ht : SlI l2 h2 w vt t) (hel : env.length ≤ 1048576) (he : SlI l3 h3 w ve env) {y : Int} {k : Bool} (e1 : evalAns ar sz tb t env = y) (e2 : evalOk ar sz tb t env = k) :
    Calls Try.prog 48 #[.agg #[v], .agg #[.int .i64 sz, u], vt, ve] w (RetV w (.tuple #[.int .i64 y, .bool k])) := by subst e1 e2; exact sEvalIn_t ha hv hx hu htl ht hel he
theorem sHoldsAt_ww {l h l' h' l2 h2 l3 h3 : Nat} {v u vc ve : Value} {ar : List Int} {sz : Int} {tb : List (List Int)} {c : List Lt} {env : List Int} {w : World} (ha : ar.length ≤ 1048576) (hv : SlI l h w v ar) (hx : short tb) (hu : SlS l' h' w u tb) (hcs : sumC c ≤ 1048576) (hc : SlC l2 h2 w vc c) (hel : env.length ≤ 1048576) (he : SlI l3 h3 w ve env) {y k : Bool} (e1 : holdsAns ar sz tb c env = y) (e2 : holdsOk ar sz tb c env = k) :
    Calls Try.prog 50 #[.agg #[v], .agg #[.int .i64 sz, u], vc, ve] w (RetV w (.tuple #[.bool y, .bool k])) := by subst e1 e2; exact sHoldsAt_t ha hv hx hu hcs hc hel he
theorem sGoodWorld_vv {l h l' h' : Nat} {v u : Value} {ar : List Int} {sz : Int} {tb : List (List Int)} {w : World} {k : Bool} (e1 : goodWorld ar sz tb = k) (ha : ar.length ≤ 1048576) (hv : SlI l h w v ar) (hx : short tb) (hu : SlS l' h' w u tb) :
    Calls Try.prog 52 #[.agg #[v], .agg #[.int .i64 sz, u]] w (RetV w (.bool k)) := by subst e1; exact sGoodWorld_t ha hv hx hu
theorem iApply_ww {l h l' h' l2 h2 : Nat} {v u x : Value} {ar : List Int} {b : List (List Int)} {t : List Int} {w : World} (ha : ar.length ≤ 1048576) (hv : SlI l h w v ar) (hb : short b) (hu : SlS l' h' w u b) (ht : t.length ≤ 1048576) (hx : SlI l2 h2 w x t) {y : List Int} {k : Bool} (e1 : applyAns ar b t = y) (e2 : applyOk ar b t = k) :
    Calls Try.prog 45 #[.agg #[v], u, x] w (RetIB w y k) := by subst e1 e2; exact iApply_t ha hv hb hu ht hx
end Go.Proofs.Yteegjnobmbcjiaa
end
