/- Texts merged, part 10. -/
import Derived.Test.YtlcjcihohclmhaaMgWorlds9
section
/- Unify: a round. -/
namespace Go.Proofs.Ytlcjcihohclmhaa
open Go.RowKit Go.Maps

theorem getD_mem {t : List Int} {i : Nat} (h : i < t.length) : t.getD i 0 ∈ t := by
  rw [show t.getD i 0 = t[i] from by simp [List.getD, h]]; exact List.getElem_mem h
theorem partOf_infix (t : List Int) (i e : Nat) : partOf t i e <:+: t := (List.take_prefix _ _).isInfix.trans (List.drop_suffix _ _).isInfix
theorem rawL_getA {F : Nat → List Int} (h : ∀ v, 12 ≤ v → F v = []) (v : Nat) : (rawL F).getD v [] = F v := by
  rcases Nat.lt_or_ge v 12 with h1 | h1
  · exact rawL_get F v h1
  · rw [h v h1]
    unfold rawL
    simp only [List.getD]
    rw [List.getElem?_eq_none (by simp; omega)]
    rfl
theorem other_or (x y : List Int) : other x y = x ∨ other x y = y := by unfold other; split <;> simp

/-- What is known of a round that begins with two different terms. -/
structure URound (ar x y : List Int) (n : Int) (o u : List Int) (d e : Nat) : Prop where
  dx : d < x.length
  dy : d < y.length
  ne : x.getD d 0 ≠ y.getD d 0
  low : -12 ≤ n
  oo : okTerm ar o = true
  dd : d < o.length
  en : endOf ar o d = some e
  de : d < e
  eo : e ≤ o.length
  pu : u = partOf o d e
  ok : okTerm ar u = true
theorem uround {ar a0 b0 x y : List Int} {F : Nat → List Int} (h : UInv ar a0 b0 x y F) (hne : x ≠ y) : ∃ e, URound ar x y (lowN x y) (other x y) (putU ar x y) (dif x y) e := by
  obtain ⟨h1, h2, h3⟩ := dif_at (okTerm_seq.1 h.okx).2 (okTerm_seq.1 h.oky).2 hne
  have hoo : okTerm ar (other x y) = true := by rcases other_or x y with e | e <;> rw [e]; exact h.okx; exact h.oky
  have hdd : dif x y < (other x y).length := by rcases other_or x y with e | e <;> rw [e] <;> assumption
  obtain ⟨e, he, hde, heo⟩ := good_end ar _ hoo _ hdd
  have hpu : putU ar x y = partOf (other x y) (dif x y) e := by unfold putU; rw [he]; rfl
  refine ⟨e, h1, h2, h3, ?_, hoo, hdd, he, hde, heo, hpu, ?_⟩
  · have a1 := okTerm_low h.okx _ h1
    have a2 := okTerm_low h.oky _ h2
    unfold lowN; split <;> assumption
  · rw [hpu]; exact partOf_ok ar _ _ _ hoo hdd he

structure UOk (ar a0 b0 x y : List Int) (F : Nat → List Int) (n : Int) (u : List Int) : Prop where
  neg : n < 0
  lo : -12 ≤ n
  not : n ∉ u
  free : F (-1 - n).toNat = []
  u40 : u.length ≤ 40
  up : 0 < u.length
  lx : (putFor n u x).length ≤ 1600
  ly : (putFor n u y).length ≤ 1600
  lF : ∀ v, (nextF n u F v).length ≤ 1600
  ax : putFor n u x = appT (rawL (nextF n u F)) a0
  ay : putFor n u y = appT (rawL (nextF n u F)) b0
  sx : seqT ar 1 (putFor n u x)
  sy : seqT ar 1 (putFor n u y)
  next : ¬ longU ar x y → UInv ar a0 b0 (putFor n u x) (putFor n u y) (nextF n u F)
  more : cnt (nextF n u F) 12 = cnt F 12 + 1
theorem app_next {n : Int} {u : List Int} {F : Nat → List Int} (hn : n < 0) (hu : u ≠ []) (hF : F (-1 - n).toNat = []) (hlow : ∀ v, 12 ≤ v → F v = []) (hn12 : -12 ≤ n) (t : List Int) : putFor n u (appT (rawL F) t) = appT (rawL (nextF n u F)) t := by
  have hlow2 : ∀ v, 12 ≤ v → nextF n u F v = [] := by
    intro v hv
    unfold nextF
    rw [upd_other _ _ (by omega), hlow v hv]; rfl
  unfold appT
  induction t with
  | nil => rfl
  | cons m t ih =>
    rw [List.flatMap_cons, List.flatMap_cons, putFor_append, ih]
    congr 1
    by_cases hm : m < 0
    · by_cases e : m = n
      · subst e
        rw [one1_free (by rw [rawL_getA hlow, hF]; simp), one1_var hm (by rw [rawL_getA hlow2]; unfold nextF; rw [upd_same]; exact List.length_pos_iff.2 hu), rawL_getA hlow2]
        unfold nextF
        rw [upd_same, putFor_cons, if_pos rfl, putFor_nil, List.append_nil]
      · have hv : (-1 - m).toNat ≠ (-1 - n).toNat := by omega
        have hG : nextF n u F (-1 - m).toNat = putFor n u (F (-1 - m).toNat) := by unfold nextF; rw [upd_other _ _ hv]
        by_cases hE : F (-1 - m).toNat = []
        · rw [one1_free (by rw [rawL_getA hlow, hE]; simp), one1_free (by rw [rawL_getA hlow2, hG, hE]; simp [putFor_nil]), putFor_cons, if_neg e, putFor_nil]; rfl
        · rw [one1_var hm (by rw [rawL_getA hlow]; exact List.length_pos_iff.2 hE), one1_var hm (by rw [rawL_getA hlow2, hG]; exact List.length_pos_iff.2 (putFor_ne hu hE)), rawL_getA hlow, rawL_getA hlow2, hG]
    · rw [one1_sym hm, one1_sym hm, putFor_cons, if_neg (by omega), putFor_nil]; rfl
theorem uok {ar a0 b0 x y : List Int} {F : Nat → List Int} (h : UInv ar a0 b0 x y F) (hne : x ≠ y) (hb : ¬ badU ar x y) : UOk ar a0 b0 x y F (lowN x y) (putU ar x y) := by
  obtain ⟨e, hR⟩ := uround h hne
  have hnb : ¬ 0 ≤ lowN x y ∧ lowN x y ∉ putU ar x y := by unfold badU at hb; exact not_or.1 hb
  have hmem : lowN x y ∈ x ∨ lowN x y ∈ y := by unfold lowN; split; exact .inr (getD_mem hR.dy); exact .inl (getD_mem hR.dx)
  have hlg : ¬ longU ar x y → (putFor (lowN x y) (putU ar x y) x).length ≤ 40 ∧ (putFor (lowN x y) (putU ar x y) y).length ≤ 40 := by unfold longU; omega
  have hsub : ∀ m, m ∈ putU ar x y → m ∈ x ∨ m ∈ y := by
    intro m hm
    rw [hR.pu] at hm
    have := (partOf_infix _ _ _).subset hm
    rcases other_or x y with e | e <;> rw [e] at this
    · exact .inl this
    · exact .inr this
  have hinf : putU ar x y <:+: x ∨ putU ar x y <:+: y := by
    have := partOf_infix (other x y) (dif x y) e
    rw [← hR.pu] at this
    rcases other_or x y with e | e <;> rw [e] at this
    · exact .inl this
    · exact .inr this
  have hlow := hR.low
  have hu := hR.ok
  clear hR hb hne
  generalize lowN x y = n at *
  generalize putU ar x y = u at *
  obtain ⟨hn, hnu⟩ := hnb
  have hn : n < 0 := by omega
  have hu40 := (okTerm_seq.1 hu).1
  have hup := ((okTerm_iff _ _).1 hu).1
  have hun : u ≠ [] := List.length_pos_iff.1 hup
  have hvn : (-1 - (((-1 - n).toNat : Nat) : Int)) = n := by omega
  have hfree : F (-1 - n).toNat = [] := by
    rcases Classical.em (F (-1 - n).toNat = []) with e | e
    · exact e
    · rcases hmem with h1 | h1
      · exact absurd (by rwa [hvn]) (h.notx _ e)
      · exact absurd (by rwa [hvn]) (h.noty _ e)
  have hx40 := (okTerm_seq.1 h.okx).1
  have hy40 := (okTerm_seq.1 h.oky).1
  have hlx : (putFor n u x).length ≤ 1600 := by have := putFor_len (n := n) (t := x) hu40 (by omega); omega
  have hly : (putFor n u y).length ≤ 1600 := by have := putFor_len (n := n) (t := y) hu40 (by omega); omega
  have hax : putFor n u x = appT (rawL (nextF n u F)) a0 := by rw [← app_next hn hun hfree h.low hlow, ← h.appx]
  have hay : putFor n u y = appT (rawL (nextF n u F)) b0 := by rw [← app_next hn hun hfree h.low hlow, ← h.appy]
  have hus := (okTerm_seq.1 hu).2
  have hsx := putFor_seq hn hus (okTerm_seq.1 h.okx).2
  have hsy := putFor_seq hn hus (okTerm_seq.1 h.oky).2
  have hnext : ∀ v, v ≠ (-1 - n).toNat → nextF n u F v = putFor n u (F v) := fun v hv => by unfold nextF; rw [upd_other _ _ hv]
  have hnew : nextF n u F (-1 - n).toNat = u := by unfold nextF; rw [upd_same]
  have hpe : ∀ v, v ≠ (-1 - n).toNat → (F v = [] ↔ nextF n u F v = []) := by
    intro v hv
    rw [hnext v hv]
    constructor
    · intro e; rw [e]; rfl
    · intro e
      rcases Classical.em (F v = []) with e2 | e2
      · exact e2
      · exact absurd e (putFor_ne hun e2)
  refine ⟨hn, hlow, hnu, hfree, hu40, hup, hlx, hly, ?_, hax, hay, hsx, hsy, ?_, ?_⟩
  · intro v
    by_cases e : v = (-1 - n).toNat
    · rw [e, hnew]; omega
    · rw [hnext v e]
      have := putFor_len (n := n) (t := F v) hu40 (by omega)
      have := h.len40 v
      omega
  · intro hl
    obtain ⟨hl1, hl2⟩ := hlg hl
    refine ⟨okTerm_seq.2 ⟨by omega, hsx⟩, okTerm_seq.2 ⟨by omega, hsy⟩, hax, hay, ?_, ?_, ?_, ?_, ?_⟩
    · intro v hv
      by_cases e : v = (-1 - n).toNat
      · rw [e, hnew]
        rcases hinf with h1 | h1
        · left; have := putFor_infix (n := n) (u := u) h1; rwa [putFor_not hnu] at this
        · right; have := putFor_infix (n := n) (u := u) h1; rwa [putFor_not hnu] at this
      · rw [hnext v e]
        exact (h.inf v (fun h => hv ((hpe v e).1 h))).imp putFor_infix putFor_infix
    · intro v hv
      by_cases e : v = (-1 - n).toNat
      · rw [e, hnew]; exact hus
      · rw [hnext v e]; exact putFor_seq hn hus (h.seq v (fun h => hv ((hpe v e).1 h)))
    · intro v hv hm
      by_cases e : v = (-1 - n).toNat
      · rw [e, hvn] at hm
        rcases putFor_mem hm with h1 | h1
        · exact hnu h1
        · exact h1.2 rfl
      · have hv2 : F v ≠ [] := fun h => hv ((hpe v e).1 h)
        rcases putFor_mem hm with h1 | h1
        · rcases hsub _ h1 with h2 | h2
          · exact h.notx v hv2 h2
          · exact h.noty v hv2 h2
        · exact h.notx v hv2 h1.1
    · intro v hv hm
      by_cases e : v = (-1 - n).toNat
      · rw [e, hvn] at hm
        rcases putFor_mem hm with h1 | h1
        · exact hnu h1
        · exact h1.2 rfl
      · have hv2 : F v ≠ [] := fun h => hv ((hpe v e).1 h)
        rcases putFor_mem hm with h1 | h1
        · rcases hsub _ h1 with h2 | h2
          · exact h.notx v hv2 h2
          · exact h.noty v hv2 h2
        · exact h.noty v hv2 h1.1
    · intro v hv
      rw [hnext v (by omega), h.low v hv]; rfl
  · exact cnt_new hfree (by rw [hnew]; exact hun) hpe (by omega)

def uniOk0 (ar a b : List Int) : Bool := goodTerm ar a && okTerm ar b
def uniR (ar a b : List Int) : Option (Nat → List Int) := uniGo ar 13 a b (fun _ => [])
def unifyOk (ar a b : List Int) : Bool := uniOk0 ar a b && (uniR ar a b).isSome
def unifyAns (ar a b : List Int) : List (List Int) := if uniOk0 ar a b then (match uniR ar a b with | some F => substL F | none => []) else []
theorem unify_no0 {ar a b : List Int} (h : uniOk0 ar a b = false) : unifyAns ar a b = [] ∧ unifyOk ar a b = false := by simp [unifyAns, unifyOk, h]
theorem unify_no {ar a b : List Int} (h : uniR ar a b = none) : unifyAns ar a b = [] ∧ unifyOk ar a b = false := by
  unfold unifyAns unifyOk
  rw [h]
  simp
theorem unify_yes {ar a b : List Int} {F : Nat → List Int} (h0 : uniOk0 ar a b = true) (h : uniR ar a b = some F) : unifyAns ar a b = substL F ∧ unifyOk ar a b = true := by
  unfold unifyAns unifyOk
  rw [h, h0]
  simp
theorem ug_len {ar a0 b0 : List Int} : ∀ (k : Nat) (x y : List Int) (F G : Nat → List Int), UInv ar a0 b0 x y F → uniGo ar k x y F = some G → ∀ v, (G v).length ≤ 40 := by
  intro k
  induction k with
  | zero => intro x y F G h e; simp [uniGo] at e
  | succ k ih =>
    intro x y F G h e
    by_cases h1 : x = y
    · rw [ug_same h1] at e
      simp at e
      rw [← e]; exact h.len40
    · by_cases h2 : badU ar x y
      · rw [ug_bad h1 h2] at e; simp at e
      · by_cases h3 : longU ar x y
        · rw [ug_long h1 h2 h3] at e; simp at e
        · rw [ug_next h1 h2 h3] at e
          exact ih _ _ _ _ ((uok h h1 h2).next h3) e
theorem unifyAns_len (ar a b : List Int) : tot (unifyAns ar a b) ≤ 1048576 := by
  unfold unifyAns
  split
  · rename_i h0
    simp only [uniOk0, Bool.and_eq_true] at h0
    have hp := (goodTerm_iff.1 h0.1).2
    cases h : uniR ar a b with
    | none => simp [tot, sumL]
    | some F =>
      have := ug_len 13 a b _ F (UInv.start hp h0.2) (by simpa [uniR] using h)
      exact substL_tot F (fun v _ => this v)
  · simp [tot, sumL]
end Go.Proofs.Ytlcjcihohclmhaa
end
section
/- Unify: the reference's inner functions. -/
namespace Go.Proofs.Ytlcjcihohclmhaa
open Go.RowKit Go.Maps

def sizesOk (ar : List Int) (b : List (List Int)) (x y : List Int) : Bool := b.all (okEmpty ar) && okTerm ar x && okTerm ar y

/-- The substitution of one term. -/
def oneF (v : Nat) (t : List Int) : Nat → List Int := upd (fun _ => []) v t
theorem oneF_get (v : Nat) (t : List Int) (hv : v < 12) (j : Nat) : (rawL (oneF v t)).getD j [] = if j = v then t else [] := by
  rw [rawL_getA (fun k hk => by unfold oneF; rw [upd_other _ _ (by omega)])]
  unfold oneF upd
  rfl
theorem oneF_app {v : Nat} {t : List Int} (hv : v < 12) (ht : 0 < t.length) (s : List Int) : appT (rawL (oneF v t)) s = putFor (-1 - (v : Int)) t s := by
  unfold appT putFor
  congr 1
  funext m
  by_cases hm : m < 0
  · by_cases e : m = -1 - (v : Int)
    · have e2 : (-1 - m).toNat = v := by omega
      rw [if_pos e, one1_var hm (by rw [oneF_get v t hv, e2, if_pos rfl]; exact ht), oneF_get v t hv, e2, if_pos rfl]
    · have e2 : (-1 - m).toNat ≠ v := by omega
      rw [if_neg e, one1_free (by rw [oneF_get v t hv, if_neg e2]; simp)]
  · rw [if_neg (by omega), one1_sym hm]
theorem oneF_lens {v : Nat} {t : List Int} (hv : v < 12) (ht : t.length ≤ 40) : lens40 (rawL (oneF v t)) := by
  intro j _
  rw [oneF_get v t hv]
  split <;> simp [ht]
theorem one_sls (w : World) (l h v : Nat) (x : Value) (t : List Int) (hv : v < 12) (hx : SlI l h w x t) (_hp : 0 < t.length) :
    SlS 0 (w.heap.size + 1) ((w.alloc (.cells (madeCells #[.slice none 0 0] 12) 24)).setCell ⟨w.heap.size, v, none⟩ x) (.slice (some ⟨w.heap.size, 0, none⟩) 12 12) (rawL (oneF v t)) := by
  have hr := ((rep12 w).stored v x).1
  refine ⟨_, 12, by rw [rawL_len], by rw [rawL_len]; exact Nat.le_refl _, ⟨by unfold maxLen; omega, fun h => by simp at h⟩, fun _ => ⟨w.heap.size, 0, rfl, Nat.zero_le _, Nat.lt_succ_self _, fun j hj => ?_⟩⟩
  rw [rawL_len] at hj
  have hc := hr.cellAt j (by omega)
  rw [Nat.zero_add, hc, List.getElem?_set, oneF_get v t hv]
  by_cases e : v = j
  · subst e
    rw [if_pos rfl, if_pos rfl, if_pos (by simpa using hv)]
    refine ⟨x, rfl, ?_⟩
    exact (((hx.in').alloc _).set (p := ⟨w.heap.size, v, none⟩) (.inr (Nat.le_refl _)) x).mono (Nat.zero_le _) (Nat.le_succ _)
  · rw [if_neg e, if_neg (Ne.symm e), List.getElem?_replicate, if_pos (by simpa using hj)]
    exact ⟨_, rfl, SlI.nil _ _ _⟩

/-- The same with longer terms. -/
def lensW (b : List (List Int)) : Prop := ∀ j, j < b.length → (b.getD j []).length ≤ 1600
theorem getD_lenW {b : List (List Int)} (h : lensW b) (j : Nat) : (b.getD j []).length ≤ 1600 := by
  rcases Nat.lt_or_ge j b.length with h1 | h1
  · exact h j h1
  · simp [List.getD, List.getElem?_eq_none h1]
theorem one1_lenW {b : List (List Int)} (h : lensW b) (n : Int) : (one1 b n).length ≤ 1600 := by
  unfold one1
  split
  · exact getD_lenW h _
  · simp
theorem appT_lenW {b : List (List Int)} (h : lensW b) (t : List Int) : (appT b t).length ≤ 1600 * t.length := by
  unfold appT
  induction t with
  | nil => simp
  | cons n t ih =>
    have := one1_lenW h n
    rw [List.flatMap_cons, List.length_append, List.length_cons]
    omega
theorem rawL_congr {F G : Nat → List Int} (h : ∀ v, v < 12 → F v = G v) : rawL F = rawL G := by
  unfold rawL
  apply List.map_congr_left
  intro v hv
  rw [List.mem_range] at hv
  exact h v hv
def RetOS (w : World) (F : Nat → List Int) (e : Ending) (w' : World) : Prop := ∃ g, e = .returned (.slice (some ⟨g, 0, none⟩) 12 12) ∧ OwnS w.heap.size w'.heap.size w' (.slice (some ⟨g, 0, none⟩) 12 12) (rawL F) ∧ Bel w w'
/-- What is laid up to index j. -/
def laidF (P : Nat → List Int) (j : Nat) : Nat → List Int := fun v => if v < j then P v else []
theorem laidF_zero (P : Nat → List Int) : laidF P 0 = fun _ => [] := by funext v; simp [laidF]
theorem laidF_succ (P : Nat → List Int) (j : Nat) : upd (laidF P j) j (P j) = laidF P (j+1) := by
  funext v
  unfold upd laidF
  by_cases e : v = j
  · subst e; simp
  · by_cases h : v < j
    · rw [if_neg e, if_pos h, if_pos (by omega)]
    · rw [if_neg e, if_neg h, if_neg (by omega)]
theorem laidF_none (P : Nat → List Int) (j : Nat) (h : P j = []) : laidF P j = laidF P (j+1) := by
  rw [← laidF_succ, h]
  funext v
  unfold upd
  split
  · rename_i e; subst e; simp [laidF]
  · rfl
end Go.Proofs.Ytlcjcihohclmhaa
end
section
/- Unify: the reference's, one more term found. -/
namespace Go.Proofs.Ytlcjcihohclmhaa
open Go.RowKit Go.Maps

end Go.Proofs.Ytlcjcihohclmhaa
end
section
/- Unify: the reference's. -/
namespace Go.Proofs.Ytlcjcihohclmhaa
open Go.RowKit Go.Maps

def SRel (ar a b : List Int) (R : Option (Nat → List Int)) (base : Nat) (w0 : World) (k : Nat) (fv p q : Value) (wr : World) : Prop :=
  ∃ (xs ys : List Int) (F : Nat → List Int) (g : Nat), fv = .slice (some ⟨g, 0, none⟩) 12 12 ∧ OwnS base wr.heap.size wr fv (rawL F) ∧ (∃ lo hi, SlI lo hi wr p xs) ∧ (∃ lo hi, SlI lo hi wr q ys) ∧ Bel w0 wr ∧ xs.length ≤ 1600 ∧ ys.length ≤ 1600 ∧ (∀ v, (F v).length ≤ 1600) ∧
    ((k + cnt F 12 = 13 ∧ UInv ar a b xs ys F ∧ R = uniGo ar k xs ys F) ∨ (k = 0 ∧ R = none ∧ sizesOk ar (rawL F) xs ys = false))
theorem short_raw {F : Nat → List Int} (h : ∀ v, (F v).length ≤ 1600) : short (rawL F) := by
  refine ⟨by rw [rawL_len]; omega, fun j hj => ?_⟩
  rw [rawL_len] at hj
  rw [rawL_get F j hj]
  have := h j
  omega
theorem lensW_raw {F : Nat → List Int} (h : ∀ v, (F v).length ≤ 1600) : lensW (rawL F) := by
  intro j hj
  rw [rawL_len] at hj
  rw [rawL_get F j hj]
  exact h j
theorem UInv.okF {ar a0 b0 x y : List Int} {F : Nat → List Int} (h : UInv ar a0 b0 x y F) (v : Nat) (hv : F v ≠ []) : okTerm ar (F v) = true := okTerm_seq.2 ⟨h.len40 v, h.seq v hv⟩
theorem UInv.sizes {ar a0 b0 x y : List Int} {F : Nat → List Int} (h : UInv ar a0 b0 x y F) : sizesOk ar (rawL F) x y = true := by
  unfold sizesOk
  rw [h.okx, h.oky, Bool.and_true, Bool.and_true, List.all_eq_true]
  intro t ht
  unfold rawL at ht
  obtain ⟨v, -, rfl⟩ := List.mem_map.1 ht
  unfold okEmpty
  by_cases e : F v = []
  · rw [e]; rfl
  · rw [h.okF v e, Bool.or_true]
theorem UInv.lowF {ar a0 b0 x y : List Int} {F : Nat → List Int} (h : UInv ar a0 b0 x y F) (v i : Nat) (hi : i < (F v).length) : -12 ≤ (F v).getD i 0 := by
  by_cases e : F v = []
  · rw [e] at hi; simp at hi
  · exact okTerm_low (h.okF v e) i hi
theorem sym_rng {ar t : List Int} (hg : goodSign ar = true) (h : okTerm ar t = true) {i : Nat} (hi : i < t.length) : -12 ≤ t.getD i 0 ∧ t.getD i 0 ≤ 10 := by
  have h1 := good_sym ar t h i hi
  have h2 := sign_len ar hg
  have h3 := okTerm_low h i hi
  generalize t.getD i 0 = z at *
  unfold okSym inB at h1
  simp at h1
  omega
def ansR : Option (Nat → List Int) → List (List Int)
  | none => []
  | some F => substL F
theorem srel_next {ar a b xs ys : List Int} {R : Option (Nat → List Int)} {base k : Nat} {w0 wr : World} {F : Nat → List Int} {fv p q : Value} (hU : UInv ar a b xs ys F) (hne : xs ≠ ys) (hbad : ¬ badU ar xs ys) (hcnt : k + 1 + cnt F 12 = 13) (hRk : R = uniGo ar (k+1) xs ys F)
    (hf : ∃ g, fv = .slice (some ⟨g, 0, none⟩) 12 12) (hO : OwnS base wr.heap.size wr fv (rawL (nextF (lowN xs ys) (putU ar xs ys) F))) (hp : ∃ lo hi, SlI lo hi wr p (appT (rawL (nextF (lowN xs ys) (putU ar xs ys) F)) a)) (hq : ∃ lo hi, SlI lo hi wr q (appT (rawL (nextF (lowN xs ys) (putU ar xs ys) F)) b)) (hb : Bel w0 wr) :
    ∃ j, j < k + 1 ∧ SRel ar a b R base w0 j fv p q wr := by
  have hok := uok hU hne hbad
  obtain ⟨g, rfl⟩ := hf
  rw [← hok.ax] at hp
  rw [← hok.ay] at hq
  by_cases hl : longU ar xs ys
  · refine ⟨0, Nat.succ_pos _, _, _, _, g, rfl, hO, hp, hq, hb, hok.lx, hok.ly, hok.lF, .inr ⟨rfl, by rw [hRk, ug_long hne hbad hl], ?_⟩⟩
    unfold sizesOk
    unfold longU at hl
    rcases hl with h | h
    · rw [okTerm_long h, Bool.and_false, Bool.false_and]
    · rw [okTerm_long h, Bool.and_false]
  · exact ⟨k, Nat.lt_succ_self _, _, _, _, g, rfl, hO, hp, hq, hb, hok.lx, hok.ly, hok.lF, .inl ⟨by have := hok.more; omega, hok.next hl, by rw [hRk, ug_next hne hbad hl]⟩⟩

end Go.Proofs.Ytlcjcihohclmhaa
end
section
/- Match: a match makes the pattern the term; composition is one substitution behind the other. -/
namespace Go.Proofs.Ytlcjcihohclmhaa
open Go.RowKit Go.Maps

def oneG (G : Nat → List Int) (n : Int) : List Int := if n < 0 then G (-1 - n).toNat else [n]
theorem mg_app {ar t : List Int} (ht : okTerm ar t = true) (p0 : List Int) : ∀ (k i j : Nat) (F G : Nat → List Int), k = p0.length - i → i ≤ p0.length → Pair2 ar p0 t i j → (∀ v, F v ≠ [] → okTerm ar (F v) = true) → matchGo ar t (p0.drop i) j F = some G →
    (∀ v, F v ≠ [] → G v = F v) ∧ (∀ v, G v ≠ [] → okTerm ar (G v) = true) ∧ (∀ n ∈ p0.drop i, n < 0 → G (-1 - n).toNat ≠ []) ∧ (p0.drop i).flatMap (oneG G) = t.drop j := by
  intro k
  induction k with
  | zero =>
    intro i j F G hk hi hP hF h
    have hd : p0.drop i = [] := List.drop_eq_nil_of_le (by omega)
    obtain ⟨m, h1, h2⟩ := hP
    rw [hd] at h h1 ⊢
    rw [matchGo] at h
    simp at h
    subst h
    refine ⟨fun _ _ => rfl, hF, by simp, ?_⟩
    cases m with
    | zero => rw [endGo_zero] at h2; simp at h2; rw [h2, List.drop_length]; rfl
    | succ m => rw [endGo_nil] at h1; simp at h1
  | succ k ih =>
    intro i j F G hk hi hP hF h
    have hlt : i < p0.length := by omega
    have hj := hP.lt hlt
    rw [drop_cons p0 i hlt] at h ⊢
    by_cases hn : 0 ≤ p0.getD i 0
    · by_cases he : t.getD j 0 = p0.getD i 0
      · rw [mg_sym hn he] at h
        obtain ⟨a1, a2, a3, a4⟩ := ih (i+1) (j+1) F G (by omega) (by omega) (hP.sym hlt he) hF h
        refine ⟨a1, a2, fun n hm hl => ?_, ?_⟩
        · rcases List.mem_cons.1 hm with rfl | hm
          · omega
          · exact a3 n hm hl
        · rw [List.flatMap_cons, a4, drop_cons t j hj, he]
          unfold oneG
          rw [if_neg (by omega)]
          rfl
      · rw [mg_symno hn he] at h; simp at h
    · obtain ⟨e, h1, h2, h3, h4⟩ := hP.var hlt (by omega)
      by_cases hc : F (-1 - p0.getD i 0).toNat = [] ∨ F (-1 - p0.getD i 0).toNat = partOf t j e
      · rw [mg_var hn h1 hc] at h
        have hpl := partOf_len t j e h3
        have hpne : partOf t j e ≠ [] := by intro h; rw [h] at hpl; simp at hpl; omega
        have hpo := partOf_ok ar t j e ht hj h1
        obtain ⟨a1, a2, a3, a4⟩ := ih (i+1) e _ G (by omega) (by omega) h4 (fun v hv => by
          by_cases e' : v = (-1 - p0.getD i 0).toNat
          · rw [e', upd_same]; exact hpo
          · rw [upd_other _ _ e'] at hv ⊢; exact hF v hv) h
        have hG : G (-1 - p0.getD i 0).toNat = partOf t j e := by
          have := a1 (-1 - p0.getD i 0).toNat (by rw [upd_same]; exact hpne)
          rw [upd_same] at this
          exact this
        refine ⟨fun v hv => ?_, a2, fun n hm hl => ?_, ?_⟩
        · by_cases e' : v = (-1 - p0.getD i 0).toNat
          · rw [e', hG]
            rcases hc with hc | hc
            · rw [e'] at hv; exact absurd hc hv
            · exact hc.symm
          · have := a1 v (by rw [upd_other _ _ e']; exact hv)
            rw [upd_other _ _ e'] at this
            exact this
        · rcases List.mem_cons.1 hm with rfl | hm
          · rw [hG]; exact hpne
          · exact a3 n hm hl
        · rw [List.flatMap_cons, a4]
          unfold oneG
          rw [if_pos (by omega), hG]
          unfold partOf
          have := List.take_append_drop (e - j) (t.drop j)
          rw [List.drop_drop, show j + (e - j) = e by omega] at this
          exact this
      · rw [mg_varno hn h1 hc] at h; simp at h
theorem substL_get (F : Nat → List Int) (v : Nat) (hv : v < 12) : (substL F).getD v [] = stayF F v := by simp [substL, List.getD, hv]
theorem substL_len (F : Nat → List Int) : (substL F).length = 12 := by simp [substL]
theorem one1_sub {F : Nat → List Int} {n : Int} (h12 : -12 ≤ n) (hF : n < 0 → F (-1 - n).toNat ≠ []) : one1 (substL F) n = oneG F n := by
  unfold oneG
  by_cases hn : n < 0
  · rw [if_pos hn]
    have hv : (-1 - n).toNat < 12 := by omega
    have hvn : (-1 - (((-1 - n).toNat : Nat) : Int)) = n := by omega
    by_cases hs : F (-1 - n).toNat = [-1 - (((-1 - n).toNat : Nat) : Int)]
    · have h0 : stayF F (-1 - n).toNat = [] := by unfold stayF; rw [if_pos hs]
      rw [one1_free (by rw [substL_get F _ hv, h0]; simp), hs, hvn]
    · have h0 : stayF F (-1 - n).toNat = F (-1 - n).toNat := by unfold stayF; rw [if_neg hs]
      rw [one1_var hn (by rw [substL_get F _ hv, h0]; exact List.length_pos_iff.2 (hF hn)), substL_get F _ hv, h0]
  · rw [if_neg hn, one1_sym hn]
theorem good_substL {ar : List Int} {F : Nat → List Int} (hg : goodSign ar = true) (hF : ∀ v, v < 12 → F v ≠ [] → okTerm ar (F v) = true) : goodSubst ar (substL F) = true := by
  refine goodSubst_iff.2 ⟨hg, substL_len F, fun t ht => ?_⟩
  unfold substL at ht
  obtain ⟨v, hv, rfl⟩ := List.mem_map.1 ht
  rw [List.mem_range] at hv
  unfold okEmpty stayF
  split
  · rfl
  · by_cases e : F v = []
    · rw [e]; rfl
    · rw [hF v hv e, Bool.or_true]
theorem match_app {ar p t : List Int} (h : matchOk ar p t = true) : applyOk ar (matchAns ar p t) p = true ∧ applyAns ar (matchAns ar p t) p = t := by
  have h0 := h
  unfold matchOk at h0
  simp only [Bool.and_eq_true] at h0
  obtain ⟨hk, hr⟩ := h0
  obtain ⟨G, hG⟩ := Option.isSome_iff_exists.1 hr
  simp only [matchOk0, Bool.and_eq_true] at hk
  obtain ⟨hg, hp⟩ := goodTerm_iff.1 hk.1
  have hans := (match_yes (by simp [matchOk0, hk.1, hk.2]) hG).1
  obtain ⟨a1, a2, a3, a4⟩ := mg_app hk.2 p p.length 0 0 (fun _ => []) G (by omega) (by omega) (Pair2.start hp hk.2) (fun _ h => absurd rfl h) (by simpa [matchR] using hG)
  rw [List.drop_zero, List.drop_zero] at *
  have happ : appT (substL G) p = t := by
    rw [← a4]
    unfold appT
    have : ∀ (q : List Int), (∀ n ∈ q, n ∈ p) → q.flatMap (one1 (substL G)) = q.flatMap (oneG G) := by
      intro q
      induction q with
      | nil => intro _; rfl
      | cons n q ih =>
        intro hq
        rw [List.flatMap_cons, List.flatMap_cons, ih (fun m hm => hq m (List.mem_cons_of_mem _ hm))]
        have hm := hq n List.mem_cons_self
        obtain ⟨i, hi, hin⟩ := List.getElem_of_mem hm
        have hl := okTerm_low hp i hi
        rw [show p.getD i 0 = n from by simp [List.getD, hi, hin]] at hl
        rw [one1_sub hl (fun hn => a3 n hm hn)]
    exact this p (fun _ h => h)
  have hok : applyOk ar (matchAns ar p t) p = true := by
    unfold applyOk
    rw [hans, good_substL hg (fun v _ hv => a2 v hv), hp, (app40_yes (by rw [happ]; have := ((okTerm_iff _ _).1 hk.2).2.1; omega)).2]
    rfl
  refine ⟨hok, ?_⟩
  unfold applyAns
  rw [if_pos hok, hans, happ]
theorem applyOk_iff {ar : List Int} {b : List (List Int)} {t : List Int} : applyOk ar b t = true ↔ goodSubst ar b = true ∧ okTerm ar t = true ∧ app40ok b t = true := by
  unfold applyOk
  simp only [Bool.and_eq_true]
  exact ⟨fun h => ⟨h.1.1, h.1.2, h.2⟩, fun h => ⟨⟨h.1, h.2.1⟩, h.2.2⟩⟩
theorem compose_app {ar : List Int} {a b : List (List Int)} {z : List Int} (hc : composeOk ar a b = true) (h1 : applyOk ar a z = true) (h2 : applyOk ar b (applyAns ar a z) = true) :
    applyOk ar (composeAns ar a b) z = true ∧ applyAns ar (composeAns ar a b) z = applyAns ar b (applyAns ar a z) := by
  have hc0 := hc
  unfold composeOk at hc0
  simp only [Bool.and_eq_true] at hc0
  obtain ⟨⟨hga, hgb⟩, hall⟩ := hc0
  obtain ⟨-, hz, hz40⟩ := applyOk_iff.1 h1
  obtain ⟨-, hx, hx40⟩ := applyOk_iff.1 h2
  have hg := (goodSubst_iff.1 hga).1
  rw [applyAns_yes h1] at *
  have hF : ∀ v, v < 12 → compF a b v ≠ [] → okTerm ar (compF a b v) = true := fun v hv _ => by
    have := app_ok hgb (compT_ok hga v hv)
    unfold compF
    rw [this]
    rw [List.all_eq_true] at hall
    exact hall v (by simpa using hv)
  have happ : appT (substL (compF a b)) z = appT b (appT a z) := by
    have : ∀ (q : List Int), (∀ n ∈ q, n ∈ z) → appT (substL (compF a b)) q = appT b (appT a q) := by
      intro q
      induction q with
      | nil => intro _; rfl
      | cons n q ih =>
        intro hq
        have ih2 := ih (fun m hm => hq m (List.mem_cons_of_mem _ hm))
        unfold appT at ih2 ⊢
        rw [List.flatMap_cons, List.flatMap_cons, List.flatMap_append, ih2]
        congr 1
        have hm := hq n List.mem_cons_self
        obtain ⟨i, hi, hin⟩ := List.getElem_of_mem hm
        have hl := okTerm_low hz i hi
        rw [show z.getD i 0 = n from by simp [List.getD, hi, hin]] at hl
        rw [one1_sub hl (fun hn => by
          have hv : (-1 - n).toNat < 12 := by omega
          have := ((okTerm_iff _ _).1 (show okTerm ar (appT b (compT a (-1 - n).toNat)) = true from by
            have h := app_ok hgb (compT_ok hga _ hv)
            rw [h]
            rw [List.all_eq_true] at hall
            exact hall _ (by simpa using hv))).1
          unfold compF
          intro h
          rw [h] at this; simp at this)]
        unfold oneG
        by_cases hn : n < 0
        · rw [if_pos hn]
          unfold compF compT
          by_cases hp : 0 < (a.getD (-1 - n).toNat []).length
          · rw [if_pos hp, one1_var hn hp]; rfl
          · rw [if_neg hp, one1_free hp, show (-1 - (((-1 - n).toNat : Nat) : Int)) = n by omega]; rfl
        · rw [if_neg hn, one1_sym hn]
          simp [one1_sym hn]
    exact this z (fun _ h => h)
  have hok : applyOk ar (composeAns ar a b) z = true := by
    rw [composeAns_yes hc]
    refine applyOk_iff.2 ⟨good_substL hg hF, hz, ?_⟩
    unfold app40ok at hx40 ⊢
    rw [happ]; exact hx40
  refine ⟨hok, ?_⟩
  rw [applyAns_yes hok, applyAns_yes h2, composeAns_yes hc, happ]
end Go.Proofs.Ytlcjcihohclmhaa
end
section
/- Unify: what is found makes both terms one, once and for all, and whatever else does so goes on from it (Robinson). -/
namespace Go.Proofs.Ytlcjcihohclmhaa
open Go.RowKit Go.Maps

theorem ug_inv {ar a0 b0 : List Int} : ∀ (k : Nat) (x y : List Int) (F G : Nat → List Int), UInv ar a0 b0 x y F → uniGo ar k x y F = some G → ∃ z, UInv ar a0 b0 z z G := by
  intro k
  induction k with
  | zero => intro x y F G h e; simp [uniGo] at e
  | succ k ih =>
    intro x y F G h e
    by_cases h1 : x = y
    · rw [ug_same h1] at e
      simp at e
      subst h1
      rw [← e]; exact ⟨x, h⟩
    · by_cases h2 : badU ar x y
      · rw [ug_bad h1 h2] at e; simp at e
      · by_cases h3 : longU ar x y
        · rw [ug_long h1 h2 h3] at e; simp at e
        · rw [ug_next h1 h2 h3] at e
          exact ih _ _ _ _ ((uok h h1 h2).next h3) e
theorem unify_inv {ar a b : List Int} (h : unifyOk ar a b = true) : ∃ G z, uniR ar a b = some G ∧ UInv ar a b z z G ∧ unifyAns ar a b = rawL G ∧ goodSign ar = true ∧ okTerm ar a = true ∧ okTerm ar b = true := by
  have h0 := h
  unfold unifyOk at h0
  simp only [Bool.and_eq_true] at h0
  obtain ⟨hk, hr⟩ := h0
  obtain ⟨G, hG⟩ := Option.isSome_iff_exists.1 hr
  have hk2 := hk
  simp only [uniOk0, Bool.and_eq_true] at hk2
  obtain ⟨hg, hp⟩ := goodTerm_iff.1 hk2.1
  obtain ⟨z, hz⟩ := ug_inv 13 a b _ G (UInv.start hp hk2.2) (by simpa [uniR] using hG)
  exact ⟨G, z, hG, hz, by rw [(unify_yes hk hG).1, hz.raw], hg, hp, hk2.2⟩
theorem good_raw {ar a0 b0 x y : List Int} {F : Nat → List Int} (hg : goodSign ar = true) (h : UInv ar a0 b0 x y F) : goodSubst ar (rawL F) = true := by
  rw [h.raw]; exact good_substL hg fun v _ => h.okF v
theorem unify_unifies {ar a b : List Int} (h : unifyOk ar a b = true) : applyOk ar (unifyAns ar a b) a = true ∧ applyOk ar (unifyAns ar a b) b = true ∧ unifAns ar (unifyAns ar a b) a b = true := by
  obtain ⟨G, z, hG, hz, hans, hg, ha, hb⟩ := unify_inv h
  have h40 := (okTerm_seq.1 hz.okx).1
  have h1 : applyOk ar (rawL G) a = true := applyOk_iff.2 ⟨good_raw hg hz, ha, (app40_yes (by rw [← hz.appx]; omega)).2⟩
  have h2 : applyOk ar (rawL G) b = true := applyOk_iff.2 ⟨good_raw hg hz, hb, (app40_yes (by rw [← hz.appy]; omega)).2⟩
  rw [hans]
  refine ⟨h1, h2, ?_⟩
  unfold unifAns
  rw [h1, h2, applyAns_yes h1, applyAns_yes h2, ← hz.appx, ← hz.appy]
  simp
theorem app_fixed {G : Nat → List Int} (hlow : ∀ v, 12 ≤ v → G v = []) : ∀ {t : List Int}, (∀ m ∈ t, m < 0 → G (-1 - m).toNat = []) → appT (rawL G) t = t
  | [], _ => rfl
  | m :: t, h => by
    have ih := app_fixed hlow (t := t) (fun x hx => h x (List.mem_cons_of_mem _ hx))
    unfold appT at ih ⊢
    rw [List.flatMap_cons, ih]
    by_cases hm : m < 0
    · rw [one1_free (by rw [rawL_getA hlow, h m List.mem_cons_self hm]; simp)]; rfl
    · rw [one1_sym hm]; rfl
theorem unify_twice {ar a b : List Int} (h : unifyOk ar a b = true) : composeOk ar (unifyAns ar a b) (unifyAns ar a b) = true ∧ composeAns ar (unifyAns ar a b) (unifyAns ar a b) = unifyAns ar a b := by
  obtain ⟨G, z, hG, hz, hans, hg, ha, hb⟩ := unify_inv h
  rw [hans]
  have hgs := good_raw hg hz
  have hcf : ∀ v, v < 12 → compF (rawL G) (rawL G) v = if G v = [] then [-1 - (v : Int)] else G v := by
    intro v hv
    unfold compF
    by_cases e : G v = []
    · rw [if_pos e, compT_zero (by rw [rawL_get G v hv, e]; simp)]
      exact app_fixed hz.low (fun m hm h0 => by simp at hm; rw [show (-1 - m).toNat = v by omega]; exact e)
    · rw [if_neg e, compT_pos (by rw [rawL_get G v hv]; exact List.length_pos_iff.2 e), rawL_get G v hv]
      refine app_fixed hz.low (fun m hm h0 => ?_)
      rcases Classical.em (G (-1 - m).toNat = []) with h1 | h1
      · exact h1
      · have hin : m ∈ z := by rcases hz.inf v e with h2 | h2 <;> exact h2.subset hm
        exact absurd (by rw [show (-1 - (((-1 - m).toNat : Nat) : Int)) = m by omega]; exact hin) (hz.notx _ h1)
  have hok : composeOk ar (rawL G) (rawL G) = true := by
    unfold composeOk
    rw [hgs, Bool.true_and, Bool.true_and, List.all_eq_true]
    intro v hv
    rw [List.mem_range] at hv
    refine (app40_yes ?_).2
    show ¬ 40 < (compF (rawL G) (rawL G) v).length
    rw [hcf v hv]
    have := hz.len40 v
    split
    · simp
    · omega
  refine ⟨hok, ?_⟩
  rw [composeAns_yes hok]
  conv => rhs; rw [hz.raw]
  unfold substL
  apply List.map_congr_left
  intro v hv
  rw [List.mem_range] at hv
  unfold stayF
  rw [hcf v hv]
  by_cases e : G v = []
  · rw [if_pos e, if_pos rfl, e]; simp
  · rw [if_neg e]
/-- Robinson. -/
theorem appT_put {V : List (List Int)} {n : Int} {u : List Int} (h : one1 V n = appT V u) : ∀ (t : List Int), appT V (putFor n u t) = appT V t
  | [] => rfl
  | m :: t => by
    rw [putFor_cons, appT_append, appT_put h t, show m :: t = [m] ++ t from rfl, appT_append]
    split
    · rename_i e; subst e; rw [appT_one, h]
    · rfl
theorem one_seq {ar : List Int} {V : List (List Int)} (hV : goodSubst ar V = true) {n : Int} (h12 : -12 ≤ n) (hn : n < 0) : seqT ar 1 (one1 V n) := by
  obtain ⟨hg, hl, hok⟩ := goodSubst_iff.1 hV
  by_cases hp : 0 < (V.getD (-1 - n).toNat []).length
  · rw [one1_var hn hp]
    exact (okTerm_seq.1 (okEmpty_get hok _ hp)).2
  · rw [one1_free hp]
    refine seqT_cons.2 ⟨?_, by rw [arOf_neg hn]; rfl⟩
    have := sign_len ar hg
    unfold okSym inB
    simp
    omega
theorem app_seq1 {ar : List Int} {V : List (List Int)} (hV : goodSubst ar V = true) {u : List Int} (hu : okTerm ar u = true) : seqT ar 1 (appT V u) := by
  obtain ⟨hg, hl, hok⟩ := goodSubst_iff.1 hV
  have := app_end hok hu
  unfold endOf at this
  rw [List.drop_zero] at this
  exact this
theorem dif_split {x y : List Int} (_hx : dif x y ≤ x.length) (_hy : dif x y ≤ y.length) : x.take (dif x y) = y.take (dif x y) := by
  apply List.ext_getElem?
  intro i
  rw [List.getElem?_take, List.getElem?_take]
  split
  · rename_i hi
    obtain ⟨h1, h2, h3⟩ := dif_before x y i hi
    rw [List.getElem?_eq_getElem h1, List.getElem?_eq_getElem h2]
    simpa [List.getD, h1, h2] using h3
  · rfl
theorem sigma_eq {ar a0 b0 x y : List Int} {F : Nat → List Int} {V : List (List Int)} (hV : goodSubst ar V = true) (h : UInv ar a0 b0 x y F) (hne : x ≠ y) (hb : ¬ badU ar x y) (he : appT V x = appT V y) : one1 V (lowN x y) = appT V (putU ar x y) := by
  obtain ⟨e, hR⟩ := uround h hne
  have hok := uok h hne hb
  have hsp := dif_split (x := x) (y := y) (Nat.le_of_lt hR.dx) (Nat.le_of_lt hR.dy)
  have hdrop : appT V (x.drop (dif x y)) = appT V (y.drop (dif x y)) := by
    have hx' : appT V x = appT V (x.take (dif x y)) ++ appT V (x.drop (dif x y)) := by rw [← appT_append, List.take_append_drop]
    have hy' : appT V y = appT V (y.take (dif x y)) ++ appT V (y.drop (dif x y)) := by rw [← appT_append, List.take_append_drop]
    have h1 := he
    rw [hx', hy', hsp] at h1
    exact List.append_cancel_left h1
  have hpart : ∀ (o : List Int), o = other x y → o.drop (dif x y) = putU ar x y ++ o.drop e := fun o ho => by
    rw [hR.pu, ho]
    unfold partOf
    have := List.take_append_drop (e - dif x y) ((other x y).drop (dif x y))
    rw [List.drop_drop, show dif x y + (e - dif x y) = e by have := hR.de; omega] at this
    exact this.symm
  have hs1 := one_seq hV hok.lo hok.neg
  have hs2 := app_seq1 hV hR.ok
  rw [drop_cons x _ hR.dx, drop_cons y _ hR.dy] at hdrop
  by_cases hlt : y.getD (dif x y) 0 < x.getD (dif x y) 0
  · have hlo : lowN x y = y.getD (dif x y) 0 := by unfold lowN; rw [if_pos hlt]
    have hot : x = other x y := by unfold other; rw [if_pos hlt]
    rw [← drop_cons x _ hR.dx, hpart x hot, ← hlo, appT_append, show ∀ (n : Int) (t : List Int), n :: t = [n] ++ t from fun _ _ => rfl, appT_append, appT_one] at hdrop
    exact (seq_prefix hs2 hs1 hdrop).symm
  · have hlo : lowN x y = x.getD (dif x y) 0 := by unfold lowN; rw [if_neg hlt]
    have hot : y = other x y := by unfold other; rw [if_neg hlt]
    rw [← drop_cons y _ hR.dy, hpart y hot, ← hlo, appT_append, show ∀ (n : Int) (t : List Int), n :: t = [n] ++ t from fun _ _ => rfl, appT_append, appT_one] at hdrop
    exact seq_prefix hs1 hs2 hdrop
theorem ug_mgu {ar a0 b0 : List Int} {V : List (List Int)} (hV : goodSubst ar V = true) : ∀ (k : Nat) (x y : List Int) (F G : Nat → List Int), UInv ar a0 b0 x y F → (∀ n, appT V (one1 (rawL F) n) = one1 V n) → appT V x = appT V y → uniGo ar k x y F = some G → ∀ n, appT V (one1 (rawL G) n) = one1 V n := by
  intro k
  induction k with
  | zero => intro x y F G h _ _ e; simp [uniGo] at e
  | succ k ih =>
    intro x y F G h hP he e
    by_cases h1 : x = y
    · rw [ug_same h1] at e
      simp at e
      rw [← e]; exact hP
    · by_cases h2 : badU ar x y
      · rw [ug_bad h1 h2] at e; simp at e
      · by_cases h3 : longU ar x y
        · rw [ug_long h1 h2 h3] at e; simp at e
        · rw [ug_next h1 h2 h3] at e
          have hok := uok h h1 h2
          have hE := sigma_eq hV h h1 h2 he
          refine ih _ _ _ _ (hok.next h3) (fun n => ?_) (by rw [appT_put hE, appT_put hE, he]) e
          have := app_next hok.neg (List.length_pos_iff.1 hok.up) hok.free h.low hok.lo [n]
          rw [appT_one, appT_one] at this
          rw [← this, appT_put hE, hP n]
theorem app_app {V : List (List Int)} {G : Nat → List Int} (h : ∀ n, appT V (one1 (rawL G) n) = one1 V n) : ∀ (t : List Int), appT V (appT (rawL G) t) = appT V t
  | [] => rfl
  | n :: t => by
    rw [show n :: t = [n] ++ t from rfl, appT_append, appT_append, appT_append, app_app h t, appT_one, h, appT_one]
theorem unify_most {ar x y : List Int} {V : List (List Int)} (h1 : applyOk ar V x = true) (h2 : applyOk ar V y = true) (he : applyAns ar V x = applyAns ar V y) (hu : unifyOk ar x y = true) (hc : composeOk ar (unifyAns ar x y) V = true) :
    applyOk ar (composeAns ar (unifyAns ar x y) V) x = true ∧ applyAns ar (composeAns ar (unifyAns ar x y) V) x = applyAns ar V x := by
  obtain ⟨G, z, hG, hz, hans, hg, ha, hb⟩ := unify_inv hu
  obtain ⟨hV, -, h40⟩ := applyOk_iff.1 h1
  have hm := (unify_unifies hu).1
  rw [applyAns_yes h1, applyAns_yes h2] at he
  have hP := ug_mgu hV 13 x y (fun _ => []) G (UInv.start ha hb) (fun n => by rw [← appT_one, appT_none, appT_one]) he (by simpa [uniR] using hG)
  have hmz : applyAns ar (unifyAns ar x y) x = z := by rw [applyAns_yes hm, hans, ← hz.appx]
  have hVz : appT V z = appT V x := by rw [hz.appx, app_app hP]
  have hz2 : applyOk ar V z = true := applyOk_iff.2 ⟨hV, hz.okx, by unfold app40ok at h40 ⊢; rw [hVz]; exact h40⟩
  obtain ⟨a1, a2⟩ := compose_app hc hm (by rw [hmz]; exact hz2)
  refine ⟨a1, ?_⟩
  rw [a2, hmz, applyAns_yes hz2, applyAns_yes h1, hVz]
end Go.Proofs.Ytlcjcihohclmhaa
end
section
/- Reading is the reverse of printing. -/
namespace Go.Proofs.Ytlcjcihohclmhaa
open Go.RowKit

theorem let_neg : ∀ k : Nat, k < 12 → (letter (-1 - (k : Int))).toNat = 65 + k := by decide +kernel
theorem let_pos : ∀ k : Nat, k < 10 → (letter (k : Int)).toNat = 97 + k := by decide +kernel
theorem sym_let {ar : List Int} (hl : ar.length ≤ 10) {n : Int} (h : okSym ar n = true) : symAt ar (letter n) = some n := by
  unfold okSym inB at h
  simp at h
  unfold symAt
  by_cases hn : n < 0
  · obtain ⟨k, rfl⟩ : ∃ k : Nat, n = -1 - (k : Int) := ⟨(-1 - n).toNat, by omega⟩
    have := let_neg k (by omega)
    rw [if_pos (by unfold inB; simp; omega), this]
    congr 1; omega
  · obtain ⟨k, rfl⟩ : ∃ k : Nat, n = (k : Int) := ⟨n.toNat, by omega⟩
    have := let_pos k (by omega)
    rw [if_neg (by unfold inB; simp; omega), if_pos (by unfold inB; simp; omega), this]
    congr 1; omega
theorem let_sym {ar : List Int} (hl : ar.length ≤ 10) {b : UInt8} {n : Int} (h : symAt ar b = some n) : letter n = b ∧ okSym ar n = true := by
  unfold symAt at h
  by_cases h1 : inB b.toNat 65 76 = true
  · rw [if_pos h1] at h
    simp at h
    unfold inB at h1
    simp at h1
    obtain ⟨k, hk⟩ : ∃ k : Nat, b.toNat = 65 + k := ⟨b.toNat - 65, by omega⟩
    obtain rfl : n = -1 - (k : Int) := by omega
    refine ⟨UInt8.toNat_inj.1 (by rw [let_neg k (by omega), hk]), by unfold okSym inB; simp; omega⟩
  · rw [if_neg h1] at h
    by_cases h2 : inB b.toNat 97 (97 + (ar.length : Int) - 1) = true
    · rw [if_pos h2] at h
      simp at h
      unfold inB at h2
      simp at h2
      obtain ⟨k, hk⟩ : ∃ k : Nat, b.toNat = 97 + k := ⟨b.toNat - 97, by omega⟩
      obtain rfl : n = (k : Int) := by omega
      refine ⟨UInt8.toNat_inj.1 (by rw [let_pos k (by omega), hk]), by unfold okSym inB; simp; omega⟩
    · rw [if_neg h2] at h; simp at h

/-- l is the text of the term y; of m arguments from the k-th on. -/
inductive Pr (ar : List Int) : Option (Nat × Nat) → List Int → List UInt8 → Prop
  | leaf (n : Int) : okSym ar n = true → arOf ar n = 0 → Pr ar none [n] [letter n]
  | node (n : Int) (ys : List Int) (ls : List UInt8) : okSym ar n = true → arOf ar n ≠ 0 → Pr ar (some (arOf ar n, 0)) ys ls → Pr ar none (n :: ys) (letter n :: (ls ++ [41]))
  | nil (k : Nat) : Pr ar (some (0, k)) [] []
  | cons (m k : Nat) (y ys : List Int) (l ls : List UInt8) : Pr ar none y l → Pr ar (some (m, k + 1)) ys ls → Pr ar (some (m + 1, k)) (y ++ ys) (sepC k :: (l ++ ls))
theorem Pr.seq {ar : List Int} {s : Option (Nat × Nat)} {y : List Int} {l : List UInt8} (h : Pr ar s y l) : seqT ar (match s with | none => 1 | some (m, _) => m) y := by
  induction h with
  | leaf n h1 h2 => exact seqT_cons.2 ⟨h1, by rw [h2]; rfl⟩
  | node n ys ls h1 h2 _ ih => exact seqT_cons.2 ⟨h1, by rw [Nat.zero_add]; exact ih⟩
  | nil k => rfl
  | cons m k y ys l ls _ _ ih1 ih2 =>
    have := seqT_append ih1 ih2
    rwa [Nat.add_comm] at this
theorem Pr.det {ar : List Int} {s : Option (Nat × Nat)} {y : List Int} {l : List UInt8} (h : Pr ar s y l) : ∀ {z : List Int} {l' : List UInt8}, Pr ar s z l' → z = y → l = l' := by
  induction h with
  | leaf n h1 h2 =>
    intro z l' h' e
    cases h' with
    | leaf n' _ _ => simp at e; rw [e]
    | node n' ys' ls' _ h3 _ => simp at e; rw [e.1] at h3; exact absurd h2 h3
  | node n ys ls h1 h2 _ ih =>
    intro z l' h' e
    cases h' with
    | leaf n' _ h3 => simp at e; rw [e.1] at h3; exact absurd h3 h2
    | node n' ys' ls' _ _ h4 =>
      simp at e
      obtain ⟨rfl, rfl⟩ := e
      rw [ih h4 rfl]
  | nil k =>
    intro z l' h' e
    cases h' with
    | nil => rfl
  | cons m k y ys l ls hy hys ih1 ih2 =>
    intro z l' h' e
    cases h' with
    | cons _ _ y' ys' l2 ls2 h3 h4 =>
      have e1 : y' = y := seq_prefix (show seqT ar 1 y' from h3.seq) (show seqT ar 1 y from hy.seq) e
      subst e1
      have e2 := List.append_cancel_left e
      subst e2
      rw [ih1 h3 rfl, ih2 h4 rfl]
theorem drop_at {T r : List UInt8} {p : Nat} {b : UInt8} (h : T.drop p = b :: r) : T[p]? = some b ∧ T.drop (p+1) = r := by
  have h1 : (T.drop p)[0]? = some b := by rw [h]; rfl
  rw [List.getElem?_drop, Nat.add_zero] at h1
  refine ⟨h1, ?_⟩
  rw [← List.drop_drop, h]; rfl
theorem drop_to {T l r : List UInt8} {p : Nat} (h : T.drop p = l ++ r) : T.drop (p + l.length) = r := by
  rw [← List.drop_drop, h, List.drop_left']; rfl
theorem Pr.scan {ar : List Int} (hl : ar.length ≤ 10) {T : List UInt8} {s : Option (Nat × Nat)} {y : List Int} {l : List UInt8} (h : Pr ar s y l) :
    match s with
    | none => ∀ (f p : Nat) (rest : List UInt8), T.drop p = l ++ rest → l.length ≤ f → scanF ar T f p = (y, p + l.length, true)
    | some (m, k) => ∀ (f p : Nat) (rest : List UInt8) (acc : List Int), T.drop p = l ++ 41 :: rest → l.length ≤ f → scanArgs (scanF ar T f) T m k acc p = (acc ++ y, p + l.length + 1, true) := by
  induction h with
  | leaf n h1 h2 =>
    intro f p rest hd hf
    obtain ⟨f, rfl⟩ : ∃ f', f = f' + 1 := ⟨f - 1, by simp at hf; omega⟩
    exact scan_leaf (drop_at hd).1 (sym_let hl h1) h2
  | node n ys ls h1 h2 _ ih =>
    intro f p rest hd hf
    obtain ⟨f, rfl⟩ : ∃ f', f = f' + 1 := ⟨f - 1, by simp at hf; omega⟩
    have hd' : T.drop p = letter n :: (ls ++ 41 :: rest) := by rw [hd]; simp
    obtain ⟨d1, d2⟩ := drop_at hd'
    rw [scan_args d1 (sym_let hl h1) h2, ih f (p+1) rest [n] d2 (by simp at hf; omega)]
    simp; omega
  | nil k =>
    intro f p rest acc hd hf
    rw [args_done (drop_at (show T.drop p = 41 :: rest by simpa using hd)).1]
    simp
  | cons m k y ys l ls _ _ ih1 ih2 =>
    intro f p rest acc hd hf
    simp at hf
    have hd' : T.drop p = sepC k :: (l ++ (ls ++ 41 :: rest)) := by rw [hd]; simp
    obtain ⟨d1, d2⟩ := drop_at hd'
    have hg := ih1 f (p+1) _ d2 (by omega)
    rw [args_next d1 (by rw [hg]), hg, ih2 f _ rest (acc ++ y) (drop_to d2) (by omega)]
    simp; omega
theorem args_back {ar : List Int} {T : List UInt8} {g : Nat → Scanned} (hg : ∀ q y q', g q = (y, q', true) → ∃ l, Pr ar none y l ∧ T.drop q = l ++ T.drop q' ∧ q' = q + l.length) : ∀ (m k : Nat) (acc r : List Int) (p p' : Nat), scanArgs g T m k acc p = (r, p', true) → ∃ ys ls, r = acc ++ ys ∧ Pr ar (some (m, k)) ys ls ∧ T.drop p = ls ++ 41 :: T.drop p' ∧ p' = p + ls.length + 1 := by
  intro m
  induction m with
  | zero =>
    intro k acc r p p' h
    by_cases hc : T[p]? = some 41
    · rw [args_done hc] at h
      simp at h
      obtain ⟨rfl, rfl⟩ := h
      refine ⟨[], [], by simp, Pr.nil k, ?_, rfl⟩
      have hp := (List.getElem?_eq_some_iff.1 hc)
      obtain ⟨hlt, hv⟩ := hp
      rw [List.drop_eq_getElem_cons hlt, hv]; rfl
    · rw [args_noclose hc] at h; simp at h
  | succ m ih =>
    intro k acc r p p' h
    by_cases hc : T[p]? = some (sepC k)
    · cases hb : (g (p+1)).2.2 with
      | false => rw [args_bad hc hb] at h; simp at h
      | true =>
        rw [args_next hc hb] at h
        obtain ⟨l, h1, h2, h3⟩ := hg (p+1) (g (p+1)).1 (g (p+1)).2.1 (by rw [← hb])
        obtain ⟨ys, ls, rfl, h5, h6, h7⟩ := ih (k+1) _ r _ p' h
        refine ⟨(g (p+1)).1 ++ ys, sepC k :: (l ++ ls), by rw [List.append_assoc], Pr.cons m k _ ys l ls h1 h5, ?_, by simp; omega⟩
        obtain ⟨hlt, hv⟩ := List.getElem?_eq_some_iff.1 hc
        rw [List.drop_eq_getElem_cons hlt, hv, h2, h6]
        simp
    · rw [args_nosep hc] at h; simp at h
theorem scan_back {ar : List Int} (hl : ar.length ≤ 10) {T : List UInt8} : ∀ (f p p' : Nat) (y : List Int), scanF ar T f p = (y, p', true) → ∃ l, Pr ar none y l ∧ T.drop p = l ++ T.drop p' ∧ p' = p + l.length := by
  intro f
  induction f with
  | zero => intro p p' y h; simp [scanF] at h
  | succ f ih =>
    intro p p' y h
    by_cases hp : p < T.length
    · have hT : T[p]? = some T[p] := List.getElem?_eq_getElem hp
      cases hs : symAt ar T[p] with
      | none => rw [scan_bad hT hs] at h; simp at h
      | some n =>
        obtain ⟨e1, e2⟩ := let_sym hl hs
        by_cases h0 : arOf ar n = 0
        · rw [scan_leaf hT hs h0] at h
          simp at h
          obtain ⟨rfl, rfl⟩ := h
          refine ⟨[letter n], Pr.leaf n e2 h0, ?_, by simp⟩
          rw [List.drop_eq_getElem_cons hp, e1]; rfl
        · rw [scan_args hT hs h0] at h
          obtain ⟨ys, ls, rfl, h5, h6, h7⟩ := args_back (fun q y q' hq => ih q q' y hq) _ _ _ _ _ _ h
          refine ⟨letter n :: (ls ++ [41]), Pr.node n ys ls e2 h0 h5, ?_, by simp; omega⟩
          rw [List.drop_eq_getElem_cons hp, h6, e1]; simp
    · rw [scan_end hp] at h; simp at h

def accR (g : Nat → List UInt8) : List Nat → Nat → List UInt8
  | [], _ => []
  | a :: r, j => sepC j :: (g a ++ accR g r (j+1))
theorem accR_snoc (g : Nat → List UInt8) (a : Nat) : ∀ (l : List Nat) (j : Nat), accR g (l ++ [a]) j = accR g l j ++ (sepC (j + l.length) :: g a)
  | [], j => by simp [accR]
  | b :: l, j => by
    rw [List.cons_append, accR, accR_snoc g a l (j+1), accR]
    simp
    rw [show j + 1 + l.length = j + (l.length + 1) by omega]
theorem accT_R (g : Nat → List UInt8) (l : List Nat) : ∀ k, k ≤ l.length → accT g l k = accR g (l.take k) 0
  | 0, _ => by simp [accT, accR]
  | k+1, h => by
    rw [accT, accT_R g l k (by omega), List.take_succ_eq_append_getElem (by omega), accR_snoc]
    have : l.getD k 0 = l[k] := by simp [List.getD, show k < l.length by omega]
    rw [this, List.length_take, Nat.min_eq_left (by omega), Nat.zero_add]
    rfl
theorem args_pr {ar t : List Int} : ∀ (k p e j : Nat), endGo ar (t.drop p) k p = some e → (∀ a ∈ argsGo ar t k p, ∀ q, endOf ar t a = some q → Pr ar none (partOf t a q) (textAt ar t a)) → Pr ar (some (k, j)) (partOf t p e) (accR (textAt ar t) (argsGo ar t k p) j) := by
  intro k
  induction k with
  | zero =>
    intro p e j h _
    rw [endGo_zero] at h
    simp at h
    subst h
    have : partOf t p p = [] := by simp [partOf]
    rw [this]
    exact Pr.nil j
  | succ k ih =>
    intro p e j h hp
    obtain ⟨q, hq, hr, h1, h2⟩ := ends_step ar t p k e h
    have hgo : argsGo ar t (k+1) p = p :: argsGo ar t k q := by rw [argsGo]; simp [hq]
    rw [hgo] at hp ⊢
    rw [part_split (Nat.le_of_lt h1) h2, accR]
    exact Pr.cons k j _ _ _ _ (hp p List.mem_cons_self q hq) (ih q e (j+1) hr (fun a ha => hp a (List.mem_cons_of_mem _ ha)))
theorem text_pr {ar t : List Int} (h : okTerm ar t = true) : ∀ (n i e : Nat), t.length - i ≤ n → i < t.length → endOf ar t i = some e → Pr ar none (partOf t i e) (textAt ar t i) := by
  intro n
  induction n with
  | zero => intro i e hn hi; omega
  | succ n ih =>
    intro i e hn hi he
    have hs := good_sym ar t h i hi
    have hend : endGo ar (t.drop (i+1)) (arOf ar (t.getD i 0)) (i+1) = some e := by
      have h1 := he
      unfold endOf at h1
      rw [drop_cons t i hi, endGo_cons, if_pos hs, Nat.zero_add] at h1
      exact h1
    have hge := endGo_ge _ _ _ _ _ hend
    have hpart : partOf t i e = t.getD i 0 :: partOf t (i+1) e := by
      unfold partOf
      rw [drop_cons t i hi, show e - i = (e - (i+1)) + 1 by omega, List.take_succ_cons]
    have hargs := args_pr (ar := ar) (t := t) _ (i+1) e 0 hend (fun a ha q hq => by
      have hb := argsOf_bd ar t h i hi a ha
      exact ih a q (by omega) hb.2 hq)
    rw [textAt_eq ar t h i hi, hpart, accT_R _ _ _ (Nat.le_refl _), List.take_length]
    have hlen : (argsOf ar t i).length = arOf ar (t.getD i 0) := argsGo_len ar t _ _
    by_cases h0 : arOf ar (t.getD i 0) = 0
    · rw [h0] at hend
      rw [endGo_zero] at hend
      simp at hend
      subst hend
      have hnil : argsOf ar t i = [] := List.length_eq_zero_iff.1 (by rw [hlen, h0])
      rw [hnil]
      have : partOf t (i+1) (i+1) = [] := by simp [partOf]
      rw [this]
      exact Pr.leaf _ hs h0
    · rw [if_neg (by rw [hlen]; exact h0)]
      exact Pr.node _ _ _ hs h0 hargs
theorem text_whole {ar t : List Int} (h : okTerm ar t = true) : Pr ar none t (textAt ar t 0) := by
  obtain ⟨h1, _, h3⟩ := (okTerm_iff ar t).1 h
  have := text_pr h t.length 0 t.length (by omega) (by omega) h3
  rwa [show partOf t 0 t.length = t from by simp [partOf]] at this
theorem read_text {ar t : List Int} (h : goodTerm ar t = true) (hl : (textBA ar t).size ≤ 200) : readAns ar (textBA ar t) = (t, (textBA ar t).size, true) := by
  obtain ⟨hg, hok⟩ := goodTerm_iff.1 h
  have hlen := (sign_len ar hg).2
  have h40 := ((okTerm_iff _ _).1 hok).2.1
  rw [read_yes hg hl]
  have hd : (textBA ar t).data.toList = textAt ar t 0 := by rw [text_yes h]
  have hsz : (textBA ar t).size = (textAt ar t 0).length := by rw [ba_size, hd]
  have hs := Pr.scan hlen (T := textAt ar t 0) (text_whole hok) ((textAt ar t 0).length + 1) 0 [] (by simp) (by omega)
  rw [hd, hs, hsz]
  unfold readCore
  rw [if_neg (by simp), if_pos h40, Nat.zero_add]
theorem text_read {ar : List Int} {s : ByteArray} (h : (readAns ar s).2.2 = true) : goodTerm ar (readAns ar s).1 = true ∧ textBA ar (readAns ar s).1 = s := by
  by_cases hc : goodSign ar = true ∧ s.size ≤ 200
  · obtain ⟨hg, hl⟩ := hc
    have hlen := (sign_len ar hg).2
    rw [read_yes hg hl] at h ⊢
    have hro := scan_read ar s.data.toList (s.data.toList.length + 1) 0
    have hok := scanF_ok ar s.data.toList (s.data.toList.length + 1) 0 (Nat.zero_le _)
    generalize hr : scanF ar s.data.toList (s.data.toList.length + 1) 0 = r at *
    unfold readCore at h ⊢
    by_cases h1 : r.2.2 = false ∨ r.2.1 < s.size
    · rw [if_pos h1] at h; simp at h
    · rw [if_neg h1] at h ⊢
      by_cases h2 : r.1.length ≤ 40
      · rw [if_pos h2] at h ⊢
        have hterm : okTerm ar r.1 = true := by rw [read_term hro h]; simpa using h2
        have hgt : goodTerm ar r.1 = true := by unfold goodTerm; rw [hg, hterm]; rfl
        obtain ⟨l, p1, p2, p3⟩ := scan_back hlen _ _ _ _ (show scanF ar s.data.toList (s.data.toList.length + 1) 0 = (r.1, r.2.1, true) by rw [hr, ← h])
        have hle := hok.1
        have hsz := ba_size s
        have hend : r.2.1 = s.data.toList.length := by omega
        rw [List.drop_zero, hend, List.drop_length, List.append_nil] at p2
        have hdet := (text_whole hterm).det p1 rfl
        refine ⟨hgt, ?_⟩
        rw [text_yes hgt, hdet, ← p2]
      · rw [if_neg h2] at h; simp at h
  · rw [read_no hc] at h; simp at h
end Go.Proofs.Ytlcjcihohclmhaa
end
section
/- Clauses: reading is the reverse of printing. No program but the letters'. -/
namespace Go.Proofs.Ytlcjcihohclmhaa
open Go.RowKit

abbrev ReadL := List Lt × Nat × Bool
def rdT (ar : List Int) (T : List UInt8) (p : Nat) : Scanned := scanF ar T (T.length + 1) p
/-- What is read from p on, behind the literals acc. -/
def readLits (ar : List Int) (T : List UInt8) : Nat → Nat → List Lt → ReadL
  | 0, p, _ => ([], p, false)
  | f + 1, p, acc =>
    if (rdT ar T p).2.2 = true then
      match T[(rdT ar T p).2.1]? with
      | none => ([], (rdT ar T p).2.1, false)
      | some b =>
        if b = 61 ∨ b = 35 then
          if (rdT ar T ((rdT ar T p).2.1 + 1)).2.2 = true then
            match T[(rdT ar T ((rdT ar T p).2.1 + 1)).2.1]? with
            | none => (acc ++ [(decide (b = 61), (rdT ar T p).1, (rdT ar T ((rdT ar T p).2.1 + 1)).1)], (rdT ar T ((rdT ar T p).2.1 + 1)).2.1, true)
            | some c =>
              if c = 124 then readLits ar T f ((rdT ar T ((rdT ar T p).2.1 + 1)).2.1 + 1) (acc ++ [(decide (b = 61), (rdT ar T p).1, (rdT ar T ((rdT ar T p).2.1 + 1)).1)])
              else ([], (rdT ar T ((rdT ar T p).2.1 + 1)).2.1, false)
          else ([], (rdT ar T ((rdT ar T p).2.1 + 1)).2.1, false)
        else ([], (rdT ar T p).2.1, false)
    else ([], (rdT ar T p).2.1, false)
section
variable {ar : List Int} {T : List UInt8} {f p : Nat} {acc : List Lt}
theorem lits_bad1 (h : (rdT ar T p).2.2 = false) : readLits ar T (f+1) p acc = ([], (rdT ar T p).2.1, false) := by
  unfold readLits; rw [if_neg (by rw [h]; simp)]
theorem lits_end1 (h : (rdT ar T p).2.2 = true) (h1 : T[(rdT ar T p).2.1]? = none) : readLits ar T (f+1) p acc = ([], (rdT ar T p).2.1, false) := by
  unfold readLits; rw [if_pos h]; simp [h1]
theorem lits_sign {b : UInt8} (h : (rdT ar T p).2.2 = true) (h1 : T[(rdT ar T p).2.1]? = some b) (h2 : ¬ (b = 61 ∨ b = 35)) : readLits ar T (f+1) p acc = ([], (rdT ar T p).2.1, false) := by
  unfold readLits; rw [if_pos h]; simp only [h1]; rw [if_neg h2]
theorem lits_bad2 {b : UInt8} (h : (rdT ar T p).2.2 = true) (h1 : T[(rdT ar T p).2.1]? = some b) (h2 : b = 61 ∨ b = 35) (h3 : (rdT ar T ((rdT ar T p).2.1 + 1)).2.2 = false) :
    readLits ar T (f+1) p acc = ([], (rdT ar T ((rdT ar T p).2.1 + 1)).2.1, false) := by
  unfold readLits; rw [if_pos h]; simp only [h1]; rw [if_pos h2, if_neg (by rw [h3]; simp)]
theorem lits_last {b : UInt8} (h : (rdT ar T p).2.2 = true) (h1 : T[(rdT ar T p).2.1]? = some b) (h2 : b = 61 ∨ b = 35) (h3 : (rdT ar T ((rdT ar T p).2.1 + 1)).2.2 = true) (h4 : T[(rdT ar T ((rdT ar T p).2.1 + 1)).2.1]? = none) :
    readLits ar T (f+1) p acc = (acc ++ [(decide (b = 61), (rdT ar T p).1, (rdT ar T ((rdT ar T p).2.1 + 1)).1)], (rdT ar T ((rdT ar T p).2.1 + 1)).2.1, true) := by
  unfold readLits; rw [if_pos h]; simp only [h1]; rw [if_pos h2, if_pos h3]; simp only [h4]
theorem lits_bar {b c : UInt8} (h : (rdT ar T p).2.2 = true) (h1 : T[(rdT ar T p).2.1]? = some b) (h2 : b = 61 ∨ b = 35) (h3 : (rdT ar T ((rdT ar T p).2.1 + 1)).2.2 = true) (h4 : T[(rdT ar T ((rdT ar T p).2.1 + 1)).2.1]? = some c) (h5 : c ≠ 124) :
    readLits ar T (f+1) p acc = ([], (rdT ar T ((rdT ar T p).2.1 + 1)).2.1, false) := by
  unfold readLits; rw [if_pos h]; simp only [h1]; rw [if_pos h2, if_pos h3]; simp only [h4]; rw [if_neg h5]
theorem lits_more {b : UInt8} (h : (rdT ar T p).2.2 = true) (h1 : T[(rdT ar T p).2.1]? = some b) (h2 : b = 61 ∨ b = 35) (h3 : (rdT ar T ((rdT ar T p).2.1 + 1)).2.2 = true) (h4 : T[(rdT ar T ((rdT ar T p).2.1 + 1)).2.1]? = some 124) :
    readLits ar T (f+1) p acc = readLits ar T f ((rdT ar T ((rdT ar T p).2.1 + 1)).2.1 + 1) (acc ++ [(decide (b = 61), (rdT ar T p).1, (rdT ar T ((rdT ar T p).2.1 + 1)).1)]) := by
  conv => lhs; unfold readLits
  rw [if_pos h]; simp only [h1]; rw [if_pos h2, if_pos h3]; simp only [h4]; rw [if_pos trivial]
end

/-- The text of a literal; of literals, a bar ahead of each but the first. -/
def signB (p : Bool) : UInt8 := if p then 61 else 35
def textL (ar : List Int) (x : Lt) : List UInt8 := textAt ar x.2.1 0 ++ signB x.1 :: textAt ar x.2.2 0
def barsL (ar : List Int) (c : List Lt) : List UInt8 := c.flatMap fun x => 124 :: textL ar x
def textC (ar : List Int) : List Lt → List UInt8
  | [] => [45]
  | x :: c => textL ar x ++ barsL ar c
theorem sign_dec (p : Bool) : decide (signB p = 61) = p := by cases p <;> rfl
theorem sign_or (p : Bool) : signB p = 61 ∨ signB p = 35 := by cases p <;> simp [signB]

theorem rd_term {ar : List Int} (hl : ar.length ≤ 10) {T : List UInt8} {p : Nat} {t : List Int} {rest : List UInt8} (ht : okTerm ar t = true) (hd : T.drop p = textAt ar t 0 ++ rest) :
    rdT ar T p = (t, p + (textAt ar t 0).length, true) := by
  have h := Pr.scan hl (T := T) (text_whole ht) (T.length + 1) p rest hd (by
    have := congrArg List.length hd
    rw [List.length_drop, List.length_append] at this
    omega)
  exact h
theorem drop_none {T : List UInt8} {p : Nat} (h : T.drop p = []) : T[p]? = none := by
  rw [List.getElem?_eq_none_iff]
  have := List.drop_eq_nil_iff.1 h
  exact this
/-- Printed literals are read back. -/
theorem lits_text {ar : List Int} (hl : ar.length ≤ 10) {T : List UInt8} : ∀ (c : List Lt) (x : Lt) (f p : Nat) (acc : List Lt), okLit ar x = true → (∀ y ∈ c, okLit ar y = true) → T.drop p = textL ar x ++ barsL ar c → c.length < f → p ≤ T.length →
    readLits ar T f p acc = (acc ++ x :: c, T.length, true) := by
  intro c
  induction c with
  | nil =>
    intro x f p acc hx _ hd hf hp
    obtain ⟨f, rfl⟩ : ∃ f', f = f' + 1 := ⟨f - 1, by simp at hf; omega⟩
    obtain ⟨o1, o2⟩ := okLit_iff.1 hx
    have hd' : T.drop p = textAt ar x.2.1 0 ++ (signB x.1 :: (textAt ar x.2.2 0 ++ [])) := by rw [hd]; simp [textL, barsL]
    have r1 := rd_term hl o1 hd'
    obtain ⟨g1, g2⟩ := drop_at (drop_to hd')
    have r2 := rd_term hl o2 g2
    have g3 := drop_to g2
    have h1 : (rdT ar T p).2.1 = p + (textAt ar x.2.1 0).length := by rw [r1]
    have hlen := congrArg List.length hd'
    rw [List.length_drop] at hlen
    simp at hlen
    rw [lits_last (b := signB x.1) (by rw [r1]) (by rw [h1]; exact g1) (sign_or _) (by rw [h1, r2]) (by rw [h1, r2]; exact drop_none g3), h1, r2, r1, sign_dec]
    simp only [Prod.mk.injEq, and_true, true_and]
    omega
  | cons y c ih =>
    intro x f p acc hx hc hd hf hp
    obtain ⟨f, rfl⟩ : ∃ f', f = f' + 1 := ⟨f - 1, by simp at hf; omega⟩
    obtain ⟨o1, o2⟩ := okLit_iff.1 hx
    have hd' : T.drop p = textAt ar x.2.1 0 ++ (signB x.1 :: (textAt ar x.2.2 0 ++ (124 :: (textL ar y ++ barsL ar c)))) := by rw [hd]; simp [textL, barsL]
    have r1 := rd_term hl o1 hd'
    obtain ⟨g1, g2⟩ := drop_at (drop_to hd')
    have r2 := rd_term hl o2 g2
    obtain ⟨g3, g4⟩ := drop_at (drop_to g2)
    have h1 : (rdT ar T p).2.1 = p + (textAt ar x.2.1 0).length := by rw [r1]
    have hlt := (List.getElem?_eq_some_iff.1 g3).1
    rw [lits_more (b := signB x.1) (by rw [r1]) (by rw [h1]; exact g1) (sign_or _) (by rw [h1, r2]) (by rw [h1, r2]; exact g3), h1, r2, r1, sign_dec]
    rw [ih y f _ _ (hc y List.mem_cons_self) (fun z hz => hc z (List.mem_cons_of_mem _ hz)) g4 (by simp at hf; omega) (by omega)]
    simp

/-- Literals that were read: what was read is their text, if they are valid. -/
theorem lits_back {ar : List Int} (hl : ar.length ≤ 10) {T : List UInt8} : ∀ (f p q : Nat) (acc c : List Lt), p ≤ T.length → readLits ar T f p acc = (c, q, true) →
    ∃ x d, c = acc ++ x :: d ∧ q = T.length ∧ (okLit ar x = true → (∀ y ∈ d, okLit ar y = true) → T.drop p = textL ar x ++ barsL ar d) := by
  intro f
  induction f with
  | zero => intro p q acc c _ h; simp [readLits] at h
  | succ f ih =>
    intro p q acc c hp h
    cases e1 : (rdT ar T p).2.2 with
    | false => rw [lits_bad1 e1] at h; simp at h
    | true =>
      obtain ⟨l1, p1, d1, q1⟩ := scan_back hl _ _ _ _ (show scanF ar T (T.length + 1) p = ((rdT ar T p).1, (rdT ar T p).2.1, true) by rw [← e1]; rfl)
      cases e2 : T[(rdT ar T p).2.1]? with
      | none => rw [lits_end1 e1 e2] at h; simp at h
      | some b =>
        by_cases hb : b = 61 ∨ b = 35
        · have hlt1 := (List.getElem?_eq_some_iff.1 e2).1
          cases e3 : (rdT ar T ((rdT ar T p).2.1 + 1)).2.2 with
          | false => rw [lits_bad2 e1 e2 hb e3] at h; simp at h
          | true =>
            obtain ⟨l2, p2, d2, q2⟩ := scan_back hl _ _ _ _ (show scanF ar T (T.length + 1) ((rdT ar T p).2.1 + 1) = ((rdT ar T ((rdT ar T p).2.1 + 1)).1, (rdT ar T ((rdT ar T p).2.1 + 1)).2.1, true) by rw [← e3]; rfl)
            have hok := (scanF_ok ar T (T.length + 1) ((rdT ar T p).2.1 + 1) (by omega)).1
            have hle : (rdT ar T ((rdT ar T p).2.1 + 1)).2.1 ≤ T.length := hok
            have hsig : signB (decide (b = 61)) = b := by
              rcases hb with rfl | rfl
              · rfl
              · rfl
            have hd : T.drop p = l1 ++ (b :: (l2 ++ T.drop (rdT ar T ((rdT ar T p).2.1 + 1)).2.1)) := by
              rw [d1, List.drop_eq_getElem_cons hlt1, ← d2]
              obtain ⟨_, hv⟩ := List.getElem?_eq_some_iff.1 e2
              rw [hv]
            cases e4 : T[(rdT ar T ((rdT ar T p).2.1 + 1)).2.1]? with
            | none =>
              rw [lits_last e1 e2 hb e3 e4] at h
              simp only [Prod.mk.injEq, and_true] at h
              obtain ⟨rfl, rfl⟩ := h
              have hq : (rdT ar T ((rdT ar T p).2.1 + 1)).2.1 = T.length := by
                have := List.getElem?_eq_none_iff.1 e4
                omega
              refine ⟨_, [], rfl, hq, fun hx _ => ?_⟩
              obtain ⟨o1, o2⟩ := okLit_iff.1 hx
              rw [hd, hq, List.drop_length]
              show _ = (textAt ar _ 0 ++ signB _ :: textAt ar _ 0) ++ []
              rw [(text_whole o1).det p1 rfl, (text_whole o2).det p2 rfl, hsig]
              simp
            | some e =>
              by_cases he : e = 124
              · subst he
                have hlt2 := (List.getElem?_eq_some_iff.1 e4).1
                rw [lits_more e1 e2 hb e3 e4] at h
                obtain ⟨y, d, rfl, hq, hback⟩ := ih _ _ _ _ (by omega) h
                refine ⟨(decide (b = 61), (rdT ar T p).1, (rdT ar T ((rdT ar T p).2.1 + 1)).1), y :: d, by simp, hq, fun hx hc => ?_⟩
                obtain ⟨o1, o2⟩ := okLit_iff.1 hx
                have h3 := hback (hc y List.mem_cons_self) (fun z hz => hc z (List.mem_cons_of_mem _ hz))
                obtain ⟨_, hv⟩ := List.getElem?_eq_some_iff.1 e4
                rw [hd, List.drop_eq_getElem_cons hlt2, hv, h3]
                show _ = (textAt ar _ 0 ++ signB _ :: textAt ar _ 0) ++ ((124 :: textL ar y) ++ barsL ar d)
                rw [(text_whole o1).det p1 rfl, (text_whole o2).det p2 rfl, hsig]
                simp
              · rw [lits_bar e1 e2 hb e3 e4 he] at h; simp at h
        · rw [lits_sign e1 e2 hb] at h; simp at h

/-- A text begins with a letter, not with '-'. -/
theorem pr_head {ar : List Int} (_hl : ar.length ≤ 10) {y : List Int} {l : List UInt8} (h : Pr ar none y l) : ∃ n r, l = letter n :: r ∧ okSym ar n = true := by
  cases h with
  | leaf n h1 _ => exact ⟨n, [], rfl, h1⟩
  | node n ys ls h1 _ _ => exact ⟨n, ls ++ [41], rfl, h1⟩
theorem letter_dash {ar : List Int} (hl : ar.length ≤ 10) {n : Int} (h : okSym ar n = true) : letter n ≠ 45 := by
  intro e
  unfold okSym inB at h
  simp at h
  have e2 := congrArg UInt8.toNat e
  by_cases hn : n < 0
  · obtain ⟨k, rfl⟩ : ∃ k : Nat, n = -1 - (k : Int) := ⟨(-1 - n).toNat, by omega⟩
    rw [let_neg k (by omega)] at e2
    have : (45 : UInt8).toNat = 45 := rfl
    omega
  · obtain ⟨k, rfl⟩ : ∃ k : Nat, n = (k : Int) := ⟨n.toNat, by omega⟩
    rw [let_pos k (by omega)] at e2
    have : (45 : UInt8).toNat = 45 := rfl
    omega

/-- What is read of a whole text; what ReadClause answers; what ClauseText does. -/
def readT (ar : List Int) (T : List UInt8) : ReadL := if T = [45] then ([], 1, true) else if T[0]? = some 45 then ([], 1, false) else readLits ar T (T.length + 1) 0 []
def readClAns (ar : List Int) (s : ByteArray) : ReadL :=
  if goodSign ar = true ∧ s.size ≤ 1000 then
    if (readT ar s.data.toList).2.2 = true then (if okLits ar (readT ar s.data.toList).1 = true then readT ar s.data.toList else ([], 0, false)) else ([], (readT ar s.data.toList).2.1, false)
  else ([], 0, false)
def textClA (ar : List Int) (c : List Lt) : ByteArray := if goodClause ar c then ⟨(textC ar c).toArray⟩ else ⟨#[]⟩
theorem textClA_yes {ar : List Int} {c : List Lt} (h : goodClause ar c = true) : textClA ar c = ⟨(textC ar c).toArray⟩ := by simp [textClA, h]
theorem textL_len (ar : List Int) (x : Lt) : 0 < (textL ar x).length := by simp [textL]; omega
theorem barsL_len (ar : List Int) (c : List Lt) : c.length ≤ (barsL ar c).length := by
  induction c with
  | nil => simp
  | cons x c ih => show c.length + 1 ≤ ((124 :: textL ar x) ++ barsL ar c).length; simp; omega
theorem readCl_text {ar : List Int} {c : List Lt} (h : goodClause ar c = true) (hl : (textClA ar c).size ≤ 1000) : readClAns ar (textClA ar c) = (c, (textClA ar c).size, true) := by
  obtain ⟨hg, h8, hc⟩ := goodClause_iff.1 h
  have hlen := (sign_len ar hg).2
  have hd : (textClA ar c).data.toList = textC ar c := by rw [textClA_yes h]
  have hsz : (textClA ar c).size = (textC ar c).length := by rw [ba_size, hd]
  have hok : okLits ar c = true := okLits_iff.2 ⟨h8, hc⟩
  have hr : readT ar (textC ar c) = (c, (textC ar c).length, true) := by
    cases c with
    | nil => rfl
    | cons x c =>
      have hx := hc x List.mem_cons_self
      obtain ⟨n, r, e, hn⟩ := pr_head hlen (text_whole (okLit_iff.1 hx).1)
      have hne := letter_dash hlen hn
      have h0 : (textC ar (x :: c))[0]? = some (letter n) := by show ((textAt ar x.2.1 0 ++ _) ++ _)[0]? = _; rw [e]; rfl
      unfold readT
      rw [if_neg (by intro e2; rw [e2] at h0; simp at h0; exact hne h0.symm), if_neg (by rw [h0]; simpa using hne)]
      have hbl := barsL_len ar c
      have := lits_text hlen (T := textC ar (x :: c)) c x ((textC ar (x :: c)).length + 1) 0 [] hx (fun y hy => hc y (List.mem_cons_of_mem _ hy)) rfl (by show _ < (textL ar x ++ barsL ar c).length + 1; simp; omega) (Nat.zero_le _)
      rw [this]
      simp
  unfold readClAns
  rw [if_pos ⟨hg, hl⟩, hd, hr, hsz]
  simp [hok]
theorem text_readCl {ar : List Int} {s : ByteArray} (h : (readClAns ar s).2.2 = true) : goodClause ar (readClAns ar s).1 = true ∧ textClA ar (readClAns ar s).1 = s := by
  by_cases hc : goodSign ar = true ∧ s.size ≤ 1000
  · obtain ⟨hg, hl⟩ := hc
    have hlen := (sign_len ar hg).2
    unfold readClAns at h ⊢
    rw [if_pos ⟨hg, hl⟩] at h ⊢
    generalize hT : s.data.toList = T at *
    by_cases e1 : (readT ar T).2.2 = true
    · rw [if_pos e1] at h ⊢
      by_cases e2 : okLits ar (readT ar T).1 = true
      · rw [if_pos e2]
        have hgc : goodClause ar (readT ar T).1 = true := by unfold goodClause; rw [hg, e2]; rfl
        refine ⟨hgc, ?_⟩
        have hs : s = ⟨T.toArray⟩ := by rw [← hT]
        rw [textClA_yes hgc, hs]
        congr 2
        unfold readT at e1 e2 ⊢
        by_cases c1 : T = [45]
        · rw [if_pos c1]; exact c1.symm
        · rw [if_neg c1] at e1 e2 ⊢
          by_cases c2 : T[0]? = some 45
          · rw [if_pos c2] at e1; simp at e1
          · rw [if_neg c2] at e1 e2 ⊢
            obtain ⟨x, d, hcd, _, hb⟩ := lits_back hlen (T := T) (T.length + 1) 0 _ [] _ (Nat.zero_le _) (show readLits ar T (T.length + 1) 0 [] = ((readLits ar T (T.length + 1) 0 []).1, (readLits ar T (T.length + 1) 0 []).2.1, true) by rw [← e1])
            rw [hcd] at e2 ⊢
            simp only [List.nil_append] at e2 ⊢
            have hall := (okLits_iff.1 e2).2
            have := hb (hall x List.mem_cons_self) (fun y hy => hall y (List.mem_cons_of_mem _ hy))
            rw [List.drop_zero] at this
            exact this.symm
      · rw [if_neg e2] at h; simp at h
    · rw [if_neg e1] at h; simp at h
  · unfold readClAns at h
    rw [if_neg hc] at h; simp at h
end Go.Proofs.Ytlcjcihohclmhaa
end
section
/- Chapter 4, the reference: ClauseText. -/
namespace Go.Proofs.Ytlcjcihohclmhaa
open Go.RowKit

theorem barsL_app (ar : List Int) (c d : List Lt) : barsL ar (c ++ d) = barsL ar c ++ barsL ar d := by simp [barsL]
theorem textC_snoc (ar : List Int) {c : List Lt} (h : c ≠ []) (x : Lt) : textC ar (c ++ [x]) = textC ar c ++ 124 :: textL ar x := by
  cases c with
  | nil => exact absurd rfl h
  | cons y r => simp only [List.cons_append, textC, barsL_app, List.append_assoc]; simp [barsL]
/-- What is written behind k literals. -/
def accL (ar : List Int) (c : List Lt) (k : Nat) : List UInt8 := if k = 0 then [] else textC ar (c.take k)
theorem accL_succ (ar : List Int) (c : List Lt) (k : Nat) (h : k < c.length) : accL ar c (k+1) = (if k = 0 then [] else accL ar c k ++ [124]) ++ textL ar (c.getD k lt0) := by
  unfold accL
  rw [if_neg (by omega), List.take_succ_eq_append_getElem h]
  have e : c.getD k lt0 = c[k] := by simp [List.getD, h]
  rw [e]
  by_cases hk : k = 0
  · subst hk; simp [textC, barsL]
  · rw [if_neg hk, if_neg hk, textC_snoc ar (by intro h2; have := congrArg List.length h2; rw [List.length_take, List.length_nil] at this; omega)]
    simp
theorem textL_le {ar : List Int} {x : Lt} (h : okLit ar x = true) : (textAt ar x.2.1 0).length ≤ 120 ∧ (textAt ar x.2.2 0).length ≤ 120 := by
  obtain ⟨h1, h2⟩ := okLit_iff.1 h
  exact ⟨textAt_le ar _ h1 0 (by have := (okTerm_len h1).1; omega), textAt_le ar _ h2 0 (by have := (okTerm_len h2).1; omega)⟩
theorem accL_le {ar : List Int} {c : List Lt} (hok : ∀ x ∈ c, okLit ar x = true) : ∀ k, k ≤ c.length → (accL ar c k).length ≤ 250 * k := by
  intro k
  induction k with
  | zero => intro _; simp [accL]
  | succ k ih =>
    intro hk
    have := ih (by omega)
    obtain ⟨l1, l2⟩ := textL_le (hok _ (mem_getD c lt0 k (by omega)))
    rw [accL_succ ar c k (by omega), List.length_append]
    have : (textL ar (c.getD k lt0)).length ≤ 241 := by unfold textL; simp only [List.length_append, List.length_cons]; omega
    split
    · simp only [List.length_nil]; omega
    · simp only [List.length_append, List.length_cons, List.length_nil]; omega
theorem accL_all (ar : List Int) (c : List Lt) (h : c.length ≠ 0) : accL ar c c.length = textC ar c := by unfold accL; rw [if_neg h, List.take_length]

theorem ba_mk {A : ByteArray} {l : List UInt8} (h : A.data.toList = l) : A = ⟨l.toArray⟩ := by subst h; cases A; simp
end Go.Proofs.Ytlcjcihohclmhaa
end
