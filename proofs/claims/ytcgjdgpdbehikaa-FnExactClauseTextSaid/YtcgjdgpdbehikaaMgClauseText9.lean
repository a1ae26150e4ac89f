/- Texts merged, part 9. -/
import Derived.Deep.OwnRows
import Derived.Test.YtcgjdgpdbehikaaMgClauseText8
section
/- Match: what is found. -/
namespace Go.Proofs.Ytcgjdgpdbehikaa
open Go.RowKit Go.Maps

def upd {α : Type} (F : Nat → α) (v : Nat) (x : α) : Nat → α := fun i => if i = v then x else F i
theorem upd_same {α : Type} (F : Nat → α) (v : Nat) (x : α) : upd F v x v = x := by simp [upd]
theorem upd_other {α : Type} (F : Nat → α) {v i : Nat} (x : α) (h : i ≠ v) : upd F v x i = F i := by simp [upd, h]
def matchGo (ar t : List Int) : List Int → Nat → (Nat → List Int) → Option (Nat → List Int)
  | [], _, F => some F
  | n :: r, j, F =>
    if 0 ≤ n then (if t.getD j 0 = n then matchGo ar t r (j+1) F else none)
    else if F (-1 - n).toNat = [] ∨ F (-1 - n).toNat = partOf t j ((endOf ar t j).getD 0) then matchGo ar t r ((endOf ar t j).getD 0) (upd F (-1 - n).toNat (partOf t j ((endOf ar t j).getD 0))) else none
theorem mg_sym {ar t r : List Int} {n : Int} {j : Nat} {F : Nat → List Int} (h : 0 ≤ n) (he : t.getD j 0 = n) : matchGo ar t (n :: r) j F = matchGo ar t r (j+1) F := by rw [matchGo, if_pos h, if_pos he]
theorem mg_symno {ar t r : List Int} {n : Int} {j : Nat} {F : Nat → List Int} (h : 0 ≤ n) (he : ¬ t.getD j 0 = n) : matchGo ar t (n :: r) j F = none := by rw [matchGo, if_pos h, if_neg he]
theorem mg_var {ar t r : List Int} {n : Int} {j e : Nat} {F : Nat → List Int} (h : ¬ 0 ≤ n) (he : endOf ar t j = some e) (hF : F (-1 - n).toNat = [] ∨ F (-1 - n).toNat = partOf t j e) :
    matchGo ar t (n :: r) j F = matchGo ar t r e (upd F (-1 - n).toNat (partOf t j e)) := by
  rw [matchGo, if_neg h, he]
  simp only [Option.getD_some]
  rw [if_pos hF]
theorem mg_varno {ar t r : List Int} {n : Int} {j e : Nat} {F : Nat → List Int} (h : ¬ 0 ≤ n) (he : endOf ar t j = some e) (hF : ¬ (F (-1 - n).toNat = [] ∨ F (-1 - n).toNat = partOf t j e)) :
    matchGo ar t (n :: r) j F = none := by
  rw [matchGo, if_neg h, he]
  simp only [Option.getD_some]
  rw [if_neg hF]

/-- Both terms have as many terms to come. -/
def Pair2 (ar p t : List Int) (i j : Nat) : Prop := ∃ m, endGo ar (p.drop i) m i = some p.length ∧ endGo ar (t.drop j) m j = some t.length
theorem Pair2.start {ar p t : List Int} (hp : okTerm ar p = true) (ht : okTerm ar t = true) : Pair2 ar p t 0 0 := ⟨1, ((okTerm_iff _ _).1 hp).2.2, ((okTerm_iff _ _).1 ht).2.2⟩
theorem need_pos {ar p : List Int} {i m : Nat} (h : endGo ar (p.drop i) m i = some p.length) (hi : i < p.length) : ∃ m', m = m' + 1 := by
  cases m with
  | zero => rw [endGo_zero] at h; simp at h; omega
  | succ m => exact ⟨m, rfl⟩
theorem need_lt {ar t : List Int} {j m : Nat} (h : endGo ar (t.drop j) (m+1) j = some t.length) : j < t.length := by
  rcases Nat.lt_or_ge j t.length with h1 | h1
  · exact h1
  · rw [List.drop_eq_nil_of_le h1, endGo_nil] at h; simp at h
theorem Pair2.lt {ar p t : List Int} {i j : Nat} (h : Pair2 ar p t i j) (hi : i < p.length) : j < t.length := by
  obtain ⟨m, h1, h2⟩ := h
  obtain ⟨m, rfl⟩ := need_pos h1 hi
  exact need_lt h2
theorem Pair2.sym {ar p t : List Int} {i j : Nat} (h : Pair2 ar p t i j) (hi : i < p.length) (he : t.getD j 0 = p.getD i 0) : Pair2 ar p t (i+1) (j+1) := by
  have hj := h.lt hi
  obtain ⟨m, h1, h2⟩ := h
  obtain ⟨m, rfl⟩ := need_pos h1 hi
  rw [drop_cons p i hi, endGo_cons] at h1
  rw [drop_cons t j hj, endGo_cons, he] at h2
  split at h1
  · rename_i hs
    rw [if_pos hs] at h2
    exact ⟨_, h1, h2⟩
  · simp at h1
theorem Pair2.var {ar p t : List Int} {i j : Nat} (h : Pair2 ar p t i j) (hi : i < p.length) (hn : p.getD i 0 < 0) : ∃ e, endOf ar t j = some e ∧ j < e ∧ e ≤ t.length ∧ Pair2 ar p t (i+1) e := by
  obtain ⟨m, h1, h2⟩ := h
  obtain ⟨m, rfl⟩ := need_pos h1 hi
  rw [drop_cons p i hi, endGo_cons, arOf_neg hn] at h1
  split at h1
  · obtain ⟨e, he, hr, hlt, hle⟩ := ends_step ar t j m t.length h2
    exact ⟨e, he, hlt, hle, m, h1, hr⟩
  · simp at h1
def matchOk0 (ar p t : List Int) : Bool := goodTerm ar p && okTerm ar t
def matchR (ar p t : List Int) : Option (Nat → List Int) := matchGo ar t p 0 (fun _ => [])
def matchOk (ar p t : List Int) : Bool := matchOk0 ar p t && (matchR ar p t).isSome
def matchAns (ar p t : List Int) : List (List Int) := if matchOk0 ar p t then (match matchR ar p t with | some F => substL F | none => []) else []
theorem match_no0 {ar p t : List Int} (h : matchOk0 ar p t = false) : matchAns ar p t = [] ∧ matchOk ar p t = false := by simp [matchAns, matchOk, h]
theorem match_no {ar p t : List Int} (h : matchR ar p t = none) : matchAns ar p t = [] ∧ matchOk ar p t = false := by
  unfold matchAns matchOk
  rw [h]
  simp
theorem match_yes {ar p t : List Int} {F : Nat → List Int} (h0 : matchOk0 ar p t = true) (h : matchR ar p t = some F) : matchAns ar p t = substL F ∧ matchOk ar p t = true := by
  unfold matchAns matchOk
  rw [h, h0]
  simp
/-- The terms found are not long. -/
theorem mg_len {ar t : List Int} (ht : okTerm ar t = true) (p0 : List Int) : ∀ (k i j : Nat) (F G : Nat → List Int), k = p0.length - i → i ≤ p0.length → Pair2 ar p0 t i j → (∀ v, (F v).length ≤ 40) → matchGo ar t (p0.drop i) j F = some G → ∀ v, (G v).length ≤ 40 := by
  intro k
  induction k with
  | zero =>
    intro i j F G hk hi hP hF h
    rw [List.drop_eq_nil_of_le (by omega), matchGo] at h
    simp at h
    rw [← h]; exact hF
  | succ k ih =>
    intro i j F G hk hi hP hF h
    have hlt : i < p0.length := by omega
    rw [drop_cons p0 i hlt] at h
    by_cases hn : 0 ≤ p0.getD i 0
    · by_cases he : t.getD j 0 = p0.getD i 0
      · rw [mg_sym hn he] at h
        exact ih (i+1) (j+1) F G (by omega) (by omega) (hP.sym hlt he) hF h
      · rw [mg_symno hn he] at h; simp at h
    · obtain ⟨e, h1, h2, h3, h4⟩ := hP.var hlt (by omega)
      by_cases hc : F (-1 - p0.getD i 0).toNat = [] ∨ F (-1 - p0.getD i 0).toNat = partOf t j e
      · rw [mg_var hn h1 hc] at h
        refine ih (i+1) e _ G (by omega) (by omega) h4 (fun v => ?_) h
        unfold upd
        split
        · rw [partOf_len t j e h3]; have := ((okTerm_iff _ _).1 ht).2.1; omega
        · exact hF v
      · rw [mg_varno hn h1 hc] at h; simp at h
theorem matchAns_len (ar p t : List Int) : tot (matchAns ar p t) ≤ 1048576 := by
  unfold matchAns
  split
  · rename_i h0
    simp only [matchOk0, Bool.and_eq_true] at h0
    have hp := (goodTerm_iff.1 h0.1).2
    cases h : matchR ar p t with
    | none => simp [tot, sumL]
    | some F =>
      have := mg_len h0.2 p p.length 0 0 (fun _ => []) F (by omega) (by omega) (Pair2.start hp h0.2) (by simp) (by simpa [matchR] using h)
      exact substL_tot F (fun v _ => this v)
  · simp [tot, sumL]
end Go.Proofs.Ytcgjdgpdbehikaa
end
section
/- Match: the reference's. -/
namespace Go.Proofs.Ytcgjdgpdbehikaa
open Go.RowKit Go.Maps

def rawL (F : Nat → List Int) : List (List Int) := (List.range 12).map F
theorem rawL_len (F : Nat → List Int) : (rawL F).length = 12 := by simp [rawL]
theorem rawL_get (F : Nat → List Int) (v : Nat) (hv : v < 12) : (rawL F).getD v [] = F v := by simp [rawL, List.getD, hv]
theorem rawL_set (F : Nat → List Int) (v : Nat) (hv : v < 12) (x : List Int) : (rawL F).set v x = rawL (upd F v x) := by
  apply List.ext_getElem?
  intro i
  rw [List.getElem?_set]
  unfold rawL upd
  by_cases e : v = i
  · subst e; simp [hv]
  · by_cases hi : i < 12
    · have h1 : (List.range 12)[i]? = some i := by simp [hi]
      rw [if_neg e, List.getElem?_map, List.getElem?_map, h1]
      simp only [Option.map_some]
      rw [if_neg (Ne.symm e)]
    · rw [if_neg e, List.getElem?_eq_none (by simp; omega), List.getElem?_eq_none (by simp; omega)]
/-- The array of the terms found, in block B. -/
def Arr (base B : Nat) (tag : Nat → Nat) (w : World) (us : List Value) (F : Nat → List Int) : Prop :=
  us.length = 12 ∧ OwnT base tag 2 22 w (.slice (some ⟨B, 0, none⟩) 12 12) us ∧ InT base tag 3 w us (rawL F)
theorem Arr.bel {base B : Nat} {tag : Nat → Nat} {w w' : World} {us : List Value} {F : Nat → List Int} (h : Arr base B tag w us F) (hb : Bel w w') : Arr base B tag w' us F := ⟨h.1, h.2.1.bel hb, h.2.2.bel hb⟩
theorem Arr.all {base B : Nat} {tag tag' : Nat → Nat} {w w' : World} {us : List Value} {F : Nat → List Int} (h : Arr base B tag w us F) (k : ∀ t' e' u zs, OwnT base tag t' e' w u zs → OwnT base tag' t' e' w' u zs) : Arr base B tag' w' us F := ⟨h.1, k _ _ _ _ h.2.1, h.2.2.all k⟩
theorem Arr.cell {base B : Nat} {tag : Nat → Nat} {w : World} {us : List Value} {F : Nat → List Int} (h : Arr base B tag w us F) (v : Nat) (hv : v < 12) :
    ∃ a c, w.cell? ⟨B, v, none⟩ = some (.slice a (F v).length c) ∧ us[v]? = some (.slice a (F v).length c) ∧ w.frozen? ⟨B, v, none⟩ = false ∧ OwnT base tag (10 + v) 3 w (.slice a (F v).length c) ((F v).map (Value.int .i64)) := by
  obtain ⟨hl, hO, hI⟩ := h
  have hOr := hO.1
  rw [hl] at hOr
  have hu : us[v]? = some us[v] := List.getElem?_eq_getElem (by omega)
  have hi := hI.2 v _ hu
  rw [rawL_get F v hv] at hi
  obtain ⟨a, n, c, e⟩ := own_form hi.1
  rw [e] at hi hu
  have hn := row_len hi.1
  rw [List.length_map] at hn
  subst hn
  exact ⟨a, c, (hOr.cellAt v (by omega)).trans hu, hu, hOr.frozenAt v, hi⟩
theorem Arr.set {base B : Nat} {tag tag' : Nat → Nat} {w w' : World} {us : List Value} {F : Nat → List Int} {x : List Int} {u : Value} (h : Arr base B tag w us F) (v : Nat) (hv : v < 12)
    (hall : ∀ t' e' u zs, OwnT base tag t' e' w u zs → OwnT base tag' t' e' w' u zs) (hu : OwnT base tag' (10 + v) 3 w' u (x.map (Value.int .i64))) : Arr base B tag' (w'.setCell ⟨B, v, none⟩ u) (us.set v u) (upd F v x) := by
  obtain ⟨hl, hO, hI⟩ := h
  have hst := tag_store (hall _ _ _ _ hO) v u
  refine ⟨by simpa using hl, hst.1, ?_⟩
  rw [← rawL_set F v hv]
  exact (hI.put v (by omega) hall hu).step (by omega) hst.2
theorem Arr.fresh {base B : Nat} {tag : Nat → Nat} {w : World} (h : OwnT base tag 2 22 w (.slice (some ⟨B, 0, none⟩) 12 12) (List.replicate 12 (Value.slice none 0 0))) : Arr base B tag w (List.replicate 12 (Value.slice none 0 0)) (fun _ => []) := by
  refine ⟨by simp, h, by simp [rawL], fun j u hj => ?_⟩
  have hlt := (List.getElem?_eq_some_iff.1 hj).1
  rw [List.getElem?_replicate, if_pos (by simpa using hlt)] at hj
  simp at hj
  subst hj
  rw [show (rawL (fun _ => [])).getD j [] = [] from by rw [rawL_get _ _ (by simpa using hlt)]]
  exact OwnT.nil _ _ _ _ _
def RetL2 (base B : Nat) (R : Option (Nat → List Int)) (w : World) (e : Ending) (w' : World) : Prop :=
  Chg B (B+1) w w' ∧ match R with
    | none => e = .returned (.tuple #[.slice none 0 0, .bool false])
    | some F => e = .returned (.tuple #[.slice (some ⟨B, 0, none⟩) 12 12, .bool true]) ∧ ∃ tag us, Arr base B tag w' us F

end Go.Proofs.Ytcgjdgpdbehikaa
end
section
/- Rows of terms, parts, instances: what needs no more than that. No program. -/
namespace Go.Proofs.Ytcgjdgpdbehikaa
open Go.RowKit

/-- A row of k terms. -/
def seqT (ar : List Int) (k : Nat) (r : List Int) : Prop := endGo ar r k 0 = some r.length
theorem seqT_nil {ar : List Int} {k : Nat} (h : seqT ar k []) : k = 0 := by
  cases k with
  | zero => rfl
  | succ k => simp [seqT, endGo_nil] at h
theorem seqT_zero {ar r : List Int} (h : seqT ar 0 r) : r = [] := by
  unfold seqT at h
  rw [endGo_zero] at h
  simp at h
  exact List.length_eq_zero_iff.1 h.symm
theorem seqT_cons {ar : List Int} {k : Nat} {x : Int} {r : List Int} : seqT ar (k+1) (x :: r) ↔ okSym ar x = true ∧ seqT ar (k + arOf ar x) r := by
  unfold seqT
  rw [endGo_cons]
  constructor
  · intro h
    split at h
    · rename_i hs
      refine ⟨hs, ?_⟩
      have := endGo_shift ar r (k + arOf ar x) 0 1
      rw [Nat.zero_add] at this
      rw [Nat.zero_add, this] at h
      cases h2 : endGo ar r (k + arOf ar x) 0 with
      | none => rw [h2] at h; simp at h
      | some e => rw [h2] at h; simp at h; rw [h]
    · simp at h
  · rintro ⟨hs, h⟩
    rw [if_pos hs]
    have := endGo_shift ar r (k + arOf ar x) 0 1
    rw [Nat.zero_add] at this
    rw [Nat.zero_add, this, h]
    simp
theorem seqT_append {ar : List Int} : ∀ {r s : List Int} {a b : Nat}, seqT ar a r → seqT ar b s → seqT ar (a + b) (r ++ s) := by
  intro r
  induction r with
  | nil => intro s a b h1 h2; rw [seqT_nil h1, Nat.zero_add]; exact h2
  | cons x r ih =>
    intro s a b h1 h2
    cases a with
    | zero => have := seqT_zero h1; simp at this
    | succ a =>
      obtain ⟨hs, h1⟩ := seqT_cons.1 h1
      rw [List.cons_append, Nat.succ_add]
      refine seqT_cons.2 ⟨hs, ?_⟩
      have := ih h1 h2
      rwa [show a + b + arOf ar x = a + arOf ar x + b by omega]
theorem seq_prefix {ar : List Int} : ∀ {a b r s : List Int} {k : Nat}, seqT ar k a → seqT ar k b → a ++ r = b ++ s → a = b
  | [], b, _, _, k, ha, hb, _ => by rw [seqT_nil ha] at hb; exact (seqT_zero hb).symm
  | x :: a, b, r, s, k, ha, hb, e => by
    cases k with
    | zero => have := seqT_zero ha; simp at this
    | succ k =>
      cases b with
      | nil => have := seqT_nil hb; omega
      | cons y b =>
        rw [List.cons_append, List.cons_append, List.cons.injEq] at e
        obtain ⟨rfl, e⟩ := e
        rw [seq_prefix (seqT_cons.1 ha).2 (seqT_cons.1 hb).2 e]
theorem appT_append (V : List (List Int)) (s t : List Int) : appT V (s ++ t) = appT V s ++ appT V t := by simp [appT]
theorem appT_one (V : List (List Int)) (n : Int) : appT V [n] = one1 V n := by simp [appT]
theorem part_split {t : List Int} {p q e : Nat} (h1 : p ≤ q) (h2 : q ≤ e) : partOf t p e = partOf t p q ++ partOf t q e := by
  unfold partOf
  rw [show e - p = (q - p) + (e - q) by omega, List.take_add, List.drop_drop, show p + (q - p) = q by omega]
end Go.Proofs.Ytcgjdgpdbehikaa
end
section
/- Unify: what is found. -/
namespace Go.Proofs.Ytcgjdgpdbehikaa
open Go.RowKit Go.Maps

theorem okTerm_seq {ar t : List Int} : okTerm ar t = true ↔ t.length ≤ 40 ∧ seqT ar 1 t := by
  rw [okTerm_iff]
  unfold endOf seqT
  rw [List.drop_zero]
  constructor
  · exact fun h => h.2
  · intro h
    refine ⟨?_, h⟩
    have := endGo_gt ar t 0 0 t.length h.2
    omega
theorem okTerm_long {ar t : List Int} (h : 40 < t.length) : okTerm ar t = false := by
  cases h2 : okTerm ar t with
  | false => rfl
  | true => have := ((okTerm_iff _ _).1 h2).2.1; omega

def putFor (n : Int) (u t : List Int) : List Int := t.flatMap fun m => if m = n then u else [m]
theorem putFor_nil (n : Int) (u : List Int) : putFor n u [] = [] := rfl
theorem putFor_cons (n : Int) (u : List Int) (m : Int) (t : List Int) : putFor n u (m :: t) = (if m = n then u else [m]) ++ putFor n u t := by simp [putFor]
theorem putFor_append (n : Int) (u s t : List Int) : putFor n u (s ++ t) = putFor n u s ++ putFor n u t := by simp [putFor]
theorem putFor_not {n : Int} {u t : List Int} (h : n ∉ t) : putFor n u t = t := by
  induction t with
  | nil => rfl
  | cons m t ih =>
    simp at h
    rw [putFor_cons, if_neg (Ne.symm h.1), ih h.2]; rfl
theorem putFor_mem {n k : Int} {u t : List Int} (h : k ∈ putFor n u t) : k ∈ u ∨ (k ∈ t ∧ k ≠ n) := by
  unfold putFor at h
  rw [List.mem_flatMap] at h
  obtain ⟨m, hm, hk⟩ := h
  split at hk
  · exact .inl hk
  · rename_i hne
    simp at hk; subst hk; exact .inr ⟨hm, hne⟩
theorem putFor_ne {n : Int} {u t : List Int} (hu : u ≠ []) (ht : t ≠ []) : putFor n u t ≠ [] := by
  cases t with
  | nil => exact absurd rfl ht
  | cons m t => rw [putFor_cons]; split <;> simp [hu]
theorem putFor_seq {ar : List Int} {n : Int} {u : List Int} (hn : n < 0) (hu : seqT ar 1 u) : ∀ {t : List Int} {k : Nat}, seqT ar k t → seqT ar k (putFor n u t) := by
  intro t
  induction t with
  | nil => intro k h; exact h
  | cons m t ih =>
    intro k h
    cases k with
    | zero => have := seqT_zero h; simp at this
    | succ k =>
      obtain ⟨hs, h1⟩ := seqT_cons.1 h
      rw [putFor_cons]
      split
      · rename_i e
        subst e
        rw [arOf_neg hn] at h1
        have := seqT_append hu (ih h1)
        rwa [show 1 + (k + 0) = k + 1 by omega] at this
      · exact seqT_cons.2 ⟨hs, ih h1⟩
theorem putFor_len {n : Int} {u t : List Int} {c : Nat} (hu : u.length ≤ c) (hc : 1 ≤ c) : (putFor n u t).length ≤ c * t.length := by
  induction t with
  | nil => simp [putFor_nil]
  | cons m t ih =>
    rw [putFor_cons, List.length_append, List.length_cons, Nat.mul_succ]
    have : (if m = n then u else [m]).length ≤ c := by
      split
      · exact hu
      · simpa using hc
    omega
theorem putFor_infix {n : Int} {u s t : List Int} (h : s <:+: t) : putFor n u s <:+: putFor n u t := by
  obtain ⟨a, b, e⟩ := h
  exact ⟨putFor n u a, putFor n u b, by rw [← putFor_append, ← putFor_append, e]⟩

/-- The first index at which two rows differ. -/
def dif : List Int → List Int → Nat
  | a :: r, b :: s => if a = b then dif r s + 1 else 0
  | _, _ => 0
theorem dif_same : ∀ (t : List Int), dif t t = t.length
  | [] => rfl
  | a :: r => by rw [dif, if_pos rfl, dif_same r]; rfl
theorem dif_before : ∀ (x y : List Int) (i : Nat), i < dif x y → i < x.length ∧ i < y.length ∧ x.getD i 0 = y.getD i 0 := by
  intro x
  induction x with
  | nil => intro y i h; simp [dif] at h
  | cons a r ih =>
    intro y i h
    cases y with
    | nil => simp [dif] at h
    | cons b s =>
      rw [dif] at h
      split at h
      · rename_i e
        subst e
        cases i with
        | zero => simp
        | succ i =>
          obtain ⟨h1, h2, h3⟩ := ih s i (by omega)
          exact ⟨by simp; omega, by simp; omega, by simpa using h3⟩
      · omega
theorem dif_at {ar : List Int} : ∀ {x y : List Int} {k : Nat}, seqT ar k x → seqT ar k y → x ≠ y → dif x y < x.length ∧ dif x y < y.length ∧ x.getD (dif x y) 0 ≠ y.getD (dif x y) 0 := by
  intro x
  induction x with
  | nil =>
    intro y k h1 h2 hne
    rw [seqT_nil h1] at h2
    exact absurd (seqT_zero h2).symm hne
  | cons a r ih =>
    intro y k h1 h2 hne
    cases k with
    | zero => have := seqT_zero h1; simp at this
    | succ k =>
      cases y with
      | nil => have := seqT_nil h2; omega
      | cons b s =>
        rw [dif]
        by_cases e : a = b
        · subst e
          rw [if_pos rfl]
          obtain ⟨-, h1⟩ := seqT_cons.1 h1
          obtain ⟨-, h2⟩ := seqT_cons.1 h2
          obtain ⟨a1, a2, a3⟩ := ih h1 h2 (by intro e; exact hne (by rw [e]))
          exact ⟨by simp; omega, by simp; omega, by simpa using a3⟩
        · rw [if_neg e]
          exact ⟨by simp, by simp, by simpa using e⟩

/-- The integer of the variable that is replaced, and the row with its term. -/
def lowN (x y : List Int) : Int := if y.getD (dif x y) 0 < x.getD (dif x y) 0 then y.getD (dif x y) 0 else x.getD (dif x y) 0
def other (x y : List Int) : List Int := if y.getD (dif x y) 0 < x.getD (dif x y) 0 then x else y
def putU (ar x y : List Int) : List Int := partOf (other x y) (dif x y) ((endOf ar (other x y) (dif x y)).getD 0)
def nextF (n : Int) (u : List Int) (F : Nat → List Int) : Nat → List Int := upd (fun v => putFor n u (F v)) (-1 - n).toNat u
def badU (ar x y : List Int) : Prop := 0 ≤ lowN x y ∨ lowN x y ∈ putU ar x y
instance (ar x y : List Int) : Decidable (badU ar x y) := by unfold badU; infer_instance
def longU (ar x y : List Int) : Prop := 40 < (putFor (lowN x y) (putU ar x y) x).length ∨ 40 < (putFor (lowN x y) (putU ar x y) y).length
instance (ar x y : List Int) : Decidable (longU ar x y) := by unfold longU; infer_instance
def uniGo (ar : List Int) : Nat → List Int → List Int → (Nat → List Int) → Option (Nat → List Int)
  | 0, _, _, _ => none
  | k+1, x, y, F =>
    if x = y then some F
    else if badU ar x y then none
    else if longU ar x y then none
    else uniGo ar k (putFor (lowN x y) (putU ar x y) x) (putFor (lowN x y) (putU ar x y) y) (nextF (lowN x y) (putU ar x y) F)
theorem ug_same {ar x y : List Int} {k : Nat} {F : Nat → List Int} (h : x = y) : uniGo ar (k+1) x y F = some F := by rw [uniGo, if_pos h]
theorem ug_bad {ar x y : List Int} {k : Nat} {F : Nat → List Int} (h : x ≠ y) (hb : badU ar x y) : uniGo ar (k+1) x y F = none := by rw [uniGo, if_neg h, if_pos hb]
theorem ug_long {ar x y : List Int} {k : Nat} {F : Nat → List Int} (h : x ≠ y) (hb : ¬ badU ar x y) (hl : longU ar x y) : uniGo ar (k+1) x y F = none := by rw [uniGo, if_neg h, if_neg hb, if_pos hl]
theorem ug_next {ar x y : List Int} {k : Nat} {F : Nat → List Int} (h : x ≠ y) (hb : ¬ badU ar x y) (hl : ¬ longU ar x y) : uniGo ar (k+1) x y F = uniGo ar k (putFor (lowN x y) (putU ar x y) x) (putFor (lowN x y) (putU ar x y) y) (nextF (lowN x y) (putU ar x y) F) := by rw [uniGo, if_neg h, if_neg hb, if_neg hl]

/-- How many variables are bound. -/
def cnt (F : Nat → List Int) : Nat → Nat
  | 0 => 0
  | k+1 => cnt F k + (if F k = [] then 0 else 1)
theorem cnt_le (F : Nat → List Int) : ∀ k, cnt F k ≤ k
  | 0 => Nat.le_refl _
  | k+1 => by have := cnt_le F k; rw [cnt]; split <;> omega
theorem cnt_same {F G : Nat → List Int} : ∀ {k : Nat}, (∀ v, v < k → (F v = [] ↔ G v = [])) → cnt F k = cnt G k
  | 0, _ => rfl
  | k+1, h => by
    rw [cnt, cnt, cnt_same (fun v hv => h v (by omega))]
    have := h k (Nat.lt_succ_self _)
    by_cases e : F k = []
    · rw [if_pos e, if_pos (this.1 e)]
    · rw [if_neg e, if_neg (fun h => e (this.2 h))]
theorem cnt_new {F G : Nat → List Int} {u : Nat} (hF : F u = []) (hG : G u ≠ []) (hs : ∀ v, v ≠ u → (F v = [] ↔ G v = [])) : ∀ {k : Nat}, u < k → cnt G k = cnt F k + 1
  | 0, h => by omega
  | k+1, h => by
    rw [cnt, cnt]
    by_cases e : u = k
    · subst e
      rw [if_pos hF, if_neg hG, cnt_same (fun v hv => (hs v (by omega)).symm)]
    · rw [cnt_new hF hG hs (k := k) (by omega)]
      have := hs k (Ne.symm e)
      by_cases e2 : F k = []
      · rw [if_pos e2, if_pos (this.1 e2)]
      · rw [if_neg e2, if_neg (fun h => e2 (this.2 h))]
theorem cnt_room {F : Nat → List Int} {u : Nat} (hF : F u = []) : ∀ {k : Nat}, u < k → cnt F k < k
  | 0, h => by omega
  | k+1, h => by
    rw [cnt]
    by_cases e : u = k
    · subst e; rw [if_pos hF]; have := cnt_le F u; omega
    · have := cnt_room hF (k := k) (by omega)
      split <;> omega

/-- What holds between two rounds. -/
structure UInv (ar a0 b0 x y : List Int) (F : Nat → List Int) : Prop where
  okx : okTerm ar x = true
  oky : okTerm ar y = true
  appx : x = appT (rawL F) a0
  appy : y = appT (rawL F) b0
  inf : ∀ v, F v ≠ [] → F v <:+: x ∨ F v <:+: y
  seq : ∀ v, F v ≠ [] → seqT ar 1 (F v)
  notx : ∀ v : Nat, F v ≠ [] → (-1 - (v : Int)) ∉ x
  noty : ∀ v : Nat, F v ≠ [] → (-1 - (v : Int)) ∉ y
  low : ∀ v, 12 ≤ v → F v = []
theorem UInv.len40 {ar a0 b0 x y : List Int} {F : Nat → List Int} (h : UInv ar a0 b0 x y F) (v : Nat) : (F v).length ≤ 40 := by
  by_cases e : F v = []
  · rw [e]; simp
  · have hx := (okTerm_seq.1 h.okx).1
    have hy := (okTerm_seq.1 h.oky).1
    rcases h.inf v e with h1 | h1
    · have := h1.length_le; omega
    · have := h1.length_le; omega
theorem UInv.stay {ar a0 b0 x y : List Int} {F : Nat → List Int} (h : UInv ar a0 b0 x y F) (v : Nat) : stayF F v = F v := by
  unfold stayF
  split
  · rename_i e
    have hne : F v ≠ [] := by rw [e]; simp
    rcases h.inf v hne with h1 | h1
    · exact absurd (h1.subset (by rw [e]; simp)) (h.notx v hne)
    · exact absurd (h1.subset (by rw [e]; simp)) (h.noty v hne)
  · rfl
theorem UInv.raw {ar a0 b0 x y : List Int} {F : Nat → List Int} (h : UInv ar a0 b0 x y F) : rawL F = substL F := by
  unfold rawL substL
  exact List.map_congr_left fun v _ => (h.stay v).symm
theorem appT_none (t : List Int) : appT (rawL fun _ => []) t = t := by
  induction t with
  | nil => rfl
  | cons n t ih =>
    have : one1 (rawL fun _ => []) n = [n] := by
      apply one1_free
      have : (rawL (fun _ => [])).getD (-1 - n).toNat [] = [] := by
        unfold rawL
        simp only [List.getD, List.getElem?_map]
        cases (List.range 12)[(-1 - n).toNat]? <;> rfl
      rw [this]; simp
    unfold appT at ih ⊢
    rw [List.flatMap_cons, this, ih]; rfl
theorem UInv.start {ar a b : List Int} (ha : okTerm ar a = true) (hb : okTerm ar b = true) : UInv ar a b a b (fun _ => []) :=
  ⟨ha, hb, (appT_none a).symm, (appT_none b).symm, fun _ h => absurd rfl h, fun _ h => absurd rfl h, fun _ h => absurd rfl h, fun _ h => absurd rfl h, fun _ _ => rfl⟩
end Go.Proofs.Ytcgjdgpdbehikaa
end
section
/- Unify: a round. -/
namespace Go.Proofs.Ytcgjdgpdbehikaa
open Go.RowKit Go.Maps

theorem getD_mem {t : List Int} {i : Nat} (h : i < t.length) : t.getD i 0 ∈ t := by
  rw [show t.getD i 0 = t[i] from by simp [List.getD, h]]; exact List.getElem_mem h
theorem partOf_infix (t : List Int) (i e : Nat) : partOf t i e <:+: t := (List.take_prefix _ _).isInfix.trans (List.drop_suffix _ _).isInfix
theorem rawL_getA {F : Nat → List Int} (h : ∀ v, 12 ≤ v → F v = []) (v : Nat) : (rawL F).getD v [] = F v := by
  rcases Nat.lt_or_ge v 12 with h1 | h1
  · exact rawL_get F v h1
  · rw [h v h1]
    unfold rawL
    simp only [List.getD]
    rw [List.getElem?_eq_none (by simp; omega)]
    rfl
theorem other_or (x y : List Int) : other x y = x ∨ other x y = y := by unfold other; split <;> simp

/-- What is known of a round that begins with two different terms. -/
structure URound (ar x y : List Int) (n : Int) (o u : List Int) (d e : Nat) : Prop where
  dx : d < x.length
  dy : d < y.length
  ne : x.getD d 0 ≠ y.getD d 0
  low : -12 ≤ n
  oo : okTerm ar o = true
  dd : d < o.length
  en : endOf ar o d = some e
  de : d < e
  eo : e ≤ o.length
  pu : u = partOf o d e
  ok : okTerm ar u = true
theorem uround {ar a0 b0 x y : List Int} {F : Nat → List Int} (h : UInv ar a0 b0 x y F) (hne : x ≠ y) : ∃ e, URound ar x y (lowN x y) (other x y) (putU ar x y) (dif x y) e := by
  obtain ⟨h1, h2, h3⟩ := dif_at (okTerm_seq.1 h.okx).2 (okTerm_seq.1 h.oky).2 hne
  have hoo : okTerm ar (other x y) = true := by rcases other_or x y with e | e <;> rw [e]; exact h.okx; exact h.oky
  have hdd : dif x y < (other x y).length := by rcases other_or x y with e | e <;> rw [e] <;> assumption
  obtain ⟨e, he, hde, heo⟩ := good_end ar _ hoo _ hdd
  have hpu : putU ar x y = partOf (other x y) (dif x y) e := by unfold putU; rw [he]; rfl
  refine ⟨e, h1, h2, h3, ?_, hoo, hdd, he, hde, heo, hpu, ?_⟩
  · have a1 := okTerm_low h.okx _ h1
    have a2 := okTerm_low h.oky _ h2
    unfold lowN; split <;> assumption
  · rw [hpu]; exact partOf_ok ar _ _ _ hoo hdd he

structure UOk (ar a0 b0 x y : List Int) (F : Nat → List Int) (n : Int) (u : List Int) : Prop where
  neg : n < 0
  lo : -12 ≤ n
  not : n ∉ u
  free : F (-1 - n).toNat = []
  u40 : u.length ≤ 40
  up : 0 < u.length
  lx : (putFor n u x).length ≤ 1600
  ly : (putFor n u y).length ≤ 1600
  lF : ∀ v, (nextF n u F v).length ≤ 1600
  ax : putFor n u x = appT (rawL (nextF n u F)) a0
  ay : putFor n u y = appT (rawL (nextF n u F)) b0
  sx : seqT ar 1 (putFor n u x)
  sy : seqT ar 1 (putFor n u y)
  next : ¬ longU ar x y → UInv ar a0 b0 (putFor n u x) (putFor n u y) (nextF n u F)
  more : cnt (nextF n u F) 12 = cnt F 12 + 1
theorem app_next {n : Int} {u : List Int} {F : Nat → List Int} (hn : n < 0) (hu : u ≠ []) (hF : F (-1 - n).toNat = []) (hlow : ∀ v, 12 ≤ v → F v = []) (hn12 : -12 ≤ n) (t : List Int) : putFor n u (appT (rawL F) t) = appT (rawL (nextF n u F)) t := by
  have hlow2 : ∀ v, 12 ≤ v → nextF n u F v = [] := by
    intro v hv
    unfold nextF
    rw [upd_other _ _ (by omega), hlow v hv]; rfl
  unfold appT
  induction t with
  | nil => rfl
  | cons m t ih =>
    rw [List.flatMap_cons, List.flatMap_cons, putFor_append, ih]
    congr 1
    by_cases hm : m < 0
    · by_cases e : m = n
      · subst e
        rw [one1_free (by rw [rawL_getA hlow, hF]; simp), one1_var hm (by rw [rawL_getA hlow2]; unfold nextF; rw [upd_same]; exact List.length_pos_iff.2 hu), rawL_getA hlow2]
        unfold nextF
        rw [upd_same, putFor_cons, if_pos rfl, putFor_nil, List.append_nil]
      · have hv : (-1 - m).toNat ≠ (-1 - n).toNat := by omega
        have hG : nextF n u F (-1 - m).toNat = putFor n u (F (-1 - m).toNat) := by unfold nextF; rw [upd_other _ _ hv]
        by_cases hE : F (-1 - m).toNat = []
        · rw [one1_free (by rw [rawL_getA hlow, hE]; simp), one1_free (by rw [rawL_getA hlow2, hG, hE]; simp [putFor_nil]), putFor_cons, if_neg e, putFor_nil]; rfl
        · rw [one1_var hm (by rw [rawL_getA hlow]; exact List.length_pos_iff.2 hE), one1_var hm (by rw [rawL_getA hlow2, hG]; exact List.length_pos_iff.2 (putFor_ne hu hE)), rawL_getA hlow, rawL_getA hlow2, hG]
    · rw [one1_sym hm, one1_sym hm, putFor_cons, if_neg (by omega), putFor_nil]; rfl
theorem uok {ar a0 b0 x y : List Int} {F : Nat → List Int} (h : UInv ar a0 b0 x y F) (hne : x ≠ y) (hb : ¬ badU ar x y) : UOk ar a0 b0 x y F (lowN x y) (putU ar x y) := by
  obtain ⟨e, hR⟩ := uround h hne
  have hnb : ¬ 0 ≤ lowN x y ∧ lowN x y ∉ putU ar x y := by unfold badU at hb; exact not_or.1 hb
  have hmem : lowN x y ∈ x ∨ lowN x y ∈ y := by unfold lowN; split; exact .inr (getD_mem hR.dy); exact .inl (getD_mem hR.dx)
  have hlg : ¬ longU ar x y → (putFor (lowN x y) (putU ar x y) x).length ≤ 40 ∧ (putFor (lowN x y) (putU ar x y) y).length ≤ 40 := by unfold longU; omega
  have hsub : ∀ m, m ∈ putU ar x y → m ∈ x ∨ m ∈ y := by
    intro m hm
    rw [hR.pu] at hm
    have := (partOf_infix _ _ _).subset hm
    rcases other_or x y with e | e <;> rw [e] at this
    · exact .inl this
    · exact .inr this
  have hinf : putU ar x y <:+: x ∨ putU ar x y <:+: y := by
    have := partOf_infix (other x y) (dif x y) e
    rw [← hR.pu] at this
    rcases other_or x y with e | e <;> rw [e] at this
    · exact .inl this
    · exact .inr this
  have hlow := hR.low
  have hu := hR.ok
  clear hR hb hne
  generalize lowN x y = n at *
  generalize putU ar x y = u at *
  obtain ⟨hn, hnu⟩ := hnb
  have hn : n < 0 := by omega
  have hu40 := (okTerm_seq.1 hu).1
  have hup := ((okTerm_iff _ _).1 hu).1
  have hun : u ≠ [] := List.length_pos_iff.1 hup
  have hvn : (-1 - (((-1 - n).toNat : Nat) : Int)) = n := by omega
  have hfree : F (-1 - n).toNat = [] := by
    rcases Classical.em (F (-1 - n).toNat = []) with e | e
    · exact e
    · rcases hmem with h1 | h1
      · exact absurd (by rwa [hvn]) (h.notx _ e)
      · exact absurd (by rwa [hvn]) (h.noty _ e)
  have hx40 := (okTerm_seq.1 h.okx).1
  have hy40 := (okTerm_seq.1 h.oky).1
  have hlx : (putFor n u x).length ≤ 1600 := by have := putFor_len (n := n) (t := x) hu40 (by omega); omega
  have hly : (putFor n u y).length ≤ 1600 := by have := putFor_len (n := n) (t := y) hu40 (by omega); omega
  have hax : putFor n u x = appT (rawL (nextF n u F)) a0 := by rw [← app_next hn hun hfree h.low hlow, ← h.appx]
  have hay : putFor n u y = appT (rawL (nextF n u F)) b0 := by rw [← app_next hn hun hfree h.low hlow, ← h.appy]
  have hus := (okTerm_seq.1 hu).2
  have hsx := putFor_seq hn hus (okTerm_seq.1 h.okx).2
  have hsy := putFor_seq hn hus (okTerm_seq.1 h.oky).2
  have hnext : ∀ v, v ≠ (-1 - n).toNat → nextF n u F v = putFor n u (F v) := fun v hv => by unfold nextF; rw [upd_other _ _ hv]
  have hnew : nextF n u F (-1 - n).toNat = u := by unfold nextF; rw [upd_same]
  have hpe : ∀ v, v ≠ (-1 - n).toNat → (F v = [] ↔ nextF n u F v = []) := by
    intro v hv
    rw [hnext v hv]
    constructor
    · intro e; rw [e]; rfl
    · intro e
      rcases Classical.em (F v = []) with e2 | e2
      · exact e2
      · exact absurd e (putFor_ne hun e2)
  refine ⟨hn, hlow, hnu, hfree, hu40, hup, hlx, hly, ?_, hax, hay, hsx, hsy, ?_, ?_⟩
  · intro v
    by_cases e : v = (-1 - n).toNat
    · rw [e, hnew]; omega
    · rw [hnext v e]
      have := putFor_len (n := n) (t := F v) hu40 (by omega)
      have := h.len40 v
      omega
  · intro hl
    obtain ⟨hl1, hl2⟩ := hlg hl
    refine ⟨okTerm_seq.2 ⟨by omega, hsx⟩, okTerm_seq.2 ⟨by omega, hsy⟩, hax, hay, ?_, ?_, ?_, ?_, ?_⟩
    · intro v hv
      by_cases e : v = (-1 - n).toNat
      · rw [e, hnew]
        rcases hinf with h1 | h1
        · left; have := putFor_infix (n := n) (u := u) h1; rwa [putFor_not hnu] at this
        · right; have := putFor_infix (n := n) (u := u) h1; rwa [putFor_not hnu] at this
      · rw [hnext v e]
        exact (h.inf v (fun h => hv ((hpe v e).1 h))).imp putFor_infix putFor_infix
    · intro v hv
      by_cases e : v = (-1 - n).toNat
      · rw [e, hnew]; exact hus
      · rw [hnext v e]; exact putFor_seq hn hus (h.seq v (fun h => hv ((hpe v e).1 h)))
    · intro v hv hm
      by_cases e : v = (-1 - n).toNat
      · rw [e, hvn] at hm
        rcases putFor_mem hm with h1 | h1
        · exact hnu h1
        · exact h1.2 rfl
      · have hv2 : F v ≠ [] := fun h => hv ((hpe v e).1 h)
        rcases putFor_mem hm with h1 | h1
        · rcases hsub _ h1 with h2 | h2
          · exact h.notx v hv2 h2
          · exact h.noty v hv2 h2
        · exact h.notx v hv2 h1.1
    · intro v hv hm
      by_cases e : v = (-1 - n).toNat
      · rw [e, hvn] at hm
        rcases putFor_mem hm with h1 | h1
        · exact hnu h1
        · exact h1.2 rfl
      · have hv2 : F v ≠ [] := fun h => hv ((hpe v e).1 h)
        rcases putFor_mem hm with h1 | h1
        · rcases hsub _ h1 with h2 | h2
          · exact h.notx v hv2 h2
          · exact h.noty v hv2 h2
        · exact h.noty v hv2 h1.1
    · intro v hv
      rw [hnext v (by omega), h.low v hv]; rfl
  · exact cnt_new hfree (by rw [hnew]; exact hun) hpe (by omega)

def uniOk0 (ar a b : List Int) : Bool := goodTerm ar a && okTerm ar b
def uniR (ar a b : List Int) : Option (Nat → List Int) := uniGo ar 13 a b (fun _ => [])
def unifyOk (ar a b : List Int) : Bool := uniOk0 ar a b && (uniR ar a b).isSome
def unifyAns (ar a b : List Int) : List (List Int) := if uniOk0 ar a b then (match uniR ar a b with | some F => substL F | none => []) else []
theorem unify_no0 {ar a b : List Int} (h : uniOk0 ar a b = false) : unifyAns ar a b = [] ∧ unifyOk ar a b = false := by simp [unifyAns, unifyOk, h]
theorem unify_no {ar a b : List Int} (h : uniR ar a b = none) : unifyAns ar a b = [] ∧ unifyOk ar a b = false := by
  unfold unifyAns unifyOk
  rw [h]
  simp
theorem unify_yes {ar a b : List Int} {F : Nat → List Int} (h0 : uniOk0 ar a b = true) (h : uniR ar a b = some F) : unifyAns ar a b = substL F ∧ unifyOk ar a b = true := by
  unfold unifyAns unifyOk
  rw [h, h0]
  simp
theorem ug_len {ar a0 b0 : List Int} : ∀ (k : Nat) (x y : List Int) (F G : Nat → List Int), UInv ar a0 b0 x y F → uniGo ar k x y F = some G → ∀ v, (G v).length ≤ 40 := by
  intro k
  induction k with
  | zero => intro x y F G h e; simp [uniGo] at e
  | succ k ih =>
    intro x y F G h e
    by_cases h1 : x = y
    · rw [ug_same h1] at e
      simp at e
      rw [← e]; exact h.len40
    · by_cases h2 : badU ar x y
      · rw [ug_bad h1 h2] at e; simp at e
      · by_cases h3 : longU ar x y
        · rw [ug_long h1 h2 h3] at e; simp at e
        · rw [ug_next h1 h2 h3] at e
          exact ih _ _ _ _ ((uok h h1 h2).next h3) e
theorem unifyAns_len (ar a b : List Int) : tot (unifyAns ar a b) ≤ 1048576 := by
  unfold unifyAns
  split
  · rename_i h0
    simp only [uniOk0, Bool.and_eq_true] at h0
    have hp := (goodTerm_iff.1 h0.1).2
    cases h : uniR ar a b with
    | none => simp [tot, sumL]
    | some F =>
      have := ug_len 13 a b _ F (UInv.start hp h0.2) (by simpa [uniR] using h)
      exact substL_tot F (fun v _ => this v)
  · simp [tot, sumL]
end Go.Proofs.Ytcgjdgpdbehikaa
end
section
/- Match: the reference's. -/
namespace Go.Proofs.Ytcgjdgpdbehikaa
open Go.RowKit Go.Maps

/-- The first k have been taken back where they bind a variable to itself. -/
def mixF (F : Nat → List Int) (k : Nat) : Nat → List Int := fun v => if v < k then stayF F v else F v
theorem mixF_zero (F : Nat → List Int) : mixF F 0 = F := by funext v; simp [mixF]
theorem mixF_succ (F : Nat → List Int) (k : Nat) : upd (mixF F k) k (stayF F k) = mixF F (k+1) := by
  funext v
  unfold upd mixF
  by_cases e : v = k
  · subst e; simp
  · by_cases h : v < k
    · rw [if_neg e, if_pos h, if_pos (by omega)]
    · rw [if_neg e, if_neg h, if_neg (by omega)]
theorem mixF_at (F : Nat → List Int) (k : Nat) : mixF F k k = F k := by simp [mixF]
theorem rawL_mix (F : Nat → List Int) : rawL (mixF F 12) = substL F := by
  unfold rawL substL
  apply List.map_congr_left
  intro v hv
  rw [List.mem_range] at hv
  simp [mixF, hv]
theorem made12 (w : World) : (Instr.makeSlice 51 (.int .i64 12) (.int .i64 12)).run Try.prog w = .ok (.slice (some ⟨w.heap.size, 0, none⟩) 12 12) (w.alloc (.cells (madeCells #[.slice none 0 0] 12) 22)) :=
  Go.run_make_row' 51 22 (.slice none 0 0) 24 Try.underlying51 Try.info22 rfl .i64 .i64 12 (by omega) (by omega) w
theorem rep12 (w : World) : (w.alloc (.cells (madeCells #[.slice none 0 0] 12) 22)).ownsRow w.heap.size 22 1 (.slice (some ⟨w.heap.size, 0, none⟩) 12 12) 12 (List.replicate 12 (Value.slice none 0 0)) := by
  have h := World.ownsRow_lit (e := 22) (base := w.heap.size) (size := 1) w (madeCells #[.slice none 0 0] 12) 12 (Nat.le_refl _) (by unfold maxLen; omega) (by rw [← Array.length_toList, toList_madeCells_one]; simp)
  rw [toList_madeCells_one] at h
  exact h
theorem arr12 {w w' : World} {base B : Nat} (hb : base ≤ w.heap.size) (hB : B = w.heap.size) (hw : Bel (w.alloc (.cells (madeCells #[.slice none 0 0] 12) 22)) w') :
    Arr base B (fun _ => 2) w' (List.replicate 12 (Value.slice none 0 0)) (fun _ => []) := by
  subst hB
  exact Arr.fresh ((show OwnT base (fun _ => 2) 2 22 (w.alloc (.cells (madeCells #[.slice none 0 0] 12) 22)) (.slice (some ⟨w.heap.size, 0, none⟩) 12 12) (List.replicate 12 (Value.slice none 0 0)) from ⟨by simpa using row_mono (rep12 w) hb, fun _ _ => rfl⟩).bel hw)

end Go.Proofs.Ytcgjdgpdbehikaa
end
section
/- Unify: the reference's inner functions. -/
namespace Go.Proofs.Ytcgjdgpdbehikaa
open Go.RowKit Go.Maps

def sizesOk (ar : List Int) (b : List (List Int)) (x y : List Int) : Bool := b.all (okEmpty ar) && okTerm ar x && okTerm ar y

/-- The substitution of one term. -/
def oneF (v : Nat) (t : List Int) : Nat → List Int := upd (fun _ => []) v t
theorem oneF_get (v : Nat) (t : List Int) (hv : v < 12) (j : Nat) : (rawL (oneF v t)).getD j [] = if j = v then t else [] := by
  rw [rawL_getA (fun k hk => by unfold oneF; rw [upd_other _ _ (by omega)])]
  unfold oneF upd
  rfl
theorem oneF_app {v : Nat} {t : List Int} (hv : v < 12) (ht : 0 < t.length) (s : List Int) : appT (rawL (oneF v t)) s = putFor (-1 - (v : Int)) t s := by
  unfold appT putFor
  congr 1
  funext m
  by_cases hm : m < 0
  · by_cases e : m = -1 - (v : Int)
    · have e2 : (-1 - m).toNat = v := by omega
      rw [if_pos e, one1_var hm (by rw [oneF_get v t hv, e2, if_pos rfl]; exact ht), oneF_get v t hv, e2, if_pos rfl]
    · have e2 : (-1 - m).toNat ≠ v := by omega
      rw [if_neg e, one1_free (by rw [oneF_get v t hv, if_neg e2]; simp)]
  · rw [if_neg (by omega), one1_sym hm]
theorem oneF_lens {v : Nat} {t : List Int} (hv : v < 12) (ht : t.length ≤ 40) : lens40 (rawL (oneF v t)) := by
  intro j _
  rw [oneF_get v t hv]
  split <;> simp [ht]
theorem one_sls (w : World) (l h v : Nat) (x : Value) (t : List Int) (hv : v < 12) (hx : SlI l h w x t) (hp : 0 < t.length) :
    SlS 0 (w.heap.size + 1) ((w.alloc (.cells (madeCells #[.slice none 0 0] 12) 22)).setCell ⟨w.heap.size, v, none⟩ x) (.slice (some ⟨w.heap.size, 0, none⟩) 12 12) (rawL (oneF v t)) := by
  have hr := ((rep12 w).stored v x).1
  refine ⟨_, 12, by rw [rawL_len], by rw [rawL_len]; exact Nat.le_refl _, ⟨by unfold maxLen; omega, fun h => by simp at h⟩, fun _ => ⟨w.heap.size, 0, rfl, Nat.zero_le _, Nat.lt_succ_self _, fun j hj => ?_⟩⟩
  rw [rawL_len] at hj
  have hc := hr.cellAt j (by omega)
  rw [Nat.zero_add, hc, List.getElem?_set, oneF_get v t hv]
  by_cases e : v = j
  · subst e
    rw [if_pos rfl, if_pos rfl, if_pos (by simpa using hv)]
    refine ⟨x, rfl, ?_⟩
    exact (((hx.in').alloc _).set (p := ⟨w.heap.size, v, none⟩) (.inr (Nat.le_refl _)) x).mono (Nat.zero_le _) (Nat.le_succ _)
  · rw [if_neg e, if_neg (Ne.symm e), List.getElem?_replicate, if_pos (by simpa using hj)]
    exact ⟨_, rfl, SlI.nil _ _ _⟩

/-- The same with longer terms. -/
def lensW (b : List (List Int)) : Prop := ∀ j, j < b.length → (b.getD j []).length ≤ 1600
theorem getD_lenW {b : List (List Int)} (h : lensW b) (j : Nat) : (b.getD j []).length ≤ 1600 := by
  rcases Nat.lt_or_ge j b.length with h1 | h1
  · exact h j h1
  · simp [List.getD, List.getElem?_eq_none h1]
theorem one1_lenW {b : List (List Int)} (h : lensW b) (n : Int) : (one1 b n).length ≤ 1600 := by
  unfold one1
  split
  · exact getD_lenW h _
  · simp
theorem appT_lenW {b : List (List Int)} (h : lensW b) (t : List Int) : (appT b t).length ≤ 1600 * t.length := by
  unfold appT
  induction t with
  | nil => simp
  | cons n t ih =>
    have := one1_lenW h n
    rw [List.flatMap_cons, List.length_append, List.length_cons]
    omega
theorem rawL_congr {F G : Nat → List Int} (h : ∀ v, v < 12 → F v = G v) : rawL F = rawL G := by
  unfold rawL
  apply List.map_congr_left
  intro v hv
  rw [List.mem_range] at hv
  exact h v hv
def RetOS (w : World) (F : Nat → List Int) (e : Ending) (w' : World) : Prop := ∃ g, e = .returned (.slice (some ⟨g, 0, none⟩) 12 12) ∧ OwnS w.heap.size w'.heap.size w' (.slice (some ⟨g, 0, none⟩) 12 12) (rawL F) ∧ Bel w w'
/-- What is laid up to index j. -/
def laidF (P : Nat → List Int) (j : Nat) : Nat → List Int := fun v => if v < j then P v else []
theorem laidF_zero (P : Nat → List Int) : laidF P 0 = fun _ => [] := by funext v; simp [laidF]
theorem laidF_succ (P : Nat → List Int) (j : Nat) : upd (laidF P j) j (P j) = laidF P (j+1) := by
  funext v
  unfold upd laidF
  by_cases e : v = j
  · subst e; simp
  · by_cases h : v < j
    · rw [if_neg e, if_pos h, if_pos (by omega)]
    · rw [if_neg e, if_neg h, if_neg (by omega)]
theorem laidF_none (P : Nat → List Int) (j : Nat) (h : P j = []) : laidF P j = laidF P (j+1) := by
  rw [← laidF_succ, h]
  funext v
  unfold upd
  split
  · rename_i e; subst e; simp [laidF]
  · rfl
end Go.Proofs.Ytcgjdgpdbehikaa
end
