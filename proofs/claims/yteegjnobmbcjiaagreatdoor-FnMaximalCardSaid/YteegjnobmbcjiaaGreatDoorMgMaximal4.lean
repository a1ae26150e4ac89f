/- Texts merged, part 4. -/
import Derived.Deep.RegionHeld3
import Derived.Test.YteegjnobmbcjiaaGreatDoorMgMaximal3
section
/- Rows of terms, parts, instances: what needs no more than that. No program. -/
namespace Go.Proofs.YteegjnobmbcjiaaGreatDoor
open Go.RowKit

/-- A row of k terms. -/
def seqT (ar : List Int) (k : Nat) (r : List Int) : Prop := endGo ar r k 0 = some r.length
theorem seqT_nil {ar : List Int} {k : Nat} (h : seqT ar k []) : k = 0 := by
  cases k with
  | zero => rfl
  | succ k => simp [seqT, endGo_nil] at h
theorem seqT_zero {ar r : List Int} (h : seqT ar 0 r) : r = [] := by
  unfold seqT at h
  rw [endGo_zero] at h
  simp at h
  exact List.length_eq_zero_iff.1 h.symm
theorem seqT_cons {ar : List Int} {k : Nat} {x : Int} {r : List Int} : seqT ar (k+1) (x :: r) ↔ okSym ar x = true ∧ seqT ar (k + arOf ar x) r := by
  unfold seqT
  rw [endGo_cons]
  constructor
  · intro h
    split at h
    · rename_i hs
      refine ⟨hs, ?_⟩
      have := endGo_shift ar r (k + arOf ar x) 0 1
      rw [Nat.zero_add] at this
      rw [Nat.zero_add, this] at h
      cases h2 : endGo ar r (k + arOf ar x) 0 with
      | none => rw [h2] at h; simp at h
      | some e => rw [h2] at h; simp at h; rw [h]
    · simp at h
  · rintro ⟨hs, h⟩
    rw [if_pos hs]
    have := endGo_shift ar r (k + arOf ar x) 0 1
    rw [Nat.zero_add] at this
    rw [Nat.zero_add, this, h]
    simp
theorem seqT_append {ar : List Int} : ∀ {r s : List Int} {a b : Nat}, seqT ar a r → seqT ar b s → seqT ar (a + b) (r ++ s) := by
  intro r
  induction r with
  | nil => intro s a b h1 h2; rw [seqT_nil h1, Nat.zero_add]; exact h2
  | cons x r ih =>
    intro s a b h1 h2
    cases a with
    | zero => have := seqT_zero h1; simp at this
    | succ a =>
      obtain ⟨hs, h1⟩ := seqT_cons.1 h1
      rw [List.cons_append, Nat.succ_add]
      refine seqT_cons.2 ⟨hs, ?_⟩
      have := ih h1 h2
      rwa [show a + b + arOf ar x = a + arOf ar x + b by omega]
theorem seq_prefix {ar : List Int} : ∀ {a b r s : List Int} {k : Nat}, seqT ar k a → seqT ar k b → a ++ r = b ++ s → a = b
  | [], b, _, _, k, ha, hb, _ => by rw [seqT_nil ha] at hb; exact (seqT_zero hb).symm
  | x :: a, b, r, s, k, ha, hb, e => by
    cases k with
    | zero => have := seqT_zero ha; simp at this
    | succ k =>
      cases b with
      | nil => have := seqT_nil hb; omega
      | cons y b =>
        rw [List.cons_append, List.cons_append, List.cons.injEq] at e
        obtain ⟨rfl, e⟩ := e
        rw [seq_prefix (seqT_cons.1 ha).2 (seqT_cons.1 hb).2 e]
theorem appT_append (V : List (List Int)) (s t : List Int) : appT V (s ++ t) = appT V s ++ appT V t := by simp [appT]
theorem appT_one (V : List (List Int)) (n : Int) : appT V [n] = one1 V n := by simp [appT]
theorem part_split {t : List Int} {p q e : Nat} (h1 : p ≤ q) (h2 : q ≤ e) : partOf t p e = partOf t p q ++ partOf t q e := by
  unfold partOf
  rw [show e - p = (q - p) + (e - q) by omega, List.take_add, List.drop_drop, show p + (q - p) = q by omega]
end Go.Proofs.YteegjnobmbcjiaaGreatDoor
end
section
/- Unify: what is found. -/
namespace Go.Proofs.YteegjnobmbcjiaaGreatDoor
open Go.RowKit Go.Maps

theorem okTerm_seq {ar t : List Int} : okTerm ar t = true ↔ t.length ≤ 40 ∧ seqT ar 1 t := by
  rw [okTerm_iff]
  unfold endOf seqT
  rw [List.drop_zero]
  constructor
  · exact fun h => h.2
  · intro h
    refine ⟨?_, h⟩
    have := endGo_gt ar t 0 0 t.length h.2
    omega
theorem okTerm_long {ar t : List Int} (h : 40 < t.length) : okTerm ar t = false := by
  cases h2 : okTerm ar t with
  | false => rfl
  | true => have := ((okTerm_iff _ _).1 h2).2.1; omega

def putFor (n : Int) (u t : List Int) : List Int := t.flatMap fun m => if m = n then u else [m]
theorem putFor_nil (n : Int) (u : List Int) : putFor n u [] = [] := rfl
theorem putFor_cons (n : Int) (u : List Int) (m : Int) (t : List Int) : putFor n u (m :: t) = (if m = n then u else [m]) ++ putFor n u t := by simp [putFor]
theorem putFor_append (n : Int) (u s t : List Int) : putFor n u (s ++ t) = putFor n u s ++ putFor n u t := by simp [putFor]
theorem putFor_not {n : Int} {u t : List Int} (h : n ∉ t) : putFor n u t = t := by
  induction t with
  | nil => rfl
  | cons m t ih =>
    simp at h
    rw [putFor_cons, if_neg (Ne.symm h.1), ih h.2]; rfl
theorem putFor_mem {n k : Int} {u t : List Int} (h : k ∈ putFor n u t) : k ∈ u ∨ (k ∈ t ∧ k ≠ n) := by
  unfold putFor at h
  rw [List.mem_flatMap] at h
  obtain ⟨m, hm, hk⟩ := h
  split at hk
  · exact .inl hk
  · rename_i hne
    simp at hk; subst hk; exact .inr ⟨hm, hne⟩
theorem putFor_ne {n : Int} {u t : List Int} (hu : u ≠ []) (ht : t ≠ []) : putFor n u t ≠ [] := by
  cases t with
  | nil => exact absurd rfl ht
  | cons m t => rw [putFor_cons]; split <;> simp [hu]
theorem putFor_seq {ar : List Int} {n : Int} {u : List Int} (hn : n < 0) (hu : seqT ar 1 u) : ∀ {t : List Int} {k : Nat}, seqT ar k t → seqT ar k (putFor n u t) := by
  intro t
  induction t with
  | nil => intro k h; exact h
  | cons m t ih =>
    intro k h
    cases k with
    | zero => have := seqT_zero h; simp at this
    | succ k =>
      obtain ⟨hs, h1⟩ := seqT_cons.1 h
      rw [putFor_cons]
      split
      · rename_i e
        subst e
        rw [arOf_neg hn] at h1
        have := seqT_append hu (ih h1)
        rwa [show 1 + (k + 0) = k + 1 by omega] at this
      · exact seqT_cons.2 ⟨hs, ih h1⟩
theorem putFor_len {n : Int} {u t : List Int} {c : Nat} (hu : u.length ≤ c) (hc : 1 ≤ c) : (putFor n u t).length ≤ c * t.length := by
  induction t with
  | nil => simp [putFor_nil]
  | cons m t ih =>
    rw [putFor_cons, List.length_append, List.length_cons, Nat.mul_succ]
    have : (if m = n then u else [m]).length ≤ c := by
      split
      · exact hu
      · simpa using hc
    omega
theorem putFor_infix {n : Int} {u s t : List Int} (h : s <:+: t) : putFor n u s <:+: putFor n u t := by
  obtain ⟨a, b, e⟩ := h
  exact ⟨putFor n u a, putFor n u b, by rw [← putFor_append, ← putFor_append, e]⟩

/-- The first index at which two rows differ. -/
def dif : List Int → List Int → Nat
  | a :: r, b :: s => if a = b then dif r s + 1 else 0
  | _, _ => 0
theorem dif_same : ∀ (t : List Int), dif t t = t.length
  | [] => rfl
  | a :: r => by rw [dif, if_pos rfl, dif_same r]; rfl
theorem dif_before : ∀ (x y : List Int) (i : Nat), i < dif x y → i < x.length ∧ i < y.length ∧ x.getD i 0 = y.getD i 0 := by
  intro x
  induction x with
  | nil => intro y i h; simp [dif] at h
  | cons a r ih =>
    intro y i h
    cases y with
    | nil => simp [dif] at h
    | cons b s =>
      rw [dif] at h
      split at h
      · rename_i e
        subst e
        cases i with
        | zero => simp
        | succ i =>
          obtain ⟨h1, h2, h3⟩ := ih s i (by omega)
          exact ⟨by simp; omega, by simp; omega, by simpa using h3⟩
      · omega
theorem dif_at {ar : List Int} : ∀ {x y : List Int} {k : Nat}, seqT ar k x → seqT ar k y → x ≠ y → dif x y < x.length ∧ dif x y < y.length ∧ x.getD (dif x y) 0 ≠ y.getD (dif x y) 0 := by
  intro x
  induction x with
  | nil =>
    intro y k h1 h2 hne
    rw [seqT_nil h1] at h2
    exact absurd (seqT_zero h2).symm hne
  | cons a r ih =>
    intro y k h1 h2 hne
    cases k with
    | zero => have := seqT_zero h1; simp at this
    | succ k =>
      cases y with
      | nil => have := seqT_nil h2; omega
      | cons b s =>
        rw [dif]
        by_cases e : a = b
        · subst e
          rw [if_pos rfl]
          obtain ⟨-, h1⟩ := seqT_cons.1 h1
          obtain ⟨-, h2⟩ := seqT_cons.1 h2
          obtain ⟨a1, a2, a3⟩ := ih h1 h2 (by intro e; exact hne (by rw [e]))
          exact ⟨by simp; omega, by simp; omega, by simpa using a3⟩
        · rw [if_neg e]
          exact ⟨by simp, by simp, by simpa using e⟩

/-- The integer of the variable that is replaced, and the row with its term. -/
def lowN (x y : List Int) : Int := if y.getD (dif x y) 0 < x.getD (dif x y) 0 then y.getD (dif x y) 0 else x.getD (dif x y) 0
def other (x y : List Int) : List Int := if y.getD (dif x y) 0 < x.getD (dif x y) 0 then x else y
def putU (ar x y : List Int) : List Int := partOf (other x y) (dif x y) ((endOf ar (other x y) (dif x y)).getD 0)
def nextF (n : Int) (u : List Int) (F : Nat → List Int) : Nat → List Int := upd (fun v => putFor n u (F v)) (-1 - n).toNat u
def badU (ar x y : List Int) : Prop := 0 ≤ lowN x y ∨ lowN x y ∈ putU ar x y
instance (ar x y : List Int) : Decidable (badU ar x y) := by unfold badU; infer_instance
def longU (ar x y : List Int) : Prop := 40 < (putFor (lowN x y) (putU ar x y) x).length ∨ 40 < (putFor (lowN x y) (putU ar x y) y).length
instance (ar x y : List Int) : Decidable (longU ar x y) := by unfold longU; infer_instance
def uniGo (ar : List Int) : Nat → List Int → List Int → (Nat → List Int) → Option (Nat → List Int)
  | 0, _, _, _ => none
  | k+1, x, y, F =>
    if x = y then some F
    else if badU ar x y then none
    else if longU ar x y then none
    else uniGo ar k (putFor (lowN x y) (putU ar x y) x) (putFor (lowN x y) (putU ar x y) y) (nextF (lowN x y) (putU ar x y) F)
theorem ug_same {ar x y : List Int} {k : Nat} {F : Nat → List Int} (h : x = y) : uniGo ar (k+1) x y F = some F := by rw [uniGo, if_pos h]
theorem ug_bad {ar x y : List Int} {k : Nat} {F : Nat → List Int} (h : x ≠ y) (hb : badU ar x y) : uniGo ar (k+1) x y F = none := by rw [uniGo, if_neg h, if_pos hb]
theorem ug_long {ar x y : List Int} {k : Nat} {F : Nat → List Int} (h : x ≠ y) (hb : ¬ badU ar x y) (hl : longU ar x y) : uniGo ar (k+1) x y F = none := by rw [uniGo, if_neg h, if_neg hb, if_pos hl]
theorem ug_next {ar x y : List Int} {k : Nat} {F : Nat → List Int} (h : x ≠ y) (hb : ¬ badU ar x y) (hl : ¬ longU ar x y) : uniGo ar (k+1) x y F = uniGo ar k (putFor (lowN x y) (putU ar x y) x) (putFor (lowN x y) (putU ar x y) y) (nextF (lowN x y) (putU ar x y) F) := by rw [uniGo, if_neg h, if_neg hb, if_neg hl]

/-- How many variables are bound. -/
def cnt (F : Nat → List Int) : Nat → Nat
  | 0 => 0
  | k+1 => cnt F k + (if F k = [] then 0 else 1)
theorem cnt_le (F : Nat → List Int) : ∀ k, cnt F k ≤ k
  | 0 => Nat.le_refl _
  | k+1 => by have := cnt_le F k; rw [cnt]; split <;> omega
theorem cnt_same {F G : Nat → List Int} : ∀ {k : Nat}, (∀ v, v < k → (F v = [] ↔ G v = [])) → cnt F k = cnt G k
  | 0, _ => rfl
  | k+1, h => by
    rw [cnt, cnt, cnt_same (fun v hv => h v (by omega))]
    have := h k (Nat.lt_succ_self _)
    by_cases e : F k = []
    · rw [if_pos e, if_pos (this.1 e)]
    · rw [if_neg e, if_neg (fun h => e (this.2 h))]
theorem cnt_new {F G : Nat → List Int} {u : Nat} (hF : F u = []) (hG : G u ≠ []) (hs : ∀ v, v ≠ u → (F v = [] ↔ G v = [])) : ∀ {k : Nat}, u < k → cnt G k = cnt F k + 1
  | 0, h => by omega
  | k+1, h => by
    rw [cnt, cnt]
    by_cases e : u = k
    · subst e
      rw [if_pos hF, if_neg hG, cnt_same (fun v hv => (hs v (by omega)).symm)]
    · rw [cnt_new hF hG hs (k := k) (by omega)]
      have := hs k (Ne.symm e)
      by_cases e2 : F k = []
      · rw [if_pos e2, if_pos (this.1 e2)]
      · rw [if_neg e2, if_neg (fun h => e2 (this.2 h))]
theorem cnt_room {F : Nat → List Int} {u : Nat} (hF : F u = []) : ∀ {k : Nat}, u < k → cnt F k < k
  | 0, h => by omega
  | k+1, h => by
    rw [cnt]
    by_cases e : u = k
    · subst e; rw [if_pos hF]; have := cnt_le F u; omega
    · have := cnt_room hF (k := k) (by omega)
      split <;> omega

/-- What holds between two rounds. -/
structure UInv (ar a0 b0 x y : List Int) (F : Nat → List Int) : Prop where
  okx : okTerm ar x = true
  oky : okTerm ar y = true
  appx : x = appT (rawL F) a0
  appy : y = appT (rawL F) b0
  inf : ∀ v, F v ≠ [] → F v <:+: x ∨ F v <:+: y
  seq : ∀ v, F v ≠ [] → seqT ar 1 (F v)
  notx : ∀ v : Nat, F v ≠ [] → (-1 - (v : Int)) ∉ x
  noty : ∀ v : Nat, F v ≠ [] → (-1 - (v : Int)) ∉ y
  low : ∀ v, 12 ≤ v → F v = []
theorem UInv.len40 {ar a0 b0 x y : List Int} {F : Nat → List Int} (h : UInv ar a0 b0 x y F) (v : Nat) : (F v).length ≤ 40 := by
  by_cases e : F v = []
  · rw [e]; simp
  · have hx := (okTerm_seq.1 h.okx).1
    have hy := (okTerm_seq.1 h.oky).1
    rcases h.inf v e with h1 | h1
    · have := h1.length_le; omega
    · have := h1.length_le; omega
theorem UInv.stay {ar a0 b0 x y : List Int} {F : Nat → List Int} (h : UInv ar a0 b0 x y F) (v : Nat) : stayF F v = F v := by
  unfold stayF
  split
  · rename_i e
    have hne : F v ≠ [] := by rw [e]; simp
    rcases h.inf v hne with h1 | h1
    · exact absurd (h1.subset (by rw [e]; simp)) (h.notx v hne)
    · exact absurd (h1.subset (by rw [e]; simp)) (h.noty v hne)
  · rfl
theorem UInv.raw {ar a0 b0 x y : List Int} {F : Nat → List Int} (h : UInv ar a0 b0 x y F) : rawL F = substL F := by
  unfold rawL substL
  exact List.map_congr_left fun v _ => (h.stay v).symm
theorem appT_none (t : List Int) : appT (rawL fun _ => []) t = t := by
  induction t with
  | nil => rfl
  | cons n t ih =>
    have : one1 (rawL fun _ => []) n = [n] := by
      apply one1_free
      have : (rawL (fun _ => [])).getD (-1 - n).toNat [] = [] := by
        unfold rawL
        simp only [List.getD, List.getElem?_map]
        cases (List.range 12)[(-1 - n).toNat]? <;> rfl
      rw [this]; simp
    unfold appT at ih ⊢
    rw [List.flatMap_cons, this, ih]; rfl
theorem UInv.start {ar a b : List Int} (ha : okTerm ar a = true) (hb : okTerm ar b = true) : UInv ar a b a b (fun _ => []) :=
  ⟨ha, hb, (appT_none a).symm, (appT_none b).symm, fun _ h => absurd rfl h, fun _ h => absurd rfl h, fun _ h => absurd rfl h, fun _ h => absurd rfl h, fun _ _ => rfl⟩
end Go.Proofs.YteegjnobmbcjiaaGreatDoor
end
section
/- The draws: a term. -/
namespace Go.Proofs.YteegjnobmbcjiaaGreatDoor
open Go.RowKit

theorem row_chg {w w' : World} {b base : Nat} {e : TypeId} {v : Value} {m : Nat} {xs : List Value} (h : w.ownsRow base e 1 v m xs) (hb : b < base) (k : Chg b (b+1) w w') : w'.ownsRow base e 1 v m xs := by
  refine ⟨h.1, ?_⟩
  rcases h.2 with h0 | ⟨g, cap, cur, e1, e2, hh, r⟩
  · exact .inl h0
  · exact .inr ⟨g, cap, cur, e1, e2, by rw [k.block g (Array.getElem?_eq_some_iff.1 hh).1 (by omega)]; exact hh, r⟩
theorem lit_row (w : World) (x : Int) : (w.alloc (.cells #[.int .i64 x] 3)).ownsRow w.heap.size 3 1 (.slice (some ⟨w.heap.size, 0, none⟩) 1 1) [x].length ([x].map (Value.int .i64)) :=
  World.ownsRow_lit w #[.int .i64 x] 1 (Nat.le_refl _) (by unfold maxLen; omega) rfl
theorem lit_row' (w : World) (x : Int) (B : Nat) (hB : B = w.heap.size) : (w.alloc (.cells #[.int .i64 x] 3)).ownsRow B 3 1 (.slice (some ⟨B, 0, none⟩) 1 1) [x].length ([x].map (Value.int .i64)) := hB ▸ lit_row w x
theorem drawn_len {ar : List Int} (h : drawn ar) : ar.length ≤ 6 := by rcases h with rfl | rfl | rfl | rfl <;> simp
theorem drawn_get {ar : List Int} (h : drawn ar) (n : Nat) : 0 ≤ ar.getD n 0 ∧ ar.getD n 0 ≤ 3 := by
  have hl := drawn_len h
  by_cases hn : n < ar.length
  · have : ∀ x ∈ ar, 0 ≤ x ∧ x ≤ 3 := by rcases h with rfl | rfl | rfl | rfl <;> simp
    exact this _ (by simp [List.getD, hn])
  · simp [List.getD, hn]
/-- How long a term of the draws may be, and how many bytes it may take. -/
def tl : Nat → Nat
  | 0 => 1
  | d + 1 => 1 + 3 * tl d
def dk : Nat → Nat
  | 0 => 8
  | d + 1 => 8 + 3 * dk d
theorem tl_pos (d : Nat) : 1 ≤ tl d := by cases d <;> simp [tl]
theorem tl_le (d : Nat) (h : d ≤ 5) : tl d ≤ 400 := by
  match d, h with
  | 0, _ => simp [tl]
  | 1, _ => simp [tl]
  | 2, _ => simp [tl]
  | 3, _ => simp [tl]
  | 4, _ => simp [tl]
  | 5, _ => simp [tl]
theorem dk_le (d : Nat) (h : d ≤ 5) : dk d ≤ 4000 := by
  match d, h with
  | 0, _ => simp [dk]
  | 1, _ => simp [dk]
  | 2, _ => simp [dk]
  | 3, _ => simp [dk]
  | 4, _ => simp [dk]
  | 5, _ => simp [dk]
theorem open_sym {ar : List Int} {x : Nat} (hx : x < ar.length) (s : List Int) (h : seqT ar (ar.getD x 0).toNat s) : seqT ar 1 ((x : Int) :: s) := by
  refine seqT_cons.2 ⟨by unfold okSym inB; simp; omega, ?_⟩
  have : arOf ar (x : Int) = (ar.getD x 0).toNat := by unfold arOf; rw [if_neg (by omega)]; rfl
  rw [this, Nat.zero_add]; exact h
theorem seq_nil (ar : List Int) : seqT ar 0 [] := rfl
theorem seq_var {ar : List Int} (hl : 0 < ar.length) {x : Nat} (hx : x < 12) : seqT ar 1 [-1 - (x : Int)] := by
  refine seqT_cons.2 ⟨by unfold okSym inB; simp; omega, ?_⟩
  rw [arOf_neg (by omega)]; exact seq_nil ar
theorem seq_zero {ar : List Int} (hg : goodSign ar = true) : seqT ar 1 [0] := by
  have h1 := sign_len ar hg
  have h0 : ar.getD 0 0 = 0 := by
    simp only [goodSign, Bool.and_eq_true] at hg
    simpa using hg.2
  have := open_sym (ar := ar) (x := 0) (by omega) [] (by rw [h0]; exact seq_nil ar)
  exact this
/-- A term of the draws: of the call's own; a term where the signature is one. -/
def RetTm (ar : List Int) (b n k d L : Nat) (w : World) (e : Ending) (w' : World) : Prop :=
  ∃ (ad : Option Addr) (m c : Nat) (t : List Int) (k' : Nat), e = .returned (.slice ad m c) ∧ w'.ownsRow w.heap.size 3 1 (.slice ad m c) t.length (t.map (Value.int .i64)) ∧ 1 ≤ t.length ∧ t.length ≤ L ∧ (goodSign ar = true → seqT ar 1 t) ∧ k ≤ k' ∧ k' ≤ k + d ∧ Cur b n k' w' ∧ Chg b (b+1) w w'

set_option maxRecDepth 100000 in
set_option maxHeartbeats 2000000 in
theorem term_c (b n : Nat) (hn : n ≤ 1099511627776) : ∀ (deep : Nat), 1 ≤ deep → deep ≤ 5 → ∀ (k vars lo hi : Nat) (v : Value) (ar : List Int) (w : World), drawn ar → b < lo → vars ≤ 12 → k + dk deep ≤ 549755813888 → Cur b n k w → SlI lo hi w v ar →
    Calls Tryz.prog 87 #[.pointer (some ⟨b, 0, none⟩), .agg #[v], .int .i64 deep, .int .i64 vars] w (RetTm ar b n k (dk deep) (tl deep) w) := by
  intro deep
  induction deep with
  | zero => intro h; omega
  | succ d ih =>
    intro _ hd5 k vars lo hi v ar w hdr hblo hvars hk hc hv
    have hbl := hc.lt
    have hal := drawn_len hdr
    have hag := drawn_get hdr
    have hdk := dk_le d (by omega)
    have htl := tl_le d (by omega)
    have htp := tl_pos d
    have hDK : Hid (dk (d+1) = 8 + 3 * dk d) := rfl
    have hTL : Hid (tl (d+1) = 1 + 3 * tl d) := rfl
    have hkd : k + (8 + 3 * dk d) ≤ 549755813888 := hk
    clear hk
    generalize dk (d+1) = DK at *
    generalize tl (d+1) = TL at *
    obtain ⟨va, vc, rfl⟩ := hv.form
    have hv1 := hv.alloc (.cells #[.slice va ar.length vc] 33)
    have hc1 := hc.below (Bel.alloc0 w (.cells #[.slice va ar.length vc] 33))
    have hbox : (w.alloc (.cells #[.slice va ar.length vc] 33)).cell? ⟨w.heap.size, 0, none⟩ = some (.slice va ar.length vc) := by rw [World.cell?_alloc_new w]; rfl
    have hB0 : Bel w (w.alloc (.cells #[.slice va ar.length vc] 33)) := Bel.alloc0 _ _
    have hz0 : (w.alloc (.cells #[.slice va ar.length vc] 33)).heap.size = w.heap.size + 1 := by simp
    obtain ⟨i0, hi0, hz0', hz1, hz2⟩ := info_parts Tryz.info3
    generalize hzv : (vars : Int) = zv
    have HZV := Lib.hid hzv
    have hzv0 : 0 ≤ zv := by omega
    clear hzv
    generalize hzd : ((d + 1 : Nat) : Int) = zd
    have HZ := Lib.hid hzd
    clear hzd
    go_enter Tryz.func87, Tryz.ntmps87
    rcases Nat.eq_zero_or_pos ar.length with h0 | hpos
    · obtain rfl : ar = [] := List.length_eq_zero_iff.1 h0
      simp only [List.length_nil] at hbox
      go_wp2_with fail
      go_ret
      exact ⟨_, 1, 1, [0], k, rfl, row_mono (lit_row' _ 0 _ (by simp)) (by simp), by simp, by have := hTL.out; simp; omega, fun h => by simp [goodSign, inB] at h, Nat.le_refl _, by omega, hc1.below (Bel.alloc0 _ _), Chg.of_bel (Bel.alloc2 _ _ _)⟩
    · have hne : ((ar.length : Int) == 0) = false := by rw [beq_eq_false_iff_ne]; omega
      by_cases hv0 : 0 < zv
      · go_wp2_with fail
        refine (one_c b n k _ 3 _ rfl hn (by omega) (by omega) hc1).mono ?_; rintro e w1 ⟨q, k1, rfl, hk1, hk2, hcW, hgW⟩
        have hbW0 := hgW.cell (by simp) (by omega) hbox
        cases q with
        | true =>
          go_wp2_with fail
          refine (pick_c b n k1 zv vars _ HZV.out.symm hn (by omega) (by omega) hcW).mono ?_; rintro e w2 ⟨x, k2, rfl, hx, hk3, hk4, hc3, hg2⟩
          have hw26 := IntWalk.i64_in (-1 - (x : Int)) (by omega)
          have hvp : 0 < vars := by have := HZV.out; omega
          go_wp2_with fail
          go_ret
          have hg3 := hgW.trans hg2
          have hB := (Chg.of_bel (lo := b) (hi := b+1) hB0).trans hg3
          exact ⟨_, 1, 1, [-1 - (x : Int)], k2, rfl, row_mono (lit_row w2 _) (by have := hg3.size; simp at this; omega), by simp, by have := hTL.out; simp; omega, fun _ => seq_var hpos (by omega), by omega, by have := hDK.out; omega, hc3.below (Bel.alloc0 _ _), hB.trans (Chg.of_bel (Bel.alloc0 _ _))⟩
        | false =>
          go_wp2_with fail
          refine (pick_c b n k1 _ ar.length _ rfl hn (by omega) (by omega) hcW).mono ?_; rintro e w2 ⟨x, k2, rfl, hx, hk3, hk4, hc3, hg2⟩
          have hx6 : x < ar.length := by omega
          replace hgW := hgW.trans hg2
          replace hcW := hc3
          have hbW := hgW.cell (by simp) (by omega) hbox
          have hv2 := hv1.chg hgW (by omega)
          obtain ⟨sb, so, rfl, hsb, hcellA⟩ := hv2.at x hx6
          have hax := hag x
          have HOp := Lib.hid (open_sym (ar := ar) hx6)
          generalize ar.getD x 0 = a1 at *
          have hxl : (x : Int) < ar.length := by omega
          clear hc3 hg2
          by_cases ha0 : 0 < a1
          · by_cases hd0 : d = 0
            · have hdle : zd ≤ 1 := by have := HZ.out; omega
              go_wp2_with fail
              refine (pick_c b n k2 _ ar.length _ rfl hn (by omega) (by omega) hcW).mono ?_; rintro e w5 ⟨y, k5, rfl, hy, hk5, hk6, hc5, hg5⟩
              have hy6 : y / 2 < ar.length := by omega
              clear hcellA hbW hv2 hsb HOp
              clear hax
              replace hgW := hgW.trans hg5
              replace hcW := hc5
              have hbW := hgW.cell (by simp) (by omega) hbox
              have hv2 := hv1.chg hgW (by omega)
              obtain ⟨sb2, so2, e2, hsb, hcellA⟩ := hv2.at (y / 2) hy6
              simp only [Option.some.injEq, Addr.mk.injEq, and_true] at e2
              obtain ⟨rfl, rfl⟩ := e2
              have hax := hag (y / 2)
              have hyl : ((y : Int) / 2) < ar.length := by omega
              have hyt : ((y : Int) / 2).toNat = y / 2 := by omega
              have hy0 : 0 ≤ (y : Int) / 2 := by omega
              have hyc : (((y / 2 : Nat)) : Int) = (y : Int) / 2 := by omega
              have HOp := open_sym (ar := ar) hy6
              rw [hyc] at HOp
              replace HOp := Lib.hid HOp
              clear hc5 hg5
              generalize ar.getD (y / 2) 0 = a2 at *
              have hcellB := hcellA
              rw [← hyt] at hcellA
              clear hyt
              by_cases ha2 : 0 < a2
              · go_wp2_with fail
                go_ret
                have hB := (Chg.of_bel (lo := b) (hi := b+1) hB0).trans hgW
                exact ⟨_, 1, 1, [0], k5, rfl, row_mono (lit_row w5 0) (by have := hgW.size; simp at this; omega), by simp, by have := hTL.out; simp; omega, fun hgs => seq_zero hgs, by omega, by have := hDK.out; omega, hcW.below (Bel.alloc0 _ _), hB.trans (Chg.of_bel (Bel.alloc0 _ _))⟩
              · have ha2d : ¬ 0 < a2 := ha2
                have hq : (a2.toNat : Int) = a2 := by omega
                have hq3 : a2.toNat ≤ 3 := by omega
                have hszW := hgW.size
                simp only [World.size_alloc] at hszW
                have hbW4 := (Bel.alloc0 w5 (.cells #[.int .i64 ((y : Int) / 2)] 3)).at (by omega) hbW
                have hcell4 := (Bel.alloc0 w5 (.cells #[.int .i64 ((y : Int) / 2)] 3)).at hsb hcellA
                have hcell5 := (Bel.alloc0 w5 (.cells #[.int .i64 ((y : Int) / 2)] 3)).at hsb hcellB
                have hrow := row_mono (lit_row w5 ((y : Int) / 2)) (show w.heap.size + 1 ≤ w5.heap.size by omega)
                have hcW4 := hcW.below (Bel.alloc0 w5 (.cells #[.int .i64 ((y : Int) / 2)] 3))
                have hgW4 := hgW.trans (Chg.of_bel (Bel.alloc0 w5 (.cells #[.int .i64 ((y : Int) / 2)] 3)))
                have HR := Lib.hid (And.intro hrow (And.intro hcW4 (And.intro hgW4 HOp.out)))
                clear hrow hcW4 hgW4 hcW hgW HOp
                go_wp2_with fail
                go_loopw [10, 11] (fun vo i wr => ∃ (j : Nat) (acc : List Int) (k9 : Nat), j ≤ a2.toNat ∧ i = .int .i64 j ∧ wr.ownsRow (w.heap.size + 1) 3 1 vo acc.length (acc.map (Value.int .i64)) ∧ 1 ≤ acc.length ∧ acc.length ≤ 1 + (3 - j) * tl d ∧ k5 ≤ k9 ∧ k9 ≤ k5 + (3 - j) * dk d ∧ Cur b n k9 wr ∧ Chg b (b+1) (w.alloc (.cells #[.slice (some ⟨sb, so, none⟩) ar.length vc] 33)) wr ∧ Hid (goodSign ar = true → ∀ s, seqT ar j s → seqT ar 1 (acc ++ s))) (fun _ i _ => (intOf i).toNat)
                case atStart => exact ⟨a2.toNat, [(y : Int) / 2], k5, Nat.le_refl _, by rw [hq], HR.out.1, by simp, by simp, Nat.le_refl _, by omega, HR.out.2.1, HR.out.2.2.1, Lib.hid (fun _ s h => HR.out.2.2.2 s h)⟩
                case round =>
                  obtain ⟨j, acc, k9, hj, rfl, hown, ha1, ha2, hk91, hk92, hc9, hg9, hop9⟩ := hrel
                  have hsz9 := hg9.size
                  simp only [World.size_alloc] at hsz9
                  by_cases hj0 : 0 < j
                  · exact absurd hj0 (by omega)
                  · obtain rfl : j = 0 := by omega
                    obtain ⟨ao, no, co, rfl⟩ := own_form hown
                    have hB := (Chg.of_bel (lo := b) (hi := b+1) hB0).trans hg9
                    have hDK2 := hDK.out
                    have hTL2 := hTL.out
                    clear hcell4 hbW4
                    go_wp2_with fail
                    go_ret
                    exact ⟨ao, no, co, acc, k9, rfl, row_mono hown (by omega), ha1, by omega, fun hgs => (by have := hop9.out hgs [] (seq_nil ar); rwa [List.append_nil] at this), by omega, by omega, hc9, hB⟩
            · have hdle : ¬ zd ≤ 1 := by have := HZ.out; omega
              have hq : (a1.toNat : Int) = a1 := by omega
              have hq3 : a1.toNat ≤ 3 := by omega
              have hszW := hgW.size
              simp only [World.size_alloc] at hszW
              have hbW4 := (Bel.alloc0 w2 (.cells #[.int .i64 ((x : Int))] 3)).at (by omega) hbW
              have hcell4 := (Bel.alloc0 w2 (.cells #[.int .i64 ((x : Int))] 3)).at hsb hcellA
              have hrow := row_mono (lit_row w2 ((x : Int))) (show w.heap.size + 1 ≤ w2.heap.size by omega)
              have hcW4 := hcW.below (Bel.alloc0 w2 (.cells #[.int .i64 ((x : Int))] 3))
              have hgW4 := hgW.trans (Chg.of_bel (Bel.alloc0 w2 (.cells #[.int .i64 ((x : Int))] 3)))
              have HR := Lib.hid (And.intro hrow (And.intro hcW4 (And.intro hgW4 HOp.out)))
              clear hrow hcW4 hgW4 hcW hgW HOp
              go_wp2_with fail
              go_loopw [10, 11] (fun vo i wr => ∃ (j : Nat) (acc : List Int) (k9 : Nat), j ≤ a1.toNat ∧ i = .int .i64 j ∧ wr.ownsRow (w.heap.size + 1) 3 1 vo acc.length (acc.map (Value.int .i64)) ∧ 1 ≤ acc.length ∧ acc.length ≤ 1 + (3 - j) * tl d ∧ k2 ≤ k9 ∧ k9 ≤ k2 + (3 - j) * dk d ∧ Cur b n k9 wr ∧ Chg b (b+1) (w.alloc (.cells #[.slice (some ⟨sb, so, none⟩) ar.length vc] 33)) wr ∧ Hid (goodSign ar = true → ∀ s, seqT ar j s → seqT ar 1 (acc ++ s))) (fun _ i _ => (intOf i).toNat)
              case atStart => exact ⟨a1.toNat, [(x : Int)], k2, Nat.le_refl _, by rw [hq], HR.out.1, by simp, by simp, Nat.le_refl _, by omega, HR.out.2.1, HR.out.2.2.1, Lib.hid (fun _ s h => HR.out.2.2.2 s h)⟩
              case round =>
                obtain ⟨j, acc, k9, hj, rfl, hown, ha1, ha2, hk91, hk92, hc9, hg9, hop9⟩ := hrel
                have hsz9 := hg9.size
                simp only [World.size_alloc] at hsz9
                by_cases hj0 : 0 < j
                · have hd1 : 1 ≤ d := by omega
                  have hbx9 := hg9.cell (by simp) (by omega) hbox
                  have hv9 := hv1.chg hg9 (by omega)
                  have hm1 : (3 - (j - 1)) * tl d = (3 - j) * tl d + tl d := by
                    have : 3 - (j - 1) = (3 - j) + 1 := by omega
                    rw [this, Nat.add_mul, Nat.one_mul]
                  have hm2 : (3 - (j - 1)) * dk d = (3 - j) * dk d + dk d := by
                    have : 3 - (j - 1) = (3 - j) + 1 := by omega
                    rw [this, Nat.add_mul, Nat.one_mul]
                  have hm3 : (3 - j) * dk d ≤ 3 * dk d := Nat.mul_le_mul_right _ (by omega)
                  have hm4 : (3 - j) * tl d ≤ 3 * tl d := Nat.mul_le_mul_right _ (by omega)
                  have hm5 : (3 - (j - 1)) * dk d ≤ 3 * dk d := Nat.mul_le_mul_right _ (by omega)
                  have HT := ih hd1 (by omega) k9 vars lo hi _ ar wr hdr hblo hvars (by omega) hc9 hv9
                  have hzd2 : zd - 1 = d := by have := HZ.out; omega
                  rw [HZV.out] at HT
                  replace HT := Lib.hid HT
                  have hw75 := IntWalk.i64_in (zd - 1) (by omega)
                  have hw70 := IntWalk.i64_in ((j : Int) - 1) (by omega)
                  have HM := Lib.hid (And.intro hm1 (And.intro hm2 (And.intro hm3 hm4)))
                  clear hm1 hm2 hm3 hm4 hm5 hcell4 hbW4
                  go_wp2_with (first | (go_at_call 87; refine HT.out.mono ?_; rintro e w7 ⟨a7, m7, c7, t7, k7, rfl, hrow7, ht1, ht2, hseq7, hk71, hk72, hc7, hg7⟩; have hm7 : m7 = t7.length := row_len hrow7; subst hm7; have hown7 := row_chg hown (by omega) hg7; have hs7 := (OwnI.of_row hrow7).sl; obtain ⟨tb, tof, tc, e7, -⟩ := hs7.plain (by omega); cases e7; have hn7 := news_of_sl hs7; have hsz7 := hg7.size) | (at_builtin; refine wpList_append_own _ rfl _ _ 22 rfl (w.heap.size + 1) 3 i0 (.int .i64 0) 1 8 Tryz.underlying22 hi0 hz0' hz1 hz2 rfl (by decide) _ _ _ rfl hown7 _ t7.length _ (t7.map (Value.int .i64)) rfl (by simp) hn7 (ones_int _) (by unfold maxLen; have := HM.out.2.2.2; omega) (by have := HM.out.2.2.2; omega) (by omega) ?_; intro v' w8 hown' hgrow _))
                  obtain ⟨hm1, hm2, hm3, hm4⟩ := HM.out
                  have hg8 : Chg (w.heap.size + 1) w8.heap.size w7 w8 := ⟨hgrow.os, hgrow.tape, hgrow.output, hgrow.size, fun i hi ho => hgrow.block i hi (fun e => by have := own_base hown7 i e.symm; have := hgrow.size; omega)⟩
                  have hown8 : w8.ownsRow (w.heap.size + 1) 3 1 v' (acc ++ t7).length ((acc ++ t7).map (Value.int .i64)) := by simpa using hown'
                  have hop8 : Hid (goodSign ar = true → ∀ s, seqT ar (j - 1) s → seqT ar 1 ((acc ++ t7) ++ s)) := Lib.hid (fun hgs s hs => by
                    rw [List.append_assoc]
                    refine hop9.out hgs (t7 ++ s) ?_
                    have := seqT_append (hseq7 hgs) hs
                    rwa [show 1 + (j - 1) = j by omega] at this)
                  go_roundw
                  case rel => exact ⟨j - 1, acc ++ t7, k7, by omega, by go_num, hown8, by simp; omega, by rw [List.length_append, hm1]; omega, by omega, by rw [hm2]; omega, hc7.chg hg8 (by omega), (hg9.trans hg7).news hg8 (by simp), hop8⟩
                  case measure => simp [intOf]; omega
                · obtain rfl : j = 0 := by omega
                  obtain ⟨ao, no, co, rfl⟩ := own_form hown
                  have hB := (Chg.of_bel (lo := b) (hi := b+1) hB0).trans hg9
                  have hDK2 := hDK.out
                  have hTL2 := hTL.out
                  clear hcell4 hbW4
                  go_wp2_with fail
                  go_ret
                  exact ⟨ao, no, co, acc, k9, rfl, row_mono hown (by omega), ha1, by omega, fun hgs => (by have := hop9.out hgs [] (seq_nil ar); rwa [List.append_nil] at this), by omega, by omega, hc9, hB⟩
          · have ha1d : ¬ 0 < a1 := ha0
            have hq : (a1.toNat : Int) = a1 := by omega
            have hq3 : a1.toNat ≤ 3 := by omega
            have hszW := hgW.size
            simp only [World.size_alloc] at hszW
            have hbW4 := (Bel.alloc0 w2 (.cells #[.int .i64 ((x : Int))] 3)).at (by omega) hbW
            have hcell4 := (Bel.alloc0 w2 (.cells #[.int .i64 ((x : Int))] 3)).at hsb hcellA
            have hrow := row_mono (lit_row w2 ((x : Int))) (show w.heap.size + 1 ≤ w2.heap.size by omega)
            have hcW4 := hcW.below (Bel.alloc0 w2 (.cells #[.int .i64 ((x : Int))] 3))
            have hgW4 := hgW.trans (Chg.of_bel (Bel.alloc0 w2 (.cells #[.int .i64 ((x : Int))] 3)))
            have HR := Lib.hid (And.intro hrow (And.intro hcW4 (And.intro hgW4 HOp.out)))
            clear hrow hcW4 hgW4 hcW hgW HOp
            go_wp2_with fail
            go_loopw [10, 11] (fun vo i wr => ∃ (j : Nat) (acc : List Int) (k9 : Nat), j ≤ a1.toNat ∧ i = .int .i64 j ∧ wr.ownsRow (w.heap.size + 1) 3 1 vo acc.length (acc.map (Value.int .i64)) ∧ 1 ≤ acc.length ∧ acc.length ≤ 1 + (3 - j) * tl d ∧ k2 ≤ k9 ∧ k9 ≤ k2 + (3 - j) * dk d ∧ Cur b n k9 wr ∧ Chg b (b+1) (w.alloc (.cells #[.slice (some ⟨sb, so, none⟩) ar.length vc] 33)) wr ∧ Hid (goodSign ar = true → ∀ s, seqT ar j s → seqT ar 1 (acc ++ s))) (fun _ i _ => (intOf i).toNat)
            case atStart => exact ⟨a1.toNat, [(x : Int)], k2, Nat.le_refl _, by rw [hq], HR.out.1, by simp, by simp, Nat.le_refl _, by omega, HR.out.2.1, HR.out.2.2.1, Lib.hid (fun _ s h => HR.out.2.2.2 s h)⟩
            case round =>
              obtain ⟨j, acc, k9, hj, rfl, hown, ha1, ha2, hk91, hk92, hc9, hg9, hop9⟩ := hrel
              have hsz9 := hg9.size
              simp only [World.size_alloc] at hsz9
              by_cases hj0 : 0 < j
              · exact absurd hj0 (by omega)
              · obtain rfl : j = 0 := by omega
                obtain ⟨ao, no, co, rfl⟩ := own_form hown
                have hB := (Chg.of_bel (lo := b) (hi := b+1) hB0).trans hg9
                have hDK2 := hDK.out
                have hTL2 := hTL.out
                clear hcell4 hbW4
                go_wp2_with fail
                go_ret
                exact ⟨ao, no, co, acc, k9, rfl, row_mono hown (by omega), ha1, by omega, fun hgs => (by have := hop9.out hgs [] (seq_nil ar); rwa [List.append_nil] at this), by omega, by omega, hc9, hB⟩
      · have hk1 : k ≤ k := Nat.le_refl _
        have hk2 : k ≤ k + 2 := by omega
        have hcW := hc1
        have hgW := Chg.refl b (b+1) (w.alloc (.cells #[.slice va ar.length vc] 33))
        go_wp2_with fail
        refine (pick_c b n k _ ar.length _ rfl hn (by omega) (by omega) hcW).mono ?_; rintro e w2 ⟨x, k2, rfl, hx, hk3, hk4, hc3, hg2⟩
        have hx6 : x < ar.length := by omega
        replace hgW := hgW.trans hg2
        replace hcW := hc3
        have hbW := hgW.cell (by simp) (by omega) hbox
        have hv2 := hv1.chg hgW (by omega)
        obtain ⟨sb, so, rfl, hsb, hcellA⟩ := hv2.at x hx6
        have hax := hag x
        have HOp := Lib.hid (open_sym (ar := ar) hx6)
        generalize ar.getD x 0 = a1 at *
        have hxl : (x : Int) < ar.length := by omega
        clear hc3 hg2
        by_cases ha0 : 0 < a1
        · by_cases hd0 : d = 0
          · have hdle : zd ≤ 1 := by have := HZ.out; omega
            go_wp2_with fail
            refine (pick_c b n k2 _ ar.length _ rfl hn (by omega) (by omega) hcW).mono ?_; rintro e w5 ⟨y, k5, rfl, hy, hk5, hk6, hc5, hg5⟩
            have hy6 : y / 2 < ar.length := by omega
            clear hcellA hbW hv2 hsb HOp
            clear hax
            replace hgW := hgW.trans hg5
            replace hcW := hc5
            have hbW := hgW.cell (by simp) (by omega) hbox
            have hv2 := hv1.chg hgW (by omega)
            obtain ⟨sb2, so2, e2, hsb, hcellA⟩ := hv2.at (y / 2) hy6
            simp only [Option.some.injEq, Addr.mk.injEq, and_true] at e2
            obtain ⟨rfl, rfl⟩ := e2
            have hax := hag (y / 2)
            have hyl : ((y : Int) / 2) < ar.length := by omega
            have hyt : ((y : Int) / 2).toNat = y / 2 := by omega
            have hy0 : 0 ≤ (y : Int) / 2 := by omega
            have hyc : (((y / 2 : Nat)) : Int) = (y : Int) / 2 := by omega
            have HOp := open_sym (ar := ar) hy6
            rw [hyc] at HOp
            replace HOp := Lib.hid HOp
            clear hc5 hg5
            generalize ar.getD (y / 2) 0 = a2 at *
            have hcellB := hcellA
            rw [← hyt] at hcellA
            clear hyt
            by_cases ha2 : 0 < a2
            · go_wp2_with fail
              go_ret
              have hB := (Chg.of_bel (lo := b) (hi := b+1) hB0).trans hgW
              exact ⟨_, 1, 1, [0], k5, rfl, row_mono (lit_row w5 0) (by have := hgW.size; simp at this; omega), by simp, by have := hTL.out; simp; omega, fun hgs => seq_zero hgs, by omega, by have := hDK.out; omega, hcW.below (Bel.alloc0 _ _), hB.trans (Chg.of_bel (Bel.alloc0 _ _))⟩
            · have ha2d : ¬ 0 < a2 := ha2
              have hq : (a2.toNat : Int) = a2 := by omega
              have hq3 : a2.toNat ≤ 3 := by omega
              have hszW := hgW.size
              simp only [World.size_alloc] at hszW
              have hbW4 := (Bel.alloc0 w5 (.cells #[.int .i64 ((y : Int) / 2)] 3)).at (by omega) hbW
              have hcell4 := (Bel.alloc0 w5 (.cells #[.int .i64 ((y : Int) / 2)] 3)).at hsb hcellA
              have hcell5 := (Bel.alloc0 w5 (.cells #[.int .i64 ((y : Int) / 2)] 3)).at hsb hcellB
              have hrow := row_mono (lit_row w5 ((y : Int) / 2)) (show w.heap.size + 1 ≤ w5.heap.size by omega)
              have hcW4 := hcW.below (Bel.alloc0 w5 (.cells #[.int .i64 ((y : Int) / 2)] 3))
              have hgW4 := hgW.trans (Chg.of_bel (Bel.alloc0 w5 (.cells #[.int .i64 ((y : Int) / 2)] 3)))
              have HR := Lib.hid (And.intro hrow (And.intro hcW4 (And.intro hgW4 HOp.out)))
              clear hrow hcW4 hgW4 hcW hgW HOp
              go_wp2_with fail
              go_loopw [10, 11] (fun vo i wr => ∃ (j : Nat) (acc : List Int) (k9 : Nat), j ≤ a2.toNat ∧ i = .int .i64 j ∧ wr.ownsRow (w.heap.size + 1) 3 1 vo acc.length (acc.map (Value.int .i64)) ∧ 1 ≤ acc.length ∧ acc.length ≤ 1 + (3 - j) * tl d ∧ k5 ≤ k9 ∧ k9 ≤ k5 + (3 - j) * dk d ∧ Cur b n k9 wr ∧ Chg b (b+1) (w.alloc (.cells #[.slice (some ⟨sb, so, none⟩) ar.length vc] 33)) wr ∧ Hid (goodSign ar = true → ∀ s, seqT ar j s → seqT ar 1 (acc ++ s))) (fun _ i _ => (intOf i).toNat)
              case atStart => exact ⟨a2.toNat, [(y : Int) / 2], k5, Nat.le_refl _, by rw [hq], HR.out.1, by simp, by simp, Nat.le_refl _, by omega, HR.out.2.1, HR.out.2.2.1, Lib.hid (fun _ s h => HR.out.2.2.2 s h)⟩
              case round =>
                obtain ⟨j, acc, k9, hj, rfl, hown, ha1, ha2, hk91, hk92, hc9, hg9, hop9⟩ := hrel
                have hsz9 := hg9.size
                simp only [World.size_alloc] at hsz9
                by_cases hj0 : 0 < j
                · exact absurd hj0 (by omega)
                · obtain rfl : j = 0 := by omega
                  obtain ⟨ao, no, co, rfl⟩ := own_form hown
                  have hB := (Chg.of_bel (lo := b) (hi := b+1) hB0).trans hg9
                  have hDK2 := hDK.out
                  have hTL2 := hTL.out
                  clear hcell4 hbW4
                  go_wp2_with fail
                  go_ret
                  exact ⟨ao, no, co, acc, k9, rfl, row_mono hown (by omega), ha1, by omega, fun hgs => (by have := hop9.out hgs [] (seq_nil ar); rwa [List.append_nil] at this), by omega, by omega, hc9, hB⟩
          · have hdle : ¬ zd ≤ 1 := by have := HZ.out; omega
            have hq : (a1.toNat : Int) = a1 := by omega
            have hq3 : a1.toNat ≤ 3 := by omega
            have hszW := hgW.size
            simp only [World.size_alloc] at hszW
            have hbW4 := (Bel.alloc0 w2 (.cells #[.int .i64 ((x : Int))] 3)).at (by omega) hbW
            have hcell4 := (Bel.alloc0 w2 (.cells #[.int .i64 ((x : Int))] 3)).at hsb hcellA
            have hrow := row_mono (lit_row w2 ((x : Int))) (show w.heap.size + 1 ≤ w2.heap.size by omega)
            have hcW4 := hcW.below (Bel.alloc0 w2 (.cells #[.int .i64 ((x : Int))] 3))
            have hgW4 := hgW.trans (Chg.of_bel (Bel.alloc0 w2 (.cells #[.int .i64 ((x : Int))] 3)))
            have HR := Lib.hid (And.intro hrow (And.intro hcW4 (And.intro hgW4 HOp.out)))
            clear hrow hcW4 hgW4 hcW hgW HOp
            go_wp2_with fail
            go_loopw [10, 11] (fun vo i wr => ∃ (j : Nat) (acc : List Int) (k9 : Nat), j ≤ a1.toNat ∧ i = .int .i64 j ∧ wr.ownsRow (w.heap.size + 1) 3 1 vo acc.length (acc.map (Value.int .i64)) ∧ 1 ≤ acc.length ∧ acc.length ≤ 1 + (3 - j) * tl d ∧ k2 ≤ k9 ∧ k9 ≤ k2 + (3 - j) * dk d ∧ Cur b n k9 wr ∧ Chg b (b+1) (w.alloc (.cells #[.slice (some ⟨sb, so, none⟩) ar.length vc] 33)) wr ∧ Hid (goodSign ar = true → ∀ s, seqT ar j s → seqT ar 1 (acc ++ s))) (fun _ i _ => (intOf i).toNat)
            case atStart => exact ⟨a1.toNat, [(x : Int)], k2, Nat.le_refl _, by rw [hq], HR.out.1, by simp, by simp, Nat.le_refl _, by omega, HR.out.2.1, HR.out.2.2.1, Lib.hid (fun _ s h => HR.out.2.2.2 s h)⟩
            case round =>
              obtain ⟨j, acc, k9, hj, rfl, hown, ha1, ha2, hk91, hk92, hc9, hg9, hop9⟩ := hrel
              have hsz9 := hg9.size
              simp only [World.size_alloc] at hsz9
              by_cases hj0 : 0 < j
              · have hd1 : 1 ≤ d := by omega
                have hbx9 := hg9.cell (by simp) (by omega) hbox
                have hv9 := hv1.chg hg9 (by omega)
                have hm1 : (3 - (j - 1)) * tl d = (3 - j) * tl d + tl d := by
                  have : 3 - (j - 1) = (3 - j) + 1 := by omega
                  rw [this, Nat.add_mul, Nat.one_mul]
                have hm2 : (3 - (j - 1)) * dk d = (3 - j) * dk d + dk d := by
                  have : 3 - (j - 1) = (3 - j) + 1 := by omega
                  rw [this, Nat.add_mul, Nat.one_mul]
                have hm3 : (3 - j) * dk d ≤ 3 * dk d := Nat.mul_le_mul_right _ (by omega)
                have hm4 : (3 - j) * tl d ≤ 3 * tl d := Nat.mul_le_mul_right _ (by omega)
                have hm5 : (3 - (j - 1)) * dk d ≤ 3 * dk d := Nat.mul_le_mul_right _ (by omega)
                have HT := ih hd1 (by omega) k9 vars lo hi _ ar wr hdr hblo hvars (by omega) hc9 hv9
                have hzd2 : zd - 1 = d := by have := HZ.out; omega
                rw [HZV.out] at HT
                replace HT := Lib.hid HT
                have hw75 := IntWalk.i64_in (zd - 1) (by omega)
                have hw70 := IntWalk.i64_in ((j : Int) - 1) (by omega)
                have HM := Lib.hid (And.intro hm1 (And.intro hm2 (And.intro hm3 hm4)))
                clear hm1 hm2 hm3 hm4 hm5 hcell4 hbW4
                go_wp2_with (first | (go_at_call 87; refine HT.out.mono ?_; rintro e w7 ⟨a7, m7, c7, t7, k7, rfl, hrow7, ht1, ht2, hseq7, hk71, hk72, hc7, hg7⟩; have hm7 : m7 = t7.length := row_len hrow7; subst hm7; have hown7 := row_chg hown (by omega) hg7; have hs7 := (OwnI.of_row hrow7).sl; obtain ⟨tb, tof, tc, e7, -⟩ := hs7.plain (by omega); cases e7; have hn7 := news_of_sl hs7; have hsz7 := hg7.size) | (at_builtin; refine wpList_append_own _ rfl _ _ 22 rfl (w.heap.size + 1) 3 i0 (.int .i64 0) 1 8 Tryz.underlying22 hi0 hz0' hz1 hz2 rfl (by decide) _ _ _ rfl hown7 _ t7.length _ (t7.map (Value.int .i64)) rfl (by simp) hn7 (ones_int _) (by unfold maxLen; have := HM.out.2.2.2; omega) (by have := HM.out.2.2.2; omega) (by omega) ?_; intro v' w8 hown' hgrow _))
                obtain ⟨hm1, hm2, hm3, hm4⟩ := HM.out
                have hg8 : Chg (w.heap.size + 1) w8.heap.size w7 w8 := ⟨hgrow.os, hgrow.tape, hgrow.output, hgrow.size, fun i hi ho => hgrow.block i hi (fun e => by have := own_base hown7 i e.symm; have := hgrow.size; omega)⟩
                have hown8 : w8.ownsRow (w.heap.size + 1) 3 1 v' (acc ++ t7).length ((acc ++ t7).map (Value.int .i64)) := by simpa using hown'
                have hop8 : Hid (goodSign ar = true → ∀ s, seqT ar (j - 1) s → seqT ar 1 ((acc ++ t7) ++ s)) := Lib.hid (fun hgs s hs => by
                  rw [List.append_assoc]
                  refine hop9.out hgs (t7 ++ s) ?_
                  have := seqT_append (hseq7 hgs) hs
                  rwa [show 1 + (j - 1) = j by omega] at this)
                go_roundw
                case rel => exact ⟨j - 1, acc ++ t7, k7, by omega, by go_num, hown8, by simp; omega, by rw [List.length_append, hm1]; omega, by omega, by rw [hm2]; omega, hc7.chg hg8 (by omega), (hg9.trans hg7).news hg8 (by simp), hop8⟩
                case measure => simp [intOf]; omega
              · obtain rfl : j = 0 := by omega
                obtain ⟨ao, no, co, rfl⟩ := own_form hown
                have hB := (Chg.of_bel (lo := b) (hi := b+1) hB0).trans hg9
                have hDK2 := hDK.out
                have hTL2 := hTL.out
                clear hcell4 hbW4
                go_wp2_with fail
                go_ret
                exact ⟨ao, no, co, acc, k9, rfl, row_mono hown (by omega), ha1, by omega, fun hgs => (by have := hop9.out hgs [] (seq_nil ar); rwa [List.append_nil] at this), by omega, by omega, hc9, hB⟩
        · have ha1d : ¬ 0 < a1 := ha0
          have hq : (a1.toNat : Int) = a1 := by omega
          have hq3 : a1.toNat ≤ 3 := by omega
          have hszW := hgW.size
          simp only [World.size_alloc] at hszW
          have hbW4 := (Bel.alloc0 w2 (.cells #[.int .i64 ((x : Int))] 3)).at (by omega) hbW
          have hcell4 := (Bel.alloc0 w2 (.cells #[.int .i64 ((x : Int))] 3)).at hsb hcellA
          have hrow := row_mono (lit_row w2 ((x : Int))) (show w.heap.size + 1 ≤ w2.heap.size by omega)
          have hcW4 := hcW.below (Bel.alloc0 w2 (.cells #[.int .i64 ((x : Int))] 3))
          have hgW4 := hgW.trans (Chg.of_bel (Bel.alloc0 w2 (.cells #[.int .i64 ((x : Int))] 3)))
          have HR := Lib.hid (And.intro hrow (And.intro hcW4 (And.intro hgW4 HOp.out)))
          clear hrow hcW4 hgW4 hcW hgW HOp
          go_wp2_with fail
          go_loopw [10, 11] (fun vo i wr => ∃ (j : Nat) (acc : List Int) (k9 : Nat), j ≤ a1.toNat ∧ i = .int .i64 j ∧ wr.ownsRow (w.heap.size + 1) 3 1 vo acc.length (acc.map (Value.int .i64)) ∧ 1 ≤ acc.length ∧ acc.length ≤ 1 + (3 - j) * tl d ∧ k2 ≤ k9 ∧ k9 ≤ k2 + (3 - j) * dk d ∧ Cur b n k9 wr ∧ Chg b (b+1) (w.alloc (.cells #[.slice (some ⟨sb, so, none⟩) ar.length vc] 33)) wr ∧ Hid (goodSign ar = true → ∀ s, seqT ar j s → seqT ar 1 (acc ++ s))) (fun _ i _ => (intOf i).toNat)
          case atStart => exact ⟨a1.toNat, [(x : Int)], k2, Nat.le_refl _, by rw [hq], HR.out.1, by simp, by simp, Nat.le_refl _, by omega, HR.out.2.1, HR.out.2.2.1, Lib.hid (fun _ s h => HR.out.2.2.2 s h)⟩
          case round =>
            obtain ⟨j, acc, k9, hj, rfl, hown, ha1, ha2, hk91, hk92, hc9, hg9, hop9⟩ := hrel
            have hsz9 := hg9.size
            simp only [World.size_alloc] at hsz9
            by_cases hj0 : 0 < j
            · exact absurd hj0 (by omega)
            · obtain rfl : j = 0 := by omega
              obtain ⟨ao, no, co, rfl⟩ := own_form hown
              have hB := (Chg.of_bel (lo := b) (hi := b+1) hB0).trans hg9
              have hDK2 := hDK.out
              have hTL2 := hTL.out
              clear hcell4 hbW4
              go_wp2_with fail
              go_ret
              exact ⟨ao, no, co, acc, k9, rfl, row_mono hown (by omega), ha1, by omega, fun hgs => (by have := hop9.out hgs [] (seq_nil ar); rwa [List.append_nil] at this), by omega, by omega, hc9, hB⟩
end Go.Proofs.YteegjnobmbcjiaaGreatDoor
end
section
/- The draws: any term. -/
namespace Go.Proofs.YteegjnobmbcjiaaGreatDoor
open Go.RowKit

set_option maxRecDepth 100000 in
set_option maxHeartbeats 400000 in
theorem among_c (b n k lo hi : Nat) (v : Value) (l : List Int) (w : World) (hn : n ≤ 1099511627776) (hk : k ≤ 1099511627775) (hl0 : 0 < l.length) (hl : l.length ≤ 200) (hblo : b < lo) (hc : Cur b n k w) (hv : SlI lo hi w v l) :
    Calls Tryz.prog 93 #[.pointer (some ⟨b, 0, none⟩), v] w (fun e w' => ∃ (z : Int) (k' : Nat), e = .returned (.int .i64 z) ∧ z ∈ l ∧ k ≤ k' ∧ k' ≤ k + 2 ∧ Cur b n k' w' ∧ Chg b (b+1) w w') := by
  obtain ⟨ad, cap, rfl⟩ := hv.form
  go_enter Tryz.func93, Tryz.ntmps93
  go_wp2_with (go_at_call 86; refine (pick_c b n k _ l.length w rfl hn hk (by omega) hc).mono ?_; rintro e w1 ⟨x, k1, rfl, hx, hk1, hk2, hc1, hg1⟩; obtain ⟨bb, off, e1, -, hcell⟩ := (hv.chg hg1 (by omega)).at x (by omega); cases e1; have hxl : (x : Int) < l.length := by omega)
  go_ret
  exact ⟨l.getD x 0, k1, rfl, by rw [show l.getD x 0 = l[x]'(by omega) from by simp [List.getD, show x < l.length by omega]]; exact List.getElem_mem _, hk1, hk2, hc1, hg1⟩
theorem term_z (b n : Nat) (deep vars k lo hi : Nat) (z y : Int) (v : Value) (ar : List Int) (w : World) (hz : z = deep) (hy : y = vars) (hn : n ≤ 1099511627776) (h1 : 1 ≤ deep) (h5 : deep ≤ 5) (hdr : drawn ar) (hblo : b < lo) (hvars : vars ≤ 12) (hk : k ≤ 500000000000) (hc : Cur b n k w) (hv : SlI lo hi w v ar) :
    Calls Tryz.prog 87 #[.pointer (some ⟨b, 0, none⟩), .agg #[v], .int .i64 z, .int .i64 y] w (RetTm ar b n k 4000 (tl deep) w) := by
  subst hz hy
  have hd := dk_le deep h5
  refine (term_c b n hn deep h1 h5 k vars lo hi v ar w hdr hblo hvars (by omega) hc hv).mono ?_
  rintro e w' ⟨ad, m, c, t, k', h⟩
  exact ⟨ad, m, c, t, k', h.1, h.2.1, h.2.2.1, h.2.2.2.1, h.2.2.2.2.1, h.2.2.2.2.2.1, by have := h.2.2.2.2.2.2.1; omega, h.2.2.2.2.2.2.2⟩
theorem row_off {w : World} {base e m n c g o : Nat} {xs : List Value} (h : w.ownsRow base e 1 (.slice (some ⟨g, o, none⟩) n c) m xs) : o = 0 := by
  rcases h.2 with ⟨e1, _⟩ | ⟨g', cap, cur, e1, _⟩
  · simp at e1
  · simp at e1; exact e1.1.2
/-- What anyTerm gives: of blocks that are new. -/
def RetA (b n k d : Nat) (w : World) (e : Ending) (w' : World) : Prop :=
  ∃ (ad : Option Addr) (c : Nat) (t : List Int) (k' : Nat), e = .returned (.slice ad t.length c) ∧ SlI w.heap.size w'.heap.size w' (.slice ad t.length c) t ∧ t.length ≤ 1000 ∧ k ≤ k' ∧ k' ≤ k + d ∧ Cur b n k' w' ∧ Chg b (b+1) w w'

end Go.Proofs.YteegjnobmbcjiaaGreatDoor
end
section
/- The draws: arguments of functions of chapter 1. -/
namespace Go.Proofs.YteegjnobmbcjiaaGreatDoor
open Go.RowKit

/-- A cursor at its beginning. -/
theorem Cur.new {w : World} {v : Value} {n : Nat} {T : TypeId} (h : SlB w.heap.size w v n) : Cur w.heap.size n 0 (w.alloc (.cells #[v, .int .i64 0, .int .u64 0] T)) := by
  refine ⟨v, 0, by simp, h.chg (Chg.of_bel (lo := w.heap.size) (hi := w.heap.size) (Bel.alloc0 _ _)) (Nat.le_refl _), ?_, ?_, ?_, fun j => by simp [go_sem]; try rfl⟩
  · rw [World.cell?_alloc_new w]; rfl
  · rw [World.cell?_alloc_new w]; rfl
  · rw [World.cell?_alloc_new w]; rfl

def RetDR (w : World) (e : Ending) (w' : World) : Prop :=
  ∃ (sv tv uv : Value) (ar t u : List Int) (z : Int), e = .returned (.tuple #[.agg #[sv], tv, .int .i64 z, uv]) ∧ drawn ar ∧ SlI w.heap.size w'.heap.size w' sv ar ∧ SlI w.heap.size w'.heap.size w' tv t ∧ t.length ≤ 1000 ∧ -1 ≤ z ∧ z ≤ 1000 ∧ SlI w.heap.size w'.heap.size w' uv u ∧ u.length ≤ 1000 ∧ Bel w w'
def RetDC (w : World) (e : Ending) (w' : World) : Prop :=
  ∃ (sv tv : Value) (ar t : List Int) (z : Int), e = .returned (.tuple #[.agg #[sv], tv, .int .i64 z]) ∧ drawn ar ∧ SlI w.heap.size w'.heap.size w' sv ar ∧ SlI w.heap.size w'.heap.size w' tv t ∧ t.length ≤ 1000 ∧ -1000 ≤ z ∧ z ≤ 1000 ∧ Bel w w'
end Go.Proofs.YteegjnobmbcjiaaGreatDoor
end
section
/- Contracts with the answers named. -/
namespace Go.Proofs.YteegjnobmbcjiaaGreatDoor
open Go.RowKit

theorem SlB.bel {w w' : World} {v : Value} {n : Nat} (h : SlB w.heap.size w v n) (hb : Bel w w') : SlB w'.heap.size w' v n := by
  obtain ⟨ad, cap, e, hc, hr⟩ := h.chg (Chg.of_bel (lo := w.heap.size) (hi := w.heap.size) hb) (Nat.le_refl _)
  exact ⟨ad, cap, e, hc, fun hp => by obtain ⟨b, off, e1, e2, e3⟩ := hr hp; exact ⟨b, off, e1, Nat.lt_of_lt_of_le e2 hb.size, e3⟩⟩
theorem slI_n {lo hi : Nat} {w : World} {ad : Option Addr} {n c : Nat} {xs : List Int} (h : SlI lo hi w (.slice ad n c) xs) : n = xs.length := by
  obtain ⟨ad', c', e⟩ := h.form
  simp only [Value.slice.injEq] at e
  exact e.2.1
theorem SlB.form {hi : Nat} {w : World} {v : Value} {n : Nat} (h : SlB hi w v n) : ∃ a c, v = .slice a n c := by obtain ⟨a, c, e, _⟩ := h; exact ⟨a, c, e⟩
end Go.Proofs.YteegjnobmbcjiaaGreatDoor
end
section
/- Slices of literals (a sign and two slices of ints): read (SlC), or of the call's own (OwnC); marks. No program. -/
namespace Go.Proofs.YteegjnobmbcjiaaGreatDoor
open Go.RowKit

/-- A literal: its sign, its two terms. -/
abbrev Lt := Bool × List Int × List Int
def lt0 : Lt := (false, [], [])
def wC (x : Lt) : Nat := 1 + x.2.1.length + x.2.2.length
def sumC (c : List Lt) : Nat := (c.map wC).sum
theorem sumC_take (c : List Lt) (k : Nat) (h : k < c.length) : sumC (c.take (k+1)) = sumC (c.take k) + wC (c.getD k lt0) := by
  unfold sumC
  rw [List.take_succ_eq_append_getElem h, List.map_append, List.sum_append]
  simp [List.getD, h]
theorem sumC_all (c : List Lt) (k : Nat) (h : ¬ k < c.length) : sumC (c.take k) = sumC c := by rw [List.take_of_length_le (by omega)]
theorem sumC_le (c : List Lt) (k : Nat) : sumC (c.take k) ≤ sumC c := by
  conv => rhs; rw [← List.take_append_drop k c]
  unfold sumC
  rw [List.map_append, List.sum_append]
  omega
theorem sumC_get (c : List Lt) (k : Nat) (h : k < c.length) : sumC (c.take k) + wC (c.getD k lt0) ≤ sumC c := by
  rw [← sumC_take c k h]; exact sumC_le _ _
theorem sumC_len (c : List Lt) : c.length ≤ sumC c := by
  induction c with
  | nil => simp [sumC]
  | cons x r ih => simp only [sumC, List.map_cons, List.sum_cons, List.length_cons, wC] at *; omega
def shortC (c : List Lt) : Prop := c.length ≤ 1048576 ∧ ∀ j, j < c.length → (c.getD j lt0).2.1.length ≤ 1048576 ∧ (c.getD j lt0).2.2.length ≤ 1048576
theorem shortC_of_sum {c : List Lt} (h : sumC c ≤ 1048576) : shortC c := by
  have := sumC_len c
  refine ⟨by omega, fun j hj => ?_⟩
  have := sumC_get c j hj
  unfold wC at this
  omega
/-- Its terms, literal by literal. -/
def flatC (c : List Lt) : List (List Int) := c.flatMap fun x => [x.2.1, x.2.2]
theorem flatC_nil : flatC [] = [] := rfl
theorem flatC_cons (x : Lt) (c : List Lt) : flatC (x :: c) = x.2.1 :: x.2.2 :: flatC c := rfl
theorem flatC_len (c : List Lt) : (flatC c).length = 2 * c.length := by
  induction c with
  | nil => rfl
  | cons x r ih => rw [flatC_cons]; simp [ih]; omega
theorem flatC_app (c d : List Lt) : flatC (c ++ d) = flatC c ++ flatC d := by simp [flatC]
theorem flatC_get (c : List Lt) (j : Nat) : (flatC c).getD (2*j) [] = (c.getD j lt0).2.1 ∧ (flatC c).getD (2*j+1) [] = (c.getD j lt0).2.2 := by
  induction c generalizing j with
  | nil => simp [flatC, lt0]
  | cons x r ih =>
    cases j with
    | zero => simp [flatC_cons]
    | succ j =>
      rw [flatC_cons, show 2 * (j+1) = (2*j+1) + 1 from by omega]
      simpa [List.getD] using ih j

def marksC (k : Nat) : List Lt → List Lt
  | [] => []
  | x :: r => (decide (k % 3 = 0), marks (k+1) x.2.1.length, marks (k+1+x.2.1.length) x.2.2.length) :: marksC (k + wC x) r
theorem marksC_len (k : Nat) (c : List Lt) : (marksC k c).length = c.length := by
  induction c generalizing k with
  | nil => rfl
  | cons x r ih => simp [marksC, ih]
theorem marksC_app (k : Nat) (c d : List Lt) : marksC k (c ++ d) = marksC k c ++ marksC (k + sumC c) d := by
  induction c generalizing k with
  | nil => simp [marksC, sumC]
  | cons x r ih => simp [marksC, ih, sumC, Nat.add_assoc]
def mark1 (k : Nat) (x : Lt) : Lt := (decide (k % 3 = 0), marks (k+1) x.2.1.length, marks (k+1+x.2.1.length) x.2.2.length)
theorem marksC_get (k : Nat) (c : List Lt) (j : Nat) (h : j < c.length) : (marksC k c).getD j lt0 = mark1 (k + sumC (c.take j)) (c.getD j lt0) := by
  conv => lhs; rw [← List.take_append_drop j c, marksC_app, List.drop_eq_getElem_cons h]
  have hl : (marksC k (c.take j)).length = j := by rw [marksC_len, List.length_take]; omega
  simp only [List.getD]
  rw [List.getElem?_append_right (by omega), hl, Nat.sub_self]
  simp [marksC, mark1, h]
/-- The first j are marked. -/
def markedC (c : List Lt) (k j : Nat) : List Lt := marksC k (c.take j) ++ c.drop j
theorem markedC_zero (c : List Lt) (k : Nat) : markedC c k 0 = c := by simp [markedC, marksC]
theorem markedC_len (c : List Lt) (k j : Nat) (h : j ≤ c.length) : (markedC c k j).length = c.length := by simp [markedC, marksC_len]; omega
theorem markedC_all (c : List Lt) (k j : Nat) (h : ¬ j < c.length) : markedC c k j = marksC k c := by
  unfold markedC
  rw [List.take_of_length_le (by omega), List.drop_eq_nil_of_le (by omega), List.append_nil]
theorem markedC_get (c : List Lt) (k j : Nat) (h : j < c.length) : (markedC c k j).getD j lt0 = c.getD j lt0 := by
  have hl : (marksC k (c.take j)).length = j := by rw [marksC_len, List.length_take]; omega
  unfold markedC
  simp only [List.getD]
  rw [List.getElem?_append_right (by omega), hl, Nat.sub_self]
  simp
theorem markedC_succ (c : List Lt) (k j : Nat) (h : j < c.length) : (markedC c k j).set j (mark1 (k + sumC (c.take j)) (c.getD j lt0)) = markedC c k (j+1) := by
  have hl : (marksC k (c.take j)).length = j := by rw [marksC_len, List.length_take]; omega
  unfold markedC
  rw [List.set_append_right _ _ (by omega), hl, Nat.sub_self, List.drop_eq_getElem_cons h, List.set_cons_zero, List.take_succ_eq_append_getElem h, marksC_app]
  simp [marksC, mark1, List.getD, h]

/-- The slice value v holds literals. -/
def SlC (lo hi : Nat) (w : World) (v : Value) (c : List Lt) : Prop :=
  ∃ ad cap, v = .slice ad c.length cap ∧ c.length ≤ cap ∧ (cap ≤ maxLen ∧ (ad = none → cap = 0)) ∧
    (0 < c.length → ∃ b off, ad = some ⟨b, off, none⟩ ∧ lo ≤ b ∧ b < hi ∧ ∀ j, j < c.length → ∃ u1 u2, w.cell? ⟨b, off + j * 3, none⟩ = some (.bool (c.getD j lt0).1) ∧ w.cell? ⟨b, off + j * 3 + 1, none⟩ = some u1 ∧ w.cell? ⟨b, off + j * 3 + 2, none⟩ = some u2 ∧ SlI lo hi w u1 (c.getD j lt0).2.1 ∧ SlI lo hi w u2 (c.getD j lt0).2.2)
theorem SlC.form {lo hi w v c} (h : SlC lo hi w v c) : ∃ ad k, v = .slice ad c.length k := by obtain ⟨ad, k, h, _⟩ := h; exact ⟨ad, k, h⟩
theorem SlC.mono {lo hi lo' hi' w v c} (h : SlC lo hi w v c) (h1 : lo' ≤ lo) (h2 : hi ≤ hi') : SlC lo' hi' w v c := by
  obtain ⟨ad, cap, rfl, hc, hm, hr⟩ := h
  refine ⟨ad, cap, rfl, hc, hm, fun hp => ?_⟩
  obtain ⟨b, off, e, a1, a2, a3⟩ := hr hp
  refine ⟨b, off, e, by omega, by omega, fun j hj => ?_⟩
  obtain ⟨u1, u2, c1, c2, c3, s1, s2⟩ := a3 j hj
  exact ⟨u1, u2, c1, c2, c3, s1.mono h1 h2, s2.mono h1 h2⟩
theorem cell_same {w w' : World} {a : Addr} {v : Value} (hs : a.block < w.heap.size → w'.heap[a.block]? = w.heap[a.block]?) (h : w.cell? a = some v) : w'.cell? a = some v := by
  rw [World.cell?_of_block (w := w) (a := a) (hs (World.block_lt_of_cell? w a h))]; exact h
theorem SlC.same {lo hi w w' v c} (h : SlC lo hi w v c) (hs : ∀ b, lo ≤ b → b < hi → b < w.heap.size → w'.heap[b]? = w.heap[b]?) : SlC lo hi w' v c := by
  obtain ⟨ad, cap, rfl, hc, hm, hr⟩ := h
  refine ⟨ad, cap, rfl, hc, hm, fun hp => ?_⟩
  obtain ⟨b, off, e, a1, a2, a3⟩ := hr hp
  refine ⟨b, off, e, a1, a2, fun j hj => ?_⟩
  obtain ⟨u1, u2, c1, c2, c3, s1, s2⟩ := a3 j hj
  exact ⟨u1, u2, cell_same (hs b a1 a2) c1, cell_same (hs b a1 a2) c2, cell_same (hs b a1 a2) c3, s1.same hs, s2.same hs⟩
theorem SlC.below {lo hi w w' v c} (h : SlC lo hi w v c) (hb : Bel w w') : SlC lo hi w' v c := h.same fun b _ _ h3 => hb.block b h3
theorem SlC.alloc {lo hi w v c} (h : SlC lo hi w v c) (o : Obj) : SlC lo hi (w.alloc o) v c := h.below (Bel.alloc0 w o)
theorem SlC.k {lo hi w v c} (h : SlC lo hi w v c) : K (fun w => SlC lo hi w v c) w := fun _ hb => h.below hb
theorem SlC.chg {lo hi lo' hi' w w' v c} (h : SlC lo hi w v c) (k : Chg lo' hi' w w') (hd : hi ≤ lo' ∨ hi' ≤ lo) : SlC lo hi w' v c :=
  h.same fun b h1 h2 h3 => k.block b h3 (by omega)
theorem SlC.nil (lo hi : Nat) (w : World) : SlC lo hi w (.slice none 0 0) [] := ⟨none, 0, rfl, Nat.le_refl _, ⟨Nat.zero_le _, fun _ => rfl⟩, fun h => absurd h (by simp)⟩
theorem SlC.len {lo hi : Nat} {w : World} {ad : Option Addr} {k n : Nat} {c : List Lt} (h : SlC lo hi w (.slice ad n k) c) : n = c.length := by
  obtain ⟨ad', cap, e, _⟩ := h
  simp only [Value.slice.injEq] at e
  exact e.2.1
/-- Reading the j-th. -/
theorem SlC.at {lo hi : Nat} {w wr : World} {ad : Option Addr} {k n : Nat} {c : List Lt} (h : SlC lo hi w (.slice ad n k) c) (hb : Bel w wr) (j : Nat) (hj : j < c.length) :
    ∃ b off u1 u2, ad = some ⟨b, off, none⟩ ∧ b < w.heap.size ∧ wr.cell? ⟨b, off + j * 3, none⟩ = some (.bool (c.getD j lt0).1) ∧ wr.cell? ⟨b, off + j * 3 + 1, none⟩ = some u1 ∧ wr.cell? ⟨b, off + j * 3 + 2, none⟩ = some u2 ∧ SlI lo hi wr u1 (c.getD j lt0).2.1 ∧ SlI lo hi wr u2 (c.getD j lt0).2.2 := by
  obtain ⟨ad', cap, e, _, _, hr⟩ := h
  obtain ⟨b, off, e2, _, _, hc⟩ := hr (by omega)
  obtain ⟨u1, u2, c1, c2, c3, s1, s2⟩ := hc j hj
  have h1 := World.block_lt_of_cell? w ⟨b, off + j * 3, none⟩ c1
  simp only [Value.slice.injEq] at e
  exact ⟨b, off, u1, u2, e.1.trans e2, h1, cell_same (fun h => hb.block b h) c1, cell_same (fun h => hb.block b h) c2, cell_same (fun h => hb.block b h) c3, s1.below hb, s2.below hb⟩

/-- A literal's three cells. -/
abbrev LV := Bool × Value × Value
def cellsC (zs : List LV) : List Value := zs.flatMap fun z => [.bool z.1, z.2.1, z.2.2]
def rowsC (zs : List LV) : List Value := zs.flatMap fun z => [z.2.1, z.2.2]
theorem cellsC_len (zs : List LV) : (cellsC zs).length = zs.length * 3 := by
  induction zs with
  | nil => rfl
  | cons x r ih => show (_ :: _ :: _ :: cellsC r).length = _; simp [ih]; omega
theorem rowsC_len (zs : List LV) : (rowsC zs).length = 2 * zs.length := by
  induction zs with
  | nil => rfl
  | cons x r ih => show (_ :: _ :: rowsC r).length = _; simp [ih]; omega
theorem cellsC_get (zs : List LV) (j : Nat) (z : LV) (h : zs[j]? = some z) : (cellsC zs)[j * 3]? = some (.bool z.1) ∧ (cellsC zs)[j * 3 + 1]? = some z.2.1 ∧ (cellsC zs)[j * 3 + 2]? = some z.2.2 := by
  induction zs generalizing j with
  | nil => simp at h
  | cons x r ih =>
    have e : cellsC (x :: r) = .bool x.1 :: x.2.1 :: x.2.2 :: cellsC r := rfl
    cases j with
    | zero => simp at h; subst h; rw [e]; simp
    | succ j =>
      rw [e, show (j + 1) * 3 = j * 3 + 1 + 1 + 1 from by omega]
      simpa using ih j (by simpa using h)
theorem rowsC_get (zs : List LV) (j : Nat) (z : LV) (h : zs[j]? = some z) : (rowsC zs)[2 * j]? = some z.2.1 ∧ (rowsC zs)[2 * j + 1]? = some z.2.2 := by
  induction zs generalizing j with
  | nil => simp at h
  | cons x r ih =>
    have e : rowsC (x :: r) = x.2.1 :: x.2.2 :: rowsC r := rfl
    cases j with
    | zero => simp at h; subst h; rw [e]; simp
    | succ j =>
      rw [e, show 2 * (j + 1) = 2 * j + 1 + 1 from by omega]
      simpa using ih j (by simpa using h)
theorem rowsC_app (zs ys : List LV) : rowsC (zs ++ ys) = rowsC zs ++ rowsC ys := by simp [rowsC]
theorem cellsC_app (zs ys : List LV) : cellsC (zs ++ ys) = cellsC zs ++ cellsC ys := by simp [cellsC]
theorem cellsC_one (zs : List LV) (h : ∀ z ∈ zs, z.2.1.oneCell' = true ∧ z.2.2.oneCell' = true) : ∀ u ∈ cellsC zs, u.oneCell' = true := by
  intro u hu
  obtain ⟨z, hz, hm⟩ := List.mem_flatMap.1 hu
  have := h z hz
  simp at hm
  rcases hm with rfl | rfl | rfl
  · rfl
  · exact this.1
  · exact this.2

/-- Literals of the call's own, each term in a block of its own. -/
def OwnC (lo hi : Nat) (w : World) (v : Value) (c : List Lt) : Prop :=
  ∃ ad cap, v = .slice ad c.length cap ∧ c.length ≤ cap ∧ (cap ≤ maxLen ∧ (ad = none → cap = 0)) ∧
    (0 < c.length → ∃ b off zs bs, ad = some ⟨b, off, none⟩ ∧ lo ≤ b ∧ b < hi ∧ zs.length = c.length ∧
      (∀ j z, zs[j]? = some z → z.1 = (c.getD j lt0).1 ∧ w.cell? ⟨b, off + j * 3, none⟩ = some (.bool z.1) ∧ w.cell? ⟨b, off + j * 3 + 1, none⟩ = some z.2.1 ∧ w.cell? ⟨b, off + j * 3 + 2, none⟩ = some z.2.2) ∧
      (∀ i, w.frozen? ⟨b, i, none⟩ = false) ∧ Ins lo hi b w (rowsC zs) (flatC c) bs)
theorem OwnC.sl {lo hi w v c} (h : OwnC lo hi w v c) : SlC lo hi w v c := by
  obtain ⟨ad, cap, rfl, hc, hm, hr⟩ := h
  refine ⟨ad, cap, rfl, hc, hm, fun hp => ?_⟩
  obtain ⟨b, off, zs, bs, e, a1, a2, hl, a3, _, hi⟩ := hr hp
  refine ⟨b, off, e, a1, a2, fun j hj => ?_⟩
  have hz : zs[j]? = some zs[j] := List.getElem?_eq_getElem (by omega)
  obtain ⟨e1, c1, c2, c3⟩ := a3 j _ hz
  obtain ⟨r1, r2⟩ := rowsC_get zs j _ hz
  have s1 := hi.sl _ _ r1
  have s2 := hi.sl _ _ r2
  rw [(flatC_get c j).1] at s1
  rw [(flatC_get c j).2] at s2
  exact ⟨_, _, by rw [← e1]; exact c1, c2, c3, s1, s2⟩
theorem OwnC.same {lo hi w w' v c} (h : OwnC lo hi w v c) (hs : ∀ b, lo ≤ b → b < hi → b < w.heap.size → w'.heap[b]? = w.heap[b]?) : OwnC lo hi w' v c := by
  obtain ⟨ad, cap, rfl, hc, hm, hr⟩ := h
  refine ⟨ad, cap, rfl, hc, hm, fun hp => ?_⟩
  obtain ⟨b, off, zs, bs, e, a1, a2, hl, a3, hf, hi⟩ := hr hp
  have hb : b < w.heap.size := by
    have hz : zs[0]? = some zs[0] := List.getElem?_eq_getElem (by omega)
    exact World.block_lt_of_cell? w ⟨b, off + 0 * 3, none⟩ (a3 0 _ hz).2.1
  refine ⟨b, off, zs, bs, e, a1, a2, hl, fun j z hz => ?_, fun i => ?_, hi.same hs⟩
  · obtain ⟨e1, c1, c2, c3⟩ := a3 j z hz
    exact ⟨e1, cell_same (hs b a1 a2) c1, cell_same (hs b a1 a2) c2, cell_same (hs b a1 a2) c3⟩
  · rw [World.frozen?_of_block (w := w) (a := ⟨b, i, none⟩) (hs b a1 a2 hb)]; exact hf i
theorem OwnC.below {lo hi w w' v c} (h : OwnC lo hi w v c) (hb : Bel w w') : OwnC lo hi w' v c := h.same fun b _ _ h3 => hb.block b h3
theorem OwnC.alloc {lo hi w v c} (h : OwnC lo hi w v c) (o : Obj) : OwnC lo hi (w.alloc o) v c := h.below (Bel.alloc0 w o)
theorem OwnC.k {lo hi w v c} (h : OwnC lo hi w v c) : K (fun w => OwnC lo hi w v c) w := fun _ hb => h.below hb
theorem OwnC.chg {lo hi lo' hi' w w' v c} (h : OwnC lo hi w v c) (k : Chg lo' hi' w w') (hd : hi ≤ lo' ∨ hi' ≤ lo) : OwnC lo hi w' v c :=
  h.same fun b h1 h2 h3 => k.block b h3 (by omega)
theorem OwnC.mono {lo hi lo' hi' w v c} (h : OwnC lo hi w v c) (h1 : lo' ≤ lo) (h2 : hi ≤ hi') : OwnC lo' hi' w v c := by
  obtain ⟨ad, cap, rfl, hc, hm, hr⟩ := h
  refine ⟨ad, cap, rfl, hc, hm, fun hp => ?_⟩
  obtain ⟨b, off, zs, bs, e, a1, a2, hl, a3, hf, hi⟩ := hr hp
  exact ⟨b, off, zs, bs, e, by omega, by omega, hl, a3, hf, hi.mono h1 h2⟩
theorem OwnC.nil (lo hi : Nat) (w : World) : OwnC lo hi w (.slice none 0 0) [] := ⟨none, 0, rfl, Nat.le_refl _, ⟨Nat.zero_le _, fun _ => rfl⟩, fun h => absurd h (by simp)⟩
/-- A row that the call itself made, as a slice of literals. -/
theorem OwnC.of_row {w : World} {base e hi : Nat} {v : Value} {zs : List LV} {c : List Lt} {bs : Nat → Nat} (h : w.ownsRow base e 3 v c.length (cellsC zs)) (hi' : w.heap.size ≤ hi)
    (hp : zs.map (·.1) = c.map (·.1)) (hin : ∀ g, v.ownBlock = some g → Ins base hi g w (rowsC zs) (flatC c) bs) : OwnC base hi w v c := by
  have h0 := h
  have hzl : zs.length = c.length := by simpa using congrArg List.length hp
  obtain ⟨h1, h2⟩ := h
  rcases h2 with ⟨rfl, hn⟩ | ⟨g, cap, cur, rfl, hg, hh, hn, hc, hs, ht⟩
  · obtain rfl : c = [] := List.length_eq_zero_iff.1 hn
    exact OwnC.nil _ _ _
  · have hgs : g < w.heap.size := (Array.getElem?_eq_some_iff.1 hh).1
    refine ⟨_, cap, rfl, hn, ⟨hc, fun h => by simp at h⟩, fun _ => ⟨g, 0, zs, bs, rfl, hg, by omega, hzl, fun j z hz => ?_, fun i => ?_, hin g rfl⟩⟩
    · have hj : j < zs.length := (List.getElem?_eq_some_iff.1 hz).1
      obtain ⟨c1, c2, c3⟩ := cellsC_get zs j z hz
      have hcell : ∀ i, i < c.length * 3 → w.cell? ⟨g, 0 + i, none⟩ = (cellsC zs)[i]? := fun i hi => by rw [Nat.zero_add]; exact h0.cellAt i hi
      refine ⟨?_, by rw [hcell _ (by omega)]; exact c1, by rw [Nat.add_assoc, hcell _ (by omega)]; exact c2, by rw [Nat.add_assoc, hcell _ (by omega)]; exact c3⟩
      have := congrArg (fun l => l[j]?) hp
      simp only [List.getElem?_map, hz, Option.map_some] at this
      rw [List.getD_eq_getElem?_getD]
      cases hcj : c[j]? with
      | none => rw [hcj] at this; simp at this
      | some y => rw [hcj] at this; simpa using this
    · simp [World.frozen?, hh]
def RetC (w : World) (c : List Lt) (e : Ending) (w' : World) : Prop := ∃ ad n k, e = .returned (.slice ad n k) ∧ OwnC w.heap.size w'.heap.size w' (.slice ad n k) c ∧ Bel w w'
def RetCB (w : World) (c : List Lt) (ok : Bool) (e : Ending) (w' : World) : Prop := ∃ ad n k, e = .returned (.tuple #[.slice ad n k, .bool ok]) ∧ OwnC w.heap.size w'.heap.size w' (.slice ad n k) c ∧ Bel w w'
end Go.Proofs.YteegjnobmbcjiaaGreatDoor
end
section
/- Lists of terms that are valid: both functions; the reference's also at signs that are not. -/
namespace Go.Proofs.YteegjnobmbcjiaaGreatDoor
open Go.RowKit

def goodTerms (ar : List Int) (b : List (List Int)) (m : Nat) : Bool := goodSign ar && decide (b.length ≤ m) && b.all (okTerm ar)
theorem goodTerms_iff {ar : List Int} {b : List (List Int)} {m : Nat} : goodTerms ar b m = true ↔ goodSign ar = true ∧ b.length ≤ m ∧ ∀ t ∈ b, okTerm ar t = true := by
  simp only [goodTerms, Bool.and_eq_true, decide_eq_true_eq, List.all_eq_true]
  constructor
  · rintro ⟨⟨h1, h2⟩, h3⟩; exact ⟨h1, h2, h3⟩
  · rintro ⟨h1, h2, h3⟩; exact ⟨⟨h1, h2⟩, h3⟩

set_option maxRecDepth 100000 in
set_option maxHeartbeats 400000 in
theorem goodTerms_c (l h l' h' : Nat) (v u : Value) (ar : List Int) (b : List (List Int)) (m : Nat) (w : World) (hmm : m ≤ 1000) (ha : ar.length ≤ 1048576) (hv : SlI l h w v ar) (hb : short b) (hu : SlS l' h' w u b) :
    Calls Tryz.prog 73 #[.agg #[v], u, .int .i64 m] w (RetV w (.bool (goodTerms ar b m))) := by
  obtain ⟨ad', cap', rfl⟩ := hu.form
  obtain ⟨-, hm⟩ := hb
  by_cases hl : b.length ≤ m
  · have hl2 : decide (m < b.length) = false := by simp; omega
    cases hs : goodSign ar with
    | false =>
      have E : Hid (goodTerms ar b m = false) := by show _ = _; simp [goodTerms, hs]
      have HS := Lib.hid hs; clear hs
      go_enter Tryz.func73, Tryz.ntmps73
      go_wp2_with fail
      refine (iGoodSign_v _ _ _ _ _ _ HS.out ha (hv.alloc _)).mono ?_; rintro e w' ⟨rfl, hb1⟩
      go_wp2_with fail
      go_ret
      exact ⟨by rw [E.out]; rfl, hb1.of_alloc⟩
    | true =>
      have hG : Hid (goodTerms ar b m = b.all (okTerm ar)) := by show _ = _; simp [goodTerms, hs, hl]
      have hg := hs
      have HS := Lib.hid hs; clear hs
      go_enter Tryz.func73, Tryz.ntmps73
      go_wp2_with fail
      refine (iGoodSign_v _ _ _ _ _ _ HS.out ha (hv.alloc _)).mono ?_; rintro e w1 ⟨rfl, hb1⟩
      have hbox := boxc hb1 0 _ rfl
      go_wp2_with fail
      go_loopw [20] (fun i wr => ∃ k : Nat, k ≤ b.length ∧ i = .int .i64 k ∧ (b.take k).all (okTerm ar) = true ∧ Bel (w.alloc (.cells #[v] 33)) wr) (fun i _ => b.length - (intOf i).toNat)
      case atStart => exact ⟨0, Nat.zero_le _, rfl, rfl, hb1⟩
      case round =>
        obtain ⟨k, hk, rfl, hall, hb2⟩ := hrel
        have hbox2 := boxc hb2 0 _ rfl
        by_cases hlt : k < b.length
        · obtain ⟨bb, off, p, rfl, -, hc, hp⟩ := hu.at hb2.of_alloc k hlt
          have hmk := hm k hlt
          have hsp := all_splitS b (okTerm ar) k hlt hall
          have hfs := all_falseS b (okTerm ar) k hlt
          clear hm hu hbox hall
          generalize b.getD k [] = t at *
          obtain ⟨ap, cp, rfl⟩ := hp.form
          cases ht : okTerm ar t with
          | false =>
            have E : Hid (goodTerms ar b m = false) := by show _ = _; rw [hG.out]; exact hfs ht
            have HT := Lib.hid ht
            clear ht hsp hfs
            go_wp2_with fail
            refine (iGoodTerm_vv _ _ _ _ _ _ _ _ _ _ HT.out hg ha (by omega) (hv.below hb2.of_alloc) hp).mono ?_; rintro e w2 ⟨rfl, hb3⟩
            go_wp2_with fail
            go_ret
            exact ⟨by rw [E.out]; rfl, hb2.of_alloc.step hb3⟩
          | true =>
            have HA := Lib.hid (hsp.trans ht)
            have HT := Lib.hid ht
            clear ht hsp hfs
            go_wp2_with fail
            refine (iGoodTerm_vv _ _ _ _ _ _ _ _ _ _ HT.out hg ha (by omega) (hv.below hb2.of_alloc) hp).mono ?_; rintro e w2 ⟨rfl, hb3⟩
            go_wp2_with fail
            go_roundw
            case rel => exact ⟨k+1, by omega, by go_num, HA.out, hb2.step hb3⟩
            case measure => simp [intOf]; omega
        · have E : Hid (goodTerms ar b m = true) := by show _ = _; rw [hG.out]; exact all_doneS b _ k hk hlt hall
          clear hall
          go_wp2_with fail
          go_ret
          exact ⟨by rw [E.out]; rfl, hb2.of_alloc⟩
  · have E : Hid (goodTerms ar b m = false) := by show _ = _; simp [goodTerms, hl]
    have hl2 : decide (m < b.length) = true := by simp; omega
    go_enter Tryz.func73, Tryz.ntmps73
    go_wp2_with fail
    go_ret
    exact ⟨by rw [E.out]; rfl, Bel.alloc0 _ _⟩
theorem goodTerms_v (l h l' h' : Nat) (v u : Value) (ar : List Int) (b : List (List Int)) (m : Nat) (q : Bool) (w : World) (he : goodTerms ar b m = q) (hmm : m ≤ 1000) (ha : ar.length ≤ 1048576) (hv : SlI l h w v ar) (hb : short b) (hu : SlS l' h' w u b) :
    Calls Tryz.prog 73 #[.agg #[v], u, .int .i64 m] w (RetV w (.bool q)) := he ▸ goodTerms_c l h l' h' v u ar b m w hmm ha hv hb hu

/-- Whatever the sign: an answer comes. -/
def RetN (w : World) (e : Ending) (w' : World) : Prop := ∃ x : Int, e = .returned (.int .i64 x) ∧ Bel w w'
def RetB (w : World) (e : Ending) (w' : World) : Prop := ∃ b, e = .returned (.bool b) ∧ Bel w w'
theorem l1End_any (l h l' h' : Nat) (v u : Value) (ar t : List Int) (w : World) (ha : ar.length ≤ 1048576) (ht : t.length ≤ 1048576) (hv : SlI l h w v ar) (hu : SlI l' h' w u t) :
    Calls Tryz.prog 127 #[.agg #[v], u, .int .i64 0] w (RetN w) := by
  obtain ⟨ad, cap, rfl, -, -, hr⟩ := hv
  obtain ⟨ad', cap', rfl, -, -, hr'⟩ := hu
  go_enter Tryz.func127, Tryz.ntmps127
  go_wp2_with fail
  go_loopw [2, 7] (fun a n wr => ∃ (p : Nat) (m : Int), p ≤ t.length ∧ a = .int .i64 p ∧ n = .int .i64 m ∧ Bel (w.alloc (.cells #[.slice ad ar.length cap] 33)) wr) (fun a _ _ => t.length + 1 - (intOf a).toNat)
  case atStart => exact ⟨0, 1, Nat.zero_le _, rfl, rfl, Bel.rfl' _⟩
  case round =>
    obtain ⟨p, m, hp, rfl, rfl, hb⟩ := hrel
    have hbox := boxc hb 0 _ rfl
    by_cases hm : 0 < m
    · have hm1 : decide (m > 0) = true := by simpa using hm
      by_cases hlt : p < t.length
      · obtain ⟨b', off', rfl, -, hcell'⟩ := rd hr' hb.of_alloc p hlt
        clear hr'
        generalize t.getD p 0 = x at *
        have hw1 := IntWalk.i64_in ((ar.length : Int) - 1) (by omega)
        cases hs : inB x (-12) ((ar.length : Int) - 1) with
        | false =>
          have HS := Lib.hid hs; clear hs
          go_wp2_with fail
          go_quiet ((go_at_call 88; exact Calls.quiet_of_same (l1In_qv _ _ _ _ HS.out _)))
          go_wp2
          go_ret
          exact ⟨_, rfl, hb.of_alloc.drewN _⟩
        | true =>
          have HS := Lib.hid hs
          by_cases hx : x < 0
          · clear hs
            have hx' : decide (x ≥ 0) = false := by simp; omega
            go_wp2_with fail
            go_quiet ((go_at_call 88; exact Calls.quiet_of_same (l1In_qv _ _ _ _ HS.out _)))
            go_wp2
            go_roundw
            case rel => exact ⟨p+1, _, by omega, by go_num, rfl, hb.drewN _⟩
            case measure => simp [intOf]; omega
          · obtain ⟨k, rfl⟩ : ∃ k : Nat, x = k := ⟨x.toNat, by omega⟩
            have hk : k < ar.length := by simp [inB] at hs; omega
            clear hs
            obtain ⟨b, off, rfl, -, hcell⟩ := rd hr hb.of_alloc k hk
            clear hr
            generalize ar.getD k 0 = q at *
            have hk2 : (k : Int) < ar.length := by omega
            go_wp2_with fail
            go_quiet ((go_at_call 88; exact Calls.quiet_of_same (l1In_qv _ _ _ _ HS.out _)))
            go_wp2
            go_quiet (fail)
            go_wp2
            go_roundw
            case rel => exact ⟨p+1, _, by omega, by go_num, rfl, hb.drewN _⟩
            case measure => simp [intOf]; omega
      · have hge : decide ((p : Int) ≥ t.length) = true := by simp; omega
        go_wp2_with fail
        go_quiet (fail)
        go_wp2
        go_ret
        exact ⟨_, rfl, hb.of_alloc.drewN _⟩
    · have hm1 : decide (m > 0) = false := by simpa using hm
      go_wp2_with fail
      go_ret
      exact ⟨_, rfl, hb.of_alloc⟩
theorem l1Term_any (l h l' h' : Nat) (v u : Value) (ar t : List Int) (w : World) (ha : ar.length ≤ 1048576) (ht : t.length ≤ 1048576) (hv : SlI l h w v ar) (hu : SlI l' h' w u t) :
    Calls Tryz.prog 90 #[.agg #[v], u] w (RetB w) := by
  have hu0 := hu
  obtain ⟨ad', cap', rfl⟩ := hu.form
  cases hs : inB t.length 1 40 with
  | false =>
    have HS := Lib.hid hs; clear hs
    go_enter Tryz.func90, Tryz.ntmps90
    go_wp2_with (go_at_call 88; refine (l1In_f _ _ _ _ HS.out).mono ?_; rintro e w' ⟨rfl, hb1⟩)
    go_ret
    exact ⟨_, rfl, hb1.of_alloc⟩
  | true =>
    have HS := Lib.hid hs; clear hs
    go_enter Tryz.func90, Tryz.ntmps90
    go_wp2_with fail
    refine (l1In_t _ _ _ _ HS.out).mono ?_; rintro e w' ⟨rfl, hb1⟩
    have hx1 := boxc hb1 0 _ rfl
    go_wp2_with fail
    refine (l1End_any _ _ _ _ _ _ ar t _ ha ht (hv.below hb1.of_alloc) (hu0.below hb1.of_alloc)).mono ?_; rintro e w2 ⟨x, rfl, hb2⟩
    go_wp2_with fail
    go_ret
    exact ⟨_, rfl, hb1.of_alloc.step hb2⟩

end Go.Proofs.YteegjnobmbcjiaaGreatDoor
end
section
/- Apply, IsUnifier: both functions. -/
namespace Go.Proofs.YteegjnobmbcjiaaGreatDoor
open Go.RowKit

def unifAns (ar : List Int) (b : List (List Int)) (t r : List Int) : Bool := applyOk ar b t && applyOk ar b r && decide (applyAns ar b t = applyAns ar b r)

end Go.Proofs.YteegjnobmbcjiaaGreatDoor
end
section
/- RenameOf: both functions. -/
namespace Go.Proofs.YteegjnobmbcjiaaGreatDoor
open Go.RowKit

def renameOk (ar : List Int) (b : List (List Int)) : Bool := goodSign ar && decide (b.length ≤ 20) && b.all (okTerm ar)
def renameAns (ar : List Int) (b : List (List Int)) : List (List Int) := if renameOk ar b then renS [] b else []
theorem renameAns_no {ar : List Int} {b : List (List Int)} (h : renameOk ar b = false) : renameAns ar b = [] := by simp [renameAns, h]
theorem renameAns_yes {ar : List Int} {b : List (List Int)} (h : renameOk ar b = true) : renameAns ar b = renS [] b := by simp [renameAns, h]
theorem renameOk_iff {ar : List Int} {b : List (List Int)} : renameOk ar b = true ↔ goodSign ar = true ∧ b.length ≤ 20 ∧ ∀ t ∈ b, okTerm ar t = true := by
  simp only [renameOk, Bool.and_eq_true, decide_eq_true_eq, List.all_eq_true]
  constructor
  · rintro ⟨⟨h1, h2⟩, h3⟩; exact ⟨h1, h2, h3⟩
  · rintro ⟨h1, h2, h3⟩; exact ⟨⟨h1, h2⟩, h3⟩
theorem renameOk_rows {ar : List Int} {b : List (List Int)} (h : renameOk ar b = true) : rows40 b := by
  obtain ⟨_, h2, h3⟩ := renameOk_iff.1 h
  refine ⟨h2, fun j hj => ?_⟩
  have ho := h3 (b.getD j []) (by simp [List.getD, hj])
  exact ⟨((okTerm_iff _ _).1 ho).2.1, okTerm_low ho⟩
theorem sumL_le40 (l : List (List Int)) (h : ∀ t ∈ l, t.length ≤ 40) : sumL l ≤ 40 * l.length := by
  unfold sumL
  induction l with
  | nil => simp
  | cons x r ih =>
    have h1 := ih (fun t ht => h t (List.mem_cons_of_mem _ ht))
    have h2 := h x List.mem_cons_self
    simp only [List.map_cons, List.sum_cons, List.length_cons]
    omega
theorem renS_lens (met : List Int) (l : List (List Int)) (h : ∀ t ∈ l, t.length ≤ 40) : ∀ t ∈ renS met l, t.length ≤ 40 := by
  induction l generalizing met with
  | nil => intro t ht; simp [renS] at ht
  | cons x r ih =>
    intro t ht
    simp only [renS, List.mem_cons] at ht
    rcases ht with rfl | ht
    · rw [renT_len]; exact h x List.mem_cons_self
    · exact ih _ (fun t ht => h t (List.mem_cons_of_mem _ ht)) t ht
theorem renameAns_len (ar : List Int) (b : List (List Int)) : tot (renameAns ar b) ≤ 1048576 := by
  unfold renameAns
  split
  · rename_i h
    have hr := renameOk_rows h
    have h1 := sumL_le40 _ (renS_lens [] b hr.mem)
    have h2 := hr.1
    unfold tot
    rw [renS_len] at h1 ⊢
    omega
  · simp [tot, sumL]

end Go.Proofs.YteegjnobmbcjiaaGreatDoor
end
section
/- The ordering, plainly. No program. -/
namespace Go.Proofs.YteegjnobmbcjiaaGreatDoor
open Go.RowKit

theorem cntI_count (t : List Int) (n : Int) : cntI t n = t.count n := by unfold cntI; rw [List.count_eq_countP, List.countP_eq_length_filter]
/-- Every variable occurs in a at least as often. -/
def covers (a b : List Int) : Bool := b.all fun n => decide (0 ≤ n) || decide (cntI b n ≤ cntI a n)
theorem covers_iff {a b : List Int} : covers a b = true ↔ ∀ n, n < 0 → b.count n ≤ a.count n := by
  unfold covers
  rw [List.all_eq_true]
  constructor
  · intro h n hn
    by_cases hm : n ∈ b
    · have := h n hm
      simp only [Bool.or_eq_true, decide_eq_true_eq, cntI_count] at this
      omega
    · rw [List.count_eq_zero_of_not_mem hm]; omega
  · intro h n _
    by_cases hn : 0 ≤ n
    · simp [hn]
    · have := h n (by omega)
      simp only [Bool.or_eq_true, decide_eq_true_eq, cntI_count]
      omega
/-- At the first difference both have symbols, and the first's is the greater one. -/
def winF : List Int → List Int → Bool
  | x :: a, y :: b => if x = y then winF a b else decide (0 ≤ y) && decide (y < x)
  | _, _ => false
theorem winF_irrefl (a : List Int) : winF a a = false := by
  induction a with
  | nil => rfl
  | cons x a ih => simp [winF, ih]
theorem winF_asymm (a b : List Int) (h : winF a b = true) : winF b a = false := by
  induction a generalizing b with
  | nil => simp [winF] at h
  | cons x a ih =>
    cases b with
    | nil => simp [winF] at h
    | cons y b =>
      unfold winF at h ⊢
      by_cases e : x = y
      · rw [if_pos e] at h; rw [if_pos e.symm]; exact ih b h
      · rw [if_neg e] at h; rw [if_neg (Ne.symm e)]
        simp only [Bool.and_eq_true, decide_eq_true_eq] at h
        simp; omega
theorem winF_trans (a b c : List Int) (h : winF a b = true) (k : winF b c = true) : winF a c = true := by
  induction a generalizing b c with
  | nil => simp [winF] at h
  | cons x a ih =>
    cases b with
    | nil => simp [winF] at h
    | cons y b =>
      cases c with
      | nil => simp [winF] at k
      | cons z c =>
        unfold winF at h k ⊢
        by_cases e : x = y
        · rw [if_pos e] at h
          by_cases e2 : y = z
          · rw [if_pos e2] at k; rw [if_pos (e.trans e2)]; exact ih b c h k
          · rw [if_neg e2] at k; rw [if_neg (by rw [e]; exact e2), e]; exact k
        · rw [if_neg e] at h
          simp only [Bool.and_eq_true, decide_eq_true_eq] at h
          by_cases e2 : y = z
          · rw [if_neg (by omega)]; simp; omega
          · rw [if_neg e2] at k
            simp only [Bool.and_eq_true, decide_eq_true_eq] at k
            rw [if_neg (by omega)]; simp; omega
theorem winF_left (p a b : List Int) : winF (p ++ a) (p ++ b) = winF a b := by
  induction p with
  | nil => rfl
  | cons x p ih => simp [winF, ih]
theorem winF_right (a b q r : List Int) (h : winF a b = true) : winF (a ++ q) (b ++ r) = true := by
  induction a generalizing b with
  | nil => simp [winF] at h
  | cons x a ih =>
    cases b with
    | nil => simp [winF] at h
    | cons y b =>
      simp only [List.cons_append]
      unfold winF at h ⊢
      by_cases e : x = y
      · rw [if_pos e] at h ⊢; exact ih b h
      · rw [if_neg e] at h ⊢; exact h
theorem winF_total (a b : List Int) (hl : a.length = b.length) (ha : ∀ n ∈ a, 0 ≤ n) (hb : ∀ n ∈ b, 0 ≤ n) (hne : a ≠ b) : winF a b = true ∨ winF b a = true := by
  induction a generalizing b with
  | nil => cases b with
    | nil => exact absurd rfl hne
    | cons y b => simp at hl
  | cons x a ih =>
    cases b with
    | nil => simp at hl
    | cons y b =>
      unfold winF
      by_cases e : x = y
      · rw [if_pos e, if_pos e.symm]
        exact ih b (by simpa using hl) (fun n h => ha n (List.mem_cons_of_mem _ h)) (fun n h => hb n (List.mem_cons_of_mem _ h)) (by rintro rfl; exact hne (by rw [e]))
      · rw [if_neg e, if_neg (Ne.symm e)]
        have h1 := ha x List.mem_cons_self
        have h2 := hb y List.mem_cons_self
        simp only [Bool.and_eq_true, decide_eq_true_eq]
        omega
theorem one1_sym0 {s : List (List Int)} {n : Int} (h : 0 ≤ n) : one1 s n = [n] := by unfold one1; rw [if_neg (by omega)]
theorem one1_posK (s : List (List Int)) (n : Int) : 1 ≤ (one1 s n).length := by
  unfold one1; split
  · rename_i h; exact h.2
  · simp
theorem winF_app (s : List (List Int)) (a b : List Int) (h : winF a b = true) : winF (appT s a) (appT s b) = true := by
  induction a generalizing b with
  | nil => simp [winF] at h
  | cons x a ih =>
    cases b with
    | nil => simp [winF] at h
    | cons y b =>
      unfold winF at h
      by_cases e : x = y
      · rw [if_pos e] at h
        have := ih b h
        unfold appT at this ⊢
        rw [List.flatMap_cons, List.flatMap_cons, e, winF_left]; exact this
      · rw [if_neg e] at h
        simp only [Bool.and_eq_true, decide_eq_true_eq] at h
        unfold appT
        rw [List.flatMap_cons, List.flatMap_cons, one1_sym0 (s := s) h.1, one1_sym0 (s := s) (n := x) (by omega)]
        simp only [List.cons_append, List.nil_append]
        unfold winF
        rw [if_neg e]; simp; omega

/-- a is greater than b. -/
def above (a b : List Int) : Bool := covers a b && (decide (b.length < a.length) || (decide (a.length = b.length) && winF a b))
theorem above_iff {a b : List Int} : above a b = true ↔ (∀ n, n < 0 → b.count n ≤ a.count n) ∧ (b.length < a.length ∨ (a.length = b.length ∧ winF a b = true)) := by
  unfold above
  simp only [Bool.and_eq_true, Bool.or_eq_true, decide_eq_true_eq, covers_iff]
theorem above_irrefl (a : List Int) : above a a = false := by
  rw [Bool.eq_false_iff]; intro h
  obtain ⟨_, h | h⟩ := above_iff.1 h
  · omega
  · rw [winF_irrefl] at h; simp at h
theorem above_asymm {a b : List Int} (h : above a b = true) : above b a = false := by
  rw [Bool.eq_false_iff]; intro k
  obtain ⟨_, h⟩ := above_iff.1 h
  obtain ⟨_, k⟩ := above_iff.1 k
  rcases h with h | ⟨h, hw⟩ <;> rcases k with k | ⟨k, kw⟩
  · omega
  · omega
  · omega
  · rw [winF_asymm _ _ hw] at kw; simp at kw
theorem above_trans {a b c : List Int} (h : above a b = true) (k : above b c = true) : above a c = true := by
  obtain ⟨h1, h⟩ := above_iff.1 h
  obtain ⟨k1, k⟩ := above_iff.1 k
  refine above_iff.2 ⟨fun n hn => Nat.le_trans (k1 n hn) (h1 n hn), ?_⟩
  rcases h with h | ⟨h, hw⟩ <;> rcases k with k | ⟨k, kw⟩
  · left; omega
  · left; omega
  · left; omega
  · exact .inr ⟨by omega, winF_trans _ _ _ hw kw⟩
theorem above_total {a b : List Int} (ha : ∀ n ∈ a, 0 ≤ n) (hb : ∀ n ∈ b, 0 ≤ n) (hne : a ≠ b) : above a b = true ∨ above b a = true := by
  have z : ∀ (l : List Int), (∀ n ∈ l, 0 ≤ n) → ∀ n, n < 0 → l.count n = 0 := fun l hl n hn => List.count_eq_zero_of_not_mem fun hm => by have := hl n hm; omega
  have c1 : ∀ n, n < 0 → b.count n ≤ a.count n := fun n hn => by rw [z b hb n hn]; omega
  have c2 : ∀ n, n < 0 → a.count n ≤ b.count n := fun n hn => by rw [z a ha n hn]; omega
  rcases Nat.lt_trichotomy a.length b.length with h | h | h
  · exact .inr (above_iff.2 ⟨c2, .inl h⟩)
  · rcases winF_total a b h ha hb hne with k | k
    · exact .inl (above_iff.2 ⟨c1, .inr ⟨h, k⟩⟩)
    · exact .inr (above_iff.2 ⟨c2, .inr ⟨h.symm, k⟩⟩)
  · exact .inl (above_iff.2 ⟨c1, .inl h⟩)
theorem above_ctx {a b : List Int} (p q : List Int) (h : above a b = true) : above (p ++ a ++ q) (p ++ b ++ q) = true := by
  obtain ⟨h1, h⟩ := above_iff.1 h
  refine above_iff.2 ⟨fun n hn => ?_, ?_⟩
  · have := h1 n hn; simp only [List.count_append]; omega
  · rcases h with h | ⟨h, hw⟩
    · left; simp only [List.length_append]; omega
    · refine .inr ⟨by simp only [List.length_append]; omega, ?_⟩
      rw [List.append_assoc, List.append_assoc, winF_left]; exact winF_right _ _ _ _ hw
theorem above_part (p u q : List Int) (h : 0 < p.length + q.length) : above (p ++ u ++ q) u = true := by
  refine above_iff.2 ⟨fun n _ => ?_, .inl ?_⟩
  · simp only [List.count_append]; omega
  · simp only [List.length_append]; omega
theorem sum_perm {a b : List Int} (g : Int → Nat) (h : a.Perm b) : (a.map g).sum = (b.map g).sum := by
  induction h with
  | nil => rfl
  | cons x _ ih => simp [ih]
  | swap x y l => simp; omega
  | trans _ _ h1 h2 => exact h1.trans h2
theorem sum_mono (g : Int → Nat) (hg : ∀ n, 0 ≤ n → g n = 0) (a b : List Int) (h : ∀ n, n < 0 → b.count n ≤ a.count n) : (b.map g).sum ≤ (a.map g).sum := by
  induction b generalizing a with
  | nil => simp
  | cons n b ih =>
    by_cases hn : 0 ≤ n
    · have := ih a (fun m hm => by have h2 := h m hm; rw [List.count_cons] at h2; omega)
      simp [hg n hn]; exact this
    · have h1 := h n (by omega)
      rw [List.count_cons_self] at h1
      have hm : n ∈ a := List.count_pos_iff.1 (by omega)
      have hp := List.perm_cons_erase hm
      rw [sum_perm g hp]
      have := ih (a.erase n) (fun m hm => by
        have h2 := h m hm
        have h3 := hp.count_eq m
        rw [List.count_cons] at h2 h3
        omega)
      simp; exact this
theorem count_app (s : List (List Int)) (a : List Int) (n : Int) (hn : n < 0) : (appT s a).count n = (a.map fun m => if m < 0 then (one1 s m).count n else 0).sum := by
  unfold appT
  induction a with
  | nil => rfl
  | cons m a ih =>
    rw [List.flatMap_cons, List.count_append, ih, List.map_cons, List.sum_cons]
    congr 1
    by_cases hm : m < 0
    · rw [if_pos hm]
    · rw [if_neg hm, one1_sym0 (by omega)]
      exact List.count_eq_zero_of_not_mem (by simp; omega)
theorem len_app (s : List (List Int)) (a : List Int) : (appT s a).length = a.length + (a.map fun m => if m < 0 then (one1 s m).length - 1 else 0).sum := by
  unfold appT
  induction a with
  | nil => rfl
  | cons m a ih =>
    rw [List.flatMap_cons, List.length_append, ih, List.map_cons, List.sum_cons, List.length_cons]
    have := one1_posK s m
    by_cases hm : m < 0
    · rw [if_pos hm]; omega
    · rw [if_neg hm, one1_sym0 (by omega)]; simp; omega
theorem above_app {a b : List Int} (s : List (List Int)) (h : above a b = true) : above (appT s a) (appT s b) = true := by
  obtain ⟨h1, h⟩ := above_iff.1 h
  have hl := sum_mono (fun m => if m < 0 then (one1 s m).length - 1 else 0) (fun n hn => by show (if _ then _ else _) = 0; rw [if_neg (by omega)]) a b h1
  have e1 := len_app s a
  have e2 := len_app s b
  refine above_iff.2 ⟨fun n hn => ?_, ?_⟩
  · rw [count_app s a n hn, count_app s b n hn]
    exact sum_mono _ (fun m hm => by show (if _ then _ else _) = 0; rw [if_neg (by omega)]) a b h1
  · by_cases hlt : (appT s b).length < (appT s a).length
    · exact .inl hlt
    · rcases h with h | ⟨h, hw⟩
      · omega
      · exact .inr ⟨by omega, winF_app s a b hw⟩

/-- How two terms compare. -/
def cmpT (a b : List Int) : Int := if a = b then 0 else if above a b then 1 else if above b a then -1 else 2
theorem cmpT_one {a b : List Int} : cmpT a b = 1 ↔ above a b = true := by
  unfold cmpT
  by_cases e : a = b
  · rw [if_pos e, e, above_irrefl]; simp
  · rw [if_neg e]
    cases h : above a b
    · cases h2 : above b a <;> simp
    · simp
theorem cmpT_zero {a b : List Int} : cmpT a b = 0 ↔ a = b := by
  unfold cmpT
  by_cases e : a = b
  · simp [e]
  · rw [if_neg e]
    cases h : above a b
    · cases h2 : above b a <;> simp [e]
    · simp [e]
theorem cmpT_neg {a b : List Int} : cmpT a b = -1 ↔ above b a = true := by
  unfold cmpT
  by_cases e : a = b
  · rw [if_pos e, e, above_irrefl]; simp
  · rw [if_neg e]
    cases h : above a b
    · cases h2 : above b a <;> simp
    · have := above_asymm h; simp [this]
theorem cmpT_two {a b : List Int} : cmpT a b = 2 ↔ a ≠ b ∧ above a b = false ∧ above b a = false := by
  unfold cmpT
  by_cases e : a = b
  · simp [e]
  · rw [if_neg e]
    cases h : above a b
    · cases h2 : above b a <;> simp [e]
    · simp
theorem cmpT_flip {a b : List Int} : (cmpT a b = 1 → cmpT b a = -1) ∧ (cmpT a b = 0 → cmpT b a = 0) ∧ (cmpT a b = 2 → cmpT b a = 2) := by
  refine ⟨fun h => cmpT_neg.2 (cmpT_one.1 h), fun h => cmpT_zero.2 (cmpT_zero.1 h).symm, fun h => ?_⟩
  obtain ⟨h1, h2, h3⟩ := cmpT_two.1 h
  exact cmpT_two.2 ⟨Ne.symm h1, h3, h2⟩

/-- What remains of a. -/
def minus (a b : List (List Int)) : List (List Int) := b.foldl List.erase a
theorem minus_nil (a : List (List Int)) : minus a [] = a := rfl
theorem minus_cons (a : List (List Int)) (t : List Int) (b : List (List Int)) : minus a (t :: b) = minus (a.erase t) b := rfl
theorem minus_count (a b : List (List Int)) (t : List Int) : (minus a b).count t = a.count t - b.count t := by
  induction b generalizing a with
  | nil => simp [minus]
  | cons y b ih =>
    rw [minus_cons, ih, List.count_erase, List.count_cons]
    by_cases e : y = t
    · simp [e]; omega
    · simp [e]
theorem minus_mem {a b : List (List Int)} {t : List Int} : t ∈ minus a b ↔ b.count t < a.count t := by
  rw [← List.count_pos_iff, minus_count]; omega
theorem minus_len (a b : List (List Int)) : (minus a b).length ≤ a.length := by
  induction b generalizing a with
  | nil => exact Nat.le_refl _
  | cons y b ih => rw [minus_cons]; exact Nat.le_trans (ih _) (List.length_erase_le)
theorem minus_sub {a b : List (List Int)} {t : List Int} (h : t ∈ minus a b) : t ∈ a := List.count_pos_iff.1 (by have := minus_mem.1 h; omega)
/-- From the front of a: what b has is left out. -/
theorem minus_front (x : List Int) (a b : List (List Int)) : minus (x :: a) b = if x ∈ b then minus a (b.erase x) else x :: minus a b := by
  induction b generalizing a with
  | nil => simp [minus]
  | cons y b ih =>
    rw [minus_cons]
    by_cases e : x = y
    · subst e; simp
    · rw [List.erase_cons_tail (by simpa using e), ih]
      have h1 : (x ∈ y :: b) ↔ x ∈ b := by simp [e]
      have h2 : (y :: b).erase x = y :: b.erase x := List.erase_cons_tail (by simpa using Ne.symm e)
      by_cases h : x ∈ b
      · rw [if_pos h, if_pos (h1.2 h), h2, minus_cons]
      · rw [if_neg h, if_neg (fun k => h (h1.1 k)), minus_cons]
theorem minus_perm {b c : List (List Int)} (h : b.Perm c) (a : List (List Int)) : minus a b = minus a c := by
  induction h generalizing a with
  | nil => rfl
  | cons x _ ih => rw [minus_cons, minus_cons, ih]
  | swap x y l => rw [minus_cons, minus_cons, minus_cons, minus_cons, List.erase_comm]
  | trans _ _ h1 h2 => exact (h1 a).trans (h2 a)

def dom (a b : List (List Int)) : Bool := b.all fun t => a.any fun u => above u t
theorem dom_iff {a b : List (List Int)} : dom a b = true ↔ ∀ t ∈ b, ∃ u ∈ a, above u t = true := by
  unfold dom; simp only [List.all_eq_true, List.any_eq_true]
/-- Some element is below none. -/
theorem top_of (l : List (List Int)) (h : l ≠ []) : ∃ m ∈ l, ∀ x ∈ l, above x m = false := by
  induction l with
  | nil => exact absurd rfl h
  | cons y l ih =>
    by_cases hl : l = []
    · subst hl
      exact ⟨y, List.mem_cons_self, fun x hx => by simp at hx; subst hx; exact above_irrefl _⟩
    · obtain ⟨m, hm, hmax⟩ := ih hl
      cases hy : above y m with
      | false => exact ⟨m, List.mem_cons_of_mem _ hm, fun x hx => by rcases List.mem_cons.1 hx with rfl | hx; exact hy; exact hmax x hx⟩
      | true =>
        refine ⟨y, List.mem_cons_self, fun x hx => ?_⟩
        rcases List.mem_cons.1 hx with rfl | hx
        · exact above_irrefl _
        · rw [Bool.eq_false_iff]; intro hxy
          have := hmax x hx
          rw [above_trans hxy hy] at this; simp at this
theorem dom_asymm {a b : List (List Int)} (ha : a ≠ []) (h : dom a b = true) : dom b a = false := by
  rw [Bool.eq_false_iff]; intro k
  obtain ⟨m, hm, hmax⟩ := top_of a ha
  obtain ⟨u, hu, h1⟩ := dom_iff.1 k m hm
  obtain ⟨x, hx, h2⟩ := dom_iff.1 h u hu
  have := hmax x hx
  rw [above_trans h2 h1] at this; simp at this
/-- How two lists compare. -/
def cmpL (a b : List (List Int)) : Int := if minus a b = [] ∧ minus b a = [] then 0 else if dom (minus a b) (minus b a) then 1 else if dom (minus b a) (minus a b) then -1 else 2
theorem cmpL_zero {a b : List (List Int)} : cmpL a b = 0 ↔ minus a b = [] ∧ minus b a = [] := by
  unfold cmpL
  by_cases e : minus a b = [] ∧ minus b a = []
  · simp [e]
  · rw [if_neg e]; simp only [e, iff_false]; split
    · omega
    · split <;> omega
theorem cmpL_one {a b : List (List Int)} : cmpL a b = 1 ↔ minus a b ≠ [] ∧ dom (minus a b) (minus b a) = true := by
  unfold cmpL
  by_cases e : minus a b = [] ∧ minus b a = []
  · rw [if_pos e]; simp [e.1]
  · rw [if_neg e]
    cases h : dom (minus a b) (minus b a)
    · simp; split <;> omega
    · simp
      intro h0
      refine e ⟨h0, ?_⟩
      rw [h0] at h
      cases h2 : minus b a with
      | nil => rfl
      | cons t r => obtain ⟨u, hu, _⟩ := dom_iff.1 h t (by rw [h2]; exact List.mem_cons_self); simp at hu
theorem cmpL_neg {a b : List (List Int)} : cmpL a b = -1 ↔ minus b a ≠ [] ∧ dom (minus b a) (minus a b) = true := by
  constructor
  · intro h
    have h1 : cmpL a b ≠ 1 := by omega
    have h0 : cmpL a b ≠ 0 := by omega
    unfold cmpL at h
    by_cases e : minus a b = [] ∧ minus b a = []
    · rw [if_pos e] at h; omega
    · rw [if_neg e] at h
      cases hd : dom (minus a b) (minus b a)
      · rw [hd] at h
        cases hd2 : dom (minus b a) (minus a b)
        · rw [hd2] at h; simp at h
        · refine ⟨fun hb => e ⟨?_, hb⟩, rfl⟩
          rw [hb] at hd2
          cases h2 : minus a b with
          | nil => rfl
          | cons t r => obtain ⟨u, hu, _⟩ := dom_iff.1 hd2 t (by rw [h2]; exact List.mem_cons_self); simp at hu
      · rw [hd] at h; simp at h
  · rintro ⟨h1, h2⟩
    have h3 := dom_asymm h1 h2
    unfold cmpL
    rw [if_neg (fun e => h1 e.2), h3, h2]; simp
theorem cmpL_flip (a b : List (List Int)) : (cmpL a b = 1 ↔ cmpL b a = -1) ∧ (cmpL a b = 0 ↔ cmpL b a = 0) := by
  refine ⟨by rw [cmpL_one, cmpL_neg], by rw [cmpL_zero, cmpL_zero]; exact And.comm⟩
theorem nil_iff {l : List (List Int)} : l = [] ↔ ∀ t, t ∉ l := List.eq_nil_iff_forall_not_mem
theorem dom_congr {a b a' b' : List (List Int)} (h1 : ∀ t, t ∈ a ↔ t ∈ a') (h2 : ∀ t, t ∈ b ↔ t ∈ b') : dom a b = dom a' b' := by
  rw [Bool.eq_iff_iff, dom_iff, dom_iff]
  constructor
  · intro h t ht; obtain ⟨u, hu, k⟩ := h t ((h2 t).2 ht); exact ⟨u, (h1 u).1 hu, k⟩
  · intro h t ht; obtain ⟨u, hu, k⟩ := h t ((h2 t).1 ht); exact ⟨u, (h1 u).2 hu, k⟩
/-- What is put behind both changes nothing. -/
theorem cmpL_snoc (a b : List (List Int)) (g : List Int) : cmpL (a ++ [g]) (b ++ [g]) = cmpL a b := by
  have h1 : ∀ (a b : List (List Int)) t, t ∈ minus (a ++ [g]) (b ++ [g]) ↔ t ∈ minus a b := fun a b t => by
    rw [minus_mem, minus_mem, List.count_append, List.count_append]; omega
  unfold cmpL
  rw [dom_congr (h1 a b) (h1 b a), dom_congr (h1 b a) (h1 a b)]
  have h2 : ∀ a b : List (List Int), minus (a ++ [g]) (b ++ [g]) = [] ↔ minus a b = [] := fun a b => by
    rw [nil_iff, nil_iff]; exact forall_congr' fun t => not_congr (h1 a b t)
  simp only [h2]
def falls (l : List (List Int)) : Bool := (List.range (l.length - 1)).all fun i => above (l.getD i []) (l.getD (i+1) [])
theorem falls_pair {l : List (List Int)} (h : falls l = true) : ∀ (i j : Nat), j < i → i < l.length → above (l.getD j []) (l.getD i []) = true := by
  unfold falls at h
  rw [List.all_eq_true] at h
  intro i
  induction i with
  | zero => intro j hj; omega
  | succ i ih =>
    intro j hj hi
    have h1 := h i (by rw [List.mem_range]; omega)
    by_cases e : j = i
    · rw [e]; exact h1
    · exact above_trans (ih j (by omega) (by omega)) h1
end Go.Proofs.YteegjnobmbcjiaaGreatDoor
end
section
/- Lists of terms, plainly: what remains, who dominates, how they compare. No program. -/
namespace Go.Proofs.YteegjnobmbcjiaaGreatDoor
open Go.RowKit

theorem minus_nil_left (b : List (List Int)) : minus [] b = [] := by
  induction b with
  | nil => rfl
  | cons y b ih => rw [minus_cons]; simpa using ih
theorem take_snoc {α : Type} (l : List α) (k : Nat) (d : α) (hk : k < l.length) : l.take (k+1) = l.take k ++ [l.getD k d] := by
  rw [List.take_succ_eq_append_getElem hk]; simp [List.getD, hk]
theorem drop_get {α : Type} (l : List α) (k : Nat) (d : α) (hk : k < l.length) : l.drop k = l.getD k d :: l.drop (k+1) := by
  rw [List.drop_eq_getElem_cons hk]; simp [List.getD, hk]
theorem minus_take (a b : List (List Int)) (k : Nat) (hk : k < b.length) : minus a (b.take (k+1)) = (minus a (b.take k)).erase (b.getD k []) := by
  rw [take_snoc b k [] hk]; simp [minus, List.foldl_append]
theorem erase_at {X : List (List Int)} {t : List Int} {j : Nat} (hj : j < X.length) (hn : t ∉ X.take j) (he : X.getD j [] = t) : X.erase t = X.eraseIdx j := by
  induction X generalizing j with
  | nil => simp at hj
  | cons x X ih =>
    cases j with
    | zero =>
      have he : x = t := by simpa using he
      subst he; simp
    | succ j =>
      simp only [List.take_succ_cons, List.mem_cons, not_or] at hn
      rw [List.erase_cons_tail (by simpa using fun h => hn.1 h.symm), List.eraseIdx_cons_succ, ih (by simpa using hj) hn.2 (by simpa using he)]
theorem erase_none {X : List (List Int)} {t : List Int} {j : Nat} (hj : ¬ j < X.length) (hn : t ∉ X.take j) : X.erase t = X := by
  rw [List.take_of_length_le (by omega)] at hn
  exact List.erase_of_not_mem hn
theorem not_take {X : List (List Int)} {t : List Int} {j : Nat} (hj : j < X.length) (hn : t ∉ X.take j) (he : X.getD j [] ≠ t) : t ∉ X.take (j+1) := by
  rw [take_snoc X j [] hj, List.mem_append, List.mem_singleton, not_or]
  exact ⟨hn, fun h => he h.symm⟩
theorem eraseIdx_perm {l : List (List Int)} {i : Nat} (hi : i < l.length) : (l.getD i [] :: l.eraseIdx i).Perm l := by
  induction l generalizing i with
  | nil => simp at hi
  | cons x l ih =>
    cases i with
    | zero => simp
    | succ i =>
      have := ih (i := i) (by simpa using hi)
      rw [show (x :: l).getD (i+1) [] = l.getD i [] from by simp [List.getD], List.eraseIdx_cons_succ]
      exact (List.Perm.swap _ _ _).trans (this.cons x)
/-- The reference's loop: what is out, what is left. -/
theorem left_in {a b out left : List (List Int)} {k i : Nat} (h : minus a b = out ++ minus (a.drop k) left) (hk : k < a.length) (hi : i < left.length) (he : left.getD i [] = a.getD k []) :
    minus a b = out ++ minus (a.drop (k+1)) (left.eraseIdx i) := by
  rw [h, drop_get a k [] hk, minus_front]
  generalize a.getD k [] = t at *
  have hx : left[i] = t := by rw [← he]; simp [List.getD, hi]
  have hm : t ∈ left := by rw [← hx]; exact List.getElem_mem hi
  rw [if_pos hm]
  have hp : (left.erase t).Perm (left.eraseIdx i) := by
    have h1 := eraseIdx_perm hi
    rw [he] at h1
    exact (List.perm_cons t).1 ((List.perm_cons_erase hm).symm.trans h1.symm)
  rw [minus_perm hp]
theorem left_out {a b out left : List (List Int)} {k : Nat} (h : minus a b = out ++ minus (a.drop k) left) (hk : k < a.length) (hn : a.getD k [] ∉ left) :
    minus a b = (out ++ [a.getD k []]) ++ minus (a.drop (k+1)) left := by
  rw [h, drop_get a k [] hk, minus_front, if_neg hn, List.append_assoc]; rfl
theorem left_end {a b out left : List (List Int)} {k : Nat} (h : minus a b = out ++ minus (a.drop k) left) (hk : ¬ k < a.length) : minus a b = out := by
  rw [h, List.drop_eq_nil_of_le (by omega), minus_nil_left, List.append_nil]
theorem minus_get {a b : List (List Int)} {P : List Int → Prop} (h : ∀ t ∈ a, P t) : ∀ t ∈ minus a b, P t := fun t ht => h t (minus_sub ht)

theorem dom_no {a b : List (List Int)} {k : Nat} (hk : k < b.length) (h : (a.any fun u => above u (b.getD k [])) = false) : dom a b = false := by
  rw [Bool.eq_false_iff]
  intro hd
  unfold dom at hd
  rw [List.all_eq_true] at hd
  have := hd (b.getD k []) (by simp [List.getD, hk])
  rw [h] at this; simp at this
theorem dom_take {a b : List (List Int)} {k : Nat} (hk : k < b.length) (h : dom a (b.take k) = true) (h2 : (a.any fun u => above u (b.getD k [])) = true) : dom a (b.take (k+1)) = true := by
  unfold dom at *
  rw [take_snoc b k [] hk, List.all_append, h]
  simpa using h2
theorem dom_all {a b : List (List Int)} {k : Nat} (hk : ¬ k < b.length) (h : dom a (b.take k) = true) : dom a b = true := by
  rwa [List.take_of_length_le (by omega)] at h
theorem any_take {a : List (List Int)} {t : List Int} {i : Nat} (hi : i < a.length) (h : ((a.take i).any fun u => above u t) = false) : ((a.take (i+1)).any fun u => above u t) = above (a.getD i []) t := by
  rw [take_snoc a i [] hi, List.any_append, h]; simp
theorem any_yes {a : List (List Int)} {t : List Int} {i : Nat} (hi : i < a.length) (h : above (a.getD i []) t = true) : (a.any fun u => above u t) = true := by
  rw [List.any_eq_true]; exact ⟨_, by simp [List.getD, hi], h⟩
theorem any_end {a : List (List Int)} {t : List Int} {i : Nat} {q : Bool} (hi : ¬ i < a.length) (h : ((a.take i).any fun u => above u t) = q) : (a.any fun u => above u t) = q := by
  rwa [List.take_of_length_le (by omega)] at h
theorem cmpL_0 {a b : List (List Int)} (h1 : minus a b = []) (h2 : minus b a = []) : cmpL a b = 0 := cmpL_zero.2 ⟨h1, h2⟩
theorem cmpL_1 {a b : List (List Int)} (h0 : ¬ (minus a b = [] ∧ minus b a = [])) (h : dom (minus a b) (minus b a) = true) : cmpL a b = 1 := by unfold cmpL; rw [if_neg h0, if_pos h]
theorem cmpL_m {a b : List (List Int)} (h0 : ¬ (minus a b = [] ∧ minus b a = [])) (h : dom (minus a b) (minus b a) = false) (k : dom (minus b a) (minus a b) = true) : cmpL a b = -1 := by
  unfold cmpL; rw [if_neg h0, if_neg (by rw [h]; simp), if_pos k]
theorem cmpL_2 {a b : List (List Int)} (h0 : ¬ (minus a b = [] ∧ minus b a = [])) (h : dom (minus a b) (minus b a) = false) (k : dom (minus b a) (minus a b) = false) : cmpL a b = 2 := by
  unfold cmpL; rw [if_neg h0, if_neg (by rw [h]; simp), if_neg (by rw [k]; simp)]
/-- The reference asks also that something is there. -/
theorem dom_some {x y : List (List Int)} (h0 : ¬ (x = [] ∧ y = [])) (h : dom x y = true) : 0 < x.length := by
  cases x with
  | nil =>
    cases y with
    | nil => exact absurd ⟨rfl, rfl⟩ h0
    | cons t r => obtain ⟨u, hu, _⟩ := dom_iff.1 h t List.mem_cons_self; simp at hu
  | cons u r => simp
/-- Falling. -/
theorem falls_no {l : List (List Int)} {i : Nat} (h1 : 0 < i) (hi : i < l.length) (h : above (l.getD (i-1) []) (l.getD i []) = false) : falls l = false := by
  rw [Bool.eq_false_iff]; intro hf
  have := falls_pair hf i (i-1) (by omega) hi
  rw [h] at this; simp at this
def fallTo (l : List (List Int)) (i : Nat) : Prop := ∀ j, 0 < j → j < i → above (l.getD (j-1) []) (l.getD j []) = true
theorem fallTo.step {l : List (List Int)} {i : Nat} (h : fallTo l i) (hi : 0 < i → above (l.getD (i-1) []) (l.getD i []) = true) : fallTo l (i+1) := fun j h1 h2 => by
  by_cases e : j = i
  · subst e; exact hi h1
  · exact h j h1 (by omega)
theorem fallTo.done {l : List (List Int)} {i : Nat} (h : fallTo l i) (hi : ¬ i < l.length) : falls l = true := by
  unfold falls
  rw [List.all_eq_true]
  intro j hj
  rw [List.mem_range] at hj
  exact h (j+1) (by omega) (by omega)

def lisOk (ar : List Int) (a b : List (List Int)) : Bool := goodTerms ar a 8 && goodTerms ar b 8
def lisAns (ar : List Int) (a b : List (List Int)) : Int := if lisOk ar a b then cmpL a b else 0
theorem lisOk_iff {ar : List Int} {a b : List (List Int)} : lisOk ar a b = true ↔ goodTerms ar a 8 = true ∧ goodTerms ar b 8 = true := by simp [lisOk]
theorem lis_no {ar : List Int} {a b : List (List Int)} (h : lisOk ar a b = false) : lisAns ar a b = 0 := by simp [lisAns, h]
theorem lis_yes {ar : List Int} {a b : List (List Int)} (h : lisOk ar a b = true) : lisAns ar a b = cmpL a b := by simp [lisAns, h]
def falAns (ar : List Int) (l : List (List Int)) : Bool := goodTerms ar l 8 && falls l
theorem fal_no {ar : List Int} {l : List (List Int)} (h : goodTerms ar l 8 = false) : falAns ar l = false := by simp [falAns, h]
theorem fal_yes {ar : List Int} {l : List (List Int)} (h : goodTerms ar l 8 = true) : falAns ar l = falls l := by simp [falAns, h]
theorem goodTerms_get {ar : List Int} {b : List (List Int)} {m : Nat} (h : goodTerms ar b m = true) (j : Nat) (hj : j < b.length) : okTerm ar (b.getD j []) = true :=
  (goodTerms_iff.1 h).2.2 _ (by simp [List.getD, hj])
end Go.Proofs.YteegjnobmbcjiaaGreatDoor
end
