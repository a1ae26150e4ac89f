/- Texts merged, part 9. -/
import Derived.Deep.OwnRows
import Derived.Test.YtikllmdmifecpaaGreatDoorMgResolve8
section
/- Match: what is found. -/
namespace Go.Proofs.YtikllmdmifecpaaGreatDoor
open Go.RowKit Go.Maps

def upd {α : Type} (F : Nat → α) (v : Nat) (x : α) : Nat → α := fun i => if i = v then x else F i
theorem upd_same {α : Type} (F : Nat → α) (v : Nat) (x : α) : upd F v x v = x := by simp [upd]
theorem upd_other {α : Type} (F : Nat → α) {v i : Nat} (x : α) (h : i ≠ v) : upd F v x i = F i := by simp [upd, h]
def matchGo (ar t : List Int) : List Int → Nat → (Nat → List Int) → Option (Nat → List Int)
  | [], _, F => some F
  | n :: r, j, F =>
    if 0 ≤ n then (if t.getD j 0 = n then matchGo ar t r (j+1) F else none)
    else if F (-1 - n).toNat = [] ∨ F (-1 - n).toNat = partOf t j ((endOf ar t j).getD 0) then matchGo ar t r ((endOf ar t j).getD 0) (upd F (-1 - n).toNat (partOf t j ((endOf ar t j).getD 0))) else none
theorem mg_sym {ar t r : List Int} {n : Int} {j : Nat} {F : Nat → List Int} (h : 0 ≤ n) (he : t.getD j 0 = n) : matchGo ar t (n :: r) j F = matchGo ar t r (j+1) F := by rw [matchGo, if_pos h, if_pos he]
theorem mg_symno {ar t r : List Int} {n : Int} {j : Nat} {F : Nat → List Int} (h : 0 ≤ n) (he : ¬ t.getD j 0 = n) : matchGo ar t (n :: r) j F = none := by rw [matchGo, if_pos h, if_neg he]
theorem mg_var {ar t r : List Int} {n : Int} {j e : Nat} {F : Nat → List Int} (h : ¬ 0 ≤ n) (he : endOf ar t j = some e) (hF : F (-1 - n).toNat = [] ∨ F (-1 - n).toNat = partOf t j e) :
    matchGo ar t (n :: r) j F = matchGo ar t r e (upd F (-1 - n).toNat (partOf t j e)) := by
  rw [matchGo, if_neg h, he]
  simp only [Option.getD_some]
  rw [if_pos hF]
theorem mg_varno {ar t r : List Int} {n : Int} {j e : Nat} {F : Nat → List Int} (h : ¬ 0 ≤ n) (he : endOf ar t j = some e) (hF : ¬ (F (-1 - n).toNat = [] ∨ F (-1 - n).toNat = partOf t j e)) :
    matchGo ar t (n :: r) j F = none := by
  rw [matchGo, if_neg h, he]
  simp only [Option.getD_some]
  rw [if_neg hF]

/-- Both terms have as many terms to come. -/
def Pair2 (ar p t : List Int) (i j : Nat) : Prop := ∃ m, endGo ar (p.drop i) m i = some p.length ∧ endGo ar (t.drop j) m j = some t.length
theorem Pair2.start {ar p t : List Int} (hp : okTerm ar p = true) (ht : okTerm ar t = true) : Pair2 ar p t 0 0 := ⟨1, ((okTerm_iff _ _).1 hp).2.2, ((okTerm_iff _ _).1 ht).2.2⟩
theorem need_pos {ar p : List Int} {i m : Nat} (h : endGo ar (p.drop i) m i = some p.length) (hi : i < p.length) : ∃ m', m = m' + 1 := by
  cases m with
  | zero => rw [endGo_zero] at h; simp at h; omega
  | succ m => exact ⟨m, rfl⟩
theorem need_lt {ar t : List Int} {j m : Nat} (h : endGo ar (t.drop j) (m+1) j = some t.length) : j < t.length := by
  rcases Nat.lt_or_ge j t.length with h1 | h1
  · exact h1
  · rw [List.drop_eq_nil_of_le h1, endGo_nil] at h; simp at h
theorem Pair2.lt {ar p t : List Int} {i j : Nat} (h : Pair2 ar p t i j) (hi : i < p.length) : j < t.length := by
  obtain ⟨m, h1, h2⟩ := h
  obtain ⟨m, rfl⟩ := need_pos h1 hi
  exact need_lt h2
theorem Pair2.sym {ar p t : List Int} {i j : Nat} (h : Pair2 ar p t i j) (hi : i < p.length) (he : t.getD j 0 = p.getD i 0) : Pair2 ar p t (i+1) (j+1) := by
  have hj := h.lt hi
  obtain ⟨m, h1, h2⟩ := h
  obtain ⟨m, rfl⟩ := need_pos h1 hi
  rw [drop_cons p i hi, endGo_cons] at h1
  rw [drop_cons t j hj, endGo_cons, he] at h2
  split at h1
  · rename_i hs
    rw [if_pos hs] at h2
    exact ⟨_, h1, h2⟩
  · simp at h1
theorem Pair2.var {ar p t : List Int} {i j : Nat} (h : Pair2 ar p t i j) (hi : i < p.length) (hn : p.getD i 0 < 0) : ∃ e, endOf ar t j = some e ∧ j < e ∧ e ≤ t.length ∧ Pair2 ar p t (i+1) e := by
  obtain ⟨m, h1, h2⟩ := h
  obtain ⟨m, rfl⟩ := need_pos h1 hi
  rw [drop_cons p i hi, endGo_cons, arOf_neg hn] at h1
  split at h1
  · obtain ⟨e, he, hr, hlt, hle⟩ := ends_step ar t j m t.length h2
    exact ⟨e, he, hlt, hle, m, h1, hr⟩
  · simp at h1
def matchOk0 (ar p t : List Int) : Bool := goodTerm ar p && okTerm ar t
def matchR (ar p t : List Int) : Option (Nat → List Int) := matchGo ar t p 0 (fun _ => [])
def matchOk (ar p t : List Int) : Bool := matchOk0 ar p t && (matchR ar p t).isSome
def matchAns (ar p t : List Int) : List (List Int) := if matchOk0 ar p t then (match matchR ar p t with | some F => substL F | none => []) else []
theorem match_no0 {ar p t : List Int} (h : matchOk0 ar p t = false) : matchAns ar p t = [] ∧ matchOk ar p t = false := by simp [matchAns, matchOk, h]
theorem match_no {ar p t : List Int} (h : matchR ar p t = none) : matchAns ar p t = [] ∧ matchOk ar p t = false := by
  unfold matchAns matchOk
  rw [h]
  simp
theorem match_yes {ar p t : List Int} {F : Nat → List Int} (h0 : matchOk0 ar p t = true) (h : matchR ar p t = some F) : matchAns ar p t = substL F ∧ matchOk ar p t = true := by
  unfold matchAns matchOk
  rw [h, h0]
  simp
/-- The terms found are not long. -/
theorem mg_len {ar t : List Int} (ht : okTerm ar t = true) (p0 : List Int) : ∀ (k i j : Nat) (F G : Nat → List Int), k = p0.length - i → i ≤ p0.length → Pair2 ar p0 t i j → (∀ v, (F v).length ≤ 40) → matchGo ar t (p0.drop i) j F = some G → ∀ v, (G v).length ≤ 40 := by
  intro k
  induction k with
  | zero =>
    intro i j F G hk hi hP hF h
    rw [List.drop_eq_nil_of_le (by omega), matchGo] at h
    simp at h
    rw [← h]; exact hF
  | succ k ih =>
    intro i j F G hk hi hP hF h
    have hlt : i < p0.length := by omega
    rw [drop_cons p0 i hlt] at h
    by_cases hn : 0 ≤ p0.getD i 0
    · by_cases he : t.getD j 0 = p0.getD i 0
      · rw [mg_sym hn he] at h
        exact ih (i+1) (j+1) F G (by omega) (by omega) (hP.sym hlt he) hF h
      · rw [mg_symno hn he] at h; simp at h
    · obtain ⟨e, h1, h2, h3, h4⟩ := hP.var hlt (by omega)
      by_cases hc : F (-1 - p0.getD i 0).toNat = [] ∨ F (-1 - p0.getD i 0).toNat = partOf t j e
      · rw [mg_var hn h1 hc] at h
        refine ih (i+1) e _ G (by omega) (by omega) h4 (fun v => ?_) h
        unfold upd
        split
        · rw [partOf_len t j e h3]; have := ((okTerm_iff _ _).1 ht).2.1; omega
        · exact hF v
      · rw [mg_varno hn h1 hc] at h; simp at h
theorem matchAns_len (ar p t : List Int) : tot (matchAns ar p t) ≤ 1048576 := by
  unfold matchAns
  split
  · rename_i h0
    simp only [matchOk0, Bool.and_eq_true] at h0
    have hp := (goodTerm_iff.1 h0.1).2
    cases h : matchR ar p t with
    | none => simp [tot, sumL]
    | some F =>
      have := mg_len h0.2 p p.length 0 0 (fun _ => []) F (by omega) (by omega) (Pair2.start hp h0.2) (by simp) (by simpa [matchR] using h)
      exact substL_tot F (fun v _ => this v)
  · simp [tot, sumL]
end Go.Proofs.YtikllmdmifecpaaGreatDoor
end
section
/- Match: the reference's. -/
namespace Go.Proofs.YtikllmdmifecpaaGreatDoor
open Go.RowKit Go.Maps

set_option maxRecDepth 100000 in
theorem l1Part_r (l h l' h' : Nat) (v u : Value) (ar t : List Int) (i q : Nat) (w : World) (hg : goodSign ar = true) (ht : t.length ≤ 1048576) (hi : i < t.length) (he : endOf ar t i = some q) (hq1 : i < q) (hq2 : q ≤ t.length) (hv : SlI l h w v ar) (hu : SlI l' h' w u t) :
    Calls Tryz.prog 97 #[.agg #[v], u, .int .i64 i] w (RetR w (partOf t i q)) := by
  obtain ⟨b, off, cap, rfl, hcap⟩ := hu.plain (by omega)
  have HE := Lib.hid he
  clear he
  have hpl : (partOf t i q).length ≤ 1048576 := by rw [partOf_len t i q hq2]; omega
  have hq3 : (i : Int) < q := by omega
  have hq4 : (q : Int) ≤ t.length := by omega
  go_enter Tryz.func97, Tryz.ntmps97
  go_wp2_with fail
  refine (l1End_v _ _ _ _ _ _ ar t i q _ HE.out hg ht (by omega) (hv.alloc _) (hu.alloc _)).mono ?_; rintro e w1 ⟨rfl, hb1⟩
  go_wp2_with fail
  refine (l1Own_r _ _ _ (partOf t i q) _ hpl ((hu.below hb1.of_alloc).cut i q (by omega) hq2)).mono ?_; rintro e w2 ⟨ad, n, c, rfl, ho, hb2⟩
  go_wp2_with fail
  go_ret
  exact ⟨_, _, _, rfl, row_mono ho (by have := hb1.size; simp at this; omega), hb1.of_alloc.step hb2⟩

def rawL (F : Nat → List Int) : List (List Int) := (List.range 12).map F
theorem rawL_len (F : Nat → List Int) : (rawL F).length = 12 := by simp [rawL]
theorem rawL_get (F : Nat → List Int) (v : Nat) (hv : v < 12) : (rawL F).getD v [] = F v := by simp [rawL, List.getD, hv]
theorem rawL_set (F : Nat → List Int) (v : Nat) (hv : v < 12) (x : List Int) : (rawL F).set v x = rawL (upd F v x) := by
  apply List.ext_getElem?
  intro i
  rw [List.getElem?_set]
  unfold rawL upd
  by_cases e : v = i
  · subst e; simp [hv]
  · by_cases hi : i < 12
    · have h1 : (List.range 12)[i]? = some i := by simp [hi]
      rw [if_neg e, List.getElem?_map, List.getElem?_map, h1]
      simp only [Option.map_some]
      rw [if_neg (Ne.symm e)]
    · rw [if_neg e, List.getElem?_eq_none (by simp; omega), List.getElem?_eq_none (by simp; omega)]
/-- The array of the terms found, in block B. -/
def Arr (base B : Nat) (tag : Nat → Nat) (w : World) (us : List Value) (F : Nat → List Int) : Prop :=
  us.length = 12 ∧ OwnT base tag 2 22 w (.slice (some ⟨B, 0, none⟩) 12 12) us ∧ InT base tag 3 w us (rawL F)
theorem Arr.bel {base B : Nat} {tag : Nat → Nat} {w w' : World} {us : List Value} {F : Nat → List Int} (h : Arr base B tag w us F) (hb : Bel w w') : Arr base B tag w' us F := ⟨h.1, h.2.1.bel hb, h.2.2.bel hb⟩
theorem Arr.all {base B : Nat} {tag tag' : Nat → Nat} {w w' : World} {us : List Value} {F : Nat → List Int} (h : Arr base B tag w us F) (k : ∀ t' e' u zs, OwnT base tag t' e' w u zs → OwnT base tag' t' e' w' u zs) : Arr base B tag' w' us F := ⟨h.1, k _ _ _ _ h.2.1, h.2.2.all k⟩
theorem Arr.cell {base B : Nat} {tag : Nat → Nat} {w : World} {us : List Value} {F : Nat → List Int} (h : Arr base B tag w us F) (v : Nat) (hv : v < 12) :
    ∃ a c, w.cell? ⟨B, v, none⟩ = some (.slice a (F v).length c) ∧ us[v]? = some (.slice a (F v).length c) ∧ w.frozen? ⟨B, v, none⟩ = false ∧ OwnT base tag (10 + v) 3 w (.slice a (F v).length c) ((F v).map (Value.int .i64)) := by
  obtain ⟨hl, hO, hI⟩ := h
  have hOr := hO.1
  rw [hl] at hOr
  have hu : us[v]? = some us[v] := List.getElem?_eq_getElem (by omega)
  have hi := hI.2 v _ hu
  rw [rawL_get F v hv] at hi
  obtain ⟨a, n, c, e⟩ := own_form hi.1
  rw [e] at hi hu
  have hn := row_len hi.1
  rw [List.length_map] at hn
  subst hn
  exact ⟨a, c, (hOr.cellAt v (by omega)).trans hu, hu, hOr.frozenAt v, hi⟩
theorem Arr.set {base B : Nat} {tag tag' : Nat → Nat} {w w' : World} {us : List Value} {F : Nat → List Int} {x : List Int} {u : Value} (h : Arr base B tag w us F) (v : Nat) (hv : v < 12)
    (hall : ∀ t' e' u zs, OwnT base tag t' e' w u zs → OwnT base tag' t' e' w' u zs) (hu : OwnT base tag' (10 + v) 3 w' u (x.map (Value.int .i64))) : Arr base B tag' (w'.setCell ⟨B, v, none⟩ u) (us.set v u) (upd F v x) := by
  obtain ⟨hl, hO, hI⟩ := h
  have hst := tag_store (hall _ _ _ _ hO) v u
  refine ⟨by simpa using hl, hst.1, ?_⟩
  rw [← rawL_set F v hv]
  exact (hI.put v (by omega) hall hu).step (by omega) hst.2
theorem Arr.fresh {base B : Nat} {tag : Nat → Nat} {w : World} (h : OwnT base tag 2 22 w (.slice (some ⟨B, 0, none⟩) 12 12) (List.replicate 12 (Value.slice none 0 0))) : Arr base B tag w (List.replicate 12 (Value.slice none 0 0)) (fun _ => []) := by
  refine ⟨by simp, h, by simp [rawL], fun j u hj => ?_⟩
  have hlt := (List.getElem?_eq_some_iff.1 hj).1
  rw [List.getElem?_replicate, if_pos (by simpa using hlt)] at hj
  simp at hj
  subst hj
  rw [show (rawL (fun _ => [])).getD j [] = [] from by rw [rawL_get _ _ (by simpa using hlt)]]
  exact OwnT.nil _ _ _ _ _
def RetL2 (base B : Nat) (R : Option (Nat → List Int)) (w : World) (e : Ending) (w' : World) : Prop :=
  Chg B (B+1) w w' ∧ match R with
    | none => e = .returned (.tuple #[.slice none 0 0, .bool false])
    | some F => e = .returned (.tuple #[.slice (some ⟨B, 0, none⟩) 12 12, .bool true]) ∧ ∃ tag us, Arr base B tag w' us F

end Go.Proofs.YtikllmdmifecpaaGreatDoor
end
section
/- DepthOf: both functions. -/
namespace Go.Proofs.YtikllmdmifecpaaGreatDoor
open Go.RowKit

/-- The greatest of some numbers, from m on. -/
def maxL (m : Nat) : List Nat → Nat
  | [] => m
  | x :: l => maxL (max m x) l
theorem maxL_snoc (m : Nat) (l : List Nat) (x : Nat) : maxL m (l ++ [x]) = max (maxL m l) x := by
  induction l generalizing m with
  | nil => rfl
  | cons y l ih => exact ih _
theorem maxL_le (m n : Nat) (l : List Nat) (hm : m ≤ n) (h : ∀ x ∈ l, x ≤ n) : maxL m l ≤ n := by
  induction l generalizing m with
  | nil => exact hm
  | cons y l ih => exact ih _ (by have := h y (by simp); omega) (fun x hx => h x (by simp [hx]))

def depthF (ar t : List Int) : Nat → Nat → Nat
  | 0, _ => 0
  | f + 1, i => 1 + maxL 0 ((argsOf ar t i).map (depthF ar t f))
/-- The depth of the subterm at i. -/
def depthAt (ar t : List Int) (i : Nat) : Nat := depthF ar t (t.length - i) i

theorem argsGo_bd (ar t : List Int) : ∀ (k p e : Nat), endGo ar (t.drop p) k p = some e → ∀ a ∈ argsGo ar t k p, p ≤ a ∧ a < e := by
  intro k
  induction k with
  | zero => intro p e _ a ha; simp [argsGo] at ha
  | succ k ih =>
    intro p e h a ha
    obtain ⟨q, hq, hr, hpq, hqe⟩ := ends_step ar t p k e h
    rw [argsGo_succ hq] at ha
    rcases List.mem_cons.1 ha with rfl | ha
    · omega
    · have := ih q e hr a ha; omega
theorem argsOf_bd (ar t : List Int) (h : okTerm ar t = true) (i : Nat) (hi : i < t.length) : ∀ a ∈ argsOf ar t i, i < a ∧ a < t.length := by
  obtain ⟨e, h1, h2⟩ := good_args ar t h i hi
  intro a ha
  have := argsGo_bd ar t _ _ _ h1 a ha
  omega
theorem depthF_fuel (ar t : List Int) (h : okTerm ar t = true) : ∀ (n i : Nat), i < t.length → t.length - i ≤ n → ∀ f, t.length - i ≤ f → depthF ar t f i = depthAt ar t i := by
  intro n
  induction n with
  | zero => intro i hi hn; omega
  | succ n ih =>
    intro i hi hn f hf
    obtain ⟨f, rfl⟩ : ∃ f', f = f' + 1 := ⟨f - 1, by omega⟩
    unfold depthAt
    obtain ⟨g, hg⟩ : ∃ g, t.length - i = g + 1 := ⟨t.length - i - 1, by omega⟩
    rw [hg, depthF, depthF]
    congr 2
    apply List.map_congr_left
    intro a ha
    have hb := argsOf_bd ar t h i hi a ha
    rw [ih a hb.2 (by omega) f (by omega), ih a hb.2 (by omega) g (by omega)]
theorem depthAt_eq (ar t : List Int) (h : okTerm ar t = true) (i : Nat) (hi : i < t.length) : depthAt ar t i = 1 + maxL 0 ((argsOf ar t i).map (depthAt ar t)) := by
  conv => lhs; unfold depthAt
  obtain ⟨g, hg⟩ : ∃ g, t.length - i = g + 1 := ⟨t.length - i - 1, by omega⟩
  rw [hg, depthF]
  congr 2
  apply List.map_congr_left
  intro a ha
  have hb := argsOf_bd ar t h i hi a ha
  exact depthF_fuel ar t h t.length a hb.2 (by omega) g (by omega)
theorem depthF_le (ar t : List Int) : ∀ f i, depthF ar t f i ≤ f := by
  intro f
  induction f with
  | zero => intro i; exact Nat.le_refl _
  | succ f ih =>
    intro i
    rw [depthF]
    have := maxL_le 0 f ((argsOf ar t i).map (depthF ar t f)) (Nat.zero_le _) (by intro x hx; simp at hx; obtain ⟨a, _, rfl⟩ := hx; exact ih a)
    omega
theorem depthAt_le (ar t : List Int) (i : Nat) : depthAt ar t i ≤ t.length := Nat.le_trans (depthF_le ar t _ i) (by omega)

theorem maxD_le (ar t : List Int) (l : List Nat) : maxL 0 (l.map (depthAt ar t)) ≤ t.length :=
  maxL_le 0 t.length _ (Nat.zero_le _) (by intro x hx; rw [List.mem_map] at hx; obtain ⟨a, _, rfl⟩ := hx; exact depthAt_le ar t a)
theorem natsI_get (l : List Nat) (k : Nat) (h : k < l.length) : (natsI l).getD k 0 = ((l.getD k 0 : Nat) : Int) := by simp [natsI, List.getD, h]
theorem maxL_step (d : Nat → Nat) (l : List Nat) (k : Nat) (h : k < l.length) : maxL 0 ((l.take (k+1)).map d) = max (maxL 0 ((l.take k).map d)) (d (l.getD k 0)) := by
  rw [List.take_succ_eq_append_getElem h, List.map_append]
  simp only [List.map_cons, List.map_nil]
  rw [maxL_snoc]
  simp [List.getD, h]

def depthAns (ar t : List Int) : Int := if goodTerm ar t then depthAt ar t 0 else 0
theorem depth_no {ar t : List Int} (h : goodTerm ar t = false) : depthAns ar t = 0 := by simp [depthAns, h]
theorem depth_yes {ar t : List Int} (h : goodTerm ar t = true) : depthAns ar t = depthAt ar t 0 := by simp [depthAns, h]

end Go.Proofs.YtikllmdmifecpaaGreatDoor
end
section
/- Rows of terms, parts, instances: what needs no more than that. No program. -/
namespace Go.Proofs.YtikllmdmifecpaaGreatDoor
open Go.RowKit

/-- A row of k terms. -/
def seqT (ar : List Int) (k : Nat) (r : List Int) : Prop := endGo ar r k 0 = some r.length
theorem seqT_nil {ar : List Int} {k : Nat} (h : seqT ar k []) : k = 0 := by
  cases k with
  | zero => rfl
  | succ k => simp [seqT, endGo_nil] at h
theorem seqT_zero {ar r : List Int} (h : seqT ar 0 r) : r = [] := by
  unfold seqT at h
  rw [endGo_zero] at h
  simp at h
  exact List.length_eq_zero_iff.1 h.symm
theorem seqT_cons {ar : List Int} {k : Nat} {x : Int} {r : List Int} : seqT ar (k+1) (x :: r) ↔ okSym ar x = true ∧ seqT ar (k + arOf ar x) r := by
  unfold seqT
  rw [endGo_cons]
  constructor
  · intro h
    split at h
    · rename_i hs
      refine ⟨hs, ?_⟩
      have := endGo_shift ar r (k + arOf ar x) 0 1
      rw [Nat.zero_add] at this
      rw [Nat.zero_add, this] at h
      cases h2 : endGo ar r (k + arOf ar x) 0 with
      | none => rw [h2] at h; simp at h
      | some e => rw [h2] at h; simp at h; rw [h]
    · simp at h
  · rintro ⟨hs, h⟩
    rw [if_pos hs]
    have := endGo_shift ar r (k + arOf ar x) 0 1
    rw [Nat.zero_add] at this
    rw [Nat.zero_add, this, h]
    simp
theorem seqT_append {ar : List Int} : ∀ {r s : List Int} {a b : Nat}, seqT ar a r → seqT ar b s → seqT ar (a + b) (r ++ s) := by
  intro r
  induction r with
  | nil => intro s a b h1 h2; rw [seqT_nil h1, Nat.zero_add]; exact h2
  | cons x r ih =>
    intro s a b h1 h2
    cases a with
    | zero => have := seqT_zero h1; simp at this
    | succ a =>
      obtain ⟨hs, h1⟩ := seqT_cons.1 h1
      rw [List.cons_append, Nat.succ_add]
      refine seqT_cons.2 ⟨hs, ?_⟩
      have := ih h1 h2
      rwa [show a + b + arOf ar x = a + arOf ar x + b by omega]
theorem seq_prefix {ar : List Int} : ∀ {a b r s : List Int} {k : Nat}, seqT ar k a → seqT ar k b → a ++ r = b ++ s → a = b
  | [], b, _, _, k, ha, hb, _ => by rw [seqT_nil ha] at hb; exact (seqT_zero hb).symm
  | x :: a, b, r, s, k, ha, hb, e => by
    cases k with
    | zero => have := seqT_zero ha; simp at this
    | succ k =>
      cases b with
      | nil => have := seqT_nil hb; omega
      | cons y b =>
        rw [List.cons_append, List.cons_append, List.cons.injEq] at e
        obtain ⟨rfl, e⟩ := e
        rw [seq_prefix (seqT_cons.1 ha).2 (seqT_cons.1 hb).2 e]
theorem appT_append (V : List (List Int)) (s t : List Int) : appT V (s ++ t) = appT V s ++ appT V t := by simp [appT]
theorem appT_one (V : List (List Int)) (n : Int) : appT V [n] = one1 V n := by simp [appT]
theorem part_split {t : List Int} {p q e : Nat} (h1 : p ≤ q) (h2 : q ≤ e) : partOf t p e = partOf t p q ++ partOf t q e := by
  unfold partOf
  rw [show e - p = (q - p) + (e - q) by omega, List.take_add, List.drop_drop, show p + (q - p) = q by omega]
end Go.Proofs.YtikllmdmifecpaaGreatDoor
end
section
/- Unify: what is found. -/
namespace Go.Proofs.YtikllmdmifecpaaGreatDoor
open Go.RowKit Go.Maps

theorem okTerm_seq {ar t : List Int} : okTerm ar t = true ↔ t.length ≤ 40 ∧ seqT ar 1 t := by
  rw [okTerm_iff]
  unfold endOf seqT
  rw [List.drop_zero]
  constructor
  · exact fun h => h.2
  · intro h
    refine ⟨?_, h⟩
    have := endGo_gt ar t 0 0 t.length h.2
    omega
theorem okTerm_long {ar t : List Int} (h : 40 < t.length) : okTerm ar t = false := by
  cases h2 : okTerm ar t with
  | false => rfl
  | true => have := ((okTerm_iff _ _).1 h2).2.1; omega

def putFor (n : Int) (u t : List Int) : List Int := t.flatMap fun m => if m = n then u else [m]
theorem putFor_nil (n : Int) (u : List Int) : putFor n u [] = [] := rfl
theorem putFor_cons (n : Int) (u : List Int) (m : Int) (t : List Int) : putFor n u (m :: t) = (if m = n then u else [m]) ++ putFor n u t := by simp [putFor]
theorem putFor_append (n : Int) (u s t : List Int) : putFor n u (s ++ t) = putFor n u s ++ putFor n u t := by simp [putFor]
theorem putFor_not {n : Int} {u t : List Int} (h : n ∉ t) : putFor n u t = t := by
  induction t with
  | nil => rfl
  | cons m t ih =>
    simp at h
    rw [putFor_cons, if_neg (Ne.symm h.1), ih h.2]; rfl
theorem putFor_mem {n k : Int} {u t : List Int} (h : k ∈ putFor n u t) : k ∈ u ∨ (k ∈ t ∧ k ≠ n) := by
  unfold putFor at h
  rw [List.mem_flatMap] at h
  obtain ⟨m, hm, hk⟩ := h
  split at hk
  · exact .inl hk
  · rename_i hne
    simp at hk; subst hk; exact .inr ⟨hm, hne⟩
theorem putFor_ne {n : Int} {u t : List Int} (hu : u ≠ []) (ht : t ≠ []) : putFor n u t ≠ [] := by
  cases t with
  | nil => exact absurd rfl ht
  | cons m t => rw [putFor_cons]; split <;> simp [hu]
theorem putFor_seq {ar : List Int} {n : Int} {u : List Int} (hn : n < 0) (hu : seqT ar 1 u) : ∀ {t : List Int} {k : Nat}, seqT ar k t → seqT ar k (putFor n u t) := by
  intro t
  induction t with
  | nil => intro k h; exact h
  | cons m t ih =>
    intro k h
    cases k with
    | zero => have := seqT_zero h; simp at this
    | succ k =>
      obtain ⟨hs, h1⟩ := seqT_cons.1 h
      rw [putFor_cons]
      split
      · rename_i e
        subst e
        rw [arOf_neg hn] at h1
        have := seqT_append hu (ih h1)
        rwa [show 1 + (k + 0) = k + 1 by omega] at this
      · exact seqT_cons.2 ⟨hs, ih h1⟩
theorem putFor_len {n : Int} {u t : List Int} {c : Nat} (hu : u.length ≤ c) (hc : 1 ≤ c) : (putFor n u t).length ≤ c * t.length := by
  induction t with
  | nil => simp [putFor_nil]
  | cons m t ih =>
    rw [putFor_cons, List.length_append, List.length_cons, Nat.mul_succ]
    have : (if m = n then u else [m]).length ≤ c := by
      split
      · exact hu
      · simpa using hc
    omega
theorem putFor_infix {n : Int} {u s t : List Int} (h : s <:+: t) : putFor n u s <:+: putFor n u t := by
  obtain ⟨a, b, e⟩ := h
  exact ⟨putFor n u a, putFor n u b, by rw [← putFor_append, ← putFor_append, e]⟩

/-- The first index at which two rows differ. -/
def dif : List Int → List Int → Nat
  | a :: r, b :: s => if a = b then dif r s + 1 else 0
  | _, _ => 0
theorem dif_same : ∀ (t : List Int), dif t t = t.length
  | [] => rfl
  | a :: r => by rw [dif, if_pos rfl, dif_same r]; rfl
theorem dif_before : ∀ (x y : List Int) (i : Nat), i < dif x y → i < x.length ∧ i < y.length ∧ x.getD i 0 = y.getD i 0 := by
  intro x
  induction x with
  | nil => intro y i h; simp [dif] at h
  | cons a r ih =>
    intro y i h
    cases y with
    | nil => simp [dif] at h
    | cons b s =>
      rw [dif] at h
      split at h
      · rename_i e
        subst e
        cases i with
        | zero => simp
        | succ i =>
          obtain ⟨h1, h2, h3⟩ := ih s i (by omega)
          exact ⟨by simp; omega, by simp; omega, by simpa using h3⟩
      · omega
theorem dif_at {ar : List Int} : ∀ {x y : List Int} {k : Nat}, seqT ar k x → seqT ar k y → x ≠ y → dif x y < x.length ∧ dif x y < y.length ∧ x.getD (dif x y) 0 ≠ y.getD (dif x y) 0 := by
  intro x
  induction x with
  | nil =>
    intro y k h1 h2 hne
    rw [seqT_nil h1] at h2
    exact absurd (seqT_zero h2).symm hne
  | cons a r ih =>
    intro y k h1 h2 hne
    cases k with
    | zero => have := seqT_zero h1; simp at this
    | succ k =>
      cases y with
      | nil => have := seqT_nil h2; omega
      | cons b s =>
        rw [dif]
        by_cases e : a = b
        · subst e
          rw [if_pos rfl]
          obtain ⟨-, h1⟩ := seqT_cons.1 h1
          obtain ⟨-, h2⟩ := seqT_cons.1 h2
          obtain ⟨a1, a2, a3⟩ := ih h1 h2 (by intro e; exact hne (by rw [e]))
          exact ⟨by simp; omega, by simp; omega, by simpa using a3⟩
        · rw [if_neg e]
          exact ⟨by simp, by simp, by simpa using e⟩

/-- The integer of the variable that is replaced, and the row with its term. -/
def lowN (x y : List Int) : Int := if y.getD (dif x y) 0 < x.getD (dif x y) 0 then y.getD (dif x y) 0 else x.getD (dif x y) 0
def other (x y : List Int) : List Int := if y.getD (dif x y) 0 < x.getD (dif x y) 0 then x else y
def putU (ar x y : List Int) : List Int := partOf (other x y) (dif x y) ((endOf ar (other x y) (dif x y)).getD 0)
def nextF (n : Int) (u : List Int) (F : Nat → List Int) : Nat → List Int := upd (fun v => putFor n u (F v)) (-1 - n).toNat u
def badU (ar x y : List Int) : Prop := 0 ≤ lowN x y ∨ lowN x y ∈ putU ar x y
instance (ar x y : List Int) : Decidable (badU ar x y) := by unfold badU; infer_instance
def longU (ar x y : List Int) : Prop := 40 < (putFor (lowN x y) (putU ar x y) x).length ∨ 40 < (putFor (lowN x y) (putU ar x y) y).length
instance (ar x y : List Int) : Decidable (longU ar x y) := by unfold longU; infer_instance
def uniGo (ar : List Int) : Nat → List Int → List Int → (Nat → List Int) → Option (Nat → List Int)
  | 0, _, _, _ => none
  | k+1, x, y, F =>
    if x = y then some F
    else if badU ar x y then none
    else if longU ar x y then none
    else uniGo ar k (putFor (lowN x y) (putU ar x y) x) (putFor (lowN x y) (putU ar x y) y) (nextF (lowN x y) (putU ar x y) F)
theorem ug_same {ar x y : List Int} {k : Nat} {F : Nat → List Int} (h : x = y) : uniGo ar (k+1) x y F = some F := by rw [uniGo, if_pos h]
theorem ug_bad {ar x y : List Int} {k : Nat} {F : Nat → List Int} (h : x ≠ y) (hb : badU ar x y) : uniGo ar (k+1) x y F = none := by rw [uniGo, if_neg h, if_pos hb]
theorem ug_long {ar x y : List Int} {k : Nat} {F : Nat → List Int} (h : x ≠ y) (hb : ¬ badU ar x y) (hl : longU ar x y) : uniGo ar (k+1) x y F = none := by rw [uniGo, if_neg h, if_neg hb, if_pos hl]
theorem ug_next {ar x y : List Int} {k : Nat} {F : Nat → List Int} (h : x ≠ y) (hb : ¬ badU ar x y) (hl : ¬ longU ar x y) : uniGo ar (k+1) x y F = uniGo ar k (putFor (lowN x y) (putU ar x y) x) (putFor (lowN x y) (putU ar x y) y) (nextF (lowN x y) (putU ar x y) F) := by rw [uniGo, if_neg h, if_neg hb, if_neg hl]

/-- How many variables are bound. -/
def cnt (F : Nat → List Int) : Nat → Nat
  | 0 => 0
  | k+1 => cnt F k + (if F k = [] then 0 else 1)
theorem cnt_le (F : Nat → List Int) : ∀ k, cnt F k ≤ k
  | 0 => Nat.le_refl _
  | k+1 => by have := cnt_le F k; rw [cnt]; split <;> omega
theorem cnt_same {F G : Nat → List Int} : ∀ {k : Nat}, (∀ v, v < k → (F v = [] ↔ G v = [])) → cnt F k = cnt G k
  | 0, _ => rfl
  | k+1, h => by
    rw [cnt, cnt, cnt_same (fun v hv => h v (by omega))]
    have := h k (Nat.lt_succ_self _)
    by_cases e : F k = []
    · rw [if_pos e, if_pos (this.1 e)]
    · rw [if_neg e, if_neg (fun h => e (this.2 h))]
theorem cnt_new {F G : Nat → List Int} {u : Nat} (hF : F u = []) (hG : G u ≠ []) (hs : ∀ v, v ≠ u → (F v = [] ↔ G v = [])) : ∀ {k : Nat}, u < k → cnt G k = cnt F k + 1
  | 0, h => by omega
  | k+1, h => by
    rw [cnt, cnt]
    by_cases e : u = k
    · subst e
      rw [if_pos hF, if_neg hG, cnt_same (fun v hv => (hs v (by omega)).symm)]
    · rw [cnt_new hF hG hs (k := k) (by omega)]
      have := hs k (Ne.symm e)
      by_cases e2 : F k = []
      · rw [if_pos e2, if_pos (this.1 e2)]
      · rw [if_neg e2, if_neg (fun h => e2 (this.2 h))]
theorem cnt_room {F : Nat → List Int} {u : Nat} (hF : F u = []) : ∀ {k : Nat}, u < k → cnt F k < k
  | 0, h => by omega
  | k+1, h => by
    rw [cnt]
    by_cases e : u = k
    · subst e; rw [if_pos hF]; have := cnt_le F u; omega
    · have := cnt_room hF (k := k) (by omega)
      split <;> omega

/-- What holds between two rounds. -/
structure UInv (ar a0 b0 x y : List Int) (F : Nat → List Int) : Prop where
  okx : okTerm ar x = true
  oky : okTerm ar y = true
  appx : x = appT (rawL F) a0
  appy : y = appT (rawL F) b0
  inf : ∀ v, F v ≠ [] → F v <:+: x ∨ F v <:+: y
  seq : ∀ v, F v ≠ [] → seqT ar 1 (F v)
  notx : ∀ v : Nat, F v ≠ [] → (-1 - (v : Int)) ∉ x
  noty : ∀ v : Nat, F v ≠ [] → (-1 - (v : Int)) ∉ y
  low : ∀ v, 12 ≤ v → F v = []
theorem UInv.len40 {ar a0 b0 x y : List Int} {F : Nat → List Int} (h : UInv ar a0 b0 x y F) (v : Nat) : (F v).length ≤ 40 := by
  by_cases e : F v = []
  · rw [e]; simp
  · have hx := (okTerm_seq.1 h.okx).1
    have hy := (okTerm_seq.1 h.oky).1
    rcases h.inf v e with h1 | h1
    · have := h1.length_le; omega
    · have := h1.length_le; omega
theorem UInv.stay {ar a0 b0 x y : List Int} {F : Nat → List Int} (h : UInv ar a0 b0 x y F) (v : Nat) : stayF F v = F v := by
  unfold stayF
  split
  · rename_i e
    have hne : F v ≠ [] := by rw [e]; simp
    rcases h.inf v hne with h1 | h1
    · exact absurd (h1.subset (by rw [e]; simp)) (h.notx v hne)
    · exact absurd (h1.subset (by rw [e]; simp)) (h.noty v hne)
  · rfl
theorem UInv.raw {ar a0 b0 x y : List Int} {F : Nat → List Int} (h : UInv ar a0 b0 x y F) : rawL F = substL F := by
  unfold rawL substL
  exact List.map_congr_left fun v _ => (h.stay v).symm
theorem appT_none (t : List Int) : appT (rawL fun _ => []) t = t := by
  induction t with
  | nil => rfl
  | cons n t ih =>
    have : one1 (rawL fun _ => []) n = [n] := by
      apply one1_free
      have : (rawL (fun _ => [])).getD (-1 - n).toNat [] = [] := by
        unfold rawL
        simp only [List.getD, List.getElem?_map]
        cases (List.range 12)[(-1 - n).toNat]? <;> rfl
      rw [this]; simp
    unfold appT at ih ⊢
    rw [List.flatMap_cons, this, ih]; rfl
theorem UInv.start {ar a b : List Int} (ha : okTerm ar a = true) (hb : okTerm ar b = true) : UInv ar a b a b (fun _ => []) :=
  ⟨ha, hb, (appT_none a).symm, (appT_none b).symm, fun _ h => absurd rfl h, fun _ h => absurd rfl h, fun _ h => absurd rfl h, fun _ h => absurd rfl h, fun _ _ => rfl⟩
end Go.Proofs.YtikllmdmifecpaaGreatDoor
end
section
/- Unify: a round. -/
namespace Go.Proofs.YtikllmdmifecpaaGreatDoor
open Go.RowKit Go.Maps

theorem getD_mem {t : List Int} {i : Nat} (h : i < t.length) : t.getD i 0 ∈ t := by
  rw [show t.getD i 0 = t[i] from by simp [List.getD, h]]; exact List.getElem_mem h
theorem partOf_infix (t : List Int) (i e : Nat) : partOf t i e <:+: t := (List.take_prefix _ _).isInfix.trans (List.drop_suffix _ _).isInfix
theorem rawL_getA {F : Nat → List Int} (h : ∀ v, 12 ≤ v → F v = []) (v : Nat) : (rawL F).getD v [] = F v := by
  rcases Nat.lt_or_ge v 12 with h1 | h1
  · exact rawL_get F v h1
  · rw [h v h1]
    unfold rawL
    simp only [List.getD]
    rw [List.getElem?_eq_none (by simp; omega)]
    rfl
theorem other_or (x y : List Int) : other x y = x ∨ other x y = y := by unfold other; split <;> simp

/-- What is known of a round that begins with two different terms. -/
structure URound (ar x y : List Int) (n : Int) (o u : List Int) (d e : Nat) : Prop where
  dx : d < x.length
  dy : d < y.length
  ne : x.getD d 0 ≠ y.getD d 0
  low : -12 ≤ n
  oo : okTerm ar o = true
  dd : d < o.length
  en : endOf ar o d = some e
  de : d < e
  eo : e ≤ o.length
  pu : u = partOf o d e
  ok : okTerm ar u = true
theorem uround {ar a0 b0 x y : List Int} {F : Nat → List Int} (h : UInv ar a0 b0 x y F) (hne : x ≠ y) : ∃ e, URound ar x y (lowN x y) (other x y) (putU ar x y) (dif x y) e := by
  obtain ⟨h1, h2, h3⟩ := dif_at (okTerm_seq.1 h.okx).2 (okTerm_seq.1 h.oky).2 hne
  have hoo : okTerm ar (other x y) = true := by rcases other_or x y with e | e <;> rw [e]; exact h.okx; exact h.oky
  have hdd : dif x y < (other x y).length := by rcases other_or x y with e | e <;> rw [e] <;> assumption
  obtain ⟨e, he, hde, heo⟩ := good_end ar _ hoo _ hdd
  have hpu : putU ar x y = partOf (other x y) (dif x y) e := by unfold putU; rw [he]; rfl
  refine ⟨e, h1, h2, h3, ?_, hoo, hdd, he, hde, heo, hpu, ?_⟩
  · have a1 := okTerm_low h.okx _ h1
    have a2 := okTerm_low h.oky _ h2
    unfold lowN; split <;> assumption
  · rw [hpu]; exact partOf_ok ar _ _ _ hoo hdd he

structure UOk (ar a0 b0 x y : List Int) (F : Nat → List Int) (n : Int) (u : List Int) : Prop where
  neg : n < 0
  lo : -12 ≤ n
  not : n ∉ u
  free : F (-1 - n).toNat = []
  u40 : u.length ≤ 40
  up : 0 < u.length
  lx : (putFor n u x).length ≤ 1600
  ly : (putFor n u y).length ≤ 1600
  lF : ∀ v, (nextF n u F v).length ≤ 1600
  ax : putFor n u x = appT (rawL (nextF n u F)) a0
  ay : putFor n u y = appT (rawL (nextF n u F)) b0
  sx : seqT ar 1 (putFor n u x)
  sy : seqT ar 1 (putFor n u y)
  next : ¬ longU ar x y → UInv ar a0 b0 (putFor n u x) (putFor n u y) (nextF n u F)
  more : cnt (nextF n u F) 12 = cnt F 12 + 1
theorem app_next {n : Int} {u : List Int} {F : Nat → List Int} (hn : n < 0) (hu : u ≠ []) (hF : F (-1 - n).toNat = []) (hlow : ∀ v, 12 ≤ v → F v = []) (hn12 : -12 ≤ n) (t : List Int) : putFor n u (appT (rawL F) t) = appT (rawL (nextF n u F)) t := by
  have hlow2 : ∀ v, 12 ≤ v → nextF n u F v = [] := by
    intro v hv
    unfold nextF
    rw [upd_other _ _ (by omega), hlow v hv]; rfl
  unfold appT
  induction t with
  | nil => rfl
  | cons m t ih =>
    rw [List.flatMap_cons, List.flatMap_cons, putFor_append, ih]
    congr 1
    by_cases hm : m < 0
    · by_cases e : m = n
      · subst e
        rw [one1_free (by rw [rawL_getA hlow, hF]; simp), one1_var hm (by rw [rawL_getA hlow2]; unfold nextF; rw [upd_same]; exact List.length_pos_iff.2 hu), rawL_getA hlow2]
        unfold nextF
        rw [upd_same, putFor_cons, if_pos rfl, putFor_nil, List.append_nil]
      · have hv : (-1 - m).toNat ≠ (-1 - n).toNat := by omega
        have hG : nextF n u F (-1 - m).toNat = putFor n u (F (-1 - m).toNat) := by unfold nextF; rw [upd_other _ _ hv]
        by_cases hE : F (-1 - m).toNat = []
        · rw [one1_free (by rw [rawL_getA hlow, hE]; simp), one1_free (by rw [rawL_getA hlow2, hG, hE]; simp [putFor_nil]), putFor_cons, if_neg e, putFor_nil]; rfl
        · rw [one1_var hm (by rw [rawL_getA hlow]; exact List.length_pos_iff.2 hE), one1_var hm (by rw [rawL_getA hlow2, hG]; exact List.length_pos_iff.2 (putFor_ne hu hE)), rawL_getA hlow, rawL_getA hlow2, hG]
    · rw [one1_sym hm, one1_sym hm, putFor_cons, if_neg (by omega), putFor_nil]; rfl
theorem uok {ar a0 b0 x y : List Int} {F : Nat → List Int} (h : UInv ar a0 b0 x y F) (hne : x ≠ y) (hb : ¬ badU ar x y) : UOk ar a0 b0 x y F (lowN x y) (putU ar x y) := by
  obtain ⟨e, hR⟩ := uround h hne
  have hnb : ¬ 0 ≤ lowN x y ∧ lowN x y ∉ putU ar x y := by unfold badU at hb; exact not_or.1 hb
  have hmem : lowN x y ∈ x ∨ lowN x y ∈ y := by unfold lowN; split; exact .inr (getD_mem hR.dy); exact .inl (getD_mem hR.dx)
  have hlg : ¬ longU ar x y → (putFor (lowN x y) (putU ar x y) x).length ≤ 40 ∧ (putFor (lowN x y) (putU ar x y) y).length ≤ 40 := by unfold longU; omega
  have hsub : ∀ m, m ∈ putU ar x y → m ∈ x ∨ m ∈ y := by
    intro m hm
    rw [hR.pu] at hm
    have := (partOf_infix _ _ _).subset hm
    rcases other_or x y with e | e <;> rw [e] at this
    · exact .inl this
    · exact .inr this
  have hinf : putU ar x y <:+: x ∨ putU ar x y <:+: y := by
    have := partOf_infix (other x y) (dif x y) e
    rw [← hR.pu] at this
    rcases other_or x y with e | e <;> rw [e] at this
    · exact .inl this
    · exact .inr this
  have hlow := hR.low
  have hu := hR.ok
  clear hR hb hne
  generalize lowN x y = n at *
  generalize putU ar x y = u at *
  obtain ⟨hn, hnu⟩ := hnb
  have hn : n < 0 := by omega
  have hu40 := (okTerm_seq.1 hu).1
  have hup := ((okTerm_iff _ _).1 hu).1
  have hun : u ≠ [] := List.length_pos_iff.1 hup
  have hvn : (-1 - (((-1 - n).toNat : Nat) : Int)) = n := by omega
  have hfree : F (-1 - n).toNat = [] := by
    rcases Classical.em (F (-1 - n).toNat = []) with e | e
    · exact e
    · rcases hmem with h1 | h1
      · exact absurd (by rwa [hvn]) (h.notx _ e)
      · exact absurd (by rwa [hvn]) (h.noty _ e)
  have hx40 := (okTerm_seq.1 h.okx).1
  have hy40 := (okTerm_seq.1 h.oky).1
  have hlx : (putFor n u x).length ≤ 1600 := by have := putFor_len (n := n) (t := x) hu40 (by omega); omega
  have hly : (putFor n u y).length ≤ 1600 := by have := putFor_len (n := n) (t := y) hu40 (by omega); omega
  have hax : putFor n u x = appT (rawL (nextF n u F)) a0 := by rw [← app_next hn hun hfree h.low hlow, ← h.appx]
  have hay : putFor n u y = appT (rawL (nextF n u F)) b0 := by rw [← app_next hn hun hfree h.low hlow, ← h.appy]
  have hus := (okTerm_seq.1 hu).2
  have hsx := putFor_seq hn hus (okTerm_seq.1 h.okx).2
  have hsy := putFor_seq hn hus (okTerm_seq.1 h.oky).2
  have hnext : ∀ v, v ≠ (-1 - n).toNat → nextF n u F v = putFor n u (F v) := fun v hv => by unfold nextF; rw [upd_other _ _ hv]
  have hnew : nextF n u F (-1 - n).toNat = u := by unfold nextF; rw [upd_same]
  have hpe : ∀ v, v ≠ (-1 - n).toNat → (F v = [] ↔ nextF n u F v = []) := by
    intro v hv
    rw [hnext v hv]
    constructor
    · intro e; rw [e]; rfl
    · intro e
      rcases Classical.em (F v = []) with e2 | e2
      · exact e2
      · exact absurd e (putFor_ne hun e2)
  refine ⟨hn, hlow, hnu, hfree, hu40, hup, hlx, hly, ?_, hax, hay, hsx, hsy, ?_, ?_⟩
  · intro v
    by_cases e : v = (-1 - n).toNat
    · rw [e, hnew]; omega
    · rw [hnext v e]
      have := putFor_len (n := n) (t := F v) hu40 (by omega)
      have := h.len40 v
      omega
  · intro hl
    obtain ⟨hl1, hl2⟩ := hlg hl
    refine ⟨okTerm_seq.2 ⟨by omega, hsx⟩, okTerm_seq.2 ⟨by omega, hsy⟩, hax, hay, ?_, ?_, ?_, ?_, ?_⟩
    · intro v hv
      by_cases e : v = (-1 - n).toNat
      · rw [e, hnew]
        rcases hinf with h1 | h1
        · left; have := putFor_infix (n := n) (u := u) h1; rwa [putFor_not hnu] at this
        · right; have := putFor_infix (n := n) (u := u) h1; rwa [putFor_not hnu] at this
      · rw [hnext v e]
        exact (h.inf v (fun h => hv ((hpe v e).1 h))).imp putFor_infix putFor_infix
    · intro v hv
      by_cases e : v = (-1 - n).toNat
      · rw [e, hnew]; exact hus
      · rw [hnext v e]; exact putFor_seq hn hus (h.seq v (fun h => hv ((hpe v e).1 h)))
    · intro v hv hm
      by_cases e : v = (-1 - n).toNat
      · rw [e, hvn] at hm
        rcases putFor_mem hm with h1 | h1
        · exact hnu h1
        · exact h1.2 rfl
      · have hv2 : F v ≠ [] := fun h => hv ((hpe v e).1 h)
        rcases putFor_mem hm with h1 | h1
        · rcases hsub _ h1 with h2 | h2
          · exact h.notx v hv2 h2
          · exact h.noty v hv2 h2
        · exact h.notx v hv2 h1.1
    · intro v hv hm
      by_cases e : v = (-1 - n).toNat
      · rw [e, hvn] at hm
        rcases putFor_mem hm with h1 | h1
        · exact hnu h1
        · exact h1.2 rfl
      · have hv2 : F v ≠ [] := fun h => hv ((hpe v e).1 h)
        rcases putFor_mem hm with h1 | h1
        · rcases hsub _ h1 with h2 | h2
          · exact h.notx v hv2 h2
          · exact h.noty v hv2 h2
        · exact h.noty v hv2 h1.1
    · intro v hv
      rw [hnext v (by omega), h.low v hv]; rfl
  · exact cnt_new hfree (by rw [hnew]; exact hun) hpe (by omega)

def uniOk0 (ar a b : List Int) : Bool := goodTerm ar a && okTerm ar b
def uniR (ar a b : List Int) : Option (Nat → List Int) := uniGo ar 13 a b (fun _ => [])
def unifyOk (ar a b : List Int) : Bool := uniOk0 ar a b && (uniR ar a b).isSome
def unifyAns (ar a b : List Int) : List (List Int) := if uniOk0 ar a b then (match uniR ar a b with | some F => substL F | none => []) else []
theorem unify_no0 {ar a b : List Int} (h : uniOk0 ar a b = false) : unifyAns ar a b = [] ∧ unifyOk ar a b = false := by simp [unifyAns, unifyOk, h]
theorem unify_no {ar a b : List Int} (h : uniR ar a b = none) : unifyAns ar a b = [] ∧ unifyOk ar a b = false := by
  unfold unifyAns unifyOk
  rw [h]
  simp
theorem unify_yes {ar a b : List Int} {F : Nat → List Int} (h0 : uniOk0 ar a b = true) (h : uniR ar a b = some F) : unifyAns ar a b = substL F ∧ unifyOk ar a b = true := by
  unfold unifyAns unifyOk
  rw [h, h0]
  simp
theorem ug_len {ar a0 b0 : List Int} : ∀ (k : Nat) (x y : List Int) (F G : Nat → List Int), UInv ar a0 b0 x y F → uniGo ar k x y F = some G → ∀ v, (G v).length ≤ 40 := by
  intro k
  induction k with
  | zero => intro x y F G h e; simp [uniGo] at e
  | succ k ih =>
    intro x y F G h e
    by_cases h1 : x = y
    · rw [ug_same h1] at e
      simp at e
      rw [← e]; exact h.len40
    · by_cases h2 : badU ar x y
      · rw [ug_bad h1 h2] at e; simp at e
      · by_cases h3 : longU ar x y
        · rw [ug_long h1 h2 h3] at e; simp at e
        · rw [ug_next h1 h2 h3] at e
          exact ih _ _ _ _ ((uok h h1 h2).next h3) e
theorem unifyAns_len (ar a b : List Int) : tot (unifyAns ar a b) ≤ 1048576 := by
  unfold unifyAns
  split
  · rename_i h0
    simp only [uniOk0, Bool.and_eq_true] at h0
    have hp := (goodTerm_iff.1 h0.1).2
    cases h : uniR ar a b with
    | none => simp [tot, sumL]
    | some F =>
      have := ug_len 13 a b _ F (UInv.start hp h0.2) (by simpa [uniR] using h)
      exact substL_tot F (fun v _ => this v)
  · simp [tot, sumL]
end Go.Proofs.YtikllmdmifecpaaGreatDoor
end
section
/- Match: the reference's. -/
namespace Go.Proofs.YtikllmdmifecpaaGreatDoor
open Go.RowKit Go.Maps

/-- The first k have been taken back where they bind a variable to itself. -/
def mixF (F : Nat → List Int) (k : Nat) : Nat → List Int := fun v => if v < k then stayF F v else F v
theorem mixF_zero (F : Nat → List Int) : mixF F 0 = F := by funext v; simp [mixF]
theorem mixF_succ (F : Nat → List Int) (k : Nat) : upd (mixF F k) k (stayF F k) = mixF F (k+1) := by
  funext v
  unfold upd mixF
  by_cases e : v = k
  · subst e; simp
  · by_cases h : v < k
    · rw [if_neg e, if_pos h, if_pos (by omega)]
    · rw [if_neg e, if_neg h, if_neg (by omega)]
theorem mixF_at (F : Nat → List Int) (k : Nat) : mixF F k k = F k := by simp [mixF]
theorem rawL_mix (F : Nat → List Int) : rawL (mixF F 12) = substL F := by
  unfold rawL substL
  apply List.map_congr_left
  intro v hv
  rw [List.mem_range] at hv
  simp [mixF, hv]
theorem made12 (w : World) : (Instr.makeSlice 70 (.int .i64 12) (.int .i64 12)).run Tryz.prog w = .ok (.slice (some ⟨w.heap.size, 0, none⟩) 12 12) (w.alloc (.cells (madeCells #[.slice none 0 0] 12) 22)) :=
  Go.run_make_row' 70 22 (.slice none 0 0) 24 Tryz.underlying70 Tryz.info22 rfl .i64 .i64 12 (by omega) (by omega) w
theorem rep12 (w : World) : (w.alloc (.cells (madeCells #[.slice none 0 0] 12) 22)).ownsRow w.heap.size 22 1 (.slice (some ⟨w.heap.size, 0, none⟩) 12 12) 12 (List.replicate 12 (Value.slice none 0 0)) := by
  have h := World.ownsRow_lit (e := 22) (base := w.heap.size) (size := 1) w (madeCells #[.slice none 0 0] 12) 12 (Nat.le_refl _) (by unfold maxLen; omega) (by rw [← Array.length_toList, toList_madeCells_one]; simp)
  rw [toList_madeCells_one] at h
  exact h
theorem arr12 {w w' : World} {base B : Nat} (hb : base ≤ w.heap.size) (hB : B = w.heap.size) (hw : Bel (w.alloc (.cells (madeCells #[.slice none 0 0] 12) 22)) w') :
    Arr base B (fun _ => 2) w' (List.replicate 12 (Value.slice none 0 0)) (fun _ => []) := by
  subst hB
  exact Arr.fresh ((show OwnT base (fun _ => 2) 2 22 (w.alloc (.cells (madeCells #[.slice none 0 0] 12) 22)) (.slice (some ⟨w.heap.size, 0, none⟩) 12 12) (List.replicate 12 (Value.slice none 0 0)) from ⟨by simpa using row_mono (rep12 w) hb, fun _ _ => rfl⟩).bel hw)

end Go.Proofs.YtikllmdmifecpaaGreatDoor
end
section
/- Unify: the reference's inner functions. -/
namespace Go.Proofs.YtikllmdmifecpaaGreatDoor
open Go.RowKit Go.Maps

def sizesOk (ar : List Int) (b : List (List Int)) (x y : List Int) : Bool := b.all (okEmpty ar) && okTerm ar x && okTerm ar y

set_option maxRecDepth 100000 in
set_option maxHeartbeats 400000 in
theorem l2Sizes_c (l h l' h' l1 h1 l2 h2 : Nat) (v u p q : Value) (ar : List Int) (b : List (List Int)) (x y : List Int) (w : World) (hg : goodSign ar = true) (hv : SlI l h w v ar) (hb : short b) (hu : SlS l' h' w u b) (hxl : x.length ≤ 1600) (hp : SlI l1 h1 w p x) (hyl : y.length ≤ 1600) (hq : SlI l2 h2 w q y) :
    Calls Tryz.prog 146 #[.agg #[v], u, p, q] w (RetV w (.bool (sizesOk ar b x y))) := by
  obtain ⟨ad', cap', rfl⟩ := hu.form
  obtain ⟨pa, pc, rfl⟩ := hp.form
  obtain ⟨qa, qc, rfl⟩ := hq.form
  obtain ⟨hbl, hm⟩ := hb
  go_enter Tryz.func146, Tryz.ntmps146
  go_wp2_with fail
  go_loopw [13] (fun i wr => ∃ k : Nat, k ≤ b.length ∧ i = .int .i64 k ∧ (b.take k).all (okEmpty ar) = true ∧ Bel (w.alloc (.cells #[v] 33)) wr) (fun i _ => b.length - (intOf i).toNat)
  case atStart => exact ⟨0, Nat.zero_le _, rfl, rfl, Bel.rfl' _⟩
  case round =>
    obtain ⟨k, hk, rfl, hall, hb2⟩ := hrel
    have hbox2 := boxc hb2 0 _ rfl
    by_cases hlt : k < b.length
    · obtain ⟨bb, off, p, rfl, -, hc, hp⟩ := hu.at hb2.of_alloc k hlt
      have hmk := hm k hlt
      have hsp := all_splitS b (okEmpty ar) k hlt hall
      have hfs := all_falseS b (okEmpty ar) k hlt
      clear hm hu hall
      generalize b.getD k [] = t at *
      obtain ⟨ap, cp, rfl⟩ := hp.form
      by_cases hpos : 0 < t.length
      · rw [okEmpty_pos hpos] at hsp hfs
        cases ht : okTerm ar t with
        | false =>
          have E : Hid (sizesOk ar b x y = false) := by show _ = _; unfold sizesOk; rw [hfs ht]; rfl
          have HT := Lib.hid ht
          clear ht hsp hfs
          go_wp2_with fail
          refine (l1Term_v _ _ _ _ _ _ _ _ _ _ HT.out hg (by omega) (hv.below hb2.of_alloc) hp).mono ?_; rintro e w2 ⟨rfl, hb3⟩
          go_wp2_with fail
          go_ret
          exact ⟨by rw [E.out]; rfl, hb2.of_alloc.step hb3⟩
        | true =>
          have HA := Lib.hid (hsp.trans ht)
          have HT := Lib.hid ht
          clear ht hsp hfs
          go_wp2_with fail
          refine (l1Term_v _ _ _ _ _ _ _ _ _ _ HT.out hg (by omega) (hv.below hb2.of_alloc) hp).mono ?_; rintro e w2 ⟨rfl, hb3⟩
          go_wp2_with fail
          go_roundw
          case rel => exact ⟨k+1, by omega, by go_num, HA.out, hb2.step hb3⟩
          case measure => simp [intOf]; omega
      · have HA := Lib.hid (hsp.trans (okEmpty_nil hpos))
        have h0 : t.length = 0 := by omega
        clear hsp hfs hp
        rw [h0] at hc
        clear h0 hpos
        go_wp2_with fail
        go_roundw
        case rel => exact ⟨k+1, by omega, by go_num, HA.out, hb2⟩
        case measure => simp [intOf]; omega
    · have EA := Lib.hid (all_doneS b _ k hk hlt hall)
      clear hall
      cases hox : okTerm ar x with
      | false =>
        have E : Hid (sizesOk ar b x y = false) := by show _ = _; unfold sizesOk; rw [EA.out, hox]; rfl
        have HO := Lib.hid hox
        clear hox
        go_wp2_with fail
        refine (l1Term_v _ _ _ _ _ _ _ _ _ _ HO.out hg (by omega) (hv.below hb2.of_alloc) (hp.below hb2.of_alloc)).mono ?_; rintro e w2 ⟨rfl, hb3⟩
        go_wp2_with fail
        go_ret
        exact ⟨by rw [E.out]; rfl, hb2.of_alloc.step hb3⟩
      | true =>
        cases hoy : okTerm ar y with
        | false =>
          have E : Hid (sizesOk ar b x y = false) := by show _ = _; unfold sizesOk; rw [EA.out, hox, hoy]; rfl
          have HO := Lib.hid (And.intro hox hoy)
          clear hox hoy
          go_wp2_with fail
          refine (l1Term_v _ _ _ _ _ _ _ _ _ _ HO.out.1 hg (by omega) (hv.below hb2.of_alloc) (hp.below hb2.of_alloc)).mono ?_; rintro e w2 ⟨rfl, hb3⟩
          have hb23 := hb2.step hb3
          have hbox3 := boxc hb23 0 _ rfl
          go_wp2_with fail
          refine (l1Term_v _ _ _ _ _ _ _ _ _ _ HO.out.2 hg (by omega) (hv.below hb23.of_alloc) (hq.below hb23.of_alloc)).mono ?_; rintro e w3 ⟨rfl, hb4⟩
          go_wp2_with fail
          go_ret
          exact ⟨by rw [E.out]; rfl, hb23.of_alloc.step hb4⟩
        | true =>
          have E : Hid (sizesOk ar b x y = true) := by show _ = _; unfold sizesOk; rw [EA.out, hox, hoy]; rfl
          have HO := Lib.hid (And.intro hox hoy)
          clear hox hoy
          go_wp2_with fail
          refine (l1Term_v _ _ _ _ _ _ _ _ _ _ HO.out.1 hg (by omega) (hv.below hb2.of_alloc) (hp.below hb2.of_alloc)).mono ?_; rintro e w2 ⟨rfl, hb3⟩
          have hb23 := hb2.step hb3
          have hbox3 := boxc hb23 0 _ rfl
          go_wp2_with fail
          refine (l1Term_v _ _ _ _ _ _ _ _ _ _ HO.out.2 hg (by omega) (hv.below hb23.of_alloc) (hq.below hb23.of_alloc)).mono ?_; rintro e w3 ⟨rfl, hb4⟩
          go_wp2_with fail
          go_ret
          exact ⟨by rw [E.out]; rfl, hb23.of_alloc.step hb4⟩
theorem l2Sizes_v (l h l' h' l1 h1 l2 h2 : Nat) (v u p q : Value) (ar : List Int) (b : List (List Int)) (x y : List Int) (z : Bool) (w : World) (he : sizesOk ar b x y = z) (hg : goodSign ar = true) (hv : SlI l h w v ar) (hb : short b) (hu : SlS l' h' w u b) (hxl : x.length ≤ 1600) (hp : SlI l1 h1 w p x) (hyl : y.length ≤ 1600) (hq : SlI l2 h2 w q y) :
    Calls Tryz.prog 146 #[.agg #[v], u, p, q] w (RetV w (.bool z)) := he ▸ l2Sizes_c l h l' h' l1 h1 l2 h2 v u p q ar b x y w hg hv hb hu hxl hp hyl hq

/-- The substitution of one term. -/
def oneF (v : Nat) (t : List Int) : Nat → List Int := upd (fun _ => []) v t
theorem oneF_get (v : Nat) (t : List Int) (hv : v < 12) (j : Nat) : (rawL (oneF v t)).getD j [] = if j = v then t else [] := by
  rw [rawL_getA (fun k hk => by unfold oneF; rw [upd_other _ _ (by omega)])]
  unfold oneF upd
  rfl
theorem oneF_app {v : Nat} {t : List Int} (hv : v < 12) (ht : 0 < t.length) (s : List Int) : appT (rawL (oneF v t)) s = putFor (-1 - (v : Int)) t s := by
  unfold appT putFor
  congr 1
  funext m
  by_cases hm : m < 0
  · by_cases e : m = -1 - (v : Int)
    · have e2 : (-1 - m).toNat = v := by omega
      rw [if_pos e, one1_var hm (by rw [oneF_get v t hv, e2, if_pos rfl]; exact ht), oneF_get v t hv, e2, if_pos rfl]
    · have e2 : (-1 - m).toNat ≠ v := by omega
      rw [if_neg e, one1_free (by rw [oneF_get v t hv, if_neg e2]; simp)]
  · rw [if_neg (by omega), one1_sym hm]
theorem oneF_lens {v : Nat} {t : List Int} (hv : v < 12) (ht : t.length ≤ 40) : lens40 (rawL (oneF v t)) := by
  intro j _
  rw [oneF_get v t hv]
  split <;> simp [ht]
theorem one_sls (w : World) (l h v : Nat) (x : Value) (t : List Int) (hv : v < 12) (hx : SlI l h w x t) (hp : 0 < t.length) :
    SlS 0 (w.heap.size + 1) ((w.alloc (.cells (madeCells #[.slice none 0 0] 12) 22)).setCell ⟨w.heap.size, v, none⟩ x) (.slice (some ⟨w.heap.size, 0, none⟩) 12 12) (rawL (oneF v t)) := by
  have hr := ((rep12 w).stored v x).1
  refine ⟨_, 12, by rw [rawL_len], by rw [rawL_len]; exact Nat.le_refl _, ⟨by unfold maxLen; omega, fun h => by simp at h⟩, fun _ => ⟨w.heap.size, 0, rfl, Nat.zero_le _, Nat.lt_succ_self _, fun j hj => ?_⟩⟩
  rw [rawL_len] at hj
  have hc := hr.cellAt j (by omega)
  rw [Nat.zero_add, hc, List.getElem?_set, oneF_get v t hv]
  by_cases e : v = j
  · subst e
    rw [if_pos rfl, if_pos rfl, if_pos (by simpa using hv)]
    refine ⟨x, rfl, ?_⟩
    exact (((hx.in').alloc _).set (p := ⟨w.heap.size, v, none⟩) (.inr (Nat.le_refl _)) x).mono (Nat.zero_le _) (Nat.le_succ _)
  · rw [if_neg e, if_neg (Ne.symm e), List.getElem?_replicate, if_pos (by simpa using hj)]
    exact ⟨_, rfl, SlI.nil _ _ _⟩

/-- The same with longer terms. -/
def lensW (b : List (List Int)) : Prop := ∀ j, j < b.length → (b.getD j []).length ≤ 1600
theorem getD_lenW {b : List (List Int)} (h : lensW b) (j : Nat) : (b.getD j []).length ≤ 1600 := by
  rcases Nat.lt_or_ge j b.length with h1 | h1
  · exact h j h1
  · simp [List.getD, List.getElem?_eq_none h1]
theorem one1_lenW {b : List (List Int)} (h : lensW b) (n : Int) : (one1 b n).length ≤ 1600 := by
  unfold one1
  split
  · exact getD_lenW h _
  · simp
theorem appT_lenW {b : List (List Int)} (h : lensW b) (t : List Int) : (appT b t).length ≤ 1600 * t.length := by
  unfold appT
  induction t with
  | nil => simp
  | cons n t ih =>
    have := one1_lenW h n
    rw [List.flatMap_cons, List.length_append, List.length_cons]
    omega
set_option maxRecDepth 100000 in
set_option maxHeartbeats 400000 in
theorem l2Apply_w (l h l' h' : Nat) (v u : Value) (b : List (List Int)) (t : List Int) (w : World) (hlen : b.length = 12) (hb : lensW b) (ht : t.length ≤ 40) (hlow : ∀ k, k < t.length → -12 ≤ t.getD k 0) (hu : SlS l' h' w u b) (hv : SlI l h w v t) :
    Calls Tryz.prog 98 #[u, v] w (RetI w (appT b t)) := by
  obtain ⟨i0, hi0, hz0, hz1, hz2⟩ := info_parts Tryz.info3
  obtain ⟨ad', cap', rfl⟩ := hu.form
  have HN := Lib.hid hlen; clear hlen
  obtain ⟨ad, cap, rfl, -, -, hr⟩ := hv
  go_enter Tryz.func98, Tryz.ntmps98
  go_wp2_with fail
  go_loopw [5, 10] (fun vs i wr => ∃ k : Nat, k ≤ t.length ∧ i = .int .i64 k ∧ wr.ownsRow w.heap.size 3 1 vs (appT b (t.take k)).length ((appT b (t.take k)).map (Value.int .i64)) ∧ Bel w wr) (fun _ i _ => t.length - (intOf i).toNat)
  case atStart => exact ⟨0, Nat.zero_le _, rfl, World.ownsRow_nil _ _ _ _, Bel.rfl' _⟩
  case round =>
    obtain ⟨k, hk, rfl, hown, hb2⟩ := hrel
    by_cases hlt : k < t.length
    · obtain ⟨bt, offt, rfl, hbl, hcell⟩ := rd hr hb2 k hlt
      have hx12 := hlow k hlt
      have hsucc := appT_succ b t k hlt
      have hal := appT_lenW hb (t.take k)
      have hal2 : (appT b (t.take k)).length ≤ 64000 := by simp at hal; omega
      have h40 := getD_lenW hb (-1 - t.getD k 0).toNat
      clear hr hlow hal
      generalize t.getD k 0 = x at *
      generalize appT b (t.take k) = acc at *
      generalize hq : appT b (t.take (k+1)) = nxt at *
      by_cases hx : x < 0
      · have hm : (-1 - x).toNat < b.length := by have hN : b.length = 12 := HN.out; omega
        have hi0' : 0 ≤ -1 - x := by omega
        have hi1 : -1 - x < b.length := by have hN : b.length = 12 := HN.out; omega
        obtain ⟨bb, off, p, rfl, -, hc, hp⟩ := hu.at hb2 _ hm
        have hv1 := fun h1 => one1_var (b := b) hx h1
        have hv2 := fun h1 => one1_free (b := b) (n := x) h1
        generalize b.getD (-1 - x).toNat [] = tt at *
        by_cases hpos : 0 < tt.length
        · rw [hv1 hpos] at hsucc
          obtain ⟨pb, po, pc, rfl, hpc⟩ := hp.plain hpos
          have hn := news_of_sl hp
          have HS := Lib.hid (And.intro hq hsucc)
          clear hv1 hv2 hq hsucc
          go_wp2_with (at_builtin; refine wpList_append_own _ rfl _ _ 22 rfl w.heap.size 3 i0 (.int .i64 0) 1 8 Tryz.underlying22 hi0 hz0 hz1 hz2 rfl (by decide) _ _ _ rfl hown ⟨pb, po, none⟩ tt.length pc (tt.map (Value.int .i64)) rfl (by simp) hn (ones_int _) (by unfold maxLen; first | omega | (simp; omega)) (by first | omega | (simp; omega)) (by have := hb2.size; first | omega | (simp; omega)) ?_; intro v' w1 hown' hgrow _)
          have hb3 := hb2.grown hgrow (fun k hk => own_base hown k hk)
          have hown2 := row_app (by simpa using hown')
          go_roundw
          case rel =>
            have e := HS.out.1.trans HS.out.2
            exact ⟨k+1, by omega, by go_num, by rw [HS.out.1, HS.out.2]; exact hown2, hb3⟩
          case measure => simp [intOf]; omega
        · rw [hv2 hpos] at hsucc
          have HS := Lib.hid (And.intro hq hsucc)
          have h0 : tt.length = 0 := by omega
          obtain ⟨ap, cp, rfl⟩ := hp.form
          rw [h0] at hc
          clear hv1 hv2 hp hpos h0 hq hsucc
          go_wp2_with (at_builtin; refine wpList_append_own _ rfl _ _ 22 rfl w.heap.size 3 i0 (.int .i64 0) 1 8 Tryz.underlying22 hi0 hz0 hz1 hz2 rfl (by decide) _ _ _ rfl (hown.alloc _) ⟨wr.heap.size, 0, none⟩ 1 1 [.int .i64 x] rfl rfl (news_one _ _ _) (one_int _) (by unfold maxLen; first | omega | (simp; omega)) (by first | omega | (simp; omega)) (by have := hb2.size; first | omega | (simp; omega)) ?_; intro v' w1 hown' hgrow _; have hb3 := (hb2.alloc (.cells #[.int .i64 x] 3)).grown hgrow (fun k hk => own_base hown k hk); have hown2 := row_snoc hown')
          go_roundw
          case rel => exact ⟨k+1, by omega, by go_num, by rw [HS.out.1, HS.out.2]; exact hown2, hb3⟩
          case measure => simp [intOf]; omega
      · rw [one1_sym hx] at hsucc
        have HS := Lib.hid (And.intro hq hsucc)
        clear hq hsucc
        go_wp2_with (at_builtin; refine wpList_append_own _ rfl _ _ 22 rfl w.heap.size 3 i0 (.int .i64 0) 1 8 Tryz.underlying22 hi0 hz0 hz1 hz2 rfl (by decide) _ _ _ rfl (hown.alloc _) ⟨wr.heap.size, 0, none⟩ 1 1 [.int .i64 x] rfl rfl (news_one _ _ _) (one_int _) (by unfold maxLen; first | omega | (simp; omega)) (by first | omega | (simp; omega)) (by have := hb2.size; first | omega | (simp; omega)) ?_; intro v' w1 hown' hgrow _; have hb3 := (hb2.alloc (.cells #[.int .i64 x] 3)).grown hgrow (fun k hk => own_base hown k hk); have hown2 := row_snoc hown')
        go_roundw
        case rel => exact ⟨k+1, by omega, by go_num, by rw [HS.out.1, HS.out.2]; exact hown2, hb3⟩
        case measure => simp [intOf]; omega
    · have e : t.take k = t := List.take_of_length_le (by omega)
      rw [e] at hown
      go_wp2_with fail
      obtain ⟨g, n, c, hv'⟩ := own_form hown
      subst hv'
      go_ret
      exact ⟨_, _, _, rfl, OwnI.of_row hown, hb2⟩


theorem rawL_congr {F G : Nat → List Int} (h : ∀ v, v < 12 → F v = G v) : rawL F = rawL G := by
  unfold rawL
  apply List.map_congr_left
  intro v hv
  rw [List.mem_range] at hv
  exact h v hv
def RetOS (w : World) (F : Nat → List Int) (e : Ending) (w' : World) : Prop := ∃ g, e = .returned (.slice (some ⟨g, 0, none⟩) 12 12) ∧ OwnS w.heap.size w'.heap.size w' (.slice (some ⟨g, 0, none⟩) 12 12) (rawL F) ∧ Bel w w'
/-- What is laid up to index j. -/
def laidF (P : Nat → List Int) (j : Nat) : Nat → List Int := fun v => if v < j then P v else []
theorem laidF_zero (P : Nat → List Int) : laidF P 0 = fun _ => [] := by funext v; simp [laidF]
theorem laidF_succ (P : Nat → List Int) (j : Nat) : upd (laidF P j) j (P j) = laidF P (j+1) := by
  funext v
  unfold upd laidF
  by_cases e : v = j
  · subst e; simp
  · by_cases h : v < j
    · rw [if_neg e, if_pos h, if_pos (by omega)]
    · rw [if_neg e, if_neg h, if_neg (by omega)]
theorem laidF_none (P : Nat → List Int) (j : Nat) (h : P j = []) : laidF P j = laidF P (j+1) := by
  rw [← laidF_succ, h]
  funext v
  unfold upd
  split
  · rename_i e; subst e; simp [laidF]
  · rfl
end Go.Proofs.YtikllmdmifecpaaGreatDoor
end
section
/- The least number of a loop's relation, as its measure. -/
namespace Go.Proofs.YtikllmdmifecpaaGreatDoor

theorem least_ex (P : Nat → Prop) : ∀ k, P k → ∃ j, P j ∧ ∀ i, P i → j ≤ i := by
  intro k
  induction k using Nat.strongRecOn with
  | ind k ih =>
    intro h
    rcases Classical.em (∃ i, i < k ∧ P i) with ⟨i, hi, hp⟩ | hn
    · exact ih i hi hp
    · refine ⟨k, h, fun i hp => ?_⟩
      rcases Nat.lt_or_ge i k with h1 | h1
      · exact absurd ⟨i, h1, hp⟩ hn
      · exact h1
noncomputable def leastOf (P : Nat → Prop) : Nat := by
  classical exact if h : ∃ k, P k then Classical.choose (least_ex P h.choose h.choose_spec) else 0
theorem leastOf_spec {P : Nat → Prop} (h : ∃ k, P k) : P (leastOf P) ∧ ∀ i, P i → leastOf P ≤ i := by
  unfold leastOf
  rw [dif_pos h]
  exact Classical.choose_spec (least_ex P h.choose h.choose_spec)
theorem least_at {P : Nat → Prop} (h : ∃ k, P k) : ∃ k, P k ∧ leastOf P = k := ⟨_, (leastOf_spec h).1, rfl⟩
theorem least_lt {P Q : Nat → Prop} {j k : Nat} (hq : Q j) (hj : j < k) (hk : leastOf P = k) : leastOf Q < leastOf P := by
  have := (leastOf_spec ⟨j, hq⟩).2 j hq
  omega
end Go.Proofs.YtikllmdmifecpaaGreatDoor
end
section
/- Unify: the reference's, one more term found. -/
namespace Go.Proofs.YtikllmdmifecpaaGreatDoor
open Go.RowKit Go.Maps

set_option maxRecDepth 100000 in
set_option maxHeartbeats 1000000 in
theorem l2Bind_c (l h l2 h2 : Nat) (p q : Value) (F : Nat → List Int) (v : Nat) (u : List Int) (w : World) (hv : v < 12) (hp : SlS l h w p (rawL F)) (hF40 : ∀ v, (F v).length ≤ 40) (hlow : ∀ v i, i < (F v).length → -12 ≤ (F v).getD i 0) (hu40 : u.length ≤ 40) (hup : 0 < u.length) (hq : SlI l2 h2 w q u) :
    Calls Tryz.prog 148 #[p, .int .i64 v, q] w (RetOS w (nextF (-1 - (v : Int)) u F)) := by
  have hrl := rawL_len F
  obtain ⟨pa, pc, rfl⟩ := hp.form
  obtain ⟨qa, qc, rfl⟩ := hq.form
  have hmk := made12
  have hr1 := rep12 w
  have hc1 := hr1.cellAt v hv
  rw [List.getElem?_replicate, if_pos hv] at hc1
  have hf1 := hr1.frozenAt v
  have hone := one_sls w _ _ v _ u hv hq hup
  have hv64 : (v : Int) < 12 := by omega
  have hB1 : Bel w ((w.alloc (.cells (madeCells #[.slice none 0 0] 12) 22)).setCell ⟨w.heap.size, v, none⟩ (.slice qa u.length qc)) := (Bel.alloc0 w _).setCell (p := ⟨w.heap.size, v, none⟩) (Nat.le_refl _) _
  have hs1 : ((w.alloc (.cells (madeCells #[.slice none 0 0] 12) 22)).setCell ⟨w.heap.size, v, none⟩ (.slice qa u.length qc)).heap.size = w.heap.size + 1 := by simp
  clear hr1
  go_enter Tryz.func148, Tryz.ntmps148
  go_wp2_with fail
  rw [World.setCell_alloc_new] at hone hB1 hs1
  generalize hW : (w.alloc (.cells ((madeCells #[.slice none 0 0] 12).setIfInBounds v (.slice qa u.length qc)) 22)) = w2 at *
  have HW := Lib.hid hW
  clear hW hc1 hf1
  have hA0 : Arr w.heap.size (w.heap.size + 1) (fun _ => 2) (w2.alloc (.cells (madeCells #[.slice none 0 0] 12) 22)) (List.replicate 12 (Value.slice none 0 0)) (laidF (fun g => putFor (-1 - (v : Int)) u (F g)) 0) := by
    rw [laidF_zero]
    exact arr12 (by omega) hs1.symm (Bel.rfl' _)
  have hps := hp.below hB1
  have hqs := hq.below hB1
  have HP : Hid (∀ g, putFor (-1 - (v : Int)) u (F g) = (fun g => putFor (-1 - (v : Int)) u (F g)) g) := fun g => rfl
  generalize hP : (fun g => putFor (-1 - (v : Int)) u (F g)) = P at *
  go_loopw [18] (fun i wr => ∃ (j : Nat) (tag : Nat → Nat) (us : List Value), j ≤ 12 ∧ i = .int .i64 j ∧ Arr w.heap.size (w.heap.size + 1) tag wr us (laidF P j) ∧ Bel w2 wr) (fun i _ => 12 - (intOf i).toNat)
  case atStart => exact ⟨0, _, _, Nat.zero_le _, rfl, hA0, Bel.alloc0 _ _⟩
  case round =>
    clear hA0
    obtain ⟨j, tag, us, hj, rfl, hA, hb⟩ := hrel
    have hszr := hb.size
    by_cases hlt : j < 12
    · obtain ⟨bb, off, pj, rfl, -, hc, hpj⟩ := hps.at hb j (by omega)
      rw [rawL_get F j hlt] at hpj
      have hFl := hF40 j
      have hFlow := hlow j
      have hPj := HP.out j
      have hlt64 : (j : Int) < 12 := by omega
      obtain ⟨ap, cp, rfl⟩ := hpj.form
      by_cases hpos : 0 < (F j).length
      · have happ := oneF_app (v := v) (t := u) hv hup (F j)
        rw [hPj] at happ
        have hsucc := laidF_succ P j
        have HF := Lib.hid (And.intro happ (And.intro hsucc hA))
        clear happ hsucc hA
        go_wp2_with fail
        refine (l2Apply_r _ _ _ _ _ _ (rawL (oneF v u)) (F j) _ (rawL_len _) (oneF_lens hv hu40) (by omega) hFlow (hone.below hb) hpj).mono ?_; rintro e w4 ⟨ao, no, co, rfl, hX0, hb4⟩
        rw [HF.out.1] at hX0
        have hno : no = (P j).length := row_len hX0
        subst hno
        obtain ⟨tag1, hX, hT1⟩ := tag_new (tag := tag) (base := w.heap.size) (t := 10 + j) (xs := (P j).map (Value.int .i64)) (by simpa using hX0) hb4 (by omega)
        have hA4 := HF.out.2.2.all hT1
        obtain ⟨au, cu, hcu, -, hfu, hUr⟩ := hA4.cell j hlt
        go_wp2_with fail
        have hstp := hA4.set j hlt (fun _ _ _ _ h => h) hX
        rw [HF.out.2.1] at hstp
        refine ⟨?_, ?measure⟩
        iterate 90 (try apply Exists.intro)
        refine ⟨?rel, rfl⟩
        case rel => exact ⟨j+1, tag1, _, by omega, by go_num, hstp, (hb.step hb4).setCell (p := ⟨w.heap.size + 1, j, none⟩) (by simp; omega) _⟩
        case measure => simp [intOf]; omega
      · have h0 : (F j).length = 0 := by omega
        rw [h0] at hc
        have hPn : P j = [] := by rw [← hPj, len0 hpos]; rfl
        have hsucc := laidF_none P j hPn
        rw [hsucc] at hA
        clear hpj
        go_wp2_with fail
        go_roundw
        case rel => exact ⟨j+1, tag, us, by omega, by go_num, hA, hb⟩
        case measure => simp [intOf]; omega
    · obtain rfl : j = 12 := by omega
      have hend : rawL (upd (laidF P 12) v u) = rawL (nextF (-1 - (v : Int)) u F) := by
        apply rawL_congr
        intro g hg
        unfold nextF upd laidF
        rw [show (-1 - (-1 - (v : Int))).toNat = v by omega, ← hP]
        split
        · rfl
        · first | rfl | (rw [if_pos hg])
      have HF := Lib.hid (And.intro hend hA)
      clear hend hA
      go_wp2_with fail
      refine (l1Own_r _ _ _ u _ (by omega) (hqs.below hb)).mono ?_; rintro e w4 ⟨ao, no, co, rfl, hX0, hb4⟩
      have hno : no = u.length := row_len hX0
      subst hno
      obtain ⟨tag1, hX, hT1⟩ := tag_new (tag := tag) (base := w.heap.size) (t := 10 + v) (xs := u.map (Value.int .i64)) (by simpa using hX0) hb4 (by omega)
      have hA4 := HF.out.2.all hT1
      obtain ⟨au, cu, hcu, -, hfu, hUr⟩ := hA4.cell v hv
      go_wp2_with fail
      have hstp := hA4.set v hv (fun _ _ _ _ h => h) hX
      have hO := hstp.2.1
      have hI := hstp.2.2
      rw [HF.out.1] at hI
      go_ret
      exact ⟨_, rfl, OwnS.of_tag hO hI (by omega), (hB1.step (hb.step hb4)).setCell (p := ⟨w.heap.size + 1, v, none⟩) (by simp) _⟩
end Go.Proofs.YtikllmdmifecpaaGreatDoor
end
section
/- Unify: the reference's. -/
namespace Go.Proofs.YtikllmdmifecpaaGreatDoor
open Go.RowKit Go.Maps

def SRel (ar a b : List Int) (R : Option (Nat → List Int)) (base : Nat) (w0 : World) (k : Nat) (fv p q : Value) (wr : World) : Prop :=
  ∃ (xs ys : List Int) (F : Nat → List Int) (g : Nat), fv = .slice (some ⟨g, 0, none⟩) 12 12 ∧ OwnS base wr.heap.size wr fv (rawL F) ∧ (∃ lo hi, SlI lo hi wr p xs) ∧ (∃ lo hi, SlI lo hi wr q ys) ∧ Bel w0 wr ∧ xs.length ≤ 1600 ∧ ys.length ≤ 1600 ∧ (∀ v, (F v).length ≤ 1600) ∧
    ((k + cnt F 12 = 13 ∧ UInv ar a b xs ys F ∧ R = uniGo ar k xs ys F) ∨ (k = 0 ∧ R = none ∧ sizesOk ar (rawL F) xs ys = false))
theorem short_raw {F : Nat → List Int} (h : ∀ v, (F v).length ≤ 1600) : short (rawL F) := by
  refine ⟨by rw [rawL_len]; omega, fun j hj => ?_⟩
  rw [rawL_len] at hj
  rw [rawL_get F j hj]
  have := h j
  omega
theorem lensW_raw {F : Nat → List Int} (h : ∀ v, (F v).length ≤ 1600) : lensW (rawL F) := by
  intro j hj
  rw [rawL_len] at hj
  rw [rawL_get F j hj]
  exact h j
theorem UInv.okF {ar a0 b0 x y : List Int} {F : Nat → List Int} (h : UInv ar a0 b0 x y F) (v : Nat) (hv : F v ≠ []) : okTerm ar (F v) = true := okTerm_seq.2 ⟨h.len40 v, h.seq v hv⟩
theorem UInv.sizes {ar a0 b0 x y : List Int} {F : Nat → List Int} (h : UInv ar a0 b0 x y F) : sizesOk ar (rawL F) x y = true := by
  unfold sizesOk
  rw [h.okx, h.oky, Bool.and_true, Bool.and_true, List.all_eq_true]
  intro t ht
  unfold rawL at ht
  obtain ⟨v, -, rfl⟩ := List.mem_map.1 ht
  unfold okEmpty
  by_cases e : F v = []
  · rw [e]; rfl
  · rw [h.okF v e, Bool.or_true]
theorem UInv.lowF {ar a0 b0 x y : List Int} {F : Nat → List Int} (h : UInv ar a0 b0 x y F) (v i : Nat) (hi : i < (F v).length) : -12 ≤ (F v).getD i 0 := by
  by_cases e : F v = []
  · rw [e] at hi; simp at hi
  · exact okTerm_low (h.okF v e) i hi
theorem sym_rng {ar t : List Int} (hg : goodSign ar = true) (h : okTerm ar t = true) {i : Nat} (hi : i < t.length) : -12 ≤ t.getD i 0 ∧ t.getD i 0 ≤ 10 := by
  have h1 := good_sym ar t h i hi
  have h2 := sign_len ar hg
  have h3 := okTerm_low h i hi
  generalize t.getD i 0 = z at *
  unfold okSym inB at h1
  simp at h1
  omega
def ansR : Option (Nat → List Int) → List (List Int)
  | none => []
  | some F => substL F
theorem srel_next {ar a b xs ys : List Int} {R : Option (Nat → List Int)} {base k : Nat} {w0 wr : World} {F : Nat → List Int} {fv p q : Value} (hU : UInv ar a b xs ys F) (hne : xs ≠ ys) (hbad : ¬ badU ar xs ys) (hcnt : k + 1 + cnt F 12 = 13) (hRk : R = uniGo ar (k+1) xs ys F)
    (hf : ∃ g, fv = .slice (some ⟨g, 0, none⟩) 12 12) (hO : OwnS base wr.heap.size wr fv (rawL (nextF (lowN xs ys) (putU ar xs ys) F))) (hp : ∃ lo hi, SlI lo hi wr p (appT (rawL (nextF (lowN xs ys) (putU ar xs ys) F)) a)) (hq : ∃ lo hi, SlI lo hi wr q (appT (rawL (nextF (lowN xs ys) (putU ar xs ys) F)) b)) (hb : Bel w0 wr) :
    ∃ j, j < k + 1 ∧ SRel ar a b R base w0 j fv p q wr := by
  have hok := uok hU hne hbad
  obtain ⟨g, rfl⟩ := hf
  rw [← hok.ax] at hp
  rw [← hok.ay] at hq
  by_cases hl : longU ar xs ys
  · refine ⟨0, Nat.succ_pos _, _, _, _, g, rfl, hO, hp, hq, hb, hok.lx, hok.ly, hok.lF, .inr ⟨rfl, by rw [hRk, ug_long hne hbad hl], ?_⟩⟩
    unfold sizesOk
    unfold longU at hl
    rcases hl with h | h
    · rw [okTerm_long h, Bool.and_false, Bool.false_and]
    · rw [okTerm_long h, Bool.and_false]
  · exact ⟨k, Nat.lt_succ_self _, _, _, _, g, rfl, hO, hp, hq, hb, hok.lx, hok.ly, hok.lF, .inl ⟨by have := hok.more; omega, hok.next hl, by rw [hRk, ug_next hne hbad hl]⟩⟩

set_option maxRecDepth 100000 in
set_option maxHeartbeats 1000000 in
theorem l2Unify_c (l h l1 h1 l2 h2 : Nat) (v x y : Value) (ar a b : List Int) (w : World) (hg : goodSign ar = true) (hoa : okTerm ar a = true) (hob : okTerm ar b = true) (hv : SlI l h w v ar) (hx : SlI l1 h1 w x a) (hy : SlI l2 h2 w y b) :
    Calls Tryz.prog 96 #[.agg #[v], x, y] w (RetSSB w (ansR (uniR ar a b)) (uniR ar a b).isSome) := by
  have hU0 := UInv.start hoa hob
  have ha40 := (okTerm_seq.1 hoa).1
  have hb40 := (okTerm_seq.1 hob).1
  have hlowa := okTerm_low hoa
  have hlowb := okTerm_low hob
  have hR0 : uniR ar a b = uniGo ar 13 a b (fun _ => []) := rfl
  generalize hR : uniR ar a b = R at *
  clear hR
  have hmk := made12
  go_enter Tryz.func96, Tryz.ntmps96
  go_wp2_with fail
  refine (l1Own_r _ _ _ a _ (by omega) ((hx.alloc (.cells #[v] 33)).alloc _)).mono ?_; rintro e w1 ⟨ax, nx, cx, rfl, hX, hb1⟩
  go_wp2_with fail
  refine (l1Own_r _ _ _ b _ (by omega) (((hy.alloc (.cells #[v] 33)).alloc _).below hb1)).mono ?_; rintro e w2 ⟨ay, ny, cy, rfl, hY, hb2⟩
  have hnx := row_len hX
  have hny := row_len hY
  subst hnx hny
  have hb12 := hb1.step hb2
  have hB0 : Bel (w.alloc (.cells #[v] 33)) w2 := (Bel.alloc0 (w.alloc (.cells #[v] 33)) (.cells (madeCells #[.slice none 0 0] 12) 22)).step hb12
  have hA0 := arr12 (w := w.alloc (.cells #[v] 33)) (base := w.heap.size) (B := w.heap.size + 1) (by simp) (by simp) hb12
  have hS0 : OwnS w.heap.size w2.heap.size w2 (.slice (some ⟨w.heap.size + 1, 0, none⟩) 12 12) (rawL fun _ => []) := OwnS.of_tag hA0.2.1 hA0.2.2 (by omega)
  have hX0 := (OwnI.of_row hX).sl.below hb2
  have hY0 := (OwnI.of_row hY).sl
  clear hA0 hX hY hb1 hb2 hb12
  go_wp2_with fail
  go_loopw [8, 9, 10] (fun fv p q wr => ∃ k, SRel ar a b R w.heap.size (w.alloc (.cells #[v] 33)) k fv p q wr) (fun fv p q wr => leastOf fun k => SRel ar a b R w.heap.size (w.alloc (.cells #[v] 33)) k fv p q wr)
  case atStart => exact ⟨13, a, b, _, _, rfl, hS0, ⟨_, _, hX0⟩, ⟨_, _, hY0⟩, hB0, by omega, by omega, fun _ => by simp, .inl ⟨by simp [cnt], hU0, hR0⟩⟩
  case round =>
    clear hS0 hX0 hY0 hB0 hU0 hR0
    obtain ⟨k, hSR, hleast⟩ := least_at hrel
    have HL := Lib.hid hleast
    clear hleast hrel
    obtain ⟨xs, ys, F, g, rfl, hO, ⟨lx, hx3, hxs⟩, ⟨ly, hy3, hys⟩, hb, hxl, hyl, hFl, hcase⟩ := hSR
    have hbox := boxc hb 0 _ rfl
    obtain ⟨xa, xc, rfl⟩ := hxs.form
    obtain ⟨ya, yc, rfl⟩ := hys.form
    have hshort := short_raw hFl
    rcases hcase with ⟨hcnt, hU, hRk⟩ | ⟨rfl, rfl, hso⟩
    · have hso := hU.sizes
      have hc12 := cnt_le F 12
      obtain ⟨k, rfl⟩ : ∃ k', k = k' + 1 := ⟨k - 1, by omega⟩
      go_wp2_with fail
      refine (l2Sizes_v _ _ _ _ _ _ _ _ v _ _ _ ar (rawL F) xs ys true _ hso hg (hv.below hb.of_alloc) hshort hO.sl hxl hxs hyl hys).mono ?_; rintro e w3 ⟨rfl, hb3⟩
      have hbw3 := hb.step hb3
      have hbf := dif_before xs ys
      go_wp2_with fail
      go_loopw [11] (fun i wi => ∃ j : Nat, j ≤ dif xs ys ∧ i = .int .i64 j ∧ Bel wr wi) (fun i _ => dif xs ys - (intOf i).toNat)
      case atStart => exact ⟨0, Nat.zero_le _, rfl, hb3⟩
      case round =>
        clear hb3 hbw3 hbox
        obtain ⟨j, hj, rfl, hbi⟩ := hrel
        have hbw := hb.step hbi
        have hbox := boxc hbw 0 _ rfl
        have hxw := hxs.below hbi
        have hyw := hys.below hbi
        by_cases hlt : j < dif xs ys
        · obtain ⟨hjx, hjy, hje⟩ := hbf j hlt
          obtain ⟨b1, o1, rfl, -, hc1⟩ := hxw.at j hjx
          obtain ⟨b2, o2, rfl, -, hc2⟩ := hyw.at j hjy
          rw [← hje] at hc2
          have hjx2 : (j : Int) < xs.length := by omega
          have hjy2 : (j : Int) < ys.length := by omega
          have hd1 : decide ((j : Int) < xs.length) = true := by simpa using hjx2
          have hd2 : decide ((j : Int) < ys.length) = true := by simpa using hjy2
          have hw49 := IntWalk.i64_in ((j : Int) + 1) (by omega)
          clear hbf hje hU hO hso
          generalize xs.getD j 0 = m at *
          go_wp2_with fail
          go_quiet (fail)
          go_wp2_with fail
          go_roundw
          case rel => exact ⟨j+1, by omega, by go_num, hbi.drewN _⟩
          case measure => simp [intOf]; omega
        · obtain rfl : j = dif xs ys := by omega
          clear hbf
          by_cases hEq : xs = ys
          · subst hEq
            rw [ug_same rfl] at hRk
            subst hRk
            have hraw := hU.raw
            rw [hraw] at hO
            rw [dif_same] at *
            have hd1 : decide ((xs.length : Int) < xs.length) = false := by simp
            clear hU hso
            go_wp2_with fail
            go_quiet (fail)
            go_wp2_with fail
            go_ret2
            exact ⟨_, _, _, rfl, (hO.below (hbi.drewN _)).mono (Nat.le_refl _) (hbi.drewN _).size, (hbw.drewN _).of_alloc⟩
          · obtain ⟨e0, hRo⟩ := uround hU hEq
            have hx40 := (okTerm_seq.1 hU.okx).1
            have hy40 := (okTerm_seq.1 hU.oky).1
            have hoy := hU.oky
            obtain ⟨ey, hey, hdy, heyl⟩ := good_end ar ys hU.oky _ hRo.dy
            have hdx := hRo.dx
            have hdy1 := hRo.dy
            have hne := hRo.ne
            have hen := hRo.en
            have hde := hRo.de
            have heo := hRo.eo
            have hpu := hRo.pu
            have hlo := hRo.low
            have hnr := sym_rng hg hU.okx hRo.dx
            have hmr := sym_rng hg hU.oky hRo.dy
            have hlow : lowN xs ys = if ys.getD (dif xs ys) 0 < xs.getD (dif xs ys) 0 then ys.getD (dif xs ys) 0 else xs.getD (dif xs ys) 0 := rfl
            have hoth : other xs ys = if ys.getD (dif xs ys) 0 < xs.getD (dif xs ys) 0 then xs else ys := rfl
            have hbd : badU ar xs ys ↔ (0 ≤ lowN xs ys ∨ lowN xs ys ∈ putU ar xs ys) := Iff.rfl
            have hub : ¬ badU ar xs ys → (lowN xs ys < 0 ∧ lowN xs ys ∉ putU ar xs ys ∧ (putU ar xs ys).length ≤ 40 ∧ 0 < (putU ar xs ys).length ∧ ∀ v, (nextF (lowN xs ys) (putU ar xs ys) F v).length ≤ 1600) := fun h => have hok := uok hU hEq h; ⟨hok.neg, hok.not, hok.u40, hok.up, hok.lF⟩
            have HN := Lib.hid (fun (fv p q : Value) (wz : World) (hbad : ¬ badU ar xs ys) => srel_next (base := w.heap.size) (w0 := w.alloc (.cells #[v] 33)) (wr := wz) (fv := fv) (p := p) (q := q) hU hEq hbad (by omega) hRk)
            have HBd := Lib.hid (fun (hbad : badU ar xs ys) => show R = none by rw [hRk, ug_bad hEq hbad])
            have hF40 := hU.len40
            have hFlow := hU.lowF
            have hpl : (partOf ys (dif xs ys) ey).length ≤ 40 := by rw [partOf_len _ _ _ heyl]; omega
            have HBi := Lib.hid (fun (fv : Value) (lo hi : Nat) (wz : World) (n : Nat) (u : List Int) (q : Value) (lq hq : Nat) (hn : n < 12) (hfv : SlS lo hi wz fv (rawL F)) (hu40 : u.length ≤ 40) (hup : 0 < u.length) (hqv : SlI lq hq wz q u) => l2Bind_c lo hi lq hq fv q F n u wz hn hfv hF40 hFlow hu40 hup hqv)
            clear hU hRk hRo hF40 hFlow hso
            generalize lowN xs ys = n0 at *
            generalize other xs ys = oo at *
            generalize putU ar xs ys = u at *
            generalize badU ar xs ys = bad at *
            obtain ⟨b1, o1, rfl, -, hc1⟩ := hxw.at _ hdx
            obtain ⟨b2, o2, rfl, -, hc2⟩ := hyw.at _ hdy1
            generalize dif xs ys = d at *
            have hjx2 : (d : Int) < xs.length := by omega
            have hjy2 : (d : Int) < ys.length := by omega
            have hd1 : decide ((d : Int) < xs.length) = true := by simpa using hjx2
            have hd2 : decide ((d : Int) < ys.length) = true := by simpa using hjy2
            have hd3 : ((d : Int) == xs.length) = false := by rw [beq_eq_false_iff_ne]; omega
            generalize xs.getD d 0 = n at *
            generalize ys.getD d 0 = m at *
            have hnm : (n == m) = false := by simpa using hne
            by_cases hn : 0 ≤ n
            · have hdn : decide (0 ≤ n) = true := by simpa using hn
              by_cases hm : 0 ≤ m
              · have hdm : decide (0 ≤ m) = true := by simpa using hm
                have hbad : bad := hbd.2 (.inl (by rw [hlow]; split <;> assumption))
                have hRn := HBd.out hbad
                subst hRn
                go_wp2_with fail
                go_quiet (fail)
                go_wp2_with fail
                go_quiet (fail)
                go_wp2_with fail
                go_ret2
                exact ⟨_, _, _, rfl, OwnS.nil _ _ _, (hbw.drewN _).of_alloc⟩
              · have hdm : decide (0 ≤ m) = false := by simpa using hm
                have hdm2 : decide (m < 0) = true := by simp; omega
                rw [if_pos (by omega)] at hlow hoth
                subst hlow hoth
                have hvn : ((-1 - n0).toNat : Int) = -1 - n0 := by omega
                have hvv : -1 - (-1 - n0) = n0 := by omega
                have hv12 : (-1 - n0).toNat < 12 := by omega
                have hpl2 : (partOf oo d e0).length ≤ 40 := by rw [partOf_len _ _ _ heo]; omega
                have hwa := IntWalk.i64_in (-1 - n) (by omega)
                have hwb := IntWalk.i64_in (-1 - n0) (by omega)
                have hwc := IntWalk.i64_in (-1 - (-1 - n0)) (by omega)
                subst hpu
                have HX := Lib.hid (And.intro hey hen)
                clear hey hen
                go_wp2_with fail
                go_quiet (fail)
                go_wp2_with fail
                go_quiet (fail)
                go_wp2_with fail
                refine (l1Part_r _ _ _ _ v _ ar ys d ey _ hg (by omega) hdy1 HX.out.1 hdy heyl (hv.below (hbw.drewN _).of_alloc) (hys.below (hbi.drewN _))).mono ?_; rintro e w4 ⟨a4, n4, c4, rfl, hP4, hb4⟩
                have hb04 := (hbw.drewN _).step hb4
                have hbox4 := boxc hb04 0 _ rfl
                clear hP4
                go_wp2_with fail
                refine (l1Part_r _ _ _ _ v _ ar oo d e0 _ hg (by omega) hdx HX.out.2 hde heo (hv.below hb04.of_alloc) (hxs.below ((hbi.drewN _).step hb4))).mono ?_; rintro e w5 ⟨a5, n5, c5, rfl, hP5, hb5⟩
                have hb05 := hb04.step hb5
                have hbi5 := ((hbi.drewN _).step hb4).step hb5
                have hn5 := row_len hP5
                subst hn5
                have hu5 := (OwnI.of_row hP5).sl
                by_cases hmu : n0 ∈ partOf oo d e0
                · have hRn := HBd.out (hbd.2 (.inr hmu))
                  subst hRn
                  have hdm3 : decide (n0 ∈ partOf oo d e0) = true := by simpa using hmu
                  go_wp2_with fail
                  refine (l1Has_v _ _ _ (partOf oo d e0) _ true _ hdm3 (by omega) hu5).mono ?_; rintro e w6 ⟨rfl, hb6⟩
                  go_wp2_with fail
                  go_ret2
                  exact ⟨_, _, _, rfl, OwnS.nil _ _ _, (hb05.step hb6).of_alloc⟩
                · have hnb : ¬ bad := fun h => by
                    rcases hbd.1 h with h1 | h1
                    · omega
                    · exact hmu h1
                  obtain ⟨-, -, hu40, hup, hlF⟩ := hub hnb
                  have hdm3 : decide (n0 ∈ partOf oo d e0) = false := by simpa using hmu
                  have HNN := Lib.hid (fun (fv p q : Value) (wz : World) => HN.out fv p q wz hnb)
                  clear hub hbd hmu HN HBd
                  go_wp2_with fail
                  refine (l1Has_v _ _ _ (partOf oo d e0) _ false _ hdm3 (by omega) hu5).mono ?_; rintro e w6 ⟨rfl, hb6⟩
                  have hbi6 := hbi5.step hb6
                  have hb06 := hb05.step hb6
                  have hBind := HBi.out _ _ _ w6 (-1 - n0).toNat (partOf oo d e0) _ _ _ hv12 (hO.sl.below hbi6) hu40 hup (hu5.below hb6)
                  rw [hvn, hvv] at hBind
                  go_wp2_with fail
                  refine hBind.mono ?_; rintro e w7 ⟨g7, rfl, hO7, hb7⟩
                  have hb07 := hb06.step hb7
                  go_wp2_with fail
                  refine (l2Apply_w _ _ _ _ _ _ (rawL (nextF n0 (partOf oo d e0) F)) a _ (rawL_len _) (lensW_raw hlF) ha40 hlowa hO7.sl (hx.below hb07.of_alloc)).mono ?_; rintro e w8 ⟨a8, n8, c8, rfl, hX8, hb8⟩
                  go_wp2_with fail
                  refine (l2Apply_w _ _ _ _ _ _ (rawL (nextF n0 (partOf oo d e0) F)) b _ (rawL_len _) (lensW_raw hlF) hb40 hlowb (hO7.sl.below hb8) (hy.below (hb07.step hb8).of_alloc)).mono ?_; rintro e w9 ⟨a9, n9, c9, rfl, hX9, hb9⟩
                  have hb09 := (hb07.step hb8).step hb9
                  have hzz := hb06.size
                  simp only [World.size_alloc] at hzz
                  obtain ⟨jn, hjn, hSn⟩ := HNN.out (.slice (some ⟨g7, 0, none⟩) 12 12) (.slice a8 n8 c8) (.slice a9 n9 c9) w9 ⟨g7, rfl⟩ ((hO7.below (hb8.step hb9)).mono (by omega) (hb8.step hb9).size) ⟨_, _, hX8.sl.below hb9⟩ ⟨_, _, hX9.sl⟩ hb09
                  go_wp2_with fail
                  exact ⟨⟨jn, hSn⟩, least_lt hSn hjn HL.out⟩
            · have hdn : decide (0 ≤ n) = false := by simpa using hn
              by_cases hm : 0 ≤ m
              · have hdm : decide (0 ≤ m) = true := by simpa using hm
                have hdm2 : decide (m < 0) = false := by simp; omega
                rw [if_neg (by omega)] at hlow hoth
                subst hlow hoth
                have hvn : ((-1 - n0).toNat : Int) = -1 - n0 := by omega
                have hvv : -1 - (-1 - n0) = n0 := by omega
                have hv12 : (-1 - n0).toNat < 12 := by omega
                have hpl2 : (partOf oo d e0).length ≤ 40 := by rw [partOf_len _ _ _ heo]; omega
                have hwb := IntWalk.i64_in (-1 - n0) (by omega)
                have hwc := IntWalk.i64_in (-1 - (-1 - n0)) (by omega)
                subst hpu
                have HX := Lib.hid (And.intro hey hen)
                clear hey hen
                go_wp2_with fail
                go_quiet (fail)
                go_wp2_with fail
                go_quiet (fail)
                go_wp2_with fail
                refine (l1Part_r _ _ _ _ v _ ar oo d e0 _ hg (by omega) hdy1 HX.out.2 hde heo (hv.below (hbw.drewN _).of_alloc) (hys.below (hbi.drewN _))).mono ?_; rintro e w5 ⟨a5, n5, c5, rfl, hP5, hb5⟩
                have hb05 := (hbw.drewN _).step hb5
                have hbi5 := (hbi.drewN _).step hb5
                have hn5 := row_len hP5
                subst hn5
                have hu5 := (OwnI.of_row hP5).sl
                by_cases hmu : n0 ∈ partOf oo d e0
                · have hRn := HBd.out (hbd.2 (.inr hmu))
                  subst hRn
                  have hdm3 : decide (n0 ∈ partOf oo d e0) = true := by simpa using hmu
                  go_wp2_with fail
                  refine (l1Has_v _ _ _ (partOf oo d e0) _ true _ hdm3 (by omega) hu5).mono ?_; rintro e w6 ⟨rfl, hb6⟩
                  go_wp2_with fail
                  go_ret2
                  exact ⟨_, _, _, rfl, OwnS.nil _ _ _, (hb05.step hb6).of_alloc⟩
                · have hnb : ¬ bad := fun h => by
                    rcases hbd.1 h with h1 | h1
                    · omega
                    · exact hmu h1
                  obtain ⟨-, -, hu40, hup, hlF⟩ := hub hnb
                  have hdm3 : decide (n0 ∈ partOf oo d e0) = false := by simpa using hmu
                  have HNN := Lib.hid (fun (fv p q : Value) (wz : World) => HN.out fv p q wz hnb)
                  clear hub hbd hmu HN HBd
                  go_wp2_with fail
                  refine (l1Has_v _ _ _ (partOf oo d e0) _ false _ hdm3 (by omega) hu5).mono ?_; rintro e w6 ⟨rfl, hb6⟩
                  have hbi6 := hbi5.step hb6
                  have hb06 := hb05.step hb6
                  have hBind := HBi.out _ _ _ w6 (-1 - n0).toNat (partOf oo d e0) _ _ _ hv12 (hO.sl.below hbi6) hu40 hup (hu5.below hb6)
                  rw [hvn, hvv] at hBind
                  go_wp2_with fail
                  refine hBind.mono ?_; rintro e w7 ⟨g7, rfl, hO7, hb7⟩
                  have hb07 := hb06.step hb7
                  go_wp2_with fail
                  refine (l2Apply_w _ _ _ _ _ _ (rawL (nextF n0 (partOf oo d e0) F)) a _ (rawL_len _) (lensW_raw hlF) ha40 hlowa hO7.sl (hx.below hb07.of_alloc)).mono ?_; rintro e w8 ⟨a8, n8, c8, rfl, hX8, hb8⟩
                  go_wp2_with fail
                  refine (l2Apply_w _ _ _ _ _ _ (rawL (nextF n0 (partOf oo d e0) F)) b _ (rawL_len _) (lensW_raw hlF) hb40 hlowb (hO7.sl.below hb8) (hy.below (hb07.step hb8).of_alloc)).mono ?_; rintro e w9 ⟨a9, n9, c9, rfl, hX9, hb9⟩
                  have hb09 := (hb07.step hb8).step hb9
                  have hzz := hb06.size
                  simp only [World.size_alloc] at hzz
                  obtain ⟨jn, hjn, hSn⟩ := HNN.out (.slice (some ⟨g7, 0, none⟩) 12 12) (.slice a8 n8 c8) (.slice a9 n9 c9) w9 ⟨g7, rfl⟩ ((hO7.below (hb8.step hb9)).mono (by omega) (hb8.step hb9).size) ⟨_, _, hX8.sl.below hb9⟩ ⟨_, _, hX9.sl⟩ hb09
                  go_wp2_with fail
                  exact ⟨⟨jn, hSn⟩, least_lt hSn hjn HL.out⟩
              · have hdm : decide (0 ≤ m) = false := by simpa using hm
                have hdm2 : decide (m < 0) = true := by simp; omega
                by_cases hmn : m < n
                · have hdq : decide (-1 - n < -1 - m) = true := by simp; omega
                  rw [if_pos (by omega)] at hlow hoth
                  subst hlow hoth
                  have hvn : ((-1 - n0).toNat : Int) = -1 - n0 := by omega
                  have hvv : -1 - (-1 - n0) = n0 := by omega
                  have hv12 : (-1 - n0).toNat < 12 := by omega
                  have hpl2 : (partOf oo d e0).length ≤ 40 := by rw [partOf_len _ _ _ heo]; omega
                  have hwa := IntWalk.i64_in (-1 - n) (by omega)
                  have hwb := IntWalk.i64_in (-1 - n0) (by omega)
                  have hwc := IntWalk.i64_in (-1 - (-1 - n0)) (by omega)
                  subst hpu
                  have HX := Lib.hid (And.intro hey hen)
                  clear hey hen
                  go_wp2_with fail
                  go_quiet (fail)
                  go_wp2_with fail
                  go_quiet (fail)
                  go_wp2_with fail
                  refine (l1Part_r _ _ _ _ v _ ar ys d ey _ hg (by omega) hdy1 HX.out.1 hdy heyl (hv.below (hbw.drewN _).of_alloc) (hys.below (hbi.drewN _))).mono ?_; rintro e w4 ⟨a4, n4, c4, rfl, hP4, hb4⟩
                  have hb04 := (hbw.drewN _).step hb4
                  have hbox4 := boxc hb04 0 _ rfl
                  clear hP4
                  go_wp2_with fail
                  refine (l1Part_r _ _ _ _ v _ ar oo d e0 _ hg (by omega) hdx HX.out.2 hde heo (hv.below hb04.of_alloc) (hxs.below ((hbi.drewN _).step hb4))).mono ?_; rintro e w5 ⟨a5, n5, c5, rfl, hP5, hb5⟩
                  have hb05 := hb04.step hb5
                  have hbi5 := ((hbi.drewN _).step hb4).step hb5
                  have hn5 := row_len hP5
                  subst hn5
                  have hu5 := (OwnI.of_row hP5).sl
                  by_cases hmu : n0 ∈ partOf oo d e0
                  · have hRn := HBd.out (hbd.2 (.inr hmu))
                    subst hRn
                    have hdm3 : decide (n0 ∈ partOf oo d e0) = true := by simpa using hmu
                    go_wp2_with fail
                    refine (l1Has_v _ _ _ (partOf oo d e0) _ true _ hdm3 (by omega) hu5).mono ?_; rintro e w6 ⟨rfl, hb6⟩
                    go_wp2_with fail
                    go_ret2
                    exact ⟨_, _, _, rfl, OwnS.nil _ _ _, (hb05.step hb6).of_alloc⟩
                  · have hnb : ¬ bad := fun h => by
                      rcases hbd.1 h with h1 | h1
                      · omega
                      · exact hmu h1
                    obtain ⟨-, -, hu40, hup, hlF⟩ := hub hnb
                    have hdm3 : decide (n0 ∈ partOf oo d e0) = false := by simpa using hmu
                    have HNN := Lib.hid (fun (fv p q : Value) (wz : World) => HN.out fv p q wz hnb)
                    clear hub hbd hmu HN HBd
                    go_wp2_with fail
                    refine (l1Has_v _ _ _ (partOf oo d e0) _ false _ hdm3 (by omega) hu5).mono ?_; rintro e w6 ⟨rfl, hb6⟩
                    have hbi6 := hbi5.step hb6
                    have hb06 := hb05.step hb6
                    have hBind := HBi.out _ _ _ w6 (-1 - n0).toNat (partOf oo d e0) _ _ _ hv12 (hO.sl.below hbi6) hu40 hup (hu5.below hb6)
                    rw [hvn, hvv] at hBind
                    go_wp2_with fail
                    refine hBind.mono ?_; rintro e w7 ⟨g7, rfl, hO7, hb7⟩
                    have hb07 := hb06.step hb7
                    go_wp2_with fail
                    refine (l2Apply_w _ _ _ _ _ _ (rawL (nextF n0 (partOf oo d e0) F)) a _ (rawL_len _) (lensW_raw hlF) ha40 hlowa hO7.sl (hx.below hb07.of_alloc)).mono ?_; rintro e w8 ⟨a8, n8, c8, rfl, hX8, hb8⟩
                    go_wp2_with fail
                    refine (l2Apply_w _ _ _ _ _ _ (rawL (nextF n0 (partOf oo d e0) F)) b _ (rawL_len _) (lensW_raw hlF) hb40 hlowb (hO7.sl.below hb8) (hy.below (hb07.step hb8).of_alloc)).mono ?_; rintro e w9 ⟨a9, n9, c9, rfl, hX9, hb9⟩
                    have hb09 := (hb07.step hb8).step hb9
                    have hzz := hb06.size
                    simp only [World.size_alloc] at hzz
                    obtain ⟨jn, hjn, hSn⟩ := HNN.out (.slice (some ⟨g7, 0, none⟩) 12 12) (.slice a8 n8 c8) (.slice a9 n9 c9) w9 ⟨g7, rfl⟩ ((hO7.below (hb8.step hb9)).mono (by omega) (hb8.step hb9).size) ⟨_, _, hX8.sl.below hb9⟩ ⟨_, _, hX9.sl⟩ hb09
                    go_wp2_with fail
                    exact ⟨⟨jn, hSn⟩, least_lt hSn hjn HL.out⟩
                · have hdq : decide (-1 - n < -1 - m) = false := by simp; omega
                  have hwm := IntWalk.i64_in (-1 - m) (by omega)
                  rw [if_neg (by omega)] at hlow hoth
                  subst hlow hoth
                  have hvn : ((-1 - n0).toNat : Int) = -1 - n0 := by omega
                  have hvv : -1 - (-1 - n0) = n0 := by omega
                  have hv12 : (-1 - n0).toNat < 12 := by omega
                  have hpl2 : (partOf oo d e0).length ≤ 40 := by rw [partOf_len _ _ _ heo]; omega
                  have hwb := IntWalk.i64_in (-1 - n0) (by omega)
                  have hwc := IntWalk.i64_in (-1 - (-1 - n0)) (by omega)
                  subst hpu
                  have HX := Lib.hid (And.intro hey hen)
                  clear hey hen
                  go_wp2_with fail
                  go_quiet (fail)
                  go_wp2_with fail
                  go_quiet (fail)
                  go_wp2_with fail
                  refine (l1Part_r _ _ _ _ v _ ar oo d e0 _ hg (by omega) hdy1 HX.out.2 hde heo (hv.below (hbw.drewN _).of_alloc) (hys.below (hbi.drewN _))).mono ?_; rintro e w5 ⟨a5, n5, c5, rfl, hP5, hb5⟩
                  have hb05 := (hbw.drewN _).step hb5
                  have hbi5 := (hbi.drewN _).step hb5
                  have hn5 := row_len hP5
                  subst hn5
                  have hu5 := (OwnI.of_row hP5).sl
                  by_cases hmu : n0 ∈ partOf oo d e0
                  · have hRn := HBd.out (hbd.2 (.inr hmu))
                    subst hRn
                    have hdm3 : decide (n0 ∈ partOf oo d e0) = true := by simpa using hmu
                    go_wp2_with fail
                    refine (l1Has_v _ _ _ (partOf oo d e0) _ true _ hdm3 (by omega) hu5).mono ?_; rintro e w6 ⟨rfl, hb6⟩
                    go_wp2_with fail
                    go_ret2
                    exact ⟨_, _, _, rfl, OwnS.nil _ _ _, (hb05.step hb6).of_alloc⟩
                  · have hnb : ¬ bad := fun h => by
                      rcases hbd.1 h with h1 | h1
                      · omega
                      · exact hmu h1
                    obtain ⟨-, -, hu40, hup, hlF⟩ := hub hnb
                    have hdm3 : decide (n0 ∈ partOf oo d e0) = false := by simpa using hmu
                    have HNN := Lib.hid (fun (fv p q : Value) (wz : World) => HN.out fv p q wz hnb)
                    clear hub hbd hmu HN HBd
                    go_wp2_with fail
                    refine (l1Has_v _ _ _ (partOf oo d e0) _ false _ hdm3 (by omega) hu5).mono ?_; rintro e w6 ⟨rfl, hb6⟩
                    have hbi6 := hbi5.step hb6
                    have hb06 := hb05.step hb6
                    have hBind := HBi.out _ _ _ w6 (-1 - n0).toNat (partOf oo d e0) _ _ _ hv12 (hO.sl.below hbi6) hu40 hup (hu5.below hb6)
                    rw [hvn, hvv] at hBind
                    go_wp2_with fail
                    refine hBind.mono ?_; rintro e w7 ⟨g7, rfl, hO7, hb7⟩
                    have hb07 := hb06.step hb7
                    go_wp2_with fail
                    refine (l2Apply_w _ _ _ _ _ _ (rawL (nextF n0 (partOf oo d e0) F)) a _ (rawL_len _) (lensW_raw hlF) ha40 hlowa hO7.sl (hx.below hb07.of_alloc)).mono ?_; rintro e w8 ⟨a8, n8, c8, rfl, hX8, hb8⟩
                    go_wp2_with fail
                    refine (l2Apply_w _ _ _ _ _ _ (rawL (nextF n0 (partOf oo d e0) F)) b _ (rawL_len _) (lensW_raw hlF) hb40 hlowb (hO7.sl.below hb8) (hy.below (hb07.step hb8).of_alloc)).mono ?_; rintro e w9 ⟨a9, n9, c9, rfl, hX9, hb9⟩
                    have hb09 := (hb07.step hb8).step hb9
                    have hzz := hb06.size
                    simp only [World.size_alloc] at hzz
                    obtain ⟨jn, hjn, hSn⟩ := HNN.out (.slice (some ⟨g7, 0, none⟩) 12 12) (.slice a8 n8 c8) (.slice a9 n9 c9) w9 ⟨g7, rfl⟩ ((hO7.below (hb8.step hb9)).mono (by omega) (hb8.step hb9).size) ⟨_, _, hX8.sl.below hb9⟩ ⟨_, _, hX9.sl⟩ hb09
                    go_wp2_with fail
                    exact ⟨⟨jn, hSn⟩, least_lt hSn hjn HL.out⟩
    · go_wp2_with fail
      refine (l2Sizes_v _ _ _ _ _ _ _ _ v _ _ _ ar (rawL F) xs ys false _ hso hg (hv.below hb.of_alloc) hshort hO.sl hxl hxs hyl hys).mono ?_; rintro e w3 ⟨rfl, hb3⟩
      go_wp2_with fail
      go_ret2
      exact ⟨_, _, _, rfl, OwnS.nil _ _ _, (hb.step hb3).of_alloc⟩

end Go.Proofs.YtikllmdmifecpaaGreatDoor
end
