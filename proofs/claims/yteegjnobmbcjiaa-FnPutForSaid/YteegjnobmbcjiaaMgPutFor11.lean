/- Texts merged, part 11. -/
import Derived.Test.YteegjnobmbcjiaaMgPutFor10
section
/- Unify: what is found makes both terms one, once and for all, and whatever else does so goes on from it (Robinson). -/
namespace Go.Proofs.Yteegjnobmbcjiaa
open Go.RowKit Go.Maps

theorem ug_inv {ar a0 b0 : List Int} : ∀ (k : Nat) (x y : List Int) (F G : Nat → List Int), UInv ar a0 b0 x y F → uniGo ar k x y F = some G → ∃ z, UInv ar a0 b0 z z G := by
  intro k
  induction k with
  | zero => intro x y F G h e; simp [uniGo] at e
  | succ k ih =>
    intro x y F G h e
    by_cases h1 : x = y
    · rw [ug_same h1] at e
      simp at e
      subst h1
      rw [← e]; exact ⟨x, h⟩
    · by_cases h2 : badU ar x y
      · rw [ug_bad h1 h2] at e; simp at e
      · by_cases h3 : longU ar x y
        · rw [ug_long h1 h2 h3] at e; simp at e
        · rw [ug_next h1 h2 h3] at e
          exact ih _ _ _ _ ((uok h h1 h2).next h3) e
theorem unify_inv {ar a b : List Int} (h : unifyOk ar a b = true) : ∃ G z, uniR ar a b = some G ∧ UInv ar a b z z G ∧ unifyAns ar a b = rawL G ∧ goodSign ar = true ∧ okTerm ar a = true ∧ okTerm ar b = true := by
  have h0 := h
  unfold unifyOk at h0
  simp only [Bool.and_eq_true] at h0
  obtain ⟨hk, hr⟩ := h0
  obtain ⟨G, hG⟩ := Option.isSome_iff_exists.1 hr
  have hk2 := hk
  simp only [uniOk0, Bool.and_eq_true] at hk2
  obtain ⟨hg, hp⟩ := goodTerm_iff.1 hk2.1
  obtain ⟨z, hz⟩ := ug_inv 13 a b _ G (UInv.start hp hk2.2) (by simpa [uniR] using hG)
  exact ⟨G, z, hG, hz, by rw [(unify_yes hk hG).1, hz.raw], hg, hp, hk2.2⟩
theorem good_raw {ar a0 b0 x y : List Int} {F : Nat → List Int} (hg : goodSign ar = true) (h : UInv ar a0 b0 x y F) : goodSubst ar (rawL F) = true := by
  rw [h.raw]; exact good_substL hg fun v _ => h.okF v
theorem unify_unifies {ar a b : List Int} (h : unifyOk ar a b = true) : applyOk ar (unifyAns ar a b) a = true ∧ applyOk ar (unifyAns ar a b) b = true ∧ unifAns ar (unifyAns ar a b) a b = true := by
  obtain ⟨G, z, hG, hz, hans, hg, ha, hb⟩ := unify_inv h
  have h40 := (okTerm_seq.1 hz.okx).1
  have h1 : applyOk ar (rawL G) a = true := applyOk_iff.2 ⟨good_raw hg hz, ha, (app40_yes (by rw [← hz.appx]; omega)).2⟩
  have h2 : applyOk ar (rawL G) b = true := applyOk_iff.2 ⟨good_raw hg hz, hb, (app40_yes (by rw [← hz.appy]; omega)).2⟩
  rw [hans]
  refine ⟨h1, h2, ?_⟩
  unfold unifAns
  rw [h1, h2, applyAns_yes h1, applyAns_yes h2, ← hz.appx, ← hz.appy]
  simp
theorem app_fixed {G : Nat → List Int} (hlow : ∀ v, 12 ≤ v → G v = []) : ∀ {t : List Int}, (∀ m ∈ t, m < 0 → G (-1 - m).toNat = []) → appT (rawL G) t = t
  | [], _ => rfl
  | m :: t, h => by
    have ih := app_fixed hlow (t := t) (fun x hx => h x (List.mem_cons_of_mem _ hx))
    unfold appT at ih ⊢
    rw [List.flatMap_cons, ih]
    by_cases hm : m < 0
    · rw [one1_free (by rw [rawL_getA hlow, h m List.mem_cons_self hm]; simp)]; rfl
    · rw [one1_sym hm]; rfl
theorem unify_twice {ar a b : List Int} (h : unifyOk ar a b = true) : composeOk ar (unifyAns ar a b) (unifyAns ar a b) = true ∧ composeAns ar (unifyAns ar a b) (unifyAns ar a b) = unifyAns ar a b := by
  obtain ⟨G, z, hG, hz, hans, hg, ha, hb⟩ := unify_inv h
  rw [hans]
  have hgs := good_raw hg hz
  have hcf : ∀ v, v < 12 → compF (rawL G) (rawL G) v = if G v = [] then [-1 - (v : Int)] else G v := by
    intro v hv
    unfold compF
    by_cases e : G v = []
    · rw [if_pos e, compT_zero (by rw [rawL_get G v hv, e]; simp)]
      exact app_fixed hz.low (fun m hm h0 => by simp at hm; rw [show (-1 - m).toNat = v by omega]; exact e)
    · rw [if_neg e, compT_pos (by rw [rawL_get G v hv]; exact List.length_pos_iff.2 e), rawL_get G v hv]
      refine app_fixed hz.low (fun m hm h0 => ?_)
      rcases Classical.em (G (-1 - m).toNat = []) with h1 | h1
      · exact h1
      · have hin : m ∈ z := by rcases hz.inf v e with h2 | h2 <;> exact h2.subset hm
        exact absurd (by rw [show (-1 - (((-1 - m).toNat : Nat) : Int)) = m by omega]; exact hin) (hz.notx _ h1)
  have hok : composeOk ar (rawL G) (rawL G) = true := by
    unfold composeOk
    rw [hgs, Bool.true_and, Bool.true_and, List.all_eq_true]
    intro v hv
    rw [List.mem_range] at hv
    refine (app40_yes ?_).2
    show ¬ 40 < (compF (rawL G) (rawL G) v).length
    rw [hcf v hv]
    have := hz.len40 v
    split
    · simp
    · omega
  refine ⟨hok, ?_⟩
  rw [composeAns_yes hok]
  conv => rhs; rw [hz.raw]
  unfold substL
  apply List.map_congr_left
  intro v hv
  rw [List.mem_range] at hv
  unfold stayF
  rw [hcf v hv]
  by_cases e : G v = []
  · rw [if_pos e, if_pos rfl, e]; simp
  · rw [if_neg e]
/-- Robinson. -/
theorem appT_put {V : List (List Int)} {n : Int} {u : List Int} (h : one1 V n = appT V u) : ∀ (t : List Int), appT V (putFor n u t) = appT V t
  | [] => rfl
  | m :: t => by
    rw [putFor_cons, appT_append, appT_put h t, show m :: t = [m] ++ t from rfl, appT_append]
    split
    · rename_i e; subst e; rw [appT_one, h]
    · rfl
theorem one_seq {ar : List Int} {V : List (List Int)} (hV : goodSubst ar V = true) {n : Int} (h12 : -12 ≤ n) (hn : n < 0) : seqT ar 1 (one1 V n) := by
  obtain ⟨hg, hl, hok⟩ := goodSubst_iff.1 hV
  by_cases hp : 0 < (V.getD (-1 - n).toNat []).length
  · rw [one1_var hn hp]
    exact (okTerm_seq.1 (okEmpty_get hok _ hp)).2
  · rw [one1_free hp]
    refine seqT_cons.2 ⟨?_, by rw [arOf_neg hn]; rfl⟩
    have := sign_len ar hg
    unfold okSym inB
    simp
    omega
theorem app_seq1 {ar : List Int} {V : List (List Int)} (hV : goodSubst ar V = true) {u : List Int} (hu : okTerm ar u = true) : seqT ar 1 (appT V u) := by
  obtain ⟨hg, hl, hok⟩ := goodSubst_iff.1 hV
  have := app_end hok hu
  unfold endOf at this
  rw [List.drop_zero] at this
  exact this
theorem dif_split {x y : List Int} (_hx : dif x y ≤ x.length) (_hy : dif x y ≤ y.length) : x.take (dif x y) = y.take (dif x y) := by
  apply List.ext_getElem?
  intro i
  rw [List.getElem?_take, List.getElem?_take]
  split
  · rename_i hi
    obtain ⟨h1, h2, h3⟩ := dif_before x y i hi
    rw [List.getElem?_eq_getElem h1, List.getElem?_eq_getElem h2]
    simpa [List.getD, h1, h2] using h3
  · rfl
theorem sigma_eq {ar a0 b0 x y : List Int} {F : Nat → List Int} {V : List (List Int)} (hV : goodSubst ar V = true) (h : UInv ar a0 b0 x y F) (hne : x ≠ y) (hb : ¬ badU ar x y) (he : appT V x = appT V y) : one1 V (lowN x y) = appT V (putU ar x y) := by
  obtain ⟨e, hR⟩ := uround h hne
  have hok := uok h hne hb
  have hsp := dif_split (x := x) (y := y) (Nat.le_of_lt hR.dx) (Nat.le_of_lt hR.dy)
  have hdrop : appT V (x.drop (dif x y)) = appT V (y.drop (dif x y)) := by
    have hx' : appT V x = appT V (x.take (dif x y)) ++ appT V (x.drop (dif x y)) := by rw [← appT_append, List.take_append_drop]
    have hy' : appT V y = appT V (y.take (dif x y)) ++ appT V (y.drop (dif x y)) := by rw [← appT_append, List.take_append_drop]
    have h1 := he
    rw [hx', hy', hsp] at h1
    exact List.append_cancel_left h1
  have hpart : ∀ (o : List Int), o = other x y → o.drop (dif x y) = putU ar x y ++ o.drop e := fun o ho => by
    rw [hR.pu, ho]
    unfold partOf
    have := List.take_append_drop (e - dif x y) ((other x y).drop (dif x y))
    rw [List.drop_drop, show dif x y + (e - dif x y) = e by have := hR.de; omega] at this
    exact this.symm
  have hs1 := one_seq hV hok.lo hok.neg
  have hs2 := app_seq1 hV hR.ok
  rw [drop_cons x _ hR.dx, drop_cons y _ hR.dy] at hdrop
  by_cases hlt : y.getD (dif x y) 0 < x.getD (dif x y) 0
  · have hlo : lowN x y = y.getD (dif x y) 0 := by unfold lowN; rw [if_pos hlt]
    have hot : x = other x y := by unfold other; rw [if_pos hlt]
    rw [← drop_cons x _ hR.dx, hpart x hot, ← hlo, appT_append, show ∀ (n : Int) (t : List Int), n :: t = [n] ++ t from fun _ _ => rfl, appT_append, appT_one] at hdrop
    exact (seq_prefix hs2 hs1 hdrop).symm
  · have hlo : lowN x y = x.getD (dif x y) 0 := by unfold lowN; rw [if_neg hlt]
    have hot : y = other x y := by unfold other; rw [if_neg hlt]
    rw [← drop_cons y _ hR.dy, hpart y hot, ← hlo, appT_append, show ∀ (n : Int) (t : List Int), n :: t = [n] ++ t from fun _ _ => rfl, appT_append, appT_one] at hdrop
    exact seq_prefix hs1 hs2 hdrop
theorem ug_mgu {ar a0 b0 : List Int} {V : List (List Int)} (hV : goodSubst ar V = true) : ∀ (k : Nat) (x y : List Int) (F G : Nat → List Int), UInv ar a0 b0 x y F → (∀ n, appT V (one1 (rawL F) n) = one1 V n) → appT V x = appT V y → uniGo ar k x y F = some G → ∀ n, appT V (one1 (rawL G) n) = one1 V n := by
  intro k
  induction k with
  | zero => intro x y F G h _ _ e; simp [uniGo] at e
  | succ k ih =>
    intro x y F G h hP he e
    by_cases h1 : x = y
    · rw [ug_same h1] at e
      simp at e
      rw [← e]; exact hP
    · by_cases h2 : badU ar x y
      · rw [ug_bad h1 h2] at e; simp at e
      · by_cases h3 : longU ar x y
        · rw [ug_long h1 h2 h3] at e; simp at e
        · rw [ug_next h1 h2 h3] at e
          have hok := uok h h1 h2
          have hE := sigma_eq hV h h1 h2 he
          refine ih _ _ _ _ (hok.next h3) (fun n => ?_) (by rw [appT_put hE, appT_put hE, he]) e
          have := app_next hok.neg (List.length_pos_iff.1 hok.up) hok.free h.low hok.lo [n]
          rw [appT_one, appT_one] at this
          rw [← this, appT_put hE, hP n]
theorem app_app {V : List (List Int)} {G : Nat → List Int} (h : ∀ n, appT V (one1 (rawL G) n) = one1 V n) : ∀ (t : List Int), appT V (appT (rawL G) t) = appT V t
  | [] => rfl
  | n :: t => by
    rw [show n :: t = [n] ++ t from rfl, appT_append, appT_append, appT_append, app_app h t, appT_one, h, appT_one]
theorem unify_most {ar x y : List Int} {V : List (List Int)} (h1 : applyOk ar V x = true) (h2 : applyOk ar V y = true) (he : applyAns ar V x = applyAns ar V y) (hu : unifyOk ar x y = true) (hc : composeOk ar (unifyAns ar x y) V = true) :
    applyOk ar (composeAns ar (unifyAns ar x y) V) x = true ∧ applyAns ar (composeAns ar (unifyAns ar x y) V) x = applyAns ar V x := by
  obtain ⟨G, z, hG, hz, hans, hg, ha, hb⟩ := unify_inv hu
  obtain ⟨hV, -, h40⟩ := applyOk_iff.1 h1
  have hm := (unify_unifies hu).1
  rw [applyAns_yes h1, applyAns_yes h2] at he
  have hP := ug_mgu hV 13 x y (fun _ => []) G (UInv.start ha hb) (fun n => by rw [← appT_one, appT_none, appT_one]) he (by simpa [uniR] using hG)
  have hmz : applyAns ar (unifyAns ar x y) x = z := by rw [applyAns_yes hm, hans, ← hz.appx]
  have hVz : appT V z = appT V x := by rw [hz.appx, app_app hP]
  have hz2 : applyOk ar V z = true := applyOk_iff.2 ⟨hV, hz.okx, by unfold app40ok at h40 ⊢; rw [hVz]; exact h40⟩
  obtain ⟨a1, a2⟩ := compose_app hc hm (by rw [hmz]; exact hz2)
  refine ⟨a1, ?_⟩
  rw [a2, hmz, applyAns_yes hz2, applyAns_yes h1, hVz]
end Go.Proofs.Yteegjnobmbcjiaa
end
section
/- Reading is the reverse of printing. -/
namespace Go.Proofs.Yteegjnobmbcjiaa
open Go.RowKit

theorem let_neg : ∀ k : Nat, k < 12 → (letter (-1 - (k : Int))).toNat = 65 + k := by decide +kernel
theorem let_pos : ∀ k : Nat, k < 10 → (letter (k : Int)).toNat = 97 + k := by decide +kernel
theorem sym_let {ar : List Int} (hl : ar.length ≤ 10) {n : Int} (h : okSym ar n = true) : symAt ar (letter n) = some n := by
  unfold okSym inB at h
  simp at h
  unfold symAt
  by_cases hn : n < 0
  · obtain ⟨k, rfl⟩ : ∃ k : Nat, n = -1 - (k : Int) := ⟨(-1 - n).toNat, by omega⟩
    have := let_neg k (by omega)
    rw [if_pos (by unfold inB; simp; omega), this]
    congr 1; omega
  · obtain ⟨k, rfl⟩ : ∃ k : Nat, n = (k : Int) := ⟨n.toNat, by omega⟩
    have := let_pos k (by omega)
    rw [if_neg (by unfold inB; simp; omega), if_pos (by unfold inB; simp; omega), this]
    congr 1; omega
theorem let_sym {ar : List Int} (hl : ar.length ≤ 10) {b : UInt8} {n : Int} (h : symAt ar b = some n) : letter n = b ∧ okSym ar n = true := by
  unfold symAt at h
  by_cases h1 : inB b.toNat 65 76 = true
  · rw [if_pos h1] at h
    simp at h
    unfold inB at h1
    simp at h1
    obtain ⟨k, hk⟩ : ∃ k : Nat, b.toNat = 65 + k := ⟨b.toNat - 65, by omega⟩
    obtain rfl : n = -1 - (k : Int) := by omega
    refine ⟨UInt8.toNat_inj.1 (by rw [let_neg k (by omega), hk]), by unfold okSym inB; simp; omega⟩
  · rw [if_neg h1] at h
    by_cases h2 : inB b.toNat 97 (97 + (ar.length : Int) - 1) = true
    · rw [if_pos h2] at h
      simp at h
      unfold inB at h2
      simp at h2
      obtain ⟨k, hk⟩ : ∃ k : Nat, b.toNat = 97 + k := ⟨b.toNat - 97, by omega⟩
      obtain rfl : n = (k : Int) := by omega
      refine ⟨UInt8.toNat_inj.1 (by rw [let_pos k (by omega), hk]), by unfold okSym inB; simp; omega⟩
    · rw [if_neg h2] at h; simp at h

/-- l is the text of the term y; of m arguments from the k-th on. -/
inductive Pr (ar : List Int) : Option (Nat × Nat) → List Int → List UInt8 → Prop
  | leaf (n : Int) : okSym ar n = true → arOf ar n = 0 → Pr ar none [n] [letter n]
  | node (n : Int) (ys : List Int) (ls : List UInt8) : okSym ar n = true → arOf ar n ≠ 0 → Pr ar (some (arOf ar n, 0)) ys ls → Pr ar none (n :: ys) (letter n :: (ls ++ [41]))
  | nil (k : Nat) : Pr ar (some (0, k)) [] []
  | cons (m k : Nat) (y ys : List Int) (l ls : List UInt8) : Pr ar none y l → Pr ar (some (m, k + 1)) ys ls → Pr ar (some (m + 1, k)) (y ++ ys) (sepC k :: (l ++ ls))
theorem Pr.seq {ar : List Int} {s : Option (Nat × Nat)} {y : List Int} {l : List UInt8} (h : Pr ar s y l) : seqT ar (match s with | none => 1 | some (m, _) => m) y := by
  induction h with
  | leaf n h1 h2 => exact seqT_cons.2 ⟨h1, by rw [h2]; rfl⟩
  | node n ys ls h1 h2 _ ih => exact seqT_cons.2 ⟨h1, by rw [Nat.zero_add]; exact ih⟩
  | nil k => rfl
  | cons m k y ys l ls _ _ ih1 ih2 =>
    have := seqT_append ih1 ih2
    rwa [Nat.add_comm] at this
theorem Pr.det {ar : List Int} {s : Option (Nat × Nat)} {y : List Int} {l : List UInt8} (h : Pr ar s y l) : ∀ {z : List Int} {l' : List UInt8}, Pr ar s z l' → z = y → l = l' := by
  induction h with
  | leaf n h1 h2 =>
    intro z l' h' e
    cases h' with
    | leaf n' _ _ => simp at e; rw [e]
    | node n' ys' ls' _ h3 _ => simp at e; rw [e.1] at h3; exact absurd h2 h3
  | node n ys ls h1 h2 _ ih =>
    intro z l' h' e
    cases h' with
    | leaf n' _ h3 => simp at e; rw [e.1] at h3; exact absurd h3 h2
    | node n' ys' ls' _ _ h4 =>
      simp at e
      obtain ⟨rfl, rfl⟩ := e
      rw [ih h4 rfl]
  | nil k =>
    intro z l' h' e
    cases h' with
    | nil => rfl
  | cons m k y ys l ls hy hys ih1 ih2 =>
    intro z l' h' e
    cases h' with
    | cons _ _ y' ys' l2 ls2 h3 h4 =>
      have e1 : y' = y := seq_prefix (show seqT ar 1 y' from h3.seq) (show seqT ar 1 y from hy.seq) e
      subst e1
      have e2 := List.append_cancel_left e
      subst e2
      rw [ih1 h3 rfl, ih2 h4 rfl]
theorem drop_at {T r : List UInt8} {p : Nat} {b : UInt8} (h : T.drop p = b :: r) : T[p]? = some b ∧ T.drop (p+1) = r := by
  have h1 : (T.drop p)[0]? = some b := by rw [h]; rfl
  rw [List.getElem?_drop, Nat.add_zero] at h1
  refine ⟨h1, ?_⟩
  rw [← List.drop_drop, h]; rfl
theorem drop_to {T l r : List UInt8} {p : Nat} (h : T.drop p = l ++ r) : T.drop (p + l.length) = r := by
  rw [← List.drop_drop, h, List.drop_left']; rfl
theorem Pr.scan {ar : List Int} (hl : ar.length ≤ 10) {T : List UInt8} {s : Option (Nat × Nat)} {y : List Int} {l : List UInt8} (h : Pr ar s y l) :
    match s with
    | none => ∀ (f p : Nat) (rest : List UInt8), T.drop p = l ++ rest → l.length ≤ f → scanF ar T f p = (y, p + l.length, true)
    | some (m, k) => ∀ (f p : Nat) (rest : List UInt8) (acc : List Int), T.drop p = l ++ 41 :: rest → l.length ≤ f → scanArgs (scanF ar T f) T m k acc p = (acc ++ y, p + l.length + 1, true) := by
  induction h with
  | leaf n h1 h2 =>
    intro f p rest hd hf
    obtain ⟨f, rfl⟩ : ∃ f', f = f' + 1 := ⟨f - 1, by simp at hf; omega⟩
    exact scan_leaf (drop_at hd).1 (sym_let hl h1) h2
  | node n ys ls h1 h2 _ ih =>
    intro f p rest hd hf
    obtain ⟨f, rfl⟩ : ∃ f', f = f' + 1 := ⟨f - 1, by simp at hf; omega⟩
    have hd' : T.drop p = letter n :: (ls ++ 41 :: rest) := by rw [hd]; simp
    obtain ⟨d1, d2⟩ := drop_at hd'
    rw [scan_args d1 (sym_let hl h1) h2, ih f (p+1) rest [n] d2 (by simp at hf; omega)]
    simp; omega
  | nil k =>
    intro f p rest acc hd hf
    rw [args_done (drop_at (show T.drop p = 41 :: rest by simpa using hd)).1]
    simp
  | cons m k y ys l ls _ _ ih1 ih2 =>
    intro f p rest acc hd hf
    simp at hf
    have hd' : T.drop p = sepC k :: (l ++ (ls ++ 41 :: rest)) := by rw [hd]; simp
    obtain ⟨d1, d2⟩ := drop_at hd'
    have hg := ih1 f (p+1) _ d2 (by omega)
    rw [args_next d1 (by rw [hg]), hg, ih2 f _ rest (acc ++ y) (drop_to d2) (by omega)]
    simp; omega
theorem args_back {ar : List Int} {T : List UInt8} {g : Nat → Scanned} (hg : ∀ q y q', g q = (y, q', true) → ∃ l, Pr ar none y l ∧ T.drop q = l ++ T.drop q' ∧ q' = q + l.length) : ∀ (m k : Nat) (acc r : List Int) (p p' : Nat), scanArgs g T m k acc p = (r, p', true) → ∃ ys ls, r = acc ++ ys ∧ Pr ar (some (m, k)) ys ls ∧ T.drop p = ls ++ 41 :: T.drop p' ∧ p' = p + ls.length + 1 := by
  intro m
  induction m with
  | zero =>
    intro k acc r p p' h
    by_cases hc : T[p]? = some 41
    · rw [args_done hc] at h
      simp at h
      obtain ⟨rfl, rfl⟩ := h
      refine ⟨[], [], by simp, Pr.nil k, ?_, rfl⟩
      have hp := (List.getElem?_eq_some_iff.1 hc)
      obtain ⟨hlt, hv⟩ := hp
      rw [List.drop_eq_getElem_cons hlt, hv]; rfl
    · rw [args_noclose hc] at h; simp at h
  | succ m ih =>
    intro k acc r p p' h
    by_cases hc : T[p]? = some (sepC k)
    · cases hb : (g (p+1)).2.2 with
      | false => rw [args_bad hc hb] at h; simp at h
      | true =>
        rw [args_next hc hb] at h
        obtain ⟨l, h1, h2, h3⟩ := hg (p+1) (g (p+1)).1 (g (p+1)).2.1 (by rw [← hb])
        obtain ⟨ys, ls, rfl, h5, h6, h7⟩ := ih (k+1) _ r _ p' h
        refine ⟨(g (p+1)).1 ++ ys, sepC k :: (l ++ ls), by rw [List.append_assoc], Pr.cons m k _ ys l ls h1 h5, ?_, by simp; omega⟩
        obtain ⟨hlt, hv⟩ := List.getElem?_eq_some_iff.1 hc
        rw [List.drop_eq_getElem_cons hlt, hv, h2, h6]
        simp
    · rw [args_nosep hc] at h; simp at h
theorem scan_back {ar : List Int} (hl : ar.length ≤ 10) {T : List UInt8} : ∀ (f p p' : Nat) (y : List Int), scanF ar T f p = (y, p', true) → ∃ l, Pr ar none y l ∧ T.drop p = l ++ T.drop p' ∧ p' = p + l.length := by
  intro f
  induction f with
  | zero => intro p p' y h; simp [scanF] at h
  | succ f ih =>
    intro p p' y h
    by_cases hp : p < T.length
    · have hT : T[p]? = some T[p] := List.getElem?_eq_getElem hp
      cases hs : symAt ar T[p] with
      | none => rw [scan_bad hT hs] at h; simp at h
      | some n =>
        obtain ⟨e1, e2⟩ := let_sym hl hs
        by_cases h0 : arOf ar n = 0
        · rw [scan_leaf hT hs h0] at h
          simp at h
          obtain ⟨rfl, rfl⟩ := h
          refine ⟨[letter n], Pr.leaf n e2 h0, ?_, by simp⟩
          rw [List.drop_eq_getElem_cons hp, e1]; rfl
        · rw [scan_args hT hs h0] at h
          obtain ⟨ys, ls, rfl, h5, h6, h7⟩ := args_back (fun q y q' hq => ih q q' y hq) _ _ _ _ _ _ h
          refine ⟨letter n :: (ls ++ [41]), Pr.node n ys ls e2 h0 h5, ?_, by simp; omega⟩
          rw [List.drop_eq_getElem_cons hp, h6, e1]; simp
    · rw [scan_end hp] at h; simp at h

def accR (g : Nat → List UInt8) : List Nat → Nat → List UInt8
  | [], _ => []
  | a :: r, j => sepC j :: (g a ++ accR g r (j+1))
theorem accR_snoc (g : Nat → List UInt8) (a : Nat) : ∀ (l : List Nat) (j : Nat), accR g (l ++ [a]) j = accR g l j ++ (sepC (j + l.length) :: g a)
  | [], j => by simp [accR]
  | b :: l, j => by
    rw [List.cons_append, accR, accR_snoc g a l (j+1), accR]
    simp
    rw [show j + 1 + l.length = j + (l.length + 1) by omega]
theorem accT_R (g : Nat → List UInt8) (l : List Nat) : ∀ k, k ≤ l.length → accT g l k = accR g (l.take k) 0
  | 0, _ => by simp [accT, accR]
  | k+1, h => by
    rw [accT, accT_R g l k (by omega), List.take_succ_eq_append_getElem (by omega), accR_snoc]
    have : l.getD k 0 = l[k] := by simp [List.getD, show k < l.length by omega]
    rw [this, List.length_take, Nat.min_eq_left (by omega), Nat.zero_add]
    rfl
theorem args_pr {ar t : List Int} : ∀ (k p e j : Nat), endGo ar (t.drop p) k p = some e → (∀ a ∈ argsGo ar t k p, ∀ q, endOf ar t a = some q → Pr ar none (partOf t a q) (textAt ar t a)) → Pr ar (some (k, j)) (partOf t p e) (accR (textAt ar t) (argsGo ar t k p) j) := by
  intro k
  induction k with
  | zero =>
    intro p e j h _
    rw [endGo_zero] at h
    simp at h
    subst h
    have : partOf t p p = [] := by simp [partOf]
    rw [this]
    exact Pr.nil j
  | succ k ih =>
    intro p e j h hp
    obtain ⟨q, hq, hr, h1, h2⟩ := ends_step ar t p k e h
    have hgo : argsGo ar t (k+1) p = p :: argsGo ar t k q := by rw [argsGo]; simp [hq]
    rw [hgo] at hp ⊢
    rw [part_split (Nat.le_of_lt h1) h2, accR]
    exact Pr.cons k j _ _ _ _ (hp p List.mem_cons_self q hq) (ih q e (j+1) hr (fun a ha => hp a (List.mem_cons_of_mem _ ha)))
theorem text_pr {ar t : List Int} (h : okTerm ar t = true) : ∀ (n i e : Nat), t.length - i ≤ n → i < t.length → endOf ar t i = some e → Pr ar none (partOf t i e) (textAt ar t i) := by
  intro n
  induction n with
  | zero => intro i e hn hi; omega
  | succ n ih =>
    intro i e hn hi he
    have hs := good_sym ar t h i hi
    have hend : endGo ar (t.drop (i+1)) (arOf ar (t.getD i 0)) (i+1) = some e := by
      have h1 := he
      unfold endOf at h1
      rw [drop_cons t i hi, endGo_cons, if_pos hs, Nat.zero_add] at h1
      exact h1
    have hge := endGo_ge _ _ _ _ _ hend
    have hpart : partOf t i e = t.getD i 0 :: partOf t (i+1) e := by
      unfold partOf
      rw [drop_cons t i hi, show e - i = (e - (i+1)) + 1 by omega, List.take_succ_cons]
    have hargs := args_pr (ar := ar) (t := t) _ (i+1) e 0 hend (fun a ha q hq => by
      have hb := argsOf_bd ar t h i hi a ha
      exact ih a q (by omega) hb.2 hq)
    rw [textAt_eq ar t h i hi, hpart, accT_R _ _ _ (Nat.le_refl _), List.take_length]
    have hlen : (argsOf ar t i).length = arOf ar (t.getD i 0) := argsGo_len ar t _ _
    by_cases h0 : arOf ar (t.getD i 0) = 0
    · rw [h0] at hend
      rw [endGo_zero] at hend
      simp at hend
      subst hend
      have hnil : argsOf ar t i = [] := List.length_eq_zero_iff.1 (by rw [hlen, h0])
      rw [hnil]
      have : partOf t (i+1) (i+1) = [] := by simp [partOf]
      rw [this]
      exact Pr.leaf _ hs h0
    · rw [if_neg (by rw [hlen]; exact h0)]
      exact Pr.node _ _ _ hs h0 hargs
theorem text_whole {ar t : List Int} (h : okTerm ar t = true) : Pr ar none t (textAt ar t 0) := by
  obtain ⟨h1, _, h3⟩ := (okTerm_iff ar t).1 h
  have := text_pr h t.length 0 t.length (by omega) (by omega) h3
  rwa [show partOf t 0 t.length = t from by simp [partOf]] at this
theorem read_text {ar t : List Int} (h : goodTerm ar t = true) (hl : (textBA ar t).size ≤ 200) : readAns ar (textBA ar t) = (t, (textBA ar t).size, true) := by
  obtain ⟨hg, hok⟩ := goodTerm_iff.1 h
  have hlen := (sign_len ar hg).2
  have h40 := ((okTerm_iff _ _).1 hok).2.1
  rw [read_yes hg hl]
  have hd : (textBA ar t).data.toList = textAt ar t 0 := by rw [text_yes h]
  have hsz : (textBA ar t).size = (textAt ar t 0).length := by rw [ba_size, hd]
  have hs := Pr.scan hlen (T := textAt ar t 0) (text_whole hok) ((textAt ar t 0).length + 1) 0 [] (by simp) (by omega)
  rw [hd, hs, hsz]
  unfold readCore
  rw [if_neg (by simp), if_pos h40, Nat.zero_add]
theorem text_read {ar : List Int} {s : ByteArray} (h : (readAns ar s).2.2 = true) : goodTerm ar (readAns ar s).1 = true ∧ textBA ar (readAns ar s).1 = s := by
  by_cases hc : goodSign ar = true ∧ s.size ≤ 200
  · obtain ⟨hg, hl⟩ := hc
    have hlen := (sign_len ar hg).2
    rw [read_yes hg hl] at h ⊢
    have hro := scan_read ar s.data.toList (s.data.toList.length + 1) 0
    have hok := scanF_ok ar s.data.toList (s.data.toList.length + 1) 0 (Nat.zero_le _)
    generalize hr : scanF ar s.data.toList (s.data.toList.length + 1) 0 = r at *
    unfold readCore at h ⊢
    by_cases h1 : r.2.2 = false ∨ r.2.1 < s.size
    · rw [if_pos h1] at h; simp at h
    · rw [if_neg h1] at h ⊢
      by_cases h2 : r.1.length ≤ 40
      · rw [if_pos h2] at h ⊢
        have hterm : okTerm ar r.1 = true := by rw [read_term hro h]; simpa using h2
        have hgt : goodTerm ar r.1 = true := by unfold goodTerm; rw [hg, hterm]; rfl
        obtain ⟨l, p1, p2, p3⟩ := scan_back hlen _ _ _ _ (show scanF ar s.data.toList (s.data.toList.length + 1) 0 = (r.1, r.2.1, true) by rw [hr, ← h])
        have hle := hok.1
        have hsz := ba_size s
        have hend : r.2.1 = s.data.toList.length := by omega
        rw [List.drop_zero, hend, List.drop_length, List.append_nil] at p2
        have hdet := (text_whole hterm).det p1 rfl
        refine ⟨hgt, ?_⟩
        rw [text_yes hgt, hdet, ← p2]
      · rw [if_neg h2] at h; simp at h
  · rw [read_no hc] at h; simp at h
end Go.Proofs.Yteegjnobmbcjiaa
end
section
/- Clauses: reading is the reverse of printing. No program but the letters'. -/
namespace Go.Proofs.Yteegjnobmbcjiaa
open Go.RowKit

abbrev ReadL := List Lt × Nat × Bool
def rdT (ar : List Int) (T : List UInt8) (p : Nat) : Scanned := scanF ar T (T.length + 1) p
/-- What is read from p on, behind the literals acc. -/
def readLits (ar : List Int) (T : List UInt8) : Nat → Nat → List Lt → ReadL
  | 0, p, _ => ([], p, false)
  | f + 1, p, acc =>
    if (rdT ar T p).2.2 = true then
      match T[(rdT ar T p).2.1]? with
      | none => ([], (rdT ar T p).2.1, false)
      | some b =>
        if b = 61 ∨ b = 35 then
          if (rdT ar T ((rdT ar T p).2.1 + 1)).2.2 = true then
            match T[(rdT ar T ((rdT ar T p).2.1 + 1)).2.1]? with
            | none => (acc ++ [(decide (b = 61), (rdT ar T p).1, (rdT ar T ((rdT ar T p).2.1 + 1)).1)], (rdT ar T ((rdT ar T p).2.1 + 1)).2.1, true)
            | some c =>
              if c = 124 then readLits ar T f ((rdT ar T ((rdT ar T p).2.1 + 1)).2.1 + 1) (acc ++ [(decide (b = 61), (rdT ar T p).1, (rdT ar T ((rdT ar T p).2.1 + 1)).1)])
              else ([], (rdT ar T ((rdT ar T p).2.1 + 1)).2.1, false)
          else ([], (rdT ar T ((rdT ar T p).2.1 + 1)).2.1, false)
        else ([], (rdT ar T p).2.1, false)
    else ([], (rdT ar T p).2.1, false)
section
variable {ar : List Int} {T : List UInt8} {f p : Nat} {acc : List Lt}
theorem lits_bad1 (h : (rdT ar T p).2.2 = false) : readLits ar T (f+1) p acc = ([], (rdT ar T p).2.1, false) := by
  unfold readLits; rw [if_neg (by rw [h]; simp)]
theorem lits_end1 (h : (rdT ar T p).2.2 = true) (h1 : T[(rdT ar T p).2.1]? = none) : readLits ar T (f+1) p acc = ([], (rdT ar T p).2.1, false) := by
  unfold readLits; rw [if_pos h]; simp [h1]
theorem lits_sign {b : UInt8} (h : (rdT ar T p).2.2 = true) (h1 : T[(rdT ar T p).2.1]? = some b) (h2 : ¬ (b = 61 ∨ b = 35)) : readLits ar T (f+1) p acc = ([], (rdT ar T p).2.1, false) := by
  unfold readLits; rw [if_pos h]; simp only [h1]; rw [if_neg h2]
theorem lits_bad2 {b : UInt8} (h : (rdT ar T p).2.2 = true) (h1 : T[(rdT ar T p).2.1]? = some b) (h2 : b = 61 ∨ b = 35) (h3 : (rdT ar T ((rdT ar T p).2.1 + 1)).2.2 = false) :
    readLits ar T (f+1) p acc = ([], (rdT ar T ((rdT ar T p).2.1 + 1)).2.1, false) := by
  unfold readLits; rw [if_pos h]; simp only [h1]; rw [if_pos h2, if_neg (by rw [h3]; simp)]
theorem lits_last {b : UInt8} (h : (rdT ar T p).2.2 = true) (h1 : T[(rdT ar T p).2.1]? = some b) (h2 : b = 61 ∨ b = 35) (h3 : (rdT ar T ((rdT ar T p).2.1 + 1)).2.2 = true) (h4 : T[(rdT ar T ((rdT ar T p).2.1 + 1)).2.1]? = none) :
    readLits ar T (f+1) p acc = (acc ++ [(decide (b = 61), (rdT ar T p).1, (rdT ar T ((rdT ar T p).2.1 + 1)).1)], (rdT ar T ((rdT ar T p).2.1 + 1)).2.1, true) := by
  unfold readLits; rw [if_pos h]; simp only [h1]; rw [if_pos h2, if_pos h3]; simp only [h4]
theorem lits_bar {b c : UInt8} (h : (rdT ar T p).2.2 = true) (h1 : T[(rdT ar T p).2.1]? = some b) (h2 : b = 61 ∨ b = 35) (h3 : (rdT ar T ((rdT ar T p).2.1 + 1)).2.2 = true) (h4 : T[(rdT ar T ((rdT ar T p).2.1 + 1)).2.1]? = some c) (h5 : c ≠ 124) :
    readLits ar T (f+1) p acc = ([], (rdT ar T ((rdT ar T p).2.1 + 1)).2.1, false) := by
  unfold readLits; rw [if_pos h]; simp only [h1]; rw [if_pos h2, if_pos h3]; simp only [h4]; rw [if_neg h5]
theorem lits_more {b : UInt8} (h : (rdT ar T p).2.2 = true) (h1 : T[(rdT ar T p).2.1]? = some b) (h2 : b = 61 ∨ b = 35) (h3 : (rdT ar T ((rdT ar T p).2.1 + 1)).2.2 = true) (h4 : T[(rdT ar T ((rdT ar T p).2.1 + 1)).2.1]? = some 124) :
    readLits ar T (f+1) p acc = readLits ar T f ((rdT ar T ((rdT ar T p).2.1 + 1)).2.1 + 1) (acc ++ [(decide (b = 61), (rdT ar T p).1, (rdT ar T ((rdT ar T p).2.1 + 1)).1)]) := by
  conv => lhs; unfold readLits
  rw [if_pos h]; simp only [h1]; rw [if_pos h2, if_pos h3]; simp only [h4]; rw [if_pos trivial]
end

/-- The text of a literal; of literals, a bar ahead of each but the first. -/
def signB (p : Bool) : UInt8 := if p then 61 else 35
def textL (ar : List Int) (x : Lt) : List UInt8 := textAt ar x.2.1 0 ++ signB x.1 :: textAt ar x.2.2 0
def barsL (ar : List Int) (c : List Lt) : List UInt8 := c.flatMap fun x => 124 :: textL ar x
def textC (ar : List Int) : List Lt → List UInt8
  | [] => [45]
  | x :: c => textL ar x ++ barsL ar c
theorem sign_dec (p : Bool) : decide (signB p = 61) = p := by cases p <;> rfl
theorem sign_or (p : Bool) : signB p = 61 ∨ signB p = 35 := by cases p <;> simp [signB]

theorem rd_term {ar : List Int} (hl : ar.length ≤ 10) {T : List UInt8} {p : Nat} {t : List Int} {rest : List UInt8} (ht : okTerm ar t = true) (hd : T.drop p = textAt ar t 0 ++ rest) :
    rdT ar T p = (t, p + (textAt ar t 0).length, true) := by
  have h := Pr.scan hl (T := T) (text_whole ht) (T.length + 1) p rest hd (by
    have := congrArg List.length hd
    rw [List.length_drop, List.length_append] at this
    omega)
  exact h
theorem drop_none {T : List UInt8} {p : Nat} (h : T.drop p = []) : T[p]? = none := by
  rw [List.getElem?_eq_none_iff]
  have := List.drop_eq_nil_iff.1 h
  exact this
/-- Printed literals are read back. -/
theorem lits_text {ar : List Int} (hl : ar.length ≤ 10) {T : List UInt8} : ∀ (c : List Lt) (x : Lt) (f p : Nat) (acc : List Lt), okLit ar x = true → (∀ y ∈ c, okLit ar y = true) → T.drop p = textL ar x ++ barsL ar c → c.length < f → p ≤ T.length →
    readLits ar T f p acc = (acc ++ x :: c, T.length, true) := by
  intro c
  induction c with
  | nil =>
    intro x f p acc hx _ hd hf hp
    obtain ⟨f, rfl⟩ : ∃ f', f = f' + 1 := ⟨f - 1, by simp at hf; omega⟩
    obtain ⟨o1, o2⟩ := okLit_iff.1 hx
    have hd' : T.drop p = textAt ar x.2.1 0 ++ (signB x.1 :: (textAt ar x.2.2 0 ++ [])) := by rw [hd]; simp [textL, barsL]
    have r1 := rd_term hl o1 hd'
    obtain ⟨g1, g2⟩ := drop_at (drop_to hd')
    have r2 := rd_term hl o2 g2
    have g3 := drop_to g2
    have h1 : (rdT ar T p).2.1 = p + (textAt ar x.2.1 0).length := by rw [r1]
    have hlen := congrArg List.length hd'
    rw [List.length_drop] at hlen
    simp at hlen
    rw [lits_last (b := signB x.1) (by rw [r1]) (by rw [h1]; exact g1) (sign_or _) (by rw [h1, r2]) (by rw [h1, r2]; exact drop_none g3), h1, r2, r1, sign_dec]
    simp only [Prod.mk.injEq, and_true, true_and]
    omega
  | cons y c ih =>
    intro x f p acc hx hc hd hf hp
    obtain ⟨f, rfl⟩ : ∃ f', f = f' + 1 := ⟨f - 1, by simp at hf; omega⟩
    obtain ⟨o1, o2⟩ := okLit_iff.1 hx
    have hd' : T.drop p = textAt ar x.2.1 0 ++ (signB x.1 :: (textAt ar x.2.2 0 ++ (124 :: (textL ar y ++ barsL ar c)))) := by rw [hd]; simp [textL, barsL]
    have r1 := rd_term hl o1 hd'
    obtain ⟨g1, g2⟩ := drop_at (drop_to hd')
    have r2 := rd_term hl o2 g2
    obtain ⟨g3, g4⟩ := drop_at (drop_to g2)
    have h1 : (rdT ar T p).2.1 = p + (textAt ar x.2.1 0).length := by rw [r1]
    have hlt := (List.getElem?_eq_some_iff.1 g3).1
    rw [lits_more (b := signB x.1) (by rw [r1]) (by rw [h1]; exact g1) (sign_or _) (by rw [h1, r2]) (by rw [h1, r2]; exact g3), h1, r2, r1, sign_dec]
    rw [ih y f _ _ (hc y List.mem_cons_self) (fun z hz => hc z (List.mem_cons_of_mem _ hz)) g4 (by simp at hf; omega) (by omega)]
    simp

/-- Literals that were read: what was read is their text, if they are valid. -/
theorem lits_back {ar : List Int} (hl : ar.length ≤ 10) {T : List UInt8} : ∀ (f p q : Nat) (acc c : List Lt), p ≤ T.length → readLits ar T f p acc = (c, q, true) →
    ∃ x d, c = acc ++ x :: d ∧ q = T.length ∧ (okLit ar x = true → (∀ y ∈ d, okLit ar y = true) → T.drop p = textL ar x ++ barsL ar d) := by
  intro f
  induction f with
  | zero => intro p q acc c _ h; simp [readLits] at h
  | succ f ih =>
    intro p q acc c hp h
    cases e1 : (rdT ar T p).2.2 with
    | false => rw [lits_bad1 e1] at h; simp at h
    | true =>
      obtain ⟨l1, p1, d1, q1⟩ := scan_back hl _ _ _ _ (show scanF ar T (T.length + 1) p = ((rdT ar T p).1, (rdT ar T p).2.1, true) by rw [← e1]; rfl)
      cases e2 : T[(rdT ar T p).2.1]? with
      | none => rw [lits_end1 e1 e2] at h; simp at h
      | some b =>
        by_cases hb : b = 61 ∨ b = 35
        · have hlt1 := (List.getElem?_eq_some_iff.1 e2).1
          cases e3 : (rdT ar T ((rdT ar T p).2.1 + 1)).2.2 with
          | false => rw [lits_bad2 e1 e2 hb e3] at h; simp at h
          | true =>
            obtain ⟨l2, p2, d2, q2⟩ := scan_back hl _ _ _ _ (show scanF ar T (T.length + 1) ((rdT ar T p).2.1 + 1) = ((rdT ar T ((rdT ar T p).2.1 + 1)).1, (rdT ar T ((rdT ar T p).2.1 + 1)).2.1, true) by rw [← e3]; rfl)
            have hok := (scanF_ok ar T (T.length + 1) ((rdT ar T p).2.1 + 1) (by omega)).1
            have hle : (rdT ar T ((rdT ar T p).2.1 + 1)).2.1 ≤ T.length := hok
            have hsig : signB (decide (b = 61)) = b := by
              rcases hb with rfl | rfl
              · rfl
              · rfl
            have hd : T.drop p = l1 ++ (b :: (l2 ++ T.drop (rdT ar T ((rdT ar T p).2.1 + 1)).2.1)) := by
              rw [d1, List.drop_eq_getElem_cons hlt1, ← d2]
              obtain ⟨_, hv⟩ := List.getElem?_eq_some_iff.1 e2
              rw [hv]
            cases e4 : T[(rdT ar T ((rdT ar T p).2.1 + 1)).2.1]? with
            | none =>
              rw [lits_last e1 e2 hb e3 e4] at h
              simp only [Prod.mk.injEq, and_true] at h
              obtain ⟨rfl, rfl⟩ := h
              have hq : (rdT ar T ((rdT ar T p).2.1 + 1)).2.1 = T.length := by
                have := List.getElem?_eq_none_iff.1 e4
                omega
              refine ⟨_, [], rfl, hq, fun hx _ => ?_⟩
              obtain ⟨o1, o2⟩ := okLit_iff.1 hx
              rw [hd, hq, List.drop_length]
              show _ = (textAt ar _ 0 ++ signB _ :: textAt ar _ 0) ++ []
              rw [(text_whole o1).det p1 rfl, (text_whole o2).det p2 rfl, hsig]
              simp
            | some e =>
              by_cases he : e = 124
              · subst he
                have hlt2 := (List.getElem?_eq_some_iff.1 e4).1
                rw [lits_more e1 e2 hb e3 e4] at h
                obtain ⟨y, d, rfl, hq, hback⟩ := ih _ _ _ _ (by omega) h
                refine ⟨(decide (b = 61), (rdT ar T p).1, (rdT ar T ((rdT ar T p).2.1 + 1)).1), y :: d, by simp, hq, fun hx hc => ?_⟩
                obtain ⟨o1, o2⟩ := okLit_iff.1 hx
                have h3 := hback (hc y List.mem_cons_self) (fun z hz => hc z (List.mem_cons_of_mem _ hz))
                obtain ⟨_, hv⟩ := List.getElem?_eq_some_iff.1 e4
                rw [hd, List.drop_eq_getElem_cons hlt2, hv, h3]
                show _ = (textAt ar _ 0 ++ signB _ :: textAt ar _ 0) ++ ((124 :: textL ar y) ++ barsL ar d)
                rw [(text_whole o1).det p1 rfl, (text_whole o2).det p2 rfl, hsig]
                simp
              · rw [lits_bar e1 e2 hb e3 e4 he] at h; simp at h
        · rw [lits_sign e1 e2 hb] at h; simp at h

/-- A text begins with a letter, not with '-'. -/
theorem pr_head {ar : List Int} (_hl : ar.length ≤ 10) {y : List Int} {l : List UInt8} (h : Pr ar none y l) : ∃ n r, l = letter n :: r ∧ okSym ar n = true := by
  cases h with
  | leaf n h1 _ => exact ⟨n, [], rfl, h1⟩
  | node n ys ls h1 _ _ => exact ⟨n, ls ++ [41], rfl, h1⟩
theorem letter_dash {ar : List Int} (hl : ar.length ≤ 10) {n : Int} (h : okSym ar n = true) : letter n ≠ 45 := by
  intro e
  unfold okSym inB at h
  simp at h
  have e2 := congrArg UInt8.toNat e
  by_cases hn : n < 0
  · obtain ⟨k, rfl⟩ : ∃ k : Nat, n = -1 - (k : Int) := ⟨(-1 - n).toNat, by omega⟩
    rw [let_neg k (by omega)] at e2
    have : (45 : UInt8).toNat = 45 := rfl
    omega
  · obtain ⟨k, rfl⟩ : ∃ k : Nat, n = (k : Int) := ⟨n.toNat, by omega⟩
    rw [let_pos k (by omega)] at e2
    have : (45 : UInt8).toNat = 45 := rfl
    omega

/-- What is read of a whole text; what ReadClause answers; what ClauseText does. -/
def readT (ar : List Int) (T : List UInt8) : ReadL := if T = [45] then ([], 1, true) else if T[0]? = some 45 then ([], 1, false) else readLits ar T (T.length + 1) 0 []
def readClAns (ar : List Int) (s : ByteArray) : ReadL :=
  if goodSign ar = true ∧ s.size ≤ 1000 then
    if (readT ar s.data.toList).2.2 = true then (if okLits ar (readT ar s.data.toList).1 = true then readT ar s.data.toList else ([], 0, false)) else ([], (readT ar s.data.toList).2.1, false)
  else ([], 0, false)
def textClA (ar : List Int) (c : List Lt) : ByteArray := if goodClause ar c then ⟨(textC ar c).toArray⟩ else ⟨#[]⟩
theorem textClA_yes {ar : List Int} {c : List Lt} (h : goodClause ar c = true) : textClA ar c = ⟨(textC ar c).toArray⟩ := by simp [textClA, h]
theorem textL_len (ar : List Int) (x : Lt) : 0 < (textL ar x).length := by simp [textL]; omega
theorem barsL_len (ar : List Int) (c : List Lt) : c.length ≤ (barsL ar c).length := by
  induction c with
  | nil => simp
  | cons x c ih => show c.length + 1 ≤ ((124 :: textL ar x) ++ barsL ar c).length; simp; omega
theorem readCl_text {ar : List Int} {c : List Lt} (h : goodClause ar c = true) (hl : (textClA ar c).size ≤ 1000) : readClAns ar (textClA ar c) = (c, (textClA ar c).size, true) := by
  obtain ⟨hg, h8, hc⟩ := goodClause_iff.1 h
  have hlen := (sign_len ar hg).2
  have hd : (textClA ar c).data.toList = textC ar c := by rw [textClA_yes h]
  have hsz : (textClA ar c).size = (textC ar c).length := by rw [ba_size, hd]
  have hok : okLits ar c = true := okLits_iff.2 ⟨h8, hc⟩
  have hr : readT ar (textC ar c) = (c, (textC ar c).length, true) := by
    cases c with
    | nil => rfl
    | cons x c =>
      have hx := hc x List.mem_cons_self
      obtain ⟨n, r, e, hn⟩ := pr_head hlen (text_whole (okLit_iff.1 hx).1)
      have hne := letter_dash hlen hn
      have h0 : (textC ar (x :: c))[0]? = some (letter n) := by show ((textAt ar x.2.1 0 ++ _) ++ _)[0]? = _; rw [e]; rfl
      unfold readT
      rw [if_neg (by intro e2; rw [e2] at h0; simp at h0; exact hne h0.symm), if_neg (by rw [h0]; simpa using hne)]
      have hbl := barsL_len ar c
      have := lits_text hlen (T := textC ar (x :: c)) c x ((textC ar (x :: c)).length + 1) 0 [] hx (fun y hy => hc y (List.mem_cons_of_mem _ hy)) rfl (by show _ < (textL ar x ++ barsL ar c).length + 1; simp; omega) (Nat.zero_le _)
      rw [this]
      simp
  unfold readClAns
  rw [if_pos ⟨hg, hl⟩, hd, hr, hsz]
  simp [hok]
theorem text_readCl {ar : List Int} {s : ByteArray} (h : (readClAns ar s).2.2 = true) : goodClause ar (readClAns ar s).1 = true ∧ textClA ar (readClAns ar s).1 = s := by
  by_cases hc : goodSign ar = true ∧ s.size ≤ 1000
  · obtain ⟨hg, hl⟩ := hc
    have hlen := (sign_len ar hg).2
    unfold readClAns at h ⊢
    rw [if_pos ⟨hg, hl⟩] at h ⊢
    generalize hT : s.data.toList = T at *
    by_cases e1 : (readT ar T).2.2 = true
    · rw [if_pos e1] at h ⊢
      by_cases e2 : okLits ar (readT ar T).1 = true
      · rw [if_pos e2]
        have hgc : goodClause ar (readT ar T).1 = true := by unfold goodClause; rw [hg, e2]; rfl
        refine ⟨hgc, ?_⟩
        have hs : s = ⟨T.toArray⟩ := by rw [← hT]
        rw [textClA_yes hgc, hs]
        congr 2
        unfold readT at e1 e2 ⊢
        by_cases c1 : T = [45]
        · rw [if_pos c1]; exact c1.symm
        · rw [if_neg c1] at e1 e2 ⊢
          by_cases c2 : T[0]? = some 45
          · rw [if_pos c2] at e1; simp at e1
          · rw [if_neg c2] at e1 e2 ⊢
            obtain ⟨x, d, hcd, _, hb⟩ := lits_back hlen (T := T) (T.length + 1) 0 _ [] _ (Nat.zero_le _) (show readLits ar T (T.length + 1) 0 [] = ((readLits ar T (T.length + 1) 0 []).1, (readLits ar T (T.length + 1) 0 []).2.1, true) by rw [← e1])
            rw [hcd] at e2 ⊢
            simp only [List.nil_append] at e2 ⊢
            have hall := (okLits_iff.1 e2).2
            have := hb (hall x List.mem_cons_self) (fun y hy => hall y (List.mem_cons_of_mem _ hy))
            rw [List.drop_zero] at this
            exact this.symm
      · rw [if_neg e2] at h; simp at h
    · rw [if_neg e1] at h; simp at h
  · unfold readClAns at h
    rw [if_neg hc] at h; simp at h
end Go.Proofs.Yteegjnobmbcjiaa
end
section
/- Chapter 4, the reference: ClauseText. -/
namespace Go.Proofs.Yteegjnobmbcjiaa
open Go.RowKit

theorem barsL_app (ar : List Int) (c d : List Lt) : barsL ar (c ++ d) = barsL ar c ++ barsL ar d := by simp [barsL]
theorem textC_snoc (ar : List Int) {c : List Lt} (h : c ≠ []) (x : Lt) : textC ar (c ++ [x]) = textC ar c ++ 124 :: textL ar x := by
  cases c with
  | nil => exact absurd rfl h
  | cons y r => simp only [List.cons_append, textC, barsL_app, List.append_assoc]; simp [barsL]
/-- What is written behind k literals. -/
def accL (ar : List Int) (c : List Lt) (k : Nat) : List UInt8 := if k = 0 then [] else textC ar (c.take k)
theorem accL_succ (ar : List Int) (c : List Lt) (k : Nat) (h : k < c.length) : accL ar c (k+1) = (if k = 0 then [] else accL ar c k ++ [124]) ++ textL ar (c.getD k lt0) := by
  unfold accL
  rw [if_neg (by omega), List.take_succ_eq_append_getElem h]
  have e : c.getD k lt0 = c[k] := by simp [List.getD, h]
  rw [e]
  by_cases hk : k = 0
  · subst hk; simp [textC, barsL]
  · rw [if_neg hk, if_neg hk, textC_snoc ar (by intro h2; have := congrArg List.length h2; rw [List.length_take, List.length_nil] at this; omega)]
    simp
theorem textL_le {ar : List Int} {x : Lt} (h : okLit ar x = true) : (textAt ar x.2.1 0).length ≤ 120 ∧ (textAt ar x.2.2 0).length ≤ 120 := by
  obtain ⟨h1, h2⟩ := okLit_iff.1 h
  exact ⟨textAt_le ar _ h1 0 (by have := (okTerm_len h1).1; omega), textAt_le ar _ h2 0 (by have := (okTerm_len h2).1; omega)⟩
theorem accL_le {ar : List Int} {c : List Lt} (hok : ∀ x ∈ c, okLit ar x = true) : ∀ k, k ≤ c.length → (accL ar c k).length ≤ 250 * k := by
  intro k
  induction k with
  | zero => intro _; simp [accL]
  | succ k ih =>
    intro hk
    have := ih (by omega)
    obtain ⟨l1, l2⟩ := textL_le (hok _ (mem_getD c lt0 k (by omega)))
    rw [accL_succ ar c k (by omega), List.length_append]
    have : (textL ar (c.getD k lt0)).length ≤ 241 := by unfold textL; simp only [List.length_append, List.length_cons]; omega
    split
    · simp only [List.length_nil]; omega
    · simp only [List.length_append, List.length_cons, List.length_nil]; omega
theorem accL_all (ar : List Int) (c : List Lt) (h : c.length ≠ 0) : accL ar c c.length = textC ar c := by unfold accL; rw [if_neg h, List.take_length]

theorem ba_mk {A : ByteArray} {l : List UInt8} (h : A.data.toList = l) : A = ⟨l.toArray⟩ := by subst h; cases A; simp
end Go.Proofs.Yteegjnobmbcjiaa
end
section
/- The draws of chapter 4: a signature and a clause. -/
namespace Go.Proofs.Yteegjnobmbcjiaa
open Go.RowKit

theorem SlC.setP {lo hi w v c} (h : SlC lo hi w v c) {p : Addr} (hp : p.block < lo ∨ hi ≤ p.block) (u : Value) : SlC lo hi (w.setCell p u) v c :=
  h.same fun b h1 h2 _ => Below.heap_setCell w p u b (by omega)
def fineC (c : List Lt) : Prop := c.length ≤ 9 ∧ ∀ x ∈ c, x.2.1.length ≤ 400 ∧ x.2.2.length ≤ 400
theorem fineC.sum {c : List Lt} (h : fineC c) : sumC c ≤ 100000 := by
  rw [sumC_eq]
  unfold lenC
  have h2 : ∀ t ∈ flatC c, t.length ≤ 400 := fun t ht => by
    obtain ⟨x, hx, e⟩ := flat_mem ht
    obtain ⟨a, b⟩ := h.2 x hx
    rcases e with rfl | rfl <;> omega
  have h3 : ∀ l : List (List Int), (∀ t ∈ l, t.length ≤ 400) → sumL l ≤ 400 * l.length := fun l => by
    induction l with
    | nil => intro _; simp [sumL]
    | cons t l ih =>
      intro hl
      have h1 := hl t (by simp)
      have h2 := ih fun x hx => hl x (List.mem_cons_of_mem _ hx)
      simp only [sumL, List.map_cons, List.sum_cons, List.length_cons] at *
      omega
  have := h3 _ h2
  rw [flatC_len] at this
  have := h.1
  omega
theorem textL_size {ar : List Int} {x : Lt} (h : okLit ar x = true) : (textL ar x).length ≤ 241 := by
  obtain ⟨o1, o2⟩ := okLit_iff.1 h
  have h1 := textAt_le ar x.2.1 o1 0 (by have := ((okTerm_iff _ _).1 o1).1; omega)
  have h2 := textAt_le ar x.2.2 o2 0 (by have := ((okTerm_iff _ _).1 o2).1; omega)
  unfold textL
  rw [List.length_append, List.length_cons]
  omega
theorem barsL_size {ar : List Int} : ∀ c : List Lt, (∀ x ∈ c, okLit ar x = true) → (barsL ar c).length ≤ 242 * c.length := by
  intro c
  induction c with
  | nil => intro _; simp [barsL]
  | cons x c ih =>
    intro h
    have h1 := textL_size (h x (by simp))
    have h2 := ih fun y hy => h y (List.mem_cons_of_mem _ hy)
    have e : barsL ar (x :: c) = 124 :: textL ar x ++ barsL ar c := by simp [barsL]
    rw [e, List.length_append, List.length_cons, List.length_cons]
    omega
theorem textC_size (ar : List Int) (c : List Lt) : (textClA ar c).size ≤ 3000 := by
  cases hg : goodClause ar c with
  | false => simp [textClA, hg]; decide
  | true =>
    obtain ⟨_, h8, hok⟩ := goodClause_iff.1 hg
    rw [textClA_yes hg, ba_size]
    cases c with
    | nil => simp [textC]
    | cons x c =>
      have h1 := textL_size (hok x (by simp))
      have h2 := barsL_size c fun y hy => hok y (List.mem_cons_of_mem _ hy)
      simp only [textC, List.length_append, List.length_cons] at *
      omega
def RetDCl (w : World) (e : Ending) (w' : World) : Prop :=
  ∃ (sv tv : Value) (ar : List Int) (c : List Lt), e = .returned (.tuple #[.agg #[sv], tv]) ∧ drawn ar ∧ SlI w.heap.size w'.heap.size w' sv ar ∧ SlC w.heap.size w'.heap.size w' tv c ∧ fineC c ∧ Bel w w'
def RetDSt (w : World) (e : Ending) (w' : World) : Prop :=
  ∃ (sv : Value) (ar : List Int) (s : ByteArray), e = .returned (.tuple #[.agg #[sv], .string s]) ∧ drawn ar ∧ SlI w.heap.size w'.heap.size w' sv ar ∧ s.size ≤ 4000 ∧ Bel w w'

set_option maxRecDepth 100000 in
set_option maxHeartbeats 1000000 in
theorem drawGoodClause_c (n : Nat) (v : Value) (w : World) (hn : n ≤ 1048576) (hv : SlB w.heap.size w v n) :
    Calls Try.prog 66 #[v] w (RetDCl w) := by
  obtain ⟨ad, cap, rfl, hcap, hr⟩ := hv
  have hv : SlB w.heap.size w (.slice ad n cap) n := ⟨ad, cap, rfl, hcap, hr⟩
  have hB1 := Bel.alloc0 w (.cells #[.slice none 0 0] 30)
  have hs1 : (w.alloc (.cells #[.slice none 0 0] 30)).heap.size = w.heap.size + 1 := by simp
  have hC := Cur.new (T := 106) (w := w.alloc (.cells #[.slice none 0 0] 30)) (v := .slice ad n cap) (n := n) (by
    obtain ⟨ad', cap', e, hc, hr'⟩ := hv.chg (Chg.of_bel (lo := w.heap.size) (hi := w.heap.size) hB1) (Nat.le_refl _)
    exact ⟨ad', cap', e, hc, fun hp => by obtain ⟨b, off, e1, e2, e3⟩ := hr' hp; exact ⟨b, off, e1, by omega, e3⟩⟩)
  rw [hs1] at hC
  have hB2 := hB1.step (Bel.alloc0 (w.alloc (.cells #[.slice none 0 0] 30)) (.cells #[.slice ad n cap, .int .i64 0, .int .u64 0] 106))
  have hbx : ((w.alloc (.cells #[.slice none 0 0] 30)).alloc (.cells #[.slice ad n cap, .int .i64 0, .int .u64 0] 106)).cell? ⟨w.heap.size, 0, none⟩ = some (.slice none 0 0) := (Bel.alloc0 _ _).at (by simp) (by rw [World.cell?_alloc_new w]; rfl)
  have hfx : ((w.alloc (.cells #[.slice none 0 0] 30)).alloc (.cells #[.slice ad n cap, .int .i64 0, .int .u64 0] 106)).frozen? ⟨w.heap.size, 0, none⟩ = false := by simp [go_sem]; try rfl
  have HS := Lib.hid (sign_c (w.heap.size + 1) n 0 _ (by omega) (by omega) hC)
  go_enter Try.func66, Try.ntmps66
  go_wp2_with fail
  refine HS.out.mono ?_; rintro e w1 ⟨sv, ar, k1, rfl, hdr, hsv, hk1, hk2, hc1, hg1⟩
  obtain ⟨sa, sc, rfl⟩ := hsv.form
  have hW0 : ((w.alloc (.cells #[.slice none 0 0] 30)).alloc (.cells #[.slice ad n cap, .int .i64 0, .int .u64 0] 106)).heap.size = w.heap.size + 1 + 1 := by simp
  generalize ((w.alloc (.cells #[.slice none 0 0] 30)).alloc (.cells #[.slice ad n cap, .int .i64 0, .int .u64 0] 106)) = W0 at *
  have hsz1 : W0.heap.size ≤ w1.heap.size := hg1.size
  rw [hW0] at hsv
  have hbx1 := hg1.cell (by omega) (by omega) hbx
  have hfx1 : w1.frozen? ⟨w.heap.size, 0, none⟩ = false := (World.frozen?_of_block (w := W0) (w' := w1) (a := ⟨w.heap.size, 0, none⟩) (hg1.block w.heap.size (by omega) (by omega))).trans hfx
  have hB3 := Bel.alloc0 w1 (.cells #[.slice sa ar.length sc] 30)
  have hs2 : (w1.alloc (.cells #[.slice sa ar.length sc] 30)).heap.size = w1.heap.size + 1 := by simp
  have hbx7 : (w1.alloc (.cells #[.slice sa ar.length sc] 30)).cell? ⟨w1.heap.size, 0, none⟩ = some (.slice sa ar.length sc) := by rw [World.cell?_alloc_new w1]; rfl
  have hbx2 := hB3.at (by omega) hbx1
  have hfx2 := (World.frozen?_of_block (w := w1) (a := ⟨w.heap.size, 0, none⟩) (hB3.block w.heap.size (by omega))).trans hfx1
  have hc2 := hc1.below hB3
  have hsv2 := hsv.below hB3
  have hg2 := hg1.trans (Chg.of_bel (lo := w.heap.size + 1) (hi := w.heap.size + 1 + 1) hB3)
  generalize hw2 : w1.alloc (.cells #[.slice sa ar.length sc] 30) = w2 at *
  clear hc1 hg1 hbx1 hfx1 hB3 hsv hbx hfx HS hC hB1
  have hal := drawn_len hdr
  have hhi0 : w1.heap.size ≤ w2.heap.size := by omega
  go_wp2_with fail
  go_region_held3 (fun w' => w'.cell? ⟨w1.heap.size, 0, none⟩ = some (.slice sa ar.length sc))
    (first | exact hbx7 | exact hx1 | exact hb7F | fail)
    (first
      | (go_at_call 98; refine (clause_c (w.heap.size + 1) n k1 _ _ _ ar _ (by omega) (by omega) hdr (by omega) (hc2.below (Bel.drew0 w2)) (hsv2.below (Bel.drew0 w2))).mono ?_; rintro e y1_2 ⟨oT, tT, rfl, hT, hc9, hsh, k2x, hk1k2x, hk2k2x, hcr1, hr1⟩; obtain ⟨aT, cT, rfl⟩ := hT.form; have hfine : fineC tT := ⟨hc9, hsh⟩; have G1 := (Chg.of_bel (lo := w.heap.size + 1) (hi := w.heap.size + 1 + 1) (Bel.drew0 w2)).trans hr1; have hzr1 : w2.heap.size ≤ y1_2.heap.size := G1.size; have hx1 := G1.cell (by omega) (by omega) hbx7; have hbxL := G1.cell (by omega) (by omega) hbx2; have hb7F := (World.cell?_setCell_other y1_2 ⟨w.heap.size, 0, none⟩ ⟨w1.heap.size, 0, none⟩ (.slice sa ar.length sc) (fun h => (show w.heap.size ≠ w1.heap.size by omega) (congrArg Addr.block h))).trans hx1; have hfxL := (World.frozen?_of_block (w := w2) (w' := y1_2) (a := ⟨w.heap.size, 0, none⟩) (G1.block w.heap.size (by omega) (by omega))).trans hfx2)
      | fail)
  replace hT := hT.mono (show w2.heap.size ≤ w2.drew.heap.size + 1 from Nat.le_succ _) (Nat.le_refl _)
  clear hfx2
  have hzL : w2.heap.size ≤ y1_2.heap.size := G1.size
  replace hsv2 := hsv2.chg G1 (by omega)
  replace hg2 := hg2.trans G1
  have hbF : (y1_2.setCell ⟨w.heap.size, 0, none⟩ (.slice sa ar.length sc)).cell? ⟨w.heap.size, 0, none⟩ = some (.slice sa ar.length sc) := World.cell?_setCell_same _ _ _ hbxL
  have hsv2F := (hsv2.set (p := ⟨w.heap.size, 0, none⟩) (.inl (by simp; omega)) (.slice sa ar.length sc)).mono (show w.heap.size ≤ _ by omega) (show _ ≤ (y1_2.setCell ⟨w.heap.size, 0, none⟩ (.slice sa ar.length sc)).heap.size by first | (simp; done) | (simp; omega))
  have hTF := (hT.setP (p := ⟨w.heap.size, 0, none⟩) (.inl (by simp; omega)) (.slice sa ar.length sc)).mono (show w.heap.size ≤ _ by omega) (show _ ≤ (y1_2.setCell ⟨w.heap.size, 0, none⟩ (.slice sa ar.length sc)).heap.size by first | (simp; done) | (simp; omega))
  have hgF := (hg2.bel hB2 (by omega)).setCell (p := ⟨w.heap.size, 0, none⟩) (Nat.le_refl _) (.slice sa ar.length sc)
  clear hbx2 hbx7 hg2 hB2 hcr1 hsv2 hT
  go_wp2_with fail
  exact bodyPost_ret (v := .tuple #[.agg #[.slice sa ar.length sc], .slice aT tT.length cT]) (by simp [results, Try.results66, go_sem, hbF]) rfl ⟨_, _, ar, _, rfl, hdr, hsv2F, hTF, hfine, hgF⟩
set_option maxRecDepth 100000 in
set_option maxHeartbeats 400000 in
theorem drawTidyClause_c (n : Nat) (v : Value) (w : World) (hn : n ≤ 1048576) (hv : SlB w.heap.size w v n) :
    Calls Try.prog 24 #[v] w (RetDCl w) := by
  have hB1 := Bel.alloc0 w (.cells #[.slice none 0 0] 30)
  have hs1 : (w.alloc (.cells #[.slice none 0 0] 30)).heap.size = w.heap.size + 1 := by simp
  have hbx : (w.alloc (.cells #[.slice none 0 0] 30)).cell? ⟨w.heap.size, 0, none⟩ = some (.slice none 0 0) := by rw [World.cell?_alloc_new w]; rfl
  have hfx : (w.alloc (.cells #[.slice none 0 0] 30)).frozen? ⟨w.heap.size, 0, none⟩ = false := by simp [go_sem]; try rfl
  have hv1 : SlB (w.alloc (.cells #[.slice none 0 0] 30)).heap.size (w.alloc (.cells #[.slice none 0 0] 30)) v n := by
    obtain ⟨ad', cap', e, hc, hr'⟩ := hv.chg (Chg.of_bel (lo := w.heap.size) (hi := w.heap.size) hB1) (Nat.le_refl _)
    exact ⟨ad', cap', e, hc, fun hp => by obtain ⟨b, off, e1, e2, e3⟩ := hr' hp; exact ⟨b, off, e1, by omega, e3⟩⟩
  obtain ⟨ad, cap, rfl, -, -⟩ := hv
  go_enter Try.func24, Try.ntmps24
  go_wp2_with fail
  refine (drawGoodClause_c n _ _ hn hv1).mono ?_; rintro e w1 ⟨sv, tv, ar, t, rfl, hdr, hs, ht, htl, hb1⟩
  obtain ⟨sa, sc, rfl⟩ := hs.form
  obtain ⟨ta, tc, rfl⟩ := ht.form
  have hbx1 := hb1.at (by omega) hbx
  have hfx1 := (World.frozen?_of_block (w' := w1) (a := ⟨w.heap.size, 0, none⟩) (hb1.block w.heap.size (by omega))).trans hfx
  have hz1 := hb1.size
  have hbF : (w1.setCell ⟨w.heap.size, 0, none⟩ (.slice sa ar.length sc)).cell? ⟨w.heap.size, 0, none⟩ = some (.slice sa ar.length sc) := World.cell?_setCell_same _ _ _ hbx1
  have hsF := (hs.set (p := ⟨w.heap.size, 0, none⟩) (.inl (by simp)) (.slice sa ar.length sc)).mono (show w.heap.size ≤ _ by omega) (show _ ≤ (w1.setCell ⟨w.heap.size, 0, none⟩ (.slice sa ar.length sc)).heap.size by simp)
  have htF := (ht.setP (p := ⟨w.heap.size, 0, none⟩) (.inl (by simp)) (.slice sa ar.length sc)).mono (show w.heap.size ≤ _ by omega) (show _ ≤ (w1.setCell ⟨w.heap.size, 0, none⟩ (.slice sa ar.length sc)).heap.size by simp)
  have hgF := (hB1.step hb1).setCell (p := ⟨w.heap.size, 0, none⟩) (Nat.le_refl _) (.slice sa ar.length sc)
  clear hs ht hB1 hb1
  go_wp2_with fail
  exact bodyPost_ret (v := .tuple #[.agg #[.slice sa ar.length sc], .slice ta t.length tc]) (by simp [results, Try.results24, go_sem, hbF]) rfl ⟨_, _, ar, _, rfl, hdr, hsF, htF, htl, hgF⟩
set_option maxRecDepth 100000 in
set_option maxHeartbeats 400000 in
theorem drawWeightOf_c (n : Nat) (v : Value) (w : World) (hn : n ≤ 1048576) (hv : SlB w.heap.size w v n) :
    Calls Try.prog 38 #[v] w (RetDCl w) := by
  have hB1 := Bel.alloc0 w (.cells #[.slice none 0 0] 30)
  have hs1 : (w.alloc (.cells #[.slice none 0 0] 30)).heap.size = w.heap.size + 1 := by simp
  have hbx : (w.alloc (.cells #[.slice none 0 0] 30)).cell? ⟨w.heap.size, 0, none⟩ = some (.slice none 0 0) := by rw [World.cell?_alloc_new w]; rfl
  have hfx : (w.alloc (.cells #[.slice none 0 0] 30)).frozen? ⟨w.heap.size, 0, none⟩ = false := by simp [go_sem]; try rfl
  have hv1 : SlB (w.alloc (.cells #[.slice none 0 0] 30)).heap.size (w.alloc (.cells #[.slice none 0 0] 30)) v n := by
    obtain ⟨ad', cap', e, hc, hr'⟩ := hv.chg (Chg.of_bel (lo := w.heap.size) (hi := w.heap.size) hB1) (Nat.le_refl _)
    exact ⟨ad', cap', e, hc, fun hp => by obtain ⟨b, off, e1, e2, e3⟩ := hr' hp; exact ⟨b, off, e1, by omega, e3⟩⟩
  obtain ⟨ad, cap, rfl, -, -⟩ := hv
  go_enter Try.func38, Try.ntmps38
  go_wp2_with fail
  refine (drawGoodClause_c n _ _ hn hv1).mono ?_; rintro e w1 ⟨sv, tv, ar, t, rfl, hdr, hs, ht, htl, hb1⟩
  obtain ⟨sa, sc, rfl⟩ := hs.form
  obtain ⟨ta, tc, rfl⟩ := ht.form
  have hbx1 := hb1.at (by omega) hbx
  have hfx1 := (World.frozen?_of_block (w' := w1) (a := ⟨w.heap.size, 0, none⟩) (hb1.block w.heap.size (by omega))).trans hfx
  have hz1 := hb1.size
  have hbF : (w1.setCell ⟨w.heap.size, 0, none⟩ (.slice sa ar.length sc)).cell? ⟨w.heap.size, 0, none⟩ = some (.slice sa ar.length sc) := World.cell?_setCell_same _ _ _ hbx1
  have hsF := (hs.set (p := ⟨w.heap.size, 0, none⟩) (.inl (by simp)) (.slice sa ar.length sc)).mono (show w.heap.size ≤ _ by omega) (show _ ≤ (w1.setCell ⟨w.heap.size, 0, none⟩ (.slice sa ar.length sc)).heap.size by simp)
  have htF := (ht.setP (p := ⟨w.heap.size, 0, none⟩) (.inl (by simp)) (.slice sa ar.length sc)).mono (show w.heap.size ≤ _ by omega) (show _ ≤ (w1.setCell ⟨w.heap.size, 0, none⟩ (.slice sa ar.length sc)).heap.size by simp)
  have hgF := (hB1.step hb1).setCell (p := ⟨w.heap.size, 0, none⟩) (Nat.le_refl _) (.slice sa ar.length sc)
  clear hs ht hB1 hb1
  go_wp2_with fail
  exact bodyPost_ret (v := .tuple #[.agg #[.slice sa ar.length sc], .slice ta t.length tc]) (by simp [results, Try.results38, go_sem, hbF]) rfl ⟨_, _, ar, _, rfl, hdr, hsF, htF, htl, hgF⟩
end Go.Proofs.Yteegjnobmbcjiaa
end
section
/- The draws of a world, a term or a clause, and an assignment. -/

namespace Go.Proofs.Yteegjnobmbcjiaa
open Go.RowKit

/-- The cells of the results, before they are stored. -/
structure WCel (N : Nat) (w : World) : Prop where
  s0 : w.cell? ⟨N, 0, none⟩ = some (.slice none 0 0)
  a0 : w.cell? ⟨N + 1, 0, none⟩ = some (.int .i64 0)
  a1 : w.cell? ⟨N + 1, 1, none⟩ = some (.slice none 0 0)
  fs : ∀ j, w.frozen? ⟨N, j, none⟩ = false
  fa : ∀ j, w.frozen? ⟨N + 1, j, none⟩ = false
theorem WCel.same {N : Nat} {w w' : World} (h : WCel N w) (hs : ∀ b, N ≤ b → b ≤ N + 1 → w'.heap[b]? = w.heap[b]?) : WCel N w' := by
  have c := fun (b j : Nat) (h1 : N ≤ b) (h2 : b ≤ N + 1) => World.cell?_of_block (w := w) (w' := w') (a := ⟨b, j, none⟩) (hs b h1 h2)
  have f := fun (b j : Nat) (h1 : N ≤ b) (h2 : b ≤ N + 1) => World.frozen?_of_block (w := w) (w' := w') (a := ⟨b, j, none⟩) (hs b h1 h2)
  exact ⟨(c N 0 (by omega) (by omega)).trans h.s0, (c _ 0 (by omega) (by omega)).trans h.a0, (c _ 1 (by omega) (by omega)).trans h.a1,
    fun j => (f _ j (by omega) (by omega)).trans (h.fs j), fun j => (f _ j (by omega) (by omega)).trans (h.fa j)⟩
theorem WCel.chg {N : Nat} {w w' : World} (h : WCel N w) (k : Chg (N+1+1) (N+1+1+1) w w') (hl : N + 2 ≤ w.heap.size) : WCel N w' := h.same fun b h1 h2 => k.block b (by omega) (by omega)
theorem WCel.bel {N : Nat} {w w' : World} (h : WCel N w) (k : Bel w w') (hl : N + 2 ≤ w.heap.size) : WCel N w' := h.same fun b h1 h2 => k.block b (by omega)
def RetDEv (w : World) (e : Ending) (w' : World) : Prop :=
  ∃ (sv wv tv ev : Value) (ar : List Int) (Z : Nat) (tb : List (List Int)) (t env : List Int), e = .returned (.tuple #[.agg #[sv], .agg #[.int .i64 (Z : Int), wv], tv, ev]) ∧ drawn ar ∧ SlI w.heap.size w'.heap.size w' sv ar ∧
    SlS w.heap.size w'.heap.size w' wv tb ∧ tb.length ≤ 6 ∧ (∀ j, (tb.getD j []).length ≤ 27) ∧ SlI w.heap.size w'.heap.size w' tv t ∧ t.length ≤ 1000 ∧ SlI w.heap.size w'.heap.size w' ev env ∧ env.length = 12 ∧ Bel w w'
def RetDHa (w : World) (e : Ending) (w' : World) : Prop :=
  ∃ (sv wv tv ev : Value) (ar : List Int) (Z : Nat) (tb : List (List Int)) (c : List Lt) (env : List Int), e = .returned (.tuple #[.agg #[sv], .agg #[.int .i64 (Z : Int), wv], tv, ev]) ∧ drawn ar ∧ SlI w.heap.size w'.heap.size w' sv ar ∧
    SlS w.heap.size w'.heap.size w' wv tb ∧ tb.length ≤ 6 ∧ (∀ j, (tb.getD j []).length ≤ 27) ∧ SlC w.heap.size w'.heap.size w' tv c ∧ fineC c ∧ SlI w.heap.size w'.heap.size w' ev env ∧ env.length = 12 ∧ Bel w w'
set_option maxRecDepth 100000 in
set_option maxHeartbeats 2000000 in
theorem drawEvalIn_c (n : Nat) (v : Value) (w : World) (hn : n ≤ 1048576) (hv : SlB w.heap.size w v n) :
    Calls Try.prog 47 #[v] w (RetDEv w) := by
  obtain ⟨ad, cap, rfl, hcap, hr⟩ := hv
  have hv : SlB w.heap.size w (.slice ad n cap) n := ⟨ad, cap, rfl, hcap, hr⟩
  obtain ⟨W, hW⟩ : ∃ W, W = ((w.alloc (.cells #[.slice none 0 0] 30)).alloc (.cells #[.int .i64 0, .slice none 0 0] 58)) := ⟨_, rfl⟩
  have hB1 : Bel w W := by rw [hW]; exact Bel.alloc2 _ _ _
  have hs1 : W.heap.size = w.heap.size + 1 + 1 := by rw [hW]; simp
  have hC := Cur.new (T := 106) (w := W) (v := .slice ad n cap) (n := n) (by
    obtain ⟨ad', cap', e, hc, hr'⟩ := hv.chg (Chg.of_bel (lo := w.heap.size) (hi := w.heap.size) hB1) (Nat.le_refl _)
    exact ⟨ad', cap', e, hc, fun hp => by obtain ⟨b, off, e1, e2, e3⟩ := hr' hp; exact ⟨b, off, e1, by omega, e3⟩⟩)
  rw [hs1] at hC
  have hB2 := hB1.step (Bel.alloc0 W (.cells #[.slice ad n cap, .int .i64 0, .int .u64 0] 106))
  have hR0 : WCel w.heap.size (W.alloc (.cells #[.slice ad n cap, .int .i64 0, .int .u64 0] 106)) := by
    have : WCel w.heap.size W := by
      rw [hW]
      exact ⟨by simp [go_sem], by simp [go_sem], by simp [go_sem], fun j => by simp [go_sem], fun j => by simp [go_sem]⟩
    exact this.bel (Bel.alloc0 _ _) (by omega)
  have HS := Lib.hid (sign_c (w.heap.size + 1 + 1) n 0 _ (by omega) (by omega) hC)
  rw [hW] at HS
  go_enter Try.func47, Try.ntmps47
  go_wp2_with fail
  refine HS.out.mono ?_; rintro e w1 ⟨sv, ar, k1, rfl, hdr, hsv, hk1, hk2, hc1, hg1⟩
  obtain ⟨sa, sc, rfl⟩ := hsv.form
  rw [← hW] at hsv hg1
  have hW0 : (W.alloc (.cells #[.slice ad n cap, .int .i64 0, .int .u64 0] 106)).heap.size = w.heap.size + 1 + 1 + 1 := by simp [hs1]
  generalize (W.alloc (.cells #[.slice ad n cap, .int .i64 0, .int .u64 0] 106)) = W0 at *
  clear hW hC HS hB1 hs1
  have hal := drawn_len hdr
  have hz1 : W0.heap.size ≤ w1.heap.size := hg1.size
  have hR1 := hR0.chg hg1 (by omega)
  rw [hW0] at hsv
  have hB3 := Bel.alloc0 w1 (.cells #[.slice sa ar.length sc] 30)
  have hs2 : (w1.alloc (.cells #[.slice sa ar.length sc] 30)).heap.size = w1.heap.size + 1 := by simp
  have hbs2 : (w1.alloc (.cells #[.slice sa ar.length sc] 30)).cell? ⟨w1.heap.size, 0, none⟩ = some (.slice sa ar.length sc) := by rw [World.cell?_alloc_new w1]; rfl
  have hc2 := hc1.below hB3
  have hsv2 := hsv.below hB3
  have hR2 := hR1.bel hB3 (by omega)
  have hg2 := hg1.trans (Chg.of_bel (lo := w.heap.size + 1 + 1) (hi := w.heap.size + 1 + 1 + 1) hB3)
  clear hc1 hg1 hR0 hR1 hB3 hsv
  generalize hw2 : w1.alloc (.cells #[.slice sa ar.length sc] 30) = w2 at *
  go_wp2_with fail
  refine (world_c (w.heap.size + 1 + 1) n k1 _ _ _ ar w2 (by omega) (by omega) hdr (by omega) hc2 hsv2).mono ?_; rintro e w3 ⟨wa, wc, Z, tb, rfl, hwv, htl, hjl, hZ1, hZ4, k2, hk21, hk22, hc3, hg3⟩
  have hz3 : w2.heap.size ≤ w3.heap.size := hg3.size
  have hbs3 := hg3.cell (by omega) (by omega) hbs2
  have hR3 := hR2.chg hg3 (by omega)
  have hsv3 := hsv2.chg hg3 (by omega)
  have hg4 := hg2.trans hg3
  clear hbs2 hR2 hsv2 hg2 hg3 hc2
  have hB4 := Bel.alloc0 w3 (.cells #[.int .i64 (Z : Int), .slice wa tb.length wc] 58)
  have hs4 : (w3.alloc (.cells #[.int .i64 (Z : Int), .slice wa tb.length wc] 58)).heap.size = w3.heap.size + 1 := by simp
  have q0 : (w3.alloc (.cells #[.int .i64 (Z : Int), .slice wa tb.length wc] 58)).cell? ⟨w3.heap.size, 0, none⟩ = some (.int .i64 (Z : Int)) := by rw [World.cell?_alloc_new w3]; rfl
  have q1 : (w3.alloc (.cells #[.int .i64 (Z : Int), .slice wa tb.length wc] 58)).cell? ⟨w3.heap.size, 1, none⟩ = some (.slice wa tb.length wc) := by rw [World.cell?_alloc_new w3]; rfl
  replace hc3 := hc3.below hB4
  replace hsv3 := hsv3.below hB4
  replace hwv := hwv.below hB4
  replace hR3 := hR3.bel hB4 (by omega)
  replace hbs3 := hB4.at (by omega) hbs3
  replace hg4 := hg4.trans (Chg.of_bel (lo := w.heap.size + 1 + 1) (hi := w.heap.size + 1 + 1 + 1) hB4)
  clear hB4
  generalize hw4 : w3.alloc (.cells #[.int .i64 (Z : Int), .slice wa tb.length wc] 58) = w4 at *
  have hG1b : w.heap.size + 1 + 1 + 1 ≤ w1.heap.size := by omega
  have hG3b : w.heap.size + 1 + 1 + 1 ≤ w3.heap.size := by omega
  replace hsv3 := hsv3.mono (Nat.le_refl _) (show _ ≤ w4.heap.size by omega)
  replace hwv := hwv.mono (show w.heap.size + 1 + 1 + 1 ≤ _ by omega) (show _ ≤ w4.heap.size by omega)
  go_wp2_with fail
  clear hw2 hw4
  generalize w1.heap.size = G1 at *
  generalize w3.heap.size = G3 at *
  have hG1c : G1 < w4.heap.size := World.block_lt_of_cell? w4 ⟨G1, _, none⟩ hbs3
  have hG3c : G3 < w4.heap.size := World.block_lt_of_cell? w4 ⟨G3, _, none⟩ q0
  have hS0 : (w4.cell? ⟨G1, 0, none⟩ = some (.slice sa ar.length sc) ∧ (w4.cell? ⟨G3, 0, none⟩ = some (.int .i64 (Z : Int)) ∧ w4.cell? ⟨G3, 1, none⟩ = some (.slice wa tb.length wc))) := ⟨hbs3, q0, q1⟩
  have hdrew : ∀ (w' : World), (w'.cell? ⟨G1, 0, none⟩ = some (.slice sa ar.length sc) ∧ (w'.cell? ⟨G3, 0, none⟩ = some (.int .i64 (Z : Int)) ∧ w'.cell? ⟨G3, 1, none⟩ = some (.slice wa tb.length wc))) → (w'.drew.cell? ⟨G1, 0, none⟩ = some (.slice sa ar.length sc) ∧ (w'.drew.cell? ⟨G3, 0, none⟩ = some (.int .i64 (Z : Int)) ∧ w'.drew.cell? ⟨G3, 1, none⟩ = some (.slice wa tb.length wc))) := fun _ h => h
  have hsetS : ∀ (w' : World) (b o : Nat) (u : Value), b < w.heap.size + 1 + 1 + 1 → (w'.cell? ⟨G1, 0, none⟩ = some (.slice sa ar.length sc) ∧ (w'.cell? ⟨G3, 0, none⟩ = some (.int .i64 (Z : Int)) ∧ w'.cell? ⟨G3, 1, none⟩ = some (.slice wa tb.length wc))) →
      ((w'.setCell ⟨b, o, none⟩ u).cell? ⟨G1, 0, none⟩ = some (.slice sa ar.length sc) ∧ ((w'.setCell ⟨b, o, none⟩ u).cell? ⟨G3, 0, none⟩ = some (.int .i64 (Z : Int)) ∧ (w'.setCell ⟨b, o, none⟩ u).cell? ⟨G3, 1, none⟩ = some (.slice wa tb.length wc))) := fun w' b o u hlt h => by
    have e : ∀ (g j : Nat), w.heap.size + 1 + 1 + 1 ≤ g → (w'.setCell ⟨b, o, none⟩ u).cell? ⟨g, j, none⟩ = w'.cell? ⟨g, j, none⟩ := fun g j hg => by rw [World.cell?_setCell_other (h := by intro h; simp at h <;> omega)]
    rw [e _ _ hG1b, e _ _ hG3b, e _ _ hG3b]; exact h
  go_region_held3 (fun w' => w'.cell? ⟨G1, 0, none⟩ = some (.slice sa ar.length sc) ∧ (w'.cell? ⟨G3, 0, none⟩ = some (.int .i64 (Z : Int)) ∧ w'.cell? ⟨G3, 1, none⟩ = some (.slice wa tb.length wc)))
    (first | (with_reducible refine hdrew _ ?_; (repeat (with_reducible refine hsetS _ _ _ _ (by omega) ?_)); with_reducible exact hS0) | (with_reducible exact hS5) | (with_reducible exact hS6) | ((repeat (with_reducible refine hsetS _ _ _ _ (by omega) ?_)); with_reducible exact hS6))
    (first | (go_at_call 94; refine (env_c (w.heap.size + 1 + 1) n k3 Z _ _ (by omega) (by omega) (by omega) hc5).mono ?_; rintro e w6 ⟨aE, cE, env, rfl, hE, hlE, k4, hk41, hk42, hc6, hgy⟩; have hg6 := hg5.trans hgy; have hS6 := And.intro (hg6.cell hG1c (by omega) hbs3) (And.intro (hg6.cell hG3c (by omega) q0) (hg6.cell hG3c (by omega) q1)); have hR6 := hR3.chg hg6 (by omega); have hr0 := hR6.s0; have hra0 := hR6.a0; have hra1 := hR6.a1; have hf0 := hR6.fs; have hfa := hR6.fa) | (go_at_call 88; refine (anyTerm_c (w.heap.size + 1 + 1) n k2 _ _ _ ar _ (by omega) (by omega) hdr (by omega) (hc3.below (Bel.drew0 _)) (hsv3.below (Bel.drew0 _))).mono ?_; rintro e w5 ⟨aA, cA, tA, k3, rfl, hA, hlA, hk31, hk32, hc5, hgx⟩; have hg5 := (Chg.of_bel (lo := w.heap.size + 1 + 1) (hi := w.heap.size + 1 + 1 + 1) (Bel.drew0 w4)).trans hgx; have hS5 := And.intro (hg5.cell hG1c (by omega) hbs3) (And.intro (hg5.cell hG3c (by omega) q0) (hg5.cell hG3c (by omega) q1))) | fail)
  have hz5 : w4.heap.size ≤ w5.heap.size := hg5.size
  have hz6 : w5.heap.size ≤ w6.heap.size := hgy.size
  have hgF := hg4.trans hg6
  replace hsv3 := (hsv3.chg hg6 (by omega)).mono (Nat.le_refl _) (show _ ≤ w6.heap.size by omega)
  replace hwv := (hwv.chg hg6 (by omega)).mono (Nat.le_refl _) (show _ ≤ w6.heap.size by omega)
  have hA2 := ((hA.mono (show w.heap.size + 1 + 1 + 1 ≤ _ by show _ ≤ w4.heap.size; omega) (Nat.le_refl _)).chg hgy (by omega)).mono (Nat.le_refl _) (show _ ≤ w6.heap.size by omega)
  have hE2 := hE.mono (show w.heap.size + 1 + 1 + 1 ≤ _ by omega) (Nat.le_refl _)
  obtain ⟨NE, hNE⟩ : ∃ x, x = ((w6.setCell ⟨w.heap.size, 0, none⟩ (.slice sa ar.length sc)).setCell ⟨w.heap.size + 1, 0, none⟩ (.int .i64 (Z : Int))).setCell ⟨w.heap.size + 1, 1, none⟩ (.slice wa tb.length wc) := ⟨_, rfl⟩
  have hEQ : ∀ b, w.heap.size + 1 + 1 + 1 ≤ b → NE.heap[b]? = w6.heap[b]? := fun b hb => by
    rw [hNE]; rw [Below.heap_setCell _ _ _ b (by show _ ≠ _; simp only; omega)]; rw [Below.heap_setCell _ _ _ b (by show _ ≠ _; simp only; omega)]; rw [Below.heap_setCell _ _ _ b (by show _ ≠ _; simp only; omega)]
  have hBF : Bel w NE := by rw [hNE]; exact ((((hgF.bel hB2 (by omega)).set (p := ⟨w.heap.size, 0, none⟩) (by show w.heap.size ≤ _; simp only; omega) (.slice sa ar.length sc)).set (p := ⟨w.heap.size + 1, 0, none⟩) (by show w.heap.size ≤ _; simp only; omega) (.int .i64 (Z : Int))).set (p := ⟨w.heap.size + 1, 1, none⟩) (by show w.heap.size ≤ _; simp only; omega) (.slice wa tb.length wc))
  have hsz : NE.heap.size = w6.heap.size := by rw [hNE]; simp
  have c00 : NE.cell? ⟨w.heap.size, 0, none⟩ = some (.slice sa ar.length sc) := by rw [hNE]; simp [go_sem, hr0]
  have c11 : NE.cell? ⟨w.heap.size + 1, 0, none⟩ = some (.int .i64 (Z : Int)) := by rw [hNE]; simp [go_sem, hra0]
  have c22 : NE.cell? ⟨w.heap.size + 1, 1, none⟩ = some (.slice wa tb.length wc) := by rw [hNE]; simp [go_sem, hra1]
  rw [← hNE]
  have g1 := (hsv3.same (w' := NE) (fun b h1 _ _ => hEQ b h1)).mono (show w.heap.size ≤ w.heap.size + 1 + 1 + 1 by omega) (show w6.heap.size ≤ NE.heap.size from Nat.le_of_eq hsz.symm)
  have g2 := (hwv.same (w' := NE) (fun b h1 _ _ => hEQ b h1)).mono (show w.heap.size ≤ w.heap.size + 1 + 1 + 1 by omega) (show w6.heap.size ≤ NE.heap.size from Nat.le_of_eq hsz.symm)
  have g3 := (hA2.same (w' := NE) (fun b h1 _ _ => hEQ b h1)).mono (show w.heap.size ≤ w.heap.size + 1 + 1 + 1 by omega) (show w6.heap.size ≤ NE.heap.size from Nat.le_of_eq hsz.symm)
  have g4 := (hE2.same (w' := NE) (fun b h1 _ _ => hEQ b h1)).mono (show w.heap.size ≤ w.heap.size + 1 + 1 + 1 by omega) (show w6.heap.size ≤ NE.heap.size from Nat.le_of_eq hsz.symm)
  clear hEQ hNE hr0 hra0 hra1
  go_wp2_with fail
  exact bodyPost_ret (v := .tuple #[.agg #[.slice sa ar.length sc], .agg #[.int .i64 (Z : Int), .slice wa tb.length wc], .slice aA tA.length cA, .slice aE env.length cE]) (by simp [results, Try.results47, go_sem, c00, c11, c22, hlE]) rfl ⟨_, _, _, _, ar, Z, tb, tA, env, rfl, hdr, g1, g2, htl, hjl, g3, hlA, g4, hlE, hBF⟩
set_option maxRecDepth 100000 in
set_option maxHeartbeats 2000000 in
theorem drawHoldsAt_c (n : Nat) (v : Value) (w : World) (hn : n ≤ 1048576) (hv : SlB w.heap.size w v n) :
    Calls Try.prog 49 #[v] w (RetDHa w) := by
  obtain ⟨ad, cap, rfl, hcap, hr⟩ := hv
  have hv : SlB w.heap.size w (.slice ad n cap) n := ⟨ad, cap, rfl, hcap, hr⟩
  obtain ⟨W, hW⟩ : ∃ W, W = ((w.alloc (.cells #[.slice none 0 0] 30)).alloc (.cells #[.int .i64 0, .slice none 0 0] 58)) := ⟨_, rfl⟩
  have hB1 : Bel w W := by rw [hW]; exact Bel.alloc2 _ _ _
  have hs1 : W.heap.size = w.heap.size + 1 + 1 := by rw [hW]; simp
  have hC := Cur.new (T := 106) (w := W) (v := .slice ad n cap) (n := n) (by
    obtain ⟨ad', cap', e, hc, hr'⟩ := hv.chg (Chg.of_bel (lo := w.heap.size) (hi := w.heap.size) hB1) (Nat.le_refl _)
    exact ⟨ad', cap', e, hc, fun hp => by obtain ⟨b, off, e1, e2, e3⟩ := hr' hp; exact ⟨b, off, e1, by omega, e3⟩⟩)
  rw [hs1] at hC
  have hB2 := hB1.step (Bel.alloc0 W (.cells #[.slice ad n cap, .int .i64 0, .int .u64 0] 106))
  have hR0 : WCel w.heap.size (W.alloc (.cells #[.slice ad n cap, .int .i64 0, .int .u64 0] 106)) := by
    have : WCel w.heap.size W := by
      rw [hW]
      exact ⟨by simp [go_sem], by simp [go_sem], by simp [go_sem], fun j => by simp [go_sem], fun j => by simp [go_sem]⟩
    exact this.bel (Bel.alloc0 _ _) (by omega)
  have HS := Lib.hid (sign_c (w.heap.size + 1 + 1) n 0 _ (by omega) (by omega) hC)
  rw [hW] at HS
  go_enter Try.func49, Try.ntmps49
  go_wp2_with fail
  refine HS.out.mono ?_; rintro e w1 ⟨sv, ar, k1, rfl, hdr, hsv, hk1, hk2, hc1, hg1⟩
  obtain ⟨sa, sc, rfl⟩ := hsv.form
  rw [← hW] at hsv hg1
  have hW0 : (W.alloc (.cells #[.slice ad n cap, .int .i64 0, .int .u64 0] 106)).heap.size = w.heap.size + 1 + 1 + 1 := by simp [hs1]
  generalize (W.alloc (.cells #[.slice ad n cap, .int .i64 0, .int .u64 0] 106)) = W0 at *
  clear hW hC HS hB1 hs1
  have hal := drawn_len hdr
  have hz1 : W0.heap.size ≤ w1.heap.size := hg1.size
  have hR1 := hR0.chg hg1 (by omega)
  rw [hW0] at hsv
  have hB3 := Bel.alloc0 w1 (.cells #[.slice sa ar.length sc] 30)
  have hs2 : (w1.alloc (.cells #[.slice sa ar.length sc] 30)).heap.size = w1.heap.size + 1 := by simp
  have hbs2 : (w1.alloc (.cells #[.slice sa ar.length sc] 30)).cell? ⟨w1.heap.size, 0, none⟩ = some (.slice sa ar.length sc) := by rw [World.cell?_alloc_new w1]; rfl
  have hc2 := hc1.below hB3
  have hsv2 := hsv.below hB3
  have hR2 := hR1.bel hB3 (by omega)
  have hg2 := hg1.trans (Chg.of_bel (lo := w.heap.size + 1 + 1) (hi := w.heap.size + 1 + 1 + 1) hB3)
  clear hc1 hg1 hR0 hR1 hB3 hsv
  generalize hw2 : w1.alloc (.cells #[.slice sa ar.length sc] 30) = w2 at *
  go_wp2_with fail
  refine (world_c (w.heap.size + 1 + 1) n k1 _ _ _ ar w2 (by omega) (by omega) hdr (by omega) hc2 hsv2).mono ?_; rintro e w3 ⟨wa, wc, Z, tb, rfl, hwv, htl, hjl, hZ1, hZ4, k2, hk21, hk22, hc3, hg3⟩
  have hz3 : w2.heap.size ≤ w3.heap.size := hg3.size
  have hbs3 := hg3.cell (by omega) (by omega) hbs2
  have hR3 := hR2.chg hg3 (by omega)
  have hsv3 := hsv2.chg hg3 (by omega)
  have hg4 := hg2.trans hg3
  clear hbs2 hR2 hsv2 hg2 hg3 hc2
  have hB4 := Bel.alloc0 w3 (.cells #[.int .i64 (Z : Int), .slice wa tb.length wc] 58)
  have hs4 : (w3.alloc (.cells #[.int .i64 (Z : Int), .slice wa tb.length wc] 58)).heap.size = w3.heap.size + 1 := by simp
  have q0 : (w3.alloc (.cells #[.int .i64 (Z : Int), .slice wa tb.length wc] 58)).cell? ⟨w3.heap.size, 0, none⟩ = some (.int .i64 (Z : Int)) := by rw [World.cell?_alloc_new w3]; rfl
  have q1 : (w3.alloc (.cells #[.int .i64 (Z : Int), .slice wa tb.length wc] 58)).cell? ⟨w3.heap.size, 1, none⟩ = some (.slice wa tb.length wc) := by rw [World.cell?_alloc_new w3]; rfl
  replace hc3 := hc3.below hB4
  replace hsv3 := hsv3.below hB4
  replace hwv := hwv.below hB4
  replace hR3 := hR3.bel hB4 (by omega)
  replace hbs3 := hB4.at (by omega) hbs3
  replace hg4 := hg4.trans (Chg.of_bel (lo := w.heap.size + 1 + 1) (hi := w.heap.size + 1 + 1 + 1) hB4)
  clear hB4
  generalize hw4 : w3.alloc (.cells #[.int .i64 (Z : Int), .slice wa tb.length wc] 58) = w4 at *
  have hG1b : w.heap.size + 1 + 1 + 1 ≤ w1.heap.size := by omega
  have hG3b : w.heap.size + 1 + 1 + 1 ≤ w3.heap.size := by omega
  replace hsv3 := hsv3.mono (Nat.le_refl _) (show _ ≤ w4.heap.size by omega)
  replace hwv := hwv.mono (show w.heap.size + 1 + 1 + 1 ≤ _ by omega) (show _ ≤ w4.heap.size by omega)
  go_wp2_with fail
  clear hw2 hw4
  generalize w1.heap.size = G1 at *
  generalize w3.heap.size = G3 at *
  have hG1c : G1 < w4.heap.size := World.block_lt_of_cell? w4 ⟨G1, _, none⟩ hbs3
  have hG3c : G3 < w4.heap.size := World.block_lt_of_cell? w4 ⟨G3, _, none⟩ q0
  have hS0 : (w4.cell? ⟨G1, 0, none⟩ = some (.slice sa ar.length sc) ∧ (w4.cell? ⟨G3, 0, none⟩ = some (.int .i64 (Z : Int)) ∧ w4.cell? ⟨G3, 1, none⟩ = some (.slice wa tb.length wc))) := ⟨hbs3, q0, q1⟩
  have hdrew : ∀ (w' : World), (w'.cell? ⟨G1, 0, none⟩ = some (.slice sa ar.length sc) ∧ (w'.cell? ⟨G3, 0, none⟩ = some (.int .i64 (Z : Int)) ∧ w'.cell? ⟨G3, 1, none⟩ = some (.slice wa tb.length wc))) → (w'.drew.cell? ⟨G1, 0, none⟩ = some (.slice sa ar.length sc) ∧ (w'.drew.cell? ⟨G3, 0, none⟩ = some (.int .i64 (Z : Int)) ∧ w'.drew.cell? ⟨G3, 1, none⟩ = some (.slice wa tb.length wc))) := fun _ h => h
  have hsetS : ∀ (w' : World) (b o : Nat) (u : Value), b < w.heap.size + 1 + 1 + 1 → (w'.cell? ⟨G1, 0, none⟩ = some (.slice sa ar.length sc) ∧ (w'.cell? ⟨G3, 0, none⟩ = some (.int .i64 (Z : Int)) ∧ w'.cell? ⟨G3, 1, none⟩ = some (.slice wa tb.length wc))) →
      ((w'.setCell ⟨b, o, none⟩ u).cell? ⟨G1, 0, none⟩ = some (.slice sa ar.length sc) ∧ ((w'.setCell ⟨b, o, none⟩ u).cell? ⟨G3, 0, none⟩ = some (.int .i64 (Z : Int)) ∧ (w'.setCell ⟨b, o, none⟩ u).cell? ⟨G3, 1, none⟩ = some (.slice wa tb.length wc))) := fun w' b o u hlt h => by
    have e : ∀ (g j : Nat), w.heap.size + 1 + 1 + 1 ≤ g → (w'.setCell ⟨b, o, none⟩ u).cell? ⟨g, j, none⟩ = w'.cell? ⟨g, j, none⟩ := fun g j hg => by rw [World.cell?_setCell_other (h := by intro h; simp at h <;> omega)]
    rw [e _ _ hG1b, e _ _ hG3b, e _ _ hG3b]; exact h
  go_region_held3 (fun w' => w'.cell? ⟨G1, 0, none⟩ = some (.slice sa ar.length sc) ∧ (w'.cell? ⟨G3, 0, none⟩ = some (.int .i64 (Z : Int)) ∧ w'.cell? ⟨G3, 1, none⟩ = some (.slice wa tb.length wc)))
    (first | (with_reducible refine hdrew _ ?_; (repeat (with_reducible refine hsetS _ _ _ _ (by omega) ?_)); with_reducible exact hS0) | (with_reducible exact hS5) | (with_reducible exact hS6) | ((repeat (with_reducible refine hsetS _ _ _ _ (by omega) ?_)); with_reducible exact hS6))
    (first | (go_at_call 94; refine (env_c (w.heap.size + 1 + 1) n k3 Z _ _ (by omega) (by omega) (by omega) hc5).mono ?_; rintro e w6 ⟨aE, cE, env, rfl, hE, hlE, k4, hk41, hk42, hc6, hgy⟩; have hg6 := hg5.trans hgy; have hS6 := And.intro (hg6.cell hG1c (by omega) hbs3) (And.intro (hg6.cell hG3c (by omega) q0) (hg6.cell hG3c (by omega) q1)); have hR6 := hR3.chg hg6 (by omega); have hr0 := hR6.s0; have hra0 := hR6.a0; have hra1 := hR6.a1; have hf0 := hR6.fs; have hfa := hR6.fa) | (go_at_call 98; refine (clause_c (w.heap.size + 1 + 1) n k2 _ _ _ ar _ (by omega) (by omega) hdr (by omega) (hc3.below (Bel.drew0 _)) (hsv3.below (Bel.drew0 _))).mono ?_; rintro e w5 ⟨oT, tA, rfl, hA, hc9, hsh, k3, hk31, hk32, hc5, hgx⟩; obtain ⟨aA, cA, rfl⟩ := hA.form; have hlA : fineC tA := ⟨hc9, hsh⟩; have hg5 := (Chg.of_bel (lo := w.heap.size + 1 + 1) (hi := w.heap.size + 1 + 1 + 1) (Bel.drew0 w4)).trans hgx; have hS5 := And.intro (hg5.cell hG1c (by omega) hbs3) (And.intro (hg5.cell hG3c (by omega) q0) (hg5.cell hG3c (by omega) q1))) | fail)
  have hz5 : w4.heap.size ≤ w5.heap.size := hg5.size
  have hz6 : w5.heap.size ≤ w6.heap.size := hgy.size
  have hgF := hg4.trans hg6
  replace hsv3 := (hsv3.chg hg6 (by omega)).mono (Nat.le_refl _) (show _ ≤ w6.heap.size by omega)
  replace hwv := (hwv.chg hg6 (by omega)).mono (Nat.le_refl _) (show _ ≤ w6.heap.size by omega)
  have hA2 := ((hA.mono (show w.heap.size + 1 + 1 + 1 ≤ _ by show _ ≤ w4.heap.size + 1; omega) (Nat.le_refl _)).chg hgy (by omega)).mono (Nat.le_refl _) (show _ ≤ w6.heap.size by omega)
  have hE2 := hE.mono (show w.heap.size + 1 + 1 + 1 ≤ _ by omega) (Nat.le_refl _)
  obtain ⟨NE, hNE⟩ : ∃ x, x = ((w6.setCell ⟨w.heap.size, 0, none⟩ (.slice sa ar.length sc)).setCell ⟨w.heap.size + 1, 0, none⟩ (.int .i64 (Z : Int))).setCell ⟨w.heap.size + 1, 1, none⟩ (.slice wa tb.length wc) := ⟨_, rfl⟩
  have hEQ : ∀ b, w.heap.size + 1 + 1 + 1 ≤ b → NE.heap[b]? = w6.heap[b]? := fun b hb => by
    rw [hNE]; rw [Below.heap_setCell _ _ _ b (by show _ ≠ _; simp only; omega)]; rw [Below.heap_setCell _ _ _ b (by show _ ≠ _; simp only; omega)]; rw [Below.heap_setCell _ _ _ b (by show _ ≠ _; simp only; omega)]
  have hBF : Bel w NE := by rw [hNE]; exact ((((hgF.bel hB2 (by omega)).set (p := ⟨w.heap.size, 0, none⟩) (by show w.heap.size ≤ _; simp only; omega) (.slice sa ar.length sc)).set (p := ⟨w.heap.size + 1, 0, none⟩) (by show w.heap.size ≤ _; simp only; omega) (.int .i64 (Z : Int))).set (p := ⟨w.heap.size + 1, 1, none⟩) (by show w.heap.size ≤ _; simp only; omega) (.slice wa tb.length wc))
  have hsz : NE.heap.size = w6.heap.size := by rw [hNE]; simp
  have c00 : NE.cell? ⟨w.heap.size, 0, none⟩ = some (.slice sa ar.length sc) := by rw [hNE]; simp [go_sem, hr0]
  have c11 : NE.cell? ⟨w.heap.size + 1, 0, none⟩ = some (.int .i64 (Z : Int)) := by rw [hNE]; simp [go_sem, hra0]
  have c22 : NE.cell? ⟨w.heap.size + 1, 1, none⟩ = some (.slice wa tb.length wc) := by rw [hNE]; simp [go_sem, hra1]
  rw [← hNE]
  have g1 := (hsv3.same (w' := NE) (fun b h1 _ _ => hEQ b h1)).mono (show w.heap.size ≤ w.heap.size + 1 + 1 + 1 by omega) (show w6.heap.size ≤ NE.heap.size from Nat.le_of_eq hsz.symm)
  have g2 := (hwv.same (w' := NE) (fun b h1 _ _ => hEQ b h1)).mono (show w.heap.size ≤ w.heap.size + 1 + 1 + 1 by omega) (show w6.heap.size ≤ NE.heap.size from Nat.le_of_eq hsz.symm)
  have g3 := (hA2.same (w' := NE) (fun b h1 _ _ => hEQ b h1)).mono (show w.heap.size ≤ w.heap.size + 1 + 1 + 1 by omega) (show w6.heap.size ≤ NE.heap.size from Nat.le_of_eq hsz.symm)
  have g4 := (hE2.same (w' := NE) (fun b h1 _ _ => hEQ b h1)).mono (show w.heap.size ≤ w.heap.size + 1 + 1 + 1 by omega) (show w6.heap.size ≤ NE.heap.size from Nat.le_of_eq hsz.symm)
  clear hEQ hNE hr0 hra0 hra1
  go_wp2_with fail
  exact bodyPost_ret (v := .tuple #[.agg #[.slice sa ar.length sc], .agg #[.int .i64 (Z : Int), .slice wa tb.length wc], .slice aA tA.length cA, .slice aE env.length cE]) (by simp [results, Try.results49, go_sem, c00, c11, c22, hlE]) rfl ⟨_, _, _, _, ar, Z, tb, tA, env, rfl, hdr, g1, g2, htl, hjl, g3, hlA, g4, hlE, hBF⟩
end Go.Proofs.Yteegjnobmbcjiaa
end
section
/- Chapter 5, the program: HoldsAt. -/
namespace Go.Proofs.Yteegjnobmbcjiaa
open Go.RowKit

set_option maxRecDepth 100000 in
set_option maxHeartbeats 1000000 in
theorem iHoldsAt_t {l h l' h' l2 h2 l3 h3 : Nat} {v u vc ve : Value} {ar : List Int} {sz : Int} {tb : List (List Int)} {c : List Lt} {env : List Int} {w : World} (ha : ar.length ≤ 1048576) (hv : SlI l h w v ar) (hx : short tb) (hu : SlS l' h' w u tb) (hcs : sumC c ≤ 1048576) (hc : SlC l2 h2 w vc c) (hel : env.length ≤ 1048576) (he : SlI l3 h3 w ve env) :
    Calls Try.prog 36 #[.agg #[v], .agg #[.int .i64 sz, u], vc, ve] w (RetV w (.tuple #[.bool (holdsAns ar sz tb c env), .bool (holdsOk ar sz tb c env)])) := by
  unfold holdsAns holdsOk
  have HB : Bel w ((w.alloc (.cells #[v] 30)).alloc (.cells #[.int .i64 sz, u] 58)) := Bel.alloc2 _ _ _
  have HK : Hid (∀ w', Bel ((w.alloc (.cells #[v] 30)).alloc (.cells #[.int .i64 sz, u] 58)) w' → w'.cell? ⟨w.heap.size, 0, none⟩ = some v ∧ w'.cell? ⟨w.heap.size + 1, 0, none⟩ = some (.int .i64 sz) ∧ w'.cell? ⟨w.heap.size + 1, 1, none⟩ = some u) := fun w' hb =>
    ⟨hb.at (by simp; omega) (by simp [go_sem]), hb.at (by simp) (by simp [go_sem]), hb.at (by simp) (by simp [go_sem])⟩
  cases hg : goodWorld ar sz tb with
  | false =>
    rw [Bool.false_and, if_neg (by simp)]
    have HC := Lib.hid (fun (w' : World) (hb : Bel w w') => iGoodWorld_v hg ha (hv.below hb) hx (hu.below hb)); clear hg
    go_enter Try.func36, Try.ntmps36
    go_wp2_with fail
    refine (HC.out _ HB).mono ?_; rintro e w1 ⟨rfl, hb1⟩
    go_wp2_with fail
    go_ret2
    exact ⟨rfl, HB.step hb1⟩
  | true =>
    rw [Bool.true_and]
    obtain ⟨hgs, hiw⟩ := goodWorld_iff.1 hg
    obtain ⟨z1, z3, _, _⟩ := isWorld_iff.1 hiw
    have HC := Lib.hid (fun (w' : World) (hb : Bel w w') => iGoodWorld_v hg ha (hv.below hb) hx (hu.below hb)); clear hg
    cases hq : okLits ar c with
    | false =>
      rw [Bool.false_and, if_neg (by simp)]
      have HT := Lib.hid (fun (w' : World) (hb : Bel w w') => iGoodClause_v (q := false) (by unfold goodClause; rw [hgs, hq]; rfl) ha (hv.below hb) hcs (hc.below hb)); clear hq
      go_enter Try.func36, Try.ntmps36
      go_wp2_with fail
      refine (HC.out _ HB).mono ?_; rintro e w1 ⟨rfl, hb1⟩
      obtain ⟨x0, x1, x2⟩ := HK.out _ hb1
      go_wp2_with fail
      refine (HT.out _ (HB.step hb1)).mono ?_; rintro e w2 ⟨rfl, hb2⟩
      go_wp2_with fail
      go_ret2
      exact ⟨rfl, (HB.step hb1).step hb2⟩
    | true =>
      rw [Bool.true_and]
      have HT := Lib.hid (fun (w' : World) (hb : Bel w w') => iGoodClause_v (q := true) (by unfold goodClause; rw [hgs, hq]; rfl) ha (hv.below hb) hcs (hc.below hb))
      cases hp : okEnv sz env with
      | false =>
        rw [if_neg (by simp)]
        have HE := Lib.hid (fun (w' : World) (hb : Bel w w') => goodEnv_v l3 h3 u ve sz env false w' hp z1 z3 hel (he.below hb))
        clear hq hp
        go_enter Try.func36, Try.ntmps36
        go_wp2_with fail
        refine (HC.out _ HB).mono ?_; rintro e w1 ⟨rfl, hb1⟩
        obtain ⟨x0, x1, x2⟩ := HK.out _ hb1
        go_wp2_with fail
        refine (HT.out _ (HB.step hb1)).mono ?_; rintro e w2 ⟨rfl, hb2⟩
        obtain ⟨y0, y1, y2⟩ := HK.out _ (hb1.step hb2)
        go_wp2_with fail
        refine (HE.out _ ((HB.step hb1).step hb2)).mono ?_; rintro e w3 ⟨rfl, hb3⟩
        go_wp2_with fail
        go_ret2
        exact ⟨rfl, ((HB.step hb1).step hb2).step hb3⟩
      | true =>
        rw [if_pos rfl]
        have HE := Lib.hid (fun (w' : World) (hb : Bel w w') => goodEnv_v l3 h3 u ve sz env true w' hp z1 z3 hel (he.below hb))
        have h8 := (okLits_iff.1 hq).1
        have HOK := Lib.hid (fun k hk => okLits_get (okLits_iff.1 hq).2 k hk)
        have HV := Lib.hid (fun (p : Bool) (xl xr : List Int) (u1 u2 : Value) (w' : World) (o1 : okTerm ar xl = true) (o2 : okTerm ar xr = true) (hb : Bel w w') (s1 : SlI l2 h2 w' u1 xl) (s2 : SlI l2 h2 w' u2 xr) => litHolds_c l h l' h' l2 h2 l3 h3 v u u1 u2 ve ar sz tb p xl xr env w' hgs hiw hp o1 o2 (hv.below hb) (hu.below hb) s1 s2 (he.below hb))
        obtain ⟨ac, kc, rfl⟩ := hc.form
        have HS1 := Lib.hid (fun k hk h => any_split c (litH ar sz tb env) k hk h)
        have HS2 := Lib.hid (fun k hk h => any_true c (litH ar sz tb env) k hk h)
        unfold clH
        generalize litH ar sz tb env = LH at *
        clear hq hp
        go_enter Try.func36, Try.ntmps36
        go_wp2_with fail
        refine (HC.out _ HB).mono ?_; rintro e w1 ⟨rfl, hb1⟩
        obtain ⟨x0, x1, x2⟩ := HK.out _ hb1
        go_wp2_with fail
        refine (HT.out _ (HB.step hb1)).mono ?_; rintro e w2 ⟨rfl, hb2⟩
        obtain ⟨y0, y1, y2⟩ := HK.out _ (hb1.step hb2)
        go_wp2_with fail
        refine (HE.out _ ((HB.step hb1).step hb2)).mono ?_; rintro e w3 ⟨rfl, hb3⟩
        obtain ⟨v0, v1, v2⟩ := HK.out _ ((hb1.step hb2).step hb3)
        go_wp2_with fail
        have HW := ((HB.step hb1).step hb2).step hb3
        have HKW := Lib.hid (fun w' (hb : Bel w3 w') => HK.out w' (((hb1.step hb2).step hb3).step hb))
        clear hb1 hb2 hb3 x0 x1 x2 y0 y1 y2 HC HT HE HK
        go_loopw [30] (fun i wr => ∃ k : Nat, k ≤ c.length ∧ i = .int .i64 k ∧ (c.take k).any LH = false ∧ Bel w3 wr) (fun i _ => c.length - (intOf i).toNat)
        case atStart => exact ⟨0, Nat.zero_le _, rfl, by simp, Bel.rfl' _⟩
        case round =>
          obtain ⟨k, hk, rfl, hany, hb⟩ := hrel
          by_cases hlt : k < c.length
          · obtain ⟨b, off, u1, u2, rfl, hbs, c1, c2, c3, s1, s2⟩ := hc.at (HW.step hb) k hlt
            obtain ⟨o1, o2⟩ := HOK.out k hlt
            have hin1 : (k : Int) < c.length := by omega
            have HS := HS1.out k hlt hany
            have HT := HS2.out k hlt
            clear HS1 HS2 HOK hany
            generalize c.getD k lt0 = x at *
            obtain ⟨p, xl, xr⟩ := x
            simp only at *
            obtain ⟨a1, d1, rfl⟩ := s1.form
            obtain ⟨a2, d2, rfl⟩ := s2.form
            have hBx := hb.alloc (.cells #[.bool p, .slice a1 xl.length d1, .slice a2 xr.length d2] 91)
            obtain ⟨f0, f1, f2⟩ := HKW.out _ hBx
            have HC := Lib.hid (HV.out p xl xr _ _ _ o1 o2 (HW.step hBx) (s1.alloc _) (s2.alloc _))
            clear s1 s2 o1 o2 HV
            cases hq : LH (p, xl, xr) with
            | false =>
              rw [hq] at HS HC
              go_wp2_with fail
              refine HC.out.mono ?_; rintro e w9 ⟨rfl, hb9⟩
              go_wp2_with fail
              go_roundw
              case rel => exact ⟨k+1, by omega, by go_num, HS, hBx.step hb9⟩
              case measure => simp [intOf]; omega
            | true =>
              rw [hq] at HC
              go_wp2_with fail
              refine HC.out.mono ?_; rintro e w9 ⟨rfl, hb9⟩
              go_wp2_with fail
              go_ret2
              exact ⟨by rw [HT hq]; rfl, (HW.step hBx).step hb9⟩
          · obtain rfl : k = c.length := by omega
            rw [List.take_length] at hany
            have HY := Lib.hid hany
            clear hany
            go_wp2_with fail
            go_ret2
            exact ⟨by rw [HY.out]; rfl, HW.step hb⟩
end Go.Proofs.Yteegjnobmbcjiaa
end
section
/- Chapter 5, the reference: FalseAt. -/
namespace Go.Proofs.Yteegjnobmbcjiaa
open Go.RowKit

theorem SlS.in' {lo hi : Nat} {w : World} {v : Value} {xss : List (List Int)} (h : SlS lo hi w v xss) : SlS 0 w.heap.size w v xss := by
  obtain ⟨ad, cap, rfl, hc, hm, hr⟩ := h
  refine ⟨ad, cap, rfl, hc, hm, fun hp => ?_⟩
  obtain ⟨b, off, e, a1, a2, a3⟩ := hr hp
  refine ⟨b, off, e, Nat.zero_le _, ?_, fun j hj => ?_⟩
  · obtain ⟨u, h1, _⟩ := a3 0 hp; exact World.block_lt_of_cell? w ⟨b, off + 0, none⟩ h1
  · obtain ⟨u, h1, h2⟩ := a3 j hj; exact ⟨u, h1, h2.in'⟩
theorem SlC.in' {lo hi : Nat} {w : World} {v : Value} {c : List Lt} (h : SlC lo hi w v c) : SlC 0 w.heap.size w v c := by
  obtain ⟨ad, cap, rfl, hc, hm, hr⟩ := h
  refine ⟨ad, cap, rfl, hc, hm, fun hp => ?_⟩
  obtain ⟨b, off, e, a1, a2, a3⟩ := hr hp
  refine ⟨b, off, e, Nat.zero_le _, ?_, fun j hj => ?_⟩
  · obtain ⟨u1, u2, h1, _⟩ := a3 0 hp; exact World.block_lt_of_cell? w ⟨b, off + 0 * 3, none⟩ h1
  · obtain ⟨u1, u2, h1, h2, h3, h4, h5⟩ := a3 j hj; exact ⟨u1, u2, h1, h2, h3, h4.in', h5.in'⟩
theorem few_low {ar : List Int} {c : List Lt} (h : okLits ar c = true) : ∀ t ∈ flatC c, ∀ k, k < t.length → -12 ≤ t.getD k 0 := fun _ ht => low_memC (fun _ hn => ok_low (flat_ok (okLits_iff.1 h).2 ht) hn)
end Go.Proofs.Yteegjnobmbcjiaa
end
section
/- Chapter 5, the reference: HoldsIn. -/
namespace Go.Proofs.Yteegjnobmbcjiaa
open Go.RowKit

def heldC (ar : List Int) (sz : Int) (tb : List (List Int)) (c : List Lt) : Bool := !(lwC ar sz tb c).isSome
def heldAns (ar : List Int) (sz : Int) (tb : List (List Int)) (c : List Lt) : Bool := if falseOk ar sz tb c then heldC ar sz tb c else false
end Go.Proofs.Yteegjnobmbcjiaa
end
section
/- SameUpTo: the program's. -/
namespace Go.Proofs.Yteegjnobmbcjiaa
open Go.RowKit

theorem SlS.one {w : World} {va : Value} {a : List Int} {lo hi : Nat} (h : SlI lo hi w va a) (T : TypeId) : SlS 0 (w.alloc (.cells #[va] T)).heap.size (w.alloc (.cells #[va] T)) (.slice (some ⟨w.heap.size, 0, none⟩) 1 1) [a] := by
  refine ⟨_, 1, rfl, Nat.le_refl _, ⟨by unfold maxLen; omega, fun h => by simp at h⟩, fun _ => ⟨w.heap.size, 0, rfl, Nat.zero_le _, by simp, fun j hj => ?_⟩⟩
  obtain rfl : j = 0 := by simp at hj; omega
  refine ⟨va, ?_, ?_⟩
  · rw [World.cell?_alloc_new w]; rfl
  · have := (h.in').alloc (.cells #[va] T)
    exact this.mono (Nat.le_refl _) (by simp)
theorem SlS.one' {w : World} {va : Value} {a : List Int} {lo hi B : Nat} (h : SlI lo hi w va a) (T : TypeId) (hB : B = w.heap.size) : SlS 0 (w.alloc (.cells #[va] T)).heap.size (w.alloc (.cells #[va] T)) (.slice (some ⟨B, 0, none⟩) 1 1) [a] := hB ▸ SlS.one h T
theorem short_one {a : List Int} (h : a.length ≤ 1048576) : short [a] := by
  refine ⟨by simp, fun j hj => ?_⟩
  obtain rfl : j = 0 := by simp at hj; omega
  simpa [List.getD] using h
def sameOk (ar a b : List Int) : Bool := renameOk ar [a] && renameOk ar [b]
def sameAns (ar a b : List Int) : Bool := sameOk ar a b && decide (renT [] a = renT [] b)
theorem rename_one {ar a : List Int} (h : renameOk ar [a] = true) : renameAns ar [a] = [renT [] a] := by rw [renameAns_yes h]; simp [renS]
theorem renameOk_one {ar a : List Int} : renameOk ar [a] = goodTerm ar a := by simp [renameOk, goodTerm]

end Go.Proofs.Yteegjnobmbcjiaa
end
