/- Texts merged, part 10. -/
import Derived.Test.YtikllmdmifecpaaGreatDoorMgResolve9
section
/- Match: a match makes the pattern the term; composition is one substitution behind the other. -/
namespace Go.Proofs.YtikllmdmifecpaaGreatDoor
open Go.RowKit Go.Maps

def oneG (G : Nat → List Int) (n : Int) : List Int := if n < 0 then G (-1 - n).toNat else [n]
theorem mg_app {ar t : List Int} (ht : okTerm ar t = true) (p0 : List Int) : ∀ (k i j : Nat) (F G : Nat → List Int), k = p0.length - i → i ≤ p0.length → Pair2 ar p0 t i j → (∀ v, F v ≠ [] → okTerm ar (F v) = true) → matchGo ar t (p0.drop i) j F = some G →
    (∀ v, F v ≠ [] → G v = F v) ∧ (∀ v, G v ≠ [] → okTerm ar (G v) = true) ∧ (∀ n ∈ p0.drop i, n < 0 → G (-1 - n).toNat ≠ []) ∧ (p0.drop i).flatMap (oneG G) = t.drop j := by
  intro k
  induction k with
  | zero =>
    intro i j F G hk hi hP hF h
    have hd : p0.drop i = [] := List.drop_eq_nil_of_le (by omega)
    obtain ⟨m, h1, h2⟩ := hP
    rw [hd] at h h1 ⊢
    rw [matchGo] at h
    simp at h
    subst h
    refine ⟨fun _ _ => rfl, hF, by simp, ?_⟩
    cases m with
    | zero => rw [endGo_zero] at h2; simp at h2; rw [h2, List.drop_length]; rfl
    | succ m => rw [endGo_nil] at h1; simp at h1
  | succ k ih =>
    intro i j F G hk hi hP hF h
    have hlt : i < p0.length := by omega
    have hj := hP.lt hlt
    rw [drop_cons p0 i hlt] at h ⊢
    by_cases hn : 0 ≤ p0.getD i 0
    · by_cases he : t.getD j 0 = p0.getD i 0
      · rw [mg_sym hn he] at h
        obtain ⟨a1, a2, a3, a4⟩ := ih (i+1) (j+1) F G (by omega) (by omega) (hP.sym hlt he) hF h
        refine ⟨a1, a2, fun n hm hl => ?_, ?_⟩
        · rcases List.mem_cons.1 hm with rfl | hm
          · omega
          · exact a3 n hm hl
        · rw [List.flatMap_cons, a4, drop_cons t j hj, he]
          unfold oneG
          rw [if_neg (by omega)]
          rfl
      · rw [mg_symno hn he] at h; simp at h
    · obtain ⟨e, h1, h2, h3, h4⟩ := hP.var hlt (by omega)
      by_cases hc : F (-1 - p0.getD i 0).toNat = [] ∨ F (-1 - p0.getD i 0).toNat = partOf t j e
      · rw [mg_var hn h1 hc] at h
        have hpl := partOf_len t j e h3
        have hpne : partOf t j e ≠ [] := by intro h; rw [h] at hpl; simp at hpl; omega
        have hpo := partOf_ok ar t j e ht hj h1
        obtain ⟨a1, a2, a3, a4⟩ := ih (i+1) e _ G (by omega) (by omega) h4 (fun v hv => by
          by_cases e' : v = (-1 - p0.getD i 0).toNat
          · rw [e', upd_same]; exact hpo
          · rw [upd_other _ _ e'] at hv ⊢; exact hF v hv) h
        have hG : G (-1 - p0.getD i 0).toNat = partOf t j e := by
          have := a1 (-1 - p0.getD i 0).toNat (by rw [upd_same]; exact hpne)
          rw [upd_same] at this
          exact this
        refine ⟨fun v hv => ?_, a2, fun n hm hl => ?_, ?_⟩
        · by_cases e' : v = (-1 - p0.getD i 0).toNat
          · rw [e', hG]
            rcases hc with hc | hc
            · rw [e'] at hv; exact absurd hc hv
            · exact hc.symm
          · have := a1 v (by rw [upd_other _ _ e']; exact hv)
            rw [upd_other _ _ e'] at this
            exact this
        · rcases List.mem_cons.1 hm with rfl | hm
          · rw [hG]; exact hpne
          · exact a3 n hm hl
        · rw [List.flatMap_cons, a4]
          unfold oneG
          rw [if_pos (by omega), hG]
          unfold partOf
          have := List.take_append_drop (e - j) (t.drop j)
          rw [List.drop_drop, show j + (e - j) = e by omega] at this
          exact this
      · rw [mg_varno hn h1 hc] at h; simp at h
theorem substL_get (F : Nat → List Int) (v : Nat) (hv : v < 12) : (substL F).getD v [] = stayF F v := by simp [substL, List.getD, hv]
theorem substL_len (F : Nat → List Int) : (substL F).length = 12 := by simp [substL]
theorem one1_sub {F : Nat → List Int} {n : Int} (h12 : -12 ≤ n) (hF : n < 0 → F (-1 - n).toNat ≠ []) : one1 (substL F) n = oneG F n := by
  unfold oneG
  by_cases hn : n < 0
  · rw [if_pos hn]
    have hv : (-1 - n).toNat < 12 := by omega
    have hvn : (-1 - (((-1 - n).toNat : Nat) : Int)) = n := by omega
    by_cases hs : F (-1 - n).toNat = [-1 - (((-1 - n).toNat : Nat) : Int)]
    · have h0 : stayF F (-1 - n).toNat = [] := by unfold stayF; rw [if_pos hs]
      rw [one1_free (by rw [substL_get F _ hv, h0]; simp), hs, hvn]
    · have h0 : stayF F (-1 - n).toNat = F (-1 - n).toNat := by unfold stayF; rw [if_neg hs]
      rw [one1_var hn (by rw [substL_get F _ hv, h0]; exact List.length_pos_iff.2 (hF hn)), substL_get F _ hv, h0]
  · rw [if_neg hn, one1_sym hn]
theorem good_substL {ar : List Int} {F : Nat → List Int} (hg : goodSign ar = true) (hF : ∀ v, v < 12 → F v ≠ [] → okTerm ar (F v) = true) : goodSubst ar (substL F) = true := by
  refine goodSubst_iff.2 ⟨hg, substL_len F, fun t ht => ?_⟩
  unfold substL at ht
  obtain ⟨v, hv, rfl⟩ := List.mem_map.1 ht
  rw [List.mem_range] at hv
  unfold okEmpty stayF
  split
  · rfl
  · by_cases e : F v = []
    · rw [e]; rfl
    · rw [hF v hv e, Bool.or_true]
theorem match_app {ar p t : List Int} (h : matchOk ar p t = true) : applyOk ar (matchAns ar p t) p = true ∧ applyAns ar (matchAns ar p t) p = t := by
  have h0 := h
  unfold matchOk at h0
  simp only [Bool.and_eq_true] at h0
  obtain ⟨hk, hr⟩ := h0
  obtain ⟨G, hG⟩ := Option.isSome_iff_exists.1 hr
  simp only [matchOk0, Bool.and_eq_true] at hk
  obtain ⟨hg, hp⟩ := goodTerm_iff.1 hk.1
  have hans := (match_yes (by simp [matchOk0, hk.1, hk.2]) hG).1
  obtain ⟨a1, a2, a3, a4⟩ := mg_app hk.2 p p.length 0 0 (fun _ => []) G (by omega) (by omega) (Pair2.start hp hk.2) (fun _ h => absurd rfl h) (by simpa [matchR] using hG)
  rw [List.drop_zero, List.drop_zero] at *
  have happ : appT (substL G) p = t := by
    rw [← a4]
    unfold appT
    have : ∀ (q : List Int), (∀ n ∈ q, n ∈ p) → q.flatMap (one1 (substL G)) = q.flatMap (oneG G) := by
      intro q
      induction q with
      | nil => intro _; rfl
      | cons n q ih =>
        intro hq
        rw [List.flatMap_cons, List.flatMap_cons, ih (fun m hm => hq m (List.mem_cons_of_mem _ hm))]
        have hm := hq n List.mem_cons_self
        obtain ⟨i, hi, hin⟩ := List.getElem_of_mem hm
        have hl := okTerm_low hp i hi
        rw [show p.getD i 0 = n from by simp [List.getD, hi, hin]] at hl
        rw [one1_sub hl (fun hn => a3 n hm hn)]
    exact this p (fun _ h => h)
  have hok : applyOk ar (matchAns ar p t) p = true := by
    unfold applyOk
    rw [hans, good_substL hg (fun v _ hv => a2 v hv), hp, (app40_yes (by rw [happ]; have := ((okTerm_iff _ _).1 hk.2).2.1; omega)).2]
    rfl
  refine ⟨hok, ?_⟩
  unfold applyAns
  rw [if_pos hok, hans, happ]
theorem applyOk_iff {ar : List Int} {b : List (List Int)} {t : List Int} : applyOk ar b t = true ↔ goodSubst ar b = true ∧ okTerm ar t = true ∧ app40ok b t = true := by
  unfold applyOk
  simp only [Bool.and_eq_true]
  exact ⟨fun h => ⟨h.1.1, h.1.2, h.2⟩, fun h => ⟨⟨h.1, h.2.1⟩, h.2.2⟩⟩
theorem compose_app {ar : List Int} {a b : List (List Int)} {z : List Int} (hc : composeOk ar a b = true) (h1 : applyOk ar a z = true) (h2 : applyOk ar b (applyAns ar a z) = true) :
    applyOk ar (composeAns ar a b) z = true ∧ applyAns ar (composeAns ar a b) z = applyAns ar b (applyAns ar a z) := by
  have hc0 := hc
  unfold composeOk at hc0
  simp only [Bool.and_eq_true] at hc0
  obtain ⟨⟨hga, hgb⟩, hall⟩ := hc0
  obtain ⟨-, hz, hz40⟩ := applyOk_iff.1 h1
  obtain ⟨-, hx, hx40⟩ := applyOk_iff.1 h2
  have hg := (goodSubst_iff.1 hga).1
  rw [applyAns_yes h1] at *
  have hF : ∀ v, v < 12 → compF a b v ≠ [] → okTerm ar (compF a b v) = true := fun v hv _ => by
    have := app_ok hgb (compT_ok hga v hv)
    unfold compF
    rw [this]
    rw [List.all_eq_true] at hall
    exact hall v (by simpa using hv)
  have happ : appT (substL (compF a b)) z = appT b (appT a z) := by
    have : ∀ (q : List Int), (∀ n ∈ q, n ∈ z) → appT (substL (compF a b)) q = appT b (appT a q) := by
      intro q
      induction q with
      | nil => intro _; rfl
      | cons n q ih =>
        intro hq
        have ih2 := ih (fun m hm => hq m (List.mem_cons_of_mem _ hm))
        unfold appT at ih2 ⊢
        rw [List.flatMap_cons, List.flatMap_cons, List.flatMap_append, ih2]
        congr 1
        have hm := hq n List.mem_cons_self
        obtain ⟨i, hi, hin⟩ := List.getElem_of_mem hm
        have hl := okTerm_low hz i hi
        rw [show z.getD i 0 = n from by simp [List.getD, hi, hin]] at hl
        rw [one1_sub hl (fun hn => by
          have hv : (-1 - n).toNat < 12 := by omega
          have := ((okTerm_iff _ _).1 (show okTerm ar (appT b (compT a (-1 - n).toNat)) = true from by
            have h := app_ok hgb (compT_ok hga _ hv)
            rw [h]
            rw [List.all_eq_true] at hall
            exact hall _ (by simpa using hv))).1
          unfold compF
          intro h
          rw [h] at this; simp at this)]
        unfold oneG
        by_cases hn : n < 0
        · rw [if_pos hn]
          unfold compF compT
          by_cases hp : 0 < (a.getD (-1 - n).toNat []).length
          · rw [if_pos hp, one1_var hn hp]; rfl
          · rw [if_neg hp, one1_free hp, show (-1 - (((-1 - n).toNat : Nat) : Int)) = n by omega]; rfl
        · rw [if_neg hn, one1_sym hn]
          simp [one1_sym hn]
    exact this z (fun _ h => h)
  have hok : applyOk ar (composeAns ar a b) z = true := by
    rw [composeAns_yes hc]
    refine applyOk_iff.2 ⟨good_substL hg hF, hz, ?_⟩
    unfold app40ok at hx40 ⊢
    rw [happ]; exact hx40
  refine ⟨hok, ?_⟩
  rw [applyAns_yes hok, applyAns_yes h2, composeAns_yes hc, happ]
end Go.Proofs.YtikllmdmifecpaaGreatDoor
end
section
/- Unify: what is found makes both terms one, once and for all, and whatever else does so goes on from it (Robinson). -/
namespace Go.Proofs.YtikllmdmifecpaaGreatDoor
open Go.RowKit Go.Maps

theorem ug_inv {ar a0 b0 : List Int} : ∀ (k : Nat) (x y : List Int) (F G : Nat → List Int), UInv ar a0 b0 x y F → uniGo ar k x y F = some G → ∃ z, UInv ar a0 b0 z z G := by
  intro k
  induction k with
  | zero => intro x y F G h e; simp [uniGo] at e
  | succ k ih =>
    intro x y F G h e
    by_cases h1 : x = y
    · rw [ug_same h1] at e
      simp at e
      subst h1
      rw [← e]; exact ⟨x, h⟩
    · by_cases h2 : badU ar x y
      · rw [ug_bad h1 h2] at e; simp at e
      · by_cases h3 : longU ar x y
        · rw [ug_long h1 h2 h3] at e; simp at e
        · rw [ug_next h1 h2 h3] at e
          exact ih _ _ _ _ ((uok h h1 h2).next h3) e
theorem unify_inv {ar a b : List Int} (h : unifyOk ar a b = true) : ∃ G z, uniR ar a b = some G ∧ UInv ar a b z z G ∧ unifyAns ar a b = rawL G ∧ goodSign ar = true ∧ okTerm ar a = true ∧ okTerm ar b = true := by
  have h0 := h
  unfold unifyOk at h0
  simp only [Bool.and_eq_true] at h0
  obtain ⟨hk, hr⟩ := h0
  obtain ⟨G, hG⟩ := Option.isSome_iff_exists.1 hr
  have hk2 := hk
  simp only [uniOk0, Bool.and_eq_true] at hk2
  obtain ⟨hg, hp⟩ := goodTerm_iff.1 hk2.1
  obtain ⟨z, hz⟩ := ug_inv 13 a b _ G (UInv.start hp hk2.2) (by simpa [uniR] using hG)
  exact ⟨G, z, hG, hz, by rw [(unify_yes hk hG).1, hz.raw], hg, hp, hk2.2⟩
theorem good_raw {ar a0 b0 x y : List Int} {F : Nat → List Int} (hg : goodSign ar = true) (h : UInv ar a0 b0 x y F) : goodSubst ar (rawL F) = true := by
  rw [h.raw]; exact good_substL hg fun v _ => h.okF v
theorem unify_unifies {ar a b : List Int} (h : unifyOk ar a b = true) : applyOk ar (unifyAns ar a b) a = true ∧ applyOk ar (unifyAns ar a b) b = true ∧ unifAns ar (unifyAns ar a b) a b = true := by
  obtain ⟨G, z, hG, hz, hans, hg, ha, hb⟩ := unify_inv h
  have h40 := (okTerm_seq.1 hz.okx).1
  have h1 : applyOk ar (rawL G) a = true := applyOk_iff.2 ⟨good_raw hg hz, ha, (app40_yes (by rw [← hz.appx]; omega)).2⟩
  have h2 : applyOk ar (rawL G) b = true := applyOk_iff.2 ⟨good_raw hg hz, hb, (app40_yes (by rw [← hz.appy]; omega)).2⟩
  rw [hans]
  refine ⟨h1, h2, ?_⟩
  unfold unifAns
  rw [h1, h2, applyAns_yes h1, applyAns_yes h2, ← hz.appx, ← hz.appy]
  simp
theorem app_fixed {G : Nat → List Int} (hlow : ∀ v, 12 ≤ v → G v = []) : ∀ {t : List Int}, (∀ m ∈ t, m < 0 → G (-1 - m).toNat = []) → appT (rawL G) t = t
  | [], _ => rfl
  | m :: t, h => by
    have ih := app_fixed hlow (t := t) (fun x hx => h x (List.mem_cons_of_mem _ hx))
    unfold appT at ih ⊢
    rw [List.flatMap_cons, ih]
    by_cases hm : m < 0
    · rw [one1_free (by rw [rawL_getA hlow, h m List.mem_cons_self hm]; simp)]; rfl
    · rw [one1_sym hm]; rfl
theorem unify_twice {ar a b : List Int} (h : unifyOk ar a b = true) : composeOk ar (unifyAns ar a b) (unifyAns ar a b) = true ∧ composeAns ar (unifyAns ar a b) (unifyAns ar a b) = unifyAns ar a b := by
  obtain ⟨G, z, hG, hz, hans, hg, ha, hb⟩ := unify_inv h
  rw [hans]
  have hgs := good_raw hg hz
  have hcf : ∀ v, v < 12 → compF (rawL G) (rawL G) v = if G v = [] then [-1 - (v : Int)] else G v := by
    intro v hv
    unfold compF
    by_cases e : G v = []
    · rw [if_pos e, compT_zero (by rw [rawL_get G v hv, e]; simp)]
      exact app_fixed hz.low (fun m hm h0 => by simp at hm; rw [show (-1 - m).toNat = v by omega]; exact e)
    · rw [if_neg e, compT_pos (by rw [rawL_get G v hv]; exact List.length_pos_iff.2 e), rawL_get G v hv]
      refine app_fixed hz.low (fun m hm h0 => ?_)
      rcases Classical.em (G (-1 - m).toNat = []) with h1 | h1
      · exact h1
      · have hin : m ∈ z := by rcases hz.inf v e with h2 | h2 <;> exact h2.subset hm
        exact absurd (by rw [show (-1 - (((-1 - m).toNat : Nat) : Int)) = m by omega]; exact hin) (hz.notx _ h1)
  have hok : composeOk ar (rawL G) (rawL G) = true := by
    unfold composeOk
    rw [hgs, Bool.true_and, Bool.true_and, List.all_eq_true]
    intro v hv
    rw [List.mem_range] at hv
    refine (app40_yes ?_).2
    show ¬ 40 < (compF (rawL G) (rawL G) v).length
    rw [hcf v hv]
    have := hz.len40 v
    split
    · simp
    · omega
  refine ⟨hok, ?_⟩
  rw [composeAns_yes hok]
  conv => rhs; rw [hz.raw]
  unfold substL
  apply List.map_congr_left
  intro v hv
  rw [List.mem_range] at hv
  unfold stayF
  rw [hcf v hv]
  by_cases e : G v = []
  · rw [if_pos e, if_pos rfl, e]; simp
  · rw [if_neg e]
/-- Robinson. -/
theorem appT_put {V : List (List Int)} {n : Int} {u : List Int} (h : one1 V n = appT V u) : ∀ (t : List Int), appT V (putFor n u t) = appT V t
  | [] => rfl
  | m :: t => by
    rw [putFor_cons, appT_append, appT_put h t, show m :: t = [m] ++ t from rfl, appT_append]
    split
    · rename_i e; subst e; rw [appT_one, h]
    · rfl
theorem one_seq {ar : List Int} {V : List (List Int)} (hV : goodSubst ar V = true) {n : Int} (h12 : -12 ≤ n) (hn : n < 0) : seqT ar 1 (one1 V n) := by
  obtain ⟨hg, hl, hok⟩ := goodSubst_iff.1 hV
  by_cases hp : 0 < (V.getD (-1 - n).toNat []).length
  · rw [one1_var hn hp]
    exact (okTerm_seq.1 (okEmpty_get hok _ hp)).2
  · rw [one1_free hp]
    refine seqT_cons.2 ⟨?_, by rw [arOf_neg hn]; rfl⟩
    have := sign_len ar hg
    unfold okSym inB
    simp
    omega
theorem app_seq1 {ar : List Int} {V : List (List Int)} (hV : goodSubst ar V = true) {u : List Int} (hu : okTerm ar u = true) : seqT ar 1 (appT V u) := by
  obtain ⟨hg, hl, hok⟩ := goodSubst_iff.1 hV
  have := app_end hok hu
  unfold endOf at this
  rw [List.drop_zero] at this
  exact this
theorem dif_split {x y : List Int} (hx : dif x y ≤ x.length) (hy : dif x y ≤ y.length) : x.take (dif x y) = y.take (dif x y) := by
  apply List.ext_getElem?
  intro i
  rw [List.getElem?_take, List.getElem?_take]
  split
  · rename_i hi
    obtain ⟨h1, h2, h3⟩ := dif_before x y i hi
    rw [List.getElem?_eq_getElem h1, List.getElem?_eq_getElem h2]
    simpa [List.getD, h1, h2] using h3
  · rfl
theorem sigma_eq {ar a0 b0 x y : List Int} {F : Nat → List Int} {V : List (List Int)} (hV : goodSubst ar V = true) (h : UInv ar a0 b0 x y F) (hne : x ≠ y) (hb : ¬ badU ar x y) (he : appT V x = appT V y) : one1 V (lowN x y) = appT V (putU ar x y) := by
  obtain ⟨e, hR⟩ := uround h hne
  have hok := uok h hne hb
  have hsp := dif_split (x := x) (y := y) (Nat.le_of_lt hR.dx) (Nat.le_of_lt hR.dy)
  have hdrop : appT V (x.drop (dif x y)) = appT V (y.drop (dif x y)) := by
    have hx' : appT V x = appT V (x.take (dif x y)) ++ appT V (x.drop (dif x y)) := by rw [← appT_append, List.take_append_drop]
    have hy' : appT V y = appT V (y.take (dif x y)) ++ appT V (y.drop (dif x y)) := by rw [← appT_append, List.take_append_drop]
    have h1 := he
    rw [hx', hy', hsp] at h1
    exact List.append_cancel_left h1
  have hpart : ∀ (o : List Int), o = other x y → o.drop (dif x y) = putU ar x y ++ o.drop e := fun o ho => by
    rw [hR.pu, ho]
    unfold partOf
    have := List.take_append_drop (e - dif x y) ((other x y).drop (dif x y))
    rw [List.drop_drop, show dif x y + (e - dif x y) = e by have := hR.de; omega] at this
    exact this.symm
  have hs1 := one_seq hV hok.lo hok.neg
  have hs2 := app_seq1 hV hR.ok
  rw [drop_cons x _ hR.dx, drop_cons y _ hR.dy] at hdrop
  by_cases hlt : y.getD (dif x y) 0 < x.getD (dif x y) 0
  · have hlo : lowN x y = y.getD (dif x y) 0 := by unfold lowN; rw [if_pos hlt]
    have hot : x = other x y := by unfold other; rw [if_pos hlt]
    rw [← drop_cons x _ hR.dx, hpart x hot, ← hlo, appT_append, show ∀ (n : Int) (t : List Int), n :: t = [n] ++ t from fun _ _ => rfl, appT_append, appT_one] at hdrop
    exact (seq_prefix hs2 hs1 hdrop).symm
  · have hlo : lowN x y = x.getD (dif x y) 0 := by unfold lowN; rw [if_neg hlt]
    have hot : y = other x y := by unfold other; rw [if_neg hlt]
    rw [← drop_cons y _ hR.dy, hpart y hot, ← hlo, appT_append, show ∀ (n : Int) (t : List Int), n :: t = [n] ++ t from fun _ _ => rfl, appT_append, appT_one] at hdrop
    exact seq_prefix hs1 hs2 hdrop
theorem ug_mgu {ar a0 b0 : List Int} {V : List (List Int)} (hV : goodSubst ar V = true) : ∀ (k : Nat) (x y : List Int) (F G : Nat → List Int), UInv ar a0 b0 x y F → (∀ n, appT V (one1 (rawL F) n) = one1 V n) → appT V x = appT V y → uniGo ar k x y F = some G → ∀ n, appT V (one1 (rawL G) n) = one1 V n := by
  intro k
  induction k with
  | zero => intro x y F G h _ _ e; simp [uniGo] at e
  | succ k ih =>
    intro x y F G h hP he e
    by_cases h1 : x = y
    · rw [ug_same h1] at e
      simp at e
      rw [← e]; exact hP
    · by_cases h2 : badU ar x y
      · rw [ug_bad h1 h2] at e; simp at e
      · by_cases h3 : longU ar x y
        · rw [ug_long h1 h2 h3] at e; simp at e
        · rw [ug_next h1 h2 h3] at e
          have hok := uok h h1 h2
          have hE := sigma_eq hV h h1 h2 he
          refine ih _ _ _ _ (hok.next h3) (fun n => ?_) (by rw [appT_put hE, appT_put hE, he]) e
          have := app_next hok.neg (List.length_pos_iff.1 hok.up) hok.free h.low hok.lo [n]
          rw [appT_one, appT_one] at this
          rw [← this, appT_put hE, hP n]
theorem app_app {V : List (List Int)} {G : Nat → List Int} (h : ∀ n, appT V (one1 (rawL G) n) = one1 V n) : ∀ (t : List Int), appT V (appT (rawL G) t) = appT V t
  | [] => rfl
  | n :: t => by
    rw [show n :: t = [n] ++ t from rfl, appT_append, appT_append, appT_append, app_app h t, appT_one, h, appT_one]
theorem unify_most {ar x y : List Int} {V : List (List Int)} (h1 : applyOk ar V x = true) (h2 : applyOk ar V y = true) (he : applyAns ar V x = applyAns ar V y) (hu : unifyOk ar x y = true) (hc : composeOk ar (unifyAns ar x y) V = true) :
    applyOk ar (composeAns ar (unifyAns ar x y) V) x = true ∧ applyAns ar (composeAns ar (unifyAns ar x y) V) x = applyAns ar V x := by
  obtain ⟨G, z, hG, hz, hans, hg, ha, hb⟩ := unify_inv hu
  obtain ⟨hV, -, h40⟩ := applyOk_iff.1 h1
  have hm := (unify_unifies hu).1
  rw [applyAns_yes h1, applyAns_yes h2] at he
  have hP := ug_mgu hV 13 x y (fun _ => []) G (UInv.start ha hb) (fun n => by rw [← appT_one, appT_none, appT_one]) he (by simpa [uniR] using hG)
  have hmz : applyAns ar (unifyAns ar x y) x = z := by rw [applyAns_yes hm, hans, ← hz.appx]
  have hVz : appT V z = appT V x := by rw [hz.appx, app_app hP]
  have hz2 : applyOk ar V z = true := applyOk_iff.2 ⟨hV, hz.okx, by unfold app40ok at h40 ⊢; rw [hVz]; exact h40⟩
  obtain ⟨a1, a2⟩ := compose_app hc hm (by rw [hmz]; exact hz2)
  refine ⟨a1, ?_⟩
  rw [a2, hmz, applyAns_yes hz2, applyAns_yes h1, hVz]
end Go.Proofs.YtikllmdmifecpaaGreatDoor
end
section
/- Chapter 4, the program: changedClause, over a function value. -/
namespace Go.Proofs.YtikllmdmifecpaaGreatDoor
open Go.RowKit

set_option maxRecDepth 100000 in
set_option maxHeartbeats 1000000 in
theorem changedA_c (l h : Nat) (v : Value) (g : Nat) (c : List Lt) (w : World) (F : List Int → List Int) (okF : List Int → Bool) (hx : c.length ≤ 1048576) (hv : SlC l h w v c)
    (hF : ∀ t, t ∈ flatC c → ∀ lo hi x w', Bel w w' → SlI lo hi w' x t → Calls Tryz.prog 138 #[x, .pointer (some ⟨g, 0, none⟩)] w' (RetIB w' (if okF t then F t else []) (okF t))) (q : Bool) (r : List Lt) (hq : (flatC c).all okF = q) (hr : (if q then zipC c ((flatC c).map F) else []) = r) :
    Calls Tryz.prog 109 #[v, .func (.func 138) #[] #[.pointer (some ⟨g, 0, none⟩)]] w (RetCB w r q) := by
  have eg : ∀ args w, (callFunc 138 args).run Tryz.prog w = .ok (.enter 138 args) w := enters_of Tryz.func138 (by kernel_rfl) rfl
  obtain ⟨i1, hi1, hy0, hy1, hy2⟩ := info_parts Tryz.info22
  obtain ⟨ad, cap, rfl⟩ := hv.form
  have HQ := Lib.hid hq
  have HR := Lib.hid hr
  have HF := Lib.hid hF
  clear hq hr hF
  go_enter Tryz.func109, Tryz.ntmps109
  go_wp2_with fail
  refine (termsIn_c l h _ c _ hx hv).mono ?_; rintro e w1 ⟨a1, n1, c1, rfl, hrow, hb1⟩
  have hs := hrow.sls hb1
  have hfl := flatC_len c
  have hn1 : n1 = (flatC c).length := by obtain ⟨_, _, e⟩ := hs.form; simp only [Value.slice.injEq] at e; exact e.2.1
  subst hn1
  have HFL : Hid ((flatC c).length = 2 * c.length) := hfl
  have hl2 : (flatC c).length ≤ 2097152 := by omega
  have HV1 := hv.below hb1
  clear hfl hrow hv
  generalize flatC c = L at *
  go_wp2_with fail
  go_loopw [6, 14] (fun o i wr => ∃ k : Nat, k ≤ L.length ∧ i = .int .i64 k ∧ RowO w1.heap.size wr o ((L.take k).map F) ∧ (∀ t ∈ L.take k, okF t = true) ∧ Bel w1 wr) (fun _ i _ => L.length - (intOf i).toNat)
  case atStart => exact ⟨0, Nat.zero_le _, rfl, RowO.nil _ _, fun t h => by simp at h, Bel.rfl' _⟩
  case round =>
    obtain ⟨k, hk, rfl, hro, hall, hb⟩ := hrel
    by_cases hlt : k < L.length
    · obtain ⟨b1, o1, u1, rfl, hbs, c1, s1⟩ := hs.at hb k hlt
      have HTK : Hid (L.take (k+1) = L.take k ++ [L.getD k []]) := by show _ = _; rw [List.take_succ_eq_append_getElem hlt]; simp [List.getD, hlt]
      have hmem := mem_getD L [] k hlt
      have hin1 : (k : Int) < L.length := by omega
      generalize L.getD k [] = t at *
      have HC := HF.out t hmem _ _ u1 wr (hb1.step hb) s1
      obtain ⟨x1, y1, rfl⟩ := s1.form
      cases hok : okF t with
      | false =>
        rw [hok, if_neg (by simp)] at HC
        have HCC := Lib.hid HC
        have hqf : q = false := by
          rw [← HQ.out]; rw [List.all_eq_false]; exact ⟨t, hmem, by simp [hok]⟩
        subst hqf
        have hr0 : r = [] := by rw [← HR.out]; rfl
        subst hr0
        clear hs HC s1 hro hall
        go_wp2_with fail
        refine HCC.out.mono ?_; rintro e w2 ⟨a2, n2, c2, rfl, ho2, hb2⟩
        go_wp2_with fail
        go_ret2
        exact ⟨_, _, _, rfl, OwnC.nil _ _ _, (hb1.step hb).step hb2⟩
      | true =>
        rw [hok, if_pos rfl] at HC
        have HCC := Lib.hid HC
        have HAL := Lib.hid hall
        have HRO := Lib.hid hro
        have HOK := Lib.hid hok
        have hbz := hb.size
        clear hs HC s1 hro hall hok hmem
        go_wp2_with fail
        refine HCC.out.mono ?_; rintro e w2 ⟨a2, n2, c2, rfl, ho2, hb2⟩
        have hAl := Bel.alloc0 w2 (.cells #[.slice a2 n2 c2] 22)
        obtain ⟨us, hown, hul, hnext⟩ := HRO.out.step hb2 hAl ho2 hbz
        have hkl : us.length = k := by rw [hul]; simp; omega
        have HN := Lib.hid hnext
        clear hnext
        go_wp2_with (at_builtin; refine wpList_append_own_at _ rfl _ _ 70 rfl w1.heap.size 22 i1 (.slice none 0 0) 1 24 Tryz.underlying70 hi1 hy0 hy1 hy2 rfl (by decide) _ _ _ rfl hown _ _ _ [.slice a2 n2 c2] rfl rfl (news_oneV _ _ _) (one_slice _ _ _) (by unfold maxLen; omega) (by omega) (by have := hb2.size; simp; omega) ?_; intro v' w4 hown' hgrow _ hat)
        have hR4 := HN.out w4 v' hown' hgrow hat
        have hB4 := ((hb.step hb2).step hAl).grown hgrow (fun x hx => own_base hown x hx)
        go_roundw
        case rel =>
          refine ⟨k+1, by omega, by go_num, by rw [HTK.out, List.map_append]; exact hR4, fun t' h => ?_, hB4⟩
          rw [HTK.out] at h
          rcases List.mem_append.1 h with h | h
          · exact HAL.out t' h
          · simp at h; subst h; exact HOK.out
        case measure => simp [intOf]; omega
    · have ek : L.take k = L := List.take_of_length_le (by omega)
      rw [ek] at hro hall
      have hqt : q = true := by rw [← HQ.out, List.all_eq_true]; exact hall
      subst hqt
      have hr1 : zipC c (L.map F) = r := HR.out
      subst hr1
      obtain ⟨a5, c5, e5⟩ := hro.form
      rw [List.length_map] at e5
      subst e5
      have hin1 : ¬ (k : Int) < L.length := by omega
      have hw := withTerms_c _ _ _ _ _ _ c (L.map F) wr hx (by rw [List.length_map]; exact HFL.out) hb.size (Nat.le_refl _) (HV1.below hb) hro.own
      have HW := Lib.hid hw
      clear hs hro hall hw HV1
      go_wp2_with fail
      refine HW.out.mono ?_; rintro e w2 ⟨a2, n2, c2, rfl, ho2, hb2⟩
      go_wp2_with fail
      go_ret2
      exact ⟨_, _, _, rfl, ho2.mono hb1.size (Nat.le_refl _), (hb1.step hb).step hb2⟩

set_option maxRecDepth 100000 in
set_option maxHeartbeats 1000000 in
theorem changedS_c (l h : Nat) (v : Value) (g g2 : Nat) (c : List Lt) (w : World) (F : List Int → List Int) (okF : List Int → Bool) (hx : c.length ≤ 1048576) (hv : SlC l h w v c)
    (hF : ∀ t, t ∈ flatC c → ∀ lo hi x w', Bel w w' → SlI lo hi w' x t → Calls Tryz.prog 110 #[x, .pointer (some ⟨g, 0, none⟩), .pointer (some ⟨g2, 0, none⟩)] w' (RetIB w' (if okF t then F t else []) (okF t))) (q : Bool) (r : List Lt) (hq : (flatC c).all okF = q) (hr : (if q then zipC c ((flatC c).map F) else []) = r) :
    Calls Tryz.prog 109 #[v, .func (.func 110) #[] #[.pointer (some ⟨g, 0, none⟩), .pointer (some ⟨g2, 0, none⟩)]] w (RetCB w r q) := by
  have eg : ∀ args w, (callFunc 110 args).run Tryz.prog w = .ok (.enter 110 args) w := enters_of Tryz.func110 (by kernel_rfl) rfl
  obtain ⟨i1, hi1, hy0, hy1, hy2⟩ := info_parts Tryz.info22
  obtain ⟨ad, cap, rfl⟩ := hv.form
  have HQ := Lib.hid hq
  have HR := Lib.hid hr
  have HF := Lib.hid hF
  clear hq hr hF
  go_enter Tryz.func109, Tryz.ntmps109
  go_wp2_with fail
  refine (termsIn_c l h _ c _ hx hv).mono ?_; rintro e w1 ⟨a1, n1, c1, rfl, hrow, hb1⟩
  have hs := hrow.sls hb1
  have hfl := flatC_len c
  have hn1 : n1 = (flatC c).length := by obtain ⟨_, _, e⟩ := hs.form; simp only [Value.slice.injEq] at e; exact e.2.1
  subst hn1
  have HFL : Hid ((flatC c).length = 2 * c.length) := hfl
  have hl2 : (flatC c).length ≤ 2097152 := by omega
  have HV1 := hv.below hb1
  clear hfl hrow hv
  generalize flatC c = L at *
  go_wp2_with fail
  go_loopw [6, 14] (fun o i wr => ∃ k : Nat, k ≤ L.length ∧ i = .int .i64 k ∧ RowO w1.heap.size wr o ((L.take k).map F) ∧ (∀ t ∈ L.take k, okF t = true) ∧ Bel w1 wr) (fun _ i _ => L.length - (intOf i).toNat)
  case atStart => exact ⟨0, Nat.zero_le _, rfl, RowO.nil _ _, fun t h => by simp at h, Bel.rfl' _⟩
  case round =>
    obtain ⟨k, hk, rfl, hro, hall, hb⟩ := hrel
    by_cases hlt : k < L.length
    · obtain ⟨b1, o1, u1, rfl, hbs, c1, s1⟩ := hs.at hb k hlt
      have HTK : Hid (L.take (k+1) = L.take k ++ [L.getD k []]) := by show _ = _; rw [List.take_succ_eq_append_getElem hlt]; simp [List.getD, hlt]
      have hmem := mem_getD L [] k hlt
      have hin1 : (k : Int) < L.length := by omega
      generalize L.getD k [] = t at *
      have HC := HF.out t hmem _ _ u1 wr (hb1.step hb) s1
      obtain ⟨x1, y1, rfl⟩ := s1.form
      cases hok : okF t with
      | false =>
        rw [hok, if_neg (by simp)] at HC
        have HCC := Lib.hid HC
        have hqf : q = false := by
          rw [← HQ.out]; rw [List.all_eq_false]; exact ⟨t, hmem, by simp [hok]⟩
        subst hqf
        have hr0 : r = [] := by rw [← HR.out]; rfl
        subst hr0
        clear hs HC s1 hro hall
        go_wp2_with fail
        refine HCC.out.mono ?_; rintro e w2 ⟨a2, n2, c2, rfl, ho2, hb2⟩
        go_wp2_with fail
        go_ret2
        exact ⟨_, _, _, rfl, OwnC.nil _ _ _, (hb1.step hb).step hb2⟩
      | true =>
        rw [hok, if_pos rfl] at HC
        have HCC := Lib.hid HC
        have HAL := Lib.hid hall
        have HRO := Lib.hid hro
        have HOK := Lib.hid hok
        have hbz := hb.size
        clear hs HC s1 hro hall hok hmem
        go_wp2_with fail
        refine HCC.out.mono ?_; rintro e w2 ⟨a2, n2, c2, rfl, ho2, hb2⟩
        have hAl := Bel.alloc0 w2 (.cells #[.slice a2 n2 c2] 22)
        obtain ⟨us, hown, hul, hnext⟩ := HRO.out.step hb2 hAl ho2 hbz
        have hkl : us.length = k := by rw [hul]; simp; omega
        have HN := Lib.hid hnext
        clear hnext
        go_wp2_with (at_builtin; refine wpList_append_own_at _ rfl _ _ 70 rfl w1.heap.size 22 i1 (.slice none 0 0) 1 24 Tryz.underlying70 hi1 hy0 hy1 hy2 rfl (by decide) _ _ _ rfl hown _ _ _ [.slice a2 n2 c2] rfl rfl (news_oneV _ _ _) (one_slice _ _ _) (by unfold maxLen; omega) (by omega) (by have := hb2.size; simp; omega) ?_; intro v' w4 hown' hgrow _ hat)
        have hR4 := HN.out w4 v' hown' hgrow hat
        have hB4 := ((hb.step hb2).step hAl).grown hgrow (fun x hx => own_base hown x hx)
        go_roundw
        case rel =>
          refine ⟨k+1, by omega, by go_num, by rw [HTK.out, List.map_append]; exact hR4, fun t' h => ?_, hB4⟩
          rw [HTK.out] at h
          rcases List.mem_append.1 h with h | h
          · exact HAL.out t' h
          · simp at h; subst h; exact HOK.out
        case measure => simp [intOf]; omega
    · have ek : L.take k = L := List.take_of_length_le (by omega)
      rw [ek] at hro hall
      have hqt : q = true := by rw [← HQ.out, List.all_eq_true]; exact hall
      subst hqt
      have hr1 : zipC c (L.map F) = r := HR.out
      subst hr1
      obtain ⟨a5, c5, e5⟩ := hro.form
      rw [List.length_map] at e5
      subst e5
      have hin1 : ¬ (k : Int) < L.length := by omega
      have hw := withTerms_c _ _ _ _ _ _ c (L.map F) wr hx (by rw [List.length_map]; exact HFL.out) hb.size (Nat.le_refl _) (HV1.below hb) hro.own
      have HW := Lib.hid hw
      clear hs hro hall hw HV1
      go_wp2_with fail
      refine HW.out.mono ?_; rintro e w2 ⟨a2, n2, c2, rfl, ho2, hb2⟩
      go_wp2_with fail
      go_ret2
      exact ⟨_, _, _, rfl, ho2.mono hb1.size (Nat.le_refl _), (hb1.step hb).step hb2⟩
end Go.Proofs.YtikllmdmifecpaaGreatDoor
end
section
/- Chapter 4, the program: ApplyClause (over changedClause and a function value). -/
namespace Go.Proofs.YtikllmdmifecpaaGreatDoor
open Go.RowKit

theorem app40_if (b : List (List Int)) (t : List Int) : app40 b t = if app40ok b t then appT b t else [] := by
  by_cases h : 40 < (appT b t).length
  · rw [(app40_no h).1, (app40_no h).2]; rfl
  · rw [(app40_yes h).1, (app40_yes h).2]; rfl

set_option maxRecDepth 100000 in
set_option maxHeartbeats 400000 in
theorem appliedFn_c (g l h l' h' : Nat) (v u : Value) (b : List (List Int)) (t : List Int) (w : World) (hlen : b.length = 12) (hb : lens40 b) (ht : t.length ≤ 1024) (hlow : ∀ k, k < t.length → -12 ≤ t.getD k 0) (hc : w.cell? ⟨g, 0, none⟩ = some u) (hu : SlS l' h' w u b) (hv : SlI l h w v t) :
    Calls Tryz.prog 138 #[v, .pointer (some ⟨g, 0, none⟩)] w (RetIB w (app40 b t) (app40ok b t)) := by
  have HC := Lib.hid (applied_c l h l' h' v u b t w hlen hb ht hlow hu hv)
  obtain ⟨ad, cap, rfl⟩ := hv.form
  obtain ⟨au, cu, rfl⟩ := hu.form
  clear hlen hb ht hlow hu hv
  generalize app40 b t = r at *
  generalize app40ok b t = q at *
  go_enter Tryz.func138, Tryz.ntmps138
  go_wp2_with fail
  refine HC.out.mono ?_; rintro e w1 ⟨a1, n1, c1, rfl, ho1, hb1⟩
  go_wp2_with fail
  go_ret2
  exact ⟨_, _, _, rfl, ho1, hb1⟩

set_option maxRecDepth 100000 in
set_option maxHeartbeats 400000 in
theorem appliedClause_c (l h l' h' : Nat) (v u : Value) (b : List (List Int)) (c : List Lt) (w : World) (hlen : b.length = 12) (hb40 : lens40 b) (hx : c.length ≤ 1048576) (ht : ∀ t ∈ flatC c, t.length ≤ 1024 ∧ ∀ k, k < t.length → -12 ≤ t.getD k 0) (hu : SlS l' h' w u b) (hv : SlC l h w v c) (q : Bool) (r : List Lt) (hq : (flatC c).all (app40ok b) = q) (hr : (if q then applyC b c else []) = r) :
    Calls Tryz.prog 85 #[u, v] w (RetCB w r q) := by
  have hmf : ∀ (fn : Fn) (first cap : Array Value) (w : World), (Instr.makeFunc fn first cap).run Tryz.prog w = .ok (.func fn first cap) w := fun _ _ _ _ => rfl
  obtain ⟨ad, cap, rfl⟩ := hv.form
  obtain ⟨au, cu, rfl⟩ := hu.form
  have hA := Bel.alloc0 w (.cells #[.slice au b.length cu] 70)
  have hbox := boxc (Bel.rfl' (w.alloc (.cells #[.slice au b.length cu] 70))) 0 _ rfl
  have hz : zipC c ((flatC c).map (appT b)) = applyC b c := by rw [zipC_map]; rfl
  have HC := Lib.hid (changedA_c l h (.slice ad c.length cap) w.heap.size c _ (appT b) (app40ok b) hx (hv.below hA)
    (fun t hm lo hi x w' hbb hs => by
      rw [← app40_if]
      exact appliedFn_c _ _ _ _ _ _ _ b t w' hlen hb40 (ht t hm).1 (ht t hm).2 (hbb.at (World.block_lt_of_cell? _ ⟨_, _, none⟩ hbox) hbox) (hu.below (hA.step hbb)) hs) q r hq (by rw [hz]; exact hr))
  clear hlen hb40 ht hu hv hq hr hz hbox
  go_enter Tryz.func85, Tryz.ntmps85
  go_wp2_with fail
  refine HC.out.mono ?_; rintro e w1 ⟨a1, n1, c1, rfl, ho1, hb1⟩
  go_wp2_with fail
  go_ret2
  exact ⟨_, _, _, rfl, ho1.mono hA.size (Nat.le_refl _), hA.step hb1⟩
end Go.Proofs.YtikllmdmifecpaaGreatDoor
end
section
/- Chapter 4: ApplyClause, both sides. -/
namespace Go.Proofs.YtikllmdmifecpaaGreatDoor
open Go.RowKit

theorem l4Clause_v (l h l' h' : Nat) (v u : Value) (ar : List Int) (c : List Lt) (q : Bool) (w : World) (he : okLits ar c = q) (hg : goodSign ar = true) (hx : shortC c) (hv : SlI l h w v ar) (hu : SlC l' h' w u c) :
    Calls Tryz.prog 52 #[.agg #[v], u] w (RetV w (.bool q)) := by subst he; exact l4Clause_c l h l' h' v u ar c w hg hx hv hu

set_option maxRecDepth 100000 in
set_option maxHeartbeats 400000 in
theorem l4Made_c (l h lo hi : Nat) (v u : Value) (ar : List Int) (c : List Lt) (w : World) (hg : goodSign ar = true) (hx : shortC c) (hv : SlI l h w v ar) (hu : OwnC lo hi w u c) :
    Calls Tryz.prog 87 #[.agg #[v], u] w (fun e w' => ∃ ad n k, e = .returned (.tuple #[.slice ad n k, .bool (okLits ar c)]) ∧ OwnC lo hi w' (.slice ad n k) (if okLits ar c then c else []) ∧ Bel w w') := by
  cases hq : okLits ar c with
  | false =>
    rw [if_neg (by simp)]
    have HQ := Lib.hid hq; clear hq
    have hul := hu.sl
    go_enter Tryz.func87, Tryz.ntmps87
    go_wp2_with fail
    refine (l4Clause_v _ _ _ _ _ _ ar c false _ HQ.out hg hx (hv.alloc _) (hul.alloc _)).mono ?_; rintro e w1 ⟨rfl, hb1⟩
    go_wp2_with fail
    go_ret2
    exact ⟨_, _, _, rfl, OwnC.nil _ _ _, hb1.of_alloc⟩
  | true =>
    rw [if_pos rfl]
    have HQ := Lib.hid hq; clear hq
    have HU := Lib.hid hu
    have hul := hu.sl
    clear hu
    obtain ⟨au, cu, rfl⟩ := hul.form
    go_enter Tryz.func87, Tryz.ntmps87
    go_wp2_with fail
    refine (l4Clause_v _ _ _ _ _ _ ar c true _ HQ.out hg hx (hv.alloc _) (hul.alloc _)).mono ?_; rintro e w1 ⟨rfl, hb1⟩
    go_wp2_with fail
    go_ret2
    exact ⟨_, _, _, rfl, HU.out.below hb1.of_alloc, hb1.of_alloc⟩

theorem flat_rows {ar : List Int} {c : List Lt} (h : okLits ar c = true) : ∀ t ∈ flatC c, t.length ≤ 1024 ∧ ∀ k, k < t.length → -12 ≤ t.getD k 0 := fun t ht => by
  have := flat_ok (okLits_iff.1 h).2 ht
  exact ⟨by have := (okTerm_len this).2; omega, low_memC fun _ hn => ok_low this hn⟩
theorem applyC_short {ar : List Int} {b : List (List Int)} {c : List Lt} (hb : lens40 b) (hc : okLits ar c = true) : shortC (applyC b c) := by
  obtain ⟨h8, hok⟩ := okLits_iff.1 hc
  refine ⟨by simp [applyC]; omega, fun j hj => ?_⟩
  have hj' : j < c.length := by simpa [applyC] using hj
  obtain ⟨o1, o2⟩ := okLits_get hok j hj'
  have l1 := appT_len hb (c.getD j lt0).2.1
  have l2 := appT_len hb (c.getD j lt0).2.2
  have k1 := (okTerm_len o1).2
  have k2 := (okTerm_len o2).2
  have e : (applyC b c).getD j lt0 = ((c.getD j lt0).1, appT b (c.getD j lt0).2.1, appT b (c.getD j lt0).2.2) := by simp [applyC, List.getD, hj']
  rw [e]
  exact ⟨by show (appT b _).length ≤ _; omega, by show (appT b _).length ≤ _; omega⟩

set_option maxRecDepth 100000 in
set_option maxHeartbeats 1000000 in
theorem sApplyClause_t {l h l' h' l2 h2 : Nat} {v u x : Value} {ar : List Int} {b : List (List Int)} {c : List Lt} {w : World} (ha : ar.length ≤ 1048576) (hv : SlI l h w v ar) (hb : short b) (hu : SlS l' h' w u b) (hc : sumC c ≤ 1048576) (hx : SlC l2 h2 w x c) :
    Calls Tryz.prog 45 #[.agg #[v], u, x] w (RetCB w (applyCAns ar b c) (applyCok ar b c)) := by
  unfold applyCAns applyCok
  cases hs : goodSubst ar b with
  | false =>
    rw [Bool.false_and, Bool.false_and, if_neg (by simp)]
    have HS := Lib.hid hs; clear hs
    go_enter Tryz.func45, Tryz.ntmps45
    go_wp2_with fail
    refine (sGoodSubst_v _ _ _ _ _ _ ar b false _ HS.out ha (hv.alloc _) hb (hu.alloc _)).mono ?_; rintro e w1 ⟨rfl, hb1⟩
    go_wp2_with fail
    go_ret2
    exact ⟨_, _, _, rfl, OwnC.nil _ _ _, hb1.of_alloc⟩
  | true =>
    rw [Bool.true_and]
    have hg := (goodSubst_iff.1 hs).1
    have hl12 := (goodSubst_iff.1 hs).2.1
    have h40 := goodSubst_len40 hs
    have HS := Lib.hid hs; clear hs
    cases hq : okLits ar c with
    | false =>
      rw [Bool.false_and, if_neg (by simp)]
      have HQ := Lib.hid hq; clear hq hl12
      have hsc := shortC_of_sum hc
      go_enter Tryz.func45, Tryz.ntmps45
      go_wp2_with fail
      refine (sGoodSubst_v _ _ _ _ _ _ ar b true _ HS.out ha (hv.alloc _) hb (hu.alloc _)).mono ?_; rintro e w1 ⟨rfl, hb1⟩
      have hbox := boxc hb1 0 _ rfl
      go_wp2_with fail
      refine (l4Clause_v _ _ _ _ _ _ ar c false _ HQ.out hg hsc (hv.below hb1.of_alloc) (hx.below hb1.of_alloc)).mono ?_; rintro e w2 ⟨rfl, hb2⟩
      go_wp2_with fail
      go_ret2
      exact ⟨_, _, _, rfl, OwnC.nil _ _ _, hb1.of_alloc.step hb2⟩
    | true =>
      rw [Bool.true_and]
      have hsa := applyC_short h40 hq
      have hfr := flat_rows hq
      have hsc := shortC_of_sum hc
      have HA := Lib.hid (fun (w' : World) (hb' : Bel w w') => l4Apply_c _ _ _ _ _ _ b c w' hl12 h40 hsc.1 hfr (hu.below hb') (hx.below hb'))
      have HM := Lib.hid (fun (w' : World) (y : Value) (hb' : Bel w w') (hy : OwnC w.heap.size w'.heap.size w' y (applyC b c)) => l4Made_c _ _ _ _ _ y ar (applyC b c) w' hg hsa (hv.below hb') hy)
      have HQ := Lib.hid hq; clear hq hl12 hfr hsa
      generalize applyC b c = r at *
      generalize okLits ar r = q2 at *
      generalize (if q2 = true then r else []) = r2 at *
      go_enter Tryz.func45, Tryz.ntmps45
      go_wp2_with fail
      refine (sGoodSubst_v _ _ _ _ _ _ ar b true _ HS.out ha (hv.alloc _) hb (hu.alloc _)).mono ?_; rintro e w1 ⟨rfl, hb1⟩
      have hbox := boxc hb1 0 _ rfl
      go_wp2_with fail
      refine (l4Clause_v _ _ _ _ _ _ ar c true _ HQ.out hg hsc (hv.below hb1.of_alloc) (hx.below hb1.of_alloc)).mono ?_; rintro e w2 ⟨rfl, hb2⟩
      have hbox2 := hb2.at (World.block_lt_of_cell? _ ⟨_, _, none⟩ hbox) hbox
      have HB2 := hb1.of_alloc.step hb2
      go_wp2_with fail
      have HD2 := HB2.drew
      have hbox3 := (Bel.drew0 w2).at (World.block_lt_of_cell? _ ⟨_, _, none⟩ hbox2) hbox2
      go_region_held3 (fun w' => w'.cell? ⟨w.heap.size, 0, none⟩ = some v)
        (first | exact hbox5 | exact hbox4 | exact hbox3 | fail)
        (first | (go_at_call 87; refine (HM.out _ _ HB3 (ho3.mono HD2.size (Nat.le_refl _))).mono ?_; rintro e w4 ⟨a4, n4, c4, rfl, ho4, hb4⟩; have hbox5 := hb4.at (World.block_lt_of_cell? _ ⟨_, _, none⟩ hbox4) hbox4) | (go_at_call 88; refine (HA.out _ HD2).mono ?_; rintro e w3 ⟨a3, n3, c3, rfl, ho3, hb3⟩; have HB3 := HD2.step hb3; have hbox4 := hb3.at (World.block_lt_of_cell? _ ⟨_, _, none⟩ hbox3) hbox3) | fail)
      have hz4 := hb4.size
      go_wp2_with fail
      go_ret2
      exact ⟨_, _, _, rfl, ho4.mono (Nat.le_refl _) hz4, HB3.step hb4⟩

set_option maxRecDepth 100000 in
set_option maxHeartbeats 1000000 in
theorem iApplyClause_t {l h l' h' l2 h2 : Nat} {v u x : Value} {ar : List Int} {b : List (List Int)} {c : List Lt} {w : World} (ha : ar.length ≤ 1048576) (hv : SlI l h w v ar) (hb : short b) (hu : SlS l' h' w u b) (hc : sumC c ≤ 1048576) (hx : SlC l2 h2 w x c) :
    Calls Tryz.prog 44 #[.agg #[v], u, x] w (RetCB w (applyCAns ar b c) (applyCok ar b c)) := by
  unfold applyCAns applyCok
  cases hs : goodSubst ar b with
  | false =>
    rw [Bool.false_and, Bool.false_and, if_neg (by simp)]
    have HS := Lib.hid hs; clear hs
    go_enter Tryz.func44, Tryz.ntmps44
    go_wp2_with fail
    refine (iGoodSubst_v _ _ _ _ _ _ ar b false _ HS.out ha (hv.alloc _) hb (hu.alloc _)).mono ?_; rintro e w1 ⟨rfl, hb1⟩
    go_wp2_with fail
    go_ret2
    exact ⟨_, _, _, rfl, OwnC.nil _ _ _, hb1.of_alloc⟩
  | true =>
    rw [Bool.true_and]
    have hg := (goodSubst_iff.1 hs).1
    have hl12 := (goodSubst_iff.1 hs).2.1
    have h40 := goodSubst_len40 hs
    have hs0 := hs
    have HS := Lib.hid hs; clear hs
    have hgc : goodClause ar c = okLits ar c := by unfold goodClause; rw [hg, Bool.true_and]
    cases hq : okLits ar c with
    | false =>
      rw [Bool.false_and, if_neg (by simp)]
      rw [hq] at hgc
      have HQ := Lib.hid hgc; clear hq hl12 hgc hs0
      go_enter Tryz.func44, Tryz.ntmps44
      go_wp2_with fail
      refine (iGoodSubst_v _ _ _ _ _ _ ar b true _ HS.out ha (hv.alloc _) hb (hu.alloc _)).mono ?_; rintro e w1 ⟨rfl, hb1⟩
      have hbox := boxc hb1 0 _ rfl
      go_wp2_with fail
      refine (iGoodClause_v HQ.out ha (hv.below hb1.of_alloc) hc (hx.below hb1.of_alloc)).mono ?_; rintro e w2 ⟨rfl, hb2⟩
      go_wp2_with fail
      go_ret2
      exact ⟨_, _, _, rfl, OwnC.nil _ _ _, hb1.of_alloc.step hb2⟩
    | true =>
      rw [Bool.true_and]
      have hok := applyC_ok hs0 hq
      have hfr := flat_rows hq
      rw [hq] at hgc
      have hle := sumC_len c
      have HA := Lib.hid (fun (w' : World) (hb' : Bel w w') => appliedClause_c _ _ _ _ _ _ b c w' hl12 h40 (by omega) hfr (hu.below hb') (hx.below hb') _ _ hok.symm rfl)
      have HQ := Lib.hid hgc; clear hq hl12 hfr hok hgc hs0 hle
      generalize okLits ar (applyC b c) = q2 at *
      generalize (if q2 = true then applyC b c else []) = r2 at *
      go_enter Tryz.func44, Tryz.ntmps44
      go_wp2_with fail
      refine (iGoodSubst_v _ _ _ _ _ _ ar b true _ HS.out ha (hv.alloc _) hb (hu.alloc _)).mono ?_; rintro e w1 ⟨rfl, hb1⟩
      have hbox := boxc hb1 0 _ rfl
      go_wp2_with fail
      refine (iGoodClause_v HQ.out ha (hv.below hb1.of_alloc) hc (hx.below hb1.of_alloc)).mono ?_; rintro e w2 ⟨rfl, hb2⟩
      have HB2 := hb1.of_alloc.step hb2
      go_wp2_with fail
      refine (HA.out _ HB2).mono ?_; rintro e w3 ⟨a3, n3, c3, rfl, ho3, hb3⟩
      go_wp2_with fail
      go_ret2
      exact ⟨_, _, _, rfl, ho3.mono HB2.size (Nat.le_refl _), HB2.step hb3⟩
theorem applyCAns_len (ar : List Int) (b : List (List Int)) (c : List Lt) : sumC (applyCAns ar b c) ≤ 1048576 := by
  unfold applyCAns
  split
  · rename_i hg
    unfold applyCok at hg
    simp only [Bool.and_eq_true] at hg
    obtain ⟨h8, hok⟩ := okLits_iff.1 hg.2
    rw [sumC_eq]
    unfold lenC
    have := sumL_le40 (flatC (applyC b c)) (fun t ht => (okTerm_len (flat_ok hok ht)).2)
    rw [flatC_len] at this
    omega
  · simp [sumC]
end Go.Proofs.YtikllmdmifecpaaGreatDoor
end
section
/- Chapter 4: what tidying leaves out changes nothing; tautologies hold. No program. -/
namespace Go.Proofs.YtikllmdmifecpaaGreatDoor

section
variable (v : List Int → Int)
/-- v: the values of terms. -/
def holdsL (x : Lt) : Bool := decide (v x.2.1 = v x.2.2) == x.1
def holdsC (c : List Lt) : Bool := c.any (holdsL v)
end
variable {v : List Int → Int}
theorem sameTs_val {x y : Lt} (h : sameTs x y = true) : decide (v x.2.1 = v x.2.2) = decide (v y.2.1 = v y.2.2) := by
  unfold sameTs at h
  simp only [Bool.or_eq_true, Bool.and_eq_true, decide_eq_true_eq] at h
  rcases h with ⟨h1, h2⟩ | ⟨h1, h2⟩
  · rw [h1, h2]
  · rw [h1, h2]; exact decide_eq_decide.2 eq_comm
theorem eqvL_holds {x y : Lt} (h : eqvL x y = true) : holdsL v x = holdsL v y := by
  unfold eqvL at h
  rw [Bool.and_eq_true] at h
  unfold holdsL
  rw [sameTs_val h.2, eq_of_beq h.1]
theorem tidyStep_holds (out : List Lt) (x : Lt) : holdsC v (tidyStep out x) = (holdsC v out || holdsL v x) := by
  unfold tidyStep
  by_cases h1 : (!x.1 && decide (x.2.1 = x.2.2)) = true
  · rw [if_pos h1]
    rw [Bool.and_eq_true, Bool.not_eq_true', decide_eq_true_eq] at h1
    have : holdsL v x = false := by unfold holdsL; rw [h1.1, h1.2]; simp
    rw [this, Bool.or_false]
  · rw [if_neg h1]
    by_cases h2 : out.any (eqvL x) = true
    · rw [if_pos h2]
      obtain ⟨y, hy, he⟩ := List.any_eq_true.1 h2
      cases hx : holdsL v x with
      | false => rw [Bool.or_false]
      | true =>
        have : holdsC v out = true := List.any_eq_true.2 ⟨y, hy, by rw [← eqvL_holds he, hx]⟩
        rw [this]; rfl
    · rw [if_neg h2]
      unfold holdsC
      rw [List.any_append]; simp
theorem tidy_fold (c : List Lt) : ∀ out, holdsC v (c.foldl tidyStep out) = (holdsC v out || holdsC v c) := by
  induction c with
  | nil => intro out; simp [holdsC]
  | cons x c ih =>
    intro out
    rw [List.foldl_cons, ih, tidyStep_holds, Bool.or_assoc]
    rfl
/-- Tidying changes no model. -/
theorem tidy_holds (c : List Lt) : holdsC v (tidyC c) = holdsC v c := by
  unfold tidyC; rw [tidy_fold]; rfl

def trivL (x : Lt) : Bool := !x.1 && decide (x.2.1 = x.2.2)
def tidyOk : List Lt → List Lt → Prop
  | _, [] => True
  | pre, x :: r => trivL x = false ∧ pre.any (eqvL x) = false ∧ tidyOk (pre ++ [x]) r
theorem tidyOk_app (l : List Lt) (x : Lt) : ∀ pre, tidyOk pre l → trivL x = false → (pre ++ l).any (eqvL x) = false → tidyOk pre (l ++ [x]) := by
  induction l with
  | nil => intro pre _ h1 h2; exact ⟨h1, by simpa using h2, trivial⟩
  | cons y l ih =>
    intro pre h h1 h2
    exact ⟨h.1, h.2.1, ih _ h.2.2 h1 (by simpa [List.append_assoc] using h2)⟩
theorem tidyStep_ok {out : List Lt} (h : tidyOk [] out) (x : Lt) : tidyOk [] (tidyStep out x) := by
  unfold tidyStep
  by_cases h1 : (!x.1 && decide (x.2.1 = x.2.2)) = true
  · rw [if_pos h1]; exact h
  · rw [if_neg h1]
    by_cases h2 : out.any (eqvL x) = true
    · rw [if_pos h2]; exact h
    · rw [if_neg h2]
      exact tidyOk_app out x [] h (by unfold trivL; simpa using h1) (by simpa using h2)
theorem tidy_ok (c : List Lt) : ∀ out, tidyOk [] out → tidyOk [] (c.foldl tidyStep out) := by
  induction c with
  | nil => exact fun out h => h
  | cons x c ih => exact fun out h => ih _ (tidyStep_ok h x)
theorem tidy_fix (l : List Lt) : ∀ pre, tidyOk pre l → l.foldl tidyStep pre = pre ++ l := by
  induction l with
  | nil => intro pre _; simp
  | cons x l ih =>
    intro pre h
    have e : tidyStep pre x = pre ++ [x] := by
      unfold tidyStep
      rw [if_neg (by have := h.1; unfold trivL at this; rw [this]; simp), if_neg (by rw [h.2.1]; simp)]
    rw [List.foldl_cons, e, ih _ h.2.2, List.append_assoc]; rfl
/-- Tidied twice is tidied once. -/
theorem tidy_twice (c : List Lt) : tidyC (tidyC c) = tidyC c := by
  have := tidy_fix (tidyC c) [] (tidy_ok c [] trivial)
  simpa [tidyC] using this
theorem tidyStep_sub (out : List Lt) (x : Lt) : ∀ y ∈ tidyStep out x, y ∈ out ∨ y = x := by
  intro y hy
  unfold tidyStep at hy
  by_cases h1 : (!x.1 && decide (x.2.1 = x.2.2)) = true
  · rw [if_pos h1] at hy; exact .inl hy
  · rw [if_neg h1] at hy
    by_cases h2 : out.any (eqvL x) = true
    · rw [if_pos h2] at hy; exact .inl hy
    · rw [if_neg h2] at hy
      rcases List.mem_append.1 hy with h | h
      · exact .inl h
      · exact .inr (by simpa using h)
theorem tidyStep_len (out : List Lt) (x : Lt) : (tidyStep out x).length ≤ out.length + 1 := by
  unfold tidyStep
  split
  · omega
  · split
    · omega
    · simp
theorem tidy_sub (c : List Lt) : ∀ out, (∀ y ∈ c.foldl tidyStep out, y ∈ out ∨ y ∈ c) ∧ (c.foldl tidyStep out).length ≤ out.length + c.length := by
  induction c with
  | nil => intro out; exact ⟨fun y hy => .inl hy, by simp⟩
  | cons x c ih =>
    intro out
    rw [List.foldl_cons]
    obtain ⟨h1, h2⟩ := ih (tidyStep out x)
    refine ⟨fun y hy => ?_, by have := tidyStep_len out x; simp; omega⟩
    rcases h1 y hy with h | h
    · rcases tidyStep_sub out x y h with h | h
      · exact .inl h
      · exact .inr (by rw [h]; exact List.mem_cons_self)
    · exact .inr (List.mem_cons_of_mem _ h)
/-- A tidied clause is valid. -/
theorem tidy_good {ar : List Int} {c : List Lt} (h : goodClause ar c = true) : goodClause ar (tidyC c) = true := by
  obtain ⟨h1, h2, h3⟩ := goodClause_iff.1 h
  obtain ⟨k1, k2⟩ := tidy_sub c []
  refine goodClause_iff.2 ⟨h1, by unfold tidyC; simp at k2; omega, fun x hx => ?_⟩
  rcases k1 x hx with h | h
  · simp at h
  · exact h3 x h
/-- A tautology holds. -/
theorem taut_holds {c : List Lt} (h : tautC c = true) : holdsC v c = true := by
  unfold tautC at h
  obtain ⟨k, hk, ht⟩ := List.any_eq_true.1 h
  rw [List.mem_range] at hk
  have hx : c.getD k lt0 ∈ c := by simp [List.getD, hk]
  unfold tautAt at ht
  generalize c.getD k lt0 = x at *
  rw [Bool.or_eq_true, Bool.and_eq_true, decide_eq_true_eq, List.any_eq_true] at ht
  rcases ht with ⟨h1, h2⟩ | ⟨y, hy, h3⟩
  · exact List.any_eq_true.2 ⟨x, hx, by unfold holdsL; rw [h1, h2]; simp⟩
  · rw [Bool.and_eq_true] at h3
    have hyc : y ∈ c := List.mem_of_mem_take hy
    have hv := sameTs_val (v := v) h3.2
    by_cases hb : holdsL v x = true
    · exact List.any_eq_true.2 ⟨x, hx, hb⟩
    · refine List.any_eq_true.2 ⟨y, hyc, ?_⟩
      have hne := h3.1
      unfold holdsL at hb ⊢
      rw [hv] at hb
      revert hb hne
      cases x.1 <;> cases y.1 <;> cases decide (v y.2.1 = v y.2.2) <;> simp
end Go.Proofs.YtikllmdmifecpaaGreatDoor
end
section
/- Chapter 6: inferences, as plain functions. No program. -/
namespace Go.Proofs.YtikllmdmifecpaaGreatDoor
open Go.RowKit

/-- What is concluded. -/
def concl (c : List Lt) : List Lt := renC (tidyC c)
theorem concl_nil : concl [] = [] := rfl
theorem concl_len {ar : List Int} {c : List Lt} (hg : goodSign ar = true) (h : okLits ar c = true) : sumC (concl c) ≤ 1048576 := by
  have h1 : goodClause ar c = true := by unfold goodClause; rw [hg, h]; rfl
  have h2 := tidy_good h1
  have := renCAns_len ar (tidyC c)
  unfold renCAns at this
  rw [if_pos h2] at this
  exact this
theorem unify_subst {ar a b : List Int} (h : unifyOk ar a b = true) : goodSubst ar (unifyAns ar a b) = true := by
  obtain ⟨G, z, _, hz, hans, hg, _, _⟩ := unify_inv h
  rw [hans]; exact good_raw hg hz
theorem uniOk0_of {ar a b : List Int} (hg : goodSign ar = true) (ha : okTerm ar a = true) (hb : okTerm ar b = true) : uniOk0 ar a b = true := by
  unfold uniOk0; rw [goodTerm_iff.2 ⟨hg, ha⟩, hb]; rfl
theorem uni_ans {ar a b : List Int} (h : uniOk0 ar a b = true) : unifyAns ar a b = ansR (uniR ar a b) ∧ unifyOk ar a b = (uniR ar a b).isSome := by
  constructor
  · unfold unifyAns; rw [if_pos h]; cases uniR ar a b <;> rfl
  · unfold unifyOk; rw [h, Bool.true_and]
theorem unify_none {ar a b : List Int} (h : unifyOk ar a b = false) : unifyAns ar a b = [] := by
  unfold unifyOk at h
  unfold unifyAns
  cases h0 : uniOk0 ar a b with
  | false => rfl
  | true =>
    rw [h0, Bool.true_and] at h
    cases h1 : uniR ar a b with
    | none => rfl
    | some F => rw [h1] at h; simp at h
theorem unify_seat {ar a b : List Int} (h : unifyOk ar a b = true) : (unifyAns ar a b).length = 12 ∧ lens40 (unifyAns ar a b) := ⟨(goodSubst_iff.1 (unify_subst h)).2.1, goodSubst_len40 (unify_subst h)⟩

/-- Without the i-th. -/
def dropAt (c : List Lt) (i : Nat) : List Lt := c.take i ++ c.drop (i+1)
theorem dropAt_ok {ar : List Int} {c : List Lt} (i : Nat) (h : okLits ar c = true) : okLits ar (dropAt c i) = true := by
  obtain ⟨h8, hok⟩ := okLits_iff.1 h
  refine okLits_iff.2 ⟨?_, fun x hx => ?_⟩
  · unfold dropAt; simp; omega
  · unfold dropAt at hx
    rcases List.mem_append.1 hx with h1 | h1
    · exact hok x (List.mem_of_mem_take h1)
    · exact hok x (List.mem_of_mem_drop h1)

/-- The clause before it is tidied, and the code. -/
def resR (ar : List Int) (c : List Lt) (i : Int) : List Lt × Int :=
  if inB i 0 (c.length - 1) && !(c.getD i.toNat lt0).1 then
    if unifyOk ar (c.getD i.toNat lt0).2.1 (c.getD i.toNat lt0).2.2 then
      if okLits ar (applyC (unifyAns ar (c.getD i.toNat lt0).2.1 (c.getD i.toNat lt0).2.2) c) then
        (dropAt (applyC (unifyAns ar (c.getD i.toNat lt0).2.1 (c.getD i.toNat lt0).2.2) c) i.toNat, if maxAt (applyC (unifyAns ar (c.getD i.toNat lt0).2.1 (c.getD i.toNat lt0).2.2) c) i.toNat then 0 else 5)
      else ([], 4)
    else ([], 3)
  else ([], 1)
theorem resR_none {ar : List Int} {c : List Lt} {i : Int} (h : (inB i 0 (c.length - 1) && !(c.getD i.toNat lt0).1) = false) : resR ar c i = ([], 1) := by unfold resR; rw [if_neg (by rw [h]; simp)]
theorem resR_apart {ar : List Int} {c : List Lt} {i : Int} (h : (inB i 0 (c.length - 1) && !(c.getD i.toNat lt0).1) = true) (hu : unifyOk ar (c.getD i.toNat lt0).2.1 (c.getD i.toNat lt0).2.2 = false) : resR ar c i = ([], 3) := by
  unfold resR; rw [if_pos h, if_neg (by rw [hu]; simp)]
theorem resR_big {ar : List Int} {c : List Lt} {i : Int} (h : (inB i 0 (c.length - 1) && !(c.getD i.toNat lt0).1) = true) (hu : unifyOk ar (c.getD i.toNat lt0).2.1 (c.getD i.toNat lt0).2.2 = true)
    (ho : okLits ar (applyC (unifyAns ar (c.getD i.toNat lt0).2.1 (c.getD i.toNat lt0).2.2) c) = false) : resR ar c i = ([], 4) := by
  unfold resR; rw [if_pos h, if_pos hu, if_neg (by rw [ho]; simp)]
theorem resR_yes {ar : List Int} {c : List Lt} {i : Int} (h : (inB i 0 (c.length - 1) && !(c.getD i.toNat lt0).1) = true) (hu : unifyOk ar (c.getD i.toNat lt0).2.1 (c.getD i.toNat lt0).2.2 = true)
    (ho : okLits ar (applyC (unifyAns ar (c.getD i.toNat lt0).2.1 (c.getD i.toNat lt0).2.2) c) = true) : resR ar c i = (dropAt (applyC (unifyAns ar (c.getD i.toNat lt0).2.1 (c.getD i.toNat lt0).2.2) c) i.toNat, if maxAt (applyC (unifyAns ar (c.getD i.toNat lt0).2.1 (c.getD i.toNat lt0).2.2) c) i.toNat then 0 else 5) := by
  unfold resR; rw [if_pos h, if_pos hu, if_pos ho]
theorem resR_ok (ar : List Int) (c : List Lt) (i : Int) : okLits ar (resR ar c i).1 = true := by
  unfold resR
  split
  · split
    · split
      · rename_i h; exact dropAt_ok _ h
      · rfl
    · rfl
  · rfl
theorem resR_code (ar : List Int) (c : List Lt) (i : Int) : 0 ≤ (resR ar c i).2 ∧ (resR ar c i).2 ≤ 5 := by
  unfold resR
  split
  · split
    · split
      · show 0 ≤ (if _ then _ else _ : Int) ∧ (if _ then _ else _ : Int) ≤ 5
        split <;> omega
      · exact ⟨by show (0:Int) ≤ 4; omega, by show (4:Int) ≤ 5; omega⟩
    · exact ⟨by show (0:Int) ≤ 3; omega, by show (3:Int) ≤ 5; omega⟩
  · exact ⟨by show (0:Int) ≤ 1; omega, by show (1:Int) ≤ 5; omega⟩
def resAns (ar : List Int) (c : List Lt) (i : Int) : List Lt := if goodClause ar c then concl (resR ar c i).1 else []
def resNo (ar : List Int) (c : List Lt) (i : Int) : Int := if goodClause ar c then (resR ar c i).2 else 0
theorem resAns_len (ar : List Int) (c : List Lt) (i : Int) : sumC (resAns ar c i) ≤ 1048576 := by
  unfold resAns
  split
  · rename_i h
    exact concl_len (goodClause_iff.1 h).1 (resR_ok ar c i)
  · simp [sumC]

/-- A way: which literal, which side, which literal of the other, which side, where. -/
abbrev Wy := Int × Int × Int × Int × Int
def sideL (x : Lt) (s : Int) : List Int := if s = 0 then x.2.1 else x.2.2
def sideR (x : Lt) (s : Int) : List Int := if s = 0 then x.2.2 else x.2.1
def litOk (c : List Lt) (i s : Int) : Bool := inB i 0 (c.length - 1) && inB s 0 1
/-- Neither less nor equal. -/
def overT (a b : List Int) : Bool := decide (cmpT a b = 1) || decide (cmpT a b = 2)
theorem sideL_ok {ar : List Int} {x : Lt} (h : okLit ar x = true) (s : Int) : okTerm ar (sideL x s) = true := by unfold sideL; split; exact (okLit_iff.1 h).1; exact (okLit_iff.1 h).2
theorem sideR_ok {ar : List Int} {x : Lt} (h : okLit ar x = true) (s : Int) : okTerm ar (sideR x s) = true := by unfold sideR; split; exact (okLit_iff.1 h).2; exact (okLit_iff.1 h).1

def facIn (c : List Lt) (w : Wy) : Bool := (litOk c w.1 w.2.1 && litOk c w.2.2.1 w.2.2.2.1) && (!decide (w.1 = w.2.2.1) && decide (w.2.2.2.2 = 0)) && ((c.getD w.1.toNat lt0).1 && (c.getD w.2.2.1.toNat lt0).1)
def facL (c : List Lt) (w : Wy) : List Int := sideL (c.getD w.1.toNat lt0) w.2.1
def facR (c : List Lt) (w : Wy) : List Int := sideR (c.getD w.1.toNat lt0) w.2.1
def facL2 (c : List Lt) (w : Wy) : List Int := sideL (c.getD w.2.2.1.toNat lt0) w.2.2.2.1
def facR2 (c : List Lt) (w : Wy) : List Int := sideR (c.getD w.2.2.1.toNat lt0) w.2.2.2.1
def facOut (b : List (List Int)) (c : List Lt) (w : Wy) : List Lt × Int :=
  ((applyC b c).set w.1.toNat (false, appT b (facR c w), appT b (facR2 c w)), if overT (appT b (facL c w)) (appT b (facR c w)) && maxAt (applyC b c) w.1.toNat then 0 else 5)
def facA (ar : List Int) (c : List Lt) (w : Wy) : List Lt × Int :=
  if facIn c w then
    if unifyOk ar (facL c w) (facL2 c w) then
      if okLits ar (applyC (unifyAns ar (facL c w) (facL2 c w)) c) then facOut (unifyAns ar (facL c w) (facL2 c w)) c w
      else ([], 4)
    else ([], 3)
  else ([], 1)
theorem facA_none {ar : List Int} {c : List Lt} {w : Wy} (h : facIn c w = false) : facA ar c w = ([], 1) := by unfold facA; rw [if_neg (by rw [h]; simp)]
theorem facA_apart {ar : List Int} {c : List Lt} {w : Wy} (h : facIn c w = true) (hu : unifyOk ar (facL c w) (facL2 c w) = false) : facA ar c w = ([], 3) := by unfold facA; rw [if_pos h, if_neg (by rw [hu]; simp)]
theorem facA_big {ar : List Int} {c : List Lt} {w : Wy} (h : facIn c w = true) (hu : unifyOk ar (facL c w) (facL2 c w) = true) (ho : okLits ar (applyC (unifyAns ar (facL c w) (facL2 c w)) c) = false) : facA ar c w = ([], 4) := by
  unfold facA; rw [if_pos h, if_pos hu, if_neg (by rw [ho]; simp)]
theorem facA_yes {ar : List Int} {c : List Lt} {w : Wy} (h : facIn c w = true) (hu : unifyOk ar (facL c w) (facL2 c w) = true) (ho : okLits ar (applyC (unifyAns ar (facL c w) (facL2 c w)) c) = true) : facA ar c w = facOut (unifyAns ar (facL c w) (facL2 c w)) c w := by
  unfold facA; rw [if_pos h, if_pos hu, if_pos ho]
end Go.Proofs.YtikllmdmifecpaaGreatDoor
end
section
/- Slices of literals that share their terms: their cells, cuts, rows of the call's own. No program. -/
namespace Go.Proofs.YtikllmdmifecpaaGreatDoor
open Go.RowKit

/-- The cells of literals; their terms lie in blocks below base. -/
def Lies (base : Nat) (w : World) (zs : List LV) (c : List Lt) : Prop :=
  zs.length = c.length ∧ ∀ j z, zs[j]? = some z → z.1 = (c.getD j lt0).1 ∧ SlI 0 base w z.2.1 (c.getD j lt0).2.1 ∧ SlI 0 base w z.2.2 (c.getD j lt0).2.2
theorem Lies.nil (base : Nat) (w : World) : Lies base w [] [] := ⟨rfl, fun j z h => by simp at h⟩
theorem Lies.app {base : Nat} {w : World} {zs ys : List LV} {c d : List Lt} (h : Lies base w zs c) (k : Lies base w ys d) : Lies base w (zs ++ ys) (c ++ d) := by
  refine ⟨by simp [h.1, k.1], fun j z hz => ?_⟩
  by_cases hj : j < zs.length
  · rw [List.getElem?_append_left hj] at hz
    have := h.2 j z hz
    simpa [List.getD, List.getElem?_append_left (show j < c.length by rw [← h.1]; exact hj)] using this
  · rw [List.getElem?_append_right (by omega)] at hz
    have := k.2 _ z hz
    simpa [List.getD, List.getElem?_append_right (show c.length ≤ j by rw [← h.1]; omega), h.1] using this
theorem Lies.same {base : Nat} {w w' : World} {zs : List LV} {c : List Lt} (h : Lies base w zs c) (hs : ∀ b, b < base → b < w.heap.size → w'.heap[b]? = w.heap[b]?) : Lies base w' zs c :=
  ⟨h.1, fun j z hz => by obtain ⟨h1, h2, h3⟩ := h.2 j z hz; exact ⟨h1, h2.same fun b _ hb => hs b hb, h3.same fun b _ hb => hs b hb⟩⟩
theorem Lies.bel {base : Nat} {w w' : World} {zs : List LV} {c : List Lt} (h : Lies base w zs c) (hb : Bel w w') : Lies base w' zs c := h.same fun b _ h2 => hb.block b h2
theorem Lies.mono {base base' : Nat} {w : World} {zs : List LV} {c : List Lt} (h : Lies base w zs c) (hb : base ≤ base') : Lies base' w zs c :=
  ⟨h.1, fun j z hz => by obtain ⟨h1, h2, h3⟩ := h.2 j z hz; exact ⟨h1, h2.mono (Nat.le_refl _) hb, h3.mono (Nat.le_refl _) hb⟩⟩
theorem Lies.one {base : Nat} {w : World} {zs : List LV} {c : List Lt} (h : Lies base w zs c) : ∀ u ∈ cellsC zs, u.oneCell' = true := by
  refine cellsC_one zs fun z hz => ?_
  obtain ⟨j, hj, e⟩ := List.getElem_of_mem hz
  obtain ⟨_, h2, h3⟩ := h.2 j z (by rw [← e]; exact List.getElem?_eq_getElem hj)
  obtain ⟨_, _, e2⟩ := h2.form
  obtain ⟨_, _, e3⟩ := h3.form
  rw [e2, e3]; exact ⟨rfl, rfl⟩
/-- The cells of a slice of literals. -/
theorem SlC.bound {lo hi B : Nat} {w : World} {ad : Option Addr} {n k : Nat} {c : List Lt} (h : SlC lo hi w (.slice ad n k) c) (hh : hi ≤ B) :
    ∃ zs : List LV, Lies B w zs c ∧ ∀ a, ad = some a → ∀ j u, (cellsC zs)[j]? = some u → w.cell? (a.add j) = some u := by
  have hv : ∀ j, j < c.length → ∃ z : LV, z.1 = (c.getD j lt0).1 ∧ SlI 0 B w z.2.1 (c.getD j lt0).2.1 ∧ SlI 0 B w z.2.2 (c.getD j lt0).2.2 ∧ ∀ a, ad = some a → w.cell? (a.add (j * 3)) = some (.bool z.1) ∧ w.cell? (a.add (j * 3 + 1)) = some z.2.1 ∧ w.cell? (a.add (j * 3 + 2)) = some z.2.2 := fun j hj => by
    obtain ⟨b, off, u1, u2, rfl, hb, c1, c2, c3, s1, s2⟩ := h.at (Bel.rfl' w) j hj
    refine ⟨((c.getD j lt0).1, u1, u2), rfl, s1.mono (Nat.zero_le _) hh, s2.mono (Nat.zero_le _) hh, fun a e => ?_⟩
    simp only [Option.some.injEq] at e
    subst e
    rw [addr_add, addr_add, addr_add]
    exact ⟨c1, by rw [← Nat.add_assoc]; exact c2, by rw [← Nat.add_assoc]; exact c3⟩
  obtain ⟨f, hf⟩ := skolem_lt hv
  have hg : ∀ j z, ((List.range c.length).map f)[j]? = some z → j < c.length ∧ z = f j := fun j z hz => by
    have hj : j < c.length := by have := (List.getElem?_eq_some_iff.1 hz).1; simpa using this
    simp [hj] at hz
    exact ⟨hj, hz.symm⟩
  refine ⟨(List.range c.length).map f, ⟨by simp, fun j z hz => ?_⟩, fun a e j u hj => ?_⟩
  · obtain ⟨hj, rfl⟩ := hg j z hz
    obtain ⟨h1, h2, h3, _⟩ := hf j hj
    exact ⟨h1, h2, h3⟩
  · have hlt : j < c.length * 3 := by
      have := (List.getElem?_eq_some_iff.1 hj).1
      rw [cellsC_len] at this; simpa using this
    have hq : j / 3 < c.length := by omega
    obtain ⟨_, _, _, h4⟩ := hf (j / 3) hq
    obtain ⟨k1, k2, k3⟩ := h4 a e
    obtain ⟨m1, m2, m3⟩ := cellsC_get ((List.range c.length).map f) (j / 3) (f (j / 3)) (by simp [hq])
    rcases (show j = j / 3 * 3 ∨ j = j / 3 * 3 + 1 ∨ j = j / 3 * 3 + 2 by omega) with e1 | e1 | e1
    · rw [e1] at hj ⊢; rw [m1] at hj; rw [← hj]; exact k1
    · rw [e1] at hj ⊢; rw [m2] at hj; rw [← hj]; exact k2
    · rw [e1] at hj ⊢; rw [m3] at hj; rw [← hj]; exact k3
/-- A row of the call's own whose terms lie elsewhere. -/
theorem SlC.of_row {w : World} {base B : Nat} {v : Value} {zs : List LV} {c : List Lt} (h : RowC base w v zs) (hl : Lies B w zs c) (hB : B ≤ w.heap.size) : SlC 0 w.heap.size w v c := by
  have h0 := h
  have hzl := hl.1
  obtain ⟨h1, h2⟩ := h
  rcases h2 with ⟨rfl, hn⟩ | ⟨g, cap, cur, rfl, hg, hh, hn, hc, hs, ht⟩
  · obtain rfl : c = [] := List.length_eq_zero_iff.1 (by omega)
    exact SlC.nil _ _ _
  · have hgs : g < w.heap.size := (Array.getElem?_eq_some_iff.1 hh).1
    refine ⟨_, cap, by rw [hzl], by omega, ⟨hc, fun h => by simp at h⟩, fun _ => ⟨g, 0, rfl, Nat.zero_le _, hgs, fun j hj => ?_⟩⟩
    have hz : zs[j]? = some zs[j] := List.getElem?_eq_getElem (by omega)
    obtain ⟨c1, c2, c3⟩ := cellsC_get zs j _ hz
    obtain ⟨e1, s1, s2⟩ := hl.2 j _ hz
    have hcell : ∀ i, i < c.length * 3 → w.cell? ⟨g, 0 + i, none⟩ = (cellsC zs)[i]? := fun i hi => by rw [Nat.zero_add]; exact h0.cellAt i (by omega)
    exact ⟨_, _, by rw [hcell _ (by omega), ← e1]; exact c1, by rw [Nat.add_assoc, hcell _ (by omega)]; exact c2, by rw [Nat.add_assoc, hcell _ (by omega)]; exact c3, s1.mono (Nat.le_refl _) hB, s2.mono (Nat.le_refl _) hB⟩
theorem SlC.in' {lo hi : Nat} {w : World} {v : Value} {c : List Lt} (h : SlC lo hi w v c) : SlC 0 w.heap.size w v c := by
  obtain ⟨ad, cap, rfl, hc, hm, hr⟩ := h
  refine ⟨ad, cap, rfl, hc, hm, fun hp => ?_⟩
  obtain ⟨b, off, e, a1, a2, a3⟩ := hr hp
  obtain ⟨u1, u2, c1, c2, c3, s1, s2⟩ := a3 0 hp
  refine ⟨b, off, e, Nat.zero_le _, World.block_lt_of_cell? _ ⟨_, _, none⟩ c1, fun j hj => ?_⟩
  obtain ⟨u1, u2, c1, c2, c3, s1, s2⟩ := a3 j hj
  exact ⟨u1, u2, c1, c2, c3, s1.in', s2.in'⟩
/-- A cut. -/
theorem SlC.cut {lo hi : Nat} {w : World} {b off n k : Nat} {c : List Lt} (h : SlC lo hi w (.slice (some ⟨b, off, none⟩) n k) c) (i j : Nat) (hij : i ≤ j) (hj : j ≤ c.length) :
    SlC lo hi w (.slice (some ⟨b, off + i * 3, none⟩) (j - i) (k - i)) ((c.drop i).take (j - i)) := by
  obtain ⟨ad, cap, e, hc, hm, hr⟩ := h
  simp only [Value.slice.injEq] at e
  obtain ⟨rfl, rfl, rfl⟩ := e
  have hl : ((c.drop i).take (j - i)).length = j - i := by simp; omega
  refine ⟨_, k - i, by rw [hl], by rw [hl]; omega, ⟨by have := hm.1; omega, fun h => by simp at h⟩, fun hp => ?_⟩
  rw [hl] at hp
  obtain ⟨b', off', e2, a1, a2, a3⟩ := hr (by omega)
  simp only [Option.some.injEq, Addr.mk.injEq, and_true] at e2
  obtain ⟨rfl, rfl⟩ := e2
  refine ⟨b, off + i * 3, rfl, a1, a2, fun q hq => ?_⟩
  rw [hl] at hq
  have e : ((c.drop i).take (j - i)).getD q lt0 = c.getD (i + q) lt0 := by simp [List.getD, hq, List.getElem?_drop]
  rw [e, show off + i * 3 + q * 3 = off + (i + q) * 3 from by omega]
  exact a3 (i + q) (by omega)
theorem SlC.plain {lo hi : Nat} {w : World} {v : Value} {c : List Lt} (h : SlC lo hi w v c) (hp : 0 < c.length) : ∃ b off k, v = .slice (some ⟨b, off, none⟩) c.length k ∧ c.length ≤ k ∧ k ≤ maxLen := by
  obtain ⟨ad, cap, rfl, hc, hm, hr⟩ := h
  obtain ⟨b, off, rfl, _⟩ := hr hp
  exact ⟨b, off, cap, rfl, hc, hm.1⟩
theorem SlC.empty {lo hi : Nat} {w : World} {a : Option Addr} {k : Nat} (hk : k ≤ maxLen) (ha : a = none → k = 0) : SlC lo hi w (.slice a 0 k) [] := ⟨a, k, rfl, Nat.zero_le _, ⟨hk, ha⟩, fun h => absurd h (by simp)⟩
/-- Literals of the call's own or not, in a new slice. -/
def RetSC (w : World) (c : List Lt) (e : Ending) (w' : World) : Prop := ∃ ad n k, e = .returned (.slice ad n k) ∧ SlC 0 w'.heap.size w' (.slice ad n k) c ∧ Bel w w'
theorem lits_take (c : List Lt) (k : Nat) (h : k < c.length) : c.take (k+1) = c.take k ++ [c.getD k lt0] := by rw [List.take_succ_eq_append_getElem h]; simp [List.getD, h]
end Go.Proofs.YtikllmdmifecpaaGreatDoor
end
section
/- Chapter 6: what is concluded; sides; both programs. -/
namespace Go.Proofs.YtikllmdmifecpaaGreatDoor
open Go.RowKit

/-- Literals of the call's own, and a code. -/
def RetCN (w : World) (c : List Lt) (n : Int) (e : Ending) (w' : World) : Prop := ∃ ad m k, e = .returned (.tuple #[.slice ad m k, .int .i64 n]) ∧ OwnC w.heap.size w'.heap.size w' (.slice ad m k) c ∧ Bel w w'
/-- Literals, and a code. -/
def RetSN (w : World) (c : List Lt) (n : Int) (e : Ending) (w' : World) : Prop := ∃ ad m k, e = .returned (.tuple #[.slice ad m k, .int .i64 n]) ∧ SlC 0 w'.heap.size w' (.slice ad m k) c ∧ Bel w w'
def RetCNB (w : World) (c : List Lt) (n : Int) (ok : Bool) (e : Ending) (w' : World) : Prop := ∃ ad m k, e = .returned (.tuple #[.slice ad m k, .int .i64 n, .bool ok]) ∧ OwnC w.heap.size w'.heap.size w' (.slice ad m k) c ∧ Bel w w'
theorem good_of {ar : List Int} {c : List Lt} (hg : goodSign ar = true) (h : okLits ar c = true) : goodClause ar c = true := by unfold goodClause; rw [hg, h]; rfl

set_option maxRecDepth 100000 in
set_option maxHeartbeats 400000 in
theorem l6Out_c (l h : Nat) (v : Value) (ar : List Int) (c : List Lt) (w : World) (hg : goodSign ar = true) (hok : okLits ar c = true) (hv : SlC l h w v c) :
    Calls Tryz.prog 101 #[v] w (RetC w (concl c)) := by
  have h1 := good_of hg hok
  have h2 := tidy_good h1
  have HT := Lib.hid (fun (w' : World) (hb : Bel w w') => l4Tidy_c l h v c w' (okLits_short hok) (hv.below hb))
  have HR := Lib.hid (fun (w' : World) (u : Value) (lo hi : Nat) (hu : SlC lo hi w' u (tidyC c)) => l4Rename_c lo hi u (tidyC c) w' (by have := (goodClause_iff.1 h2).2.1; omega) (rows_flat h2) hu)
  unfold concl
  clear hv h1 h2 hok
  generalize renC (tidyC c) = r at *
  generalize tidyC c = t at *
  go_enter Tryz.func101, Tryz.ntmps101
  go_wp2_with fail
  refine (HT.out _ (Bel.rfl' _)).mono ?_; rintro e w1 ⟨a1, n1, c1, rfl, ho1, hb1⟩
  have HRR := Lib.hid (HR.out _ _ _ _ ho1.sl)
  clear HR HT
  go_wp2_with fail
  refine HRR.out.mono ?_; rintro e w2 ⟨a2, n2, c2, rfl, ho2, hb2⟩
  go_wp2_with fail
  go_ret
  exact ⟨_, _, _, rfl, ho2.mono hb1.size (Nat.le_refl _), hb1.step hb2⟩

set_option maxRecDepth 100000 in
set_option maxHeartbeats 400000 in
theorem concluded_c (l h : Nat) (v : Value) (ar : List Int) (c : List Lt) (w : World) (hg : goodSign ar = true) (hok : okLits ar c = true) (hv : SlC l h w v c) :
    Calls Tryz.prog 60 #[v] w (RetC w (concl c)) := by
  have h1 := good_of hg hok
  have h2 := tidy_good h1
  have HT := Lib.hid (fun (w' : World) (hb : Bel w w') => tidied_c l h v c w' (goodClause_iff.1 h1).2.1 (good_keys h1) (hv.below hb))
  have HR := Lib.hid (fun (w' : World) (u : Value) (lo hi : Nat) (hu : SlC lo hi w' u (tidyC c)) => renamedClause_c lo hi u (tidyC c) w' (by have := (goodClause_iff.1 h2).2.1; omega) (rows_flat h2) hu)
  unfold concl
  clear hv h1 h2 hok
  generalize renC (tidyC c) = r at *
  generalize tidyC c = t at *
  go_enter Tryz.func60, Tryz.ntmps60
  go_wp2_with fail
  refine (HT.out _ (Bel.rfl' _)).mono ?_; rintro e w1 ⟨a1, n1, c1, rfl, ho1, hb1⟩
  have HRR := Lib.hid (HR.out _ _ _ _ ho1.sl)
  clear HR HT
  go_wp2_with fail
  refine HRR.out.mono ?_; rintro e w2 ⟨a2, n2, c2, rfl, ho2, hb2⟩
  go_wp2_with fail
  go_ret
  exact ⟨_, _, _, rfl, ho2.mono hb1.size (Nat.le_refl _), hb1.step hb2⟩

theorem litOk_iff {c : List Lt} {i s : Int} : litOk c i s = true ↔ (0 ≤ i ∧ i < c.length) ∧ (s = 0 ∨ s = 1) := by
  unfold litOk inB
  simp only [Bool.and_eq_true, decide_eq_true_eq]
  omega

set_option maxRecDepth 100000 in
set_option maxHeartbeats 400000 in
theorem hasSide_q (l h : Nat) (v : Value) (c : List Lt) (i s : Int) (q : Bool) (w : World) (hq : litOk c i s = q) (hx : c.length ≤ 1048576) (hv : SlC l h w v c) :
    Calls Tryz.prog 105 #[v, .int .i64 i, .int .i64 s] w (fun e w' => e = .returned (.bool q) ∧ w' = w) := by
  obtain ⟨ad, cap, rfl⟩ := hv.form
  have hI := litOk_iff (c := c) (i := i) (s := s)
  rw [hq] at hI
  clear hv hq
  have hI := Lib.hid hI
  have hq : ∀ (b : Bool), (b = true ↔ (0 ≤ i ∧ i < c.length) ∧ (s = 0 ∨ s = 1)) → b = q := fun b hb => by
    have := hI.out
    cases b <;> cases q <;> simp_all
  have hq := Lib.hid hq
  clear hI
  by_cases h0 : i ≥ 0
  · by_cases h1 : i < c.length
    · by_cases h2 : s = 0
      · go_enter Tryz.func105, Tryz.ntmps105
        go_wp2_with fail
        go_ret
        exact ⟨by rw [← hq.out true (by constructor; intro _; exact ⟨⟨h0, h1⟩, .inl h2⟩; intro _; rfl)]; rfl, rfl⟩
      · by_cases h3 : s = 1
        · go_enter Tryz.func105, Tryz.ntmps105
          go_wp2_with fail
          go_ret
          exact ⟨by rw [← hq.out true (by constructor; intro _; exact ⟨⟨h0, h1⟩, .inr h3⟩; intro _; rfl)]; rfl, rfl⟩
        · go_enter Tryz.func105, Tryz.ntmps105
          go_wp2_with fail
          go_ret
          exact ⟨by rw [← hq.out false (by constructor; intro h; cases h; intro h; omega)]; rfl, rfl⟩
    · go_enter Tryz.func105, Tryz.ntmps105
      go_wp2_with fail
      go_ret
      exact ⟨by rw [← hq.out false (by constructor; intro h; cases h; intro h; omega)]; rfl, rfl⟩
  · go_enter Tryz.func105, Tryz.ntmps105
    go_wp2_with fail
    go_ret
    exact ⟨by rw [← hq.out false (by constructor; intro h; cases h; intro h; omega)]; rfl, rfl⟩

/-- The tail of a slice of literals, as Go spells it. -/
theorem SlC.tail {lo hi : Nat} {w : World} {b off n k : Nat} {c : List Lt} (h : SlC lo hi w (.slice (some ⟨b, off, none⟩) n k) c) (q : Nat) (hq : q ≤ c.length) :
    (k = q ∧ SlC lo hi w (.slice (some ⟨b, off, none⟩) 0 0) (c.drop q)) ∨ (q < k ∧ SlC lo hi w (.slice (some ⟨b, off + q * 3, none⟩) (c.length - q) (k - q)) (c.drop q)) := by
  have hk : c.length ≤ k := by obtain ⟨ad, cap, e, hc, _⟩ := h; simp only [Value.slice.injEq] at e; omega
  rcases Nat.lt_or_ge q k with h1 | h1
  · refine .inr ⟨h1, ?_⟩
    have := h.cut q c.length hq (Nat.le_refl _)
    rwa [List.take_of_length_le (by simp)] at this
  · obtain rfl : k = q := by omega
    refine .inl ⟨rfl, ?_⟩
    have : c.drop k = [] := List.drop_eq_nil_of_le (by omega)
    rw [this]
    exact SlC.empty (Nat.zero_le _) (fun _ => rfl)
theorem SlC.head {lo hi : Nat} {w : World} {b off n k : Nat} {c : List Lt} (h : SlC lo hi w (.slice (some ⟨b, off, none⟩) n k) c) (q : Nat) (hq : q ≤ c.length) :
    SlC lo hi w (.slice (some ⟨b, off, none⟩) q k) (c.take q) := by
  have := h.cut 0 q (Nat.zero_le _) hq
  simpa using this
end Go.Proofs.YtikllmdmifecpaaGreatDoor
end
section
/- Chapter 6, the reference: Resolve. -/
namespace Go.Proofs.YtikllmdmifecpaaGreatDoor
open Go.RowKit

/-- append of literals to a row of the call's own. -/
theorem step_app_lits {w : World} {ops : Array Oper} {o : Oper} {a : Act} {K : Act → World → Prop} {Q : Exit → Act → World → Prop} {E : Prop} (hgd : o.guard = none) (s x : Operand) (d : Nat) (hd : o.dst = some d)
    (ho : o.op = .call { callee := .builtin .append, args := #[s, x], argTypes := #[30, 30] })
    (base B : Nat) (v : Value) (zs : List LV) (acc c : List Lt) (hs : a.eval s = v) (hown : RowC base w v zs) (hz : Lies B w zs acc) (hB : B ≤ base) (b off n k lo hi : Nat) (hx : a.eval x = .slice (some ⟨b, off, none⟩) n k)
    (hsl : SlC lo hi w (.slice (some ⟨b, off, none⟩) n k) c) (hhi : hi ≤ B) (hl : acc.length + c.length ≤ 1048576) (hbase : base ≤ w.heap.size)
    (h : ∀ ad m q w' ys, RowC base w' (.slice ad m q) (zs ++ ys) → Lies B w' (zs ++ ys) (acc ++ c) → w.grownBy w' v.ownBlock → K (a.put (some d) (.slice ad m q)) w') :
    if Region.wanted o (yielded ops a.tmps) = true then Oper.wp Tryz.prog o a w K Q else E := by
  obtain ⟨i0, hi0, hz0, hz1, hz2⟩ := info_parts Tryz.info67
  have hw : Region.wanted o (yielded ops a.tmps) = true := by simp [Region.wanted, hgd]
  rw [if_pos hw]
  rw [← hd] at h
  obtain ⟨ys, hy, hn⟩ := hsl.bound hhi
  have hyl := hy.1
  have hnl : n = c.length := hsl.len
  have hzl := hz.1
  refine wp_append_own w s x 30 ho base 67 i0 (.agg #[.bool false, .slice none 0 0, .slice none 0 0]) 3 56 Tryz.underlying30 hi0 hz0 hz1 hz2 rfl (by decide) v zs.length (cellsC zs) hs hown
    ⟨b, off, none⟩ n k (cellsC ys) hx (by rw [cellsC_len, hyl, hnl]) (hn _ rfl) hy.one (by unfold maxLen; omega) (by omega) hbase (fun v' w' h1 h2 _ => ?_)
  obtain ⟨ad, m, q, rfl⟩ := own_form h1
  refine h ad m q w' ys ?_ ?_ h2
  · show World.ownsRow _ _ _ _ _ _ _
    rw [cellsC_app, List.length_append, hyl, ← hnl]
    exact h1
  · exact (hz.app hy).same fun b' h3 h4 => h2.block b' h4 fun e => by have := own_base hown b' e.symm; omega
theorem SlC.grown {hi : Nat} {w w' : World} {v vs : Value} {c : List Lt} (h : SlC 0 hi w v c) (hg : w.grownBy w' vs.ownBlock) (hb : ∀ g, vs.ownBlock = some g → hi ≤ g) : SlC 0 hi w' v c :=
  h.same fun b _ h2 h3 => hg.block b h3 fun e => by have := hb b e.symm; omega
theorem row_lit0 (w : World) : RowC w.heap.size (w.alloc (.cells #[] 67)).drew (.slice (some ⟨w.heap.size, 0, none⟩) 0 0) [] :=
  ownsRow_bel (World.ownsRow_lit w #[] 0 (Nat.le_refl _) (Nat.zero_le _) rfl) (Bel.drew0 _)
theorem dropAt_len (c : List Lt) (k : Nat) : (dropAt c k).length ≤ c.length := by unfold dropAt; simp; omega

set_option maxRecDepth 100000 in
set_option maxHeartbeats 2000000 in
theorem l6Resolve_c (l h l' h' : Nat) (v u : Value) (ar : List Int) (c : List Lt) (i : Int) (w : World) (hg : goodSign ar = true) (hc : okLits ar c = true) (hv : SlI l h w v ar) (hu : SlC l' h' w u c) :
    Calls Tryz.prog 62 #[.agg #[v], u, .int .i64 i] w (RetCN w (concl (resR ar c i).1) (resR ar c i).2) := by
  obtain ⟨h8, hokx⟩ := okLits_iff.1 hc
  obtain ⟨ad, cap, rfl⟩ := hu.form
  cases hin : inB i 0 ((c.length : Int) - 1) with
  | false =>
    rw [resR_none (by rw [hin]; rfl)]
    have HI := Lib.hid hin
    clear hin hu hv hokx
    go_enter Tryz.func62, Tryz.ntmps62
    go_wp2_with fail
    refine (l1In_qv _ _ _ false HI.out _).mono ?_; rintro e w1 ⟨rfl, rfl⟩
    go_wp2_with fail
    go_ret2
    exact ⟨_, _, _, rfl, OwnC.nil _ _ _, Bel.alloc0 _ _⟩
  | true =>
    have hb0 : 0 ≤ i ∧ i ≤ (c.length : Int) - 1 := by unfold inB at hin; simpa using hin
    obtain ⟨k, rfl⟩ : ∃ k : Nat, i = (k : Int) := ⟨i.toNat, by omega⟩
    have hkl : k < c.length := by omega
    have hkI : (k : Int) < c.length := by omega
    have hHI := Lib.hid hin
    obtain ⟨b, off, u1, u2, rfl, hbs, c1, c2, c3, s1, s2⟩ := hu.at (Bel.rfl' w) k hkl
    cases hpos : (c.getD k lt0).1 with
    | true =>
      rw [resR_none (by rw [hin, Int.toNat_natCast, hpos]; rfl)]
      rw [hpos] at c1
      have c1' := (Bel.alloc0 w (.cells #[v] 33)).at hbs c1
      clear hin hu hv hokx s1 s2 hpos
      go_enter Tryz.func62, Tryz.ntmps62
      go_wp2_with fail
      refine (l1In_qv _ _ _ true hHI.out _).mono ?_; rintro e w1 ⟨rfl, rfl⟩
      go_wp2_with fail
      go_ret2
      exact ⟨_, _, _, rfl, OwnC.nil _ _ _, Bel.alloc0 _ _⟩
    | false =>
      have hcond : (inB (k : Int) 0 ((c.length : Int) - 1) && !(c.getD (k : Int).toNat lt0).1) = true := by rw [hin, Int.toNat_natCast, hpos]; rfl
      rw [hpos] at c1
      obtain ⟨o1, o2⟩ := okLits_get hokx k hkl
      have hu0 := uniOk0_of hg o1 o2
      obtain ⟨ea, eo⟩ := uni_ans hu0
      have HU := Lib.hid (fun (w' : World) (hb : Bel w w') => (by
        have := l2Unify_c _ _ _ _ _ _ v u1 u2 ar _ _ w' hg o1 o2 (hv.below hb) (s1.below hb) (s2.below hb)
        rw [← ea, ← eo] at this
        exact this : Calls Tryz.prog 96 #[.agg #[v], u1, u2] w' (RetSSB w' (unifyAns ar (c.getD k lt0).2.1 (c.getD k lt0).2.2) (unifyOk ar (c.getD k lt0).2.1 (c.getD k lt0).2.2))))
      have HF := Lib.hid (fun (w' : World) (hb : Bel (w.alloc (.cells #[v] 33)) w') => (⟨boxc hb 0 _ rfl, hb.at (by simp; omega) ((Bel.alloc0 w _).at hbs c1), hb.at (by simp; omega) ((Bel.alloc0 w _).at hbs c2), hb.at (by simp; omega) ((Bel.alloc0 w _).at hbs c3)⟩ : (w'.cell? ⟨w.heap.size, 0, none⟩ = some v ∧ w'.cell? ⟨b, off + k * 3, none⟩ = some (.bool false) ∧ w'.cell? ⟨b, off + k * 3 + 1, none⟩ = some u1 ∧ w'.cell? ⟨b, off + k * 3 + 2, none⟩ = some u2)))
      obtain ⟨m1, m2, m3, m4⟩ := HF.out _ (Bel.rfl' _)
      obtain ⟨n1, n2, n3, n4⟩ := HF.out _ ((Bel.rfl' _).drew)
      cases hun : unifyOk ar (c.getD k lt0).2.1 (c.getD k lt0).2.2 with
      | false =>
        rw [resR_apart hcond (by rw [Int.toNat_natCast]; exact hun)]
        rw [hun] at HU
        have HUU := HU
        clear hin hcond hu hv hokx hu0 ea eo o1 o2 hun HU c1 c2 c3
        generalize c.getD k lt0 = x at *
        obtain ⟨px, xl, xr⟩ := x
        simp only at *
        obtain ⟨a1, e1, rfl⟩ := s1.form
        obtain ⟨a2, e2, rfl⟩ := s2.form
        clear s1 s2
        go_enter Tryz.func62, Tryz.ntmps62
        go_wp2_with fail
        refine (l1In_qv _ _ _ true hHI.out _).mono ?_; rintro e w1 ⟨rfl, rfl⟩
        go_wp2_with fail
        have B0 := (Bel.alloc0 w (.cells #[v] 33)).drew
        go_region_held3 (fun w' => w'.cell? ⟨w.heap.size, 0, none⟩ = some v ∧ w'.cell? ⟨b, off + k * 3, none⟩ = some (.bool false) ∧ w'.cell? ⟨b, off + k * 3 + 1, none⟩ = some (.slice a1 xl.length e1) ∧ w'.cell? ⟨b, off + k * 3 + 2, none⟩ = some (.slice a2 xr.length e2))
          (first | exact ⟨n1, n2, n3, n4⟩ | exact HF.out _ ((Bel.rfl' _).drew.step hb1) | fail)
          (first | (go_at_call 96; refine (HUU.out _ B0).mono ?_; rintro e w2 ⟨a3, n5, e3, rfl, ho3, hb1⟩) | fail)
        all_goals
          go_wp2_with fail
          go_ret2
          exact ⟨_, _, _, rfl, OwnC.nil _ _ _, B0.step hb1⟩
      | true =>
        have hsub := unify_subst hun
        obtain ⟨hl12, h40⟩ := unify_seat hun
        have hfr := flat_rows hc
        have hsa := applyC_short h40 hc
        have HA := Lib.hid (fun (w' : World) (y : Value) (lo hi : Nat) (hb : Bel w w') (hy : SlS lo hi w' y (unifyAns ar (c.getD k lt0).2.1 (c.getD k lt0).2.2)) => l4Apply_c l' h' lo hi _ y _ c w' hl12 h40 (by omega) hfr hy (hu.below hb))
        have HCL := Lib.hid (fun (w' : World) (y : Value) (lo hi : Nat) (q : Bool) (hb : Bel w w') (he : okLits ar (applyC (unifyAns ar (c.getD k lt0).2.1 (c.getD k lt0).2.2) c) = q) (hy : SlC lo hi w' y (applyC (unifyAns ar (c.getD k lt0).2.1 (c.getD k lt0).2.2) c)) => l4Clause_v l h lo hi v y ar _ q w' he hg hsa (hv.below hb) hy)
        have hlen : (applyC (unifyAns ar (c.getD k lt0).2.1 (c.getD k lt0).2.2) c).length = c.length := by simp [applyC]
        rw [hun] at HU
        have HUU := HU
        cases hbig : okLits ar (applyC (unifyAns ar (c.getD k lt0).2.1 (c.getD k lt0).2.2) c) with
        | false =>
          rw [resR_big hcond (by rw [Int.toNat_natCast]; exact hun) (by rw [Int.toNat_natCast]; exact hbig)]
          have HB := Lib.hid hbig
          clear hin hcond hu hv hokx hu0 ea eo o1 o2 hun HU c1 c2 c3 hsub hl12 h40 hfr hsa hbig hlen
          generalize applyC (unifyAns ar (c.getD k lt0).2.1 (c.getD k lt0).2.2) c = cb at *
          generalize unifyAns ar (c.getD k lt0).2.1 (c.getD k lt0).2.2 = U at *
          generalize c.getD k lt0 = x at *
          obtain ⟨px, xl, xr⟩ := x
          simp only at *
          obtain ⟨a1, e1, rfl⟩ := s1.form
          obtain ⟨a2, e2, rfl⟩ := s2.form
          clear s1 s2
          go_enter Tryz.func62, Tryz.ntmps62
          go_wp2_with fail
          refine (l1In_qv _ _ _ true hHI.out _).mono ?_; rintro e w1 ⟨rfl, rfl⟩
          go_wp2_with fail
          have B0 := (Bel.alloc0 w (.cells #[v] 33)).drew
          go_region_held3 (fun w' => w'.cell? ⟨w.heap.size, 0, none⟩ = some v ∧ w'.cell? ⟨b, off + k * 3, none⟩ = some (.bool false) ∧ w'.cell? ⟨b, off + k * 3 + 1, none⟩ = some (.slice a1 xl.length e1) ∧ w'.cell? ⟨b, off + k * 3 + 2, none⟩ = some (.slice a2 xr.length e2))
            (first | exact ⟨n1, n2, n3, n4⟩ | exact HF.out _ ((Bel.rfl' _).drew.step hb1) | fail)
            (first | (go_at_call 96; refine (HUU.out _ B0).mono ?_; rintro e w2 ⟨a3, n5, e3, rfl, ho3, hb1⟩) | fail)
          all_goals
            have B1 := B0.step hb1
            have m5 := (HF.out _ ((Bel.rfl' _).drew.step hb1)).1
            have HAA := Lib.hid (HA.out _ _ _ _ B1 ho3.sl)
            clear HA
            go_wp2_with fail
            refine HAA.out.mono ?_; rintro e w3 ⟨a4, n6, e4, rfl, ho4, hb2⟩
            have m6 := hb2.at (World.block_lt_of_cell? _ ⟨_, _, none⟩ m5) m5
            have HCC := Lib.hid (HCL.out _ _ _ _ false (B1.step hb2) HB.out ho4.sl)
            clear HCL
            go_wp2_with fail
            refine HCC.out.mono ?_; rintro e w4 ⟨rfl, hb3⟩
            go_wp2_with fail
            go_ret2
            exact ⟨_, _, _, rfl, OwnC.nil _ _ _, (B1.step hb2).step hb3⟩
        | true =>
          have hcb8 := (okLits_iff.1 hbig).1
          rw [resR_yes hcond (by rw [Int.toNat_natCast]; exact hun) (by rw [Int.toNat_natCast]; exact hbig), Int.toNat_natCast]
          dsimp only
          have hdk := dropAt_ok k hbig
          have HO := Lib.hid (fun (w' : World) (y : Value) (lo hi : Nat) (hy : SlC lo hi w' y (dropAt (applyC (unifyAns ar (c.getD k lt0).2.1 (c.getD k lt0).2.2) c) k)) => l6Out_c lo hi y ar _ w' hg hdk hy)
          have HM := Lib.hid (fun (w' : World) (y : Value) (lo hi : Nat) (hy : SlC lo hi w' y (applyC (unifyAns ar (c.getD k lt0).2.1 (c.getD k lt0).2.2) c)) => l4Maximal_c lo hi y _ k w' hsa (by rw [hlen]; exact hkl) (okLits_low hbig) hy)
          have HB := Lib.hid hbig
          clear hin hcond hu hv hokx hu0 ea eo o1 o2 hun HU c1 c2 c3 hsub hl12 h40 hfr hsa hbig hdk hc
          generalize applyC (unifyAns ar (c.getD k lt0).2.1 (c.getD k lt0).2.2) c = cb at *
          generalize unifyAns ar (c.getD k lt0).2.1 (c.getD k lt0).2.2 = U at *
          generalize c.getD k lt0 = x at *
          obtain ⟨px, xl, xr⟩ := x
          simp only at *
          obtain ⟨a1, e1, rfl⟩ := s1.form
          obtain ⟨a2, e2, rfl⟩ := s2.form
          clear s1 s2
          generalize hR : concl (dropAt cb k) = R at *
          have HR := Lib.hid hR
          clear hR
          generalize hN : (if maxAt cb k = true then (0:Int) else 5) = N
          have HNN := Lib.hid hN
          clear hN
          generalize maxAt cb k = M at *
          go_enter Tryz.func62, Tryz.ntmps62
          go_wp2_with fail
          refine (l1In_qv _ _ _ true hHI.out _).mono ?_; rintro e w1 ⟨rfl, rfl⟩
          go_wp2_with fail
          have B0 := (Bel.alloc0 w (.cells #[v] 33)).drew
          go_region_held3 (fun w' => w'.cell? ⟨w.heap.size, 0, none⟩ = some v ∧ w'.cell? ⟨b, off + k * 3, none⟩ = some (.bool false) ∧ w'.cell? ⟨b, off + k * 3 + 1, none⟩ = some (.slice a1 xl.length e1) ∧ w'.cell? ⟨b, off + k * 3 + 2, none⟩ = some (.slice a2 xr.length e2))
            (first | exact ⟨n1, n2, n3, n4⟩ | exact HF.out _ ((Bel.rfl' _).drew.step hb1) | fail)
            (first | (go_at_call 96; refine (HUU.out _ B0).mono ?_; rintro e w2 ⟨a3, n5, e3, rfl, ho3, hb1⟩) | fail)
          all_goals
            have B1 := B0.step hb1
            have m5 := (HF.out _ ((Bel.rfl' _).drew.step hb1)).1
            have HAA := Lib.hid (HA.out _ _ _ _ B1 ho3.sl)
            clear HA
            go_wp2_with fail
            refine HAA.out.mono ?_; rintro e w3 ⟨a4, n6, e4, rfl, ho4, hb2⟩
            have m6 := hb2.at (World.block_lt_of_cell? _ ⟨_, _, none⟩ m5) m5
            have HCC := Lib.hid (HCL.out _ _ _ _ true (B1.step hb2) HB.out ho4.sl)
            clear HCL
            go_wp2_with fail
            refine HCC.out.mono ?_; rintro e w4 ⟨rfl, hb3⟩
            have hn6 := ho4.sl.len
            subst hn6
            have hsl4 := ho4.sl.below hb3
            have B3 := (B1.step hb2).step hb3
            have hkc : k < cb.length := by rw [hlen]; exact hkl
            have hkcI : (k : Int) < cb.length := by omega
            obtain ⟨bq, oq, kq, eq4, hkq, hkm⟩ := hsl4.plain (by omega)
            simp only [Value.slice.injEq] at eq4
            obtain ⟨rfl, -, rfl⟩ := eq4
            clear m1 m2 m3 m4 n1 n2 n3 n4 m5 m6 HF HUU hlen
            have HZ := hsl4.in'
            obtain ⟨q, hq⟩ : ∃ q, q = k + 1 := ⟨_, rfl⟩
            have hq4 : (q : Int) ≤ cb.length := by omega
            have hqn : q ≤ cb.length := by omega
            have hHd := Lib.hid (HZ.head k (Nat.le_of_lt hkc))
            have hTl := HZ.tail q hqn
            have R0 := row_lit0 w4
            have BB0 : Bel w4 (w4.alloc (.cells #[] 67)).drew := (Bel.alloc0 _ _).drew
            have HH0 := hHd.out.below BB0
            have L0 := Lies.nil w4.heap.size (w4.alloc (.cells #[] 67)).drew
            have hz0 : w4.heap.size ≤ (w4.alloc (.cells #[] 67)).drew.heap.size := BB0.size
            have hw1 : IntKind.i64.wrap ((k : Int) + 1) = (q : Int) := by rw [IntWalk.i64_in ((k : Int) + 1) (by omega)]; omega
            have htl : ([] : List Lt).length + (cb.take k).length ≤ 1048576 := by simp; omega
            have htl2 : ([] ++ cb.take k).length + (cb.drop q).length ≤ 1048576 := by simp; omega
            have hkq1 : (k : Int) ≤ e4 := by omega
            have hkq2 : (q : Int) ≤ e4 := by omega
            have hDR : Hid ([] ++ cb.take k ++ cb.drop q = dropAt cb k) := by show _ = _; rw [hq]; rfl
            clear hq
            rcases hTl with ⟨hTe, hTs⟩ | ⟨hTe, hTs⟩
            · obtain rfl : e4 = q := hTe
              have HT0 := hTs.below BB0
              go_wp2_with fail
              go_region_law
                (first
                  | (refine step_app_lits rfl (.tmp 53) (.tmp 57) 58 rfl rfl w4.heap.size w4.heap.size _ _ _ (cb.drop e4) rfl R1 L1 (Nat.le_refl _) bq oq 0 0 0 w4.heap.size rfl HT1 (Nat.le_refl _) htl2 (Nat.le_trans hz0 hg1.size) ?_; intro a6 n6 c6 w6 ys2 R2 L2 hg2)
                  | (refine step_app_lits rfl (.tmp 49) (.tmp 52) 53 rfl rfl w4.heap.size w4.heap.size _ [] [] (cb.take k) rfl R0 L0 (Nat.le_refl _) bq oq k _ 0 w4.heap.size rfl HH0 (Nat.le_refl _) htl hz0 ?_; intro a5 n5 c5 w5 ys R1 L1 hg1; have HT1 := HT0.grown hg1 (fun g hg => own_base R0 g hg))
                  | fail)
              all_goals
                have HB6 := ((B3.step BB0).grown hg1 (fun g hg => Nat.le_trans B3.size (own_base R0 g hg))).grown hg2 (fun g hg => Nat.le_trans B3.size (own_base R1 g hg))
                have HS6 := SlC.of_row R2 L2 (Nat.le_trans hz0 (Nat.le_trans hg1.size hg2.size))
                rw [hDR.out] at HS6
                have HMM := Lib.hid (HM.out _ _ _ _ (((HZ.below BB0).grown hg1 (fun g hg => own_base R0 g hg)).grown hg2 (fun g hg => own_base R1 g hg)))
                have HOO := Lib.hid (fun (w' : World) (hb : Bel w6 w') => HO.out _ _ _ _ (HS6.below hb))
                clear HM HO HS6 R0 R1 R2 L0 L1 L2 HT0 HT1 HH0 hTs hDR
                go_wp2_with fail
                refine HMM.out.mono ?_; rintro e w7 ⟨rfl, hb7⟩
                cases M with
                | true =>
                  have hN0 : N = 0 := HNN.out.symm.trans (if_pos rfl)
                  subst hN0
                  go_wp2_with fail
                  refine (HOO.out _ hb7).mono ?_; rintro e w8 ⟨a8, n8, c8, rfl, ho8, hb8⟩
                  go_wp2_with fail
                  go_ret2
                  exact ⟨_, _, _, rfl, ho8.mono (Nat.le_trans HB6.size hb7.size) (Nat.le_refl _), HB6.step (hb7.step hb8)⟩
                | false =>
                  have hN0 : N = 5 := HNN.out.symm.trans (if_neg (by simp))
                  subst hN0
                  go_wp2_with fail
                  refine (HOO.out _ hb7).mono ?_; rintro e w8 ⟨a8, n8, c8, rfl, ho8, hb8⟩
                  go_wp2_with fail
                  go_ret2
                  exact ⟨_, _, _, rfl, ho8.mono (Nat.le_trans HB6.size hb7.size) (Nat.le_refl _), HB6.step (hb7.step hb8)⟩
            · have HT0 := hTs.below BB0
              have hne : ¬ e4 = q := by omega
              go_wp2_with fail
              go_region_law
                (first
                  | (refine step_app_lits rfl (.tmp 53) (.tmp 57) 58 rfl rfl w4.heap.size w4.heap.size _ _ _ (cb.drop q) rfl R1 L1 (Nat.le_refl _) bq (oq + q*3) _ _ 0 w4.heap.size rfl HT1 (Nat.le_refl _) htl2 (Nat.le_trans hz0 hg1.size) ?_; intro a6 n6 c6 w6 ys2 R2 L2 hg2)
                  | (refine step_app_lits rfl (.tmp 49) (.tmp 52) 53 rfl rfl w4.heap.size w4.heap.size _ [] [] (cb.take k) rfl R0 L0 (Nat.le_refl _) bq oq k _ 0 w4.heap.size rfl HH0 (Nat.le_refl _) htl hz0 ?_; intro a5 n5 c5 w5 ys R1 L1 hg1; have HT1 := HT0.grown hg1 (fun g hg => own_base R0 g hg))
                  | fail)
              all_goals
                have HB6 := ((B3.step BB0).grown hg1 (fun g hg => Nat.le_trans B3.size (own_base R0 g hg))).grown hg2 (fun g hg => Nat.le_trans B3.size (own_base R1 g hg))
                have HS6 := SlC.of_row R2 L2 (Nat.le_trans hz0 (Nat.le_trans hg1.size hg2.size))
                rw [hDR.out] at HS6
                have HMM := Lib.hid (HM.out _ _ _ _ (((HZ.below BB0).grown hg1 (fun g hg => own_base R0 g hg)).grown hg2 (fun g hg => own_base R1 g hg)))
                have HOO := Lib.hid (fun (w' : World) (hb : Bel w6 w') => HO.out _ _ _ _ (HS6.below hb))
                clear HM HO HS6 R0 R1 R2 L0 L1 L2 HT0 HT1 HH0 hTs hDR
                go_wp2_with fail
                refine HMM.out.mono ?_; rintro e w7 ⟨rfl, hb7⟩
                cases M with
                | true =>
                  have hN0 : N = 0 := HNN.out.symm.trans (if_pos rfl)
                  subst hN0
                  go_wp2_with fail
                  refine (HOO.out _ hb7).mono ?_; rintro e w8 ⟨a8, n8, c8, rfl, ho8, hb8⟩
                  go_wp2_with fail
                  go_ret2
                  exact ⟨_, _, _, rfl, ho8.mono (Nat.le_trans HB6.size hb7.size) (Nat.le_refl _), HB6.step (hb7.step hb8)⟩
                | false =>
                  have hN0 : N = 5 := HNN.out.symm.trans (if_neg (by simp))
                  subst hN0
                  go_wp2_with fail
                  refine (HOO.out _ hb7).mono ?_; rintro e w8 ⟨a8, n8, c8, rfl, ho8, hb8⟩
                  go_wp2_with fail
                  go_ret2
                  exact ⟨_, _, _, rfl, ho8.mono (Nat.le_trans HB6.size hb7.size) (Nat.le_refl _), HB6.step (hb7.step hb8)⟩
set_option maxRecDepth 100000 in
set_option maxHeartbeats 1000000 in
theorem sResolve_t {l h l' h' : Nat} {v u : Value} {ar : List Int} {c : List Lt} {w : World} (ha : ar.length ≤ 1048576) (hv : SlI l h w v ar) (hc : sumC c ≤ 1048576) (hu : SlC l' h' w u c) {i : Int} (_ : -9223372036854775808 ≤ i) (_ : i ≤ 9223372036854775807) :
    Calls Tryz.prog 21 #[.agg #[v], u, .int .i64 i] w (RetCNB w (resAns ar c i) (resNo ar c i) (goodClause ar c)) := by
  unfold resAns resNo
  cases hs : goodClause ar c with
  | false =>
    rw [if_neg (by simp), if_neg (by simp)]
    have HS := Lib.hid hs; clear hs
    go_enter Tryz.func21, Tryz.ntmps21
    go_wp2_with fail
    refine (sGoodClause_v HS.out ha (hv.alloc _) hc (hu.alloc _)).mono ?_; rintro e w1 ⟨rfl, hb1⟩
    go_wp2_with fail
    go_ret3
    exact ⟨_, _, _, rfl, OwnC.nil _ _ _, hb1.of_alloc⟩
  | true =>
    rw [if_pos rfl, if_pos rfl]
    have hg := (goodClause_iff.1 hs).1
    have hq1 : okLits ar c = true := by unfold goodClause at hs; exact (Bool.and_eq_true_iff.1 hs).2
    have HA := Lib.hid (fun (w' : World) (hb' : Bel w w') => l6Resolve_c _ _ _ _ v u ar c i w' hg hq1 (hv.below hb') (hu.below hb'))
    have HS := Lib.hid hs; clear hs
    generalize resR ar c i = RR at *
    obtain ⟨r, n⟩ := RR
    dsimp only at *
    generalize concl r = R at *
    go_enter Tryz.func21, Tryz.ntmps21
    go_wp2_with fail
    refine (sGoodClause_v HS.out ha (hv.alloc _) hc (hu.alloc _)).mono ?_; rintro e w1 ⟨rfl, hb1⟩
    have hbox := boxc hb1 0 _ rfl
    go_wp2_with fail
    refine (HA.out _ hb1.of_alloc).mono ?_; rintro e w2 ⟨a2, n2, c2, rfl, ho2, hb2⟩
    go_wp2_with fail
    go_ret3
    exact ⟨_, _, _, rfl, ho2.mono hb1.of_alloc.size (Nat.le_refl _), hb1.of_alloc.step hb2⟩
end Go.Proofs.YtikllmdmifecpaaGreatDoor
end
section
/- slices.Concat and Clone of clauses. -/
namespace Go.Proofs.YtikllmdmifecpaaGreatDoor
open Go.RowKit

set_option maxRecDepth 100000 in
theorem growC_c (n : Nat) (w : World) (hn : n ≤ 1099511627776) :
    Calls Tryz.prog 163 #[.slice none 0 0, .int .i64 n] w fun e w' => ∃ ad m c, e = .returned (.slice ad m c) ∧ RowC w.heap.size w' (.slice ad m c) [] ∧ Bel w w' := by
  obtain ⟨i0, hi0, hz0, hz1, hz2⟩ := info_parts Tryz.info67
  rcases Nat.eq_zero_or_pos n with rfl | hp
  · go_enter Tryz.func163, Tryz.ntmps163
    go_wp2_with fail
    go_ret
    exact ⟨_, _, _, rfl, RowC.nil _ _, Bel.rfl' _⟩
  · have hrun := Lib.run_append_nil_zeros (P := Tryz.prog) w 30 3 30 67 i0 (.agg #[.bool false, .slice none 0 0, .slice none 0 0]) .i64 .i64 Tryz.underlying30 Tryz.underlying3 hi0 hz0 n hp (by omega) (by omega) (by rw [hz2]; omega)
    go_enter Tryz.func163, Tryz.ntmps163
    go_wp2_with (at_builtin; refine Lib.wpList_append_run _ rfl _ _ _ _ rfl _ _ rfl rfl _ _ hrun ?_)
    go_ret
    refine ⟨_, _, _, rfl, ⟨by simp [cellsC], .inr ⟨w.heap.size, grownCap w n 0 67, _, rfl, Nat.le_refl _, heap_alloc_new w _, Nat.zero_le _, grownCap_le_maxLen w n 0 67 (by unfold maxLen; omega), ?_, by simp [cellsC]⟩⟩, (Bel.alloc0 w _).drew⟩
    have := grownCap_ge w n 0 67
    simp [size_zeroCells]
    omega

/-- Slices of literals, as Concat reads them. -/
def PartsC (w : World) (B o : Nat) (L : List (List Lt)) : Prop :=
  ∀ j, j < L.length → ∃ ad c, w.cell? ⟨B, o + j, none⟩ = some (.slice ad (L.getD j []).length c) ∧ SlC 0 w.heap.size w (.slice ad (L.getD j []).length c) (L.getD j [])
theorem PartsC.below {w w' : World} {B o : Nat} {L : List (List Lt)} (h : PartsC w B o L) (hb : Bel w w') : ∀ j, j < L.length → ∃ ad c, w'.cell? ⟨B, o + j, none⟩ = some (.slice ad (L.getD j []).length c) ∧ SlC 0 w.heap.size w' (.slice ad (L.getD j []).length c) (L.getD j []) := fun j hj => by
  obtain ⟨ad, c, h1, h2⟩ := h j hj
  exact ⟨ad, c, hb.at (World.block_lt_of_cell? w ⟨B, o + j, none⟩ h1) h1, h2.below hb⟩
def sumLenC (L : List (List Lt)) : Nat := (L.map List.length).sum
theorem sumLenC_take (L : List (List Lt)) (j : Nat) (h : j < L.length) : sumLenC (L.take (j+1)) = sumLenC (L.take j) + (L.getD j []).length := by
  unfold sumLenC
  rw [List.take_succ_eq_append_getElem h, List.map_append, List.sum_append]
  simp only [List.map_cons, List.map_nil, List.sum_cons, List.sum_nil, Nat.add_zero]
  simp [List.getD, h]
theorem sumLenC_le (L : List (List Lt)) (j : Nat) : sumLenC (L.take j) ≤ sumLenC L := by
  unfold sumLenC
  conv => rhs; rw [← List.take_append_drop j L]
  rw [List.map_append, List.sum_append]
  exact Nat.le_add_right _ _
theorem flatCC_take (L : List (List Lt)) (j : Nat) (h : j < L.length) : (L.take (j+1)).flatten = (L.take j).flatten ++ L.getD j [] := by
  rw [List.take_succ_eq_append_getElem h, List.flatten_append]
  simp only [List.flatten_cons, List.flatten_nil, List.append_nil]
  simp [List.getD, h]
theorem flatCC_len (L : List (List Lt)) : L.flatten.length = sumLenC L := by simp [sumLenC, List.length_flatten]
theorem wp_app_lits {wr : World} {base : Nat} {vs : Value} {zs ys : List LV} {acc c : List Lt} {W' : World} {v' : Value}
    (hz : Lies base wr zs acc) (hy : Lies base wr ys c) (hown : RowC base wr vs zs) (hlo : base ≤ wr.heap.size) (h1 : W'.ownsRow base 67 3 v' (zs.length + ys.length) (cellsC zs ++ cellsC ys)) (hg : wr.grownBy W' vs.ownBlock) :
    RowC base W' v' (zs ++ ys) ∧ Lies base W' (zs ++ ys) (acc ++ c) := by
  refine ⟨by show World.ownsRow _ _ _ _ _ _ _; rw [cellsC_app, List.length_append]; exact h1, (hz.app hy).same fun b h2 h3 => hg.block b h3 fun e => ?_⟩
  have := own_base hown b e.symm
  omega

set_option maxRecDepth 100000 in
set_option maxHeartbeats 1000000 in
theorem concatC_c (B o c : Nat) (L : List (List Lt)) (w : World) (hL : L.length ≤ 1048576) (hs : sumLenC L ≤ 1099511627776) (hp : PartsC w B o L) :
    Calls Tryz.prog 115 #[.slice (some ⟨B, o, none⟩) L.length c] w (RetSC w L.flatten) := by
  obtain ⟨i0, hi0, hz0, hz1, hz2⟩ := info_parts Tryz.info67
  go_enter Tryz.func115, Tryz.ntmps115
  go_wp2_with fail
  go_loop [3, 11] (fun n i => ∃ j : Nat, j ≤ L.length ∧ i = .int .i64 j ∧ n = .int .i64 (sumLenC (L.take j))) (fun _ i => L.length - (intOf i).toNat)
  case atStart => exact ⟨0, Nat.zero_le _, rfl, by simp [sumLenC]⟩
  case round =>
    obtain ⟨j, hj, rfl, rfl⟩ := hrel
    have hle := sumLenC_le L j
    by_cases hlt : j < L.length
    · obtain ⟨ad, cc, hcell, hsl⟩ := hp j hlt
      have E := Lib.hid (sumLenC_take L j hlt)
      have hle2 := sumLenC_le L (j + 1)
      rw [E.out] at hle2
      clear hp hsl
      generalize L.getD j [] = xs at *
      generalize sumLenC (L.take j) = m at *
      go_wp2_with fail
      go_round
      case rel => exact ⟨j + 1, by omega, by go_num, by rw [E.out]; go_num⟩
      case measure => simp [intOf]; omega
    · have e1 : L.take j = L := List.take_of_length_le (by omega)
      rw [e1]
      clear e1
      go_wp2_with fail
      refine (growC_c (sumLenC L) _ (by omega)).mono ?_; rintro e w1 ⟨ad, m, c1, rfl, hown, hb⟩
      go_wp2_with fail
      go_loopw [6, 27] (fun v i wr => ∃ (j : Nat) (zs : List LV), j ≤ L.length ∧ i = .int .i64 j ∧ RowC w.heap.size wr v zs ∧ Lies w.heap.size wr zs (L.take j).flatten ∧ Bel w wr) (fun _ i _ => L.length - (intOf i).toNat)
      case atStart => exact ⟨0, [], Nat.zero_le _, rfl, hown, Lies.nil _ _, hb⟩
      case round =>
        obtain ⟨j, zs, hj, rfl, hown, hlies, hb⟩ := hrel
        have hle := sumLenC_le L j
        rw [← flatCC_len, ← hlies.1] at hle
        by_cases hlt : j < L.length
        · obtain ⟨ad, cc, hcell, hsl⟩ := (hp.below hb) j hlt
          have E := Lib.hid (flatCC_take L j hlt)
          have hle2 := sumLenC_le L (j + 1)
          rw [← flatCC_len, E.out, List.length_append, ← hlies.1] at hle2
          clear hp
          generalize L.getD j [] = xs at *
          generalize (L.take j).flatten = acc at *
          cases ad with
          | none =>
            obtain ⟨ad', cap', e, -, hm, hr⟩ := hsl
            simp only [Value.slice.injEq] at e
            obtain ⟨rfl, -, rfl⟩ := e
            obtain rfl : xs = [] := by
              rcases Nat.eq_zero_or_pos xs.length with h0 | h0
              · exact List.length_eq_zero_iff.1 h0
              · obtain ⟨_, _, e, _⟩ := hr h0; simp at e
            obtain rfl : cc = 0 := hm.2 rfl
            have E2 := Lib.hid (show (L.take (j+1)).flatten = acc by rw [E.out]; simp)
            have HL := Lib.hid hlies
            clear hr hm E hlies
            go_wp2_with (at_builtin; refine wpList_append_own_none rfl _ _ 30 rfl w.heap.size 67 i0 3 Tryz.underlying30 hi0 _ _ _ rfl hown rfl ?_)
            go_roundw
            case rel => exact ⟨j + 1, zs, by omega, by go_num, hown, by rw [E2.out]; exact HL.out, hb⟩
            case measure => simp [intOf]; omega
          | some a =>
            obtain ⟨ys, hy, hn⟩ := hsl.bound (Nat.le_refl _)
            have hyl := hy.1
            have HN := hn a rfl
            have hyo := hy.one
            have HL := Lib.hid (And.intro hlies hy)
            have HYL := Lib.hid hyl
            clear hsl hn hlies hy
            go_wp2_with (at_builtin; refine wpList_append_own _ rfl _ _ 30 rfl w.heap.size 67 i0 (.agg #[.bool false, .slice none 0 0, .slice none 0 0]) 3 56 Tryz.underlying30 hi0 hz0 hz1 hz2 rfl (by decide) _ _ _ rfl hown a xs.length cc (cellsC ys) rfl (by rw [cellsC_len, HYL.out]) HN hyo (by unfold maxLen; omega) (by omega) hb.size ?_; intro v' w2 hown' hgrow _)
            have hb2 := hb.grown hgrow (fun k hk => own_base hown k hk)
            obtain ⟨R2, L2⟩ := wp_app_lits HL.out.1 HL.out.2 hown hb.size (by rw [HYL.out]; exact hown') hgrow
            go_roundw
            case rel => exact ⟨j + 1, zs ++ ys, by omega, by go_num, R2, by rw [E.out]; exact L2, hb2⟩
            case measure => simp [intOf]; omega
        · have e1 : L.take j = L := List.take_of_length_le (by omega)
          rw [e1] at hlies
          clear e1
          have hsc := SlC.of_row hown hlies hb.size
          go_wp2_with fail
          obtain ⟨g, n, c2, hv⟩ := own_form hown
          subst hv
          go_ret
          exact ⟨_, _, _, rfl, hsc, hb⟩
end Go.Proofs.YtikllmdmifecpaaGreatDoor
end
