/- Texts merged, part 8. -/
import Derived.Shelf.SlicesE.Delete
import Derived.Lib.OwnBridge
import Derived.Test.YtfhljkjcjnfjfaaMgFalseAt7
section
/- Chapter 5: the least assignment that makes something false. No program. -/
namespace Go.Proofs.Ytfhljkjcjnfjfaa
open Go.RowKit

/-- The first of g k, g (k+1), .. that is something. -/
def tryW (g : Nat → Option (List Int)) : Nat → Nat → Option (List Int)
  | _, 0 => none
  | k, m + 1 => match g k with
    | some e => some e
    | none => tryW g (k + 1) m
theorem tryW_some {g : Nat → Option (List Int)} {k m : Nat} {e : List Int} (h : g k = some e) : tryW g k (m+1) = some e := by rw [tryW, h]
theorem tryW_none {g : Nat → Option (List Int)} {k m : Nat} (h : g k = none) : tryW g k (m+1) = tryW g (k+1) m := by rw [tryW, h]
/-- The least values of these variables for which P is false. -/
def lw (Z : Nat) (P : List Int → Bool) : List Nat → List Int → Option (List Int)
  | [], e => if P e then none else some e
  | v :: r, e => tryW (fun n => lw Z P r (e.set v (n : Int))) 0 Z
/-- The same but for these. -/
def Off (vs : List Nat) (e e' : List Int) : Prop := e'.length = e.length ∧ ∀ j, j ∉ vs → e'.getD j 0 = e.getD j 0
theorem Off.refl (vs : List Nat) (e : List Int) : Off vs e e := ⟨rfl, fun _ _ => rfl⟩
theorem Off.trans {vs : List Nat} {a b c : List Int} (h : Off vs a b) (k : Off vs b c) : Off vs a c := ⟨k.1.trans h.1, fun j hj => (k.2 j hj).trans (h.2 j hj)⟩
theorem Off.symm {vs : List Nat} {a b : List Int} (h : Off vs a b) : Off vs b a := ⟨h.1.symm, fun j hj => (h.2 j hj).symm⟩
theorem Off.wider {vs us : List Nat} {a b : List Int} (h : Off vs a b) (k : ∀ v ∈ vs, v ∈ us) : Off us a b := ⟨h.1, fun j hj => h.2 j fun hm => hj (k j hm)⟩
theorem set_getD (e : List Int) (v : Nat) (x : Int) (j : Nat) : (e.set v x).getD j 0 = if v = j ∧ v < e.length then x else e.getD j 0 := by
  rw [List.getD_eq_getElem?_getD, List.getElem?_set]
  by_cases h : v = j
  · subst h
    by_cases hl : v < e.length
    · simp [hl]
    · simp [hl, List.getD, List.getElem?_eq_none (Nat.le_of_not_lt hl)]
  · rw [if_neg h, if_neg (fun k => h k.1), List.getD_eq_getElem?_getD]
theorem Off.set {v : Nat} {r : List Nat} {e e' : List Int} (h : Off (v :: r) e e') (x : Int) : Off r (e.set v x) (e'.set v x) := by
  refine ⟨by simp [h.1], fun j hj => ?_⟩
  rw [set_getD, set_getD, h.1]
  by_cases hv : v = j ∧ v < e.length
  · rw [if_pos hv, if_pos hv]
  · rw [if_neg hv, if_neg hv]
    by_cases e1 : j = v
    · subst e1
      have hl : e.length ≤ j := by omega
      rw [List.getD_eq_getElem?_getD, List.getD_eq_getElem?_getD, List.getElem?_eq_none (by rw [h.1]; exact hl), List.getElem?_eq_none hl]
    · exact h.2 j (by simp [e1, hj])
theorem Off.one (v : Nat) (r : List Nat) (e : List Int) (x : Int) : Off (v :: r) e (e.set v x) := by
  refine ⟨by simp, fun j hj => ?_⟩
  rw [set_getD, if_neg]
  rintro ⟨h, _⟩
  exact hj (by simp [h])
theorem Off.nil {a b : List Int} (h : Off [] a b) : b = a := by
  refine List.ext_getElem h.1 fun j h1 h2 => ?_
  have := h.2 j (by simp)
  simpa [List.getD, h1, h2] using this
/-- What the variables are at first does not count. -/
theorem lw_off (Z : Nat) (P : List Int → Bool) : ∀ (vs : List Nat) (e e' : List Int), Off vs e e' → lw Z P vs e' = lw Z P vs e := by
  intro vs
  induction vs with
  | nil => intro e e' h; rw [h.nil]
  | cons v r ih =>
    intro e e' h
    show tryW _ 0 Z = tryW _ 0 Z
    congr 1
    funext n
    exact ih _ _ (h.set _)
theorem tryW_mem {g : Nat → Option (List Int)} : ∀ (m k : Nat) (e : List Int), tryW g k m = some e → ∃ n, k ≤ n ∧ n < k + m ∧ g n = some e := by
  intro m
  induction m with
  | zero => intro k e h; simp [tryW] at h
  | succ m ih =>
    intro k e h
    rw [tryW] at h
    cases hg : g k with
    | some x => rw [hg] at h; simp at h; subst h; exact ⟨k, Nat.le_refl _, by omega, hg⟩
    | none =>
      rw [hg] at h
      obtain ⟨n, h1, h2, h3⟩ := ih _ _ h
      exact ⟨n, by omega, by omega, h3⟩
theorem okEnv_set {sz : Int} {e : List Int} (h : okEnv sz e = true) (v : Nat) {x : Int} (h0 : 0 ≤ x) (h1 : x ≤ sz - 1) : okEnv sz (e.set v x) = true := by
  obtain ⟨a, b⟩ := okEnv_iff.1 h
  refine okEnv_iff.2 ⟨by simp [a], fun j hj => ?_⟩
  rw [set_getD]
  split
  · exact ⟨h0, h1⟩
  · exact b j hj
theorem lw_ok {Z : Nat} {P : List Int → Bool} : ∀ (vs : List Nat) (e r : List Int), okEnv Z e = true → lw Z P vs e = some r → okEnv Z r = true ∧ Off vs e r := by
  intro vs
  induction vs with
  | nil =>
    intro e r h hl
    unfold lw at hl
    split at hl
    · simp at hl
    · simp at hl; subst hl; exact ⟨h, Off.refl _ _⟩
  | cons v vs ih =>
    intro e r h hl
    obtain ⟨n, _, hn, hg⟩ := tryW_mem _ _ _ hl
    obtain ⟨k1, k2⟩ := ih _ _ (okEnv_set h v (x := (n : Int)) (by omega) (by omega)) hg
    exact ⟨k1, (Off.one v vs e n).trans (k2.wider (by simp +contextual))⟩
def zeros12 : List Int := List.replicate 12 0
theorem zeros_ok {Z : Nat} (h : 1 ≤ Z) : okEnv Z zeros12 = true := by
  refine okEnv_iff.2 ⟨rfl, fun j hj => ?_⟩
  have : zeros12.getD j 0 = 0 := by
    unfold zeros12
    rw [List.getD_eq_getElem?_getD, List.getElem?_replicate]
    simp [hj]
  rw [this]; omega

/-- The answers. -/
def varsC (c : List Lt) : List Nat := varsTo (mk (flatC c).flatten) 12
def fewC (c : List Lt) : Bool := decide ((varsC c).length ≤ 6)
def falseOk (ar : List Int) (sz : Int) (tb : List (List Int)) (c : List Lt) : Bool := goodWorld ar sz tb && (okLits ar c && fewC c)
def lwC (ar : List Int) (sz : Int) (tb : List (List Int)) (c : List Lt) : Option (List Int) := lw sz.toNat (fun e => clH ar sz tb e c) (varsC c) zeros12
def falseAns (ar : List Int) (sz : Int) (tb : List (List Int)) (c : List Lt) : List Int := if falseOk ar sz tb c then (lwC ar sz tb c).getD [] else []
def falseIs (ar : List Int) (sz : Int) (tb : List (List Int)) (c : List Lt) : Bool := falseOk ar sz tb c && (lwC ar sz tb c).isSome
theorem lwC_ok {ar : List Int} {sz : Int} {tb : List (List Int)} {c : List Lt} (h1 : 1 ≤ sz) {r : List Int} (h : lwC ar sz tb c = some r) : okEnv sz r = true := by
  obtain ⟨Z, rfl⟩ : ∃ Z : Nat, sz = (Z : Int) := ⟨sz.toNat, by omega⟩
  exact (lw_ok _ _ _ (zeros_ok (by omega)) h).1
theorem falseAns_len (ar : List Int) (sz : Int) (tb : List (List Int)) (c : List Lt) : (falseAns ar sz tb c).length ≤ 1048576 := by
  unfold falseAns
  split
  · rename_i h
    unfold falseOk at h
    rw [Bool.and_eq_true] at h
    obtain ⟨w1, _⟩ := isWorld_iff.1 (goodWorld_iff.1 h.1).2
    cases hl : lwC ar sz tb c with
    | none => simp
    | some r => have := (okEnv_iff.1 (lwC_ok w1 hl)).1; simp; omega
  · simp
end Go.Proofs.Ytfhljkjcjnfjfaa
end
section
/- Chapter 5, the reference: HoldsAt. -/
namespace Go.Proofs.Ytfhljkjcjnfjfaa
open Go.RowKit

theorem l4Clause_w (l h l' h' : Nat) (v u : Value) (ar : List Int) (c : List Lt) (q : Bool) (w : World) (he : okLits ar c = q) (hg : goodSign ar = true) (hx : shortC c) (hv : SlI l h w v ar) (hu : SlC l' h' w u c) :
    Calls Try.prog 94 #[.agg #[v], u] w (RetV w (.bool q)) := by subst he; exact l4Clause_c l h l' h' v u ar c w hg hx hv hu
def holdsOk (ar : List Int) (sz : Int) (tb : List (List Int)) (c : List Lt) (env : List Int) : Bool := goodWorld ar sz tb && (okLits ar c && okEnv sz env)
def holdsAns (ar : List Int) (sz : Int) (tb : List (List Int)) (c : List Lt) (env : List Int) : Bool := if holdsOk ar sz tb c env then clH ar sz tb env c else false

set_option maxRecDepth 100000 in
set_option maxHeartbeats 1000000 in
theorem sHoldsAt_t {l h l' h' l2 h2 l3 h3 : Nat} {v u vc ve : Value} {ar : List Int} {sz : Int} {tb : List (List Int)} {c : List Lt} {env : List Int} {w : World} (ha : ar.length ≤ 1048576) (hv : SlI l h w v ar) (hx : short tb) (hu : SlS l' h' w u tb) (hcs : sumC c ≤ 1048576) (hc : SlC l2 h2 w vc c) (hel : env.length ≤ 1048576) (he : SlI l3 h3 w ve env) :
    Calls Try.prog 42 #[.agg #[v], .agg #[.int .i64 sz, u], vc, ve] w (RetV w (.tuple #[.bool (holdsAns ar sz tb c env), .bool (holdsOk ar sz tb c env)])) := by
  unfold holdsAns holdsOk
  have HB : Bel w ((w.alloc (.cells #[v] 30)).alloc (.cells #[.int .i64 sz, u] 46)) := Bel.alloc2 _ _ _
  have HK : Hid (∀ w', Bel ((w.alloc (.cells #[v] 30)).alloc (.cells #[.int .i64 sz, u] 46)) w' → w'.cell? ⟨w.heap.size, 0, none⟩ = some v ∧ w'.cell? ⟨w.heap.size + 1, 0, none⟩ = some (.int .i64 sz) ∧ w'.cell? ⟨w.heap.size + 1, 1, none⟩ = some u) := fun w' hb =>
    ⟨hb.at (by simp; omega) (by simp [go_sem]), hb.at (by simp) (by simp [go_sem]), hb.at (by simp) (by simp [go_sem])⟩
  cases hg : goodWorld ar sz tb with
  | false =>
    rw [Bool.false_and, if_neg (by simp)]
    have HC := Lib.hid (fun (w' : World) (hb : Bel w w') => sGoodWorld_v hg ha (hv.below hb) hx (hu.below hb)); clear hg
    go_enter Try.func42, Try.ntmps42
    go_wp2_with fail
    refine (HC.out _ HB).mono ?_; rintro e w1 ⟨rfl, hb1⟩
    go_wp2_with fail
    go_ret2
    exact ⟨rfl, HB.step hb1⟩
  | true =>
    rw [Bool.true_and]
    obtain ⟨hgs, hiw⟩ := goodWorld_iff.1 hg
    obtain ⟨z1, z3, _, _⟩ := isWorld_iff.1 hiw
    have HC := Lib.hid (fun (w' : World) (hb : Bel w w') => sGoodWorld_v hg ha (hv.below hb) hx (hu.below hb)); clear hg
    cases hq : okLits ar c with
    | false =>
      rw [Bool.false_and, if_neg (by simp)]
      have HT := Lib.hid (fun (w' : World) (hb : Bel w w') => l4Clause_w l h l2 h2 v vc ar c false w' hq hgs (shortC_of_sum hcs) (hv.below hb) (hc.below hb)); clear hq
      go_enter Try.func42, Try.ntmps42
      go_wp2_with fail
      refine (HC.out _ HB).mono ?_; rintro e w1 ⟨rfl, hb1⟩
      obtain ⟨x0, x1, x2⟩ := HK.out _ hb1
      go_wp2_with fail
      refine (HT.out _ (HB.step hb1)).mono ?_; rintro e w2 ⟨rfl, hb2⟩
      go_wp2_with fail
      go_ret2
      exact ⟨rfl, (HB.step hb1).step hb2⟩
    | true =>
      rw [Bool.true_and]
      have HT := Lib.hid (fun (w' : World) (hb : Bel w w') => l4Clause_w l h l2 h2 v vc ar c true w' hq hgs (shortC_of_sum hcs) (hv.below hb) (hc.below hb))
      cases hp : okEnv sz env with
      | false =>
        rw [if_neg (by simp)]
        have HE := Lib.hid (fun (w' : World) (hb : Bel w w') => l5Env_v l3 h3 u ve sz env false w' hp z1 z3 hel (he.below hb))
        clear hq hp
        go_enter Try.func42, Try.ntmps42
        go_wp2_with fail
        refine (HC.out _ HB).mono ?_; rintro e w1 ⟨rfl, hb1⟩
        obtain ⟨x0, x1, x2⟩ := HK.out _ hb1
        go_wp2_with fail
        refine (HT.out _ (HB.step hb1)).mono ?_; rintro e w2 ⟨rfl, hb2⟩
        obtain ⟨y0, y1, y2⟩ := HK.out _ (hb1.step hb2)
        go_wp2_with fail
        refine (HE.out _ ((HB.step hb1).step hb2)).mono ?_; rintro e w3 ⟨rfl, hb3⟩
        go_wp2_with fail
        go_ret2
        exact ⟨rfl, ((HB.step hb1).step hb2).step hb3⟩
      | true =>
        rw [if_pos rfl]
        have HE := Lib.hid (fun (w' : World) (hb : Bel w w') => l5Env_v l3 h3 u ve sz env true w' hp z1 z3 hel (he.below hb))
        have HV := Lib.hid (fun (w' : World) (hb : Bel w w') => l5At_c l h l' h' l2 h2 l3 h3 v u vc ve ar sz tb c env w' hgs hiw hp hq (hv.below hb) (hu.below hb) (hc.below hb) (he.below hb))
        clear hq hp
        generalize clH ar sz tb env c = val at *
        go_enter Try.func42, Try.ntmps42
        go_wp2_with fail
        refine (HC.out _ HB).mono ?_; rintro e w1 ⟨rfl, hb1⟩
        obtain ⟨x0, x1, x2⟩ := HK.out _ hb1
        go_wp2_with fail
        refine (HT.out _ (HB.step hb1)).mono ?_; rintro e w2 ⟨rfl, hb2⟩
        obtain ⟨y0, y1, y2⟩ := HK.out _ (hb1.step hb2)
        go_wp2_with fail
        refine (HE.out _ ((HB.step hb1).step hb2)).mono ?_; rintro e w3 ⟨rfl, hb3⟩
        obtain ⟨v0, v1, v2⟩ := HK.out _ ((hb1.step hb2).step hb3)
        go_wp2_with fail
        refine (HV.out _ (((HB.step hb1).step hb2).step hb3)).mono ?_; rintro e w4 ⟨rfl, hb4⟩
        go_wp2_with fail
        go_ret2
        exact ⟨rfl, (((HB.step hb1).step hb2).step hb3).step hb4⟩
end Go.Proofs.Ytfhljkjcjnfjfaa
end
section
/- Chapter 5, the reference: the least assignment. -/
namespace Go.Proofs.Ytfhljkjcjnfjfaa
open Go.RowKit

def RetFal (eb eh : Nat) (ve : Value) (vs : List Nat) (e : List Int) (sz : Int) (w : World) (R : Option (List Int)) (x : Ending) (w' : World) : Prop :=
  match R with
  | some r => ∃ ad n k, x = .returned (.tuple #[.slice ad n k, .bool true]) ∧ OwnI w.heap.size w'.heap.size w' (.slice ad n k) r ∧ Chg eb eh w w'
  | none => ∃ ad n k, x = .returned (.tuple #[.slice ad n k, .bool false]) ∧ Chg eb eh w w' ∧ ∃ e2, OwnI eb eh w' ve e2 ∧ Off vs e e2 ∧ okEnv sz e2 = true
/-- The rest of a slice behind its first. -/
theorem SlI.rest {lo hi : Nat} {w : World} {b off n c : Nat} {x : Int} {xs : List Int} (h : SlI lo hi w (.slice (some ⟨b, off, none⟩) n c) (x :: xs)) (q : Nat) (hq : xs = [] ∨ q = off + 1) : SlI lo hi w (.slice (some ⟨b, q, none⟩) xs.length (c - 1)) xs := by
  obtain ⟨ad, cap, e, hc, hm, hr⟩ := h
  simp only [Value.slice.injEq] at e
  obtain ⟨rfl, rfl, rfl⟩ := e
  simp only [List.length_cons] at hc hr
  refine ⟨some ⟨b, q, none⟩, c - 1, rfl, by omega, ⟨by omega, fun h => by simp at h⟩, fun hp => ?_⟩
  obtain ⟨b', off', e', a1, a2, a3⟩ := hr (by omega)
  simp only [Option.some.injEq, Addr.mk.injEq, and_true] at e'
  obtain ⟨rfl, rfl⟩ := e'
  rcases hq with rfl | rfl
  · simp at hp
  · refine ⟨b, off + 1, rfl, a1, a2, fun j hj => ?_⟩
    have := a3 (j + 1) (by omega)
    rw [show off + 1 + j = off + (j + 1) by omega]
    simpa using this

set_option maxRecDepth 100000 in
set_option maxHeartbeats 4000000 in
theorem l5False_c (l h : Nat) (v u vc : Value) (ar : List Int) (Z : Nat) (tb : List (List Int)) (c : List Lt) (eb eh : Nat) (hg : goodSign ar = true) (hw : isWorld ar Z tb = true) (hok : okLits ar c = true) (hd : h ≤ eb ∨ eh ≤ l) (hbe : eh ≤ eb + 1) :
    ∀ (vars : List Nat) (e : List Int) (w : World) (vv ve : Value) (a b : Nat), (∀ x ∈ vars, x < 12) → vars.length ≤ 12 → okEnv Z e = true → SlI l h w v ar → SlS l h w u tb → SlC l h w vc c → SlI a b w vv (natsI vars) → OwnI eb eh w ve e → (b ≤ eb ∨ eh ≤ a) → eh ≤ w.heap.size →
      Calls Try.prog 140 #[.agg #[v], .agg #[.int .i64 (Z : Int), u], vc, vv, ve] w (RetFal eb eh ve vars e Z w (lw Z (fun e => clH ar Z tb e c) vars e)) := by
  obtain ⟨z1, z3, _⟩ := isWorld_iff.1 hw
  intro vars
  induction vars with
  | nil =>
    intro e w vv ve a b hvr hvl he hv hu hc hvv hve hdv hew
    obtain ⟨av, cv, rfl⟩ := hvv.form
    have hel := (okEnv_iff.1 he).1
    have HB : Bel w ((w.alloc (.cells #[v] 30)).alloc (.cells #[.int .i64 (Z : Int), u] 46)) := Bel.alloc2 _ _ _
    have KX : Hid (∀ w', Bel ((w.alloc (.cells #[v] 30)).alloc (.cells #[.int .i64 (Z : Int), u] 46)) w' → w'.cell? ⟨w.heap.size, 0, none⟩ = some v ∧ w'.cell? ⟨w.heap.size + 1, 0, none⟩ = some (.int .i64 (Z : Int)) ∧ w'.cell? ⟨w.heap.size + 1, 1, none⟩ = some u) := fun w' hb =>
      ⟨hb.at (by simp; omega) (by simp [go_sem]), hb.at (by simp) (by simp [go_sem]), hb.at (by simp) (by simp [go_sem])⟩
    have HO := Lib.hid (fun (w' : World) (hb : Bel w w') => l1Own_c eb eh ve e w' (by omega) (hve.sl.below hb))
    have HA := Lib.hid (fun (w' : World) (hb : Bel w w') => l5At_c l h l h l h eb eh v u vc ve ar Z tb c e w' hg hw he hok (hv.below hb) (hu.below hb) (hc.below hb) (hve.sl.below hb))
    have HVE := Lib.hid (fun (w' : World) (hb : Bel w w') => hve.below hb)
    have hnil : natsI [] = [] := rfl
    unfold lw
    generalize clH ar Z tb e c = P at *
    clear hv hu hc hvv hve hok hw hg hel
    obtain ⟨ae, ce, rfl⟩ : ∃ ae ce, ve = .slice ae e.length ce := by
      have := (HVE.out w (Bel.rfl' _)).1
      exact this.form
    cases P with
    | true =>
      rw [if_pos rfl]
      go_enter Try.func140, Try.ntmps140
      go_wp2_with fail
      go_region_held3 (fun w' => Bel w w' ∧ w'.cell? ⟨w.heap.size, 0, none⟩ = some v ∧ w'.cell? ⟨w.heap.size + 1, 0, none⟩ = some (.int .i64 (Z : Int)) ∧ w'.cell? ⟨w.heap.size + 1, 1, none⟩ = some u)
        (first | exact ⟨HB.drew, KX.out _ (Bel.drew0 _)⟩ | exact ⟨HB.step B8, KX.out _ B8⟩ | exact ⟨HB.step B9, KX.out _ B9⟩ | fail)
        (first | (go_at_call 95; refine (HA.out _ (HB.step B8)).mono ?_; rintro e w9 ⟨rfl, hb9⟩; have B9 := B8.step hb9) | (go_at_call 148; refine (HO.out _ HB.drew).mono ?_; rintro e w8 ⟨a8, n8, c8, rfl, o8, hb8⟩; have B8 := (Bel.drew0 _).step hb8) | fail)
      go_wp2_with fail
      go_ret2
      exact ⟨_, _, _, rfl, Chg.of_bel (HB.step B9), _, HVE.out _ (HB.step B9), Off.refl _ _, he⟩
    | false =>
      rw [if_neg (by simp)]
      go_enter Try.func140, Try.ntmps140
      go_wp2_with fail
      go_region_held3 (fun w' => Bel w w' ∧ w'.cell? ⟨w.heap.size, 0, none⟩ = some v ∧ w'.cell? ⟨w.heap.size + 1, 0, none⟩ = some (.int .i64 (Z : Int)) ∧ w'.cell? ⟨w.heap.size + 1, 1, none⟩ = some u)
        (first | exact ⟨HB.drew, KX.out _ (Bel.drew0 _)⟩ | exact ⟨HB.step B8, KX.out _ B8⟩ | exact ⟨HB.step B9, KX.out _ B9⟩ | fail)
        (first | (go_at_call 95; refine (HA.out _ (HB.step B8)).mono ?_; rintro e w9 ⟨rfl, hb9⟩; have B9 := B8.step hb9) | (go_at_call 148; refine (HO.out _ HB.drew).mono ?_; rintro e w8 ⟨a8, n8, c8, rfl, o8, hb8⟩; have B8 := (Bel.drew0 _).step hb8) | fail)
      go_wp2_with fail
      go_ret2
      exact ⟨_, _, _, rfl, (o8.below hb9).mono (by have := HB.drew.size; omega) hb9.size, Chg.of_bel (HB.step B9)⟩
  | cons x r ih =>
    intro e w vv ve a b hvr hvl he hv hu hc hvv hve hdv hew
    have hx12 := hvr x (by simp)
    have hel := (okEnv_iff.1 he).1
    have hnc : natsI (x :: r) = (x : Int) :: natsI r := rfl
    rw [hnc] at hvv
    obtain ⟨avv, cvv, rfl⟩ := hvv.form
    have hvv0 := hvv
    obtain ⟨adv, capv, ev, hcapv, hmaxv, hrv⟩ := hvv
    simp only [Value.slice.injEq] at ev
    obtain ⟨rfl, -, rfl⟩ := ev
    obtain ⟨bv, offv, rfl, hav, hbv, hcv⟩ := hrv (by simp)
    have hcv0 := hcv 0 (by simp)
    simp only [List.getD_cons_zero, Nat.add_zero] at hcv0
    simp only [List.length_cons] at hcapv hvv0 ⊢
    have hlr := Lib.hid (natsI_len r)
    obtain ⟨m, hm⟩ : ∃ m, (natsI r).length = m := ⟨_, rfl⟩
    rw [hm] at hcapv hvv0
    simp only [hm]
    have HM := Lib.hid hm
    clear hm
    obtain ⟨ae, ce, rfl⟩ : ∃ ae ce, ve = .slice ae e.length ce := hve.1.form
    obtain ⟨be, offe, hae, hbe1, hbe2⟩ : ∃ b off, ae = some ⟨b, off, none⟩ ∧ eb ≤ b ∧ b < eh := by
      obtain ⟨ad', cap', e', -, -, hr'⟩ := hve.1
      simp only [Value.slice.injEq] at e'
      obtain ⟨rfl, -, -⟩ := e'
      obtain ⟨b', o', h1, h2, h3, _⟩ := hr' (by omega)
      exact ⟨b', o', h1, h2, h3⟩
    subst hae
    obtain ⟨R, hR⟩ : ∃ R, R = lw Z (fun e => clH ar Z tb e c) (x :: r) e := ⟨_, rfl⟩
    have hR0 : R = tryW (fun (n : Nat) => lw Z (fun e => clH ar Z tb e c) r (e.set x (n : Int))) 0 Z := hR
    rw [← hR]
    clear hR
    have IH := Lib.hid ih
    clear ih hnc hcv hrv
    have HL12 := Lib.hid hel
    generalize hEL : e.length = EL at *
    clear hel
    go_enter Try.func140, Try.ntmps140
    go_wp2_with fail
    obtain ⟨W, hW⟩ : ∃ W, W = (w.alloc (.cells #[v] 30)).alloc (.cells #[.int .i64 (Z : Int), u] 46) := ⟨_, rfl⟩
    have hB : Bel w W := by rw [hW]; exact Bel.alloc2 _ _ _
    have zW : w.heap.size + 1 < W.heap.size := by rw [hW]; simp
    have k0 : W.cell? ⟨w.heap.size, 0, none⟩ = some v := by rw [hW]; simp [go_sem]
    have k1 : W.cell? ⟨w.heap.size + 1, 0, none⟩ = some (.int .i64 (Z : Int)) := by rw [hW]; simp [go_sem]
    have k2 : W.cell? ⟨w.heap.size + 1, 1, none⟩ = some u := by rw [hW]; simp [go_sem]
    rw [← hW]
    clear hW
    have zbv : bv < w.heap.size := World.block_lt_of_cell? w ⟨bv, offv, none⟩ hcv0
    have kv := hB.at zbv hcv0
    obtain ⟨G, hG⟩ : ∃ G : Nat → Option (List Int), G = fun (n : Nat) => lw Z (fun e => clH ar Z tb e c) r (e.set x ((n : Nat) : Int)) := ⟨_, rfl⟩
    have HGG : Hid (∀ (k : Nat) (e2 : List Int), Off (x :: r) e e2 → lw Z (fun e => clH ar Z tb e c) r (e2.set x (k : Int)) = G k) := fun k e2 ho => by rw [hG]; exact lw_off Z _ r _ _ (ho.set _)
    rw [← hG] at hR0
    have HR0 := Lib.hid hR0.symm
    clear hG hR0
    have hxi : (x : Int) < EL := by have := HL12.out; omega
    go_loopw [12] (fun i wr => ∃ (k : Nat) (ek : List Int), k ≤ Z ∧ i = .int .i64 k ∧ tryW G k (Z - k) = R ∧ OwnI eb eh wr (.slice (some ⟨be, offe, none⟩) EL ce) ek ∧ Off (x :: r) e ek ∧ okEnv Z ek = true ∧ Chg eb eh W wr) (fun i _ => Z - (intOf i).toNat)
    case atStart => exact ⟨0, e, Nat.zero_le _, rfl, HR0.out, hve.below hB, Off.refl _ _, he, Chg.refl _ _ _⟩
    case round =>
      obtain ⟨k, ek, hk, rfl, hR, ho, hoff, hoke, hch⟩ := hrel
      have q0 := hch.cell (by omega) (.inr hew) k0
      have q1 := hch.cell zW (.inr (by omega)) k1
      have q2 := hch.cell zW (.inr (by omega)) k2
      have qv := hch.cell (Nat.lt_of_lt_of_le zbv hB.size) (by omega) kv
      have hekl : ek.length = EL := hoff.1.trans hEL
      obtain ⟨y, hcy⟩ : ∃ y : Int, wr.cell? ⟨be, offe + x, none⟩ = some (.int .i64 y) := by
        obtain ⟨ad', cap', e', -, -, hr'⟩ := ho.1
        simp only [Value.slice.injEq] at e'
        obtain ⟨rfl, -, -⟩ := e'
        obtain ⟨b', o', h1, h2, h3, h4⟩ := hr' (by omega)
        simp only [Option.some.injEq, Addr.mk.injEq, and_true] at h1
        obtain ⟨rfl, rfl⟩ := h1
        exact ⟨_, h4 x (by omega)⟩
      have hfy := ho.2 be offe EL ce rfl (by omega) x
      have hchw : Chg eb eh w wr := (Chg.of_bel hB).trans hch
      by_cases hlt : k < Z
      · have hst := ho.stored x (by omega) (k : Int)
        have hCS : Chg eb eh w (wr.setCell ⟨be, offe + x, none⟩ (.int .i64 (k : Int))) := hchw.trans (Chg.set (p := ⟨be, offe + x, none⟩) _ hbe1 hbe2 _)
        have hCW : Chg eb eh W (wr.setCell ⟨be, offe + x, none⟩ (.int .i64 (k : Int))) := hch.trans (Chg.set (p := ⟨be, offe + x, none⟩) _ hbe1 hbe2 _)
        have q0 := hCW.cell (by omega) (.inr hew) k0
        have q1' := hCW.cell zW (.inr (by omega)) k1
        have q2 := hCW.cell zW (.inr (by omega)) k2
        have hoke2 := okEnv_set hoke x (x := (k : Int)) (by omega) (by omega)
        have hsl : ∀ q : Nat, (natsI r = [] ∨ q = offv + 1) → SlI a b (wr.setCell ⟨be, offe + x, none⟩ (.int .i64 (k : Int))).drew (.slice (some ⟨bv, q, none⟩) m (cvv - 1)) (natsI r) := fun q hq => by have h9 := ((hvv0.chg hCS (by omega)).below (Bel.drew0 _)).rest q hq; rw [HM.out] at h9; exact h9
        have HC := Lib.hid (fun q hq => IH.out (ek.set x (k : Int)) _ _ _ a b (fun y hy => hvr y (by simp [hy])) (by simp at hvl; omega) hoke2 ((hv.chg hCS hd).below (Bel.drew0 _)) ((hu.chg hCS hd).below (Bel.drew0 _)) ((hc.chg hCS hd).below (Bel.drew0 _)) (hsl q hq) (hst.below (Bel.drew0 _)) hdv (Nat.le_trans hew hCS.size))
        have hge := HGG.out k ek hoff
        rw [hge] at HC
        have hR1 : tryW G k ((Z - k - 1) + 1) = R := by rw [show Z - k - 1 + 1 = Z - k by omega]; exact hR
        have hoff1 := hoff.trans (Off.one x r ek (k : Int))
        have hcap1 : (1 : Int) ≤ cvv := by omega
        have hml : (m : Int) + 1 ≤ cvv := by omega
        have hm1 : (1 : Int) ≤ (m : Int) + 1 := by omega
        have hDR : Chg eb eh w (wr.setCell ⟨be, offe + x, none⟩ (.int .i64 (k : Int))).drew := hCS.trans (Chg.of_bel (Bel.drew0 _))
        have hDW : Chg eb eh W (wr.setCell ⟨be, offe + x, none⟩ (.int .i64 (k : Int))).drew := hCW.trans (Chg.of_bel (Bel.drew0 _))
        have hzk : (k : Int) < (Z : Int) := by omega
        clear hst hoke2 hsl hge hR hoff hoke ho hCS hCW hchw IH hv hu hc HGG HR0 hekl
        cases hGk : G k with
        | some r1 =>
          rw [hGk] at HC
          have hRR := Lib.hid ((tryW_some hGk).symm.trans hR1)
          clear hR1
          by_cases hcap : cvv = 1
          · have hrn : natsI r = [] := List.length_eq_zero_iff.1 (by rw [HM.out]; omega)
            have HC1 := Lib.hid (HC.out offv (.inl hrn))
            obtain rfl : m = 0 := by omega
            subst hcap
            clear HC hrn
            go_wp2_with fail
            go_region_held3 (fun w' => Chg eb eh w w' ∧ w'.cell? ⟨w.heap.size, 0, none⟩ = some v ∧ w'.cell? ⟨w.heap.size + 1, 0, none⟩ = some (.int .i64 (Z : Int)) ∧ w'.cell? ⟨w.heap.size + 1, 1, none⟩ = some u)
              (first | exact ⟨hDR, q0, q1', q2⟩ | exact ⟨hDR.trans hg9, (hDW.trans hg9).cell (by omega) (.inr hew) k0, (hDW.trans hg9).cell zW (.inr (by omega)) k1, (hDW.trans hg9).cell zW (.inr (by omega)) k2⟩ | fail)
              (first | (go_at_call 140; refine HC1.out.mono ?_; rintro e w9 ⟨a9, n9, c9, rfl, o9, hg9⟩) | fail)
            go_wp2_with fail
            go_ret2
            rw [← hRR.out]
            exact ⟨_, _, _, rfl, o9.mono (by have := hDR.size; omega) (Nat.le_refl _), hDR.trans hg9⟩
          · have HC1 := Lib.hid (HC.out (offv + 1) (.inr rfl))
            have hcp : (1 : Int) < cvv := by omega
            clear HC
            go_wp2_with fail
            go_region_held3 (fun w' => Chg eb eh w w' ∧ w'.cell? ⟨w.heap.size, 0, none⟩ = some v ∧ w'.cell? ⟨w.heap.size + 1, 0, none⟩ = some (.int .i64 (Z : Int)) ∧ w'.cell? ⟨w.heap.size + 1, 1, none⟩ = some u)
              (first | exact ⟨hDR, q0, q1', q2⟩ | exact ⟨hDR.trans hg9, (hDW.trans hg9).cell (by omega) (.inr hew) k0, (hDW.trans hg9).cell zW (.inr (by omega)) k1, (hDW.trans hg9).cell zW (.inr (by omega)) k2⟩ | fail)
              (first | (go_at_call 140; refine HC1.out.mono ?_; rintro e w9 ⟨a9, n9, c9, rfl, o9, hg9⟩) | fail)
            go_wp2_with fail
            go_ret2
            rw [← hRR.out]
            exact ⟨_, _, _, rfl, o9.mono (by have := hDR.size; omega) (Nat.le_refl _), hDR.trans hg9⟩
        | none =>
          rw [hGk] at HC
          have hRR := Lib.hid ((tryW_none hGk).symm.trans hR1)
          clear hR1
          by_cases hcap : cvv = 1
          · have hrn : natsI r = [] := List.length_eq_zero_iff.1 (by rw [HM.out]; omega)
            have HC1 := Lib.hid (HC.out offv (.inl hrn))
            obtain rfl : m = 0 := by omega
            subst hcap
            clear HC hrn
            go_wp2_with fail
            go_region_held3 (fun w' => Chg eb eh w w' ∧ w'.cell? ⟨w.heap.size, 0, none⟩ = some v ∧ w'.cell? ⟨w.heap.size + 1, 0, none⟩ = some (.int .i64 (Z : Int)) ∧ w'.cell? ⟨w.heap.size + 1, 1, none⟩ = some u)
              (first | exact ⟨hDR, q0, q1', q2⟩ | exact ⟨hDR.trans hg9, (hDW.trans hg9).cell (by omega) (.inr hew) k0, (hDW.trans hg9).cell zW (.inr (by omega)) k1, (hDW.trans hg9).cell zW (.inr (by omega)) k2⟩ | fail)
              (first | (go_at_call 140; refine HC1.out.mono ?_; rintro e w9 ⟨a9, n9, c9, rfl, hg9, e9, o9, hf9, hk9⟩) | fail)
            go_wp2_with fail
            refine ⟨?_, ?measure⟩
            iterate 90 (try apply Exists.intro)
            refine ⟨?rel, rfl⟩
            case rel => exact ⟨k+1, e9, by omega, by go_num, by rw [← hRR.out, show Z - (k + 1) = Z - k - 1 by omega], o9, hoff1.trans (hf9.wider (by simp +contextual)), hk9, hDW.trans hg9⟩
            case measure => simp [intOf]; omega
          · have HC1 := Lib.hid (HC.out (offv + 1) (.inr rfl))
            have hcp : (1 : Int) < cvv := by omega
            clear HC
            go_wp2_with fail
            go_region_held3 (fun w' => Chg eb eh w w' ∧ w'.cell? ⟨w.heap.size, 0, none⟩ = some v ∧ w'.cell? ⟨w.heap.size + 1, 0, none⟩ = some (.int .i64 (Z : Int)) ∧ w'.cell? ⟨w.heap.size + 1, 1, none⟩ = some u)
              (first | exact ⟨hDR, q0, q1', q2⟩ | exact ⟨hDR.trans hg9, (hDW.trans hg9).cell (by omega) (.inr hew) k0, (hDW.trans hg9).cell zW (.inr (by omega)) k1, (hDW.trans hg9).cell zW (.inr (by omega)) k2⟩ | fail)
              (first | (go_at_call 140; refine HC1.out.mono ?_; rintro e w9 ⟨a9, n9, c9, rfl, hg9, e9, o9, hf9, hk9⟩) | fail)
            go_wp2_with fail
            refine ⟨?_, ?measure⟩
            iterate 90 (try apply Exists.intro)
            refine ⟨?rel, rfl⟩
            case rel => exact ⟨k+1, e9, by omega, by go_num, by rw [← hRR.out, show Z - (k + 1) = Z - k - 1 by omega], o9, hoff1.trans (hf9.wider (by simp +contextual)), hk9, hDW.trans hg9⟩
            case measure => simp [intOf]; omega
      · obtain rfl : k = Z := by omega
        have hR2 : Hid (R = none) := by show _ = _; rw [← hR, Nat.sub_self]; rfl
        have hst := ho.stored x (by omega) (0 : Int)
        have hCS : Chg eb eh w (wr.setCell ⟨be, offe + x, none⟩ (.int .i64 (0 : Int))) := hchw.trans (Chg.set (p := ⟨be, offe + x, none⟩) _ hbe1 hbe2 _)
        have hoke2 := okEnv_set hoke x (x := (0 : Int)) (Int.le_refl _) (by omega)
        have hoff1 := hoff.trans (Off.one x r ek (0 : Int))
        clear hekl IH
        go_wp2_with fail
        go_ret2
        rw [hR2.out]
        exact ⟨_, _, _, rfl, hCS, _, hst, hoff1, hoke2⟩
end Go.Proofs.Ytfhljkjcjnfjfaa
end
section
/- Rows of slices whose elements lie in older memory: copies, deletion. -/
namespace Go.Proofs.Ytfhljkjcjnfjfaa
open Go.RowKit

/-- A slice's three words. -/
abbrev SV := Option Addr × Nat × Nat
def encS (x : SV) : Value := .slice x.1 x.2.1 x.2.2
theorem encS_one (zs : List SV) : ∀ u ∈ zs.map encS, u.oneCell' = true := by
  intro u hu; obtain ⟨z, _, rfl⟩ := List.mem_map.1 hu; rfl
/-- The elements, read in the world W. -/
def Els (W : World) (zs : List SV) (xss : List (List Int)) : Prop := zs.length = xss.length ∧ ∀ j z, zs[j]? = some z → SlI 0 W.heap.size W (encS z) (xss.getD j [])
def RowV (W wr : World) (v : Value) (xss : List (List Int)) : Prop := ∃ zs : List SV, wr.ownsRow W.heap.size 22 1 v zs.length (zs.map encS) ∧ Els W zs xss
def RetRow (W : World) (xss : List (List Int)) (e : Ending) (w' : World) : Prop := ∃ ad n c, e = .returned (.slice ad n c) ∧ RowV W w' (.slice ad n c) xss ∧ Bel W w'
theorem Els.nil (W : World) : Els W [] [] := ⟨rfl, fun j z h => by simp at h⟩
theorem Els.at {W : World} {zs : List SV} {xss : List (List Int)} (h : Els W zs xss) {j : Nat} (hj : j < xss.length) : ∃ z, zs[j]? = some z ∧ SlI 0 W.heap.size W (encS z) (xss.getD j []) :=
  ⟨_, List.getElem?_eq_getElem (by rw [h.1]; exact hj), h.2 j _ (List.getElem?_eq_getElem (by rw [h.1]; exact hj))⟩
theorem Els.erase {W : World} {zs : List SV} {xss : List (List Int)} (h : Els W zs xss) (i : Nat) (hi : i < xss.length) : Els W (zs.eraseIdx i) (xss.eraseIdx i) := by
  refine ⟨by rw [List.length_eraseIdx, List.length_eraseIdx, h.1], fun j z hj => ?_⟩
  rw [List.getElem?_eraseIdx] at hj
  by_cases hlt : j < i
  · rw [if_pos hlt] at hj
    have := h.2 j z hj
    rwa [show (xss.eraseIdx i).getD j [] = xss.getD j [] from by simp [List.getD, List.getElem?_eraseIdx, hlt]]
  · rw [if_neg hlt] at hj
    have := h.2 (j+1) z hj
    rwa [show (xss.eraseIdx i).getD j [] = xss.getD (j+1) [] from by simp [List.getD, List.getElem?_eraseIdx, hlt]]
theorem Els.snoc {W : World} {zs : List SV} {xss : List (List Int)} (h : Els W zs xss) {z : SV} {t : List Int} (hz : SlI 0 W.heap.size W (encS z) t) : Els W (zs ++ [z]) (xss ++ [t]) := by
  refine ⟨by simp [h.1], fun j u hj => ?_⟩
  by_cases e : j < zs.length
  · rw [List.getElem?_append_left e] at hj
    have := h.2 j u hj
    rwa [show (xss ++ [t]).getD j [] = xss.getD j [] from by simp [List.getD, List.getElem?_append_left (show j < xss.length by rw [← h.1]; exact e)]]
  · have hlt := (List.getElem?_eq_some_iff.1 hj).1
    simp at hlt
    obtain rfl : j = zs.length := by omega
    rw [List.getElem?_append_right (Nat.le_refl _), Nat.sub_self] at hj
    simp at hj
    subst hj
    rwa [show (xss ++ [t]).getD zs.length [] = t from by rw [h.1]; simp [List.getD]]
theorem RowV.form {W wr : World} {v : Value} {xss : List (List Int)} (h : RowV W wr v xss) : ∃ ad c, v = .slice ad xss.length c := by
  obtain ⟨zs, ho, he⟩ := h
  obtain ⟨ad, n, c, rfl⟩ := own_form ho
  have := row_len ho
  rw [he.1] at this
  exact ⟨ad, c, by rw [this]⟩
theorem RowV.bel {W wr w2 : World} {v : Value} {xss : List (List Int)} (h : RowV W wr v xss) (hb : Bel wr w2) : RowV W w2 v xss := by
  obtain ⟨zs, ho, he⟩ := h
  exact ⟨zs, ownsRow_bel ho hb, he⟩
theorem RowV.sls {W wr : World} {v : Value} {xss : List (List Int)} (h : RowV W wr v xss) (hb : Bel W wr) : SlS 0 wr.heap.size wr v xss := by
  obtain ⟨zs, h1, h2, h3⟩ := h
  have h0 := h1
  rcases h1.2 with ⟨rfl, hn⟩ | ⟨g, cap, cur, rfl, hg, hh, hn, hc, hs, ht⟩
  · obtain rfl : xss = [] := List.length_eq_zero_iff.1 (by omega)
    exact SlS.nil _ _ _
  · have hgs : g < wr.heap.size := (Array.getElem?_eq_some_iff.1 hh).1
    refine ⟨_, cap, by rw [h2], by omega, ⟨hc, fun h => by simp at h⟩, fun hp => ⟨g, 0, rfl, Nat.zero_le _, hgs, fun j hj => ?_⟩⟩
    have hju : zs[j]? = some zs[j] := List.getElem?_eq_getElem (by omega)
    refine ⟨encS zs[j], by rw [Nat.zero_add, h0.cellAt j (by omega), List.getElem?_map, hju]; rfl, ?_⟩
    exact ((h3 j _ hju).below hb).mono (Nat.le_refl _) hb.size
/-- Reading the k-th. -/
theorem RowV.at {W wr : World} {ad : Option Addr} {n c : Nat} {xss : List (List Int)} (h : RowV W wr (.slice ad n c) xss) (k : Nat) (hk : k < xss.length) :
    ∃ g z, ad = some ⟨g, 0, none⟩ ∧ W.heap.size ≤ g ∧ wr.cell? ⟨g, k, none⟩ = some (encS z) ∧ SlI 0 W.heap.size W (encS z) (xss.getD k []) := by
  obtain ⟨zs, h1, h2⟩ := h
  have h0 := h1
  obtain ⟨z, hz, hs⟩ := h2.at hk
  rcases h1.2 with ⟨e, hn⟩ | ⟨g, cap, cur, e, hg, hh, _⟩
  · rw [h2.1] at hn; omega
  · simp only [Value.slice.injEq] at e
    obtain ⟨rfl, rfl, rfl⟩ := e
    exact ⟨g, z, rfl, hg, by rw [h0.cellAt k (by rw [h2.1]; omega), List.getElem?_map, hz]; rfl, hs⟩

theorem skolem_lt {α : Type} [Inhabited α] {n : Nat} {P : Nat → α → Prop} (H : ∀ j, j < n → ∃ z, P j z) : ∃ f : Nat → α, ∀ j, j < n → P j (f j) :=
  ⟨fun j => if h : j < n then Classical.choose (H j h) else default, fun j hj => by
    show P j (dite (j < n) (fun h => Classical.choose (H j h)) (fun _ => default))
    rw [dif_pos hj]; exact Classical.choose_spec (H j hj)⟩
/-- The three words of the elements of a slice of slices. -/
theorem SlS.vals {lo hi : Nat} {w : World} {ad : Option Addr} {n c : Nat} {xss : List (List Int)} (h : SlS lo hi w (.slice ad n c) xss) : ∃ zs : List SV, Els w zs xss ∧ ∀ a, ad = some a → ∀ j u, (zs.map encS)[j]? = some u → w.cell? (a.add j) = some u := by
  obtain ⟨ad', cap, e, hc, hm, hr⟩ := h
  simp only [Value.slice.injEq] at e
  obtain ⟨rfl, rfl, rfl⟩ := e
  by_cases hp : 0 < xss.length
  · obtain ⟨b, off, rfl, a1, a2, a3⟩ := hr hp
    have H : ∀ j, j < xss.length → ∃ z : SV, w.cell? ⟨b, off + j, none⟩ = some (encS z) ∧ SlI lo hi w (encS z) (xss.getD j []) := fun j hj => by
      obtain ⟨u, h1, h2⟩ := a3 j hj
      obtain ⟨x, y, rfl⟩ := h2.form
      exact ⟨(x, _, y), h1, h2⟩
    obtain ⟨f, hf⟩ := skolem_lt H
    refine ⟨(List.range xss.length).map f, ⟨by simp, fun j z hj => ?_⟩, fun a ha j u hj => ?_⟩
    · have hlt := (List.getElem?_eq_some_iff.1 hj).1
      simp at hlt
      rw [List.getElem?_map, List.getElem?_range hlt] at hj
      simp only [Option.map_some, Option.some.injEq] at hj
      subst hj
      exact (hf j hlt).2.in'
    · have hlt := (List.getElem?_eq_some_iff.1 hj).1
      simp at hlt
      rw [List.getElem?_map, List.getElem?_map, List.getElem?_range hlt] at hj
      simp only [Option.map_some, Option.some.injEq] at hj
      subst hj
      simp only [Option.some.injEq] at ha
      subst ha
      rw [addr_add]
      exact (hf j hlt).1
  · obtain rfl : xss = [] := List.length_eq_zero_iff.1 (by omega)
    exact ⟨[], Els.nil _, fun a _ j u hj => by simp at hj⟩

end Go.Proofs.Ytfhljkjcjnfjfaa
end
section
/- The terms of a clause, literal by literal: both sides. -/
namespace Go.Proofs.Ytfhljkjcjnfjfaa
open Go.RowKit

theorem news_two (w : World) (x y : Value) (t : TypeId) : ∀ j u, [x, y][j]? = some u → (w.alloc (.cells #[x, y] t)).cell? ((⟨w.heap.size, 0, none⟩ : Addr).add j) = some u := by
  intro j u hj
  match j, hj with
  | 0, hj => simp at hj; subst hj; rw [show (⟨w.heap.size, 0, none⟩ : Addr).add 0 = ⟨w.heap.size, 0, none⟩ from rfl, World.cell?_alloc_new w]; rfl
  | 1, hj => simp at hj; subst hj; rw [addr_add, World.cell?_alloc_new w]; rfl
theorem news_two_at (w : World) (x y : Value) (t : TypeId) (g : Nat) (hg : g = w.heap.size) : ∀ j u, [x, y][j]? = some u → (w.alloc (.cells #[x, y] t)).cell? ((⟨g, 0, none⟩ : Addr).add j) = some u := by subst hg; exact news_two w x y t
theorem news_one_at (w : World) (x : Value) (t : TypeId) (g : Nat) (hg : g = w.heap.size) : ∀ j u, [x][j]? = some u → (w.alloc (.cells #[x] t)).cell? ((⟨g, 0, none⟩ : Addr).add j) = some u := by subst hg; exact news_one w x t
theorem two_slice (a b : Option Addr) (n m c d : Nat) : ∀ u ∈ [Value.slice a n c, Value.slice b m d], u.oneCell' = true := by
  intro u hu; simp at hu; rcases hu with rfl | rfl <;> rfl
theorem flatC_take (c : List Lt) (k : Nat) (h : k < c.length) : flatC (c.take (k+1)) = flatC (c.take k) ++ [(c.getD k lt0).2.1] ++ [(c.getD k lt0).2.2] := by
  rw [List.take_succ_eq_append_getElem h, flatC_app]
  simp [flatC, List.getD, h]
/-- A literal's terms as they lie in the world W. -/
theorem SlC.two {lo hi : Nat} {w : World} {ad : Option Addr} {n k : Nat} {c : List Lt} (h : SlC lo hi w (.slice ad n k) c) (j : Nat) (hj : j < c.length) :
    ∃ (b off : Nat) (z1 z2 : SV), ad = some ⟨b, off, none⟩ ∧ b < w.heap.size ∧ w.cell? ⟨b, off + j * 3, none⟩ = some (.bool (c.getD j lt0).1) ∧ w.cell? ⟨b, off + j * 3 + 1, none⟩ = some (encS z1) ∧ w.cell? ⟨b, off + j * 3 + 2, none⟩ = some (encS z2) ∧
      SlI 0 w.heap.size w (encS z1) (c.getD j lt0).2.1 ∧ SlI 0 w.heap.size w (encS z2) (c.getD j lt0).2.2 := by
  obtain ⟨b, off, u1, u2, rfl, hb, c1, c2, c3, s1, s2⟩ := h.at (Bel.rfl' w) j hj
  obtain ⟨x1, y1, rfl⟩ := s1.form
  obtain ⟨x2, y2, rfl⟩ := s2.form
  exact ⟨b, off, (x1, _, y1), (x2, _, y2), rfl, hb, c1, c2, c3, s1.in', s2.in'⟩

set_option maxRecDepth 100000 in
set_option maxHeartbeats 400000 in
theorem termsIn_c (l h : Nat) (v : Value) (c : List Lt) (w : World) (hx : c.length ≤ 1048576) (hv : SlC l h w v c) :
    Calls Try.prog 120 #[v] w (RetRow w (flatC c)) := by
  obtain ⟨i1, hi1, hy0, hy1, hy2⟩ := info_parts Try.info22
  obtain ⟨ad, cap, rfl⟩ := hv.form
  go_enter Try.func120, Try.ntmps120
  go_wp2_with fail
  go_loopw [3, 8] (fun o i wr => ∃ k : Nat, k ≤ c.length ∧ i = .int .i64 k ∧ RowV w wr o (flatC (c.take k)) ∧ Bel w wr) (fun _ i _ => c.length - (intOf i).toNat)
  case atStart => exact ⟨0, Nat.zero_le _, rfl, ⟨[], World.ownsRow_nil _ _ _ _, Els.nil _⟩, Bel.rfl' _⟩
  case round =>
    obtain ⟨k, hk, rfl, hrow, hb⟩ := hrel
    by_cases hlt : k < c.length
    · obtain ⟨b, off, z1, z2, rfl, hbs, e1, e2, e3, s1, s2⟩ := hv.two k hlt
      have c1 := hb.at (World.block_lt_of_cell? _ ⟨_, _, none⟩ e1) e1
      have c2 := hb.at (World.block_lt_of_cell? _ ⟨_, _, none⟩ e2) e2
      have c3 := hb.at (World.block_lt_of_cell? _ ⟨_, _, none⟩ e3) e3
      have HF := Lib.hid (flatC_take c k hlt)
      have hfl := flatC_len (c.take k)
      have hkl : (c.take k).length = k := by rw [List.length_take]; omega
      obtain ⟨zs, ho, hE⟩ := hrow
      have hzl := hE.1
      have hE2 := Lib.hid ((hE.snoc s1).snoc s2)
      have hin1 : (k : Int) < c.length := by omega
      generalize (c.getD k lt0).1 = p at *
      obtain ⟨a1, n1, d1⟩ := z1
      obtain ⟨a2, n2, d2⟩ := z2
      simp only [encS] at c2 c3
      have hbz := hb.size
      clear hv s1 s2 hE e1 e2 e3
      go_wp2_with (at_builtin; refine wpList_append_own _ rfl _ _ 41 rfl w.heap.size 22 i1 (.slice none 0 0) 1 24 Try.underlying41 hi1 hy0 hy1 hy2 rfl (by decide) _ _ _ rfl ((ho.alloc _).alloc _) ⟨wr.heap.size + 1, 0, none⟩ 2 2 [.slice a1 n1 d1, .slice a2 n2 d2] rfl rfl (news_two_at _ _ _ _ _ (by simp)) (two_slice _ _ _ _ _ _) (by unfold maxLen; rw [hzl]; omega) (by rw [hzl]; omega) (by simp; omega) ?_; intro v' w1 hown' hgrow _)
      go_roundw
      case rel =>
        refine ⟨k+1, by omega, by go_num, ?_, ?_⟩
        · rw [HF.out]
          exact ⟨zs ++ [(a1, n1, d1)] ++ [(a2, n2, d2)], by simpa [encS] using hown', hE2.out⟩
        · exact ((hb.alloc _).alloc _).grown hgrow (fun q hq => own_base ho q hq)
      case measure => simp [intOf]; omega
    · rw [List.take_of_length_le (by omega)] at hrow
      obtain ⟨og, oc, rfl⟩ := hrow.form
      go_wp2_with fail
      go_ret
      exact ⟨_, _, _, rfl, hrow, hb⟩

end Go.Proofs.Ytfhljkjcjnfjfaa
end
section
/- VarsOf: the reference's side. -/
namespace Go.Proofs.Ytfhljkjcjnfjfaa
open Go.RowKit

def setF (f : Nat → Bool) (m : Nat) (i : Nat) : Bool := if i = m then true else f i
def tailF (f : Nat → Bool) (m : Nat) : List Nat := ((List.range 12).drop (m + 1)).filter f
theorem tail_gt {f : Nat → Bool} {m x : Nat} (h : x ∈ tailF f m) : m < x := by
  unfold tailF at h
  have h1 := (List.mem_filter.1 h).1
  rw [List.mem_iff_getElem?] at h1
  obtain ⟨i, hi⟩ := h1
  rw [List.getElem?_drop] at hi
  have h2 := (List.getElem?_eq_some_iff.1 hi)
  obtain ⟨h3, h4⟩ := h2
  simp at h4
  omega
theorem vars_split (f : Nat → Bool) (m : Nat) (h : m < 12) : varsTo f 12 = varsTo f m ++ (if f m then m :: tailF f m else tailF f m) := by
  unfold varsTo tailF
  conv => lhs; rw [← List.take_append_drop m (List.range 12)]
  rw [List.filter_append, List.take_range, Nat.min_eq_left (by omega), List.drop_eq_getElem_cons (by simpa using h), List.filter_cons]
  simp
theorem vars_lt {f : Nat → Bool} {m x : Nat} (h : x ∈ varsTo f m) : x < m := by
  unfold varsTo at h
  have := (List.mem_filter.1 h).1
  simpa using this
theorem set_to (f : Nat → Bool) (m : Nat) : varsTo (setF f m) m = varsTo f m := by
  unfold varsTo
  apply List.filter_congr
  intro x hx
  have : x < m := by simpa using hx
  unfold setF; rw [if_neg (by omega)]
theorem set_tail (f : Nat → Bool) (m : Nat) : tailF (setF f m) m = tailF f m := by
  unfold tailF
  apply List.filter_congr
  intro x hx
  have : m < x := by
    rw [List.mem_iff_getElem?] at hx
    obtain ⟨i, hi⟩ := hx
    rw [List.getElem?_drop] at hi
    obtain ⟨h3, h4⟩ := (List.getElem?_eq_some_iff.1 hi)
    simp at h4
    omega
  unfold setF; rw [if_neg (by omega)]
theorem set_vars (f : Nat → Bool) (m : Nat) (h : m < 12) : varsTo (setF f m) 12 = varsTo f m ++ m :: tailF f m := by
  rw [vars_split _ m h, set_to, set_tail, if_pos (by simp [setF])]
theorem set_same (f : Nat → Bool) (m : Nat) (h : f m = true) : setF f m = f := by
  funext i
  unfold setF
  by_cases e : i = m
  · subst e; rw [if_pos rfl, h]
  · rw [if_neg e]

theorem own_fix {w : World} {base e n n' : Nat} {v : Value} {vs : List Value} {xs : List Int} (hn : n' = n) (hx : vs = xs.map (Value.int .i64)) (h : w.ownsRow base e 1 v n' vs) : w.ownsRow base e 1 v n (xs.map (Value.int .i64)) := by subst hn hx; exact h
/-- A slice of ints: one's own from lo on. -/
def RetO (lo : Nat) (w : World) (xs : List Int) (e : Ending) (w' : World) : Prop := ∃ ad n c, e = .returned (.slice ad n c) ∧ OwnI lo w'.heap.size w' (.slice ad n c) xs ∧ Bel w w'

/-- The slice itself, or a new one. -/
def RetPut (w : World) (v : Value) (f : Nat → Bool) (m : Nat) (e : Ending) (w' : World) : Prop :=
  ∃ ad n c, e = .returned (.slice ad n c) ∧ ((.slice ad n c = v ∧ varsTo (setF f m) 12 = varsTo f 12) ∨ w'.ownsRow w.heap.size 3 1 (.slice ad n c) (natsI (varsTo (setF f m) 12)).length ((natsI (varsTo (setF f m) 12)).map (Value.int .i64))) ∧ Bel w w'
theorem nget (l : List Nat) (k : Nat) (h : k < l.length) : (natsI l).getD k 0 = (l.getD k 0 : Nat) := by simp [natsI, List.getD, h]

set_option maxRecDepth 100000 in
theorem l1Put_nil (m : Nat) (w : World) : Calls Try.prog 118 #[.slice none 0 0, .int .i64 m] w (RetR w [(m : Int)]) := by
  obtain ⟨i0, hi0, hz0, hz1, hz2⟩ := info_parts Try.info3
  have hown0 : (w.alloc (.cells #[] 3)).ownsRow w.heap.size 3 1 (.slice (some ⟨w.heap.size, 0, none⟩) 0 0) ([] : List Int).length (([] : List Int).map (Value.int .i64)) :=
    World.ownsRow_lit w #[] 0 (Nat.le_refl _) (Nat.zero_le _) rfl
  go_enter Try.func118, Try.ntmps118
  go_wp2_with fail
  refine wp_loop_rounds 1 ?_
  rw [rounds_succ]
  go_wp2_with (first | (at_builtin; refine wpList_append_own_none rfl (.tmp 34) (.tmp 37) 22 rfl w.heap.size 3 i0 1 Try.underlying22 hi0 _ _ _ rfl hown0 rfl ?_) | (at_builtin; refine wpList_append_own _ rfl (.tmp 39) (.tmp 41) 22 rfl w.heap.size 3 i0 (.int .i64 0) 1 8 Try.underlying22 hi0 hz0 hz1 hz2 rfl (by decide) _ _ _ rfl (hown0.alloc _) ⟨w.heap.size + 1, 0, none⟩ 1 1 [.int .i64 m] rfl rfl (by have := news_one (w.alloc (.cells #[] 3)) (.int .i64 m) 3; simpa using this) (one_int _) (by unfold maxLen; simp) (by simp) (by simp; omega) ?_; intro v' w1 hown' hgrow _) | (at_builtin; refine wpList_append_own_none rfl (.tmp 43) (.tmp 46) 22 rfl w.heap.size 3 i0 1 Try.underlying22 hi0 _ _ _ rfl hown' rfl ?_))
  have hown2 : w1.ownsRow w.heap.size 3 1 v' [(m : Int)].length ([(m : Int)].map (Value.int .i64)) := by simpa using hown'
  obtain ⟨g, n, c, hv'⟩ := own_form hown2
  subst hv'
  go_ret
  exact ⟨_, _, _, rfl, hown2, (Bel.alloc2 w _ _).grown hgrow (fun k hk => own_base hown0 k hk)⟩

set_option maxRecDepth 100000 in
set_option maxHeartbeats 1000000 in
theorem l1Put_p (lo : Nat) (v : Value) (f : Nat → Bool) (m : Nat) (w : World) (hm : m < 12) (hlo : lo ≤ w.heap.size) (hnz : 0 < (varsTo f 12).length) (hv : OwnI lo w.heap.size w v (natsI (varsTo f 12))) :
    Calls Try.prog 118 #[v, .int .i64 m] w (RetPut w v f m) := by
  obtain ⟨i0, hi0, hz0, hz1, hz2⟩ := info_parts Try.info3
  have hv0 := hv
  have hlen := varsTo_len f 12
  have hsp := vars_split f m hm
  have hset := set_vars f m hm
  have hlt0 : ∀ k, k < (varsTo f m).length → ((varsTo f 12).getD k 0) < m := by
    intro k hk
    rw [hsp]
    have : (varsTo f m)[k] ∈ varsTo f m := List.getElem_mem hk
    have := vars_lt this
    simpa [List.getD, List.getElem?_append_left hk, hk] using this
  have hA : (varsTo f m).length ≤ (varsTo f 12).length := by rw [hsp]; simp
  obtain ⟨ad, cap, rfl, -, -, hr⟩ := hv.1
  rw [natsI_len] at hr ⊢
  have HLT := Lib.hid hlt0
  cases hf : f m with
  | true =>
    rw [hf, if_pos rfl] at hsp
    have E : Hid (varsTo (setF f m) 12 = varsTo f 12) := by show _ = _; rw [set_same f m hf]
    have hal : (varsTo f m).length < (varsTo f 12).length := by rw [hsp]; simp
    have hat : (varsTo f 12).getD (varsTo f m).length 0 = m := by rw [hsp]; simp [List.getD]
    have HAT := Lib.hid hat
    clear hsp hset hat hlt0
    generalize hLx : varsTo f 12 = L at *
    generalize (varsTo f m).length = A at *
    have HLX := Lib.hid hLx
    clear hLx
    go_enter Try.func118, Try.ntmps118
    go_wp2_with fail
    go_loop [5] (fun i => ∃ k : Nat, k ≤ A ∧ i = .int .i64 k) (fun i => A - (intOf i).toNat)
    case atStart => exact ⟨0, Nat.zero_le _, rfl⟩
    case round =>
      obtain ⟨k, hk, rfl⟩ := hrel
      have hkl : k < L.length := by omega
      obtain ⟨b, off, rfl, -, -, hc⟩ := hr (by omega)
      have hcell := hc k hkl
      rw [nget _ _ hkl] at hcell
      have hkl2 : (k : Int) < L.length := by omega
      have hdl : decide ((k : Int) < L.length) = true := by simpa using hkl2
      clear hc hr
      by_cases hka : k < A
      · have hx := HLT.out k hka
        generalize L.getD k 0 = x at *
        have hx2 : (x : Int) < m := by omega
        go_wp2_with fail
        go_round
        case rel => exact ⟨k + 1, by omega, by go_num⟩
        case measure => simp [intOf]; omega
      · have hx : Hid (L.getD k 0 = m) := by show _ = _; rw [← HAT.out]; congr 1; omega
        rw [hx.out] at hcell
        have hmm : ((m : Int) == (m : Int)) = true := by simp
        go_wp2_with fail
        go_ret
        exact ⟨_, _, _, rfl, .inl ⟨rfl, by rw [HLX.out]; exact E.out⟩, Bel.rfl' _⟩
  | false =>
    rw [hf, if_neg (by simp)] at hsp
    have E : Hid (natsI (varsTo (setF f m) 12) = natsI (varsTo f m) ++ [(m : Int)] ++ natsI (tailF f m)) := by show _ = _; rw [hset]; simp [natsI]
    have htk : (natsI (varsTo f 12)).take (varsTo f m).length = natsI (varsTo f m) := by rw [hsp]; simp [natsI]
    have hdr : (natsI (varsTo f 12)).drop (varsTo f m).length = natsI (tailF f m) := by rw [hsp]; simp [natsI]
    have hgt : ∀ k, (varsTo f m).length ≤ k → k < (varsTo f 12).length → m < (varsTo f 12).getD k 0 := by
      intro k h1 h2
      rw [hsp] at h2 ⊢
      have h3 : k - (varsTo f m).length < (tailF f m).length := by simp at h2; omega
      have h4 := tail_gt (List.getElem_mem h3)
      simpa [List.getD, List.getElem?_append_right h1, h3] using h4
    have hll : (varsTo f 12).length = (varsTo f m).length + (tailF f m).length := by rw [hsp]; simp
    have HGT := Lib.hid hgt
    have HTK := Lib.hid htk
    have HDR := Lib.hid hdr
    have hown0 : (w.alloc (.cells #[] 3)).ownsRow w.heap.size 3 1 (.slice (some ⟨w.heap.size, 0, none⟩) 0 0) ([] : List Int).length (([] : List Int).map (Value.int .i64)) :=
      World.ownsRow_lit w #[] 0 (Nat.le_refl _) (Nat.zero_le _) rfl
    clear hsp hset hgt htk hdr hlt0
    have hSL := hv0.1
    generalize hLd : varsTo f 12 = L at *
    generalize hAd : varsTo f m = LA at *
    generalize hBd : tailF f m = LB at *
    clear hLd hAd hBd
    have hll1 : L.length ≤ LA.length + LB.length := by omega
    have hll2 : LA.length + LB.length ≤ L.length := by omega
    clear hll
    have hpos : 0 < L.length := hnz
    obtain ⟨b, off, rfl, -, -, hc⟩ := hr hpos
    have hcapl : L.length ≤ cap := by obtain ⟨_, _, e, h, _⟩ := hSL; simp only [Value.slice.injEq] at e; obtain ⟨-, -, rfl⟩ := e; rwa [natsI_len] at h
    have hlA : LA.length ≤ 12 := by omega
    have hlB : LB.length ≤ 12 := by omega
    have hc1 : ∀ w', Bel w w' → SlI lo w.heap.size w' (.slice (some ⟨b, off, none⟩) LA.length cap) (natsI LA) := fun w' hb => by
      have := (hSL.below hb).cut 0 LA.length (by omega) (by rw [natsI_len]; omega)
      simp only [Nat.add_zero, Nat.sub_zero, List.drop_zero] at this
      rwa [HTK.out] at this
    have HC1 := Lib.hid hc1
    have hcell0 : ∀ k, k < L.length → w.cell? ⟨b, off + k, none⟩ = some (.int .i64 ((L.getD k 0 : Nat) : Int)) := fun k hk => by rw [hc k hk, nget _ _ hk]
    have HCELL := Lib.hid hcell0
    have hparts : (LA.length < L.length ∧ LA.length < cap ∧ Hid (∀ w', Bel w w' → SlI lo w.heap.size w' (.slice (some ⟨b, off + LA.length, none⟩) (L.length - LA.length) (cap - LA.length)) (natsI LB))) ∨ (LA.length = L.length ∧ LB.length = 0) := by
      rcases Nat.lt_or_ge LA.length L.length with h1 | h1
      · refine .inl ⟨h1, by omega, fun w' hb => ?_⟩
        have := (hSL.below hb).cut LA.length L.length (by omega) (by rw [natsI_len]; omega)
        rw [HDR.out, List.take_of_length_le (by rw [natsI_len]; omega)] at this
        exact this
      · exact .inr ⟨by omega, by omega⟩
    clear hc hc1 hcell0 hr hSL
    rcases hparts with ⟨hAl, hAc, HC2⟩ | ⟨hAl, hB0⟩
    · have hAl2 : (LA.length : Int) < L.length := by omega
      have hAc2 : (LA.length : Int) < cap := by omega
      go_enter Try.func118, Try.ntmps118
      go_wp2_with fail
      go_loop [5] (fun i => ∃ k : Nat, k ≤ LA.length ∧ i = .int .i64 k) (fun i => LA.length - (intOf i).toNat)
      case atStart => exact ⟨0, Nat.zero_le _, rfl⟩
      case round =>
        obtain ⟨k, hk, rfl⟩ := hrel
        have hcell := HCELL.out k (by omega)
        have hdl : decide ((k : Int) < L.length) = true := by simp; omega
        by_cases hka : k < LA.length
        · have hx := HLT.out k hka
          generalize L.getD k 0 = x at *
          have hx2 : (x : Int) < m := by omega
          go_wp2_with fail
          go_round
          case rel => exact ⟨k + 1, by omega, by go_num⟩
          case measure => simp [intOf]; omega
        · obtain rfl : k = LA.length := by omega
          have hx := HGT.out _ (Nat.le_refl _) hAl
          generalize L.getD LA.length 0 = x at *
          have hx2 : (m : Int) < x := by omega
          have hxm : ((x : Int) == (m : Int)) = false := by rw [beq_eq_false_iff_ne]; omega
          have hxm2 : decide ((x : Int) < (m : Int)) = false := by simp; omega
          go_wp2_with (first | (at_builtin; refine wpList_append_own _ rfl (.tmp 34) (.tmp 37) 22 rfl w.heap.size 3 i0 (.int .i64 0) 1 8 Try.underlying22 hi0 hz0 hz1 hz2 rfl (by decide) _ _ _ rfl hown0 ⟨b, off, none⟩ LA.length cap ((natsI LA).map (Value.int .i64)) rfl (by simp [natsI_len]) (news_of_sl (HC1.out _ (Bel.alloc0 w _))) (ones_int _) (by simp; unfold maxLen; omega) (by simp; omega) (by simp) ?_; intro v1 w1 hown1 hgrow1 _; have hown1b := own_fix (n := LA.length) (xs := natsI LA) (by simp) (by simp) hown1; have hbw1 := (Bel.alloc0 w _).grown hgrow1 (fun k hk => own_base hown0 k hk)) | (at_builtin; refine wpList_append_own _ rfl (.tmp 39) (.tmp 41) 22 rfl w.heap.size 3 i0 (.int .i64 0) 1 8 Try.underlying22 hi0 hz0 hz1 hz2 rfl (by decide) _ _ _ rfl (hown1b.alloc _) ⟨w1.heap.size, 0, none⟩ 1 1 [.int .i64 m] rfl rfl (news_one _ _ _) (one_int _) (by unfold maxLen; omega) (by omega) (by have := hbw1.size; simp; omega) ?_; intro v2 w2 hown2 hgrow2 _; have hbw2 := (hbw1.alloc _).grown hgrow2 (fun k hk => own_base hown1b k hk)) | (at_builtin; refine wpList_append_own _ rfl (.tmp 43) (.tmp 46) 22 rfl w.heap.size 3 i0 (.int .i64 0) 1 8 Try.underlying22 hi0 hz0 hz1 hz2 rfl (by decide) _ _ _ rfl hown2 ⟨b, off + LA.length, none⟩ (L.length - LA.length) (cap - LA.length) ((natsI LB).map (Value.int .i64)) rfl (by simp [natsI_len]; omega) (news_of_sl (HC2.out _ hbw2)) (ones_int _) (by unfold maxLen; omega) (by omega) hbw2.size ?_; intro v3 w3 hown3 hgrow3 _; have hbw3 := hbw2.grown hgrow3 (fun k hk => own_base hown2 k hk)))
          have hown4 : w3.ownsRow w.heap.size 3 1 v3 (natsI LA ++ [(m : Int)] ++ natsI LB).length ((natsI LA ++ [(m : Int)] ++ natsI LB).map (Value.int .i64)) := own_fix (by simp [natsI_len]; omega) (by simp) hown3
          obtain ⟨g, n, c, hv'⟩ := own_form hown4
          subst hv'
          go_ret
          exact ⟨_, _, _, rfl, .inr (by rw [E.out]; exact hown4), hbw3⟩
    · have hAl1 : LA.length ≤ L.length := by omega
      have hAl2 : L.length ≤ LA.length := by omega
      have HB0 := Lib.hid (show LB = [] from List.length_eq_zero_iff.1 hB0)
      clear hAl hB0
      by_cases hqc : cap = LA.length
      · subst hqc
        go_enter Try.func118, Try.ntmps118
        go_wp2_with fail
        go_loop [5] (fun i => ∃ k : Nat, k ≤ LA.length ∧ i = .int .i64 k) (fun i => LA.length - (intOf i).toNat)
        case atStart => exact ⟨0, Nat.zero_le _, rfl⟩
        case round =>
          obtain ⟨k, hk, rfl⟩ := hrel
          by_cases hka : k < LA.length
          · have hcell := HCELL.out k (by omega)
            have hdl : decide ((k : Int) < L.length) = true := by simp; omega
            have hx := HLT.out k hka
            generalize L.getD k 0 = x at *
            have hx2 : (x : Int) < m := by omega
            go_wp2_with fail
            go_round
            case rel => exact ⟨k + 1, by omega, by go_num⟩
            case measure => simp [intOf]; omega
          · obtain rfl : k = LA.length := by omega
            have hdl : decide ((LA.length : Int) < L.length) = false := by simp; omega
            go_wp2_with (first | (at_builtin; refine wpList_append_own _ rfl (.tmp 34) (.tmp 37) 22 rfl w.heap.size 3 i0 (.int .i64 0) 1 8 Try.underlying22 hi0 hz0 hz1 hz2 rfl (by decide) _ _ _ rfl hown0 ⟨b, off, none⟩ LA.length _ ((natsI LA).map (Value.int .i64)) rfl (by simp [natsI_len]) (news_of_sl (HC1.out _ (Bel.alloc0 w _))) (ones_int _) (by simp; unfold maxLen; omega) (by simp; omega) (by simp) ?_; intro v1 w1 hown1 hgrow1 _; have hown1b := own_fix (n := LA.length) (xs := natsI LA) (by simp) (by simp) hown1; have hbw1 := (Bel.alloc0 w _).grown hgrow1 (fun k hk => own_base hown0 k hk)) | (at_builtin; refine wpList_append_own _ rfl (.tmp 39) (.tmp 41) 22 rfl w.heap.size 3 i0 (.int .i64 0) 1 8 Try.underlying22 hi0 hz0 hz1 hz2 rfl (by decide) _ _ _ rfl (hown1b.alloc _) ⟨w1.heap.size, 0, none⟩ 1 1 [.int .i64 m] rfl rfl (news_one _ _ _) (one_int _) (by unfold maxLen; omega) (by omega) (by have := hbw1.size; simp; omega) ?_; intro v2 w2 hown2 hgrow2 _; have hbw2 := (hbw1.alloc _).grown hgrow2 (fun k hk => own_base hown1b k hk)) | (at_builtin; refine wpList_append_own _ rfl (.tmp 43) (.tmp 46) 22 rfl w.heap.size 3 i0 (.int .i64 0) 1 8 Try.underlying22 hi0 hz0 hz1 hz2 rfl (by decide) _ _ _ rfl hown2 _ _ _ [] rfl (by simp; try omega) (by simp) (by simp) (by unfold maxLen; omega) (by omega) hbw2.size ?_; intro v3 w3 hown3 hgrow3 _; have hbw3 := hbw2.grown hgrow3 (fun k hk => own_base hown2 k hk)))
            have hown4 : w3.ownsRow w.heap.size 3 1 v3 (natsI LA ++ [(m : Int)] ++ natsI LB).length ((natsI LA ++ [(m : Int)] ++ natsI LB).map (Value.int .i64)) := own_fix (by rw [HB0.out]; simp [natsI]) (by rw [HB0.out]; simp [natsI]) hown3
            obtain ⟨g, n, c, hv'⟩ := own_form hown4
            subst hv'
            go_ret
            exact ⟨_, _, _, rfl, .inr (by rw [E.out]; exact hown4), hbw3⟩
      · have hAc2 : (LA.length : Int) < cap := by omega
        go_enter Try.func118, Try.ntmps118
        go_wp2_with fail
        go_loop [5] (fun i => ∃ k : Nat, k ≤ LA.length ∧ i = .int .i64 k) (fun i => LA.length - (intOf i).toNat)
        case atStart => exact ⟨0, Nat.zero_le _, rfl⟩
        case round =>
          obtain ⟨k, hk, rfl⟩ := hrel
          by_cases hka : k < LA.length
          · have hcell := HCELL.out k (by omega)
            have hdl : decide ((k : Int) < L.length) = true := by simp; omega
            have hx := HLT.out k hka
            generalize L.getD k 0 = x at *
            have hx2 : (x : Int) < m := by omega
            go_wp2_with fail
            go_round
            case rel => exact ⟨k + 1, by omega, by go_num⟩
            case measure => simp [intOf]; omega
          · obtain rfl : k = LA.length := by omega
            have hdl : decide ((LA.length : Int) < L.length) = false := by simp; omega
            go_wp2_with (first | (at_builtin; refine wpList_append_own _ rfl (.tmp 34) (.tmp 37) 22 rfl w.heap.size 3 i0 (.int .i64 0) 1 8 Try.underlying22 hi0 hz0 hz1 hz2 rfl (by decide) _ _ _ rfl hown0 ⟨b, off, none⟩ LA.length _ ((natsI LA).map (Value.int .i64)) rfl (by simp [natsI_len]) (news_of_sl (HC1.out _ (Bel.alloc0 w _))) (ones_int _) (by simp; unfold maxLen; omega) (by simp; omega) (by simp) ?_; intro v1 w1 hown1 hgrow1 _; have hown1b := own_fix (n := LA.length) (xs := natsI LA) (by simp) (by simp) hown1; have hbw1 := (Bel.alloc0 w _).grown hgrow1 (fun k hk => own_base hown0 k hk)) | (at_builtin; refine wpList_append_own _ rfl (.tmp 39) (.tmp 41) 22 rfl w.heap.size 3 i0 (.int .i64 0) 1 8 Try.underlying22 hi0 hz0 hz1 hz2 rfl (by decide) _ _ _ rfl (hown1b.alloc _) ⟨w1.heap.size, 0, none⟩ 1 1 [.int .i64 m] rfl rfl (news_one _ _ _) (one_int _) (by unfold maxLen; omega) (by omega) (by have := hbw1.size; simp; omega) ?_; intro v2 w2 hown2 hgrow2 _; have hbw2 := (hbw1.alloc _).grown hgrow2 (fun k hk => own_base hown1b k hk)) | (at_builtin; refine wpList_append_own _ rfl (.tmp 43) (.tmp 46) 22 rfl w.heap.size 3 i0 (.int .i64 0) 1 8 Try.underlying22 hi0 hz0 hz1 hz2 rfl (by decide) _ _ _ rfl hown2 _ _ _ [] rfl (by simp; try omega) (by simp) (by simp) (by unfold maxLen; omega) (by omega) hbw2.size ?_; intro v3 w3 hown3 hgrow3 _; have hbw3 := hbw2.grown hgrow3 (fun k hk => own_base hown2 k hk)))
            have hown4 : w3.ownsRow w.heap.size 3 1 v3 (natsI LA ++ [(m : Int)] ++ natsI LB).length ((natsI LA ++ [(m : Int)] ++ natsI LB).map (Value.int .i64)) := own_fix (by rw [HB0.out]; simp [natsI]) (by rw [HB0.out]; simp [natsI]) hown3
            obtain ⟨g, n, c, hv'⟩ := own_form hown4
            subst hv'
            go_ret
            exact ⟨_, _, _, rfl, .inr (by rw [E.out]; exact hown4), hbw3⟩
theorem l1Put_c (lo : Nat) (v : Value) (f : Nat → Bool) (m : Nat) (w : World) (hm : m < 12) (hlo : lo ≤ w.heap.size) (hnz : 0 < (varsTo f 12).length) (hv : OwnI lo w.heap.size w v (natsI (varsTo f 12))) :
    Calls Try.prog 118 #[v, .int .i64 m] w (RetO lo w (natsI (varsTo (setF f m) 12))) := by
  refine (l1Put_p lo v f m w hm hlo hnz hv).mono ?_
  rintro e w' ⟨ad, n, c, rfl, h, hb⟩
  refine ⟨ad, n, c, rfl, ?_, hb⟩
  rcases h with ⟨rfl, h2⟩ | h
  · rw [h2]; exact (hv.below hb).mono (Nat.le_refl _) hb.size
  · exact (OwnI.of_row h).mono hlo (Nat.le_refl _)
end Go.Proofs.Ytfhljkjcjnfjfaa
end
section
namespace Go.Proofs.Ytfhljkjcjnfjfaa
open Go.RowKit

theorem put_empty {f : Nat → Bool} {m : Nat} (hm : m < 12) (h : varsTo f 12 = []) : natsI (varsTo (setF f m) 12) = [(m : Int)] := by
  have h1 := vars_split f m hm
  rw [h] at h1
  have h2 := List.append_eq_nil_iff.1 h1.symm
  have h3 : tailF f m = [] := by
    have := h2.2
    split at this
    · simp at this
    · exact this
  rw [set_vars f m hm, h2.1, h3]; rfl
theorem put_some (f : Nat → Bool) (m : Nat) (hm : m < 12) : 0 < (varsTo (setF f m) 12).length := by rw [set_vars f m hm]; simp; omega

theorem l1Put_z (z : Int) (lo : Nat) (v : Value) (f : Nat → Bool) (m : Nat) (w : World) (hz : z = m) (hm : m < 12) (hlo : lo ≤ w.heap.size) (hnz : 0 < (varsTo f 12).length) (hv : OwnI lo w.heap.size w v (natsI (varsTo f 12))) :
    Calls Try.prog 118 #[v, .int .i64 z] w (RetO lo w (natsI (varsTo (setF f m) 12))) := by subst hz; exact l1Put_c lo v f m w hm hlo hnz hv
theorem l1Put_nz (z : Int) (m : Nat) (w : World) (hz : z = m) : Calls Try.prog 118 #[.slice none 0 0, .int .i64 z] w (RetR w [(m : Int)]) := by subst hz; exact l1Put_nil m w

/-- A row of ints of the call's own. -/
abbrev RowI (lo : Nat) (w : World) (v : Value) (xs : List Int) : Prop := w.ownsRow lo 3 1 v xs.length (xs.map (Value.int .i64))
theorem RowI.mono {lo lo' : Nat} {w : World} {v : Value} {xs : List Int} (h : RowI lo w v xs) (hl : lo' ≤ lo) : RowI lo' w v xs := by
  refine ⟨h.1, ?_⟩
  rcases h.2 with h0 | ⟨g, cap, cur, e1, e2, r⟩
  · exact .inl h0
  · exact .inr ⟨g, cap, cur, e1, Nat.le_trans hl e2, r⟩
theorem l1Put_q (z : Int) (lo : Nat) (v : Value) (f : Nat → Bool) (m : Nat) (w : World) (hz : z = m) (hm : m < 12) (hlo : lo ≤ w.heap.size) (hnz : 0 < (varsTo f 12).length) (hv : RowI lo w v (natsI (varsTo f 12))) :
    Calls Try.prog 118 #[v, .int .i64 z] w (fun e w' => ∃ ad n c, e = .returned (.slice ad n c) ∧ RowI lo w' (.slice ad n c) (natsI (varsTo (setF f m) 12)) ∧ Bel w w') := by
  subst hz
  refine (l1Put_p lo v f m w hm hlo hnz (OwnI.of_row hv)).mono ?_
  rintro e w' ⟨ad, n, c, rfl, h, hb⟩
  refine ⟨ad, n, c, rfl, ?_, hb⟩
  rcases h with ⟨rfl, h2⟩ | h
  · rw [h2]; exact ownsRow_bel hv hb
  · exact RowI.mono h hlo

set_option maxRecDepth 100000 in
set_option maxHeartbeats 300000 in
theorem l1Vars_r (l h : Nat) (v : Value) (t : List Int) (w : World) (ht : t.length ≤ 1048576) (hlow : ∀ k, k < t.length → -12 ≤ t.getD k 0) (hv : SlI l h w v t) :
    Calls Try.prog 117 #[v] w (RetR w (natsI (varsTo (mk t) 12))) := by
  obtain ⟨ad, cap, rfl, -, -, hr⟩ := hv
  go_enter Try.func117, Try.ntmps117
  go_wp2_with fail
  go_loopw [3, 8] (fun o i wr => ∃ k : Nat, k ≤ t.length ∧ i = .int .i64 k ∧ RowI w.heap.size wr o (natsI (varsTo (mk (t.take k)) 12)) ∧ (varsTo (mk (t.take k)) 12 = [] → o = .slice none 0 0) ∧ Bel w wr) (fun _ i _ => t.length - (intOf i).toNat)
  case atStart =>
    have e : varsTo (mk (t.take 0)) 12 = [] := by
      unfold varsTo; rw [List.filter_eq_nil_iff]; intro a _; simp [mk]
    exact ⟨0, Nat.zero_le _, rfl, by rw [e]; exact World.ownsRow_nil _ _ _ _, fun _ => rfl, Bel.rfl' _⟩
  case round =>
    obtain ⟨k, hk, rfl, hown, hnil, hb⟩ := hrel
    by_cases hlt : k < t.length
    · obtain ⟨b, off, rfl, -, hcell⟩ := rd hr hb k hlt
      have hx12 := hlow k hlt
      have E1 := Lib.hid (fun m => mk_step t k m hlt)
      have E2 := Lib.hid (mk_skip t k hlt)
      clear hr hlow
      generalize t.getD k 0 = x at *
      by_cases hx : x < 0
      · obtain ⟨m, hm⟩ : ∃ m : Nat, -1 - x = m := ⟨(-1 - x).toNat, by omega⟩
        have hm12 : m < 12 := by omega
        have E3 : Hid (mk (t.take (k+1)) = setF (mk (t.take k)) m) := by show _ = _; rw [← E1.out m (by omega)]; rfl
        have HM := Lib.hid hm; clear hm
        cases hl : varsTo (mk (t.take k)) 12 with
        | nil =>
          have ho := hnil hl
          have E4 := Lib.hid (put_empty hm12 hl)
          have E5 := Lib.hid (put_some (mk (t.take k)) m hm12)
          subst ho
          clear hown hnil hl
          go_wp2_with fail
          refine (l1Put_nz (-1 - x) m _ HM.out).mono ?_; rintro e w1 ⟨a1, n1, c1, rfl, ho1, hb1⟩
          go_wp2_with fail
          go_roundw
          case rel => exact ⟨k+1, by omega, by go_num, by rw [E3.out, E4.out]; exact RowI.mono ho1 hb.size, fun h => by rw [E3.out] at h; have := E5.out; rw [h] at this; simp at this, hb.step hb1⟩
          case measure => simp [intOf]; omega
        | cons y ys =>
          have hpos : 0 < (varsTo (mk (t.take k)) 12).length := by rw [hl]; simp
          have E5 := Lib.hid (put_some (mk (t.take k)) m hm12)
          have HO := Lib.hid hown
          clear hown hnil hl
          go_wp2_with fail
          refine (l1Put_q (-1 - x) w.heap.size _ (mk (t.take k)) m _ HM.out hm12 hb.size hpos HO.out).mono ?_; rintro e w1 ⟨a1, n1, c1, rfl, ho1, hb1⟩
          go_wp2_with fail
          go_roundw
          case rel => exact ⟨k+1, by omega, by go_num, by rw [E3.out]; exact ho1, fun h => by rw [E3.out] at h; have := E5.out; rw [h] at this; simp at this, hb.step hb1⟩
          case measure => simp [intOf]; omega
      · have HO := Lib.hid hown
        have HN := Lib.hid hnil
        clear hown hnil
        go_wp2_with fail
        go_roundw
        case rel => exact ⟨k+1, by omega, by go_num, by rw [← E2.out (by omega)]; exact HO.out, by rw [← E2.out (by omega)]; exact HN.out, hb⟩
        case measure => simp [intOf]; omega
    · rw [show t.take k = t from List.take_of_length_le (by omega)] at hown
      obtain ⟨g, n, c2, hv'⟩ := own_form hown
      subst hv'
      have HO := Lib.hid hown
      clear hown hnil
      go_wp2_with fail
      go_ret
      exact ⟨_, _, _, rfl, HO.out, hb⟩
theorem l1Vars_c (l h : Nat) (v : Value) (t : List Int) (w : World) (ht : t.length ≤ 1048576) (hlow : ∀ k, k < t.length → -12 ≤ t.getD k 0) (hv : SlI l h w v t) :
    Calls Try.prog 117 #[v] w (RetI w (natsI (varsTo (mk t) 12))) := (l1Vars_r l h v t w ht hlow hv).mono fun _ _ h => h.i
end Go.Proofs.Ytfhljkjcjnfjfaa
end
