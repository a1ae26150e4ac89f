/- Texts merged, part 11. -/
import Derived.Deep.RegionWith
import Derived.Deep.AppendLies
import Derived.Test.YteegjnobmbcjiaaMgTidied10
section
/- Chapter 5, the program: HoldsAt. -/
namespace Go.Proofs.Yteegjnobmbcjiaa
open Go.RowKit

set_option maxRecDepth 100000 in
set_option maxHeartbeats 2000000 in
theorem litHolds_c (l h l' h' l2 h2 l3 h3 : Nat) (v u u1 u2 ve : Value) (ar : List Int) (sz : Int) (tb : List (List Int)) (p : Bool) (xl xr : List Int) (env : List Int) (w : World) (hg : goodSign ar = true) (hw : isWorld ar sz tb = true) (he : okEnv sz env = true) (o1 : okTerm ar xl = true) (o2 : okTerm ar xr = true)
    (hv : SlI l h w v ar) (hu : SlS l' h' w u tb) (s1 : SlI l2 h2 w u1 xl) (s2 : SlI l2 h2 w u2 xr) (hve : SlI l3 h3 w ve env) :
    Calls Try.prog 80 #[.agg #[v], .agg #[.int .i64 sz, u], .agg #[.bool p, u1, u2], ve] w (RetV w (.bool (litH ar sz tb env (p, xl, xr)))) := by
  have HB : Bel w (((w.alloc (.cells #[v] 30)).alloc (.cells #[.int .i64 sz, u] 58)).alloc (.cells #[.bool p, u1, u2] 91)) := Bel.alloc3 _ _ _ _
  have HC1 := Lib.hid (fun (w' : World) (hq : Bel w w') => valueIn_c l h l' h' l2 h2 l3 h3 v u u1 ve ar sz tb xl env w' hg hw he o1 (hv.below hq) (hu.below hq) (s1.below hq) (hve.below hq))
  have HC2 := Lib.hid (fun (w' : World) (hq : Bel w w') => valueIn_c l h l' h' l2 h2 l3 h3 v u u2 ve ar sz tb xr env w' hg hw he o2 (hv.below hq) (hu.below hq) (s2.below hq) (hve.below hq))
  have KX : Hid (∀ w', Bel (((w.alloc (.cells #[v] 30)).alloc (.cells #[.int .i64 sz, u] 58)).alloc (.cells #[.bool p, u1, u2] 91)) w' → w'.cell? ⟨w.heap.size, 0, none⟩ = some v ∧ w'.cell? ⟨w.heap.size + 1, 0, none⟩ = some (.int .i64 sz) ∧ w'.cell? ⟨w.heap.size + 1, 1, none⟩ = some u ∧ w'.cell? ⟨w.heap.size + 1 + 1, 0, none⟩ = some (.bool p) ∧ w'.cell? ⟨w.heap.size + 1 + 1, 1, none⟩ = some u1 ∧ w'.cell? ⟨w.heap.size + 1 + 1, 2, none⟩ = some u2) := fun w' hq =>
    ⟨hq.at (by simp; omega) (by simp [go_sem]), hq.at (by simp) (by simp [go_sem]), hq.at (by simp) (by simp [go_sem]), hq.at (by simp) (by simp [go_sem]), hq.at (by simp) (by simp [go_sem]), hq.at (by simp) (by simp [go_sem])⟩
  clear hv hu s1 s2 hve hg hw he o1 o2
  unfold litH
  generalize evT ar sz tb env xl = e1 at *
  generalize evT ar sz tb env xr = e2 at *
  cases p with
  | false =>
    cases hq : ((e1 : Int) == e2)
    all_goals
      go_enter Try.func80, Try.ntmps80
      go_wp2_with fail
      go_region_held3 (fun w' => Bel w w' ∧ w'.cell? ⟨w.heap.size, 0, none⟩ = some v ∧ w'.cell? ⟨w.heap.size + 1, 0, none⟩ = some (.int .i64 sz) ∧ w'.cell? ⟨w.heap.size + 1, 1, none⟩ = some u ∧ w'.cell? ⟨w.heap.size + 1 + 1, 0, none⟩ = some (.bool false) ∧ w'.cell? ⟨w.heap.size + 1 + 1, 1, none⟩ = some u1 ∧ w'.cell? ⟨w.heap.size + 1 + 1, 2, none⟩ = some u2)
        (first | exact ⟨HB.drew, KX.out _ (Bel.drew0 _)⟩ | exact ⟨HB.step B8, KX.out _ B8⟩ | exact ⟨HB.step B9, KX.out _ B9⟩ | fail)
        (first | (go_at_call 92; refine (HC2.out _ (HB.step B8)).mono ?_; rintro e w9 ⟨rfl, hb9⟩; have B9 := B8.step hb9) | (go_at_call 92; refine (HC1.out _ HB.drew).mono ?_; rintro e w8 ⟨rfl, hb8⟩; have B8 := (Bel.drew0 _).step hb8) | fail)
      go_wp2_with fail
      go_ret
      exact ⟨rfl, HB.step B9⟩
  | true =>
    cases hq : ((e1 : Int) == e2)
    all_goals
      go_enter Try.func80, Try.ntmps80
      go_wp2_with fail
      go_region_held3 (fun w' => Bel w w' ∧ w'.cell? ⟨w.heap.size, 0, none⟩ = some v ∧ w'.cell? ⟨w.heap.size + 1, 0, none⟩ = some (.int .i64 sz) ∧ w'.cell? ⟨w.heap.size + 1, 1, none⟩ = some u ∧ w'.cell? ⟨w.heap.size + 1 + 1, 0, none⟩ = some (.bool true) ∧ w'.cell? ⟨w.heap.size + 1 + 1, 1, none⟩ = some u1 ∧ w'.cell? ⟨w.heap.size + 1 + 1, 2, none⟩ = some u2)
        (first | exact ⟨HB.drew, KX.out _ (Bel.drew0 _)⟩ | exact ⟨HB.step B8, KX.out _ B8⟩ | exact ⟨HB.step B9, KX.out _ B9⟩ | fail)
        (first | (go_at_call 92; refine (HC2.out _ (HB.step B8)).mono ?_; rintro e w9 ⟨rfl, hb9⟩; have B9 := B8.step hb9) | (go_at_call 92; refine (HC1.out _ HB.drew).mono ?_; rintro e w8 ⟨rfl, hb8⟩; have B8 := (Bel.drew0 _).step hb8) | fail)
      go_wp2_with fail
      go_ret
      exact ⟨rfl, HB.step B9⟩
end Go.Proofs.Yteegjnobmbcjiaa
end
section
/- Chapter 5, the program: HoldsAt. -/
namespace Go.Proofs.Yteegjnobmbcjiaa
open Go.RowKit

set_option maxRecDepth 100000 in
set_option maxHeartbeats 1000000 in
theorem iHoldsAt_t {l h l' h' l2 h2 l3 h3 : Nat} {v u vc ve : Value} {ar : List Int} {sz : Int} {tb : List (List Int)} {c : List Lt} {env : List Int} {w : World} (ha : ar.length ≤ 1048576) (hv : SlI l h w v ar) (hx : short tb) (hu : SlS l' h' w u tb) (hcs : sumC c ≤ 1048576) (hc : SlC l2 h2 w vc c) (hel : env.length ≤ 1048576) (he : SlI l3 h3 w ve env) :
    Calls Try.prog 36 #[.agg #[v], .agg #[.int .i64 sz, u], vc, ve] w (RetV w (.tuple #[.bool (holdsAns ar sz tb c env), .bool (holdsOk ar sz tb c env)])) := by
  unfold holdsAns holdsOk
  have HB : Bel w ((w.alloc (.cells #[v] 30)).alloc (.cells #[.int .i64 sz, u] 58)) := Bel.alloc2 _ _ _
  have HK : Hid (∀ w', Bel ((w.alloc (.cells #[v] 30)).alloc (.cells #[.int .i64 sz, u] 58)) w' → w'.cell? ⟨w.heap.size, 0, none⟩ = some v ∧ w'.cell? ⟨w.heap.size + 1, 0, none⟩ = some (.int .i64 sz) ∧ w'.cell? ⟨w.heap.size + 1, 1, none⟩ = some u) := fun w' hb =>
    ⟨hb.at (by simp; omega) (by simp [go_sem]), hb.at (by simp) (by simp [go_sem]), hb.at (by simp) (by simp [go_sem])⟩
  cases hg : goodWorld ar sz tb with
  | false =>
    rw [Bool.false_and, if_neg (by simp)]
    have HC := Lib.hid (fun (w' : World) (hb : Bel w w') => iGoodWorld_v hg ha (hv.below hb) hx (hu.below hb)); clear hg
    go_enter Try.func36, Try.ntmps36
    go_wp2_with fail
    refine (HC.out _ HB).mono ?_; rintro e w1 ⟨rfl, hb1⟩
    go_wp2_with fail
    go_ret2
    exact ⟨rfl, HB.step hb1⟩
  | true =>
    rw [Bool.true_and]
    obtain ⟨hgs, hiw⟩ := goodWorld_iff.1 hg
    obtain ⟨z1, z3, _, _⟩ := isWorld_iff.1 hiw
    have HC := Lib.hid (fun (w' : World) (hb : Bel w w') => iGoodWorld_v hg ha (hv.below hb) hx (hu.below hb)); clear hg
    cases hq : okLits ar c with
    | false =>
      rw [Bool.false_and, if_neg (by simp)]
      have HT := Lib.hid (fun (w' : World) (hb : Bel w w') => iGoodClause_v (q := false) (by unfold goodClause; rw [hgs, hq]; rfl) ha (hv.below hb) hcs (hc.below hb)); clear hq
      go_enter Try.func36, Try.ntmps36
      go_wp2_with fail
      refine (HC.out _ HB).mono ?_; rintro e w1 ⟨rfl, hb1⟩
      obtain ⟨x0, x1, x2⟩ := HK.out _ hb1
      go_wp2_with fail
      refine (HT.out _ (HB.step hb1)).mono ?_; rintro e w2 ⟨rfl, hb2⟩
      go_wp2_with fail
      go_ret2
      exact ⟨rfl, (HB.step hb1).step hb2⟩
    | true =>
      rw [Bool.true_and]
      have HT := Lib.hid (fun (w' : World) (hb : Bel w w') => iGoodClause_v (q := true) (by unfold goodClause; rw [hgs, hq]; rfl) ha (hv.below hb) hcs (hc.below hb))
      cases hp : okEnv sz env with
      | false =>
        rw [if_neg (by simp)]
        have HE := Lib.hid (fun (w' : World) (hb : Bel w w') => goodEnv_v l3 h3 u ve sz env false w' hp z1 z3 hel (he.below hb))
        clear hq hp
        go_enter Try.func36, Try.ntmps36
        go_wp2_with fail
        refine (HC.out _ HB).mono ?_; rintro e w1 ⟨rfl, hb1⟩
        obtain ⟨x0, x1, x2⟩ := HK.out _ hb1
        go_wp2_with fail
        refine (HT.out _ (HB.step hb1)).mono ?_; rintro e w2 ⟨rfl, hb2⟩
        obtain ⟨y0, y1, y2⟩ := HK.out _ (hb1.step hb2)
        go_wp2_with fail
        refine (HE.out _ ((HB.step hb1).step hb2)).mono ?_; rintro e w3 ⟨rfl, hb3⟩
        go_wp2_with fail
        go_ret2
        exact ⟨rfl, ((HB.step hb1).step hb2).step hb3⟩
      | true =>
        rw [if_pos rfl]
        have HE := Lib.hid (fun (w' : World) (hb : Bel w w') => goodEnv_v l3 h3 u ve sz env true w' hp z1 z3 hel (he.below hb))
        have h8 := (okLits_iff.1 hq).1
        have HOK := Lib.hid (fun k hk => okLits_get (okLits_iff.1 hq).2 k hk)
        have HV := Lib.hid (fun (p : Bool) (xl xr : List Int) (u1 u2 : Value) (w' : World) (o1 : okTerm ar xl = true) (o2 : okTerm ar xr = true) (hb : Bel w w') (s1 : SlI l2 h2 w' u1 xl) (s2 : SlI l2 h2 w' u2 xr) => litHolds_c l h l' h' l2 h2 l3 h3 v u u1 u2 ve ar sz tb p xl xr env w' hgs hiw hp o1 o2 (hv.below hb) (hu.below hb) s1 s2 (he.below hb))
        obtain ⟨ac, kc, rfl⟩ := hc.form
        have HS1 := Lib.hid (fun k hk h => any_split c (litH ar sz tb env) k hk h)
        have HS2 := Lib.hid (fun k hk h => any_true c (litH ar sz tb env) k hk h)
        unfold clH
        generalize litH ar sz tb env = LH at *
        clear hq hp
        go_enter Try.func36, Try.ntmps36
        go_wp2_with fail
        refine (HC.out _ HB).mono ?_; rintro e w1 ⟨rfl, hb1⟩
        obtain ⟨x0, x1, x2⟩ := HK.out _ hb1
        go_wp2_with fail
        refine (HT.out _ (HB.step hb1)).mono ?_; rintro e w2 ⟨rfl, hb2⟩
        obtain ⟨y0, y1, y2⟩ := HK.out _ (hb1.step hb2)
        go_wp2_with fail
        refine (HE.out _ ((HB.step hb1).step hb2)).mono ?_; rintro e w3 ⟨rfl, hb3⟩
        obtain ⟨v0, v1, v2⟩ := HK.out _ ((hb1.step hb2).step hb3)
        go_wp2_with fail
        have HW := ((HB.step hb1).step hb2).step hb3
        have HKW := Lib.hid (fun w' (hb : Bel w3 w') => HK.out w' (((hb1.step hb2).step hb3).step hb))
        clear hb1 hb2 hb3 x0 x1 x2 y0 y1 y2 HC HT HE HK
        go_loopw [30] (fun i wr => ∃ k : Nat, k ≤ c.length ∧ i = .int .i64 k ∧ (c.take k).any LH = false ∧ Bel w3 wr) (fun i _ => c.length - (intOf i).toNat)
        case atStart => exact ⟨0, Nat.zero_le _, rfl, by simp, Bel.rfl' _⟩
        case round =>
          obtain ⟨k, hk, rfl, hany, hb⟩ := hrel
          by_cases hlt : k < c.length
          · obtain ⟨b, off, u1, u2, rfl, hbs, c1, c2, c3, s1, s2⟩ := hc.at (HW.step hb) k hlt
            obtain ⟨o1, o2⟩ := HOK.out k hlt
            have hin1 : (k : Int) < c.length := by omega
            have HS := HS1.out k hlt hany
            have HT := HS2.out k hlt
            clear HS1 HS2 HOK hany
            generalize c.getD k lt0 = x at *
            obtain ⟨p, xl, xr⟩ := x
            simp only at *
            obtain ⟨a1, d1, rfl⟩ := s1.form
            obtain ⟨a2, d2, rfl⟩ := s2.form
            have hBx := hb.alloc (.cells #[.bool p, .slice a1 xl.length d1, .slice a2 xr.length d2] 91)
            obtain ⟨f0, f1, f2⟩ := HKW.out _ hBx
            have HC := Lib.hid (HV.out p xl xr _ _ _ o1 o2 (HW.step hBx) (s1.alloc _) (s2.alloc _))
            clear s1 s2 o1 o2 HV
            cases hq : LH (p, xl, xr) with
            | false =>
              rw [hq] at HS HC
              go_wp2_with fail
              refine HC.out.mono ?_; rintro e w9 ⟨rfl, hb9⟩
              go_wp2_with fail
              go_roundw
              case rel => exact ⟨k+1, by omega, by go_num, HS, hBx.step hb9⟩
              case measure => simp [intOf]; omega
            | true =>
              rw [hq] at HC
              go_wp2_with fail
              refine HC.out.mono ?_; rintro e w9 ⟨rfl, hb9⟩
              go_wp2_with fail
              go_ret2
              exact ⟨by rw [HT hq]; rfl, (HW.step hBx).step hb9⟩
          · obtain rfl : k = c.length := by omega
            rw [List.take_length] at hany
            have HY := Lib.hid hany
            clear hany
            go_wp2_with fail
            go_ret2
            exact ⟨by rw [HY.out]; rfl, HW.step hb⟩
end Go.Proofs.Yteegjnobmbcjiaa
end
section
/- Chapter 5: the least assignment that makes something false. No program. -/
namespace Go.Proofs.Yteegjnobmbcjiaa
open Go.RowKit

/-- The first of g k, g (k+1), .. that is something. -/
def tryW (g : Nat → Option (List Int)) : Nat → Nat → Option (List Int)
  | _, 0 => none
  | k, m + 1 => match g k with
    | some e => some e
    | none => tryW g (k + 1) m
theorem tryW_some {g : Nat → Option (List Int)} {k m : Nat} {e : List Int} (h : g k = some e) : tryW g k (m+1) = some e := by rw [tryW, h]
theorem tryW_none {g : Nat → Option (List Int)} {k m : Nat} (h : g k = none) : tryW g k (m+1) = tryW g (k+1) m := by rw [tryW, h]
/-- The least values of these variables for which P is false. -/
def lw (Z : Nat) (P : List Int → Bool) : List Nat → List Int → Option (List Int)
  | [], e => if P e then none else some e
  | v :: r, e => tryW (fun n => lw Z P r (e.set v (n : Int))) 0 Z
/-- The same but for these. -/
def Off (vs : List Nat) (e e' : List Int) : Prop := e'.length = e.length ∧ ∀ j, j ∉ vs → e'.getD j 0 = e.getD j 0
theorem Off.refl (vs : List Nat) (e : List Int) : Off vs e e := ⟨rfl, fun _ _ => rfl⟩
theorem Off.trans {vs : List Nat} {a b c : List Int} (h : Off vs a b) (k : Off vs b c) : Off vs a c := ⟨k.1.trans h.1, fun j hj => (k.2 j hj).trans (h.2 j hj)⟩
theorem Off.symm {vs : List Nat} {a b : List Int} (h : Off vs a b) : Off vs b a := ⟨h.1.symm, fun j hj => (h.2 j hj).symm⟩
theorem Off.wider {vs us : List Nat} {a b : List Int} (h : Off vs a b) (k : ∀ v ∈ vs, v ∈ us) : Off us a b := ⟨h.1, fun j hj => h.2 j fun hm => hj (k j hm)⟩
theorem set_getD (e : List Int) (v : Nat) (x : Int) (j : Nat) : (e.set v x).getD j 0 = if v = j ∧ v < e.length then x else e.getD j 0 := by
  rw [List.getD_eq_getElem?_getD, List.getElem?_set]
  by_cases h : v = j
  · subst h
    by_cases hl : v < e.length
    · simp [hl]
    · simp [hl, List.getD]
  · rw [if_neg h, if_neg (fun k => h k.1), List.getD_eq_getElem?_getD]
theorem Off.set {v : Nat} {r : List Nat} {e e' : List Int} (h : Off (v :: r) e e') (x : Int) : Off r (e.set v x) (e'.set v x) := by
  refine ⟨by simp [h.1], fun j hj => ?_⟩
  rw [set_getD, set_getD, h.1]
  by_cases hv : v = j ∧ v < e.length
  · rw [if_pos hv, if_pos hv]
  · rw [if_neg hv, if_neg hv]
    by_cases e1 : j = v
    · subst e1
      have hl : e.length ≤ j := by omega
      rw [List.getD_eq_getElem?_getD, List.getD_eq_getElem?_getD, List.getElem?_eq_none (by rw [h.1]; exact hl), List.getElem?_eq_none hl]
    · exact h.2 j (by simp [e1, hj])
theorem Off.one (v : Nat) (r : List Nat) (e : List Int) (x : Int) : Off (v :: r) e (e.set v x) := by
  refine ⟨by simp, fun j hj => ?_⟩
  rw [set_getD, if_neg]
  rintro ⟨h, _⟩
  exact hj (by simp [h])
theorem Off.nil {a b : List Int} (h : Off [] a b) : b = a := by
  refine List.ext_getElem h.1 fun j h1 h2 => ?_
  have := h.2 j (by simp)
  simpa [List.getD, h1, h2] using this
/-- What the variables are at first does not count. -/
theorem lw_off (Z : Nat) (P : List Int → Bool) : ∀ (vs : List Nat) (e e' : List Int), Off vs e e' → lw Z P vs e' = lw Z P vs e := by
  intro vs
  induction vs with
  | nil => intro e e' h; rw [h.nil]
  | cons v r ih =>
    intro e e' h
    show tryW _ 0 Z = tryW _ 0 Z
    congr 1
    funext n
    exact ih _ _ (h.set _)
theorem tryW_mem {g : Nat → Option (List Int)} : ∀ (m k : Nat) (e : List Int), tryW g k m = some e → ∃ n, k ≤ n ∧ n < k + m ∧ g n = some e := by
  intro m
  induction m with
  | zero => intro k e h; simp [tryW] at h
  | succ m ih =>
    intro k e h
    rw [tryW] at h
    cases hg : g k with
    | some x => rw [hg] at h; simp at h; subst h; exact ⟨k, Nat.le_refl _, by omega, hg⟩
    | none =>
      rw [hg] at h
      obtain ⟨n, h1, h2, h3⟩ := ih _ _ h
      exact ⟨n, by omega, by omega, h3⟩
theorem okEnv_set {sz : Int} {e : List Int} (h : okEnv sz e = true) (v : Nat) {x : Int} (h0 : 0 ≤ x) (h1 : x ≤ sz - 1) : okEnv sz (e.set v x) = true := by
  obtain ⟨a, b⟩ := okEnv_iff.1 h
  refine okEnv_iff.2 ⟨by simp [a], fun j hj => ?_⟩
  rw [set_getD]
  split
  · exact ⟨h0, h1⟩
  · exact b j hj
theorem lw_ok {Z : Nat} {P : List Int → Bool} : ∀ (vs : List Nat) (e r : List Int), okEnv Z e = true → lw Z P vs e = some r → okEnv Z r = true ∧ Off vs e r := by
  intro vs
  induction vs with
  | nil =>
    intro e r h hl
    unfold lw at hl
    split at hl
    · simp at hl
    · simp at hl; subst hl; exact ⟨h, Off.refl _ _⟩
  | cons v vs ih =>
    intro e r h hl
    obtain ⟨n, _, hn, hg⟩ := tryW_mem _ _ _ hl
    obtain ⟨k1, k2⟩ := ih _ _ (okEnv_set h v (x := (n : Int)) (by omega) (by omega)) hg
    exact ⟨k1, (Off.one v vs e n).trans (k2.wider (by simp +contextual))⟩
def zeros12 : List Int := List.replicate 12 0
theorem zeros_ok {Z : Nat} (h : 1 ≤ Z) : okEnv Z zeros12 = true := by
  refine okEnv_iff.2 ⟨rfl, fun j hj => ?_⟩
  have : zeros12.getD j 0 = 0 := by
    unfold zeros12
    rw [List.getD_eq_getElem?_getD, List.getElem?_replicate]
    simp [hj]
  rw [this]; omega

/-- The answers. -/
def varsC (c : List Lt) : List Nat := varsTo (mk (flatC c).flatten) 12
def fewC (c : List Lt) : Bool := decide ((varsC c).length ≤ 6)
def falseOk (ar : List Int) (sz : Int) (tb : List (List Int)) (c : List Lt) : Bool := goodWorld ar sz tb && (okLits ar c && fewC c)
def lwC (ar : List Int) (sz : Int) (tb : List (List Int)) (c : List Lt) : Option (List Int) := lw sz.toNat (fun e => clH ar sz tb e c) (varsC c) zeros12
def falseAns (ar : List Int) (sz : Int) (tb : List (List Int)) (c : List Lt) : List Int := if falseOk ar sz tb c then (lwC ar sz tb c).getD [] else []
def falseIs (ar : List Int) (sz : Int) (tb : List (List Int)) (c : List Lt) : Bool := falseOk ar sz tb c && (lwC ar sz tb c).isSome
theorem lwC_ok {ar : List Int} {sz : Int} {tb : List (List Int)} {c : List Lt} (h1 : 1 ≤ sz) {r : List Int} (h : lwC ar sz tb c = some r) : okEnv sz r = true := by
  obtain ⟨Z, rfl⟩ : ∃ Z : Nat, sz = (Z : Int) := ⟨sz.toNat, by omega⟩
  exact (lw_ok _ _ _ (zeros_ok (by omega)) h).1
theorem falseAns_len (ar : List Int) (sz : Int) (tb : List (List Int)) (c : List Lt) : (falseAns ar sz tb c).length ≤ 1048576 := by
  unfold falseAns
  split
  · rename_i h
    unfold falseOk at h
    rw [Bool.and_eq_true] at h
    obtain ⟨w1, _⟩ := isWorld_iff.1 (goodWorld_iff.1 h.1).2
    cases hl : lwC ar sz tb c with
    | none => simp
    | some r => have := (okEnv_iff.1 (lwC_ok w1 hl)).1; simp; omega
  · simp
end Go.Proofs.Yteegjnobmbcjiaa
end
section
/- Chapter 5: a literal's truth hangs on its own variables; what a test remembers. No program. -/
namespace Go.Proofs.Yteegjnobmbcjiaa
open Go.RowKit

section
variable {ar : List Int} {sz : Int} {tb : List (List Int)}
theorem Ev.congr {env env' : List Int} {s : Option Nat} {y vs : List Int} (h : Ev ar sz tb env s y vs) (hq : ∀ n ∈ y, n < 0 → env.getD (-1 - n).toNat 0 = env'.getD (-1 - n).toNat 0) : Ev ar sz tb env' s y vs := by
  induction h with
  | var n h1 h2 => rw [hq n (by simp) h2]; exact Ev.var n h1 h2
  | node n ys vs h1 h2 _ ih => exact Ev.node n ys vs h1 h2 (ih fun m hm => hq m (List.mem_cons_of_mem _ hm))
  | nil => exact Ev.nil
  | cons m y ys v vs _ _ ih1 ih2 => exact Ev.cons m y ys v vs (ih1 fun k hk => hq k (List.mem_append_left _ hk)) (ih2 fun k hk => hq k (List.mem_append_right _ hk))
theorem evT_congr {env env' t : List Int} (ht : okTerm ar t = true) (hq : ∀ n ∈ t, n < 0 → env.getD (-1 - n).toNat 0 = env'.getD (-1 - n).toNat 0) : evT ar sz tb env t = evT ar sz tb env' t :=
  (ev_eq ht ((ev_whole ht).congr hq)).symm
end
theorem varsC_mem {c : List Lt} {x : Lt} (hx : x ∈ c) {n : Int} (hn : n ∈ x.2.1 ∨ n ∈ x.2.2) (h0 : n < 0) (h12 : -12 ≤ n) : (-1 - n).toNat ∈ varsC c := by
  unfold varsC varsTo
  rw [List.mem_filter, List.mem_range]
  refine ⟨by omega, ?_⟩
  unfold mk
  rw [decide_eq_true_eq, show (-1 - (((-1 - n).toNat : Nat) : Int)) = n by omega, List.mem_flatten]
  rcases hn with h | h
  · exact ⟨x.2.1, List.mem_flatMap.2 ⟨x, hx, by simp⟩, h⟩
  · exact ⟨x.2.2, List.mem_flatMap.2 ⟨x, hx, by simp⟩, h⟩
theorem litH_congr {ar : List Int} {sz : Int} {tb : List (List Int)} {x : Lt} {e e' : List Int} (o1 : okTerm ar x.2.1 = true) (o2 : okTerm ar x.2.2 = true) (h : ∀ v ∈ varsC [x], e.getD v 0 = e'.getD v 0) : litH ar sz tb e x = litH ar sz tb e' x := by
  unfold litH
  rw [evT_congr (env' := e') o1 (fun n hn h0 => h _ (varsC_mem (by simp) (.inl hn) h0 (ok_low o1 hn))), evT_congr (env' := e') o2 (fun n hn h0 => h _ (varsC_mem (by simp) (.inr hn) h0 (ok_low o2 hn)))]
/-- The index of an assignment among those of these variables. -/
def idxW (sz : Int) (vs : List Nat) (e : List Int) : Int := noOf sz (vs.map fun v => e.getD v 0)
theorem fold_inj {sz : Int} (hs : 1 ≤ sz) : ∀ (xs ys : List Int) (a b : Int), xs.length = ys.length → (∀ x ∈ xs, 0 ≤ x ∧ x ≤ sz - 1) → (∀ y ∈ ys, 0 ≤ y ∧ y ≤ sz - 1) → xs.foldl (fun no v => no * sz + v) a = ys.foldl (fun no v => no * sz + v) b → a = b ∧ xs = ys := by
  intro xs
  induction xs with
  | nil =>
    intro ys a b hl _ _ h
    obtain rfl : ys = [] := List.length_eq_zero_iff.1 hl.symm
    exact ⟨h, rfl⟩
  | cons x xs ih =>
    intro ys a b hl hx hy h
    match ys, hl with
    | y :: ys, hl =>
      obtain ⟨h1, h2⟩ := ih ys (a * sz + x) (b * sz + y) (by simpa using hl) (fun z hz => hx z (by simp [hz])) (fun z hz => hy z (by simp [hz])) h
      obtain ⟨x0, x1⟩ := hx x (by simp)
      obtain ⟨y0, y1⟩ := hy y (by simp)
      have e1 : (a * sz + x) % sz = x := by rw [Int.add_comm, Int.add_mul_emod_self_right]; exact Int.emod_eq_of_lt x0 (by omega)
      have e2 : (b * sz + y) % sz = y := by rw [Int.add_comm, Int.add_mul_emod_self_right]; exact Int.emod_eq_of_lt y0 (by omega)
      have hxy : x = y := by rw [← e1, ← e2, h1]
      subst hxy
      have h3 : a * sz = b * sz := by omega
      exact ⟨Int.eq_of_mul_eq_mul_right (by omega) h3, by rw [h2]⟩
theorem idx_inj {sz : Int} (hs : 1 ≤ sz) {vs : List Nat} {e e' : List Int} (hv : ∀ v ∈ vs, v < 12) (h : okEnv sz e = true) (h' : okEnv sz e' = true) (hi : idxW sz vs e = idxW sz vs e') : ∀ v ∈ vs, e.getD v 0 = e'.getD v 0 := by
  have hb : ∀ (f : List Int), okEnv sz f = true → ∀ x ∈ vs.map (fun v => f.getD v 0), 0 ≤ x ∧ x ≤ sz - 1 := fun f hf x hx => by
    obtain ⟨v, hv', rfl⟩ := List.mem_map.1 hx
    exact (okEnv_iff.1 hf).2 v (hv v hv')
  have := (fold_inj hs _ _ 0 0 (by simp) (hb e h) (hb e' h') hi).2
  intro v hm
  have h2 := List.map_inj_left.1 this v hm
  exact h2
theorem idx_bd {sz : Int} (hs : 1 ≤ sz) {vs : List Nat} {e : List Int} (hv : ∀ v ∈ vs, v < 12) (h : okEnv sz e = true) : 0 ≤ idxW sz vs e ∧ idxW sz vs e < ((sz.toNat ^ vs.length : Nat) : Int) := by
  have := noOf_bd hs (vs.map fun v => e.getD v 0) (fun x hx => by
    obtain ⟨v, hv', rfl⟩ := List.mem_map.1 hx
    exact (okEnv_iff.1 h).2 v (hv v hv'))
  unfold longW at this
  rw [List.length_map, Int.toNat_natCast] at this
  exact this
/-- What has been remembered is right. -/
def Known (ar : List Int) (sz : Int) (tb : List (List Int)) (x : Lt) (ks : List Int) : Prop :=
  ks.length = sz.toNat ^ (varsC [x]).length ∧ ∀ e, okEnv sz e = true → (ks.getD (idxW sz (varsC [x]) e).toNat 0 = 0 ∨ ks.getD (idxW sz (varsC [x]) e).toNat 0 = if litH ar sz tb e x then 2 else 1)
theorem Known.new (ar : List Int) (sz : Int) (tb : List (List Int)) (x : Lt) : Known ar sz tb x (List.replicate (sz.toNat ^ (varsC [x]).length) 0) := by
  refine ⟨by simp, fun e _ => .inl ?_⟩
  rw [List.getD_eq_getElem?_getD, List.getElem?_replicate]
  split <;> rfl
theorem varsC_lt {c : List Lt} : ∀ v ∈ varsC c, v < 12 := fun v hv => by
  unfold varsC varsTo at hv
  rw [List.mem_filter, List.mem_range] at hv
  exact hv.1
theorem Known.put {ar : List Int} {sz : Int} {tb : List (List Int)} {x : Lt} {ks : List Int} (h : Known ar sz tb x ks) (hs : 1 ≤ sz) (o1 : okTerm ar x.2.1 = true) (o2 : okTerm ar x.2.2 = true) {e : List Int} (he : okEnv sz e = true) (y : Int) (hy : y = if litH ar sz tb e x then 2 else 1) :
    Known ar sz tb x (ks.set (idxW sz (varsC [x]) e).toNat y) := by
  refine ⟨by simp [h.1], fun e' he' => ?_⟩
  rw [set_getD]
  by_cases hc : (idxW sz (varsC [x]) e).toNat = (idxW sz (varsC [x]) e').toNat ∧ (idxW sz (varsC [x]) e).toNat < ks.length
  · rw [if_pos hc]
    have h1 := idx_bd hs (varsC_lt (c := [x])) he
    have h2 := idx_bd hs (varsC_lt (c := [x])) he'
    have h3 := idx_inj hs (varsC_lt (c := [x])) he he' (by omega)
    refine .inr ?_
    rw [hy, litH_congr o1 o2 h3]
  · rw [if_neg hc]
    exact h.2 e' he'
end Go.Proofs.Yteegjnobmbcjiaa
end
section
/- Chapter 5, the program: the test of a literal, which remembers. -/
namespace Go.Proofs.Yteegjnobmbcjiaa
open Go.RowKit

theorem pw_le12 {Z k : Nat} (h1 : Z ≤ 3) (h2 : k ≤ 12) : Z ^ k ≤ 531441 :=
  Nat.le_trans (Nat.pow_le_pow_left h1 _) (Nat.pow_le_pow_right (n := 3) (by omega) h2)
set_option maxRecDepth 100000 in
set_option maxHeartbeats 400000 in
theorem tableLength_g (Z A : Nat) (w : World) (h2 : Z ≤ 3) (h3 : A ≤ 12) :
    Calls Try.prog 101 #[.int .i64 (A : Int), .int .i64 (Z : Int)] w (RetV w (.int .i64 ((Z ^ A : Nat) : Int))) := by
  go_enter Try.func101, Try.ntmps101
  go_wp2_with fail
  go_loop [5, 7] (fun n a => ∃ k : Nat, k ≤ A ∧ a = .int .i64 k ∧ n = .int .i64 ((Z ^ k : Nat) : Int)) (fun _ a => A - (intOf a).toNat)
  case atStart => exact ⟨0, Nat.zero_le _, rfl, rfl⟩
  case round =>
    obtain ⟨k, hk, rfl, rfl⟩ := hrel
    by_cases hlt : k < A
    · have E := Lib.hid (pw_succ Z k)
      have hb := pw_le12 h2 (show k + 1 ≤ 12 by omega)
      have hw : -9223372036854775808 ≤ ((Z ^ k : Nat) : Int) * (Z : Int) ∧ ((Z ^ k : Nat) : Int) * (Z : Int) ≤ 9223372036854775807 := by rw [E.out]; omega
      have hw1 := IntWalk.i64_in (((Z ^ k : Nat) : Int) * (Z : Int)) hw
      clear hw hb
      generalize ((Z ^ k : Nat) : Int) = y at *
      go_wp2_with fail
      go_round
      case rel => exact ⟨k+1, by omega, by go_num, by rw [← E.out]⟩
      case measure => simp [intOf]; omega
    · obtain rfl : k = A := by omega
      generalize ((Z ^ k : Nat) : Int) = y at *
      go_wp2_with fail
      go_ret
      exact ⟨rfl, Bel.rfl' _⟩

/-- The test of the literal x at these blocks. -/
structure Tst (ar : List Int) (sz : Int) (tb : List (List Int)) (L H lo hi : Nat) (x : Lt) (p7 p4 p8 p3 p5 bk : Nat) (a7 : Option Addr) (c7 : Nat) (v u u1 u2 : Value) (ks : List Int) (w : World) : Prop where
  b3 : lo ≤ p3 ∧ p3 < p7
  b4 : lo ≤ p4 ∧ p4 < p7
  b5 : lo ≤ p5 ∧ p5 < p7
  b7 : lo ≤ p7 ∧ p7 < bk
  b8 : bk < p8 ∧ p8 < hi
  old : H ≤ lo
  cur : hi ≤ w.heap.size
  s7 : w.cell? ⟨p7, 0, none⟩ = some (.slice a7 (varsC [x]).length c7)
  v7 : SlI lo p7 w (.slice a7 (varsC [x]).length c7) (natsI (varsC [x]))
  s40 : w.cell? ⟨p4, 0, none⟩ = some (.int .i64 sz)
  s41 : w.cell? ⟨p4, 1, none⟩ = some u
  v4 : SlS L H w u tb
  s3 : w.cell? ⟨p3, 0, none⟩ = some v
  v3 : SlI L H w v ar
  s50 : w.cell? ⟨p5, 0, none⟩ = some (.bool x.1)
  s51 : w.cell? ⟨p5, 1, none⟩ = some u1
  s52 : w.cell? ⟨p5, 2, none⟩ = some u2
  v51 : SlI L H w u1 x.2.1
  v52 : SlI L H w u2 x.2.2
  s8 : w.cell? ⟨p8, 0, none⟩ = some (.slice (some ⟨bk, 0, none⟩) ks.length ks.length)
  v8 : OwnI bk (bk + 1) w (.slice (some ⟨bk, 0, none⟩) ks.length ks.length) ks
  kn : Known ar sz tb x ks
theorem Tst.chg {ar : List Int} {sz : Int} {tb : List (List Int)} {L H lo hi : Nat} {x : Lt} {p7 p4 p8 p3 p5 bk : Nat} {a7 : Option Addr} {c7 : Nat} {v u u1 u2 : Value} {ks : List Int} {w w' : World} {l' h' : Nat}
    (t : Tst ar sz tb L H lo hi x p7 p4 p8 p3 p5 bk a7 c7 v u u1 u2 ks w) (k : Chg l' h' w w') (d1 : h' ≤ lo ∨ hi ≤ l') (d2 : h' ≤ L ∨ H ≤ l') : Tst ar sz tb L H lo hi x p7 p4 p8 p3 p5 bk a7 c7 v u u1 u2 ks w' := by
  obtain ⟨b3, b4, b5, b7, b8, old, cur, s7, v7, s40, s41, v4, s3, v3, s50, s51, s52, v51, v52, s8, v8, kn⟩ := t
  have hz := k.size
  exact ⟨b3, b4, b5, b7, b8, old, by omega, k.cell (by omega) (by omega) s7, v7.chg k (by omega), k.cell (by omega) (by omega) s40, k.cell (by omega) (by omega) s41, v4.chg k (by omega), k.cell (by omega) (by omega) s3, v3.chg k (by omega),
    k.cell (by omega) (by omega) s50, k.cell (by omega) (by omega) s51, k.cell (by omega) (by omega) s52, v51.chg k (by omega), v52.chg k (by omega), k.cell (by omega) (by omega) s8, v8.chg k (by omega), kn⟩
/-- What is remembered has turned, the rest not. -/
theorem Tst.put {ar : List Int} {sz : Int} {tb : List (List Int)} {L H lo hi : Nat} {x : Lt} {p7 p4 p8 p3 p5 bk : Nat} {a7 : Option Addr} {c7 : Nat} {v u u1 u2 : Value} {ks ks' : List Int} {w w' : World}
    (t : Tst ar sz tb L H lo hi x p7 p4 p8 p3 p5 bk a7 c7 v u u1 u2 ks w) (k : Chg bk (bk+1) w w') (hl : ks'.length = ks.length) (ho : OwnI bk (bk + 1) w' (.slice (some ⟨bk, 0, none⟩) ks.length ks.length) ks') (hk : Known ar sz tb x ks') : Tst ar sz tb L H lo hi x p7 p4 p8 p3 p5 bk a7 c7 v u u1 u2 ks' w' := by
  obtain ⟨b3, b4, b5, b7, b8, old, cur, s7, v7, s40, s41, v4, s3, v3, s50, s51, s52, v51, v52, s8, v8, kn⟩ := t
  have hz := k.size
  exact ⟨b3, b4, b5, b7, b8, old, by omega, k.cell (by omega) (by omega) s7, v7.chg k (by omega), k.cell (by omega) (by omega) s40, k.cell (by omega) (by omega) s41, v4.chg k (by omega), k.cell (by omega) (by omega) s3, v3.chg k (by omega),
    k.cell (by omega) (by omega) s50, k.cell (by omega) (by omega) s51, k.cell (by omega) (by omega) s52, v51.chg k (by omega), v52.chg k (by omega), by rw [hl]; exact k.cell (by omega) (by omega) s8, by rw [hl]; exact ho, hk⟩
end Go.Proofs.Yteegjnobmbcjiaa
end
section
/- Chapter 5, the program: a literal's test, called. -/
namespace Go.Proofs.Yteegjnobmbcjiaa
open Go.RowKit

def RetTst (ar : List Int) (sz : Int) (tb : List (List Int)) (L H lo hi : Nat) (x : Lt) (p7 p4 p8 p3 p5 bk : Nat) (a7 : Option Addr) (c7 : Nat) (v u u1 u2 : Value) (w : World) (b : Bool) (e : Ending) (w' : World) : Prop :=
  e = .returned (.bool b) ∧ ∃ ks, Tst ar sz tb L H lo hi x p7 p4 p8 p3 p5 bk a7 c7 v u u1 u2 ks w' ∧ Chg bk (bk+1) w w'

theorem idx_take {sz : Int} (vs : List Nat) (e : List Int) (q : Nat) (hq : q < vs.length) : noOf sz ((vs.map fun v => e.getD v 0).take (q+1)) = noOf sz ((vs.map fun v => e.getD v 0).take q) * sz + e.getD (vs.getD q 0) 0 := by
  rw [noOf_tk _ _ (by simpa using hq)]
  congr 1
  simp [List.getD, hq]

set_option maxRecDepth 100000 in
set_option maxHeartbeats 2000000 in
theorem litTest1_c {ar : List Int} {sz : Int} {tb : List (List Int)} {L H lo hi : Nat} {x : Lt} {p7 p4 p8 p3 p5 bk : Nat} {a7 : Option Addr} {c7 : Nat} {v u u1 u2 : Value} {ks : List Int} {w : World}
    (t : Tst ar sz tb L H lo hi x p7 p4 p8 p3 p5 bk a7 c7 v u u1 u2 ks w) (hg : goodSign ar = true) (hw : isWorld ar sz tb = true) (o1 : okTerm ar x.2.1 = true) (o2 : okTerm ar x.2.2 = true)
    (l3 h3 : Nat) (ve : Value) (env : List Int) (he : okEnv sz env = true) (hve : SlI l3 h3 w ve env) (hd : h3 ≤ bk ∨ bk + 1 ≤ l3) :
    Calls Try.prog 158 #[ve, .pointer (some ⟨p7, 0, none⟩), .pointer (some ⟨p4, 0, none⟩), .pointer (some ⟨p8, 0, none⟩), .pointer (some ⟨p3, 0, none⟩), .pointer (some ⟨p5, 0, none⟩)] w
      (RetTst ar sz tb L H lo hi x p7 p4 p8 p3 p5 bk a7 c7 v u u1 u2 w (litH ar sz tb env x)) := by
  obtain ⟨z1, z3, _, _⟩ := isWorld_iff.1 hw
  have hel := (okEnv_iff.1 he).1
  have hNB := idx_bd z1 (varsC_lt (c := [x])) he
  have hkl := t.kn.1
  have hvl : (varsC [x]).length ≤ 12 := varsTo_len _ _
  have hP := pw_le12 (Z := sz.toNat) (by omega) hvl
  have HK := Lib.hid (t.kn.2 env he)
  have HPUT : Hid (∀ y : Int, y = (if litH ar sz tb env x then 2 else 1) → Known ar sz tb x (ks.set (idxW sz (varsC [x]) env).toNat y)) := fun y hy => t.kn.put z1 o1 o2 he y hy
  have HT := Lib.hid t
  have HBD : Hid (∀ q, q ≤ (varsC [x]).length → 0 ≤ noOf sz (((varsC [x]).map fun v => env.getD v 0).take q) ∧ noOf sz (((varsC [x]).map fun v => env.getD v 0).take q) ≤ 531440) := fun q hq => by
    have h := noOf_bd z1 (((varsC [x]).map fun v => env.getD v 0).take q) (fun y hy => by
      obtain ⟨j, hj, rfl⟩ := List.mem_map.1 (List.mem_of_mem_take hy)
      exact (okEnv_iff.1 he).2 j (varsC_lt j hj))
    have h2 : longW sz (((varsC [x]).map fun v => env.getD v 0).take q).length ≤ 531441 := by
      unfold longW
      rw [Int.toNat_natCast]
      exact pw_le12 (by omega) (by rw [List.length_take]; omega)
    omega
  have HEV : Hid (∀ q, q < (varsC [x]).length → (varsC [x]).getD q 0 < 12 ∧ 0 ≤ env.getD ((varsC [x]).getD q 0) 0 ∧ env.getD ((varsC [x]).getD q 0) 0 ≤ sz - 1) := fun q hq => by
    have h := varsC_lt (c := [x]) ((varsC [x]).getD q 0) (mem_gd _ 0 q hq)
    exact ⟨h, (okEnv_iff.1 he).2 _ h⟩
  have HTK : Hid (∀ q, q < (varsC [x]).length → noOf sz (((varsC [x]).map fun v => env.getD v 0).take (q+1)) = noOf sz (((varsC [x]).map fun v => env.getD v 0).take q) * sz + env.getD ((varsC [x]).getD q 0) 0) := fun q hq => idx_take _ _ q hq
  have HIX : Hid (noOf sz (((varsC [x]).map fun v => env.getD v 0).take (varsC [x]).length) = idxW sz (varsC [x]) env) := by
    show _ = _
    unfold idxW; rw [List.take_of_length_le (by simp)]
  have HNT : Hid (∀ q, q < (varsC [x]).length → (natsI (varsC [x])).getD q 0 = (((varsC [x]).getD q 0 : Nat) : Int)) := fun q hq => by simp [natsI, List.getD, hq]
  have HLIT := Lib.hid (fun (w' : World) (s3 : SlI L H w' v ar) (s4 : SlS L H w' u tb) (s51 : SlI L H w' u1 x.2.1) (s52 : SlI L H w' u2 x.2.2) (se : SlI l3 h3 w' ve env) => litHolds_c L H L H L H l3 h3 v u u1 u2 ve ar sz tb x.1 x.2.1 x.2.2 env w' hg hw he o1 o2 s3 s4 s51 s52 se)
  have HLE : Hid (litH ar sz tb env (x.1, x.2.1, x.2.2) = litH ar sz tb env x) := rfl
  rw [HLE.out] at HLIT
  obtain ⟨b3, b4, b5, b7, b8, old, cur, s7, v7, s40, s41, v4, s3, v3, s50, s51, s52, v51, v52, s8, v8, -⟩ := t
  have HVE := Lib.hid hve
  obtain ⟨a7v, c7v, e7, -, -, hr7⟩ := v7
  have hnl : (natsI (varsC [x])).length = (varsC [x]).length := by simp [natsI]
  rw [hnl] at e7
  have HNL := Lib.hid hnl
  obtain ⟨ae, ce, rfl, -, -, hre⟩ := hve
  rw [hel] at HLIT HVE ⊢
  simp only [Value.slice.injEq] at e7
  obtain ⟨rfl, -, rfl⟩ := e7
  obtain ⟨N, hN⟩ : ∃ N : Nat, idxW sz (varsC [x]) env = (N : Int) := ⟨(idxW sz (varsC [x]) env).toNat, by omega⟩
  rw [hN, Int.toNat_natCast] at HK HPUT
  rw [hN] at HIX hNB
  have hNl : N < ks.length := by omega
  have hks : ks.length ≤ 531441 := by omega
  clear hN hNB hkl hP he hw hg o1 o2 hnl
  generalize hn : (varsC [x]).length = n at *
  generalize litH ar sz tb env x = B at *
  generalize hvs : varsC [x] = vs at *
  go_enter Try.func158, Try.ntmps158
  go_wp2_with fail
  go_loopw [8, 13] (fun no i wr => ∃ q : Nat, q ≤ n ∧ i = .int .i64 q ∧ no = .int .i64 (noOf sz ((vs.map fun v => env.getD v 0).take q)) ∧ Bel w wr) (fun _ i _ => n - (intOf i).toNat)
  case atStart => exact ⟨0, Nat.zero_le _, rfl, rfl, Bel.rfl' _⟩
  case round =>
    obtain ⟨q, hq, rfl, rfl, hb⟩ := hrel
    have hn0 := HBD.out q hq
    by_cases hqn : q < n
    · obtain ⟨hv12, hx0, hx1⟩ := HEV.out q hqn
      have HS := Lib.hid (HTK.out q hqn)
      obtain ⟨b7', off7, rfl, hbl7, hc7⟩ := rd hr7 hb q (by have := HNL.out; omega)
      rw [HNT.out q hqn] at hc7
      obtain ⟨be, offe, rfl, hble, hce⟩ := rd hre hb (vs.getD q 0) (by omega)
      have r40 := hb.at (by omega) s40
      have hmul : noOf sz ((vs.map fun v => env.getD v 0).take q) * sz ≤ noOf sz ((vs.map fun v => env.getD v 0).take q) * 3 := Int.mul_le_mul_of_nonneg_left z3 hn0.1
      have hmul0 := Int.mul_nonneg hn0.1 (show 0 ≤ sz by omega)
      generalize vs.getD q 0 = m at *
      generalize env.getD m 0 = y at *
      generalize noOf sz ((vs.map fun v => env.getD v 0).take q) = no at *
      have i1 := IntWalk.i64_in (no * sz) (by omega)
      have i2 := IntWalk.i64_in (no * sz + y) (by omega)
      have hm12 : (m : Int) < 12 := by omega
      clear hmul hmul0 HT HPUT HBD HEV HTK HIX HNT HLIT HVE HK
      go_wp2_with fail
      go_region_held3 (fun w' => Bel wr w' ∧ w'.cell? ⟨p4, 0, none⟩ = some (.int .i64 sz) ∧ w'.cell? ⟨be, offe + m, none⟩ = some (.int .i64 y))
        (first | exact ⟨Bel.drew0 _, r40, hce⟩ | fail)
        (first | fail)
      go_wp2_with fail
      go_roundw
      case rel => exact ⟨q+1, by omega, by go_num, by rw [HS.out], hb.step (Bel.drew0 _)⟩
      case measure => simp [intOf]; omega
    · obtain rfl : q = n := by omega
      rw [HIX.out] at hn0 ⊢
      have hT := Lib.hid (HT.out.chg (Chg.of_bel (lo := 0) (hi := 0) hb) (.inl (Nat.zero_le _)) (.inl (Nat.zero_le _)))
      have HP2 : Hid (∀ (w' : World) (y : Int), Chg bk (bk+1) wr w' → (y = if B then 2 else 1) → OwnI bk (bk + 1) w' (.slice (some ⟨bk, 0, none⟩) ks.length ks.length) (ks.set N y) → Tst ar sz tb L H lo hi x p7 p4 p8 p3 p5 bk a7 c7 v u u1 u2 (ks.set N y) w') := fun w' y k hy ho =>
        hT.out.put k (by simp) ho (HPUT.out y hy)
      obtain ⟨bb, oo, hbb, -, -, hcN, hfN, hst⟩ := (v8.below hb).at N hNl
      simp only [Option.some.injEq, Addr.mk.injEq, and_true] at hbb
      obtain ⟨rfl, rfl⟩ := hbb
      rw [Nat.zero_add] at hcN hfN hst
      have hNk : (N : Int) < ks.length := by omega
      have r8 := hb.at (by omega) s8
      have hSE := Lib.hid (HVE.out.below hb)
      have hLIT := Lib.hid (fun (w' : World) (k : Chg bk (bk+1) wr w') => HLIT.out w' ((v3.below hb).chg k (by omega)) ((v4.below hb).chg k (by omega)) ((v51.below hb).chg k (by omega)) ((v52.below hb).chg k (by omega)) (hSE.out.chg k hd))
      have r3 := hb.at (by omega) s3
      have r40 := hb.at (by omega) s40
      have r41 := hb.at (by omega) s41
      have r50 := hb.at (by omega) s50
      have r51 := hb.at (by omega) s51
      have r52 := hb.at (by omega) s52
      have hz := hb.size
      have hCH := Lib.hid (Chg.of_bel (lo := bk) (hi := bk+1) hb)
      clear HT HPUT HBD HEV HTK HIX HNT HLIT HVE hr7 hre s7 s40 s41 v4 s3 v3 s50 s51 s52 v51 v52 s8 v8 HNL
      generalize ks.getD N 0 = k0 at *
      rcases HK.out with rfl | hk0
      · have k3 := Chg.set (lo := bk) (hi := bk+1) wr (p := ⟨bk, N, none⟩) (Nat.le_refl _) (Nat.lt_succ_self _) (.int .i64 1)
        have g3 := k3.cell (by omega) (by omega) r3
        have g40 := k3.cell (by omega) (by omega) r40
        have g41 := k3.cell (by omega) (by omega) r41
        have g50 := k3.cell (by omega) (by omega) r50
        have g51 := k3.cell (by omega) (by omega) r51
        have g52 := k3.cell (by omega) (by omega) r52
        have g8 := k3.cell (by omega) (by omega) r8
        have gN := World.cell?_setCell_same wr ⟨bk, N, none⟩ (.int .i64 1) hcN
        have gf : (wr.setCell ⟨bk, N, none⟩ (.int .i64 1)).frozen? ⟨bk, N, none⟩ = false := by rw [World.frozen?_setCell]; exact hfN
        have HL := Lib.hid (hLIT.out _ k3)
        have HO := Lib.hid (hst 1)
        have hz3 := k3.size
        have K3 := Lib.hid k3
        clear hLIT hst k3
        go_wp2_with fail
        refine HL.out.mono ?_; rintro e w4 ⟨rfl, hb4⟩
        have d8 := hb4.at (by omega) g8
        have dN := hb4.at (World.block_lt_of_cell? _ ⟨_, _, none⟩ gN) gN
        have df := (hb4.frozen (p := ⟨bk, N, none⟩) (World.block_lt_of_cell? _ ⟨_, _, none⟩ gN)).trans gf
        have HO4 := HO.out.below hb4
        have K4 := K3.out.trans (Chg.of_bel hb4)
        cases B with
        | false =>
          have hT4 := HP2.out w4 1 K4 rfl HO4
          go_wp2_with fail
          go_ret
          exact ⟨rfl, _, hT4, hCH.out.trans K4⟩
        | true =>
          obtain ⟨b5', o5', e5, -, -, -, -, hst5⟩ := HO4.at N (by simpa using hNl)
          simp only [Option.some.injEq, Addr.mk.injEq, and_true] at e5
          obtain ⟨rfl, rfl⟩ := e5
          rw [Nat.zero_add] at hst5
          have HO5 := hst5 2
          rw [List.set_set] at HO5
          have k5 := Chg.set (lo := bk) (hi := bk+1) w4 (p := ⟨bk, N, none⟩) (Nat.le_refl _) (Nat.lt_succ_self _) (.int .i64 2)
          have hz4 := hb4.size
          have f8 := k5.cell (by omega) (by omega) d8
          have fN := World.cell?_setCell_same w4 ⟨bk, N, none⟩ (.int .i64 2) dN
          have hT5 := HP2.out _ 2 (K4.trans k5) rfl HO5
          have K5 := hCH.out.trans (K4.trans k5)
          go_wp2_with fail
          go_ret
          exact ⟨rfl, _, hT5, K5⟩
      · cases B with
        | false =>
          obtain rfl : k0 = 1 := hk0
          go_wp2_with fail
          go_ret
          exact ⟨rfl, _, hT.out, hCH.out⟩
        | true =>
          obtain rfl : k0 = 2 := hk0
          go_wp2_with fail
          go_ret
          exact ⟨rfl, _, hT.out, hCH.out⟩
end Go.Proofs.Yteegjnobmbcjiaa
end
section
/- Chapter 4, the program: VarsIn. -/
namespace Go.Proofs.Yteegjnobmbcjiaa
open Go.RowKit

set_option maxRecDepth 100000 in
set_option maxHeartbeats 400000 in
theorem concat_nil (w : World) : Calls Try.prog 130 #[.slice none 0 0] w (RetI w []) := by
  go_enter Try.func130, Try.ntmps130
  go_wp2_with fail
  go_loop [3, 11] (fun n i => n = .int .i64 0 ∧ i = .int .i64 0) (fun _ _ => 0)
  case atStart => exact ⟨rfl, rfl⟩
  case round =>
    obtain ⟨rfl, rfl⟩ := hrel
    go_wp2_with fail
    refine (grow_c 0 _ (by omega)).mono ?_; rintro e w1 ⟨ad, m, c1, rfl, hown, hb⟩
    go_wp2_with fail
    go_loopw [6, 27] (fun v i wr => i = .int .i64 0 ∧ v = .slice ad m c1 ∧ wr = w1) (fun _ _ _ => 0)
    case atStart => exact ⟨rfl, rfl, rfl⟩
    case round =>
      obtain ⟨rfl, rfl, rfl⟩ := hrel
      go_wp2_with fail
      go_ret
      exact ⟨_, _, _, rfl, OwnI.of_row hown, hb⟩
theorem concatV_c (W : World) (v : Value) (L : List (List Int)) (w : World) (hb : Bel W w) (hL : L.length ≤ 1048576) (hs : sumLen L ≤ 1099511627776) (hv : RowV W w v L) :
    Calls Try.prog 130 #[v] w (RetI w L.flatten) := by
  have hsl := hv.sls hb
  obtain ⟨zs, h1, h2⟩ := hv
  rcases h1.2 with ⟨rfl, hn⟩ | ⟨g, cap, cur, rfl, _⟩
  · have : L = [] := List.length_eq_zero_iff.1 (by rw [← h2.1]; exact hn)
    subst this
    exact concat_nil w
  · obtain ⟨ad, cap', e, hc, hm, hr⟩ := hsl
    simp only [Value.slice.injEq] at e
    obtain ⟨rfl, e2, rfl⟩ := e
    rw [e2]
    refine concat_c 0 w.heap.size g 0 cap L w hL hs (fun j hj => ?_)
    obtain ⟨b, off, e3, _, _, hx⟩ := hr (by omega)
    simp only [Option.some.injEq, Addr.mk.injEq, and_true] at e3
    obtain ⟨rfl, rfl⟩ := e3
    obtain ⟨u, h1, h2⟩ := hx j hj
    obtain ⟨y, z, rfl⟩ := h2.form
    exact ⟨y, z, h1, h2⟩

set_option maxRecDepth 100000 in
set_option maxHeartbeats 400000 in
theorem clauseVars_c {l' h' : Nat} {u : Value} {c : List Lt} {w : World} (hsum : sumL (flatC c) ≤ 1048576) (h8 : c.length ≤ 8) (hlow : ∀ k, k < (flatC c).flatten.length → -12 ≤ (flatC c).flatten.getD k 0) (hu : SlC l' h' w u c) :
    Calls Try.prog 84 #[u] w (RetI w (natsI (varsTo (mk (flatC c).flatten) 12))) := by
  have hfl := flatC_len c
  have HC := Lib.hid (termsIn_c l' h' u c w (by omega) hu)
  have hcl : c.length ≤ 1048576 := by omega
  clear hu
  go_enter Try.func84, Try.ntmps84
  go_wp2_with fail
  refine HC.out.mono ?_; rintro e w2 ⟨a2, n2, c2, rfl, hrow, hb2⟩
  have hsl : sumLen (flatC c) = sumL (flatC c) := rfl
  have hfn := flat_len (flatC c)
  generalize flatC c = L at *
  go_wp2_with fail
  refine (concatV_c w _ L w2 hb2 (by omega) (by omega) hrow).mono ?_; rintro e w3 ⟨a3, n3, c3, rfl, ho3, hb3⟩
  go_wp2_with fail
  refine (marksOf_c _ _ _ L.flatten w3 (by omega) hlow ho3.sl).mono ?_; rintro e w4 ⟨rfl, hb4⟩
  go_wp2_with fail
  refine (mvars_c _ w4).mono ?_; rintro e w5 ⟨a5, n5, c5, rfl, ho5, hb5⟩
  have HB4 := (hb2.step hb3).step hb4
  go_wp2_with fail
  go_ret
  exact ⟨_, _, _, rfl, ho5.mono HB4.size (Nat.le_refl _), HB4.step hb5⟩

set_option maxRecDepth 100000 in
set_option maxHeartbeats 400000 in
theorem iVarsIn_t {l h l' h' : Nat} {v u : Value} {ar : List Int} {c : List Lt} {w : World} (ha : ar.length ≤ 1048576) (hv : SlI l h w v ar) (hc : sumC c ≤ 1048576) (hu : SlC l' h' w u c) :
    Calls Try.prog 41 #[.agg #[v], u] w (RetIB w (varsInAns ar c) (goodClause ar c)) := by
  unfold varsInAns
  cases hg : goodClause ar c with
  | false =>
    rw [if_neg (by simp)]
    have HG := Lib.hid hg; clear hg
    go_enter Try.func41, Try.ntmps41
    go_wp2_with fail
    refine (iGoodClause_v HG.out ha (hv.alloc _) hc (hu.alloc _)).mono ?_; rintro e w1 ⟨rfl, hb1⟩
    go_wp2_with fail
    go_ret2
    exact ⟨_, _, _, rfl, OwnI.nil _ _ _, hb1.of_alloc⟩
  | true =>
    rw [if_pos rfl]
    have hsum := (short_flat hc).1
    have hlow := flat_low hg
    have h8 := (goodClause_iff.1 hg).2.1
    have HG := Lib.hid hg; clear hg
    have HC := Lib.hid (fun (w' : World) (hb : Bel w w') => clauseVars_c hsum h8 hlow (hu.below hb))
    go_enter Try.func41, Try.ntmps41
    go_wp2_with fail
    refine (iGoodClause_v HG.out ha (hv.alloc _) hc (hu.alloc _)).mono ?_; rintro e w1 ⟨rfl, hb1⟩
    clear hc hu hv hlow
    go_wp2_with fail
    refine (HC.out _ hb1.of_alloc).mono ?_; rintro e w5 ⟨a5, n5, c5, rfl, ho5, hb5⟩
    go_wp2_with fail
    go_ret2
    exact ⟨_, _, _, rfl, ho5.mono hb1.of_alloc.size (Nat.le_refl _), hb1.of_alloc.step hb5⟩
end Go.Proofs.Yteegjnobmbcjiaa
end
section
/- Chapter 5, the program: a literal's test, made. -/
namespace Go.Proofs.Yteegjnobmbcjiaa
open Go.RowKit

/-- The function that tests. -/
def tstF (p7 p4 p8 p3 p5 : Nat) : Value := .func (.func 158) #[] #[.pointer (some ⟨p7, 0, none⟩), .pointer (some ⟨p4, 0, none⟩), .pointer (some ⟨p8, 0, none⟩), .pointer (some ⟨p3, 0, none⟩), .pointer (some ⟨p5, 0, none⟩)]
def RetT1 (ar : List Int) (sz : Int) (tb : List (List Int)) (L H : Nat) (x : Lt) (v u u1 u2 : Value) (w : World) (e : Ending) (w' : World) : Prop :=
  ∃ (p7 p4 p8 p3 p5 bk : Nat) (a7 : Option Addr) (c7 : Nat) (ks : List Int), e = .returned (tstF p7 p4 p8 p3 p5) ∧ Tst ar sz tb L H w.heap.size w'.heap.size x p7 p4 p8 p3 p5 bk a7 c7 v u u1 u2 ks w' ∧ Bel w w'

/-- One literal in a block of its own. -/
theorem slc_one {w : World} {x : Lt} {u1 u2 : Value} {t : TypeId} (g : Nat) (hg : g = w.heap.size) (h1 : SlI 0 w.heap.size w u1 x.2.1) (h2 : SlI 0 w.heap.size w u2 x.2.2) :
    SlC 0 (w.alloc (.cells #[.bool x.1, u1, u2] t)).heap.size (w.alloc (.cells #[.bool x.1, u1, u2] t)) (.slice (some ⟨g, 0, none⟩) 1 1) [x] := by
  subst hg
  have hb := Bel.alloc0 w (.cells #[.bool x.1, u1, u2] t)
  have hc : ∀ i v, (#[Value.bool x.1, u1, u2])[i]? = some v → (w.alloc (.cells #[.bool x.1, u1, u2] t)).cell? ⟨w.heap.size, i, none⟩ = some v := fun i v h => by rw [World.cell?_alloc_new w]; exact h
  refine ⟨_, 1, rfl, Nat.le_refl _, ⟨by unfold maxLen; omega, fun h => by simp at h⟩, fun _ => ⟨w.heap.size, 0, rfl, Nat.zero_le _, by simp, fun j hj => ?_⟩⟩
  match j, hj with
  | 0, _ => exact ⟨u1, u2, hc 0 _ rfl, hc 1 _ rfl, hc 2 _ rfl, (h1.below hb).mono (Nat.le_refl _) hb.size, (h2.below hb).mono (Nat.le_refl _) hb.size⟩

set_option maxRecDepth 100000 in
set_option maxHeartbeats 2000000 in
theorem litTest_c (ar : List Int) (Z : Nat) (tb : List (List Int)) (L H : Nat) (x : Lt) (v u u1 u2 : Value) (w : World) (z1 : 1 ≤ Z) (z3 : Z ≤ 3) (hH : H ≤ w.heap.size)
    (o1 : okTerm ar x.2.1 = true) (o2 : okTerm ar x.2.2 = true)
    (hv : SlI L H w v ar) (hu : SlS L H w u tb) (s1 : SlI L H w u1 x.2.1) (s2 : SlI L H w u2 x.2.2) :
    Calls Try.prog 155 #[.agg #[v], .agg #[.int .i64 (Z : Int), u], .agg #[.bool x.1, u1, u2]] w (RetT1 ar Z tb L H x v u u1 u2 w) := by
  obtain ⟨i0, hi0, hz0, hz1, hz2⟩ := info_parts Try.info3
  have hx1 := ((okTerm_iff ar x.2.1).1 o1).2.1
  have hx2 := ((okTerm_iff ar x.2.2).1 o2).2.1
  have HB : Bel w ((((w.alloc (.cells #[v] 30)).alloc (.cells #[.int .i64 (Z : Int), u] 58)).alloc (.cells #[.bool x.1, u1, u2] 91)).alloc (.cells #[.bool x.1, u1, u2] 91)) := (Bel.alloc3 _ _ _ _).alloc _
  have hsl := slc_one (w := ((w.alloc (.cells #[v] 30)).alloc (.cells #[.int .i64 (Z : Int), u] 58)).alloc (.cells #[.bool x.1, u1, u2] 91)) (t := 91) (w.heap.size + 1 + 1 + 1) (by simp) (s1.below (Bel.alloc3 _ _ _ _)).in' (s2.below (Bel.alloc3 _ _ _ _)).in'
  have hfc : flatC [x] = [x.2.1, x.2.2] := rfl
  have HV := Lib.hid (clauseVars_c (by rw [hfc]; simp [sumL]; omega) (by simp) (fun k hk => by
    have hm := mem_gd _ 0 k hk
    rw [hfc] at hm ⊢
    simp only [List.flatten_cons, List.flatten_nil, List.append_nil, List.mem_append] at hm ⊢
    rcases hm with h | h
    · exact ok_low o1 h
    · exact ok_low o2 h) hsl)
  have KX : Hid (∀ w', Bel ((((w.alloc (.cells #[v] 30)).alloc (.cells #[.int .i64 (Z : Int), u] 58)).alloc (.cells #[.bool x.1, u1, u2] 91)).alloc (.cells #[.bool x.1, u1, u2] 91)) w' → (w'.cell? ⟨w.heap.size, 0, none⟩ = some v ∧ w'.cell? ⟨w.heap.size + 1, 0, none⟩ = some (.int .i64 (Z : Int)) ∧ w'.cell? ⟨w.heap.size + 1, 1, none⟩ = some u) ∧ w'.cell? ⟨w.heap.size + 1 + 1, 0, none⟩ = some (.bool x.1) ∧ w'.cell? ⟨w.heap.size + 1 + 1, 1, none⟩ = some u1 ∧ w'.cell? ⟨w.heap.size + 1 + 1, 2, none⟩ = some u2) := fun w' hq =>
    ⟨⟨hq.at (by simp; omega) (by simp [go_sem]), hq.at (by simp) (by simp [go_sem]), hq.at (by simp) (by simp [go_sem])⟩, hq.at (by simp) (by simp [go_sem]), hq.at (by simp) (by simp [go_sem]), hq.at (by simp) (by simp [go_sem])⟩
  have HL := Lib.hid (fun (w' : World) => tableLength_g Z (varsC [x]).length w' z3 (varsTo_len _ _))
  have hpw := pw_le12 z3 (varsTo_len (mk (flatC [x]).flatten) 12)
  have hpos : 0 < Z ^ (varsC [x]).length := Nat.pow_pos (by omega)
  have hvl : (varsC [x]).length ≤ 12 := varsTo_len _ _
  have HKN := Lib.hid (Known.new ar Z tb x)
  have HVC : Hid (varsTo (mk (flatC [x]).flatten) 12 = varsC [x]) := rfl
  rw [show varsTo (mk (flatC [x]).flatten) 12 = varsC [x] from rfl] at hpw HV
  go_enter Try.func155, Try.ntmps155
  go_wp2_with fail
  refine HV.out.mono ?_; rintro e w2 ⟨a2, n2, c2, rfl, o2', hb2⟩
  have hn2 : n2 = (varsC [x]).length := by
    obtain ⟨_, _, e, _⟩ := o2'.sl
    simp only [Value.slice.injEq] at e
    rw [e.2.1]; simp [natsI]
  subst hn2
  have k0 := (KX.out _ (hb2.alloc (.cells #[.slice a2 (varsC [x]).length c2] 22))).1.2.1
  generalize hLL : Z ^ (varsC [x]).length = LL at *
  have HVL := Lib.hid hLL
  clear hLL hsl
  go_wp2_with fail
  refine (HL.out _).mono ?_; rintro e w3 ⟨rfl, hb3⟩
  go_wp2_with (at_make; refine wpList_make_full _ rfl _ _ 22 rfl w3.heap.size 3 i0 (.int .i64 0) 1 Try.underlying22 hi0 hz0 hz1 _ _ _ _ LL rfl rfl rfl rfl (by rw [hz2]; omega) (by unfold maxLen; omega) (Nat.le_refl _) ?_; intro w4 hown hg4)
  go_ret
  have hbf : Bel w3 (w4.alloc (.cells #[.slice (some ⟨w3.heap.size, 0, none⟩) LL LL] 22)) := ((Bel.rfl' w3).grown hg4 (by simp)).alloc _
  have hb2f : Bel w2 (w4.alloc (.cells #[.slice (some ⟨w3.heap.size, 0, none⟩) LL LL] 22)) := ((Bel.alloc0 w2 (.cells #[.slice a2 (varsC [x]).length c2] 22)).step hb3).step hbf
  have hwf := HB.step (hb2.step hb2f)
  have hk := KX.out _ (hb2.step hb2f)
  have z2 := hb2.size
  have z3' := hb3.size
  have z4 := ((Bel.rfl' w3).grown hg4 (by simp)).size
  simp only [World.size_alloc] at z2 z3'
  have hown' : w4.ownsRow w3.heap.size 3 1 (.slice (some ⟨w3.heap.size, 0, none⟩) LL LL) (List.replicate LL (0 : Int)).length ((List.replicate LL (0 : Int)).map (Value.int .i64)) := by
    have h := madeI_0 (List.replicate LL (0 : Int))
    rw [List.length_replicate] at h ⊢
    have h2 : madeI (List.replicate LL (0 : Int)) 0 = List.replicate LL 0 := by simp [madeI]
    rw [h2] at h
    rw [← h]; exact hown
  have ho8 := row_oneCell hown' rfl (by rw [List.length_replicate]; exact hpos)
  have hk4 : w3.heap.size < w4.heap.size := by
    obtain ⟨b, off, e, -, -, hc, -, -⟩ := ho8.at 0 (by rw [List.length_replicate]; exact hpos)
    simp only [Option.some.injEq, Addr.mk.injEq, and_true] at e
    obtain ⟨rfl, rfl⟩ := e
    exact World.block_lt_of_cell? _ ⟨_, _, none⟩ hc
  refine ⟨w2.heap.size, w.heap.size + 1, w4.heap.size, w.heap.size, w.heap.size + 1 + 1, w3.heap.size, a2, c2, List.replicate LL 0, rfl, ?_, hwf⟩
  refine ⟨by omega, by omega, by omega, by omega, by simp; omega, hH, Nat.le_refl _, ?_, ?_, hk.1.2.1, hk.1.2.2, hu.below hwf, hk.1.1, hv.below hwf, hk.2.1, hk.2.2.1, hk.2.2.2, s1.below hwf, s2.below hwf, ?_, ?_, ?_⟩
  · exact (hb3.step hbf).at (by simp) (by simp [go_sem])
  · exact (o2'.sl.mono (by simp; omega) (Nat.le_refl _)).below hb2f
  · rw [List.length_replicate]; simp [go_sem]
  · rw [List.length_replicate]; exact ho8.alloc _
  · rw [← HVL.out] ; have h := HKN.out; rwa [Int.toNat_natCast] at h
end Go.Proofs.Yteegjnobmbcjiaa
end
section
/- Chapter 5, the program: the tests of a clause's literals. -/
namespace Go.Proofs.Yteegjnobmbcjiaa
open Go.RowKit

/-- Where a test lies. -/
structure TR where
  (lo hi p7 p4 p8 p3 p5 bk c7 : Nat)
  (a7 : Option Addr)
  (u1 u2 : Value)
def TR.f (r : TR) : Value := tstF r.p7 r.p4 r.p8 r.p3 r.p5
def TR.ok (ar : List Int) (sz : Int) (tb : List (List Int)) (L H : Nat) (v u : Value) (x : Lt) (r : TR) (w : World) : Prop :=
  ∃ ks, Tst ar sz tb L H r.lo r.hi x r.p7 r.p4 r.p8 r.p3 r.p5 r.bk r.a7 r.c7 v u r.u1 r.u2 ks w
theorem TR.ok.chg {ar : List Int} {sz : Int} {tb : List (List Int)} {L H : Nat} {v u : Value} {x : Lt} {r : TR} {w w' : World} {l' h' : Nat} (t : TR.ok ar sz tb L H v u x r w) (k : Chg l' h' w w') (d1 : h' ≤ r.lo ∨ r.hi ≤ l') (d2 : h' ≤ L ∨ H ≤ l') : TR.ok ar sz tb L H v u x r w' := by
  obtain ⟨ks, h⟩ := t
  exact ⟨ks, h.chg k d1 d2⟩
def Tests (ar : List Int) (sz : Int) (tb : List (List Int)) (L H : Nat) (v u : Value) (base : Nat) (c : List Lt) (rs : List TR) (w : World) : Prop :=
  rs.length = c.length ∧ ∀ (j : Nat) (x : Lt) (r : TR), c[j]? = some x → rs[j]? = some r → base ≤ r.lo ∧ TR.ok ar sz tb L H v u x r w ∧ ∀ (i : Nat) (r' : TR), i < j → rs[i]? = some r' → r'.hi ≤ r.lo
section
variable {ar : List Int} {sz : Int} {tb : List (List Int)} {L H : Nat} {v u : Value} {base : Nat} {c : List Lt} {rs : List TR} {w w' : World}
theorem Tests.nil : Tests ar sz tb L H v u base [] [] w := ⟨rfl, fun j x r h => by simp at h⟩
theorem Tests.get (t : Tests ar sz tb L H v u base c rs w) {r : TR} (hr : r ∈ rs) : ∃ (j : Nat) (x : Lt), c[j]? = some x ∧ rs[j]? = some r := by
  obtain ⟨j, hj, e⟩ := List.mem_iff_getElem.1 hr
  exact ⟨j, c[j]'(by have := t.1; omega), by rw [List.getElem?_eq_getElem (by have := t.1; omega)], by rw [List.getElem?_eq_getElem hj, e]⟩
theorem Tests.cur (t : Tests ar sz tb L H v u base c rs w) {r : TR} (hr : r ∈ rs) : base ≤ r.lo ∧ r.lo ≤ r.p7 ∧ r.p7 < r.bk ∧ r.bk < r.hi ∧ r.hi ≤ w.heap.size ∧ H ≤ r.lo := by
  obtain ⟨j, x, h1, h2⟩ := t.get hr
  obtain ⟨a, ⟨ks, k⟩, _⟩ := t.2 j x r h1 h2
  have := k.b7; have := k.b8; have := k.cur; have := k.old
  omega
theorem Tests.chg (t : Tests ar sz tb L H v u base c rs w) {l' h' : Nat} (k : Chg l' h' w w') (d1 : ∀ r ∈ rs, h' ≤ r.lo ∨ r.hi ≤ l') (d2 : h' ≤ L ∨ H ≤ l') : Tests ar sz tb L H v u base c rs w' :=
  ⟨t.1, fun j x r h1 h2 => by
    obtain ⟨a, b, d⟩ := t.2 j x r h1 h2
    exact ⟨a, b.chg k (d1 r (List.mem_of_getElem? h2)) d2, d⟩⟩
theorem Tests.bel (t : Tests ar sz tb L H v u base c rs w) (k : Bel w w') : Tests ar sz tb L H v u base c rs w' :=
  t.chg (Chg.of_bel (lo := 0) (hi := 0) k) (fun _ _ => .inl (Nat.zero_le _)) (.inl (Nat.zero_le _))
/-- One test remembers. -/
theorem Tests.put (t : Tests ar sz tb L H v u base c rs w) {j : Nat} {x : Lt} {r : TR} (h1 : c[j]? = some x) (h2 : rs[j]? = some r) (k : Chg r.bk (r.bk+1) w w') (ho : TR.ok ar sz tb L H v u x r w') : Tests ar sz tb L H v u base c rs w' :=
  ⟨t.1, fun i y s g1 g2 => by
    obtain ⟨a, b, d⟩ := t.2 i y s g1 g2
    refine ⟨a, ?_, d⟩
    have hc := t.cur (List.mem_of_getElem? h2)
    by_cases e : i = j
    · subst e
      rw [h1] at g1; rw [h2] at g2
      simp only [Option.some.injEq] at g1 g2
      subst g1; subst g2
      exact ho
    · refine b.chg k ?_ (.inr (by omega))
      rcases Nat.lt_or_gt_of_ne e with h | h
      · have := (t.2 j x r h1 h2).2.2 i s h g2
        right; omega
      · have := d j r h h2
        left; omega⟩
theorem Tests.snoc (t : Tests ar sz tb L H v u base c rs w) {x : Lt} {r : TR} (hb : base ≤ r.lo) (ho : TR.ok ar sz tb L H v u x r w) (hl : ∀ r' ∈ rs, r'.hi ≤ r.lo) : Tests ar sz tb L H v u base (c ++ [x]) (rs ++ [r]) w := by
  refine ⟨by simp [t.1], fun j y s h1 h2 => ?_⟩
  by_cases hj : j < rs.length
  · have hjc : j < c.length := by have := t.1; omega
    rw [List.getElem?_append_left hjc] at h1
    rw [List.getElem?_append_left hj] at h2
    obtain ⟨a, b, d⟩ := t.2 j y s h1 h2
    exact ⟨a, b, fun i r' hi h3 => d i r' hi (by rwa [List.getElem?_append_left (by omega)] at h3)⟩
  · have hjl : j = rs.length := by
      have := (List.getElem?_eq_some_iff.1 h2).1
      simp at this
      omega
    subst hjl
    rw [List.getElem?_append_right (Nat.le_refl _), Nat.sub_self] at h2
    rw [List.getElem?_append_right (by have := t.1; omega), show rs.length - c.length = 0 by have := t.1; omega] at h1
    simp only [List.getElem?_cons_zero, Option.some.injEq] at h1 h2
    subst h1; subst h2
    exact ⟨hb, ho, fun i r' hi h3 => hl r' (List.mem_of_getElem? (by rwa [List.getElem?_append_left hi] at h3))⟩
end
/-- The tests, the variable that holds them and their array. -/
structure TS (ar : List Int) (sz : Int) (tb : List (List Int)) (L H : Nat) (v u : Value) (base top pT : Nat) (ad : Option Addr) (cap : Nat) (c : List Lt) (rs : List TR) (w : World) : Prop where
  tests : Tests ar sz tb L H v u base c rs w
  pt : pT < base
  tops : ∀ r ∈ rs, r.hi ≤ top
  cur : base ≤ top ∧ top ≤ w.heap.size
  cell : w.cell? ⟨pT, 0, none⟩ = some (.slice ad rs.length cap)
  fn : 0 < rs.length → ∃ bT, ad = some ⟨bT, 0, none⟩ ∧ (∀ r ∈ rs, bT < r.lo ∨ r.hi ≤ bT) ∧ ∀ j r, rs[j]? = some r → w.cell? ⟨bT, j, none⟩ = some r.f
section
variable {ar : List Int} {sz : Int} {tb : List (List Int)} {L H : Nat} {v u : Value} {base top pT : Nat} {ad : Option Addr} {cap : Nat} {c : List Lt} {rs : List TR} {w w' : World}
theorem TS.put (t : TS ar sz tb L H v u base top pT ad cap c rs w) {j : Nat} {x : Lt} {r : TR} (h1 : c[j]? = some x) (h2 : rs[j]? = some r) (k : Chg r.bk (r.bk+1) w w') (ho : TR.ok ar sz tb L H v u x r w') : TS ar sz tb L H v u base top pT ad cap c rs w' := by
  have hm := List.mem_of_getElem? h2
  have hc := t.tests.cur hm
  refine ⟨t.tests.put h1 h2 k ho, t.pt, t.tops, ⟨t.cur.1, Nat.le_trans t.cur.2 k.size⟩, k.cell (World.block_lt_of_cell? _ ⟨_, _, none⟩ t.cell) (.inl (by have := t.pt; omega)) t.cell, fun hp => ?_⟩
  obtain ⟨bT, e, d, f⟩ := t.fn hp
  refine ⟨bT, e, d, fun i s hs => k.cell (World.block_lt_of_cell? _ ⟨_, _, none⟩ (f i s hs)) ?_ (f i s hs)⟩
  have := d r hm
  omega
theorem TS.chg (t : TS ar sz tb L H v u base top pT ad cap c rs w) {l' h' : Nat} (k : Chg l' h' w w') (d1 : top ≤ l') (d2 : H ≤ l') (hT : ∀ bT, ad = some ⟨bT, 0, none⟩ → bT < l' ∨ h' ≤ bT) : TS ar sz tb L H v u base top pT ad cap c rs w' := by
  refine ⟨t.tests.chg k (fun r hr => .inr (by have := t.tops r hr; omega)) (.inr d2), t.pt, t.tops, ⟨t.cur.1, Nat.le_trans t.cur.2 k.size⟩, k.cell (World.block_lt_of_cell? _ ⟨_, _, none⟩ t.cell) (.inl (by have := t.pt; have := t.cur.1; omega)) t.cell, fun hp => ?_⟩
  obtain ⟨bT, e, d, f⟩ := t.fn hp
  exact ⟨bT, e, d, fun i s hs => k.cell (World.block_lt_of_cell? _ ⟨_, _, none⟩ (f i s hs)) (hT bT e) (f i s hs)⟩
end
end Go.Proofs.Yteegjnobmbcjiaa
end
section
/- Chapter 5, the program: what makes all literals false. -/
namespace Go.Proofs.Yteegjnobmbcjiaa
open Go.RowKit

def RetTS (ar : List Int) (sz : Int) (tb : List (List Int)) (L H : Nat) (v u : Value) (base top pT : Nat) (ad : Option Addr) (cap : Nat) (c : List Lt) (rs : List TR) (w : World) (b : Bool) (e : Ending) (w' : World) : Prop :=
  e = .returned (.bool b) ∧ TS ar sz tb L H v u base top pT ad cap c rs w' ∧ Chg base top w w'

set_option maxRecDepth 100000 in
set_option maxHeartbeats 2000000 in
theorem falseAt1_c {ar : List Int} {sz : Int} {tb : List (List Int)} {L H : Nat} {v u : Value} {base top pT : Nat} {ad : Option Addr} {cap : Nat} {c : List Lt} {rs : List TR} {w : World}
    (t : TS ar sz tb L H v u base top pT ad cap c rs w) (hg : goodSign ar = true) (hw : isWorld ar sz tb = true) (hok : okLits ar c = true)
    (l3 h3 : Nat) (ve : Value) (env : List Int) (he : okEnv sz env = true) (hve : SlI l3 h3 w ve env) (hd : top ≤ l3 ∨ h3 ≤ base) :
    Calls Try.prog 156 #[ve, .pointer (some ⟨pT, 0, none⟩)] w (RetTS ar sz tb L H v u base top pT ad cap c rs w (!clH ar sz tb env c)) := by
  have hcl : rs.length = c.length := t.tests.1
  have h8 := (okLits_iff.1 hok).1
  have HOK := Lib.hid (fun k hk => okLits_get (okLits_iff.1 hok).2 k hk)
  have HT := Lib.hid t
  have hcell := t.cell
  have HS1 := Lib.hid (fun k hk h => any_split c (litH ar sz tb env) k hk h)
  have HS2 := Lib.hid (fun k hk h => any_true c (litH ar sz tb env) k hk h)
  have HCL := Lib.hid hcl
  rw [hcl] at hcell
  clear t hok hcl
  go_enter Try.func156, Try.ntmps156
  go_wp2_with fail
  go_loopw [8] (fun i wr => ∃ k : Nat, k ≤ c.length ∧ i = .int .i64 k ∧ (c.take k).any (litH ar sz tb env) = false ∧ TS ar sz tb L H v u base top pT ad cap c rs wr ∧ Chg base top w wr) (fun i _ => c.length - (intOf i).toNat)
  case atStart => exact ⟨0, Nat.zero_le _, rfl, rfl, HT.out, Chg.refl _ _ _⟩
  case round =>
    obtain ⟨k, hk, rfl, hf, ht, hc⟩ := hrel
    by_cases hlt : k < c.length
    · obtain ⟨bT, rfl, hbT, hfn⟩ := ht.fn (by have := HCL.out; omega)
      obtain ⟨r, hr⟩ : ∃ r, rs[k]? = some r := ⟨_, List.getElem?_eq_getElem (by have := HCL.out; omega)⟩
      have hx : c[k]? = some (c.getD k lt0) := by simp [List.getD, hlt]
      have hfk := hfn k r hr
      obtain ⟨hb0, ⟨ks, htst⟩, -⟩ := ht.tests.2 k _ r hx hr
      have hcu := ht.tests.cur (List.mem_of_getElem? hr)
      have htop := ht.tops r (List.mem_of_getElem? hr)
      have hox := HOK.out k hlt
      have HL := Lib.hid (litTest1_c htst hg hw hox.1 hox.2 l3 h3 ve env he (hve.chg hc (by omega)) (by omega))
      have hw0 : wr.cell? ⟨pT, 0, none⟩ = some (.slice (some ⟨bT, 0, none⟩) c.length cap) := by have := ht.cell; rwa [HCL.out] at this
      unfold TR.f tstF at hfk
      have HTS := Lib.hid (HS1.out k hlt hf)
      have HTR := Lib.hid (HS2.out k hlt)
      generalize litH ar sz tb env (c.getD k lt0) = B at *
      have HPUT : Hid (∀ w', TR.ok ar sz tb L H v u (c.getD k lt0) r w' → Chg r.bk (r.bk+1) wr w' → TS ar sz tb L H v u base top pT (some ⟨bT, 0, none⟩) cap c rs w' ∧ Chg base top w w') := fun w' o q => ⟨ht.put hx hr q o, hc.trans (q.mono (by omega) (by omega))⟩
      clear hfn hr hx hbT ht htst hcu htop hox hc hcell HT HOK HS1 HS2
      cases B with
      | false =>
        go_wp2_with fail
        refine HL.out.mono ?_; rintro e w4 ⟨rfl, ks', T, q⟩
        obtain ⟨P1, P2⟩ := HPUT.out w4 ⟨ks', T⟩ q
        go_wp2_with fail
        go_roundw
        case rel => exact ⟨k+1, by omega, by go_num, HTS.out, P1, P2⟩
        case measure => simp [intOf]; omega
      | true =>
        have hcf : clH ar sz tb env c = true := HTR.out rfl
        rw [hcf]
        go_wp2_with fail
        refine HL.out.mono ?_; rintro e w4 ⟨rfl, ks', T, q⟩
        obtain ⟨P1, P2⟩ := HPUT.out w4 ⟨ks', T⟩ q
        go_wp2_with fail
        go_ret
        exact ⟨rfl, P1, P2⟩
    · obtain rfl : k = c.length := by omega
      rw [List.take_length] at hf
      have hcf : clH ar sz tb env c = false := hf
      go_wp2_with fail
      go_ret
      exact ⟨by rw [hcf]; rfl, ht, hc⟩
end Go.Proofs.Yteegjnobmbcjiaa
end
section
/- Chapter 5, the reference: the least assignment. -/
namespace Go.Proofs.Yteegjnobmbcjiaa
open Go.RowKit

def RetFal (eb eh : Nat) (ve : Value) (vs : List Nat) (e : List Int) (sz : Int) (w : World) (R : Option (List Int)) (x : Ending) (w' : World) : Prop :=
  match R with
  | some r => ∃ ad n k, x = .returned (.tuple #[.slice ad n k, .bool true]) ∧ OwnI w.heap.size w'.heap.size w' (.slice ad n k) r ∧ Chg eb eh w w'
  | none => ∃ ad n k, x = .returned (.tuple #[.slice ad n k, .bool false]) ∧ Chg eb eh w w' ∧ ∃ e2, OwnI eb eh w' ve e2 ∧ Off vs e e2 ∧ okEnv sz e2 = true
/-- The rest of a slice behind its first. -/
theorem SlI.rest {lo hi : Nat} {w : World} {b off n c : Nat} {x : Int} {xs : List Int} (h : SlI lo hi w (.slice (some ⟨b, off, none⟩) n c) (x :: xs)) (q : Nat) (hq : xs = [] ∨ q = off + 1) : SlI lo hi w (.slice (some ⟨b, q, none⟩) xs.length (c - 1)) xs := by
  obtain ⟨ad, cap, e, hc, hm, hr⟩ := h
  simp only [Value.slice.injEq] at e
  obtain ⟨rfl, rfl, rfl⟩ := e
  simp only [List.length_cons] at hc hr
  refine ⟨some ⟨b, q, none⟩, c - 1, rfl, by omega, ⟨by omega, fun h => by simp at h⟩, fun hp => ?_⟩
  obtain ⟨b', off', e', a1, a2, a3⟩ := hr (by omega)
  simp only [Option.some.injEq, Addr.mk.injEq, and_true] at e'
  obtain ⟨rfl, rfl⟩ := e'
  rcases hq with rfl | rfl
  · simp at hp
  · refine ⟨b, off + 1, rfl, a1, a2, fun j hj => ?_⟩
    have := a3 (j + 1) (by omega)
    rw [show off + 1 + j = off + (j + 1) by omega]
    exact this

end Go.Proofs.Yteegjnobmbcjiaa
end
section
/- Chapter 5, the program: the least assignment. -/
namespace Go.Proofs.Yteegjnobmbcjiaa
open Go.RowKit

/-- The function that asks for all literals. -/
def allF (pT : Nat) : Value := .func (.func 156) #[] #[.pointer (some ⟨pT, 0, none⟩)]
def RetLW (ar : List Int) (Z : Nat) (tb : List (List Int)) (L H : Nat) (v u : Value) (base top pT : Nat) (ad : Option Addr) (cap : Nat) (c : List Lt) (rs : List TR) (eb : Nat) (ve : Value) (vs : List Nat) (e : List Int) (w : World) (R : Option (List Int)) (x : Ending) (w' : World) : Prop :=
  x = .returned (.bool R.isSome) ∧ TS ar Z tb L H v u base top pT ad cap c rs w' ∧ Chg base (eb+1) w w' ∧ ∃ e2, OwnI eb (eb+1) w' ve e2 ∧ Off vs e e2 ∧ okEnv Z e2 = true ∧ ∀ r, R = some r → e2 = r

set_option maxRecDepth 100000 in
set_option maxHeartbeats 4000000 in
theorem leastWhere_c {ar : List Int} {Z : Nat} {tb : List (List Int)} {L H : Nat} {v u : Value} {base top pT : Nat} {ad : Option Addr} {cap : Nat} {c : List Lt} {rs : List TR}
    (hg : goodSign ar = true) (hw : isWorld ar Z tb = true) (hok : okLits ar c = true) (eb : Nat) (htop : top ≤ eb) (hH : H ≤ eb) (hT : ∀ bT, ad = some ⟨bT, 0, none⟩ → bT < eb) :
    ∀ (vars : List Nat) (e : List Int) (w : World) (vv ve : Value) (a b : Nat), (∀ x ∈ vars, x < 12) → vars.length ≤ 12 → okEnv Z e = true → TS ar Z tb L H v u base top pT ad cap c rs w → SlI a b w vv (natsI vars) → OwnI eb (eb+1) w ve e → (b ≤ base ∨ eb + 1 ≤ a) →
      Calls Try.prog 157 #[allF pT, ve, vv, .int .i64 (Z : Int)] w (RetLW ar Z tb L H v u base top pT ad cap c rs eb ve vars e w (lw Z (fun e => clH ar Z tb e c) vars e)) := by
  obtain ⟨z1, z3, _⟩ := isWorld_iff.1 hw
  intro vars
  induction vars with
  | nil =>
    intro e w vv ve a b hvr hvl he ht hvv hve hdv
    obtain ⟨av, cv, rfl⟩ := hvv.form
    have HA := Lib.hid (falseAt1_c ht hg hw hok eb (eb+1) ve e he hve.sl (.inl htop))
    have hnil : natsI [] = [] := rfl
    have hbt : base ≤ eb := by have := ht.cur; omega
    have HP : Hid ((lw Z (fun e => clH ar Z tb e c) [] e) = if clH ar Z tb e c then none else some e) := rfl
    rw [HP.out]
    generalize clH ar Z tb e c = P at *
    have HR1 : Hid ((if P = true then none else some e : Option (List Int)).isSome = !P) := by show _ = _; cases P <;> rfl
    have HR2 : Hid (∀ r, (if P = true then none else some e : Option (List Int)) = some r → e = r) := fun r h => by cases P <;> simp at h; exact h
    clear HP
    generalize (if P = true then none else some e : Option (List Int)) = R at *
    unfold allF
    rw [hnil, List.length_nil]
    clear ht hvv hnil
    go_enter Try.func157, Try.ntmps157
    go_wp2_with fail
    refine HA.out.mono ?_; rintro x w2 ⟨rfl, T2, k2⟩
    go_wp2_with fail
    go_ret
    refine ⟨?_, T2, k2.mono (Nat.le_refl _) (by omega), e, hve.chg k2 (by omega), Off.refl _ _, he, ?_⟩
    · rw [HR1.out]; rfl
    · exact HR2.out
  | cons x r ih =>
    intro e w vv ve a b hvr hvl he ht hvv hve hdv
    have hx12 := hvr x (by simp)
    have hel := (okEnv_iff.1 he).1
    have hbt : base ≤ eb := by have := ht.cur; omega
    have hnc : natsI (x :: r) = (x : Int) :: natsI r := rfl
    rw [hnc] at hvv
    obtain ⟨avv, cvv, rfl⟩ := hvv.form
    have hvv0 := hvv
    obtain ⟨adv, capv, ev, hcapv, hmaxv, hrv⟩ := hvv
    simp only [Value.slice.injEq] at ev
    obtain ⟨rfl, -, rfl⟩ := ev
    obtain ⟨bv, offv, rfl, hav, hbv, hcv⟩ := hrv (by simp)
    have hcv0 := hcv 0 (by simp)
    simp only [List.getD_cons_zero, Nat.add_zero] at hcv0
    simp only [List.length_cons] at hcapv hvv0 ⊢
    obtain ⟨m, hm⟩ : ∃ m, (natsI r).length = m := ⟨_, rfl⟩
    rw [hm] at hcapv hvv0
    simp only [hm]
    have HM := Lib.hid hm
    clear hm
    obtain ⟨ae, ce, rfl⟩ : ∃ ae ce, ve = .slice ae e.length ce := hve.1.form
    obtain ⟨be, offe, hae, hbe1, hbe2⟩ : ∃ b off, ae = some ⟨b, off, none⟩ ∧ eb ≤ b ∧ b < eb + 1 := by
      obtain ⟨ad', cap', e', -, -, hr'⟩ := hve.1
      simp only [Value.slice.injEq] at e'
      obtain ⟨rfl, -, -⟩ := e'
      obtain ⟨b', o', h1, h2, h3, _⟩ := hr' (by omega)
      exact ⟨b', o', h1, h2, h3⟩
    subst hae
    obtain rfl : be = eb := by omega
    obtain ⟨R, hR⟩ : ∃ R, R = lw Z (fun e => clH ar Z tb e c) (x :: r) e := ⟨_, rfl⟩
    have hR0 : R = tryW (fun (n : Nat) => lw Z (fun e => clH ar Z tb e c) r (e.set x (n : Int))) 0 Z := hR
    rw [← hR]
    clear hR
    have IH := Lib.hid ih
    clear ih hnc hcv hrv
    have HL12 := Lib.hid hel
    generalize hEL : e.length = EL at *
    clear hel
    obtain ⟨G, hG⟩ : ∃ G : Nat → Option (List Int), G = fun (n : Nat) => lw Z (fun e => clH ar Z tb e c) r (e.set x ((n : Nat) : Int)) := ⟨_, rfl⟩
    have HGG : Hid (∀ (k : Nat) (e2 : List Int), Off (x :: r) e e2 → lw Z (fun e => clH ar Z tb e c) r (e2.set x (k : Int)) = G k) := fun k e2 ho => by rw [hG]; exact lw_off Z _ r _ _ (ho.set _)
    rw [← hG] at hR0
    have HR0 := Lib.hid hR0.symm
    clear hG hR0
    have hxi : (x : Int) < EL := by have := HL12.out; omega
    have zbv : bv < w.heap.size := World.block_lt_of_cell? w ⟨bv, offv, none⟩ hcv0
    have hne : (((m : Int) + 1) == 0) = false := beq_eq_false_iff_ne.2 (by omega)
    have htm1 : ((m + 1 : Nat) : Int) = (m : Int) + 1 := by omega
    have HT := Lib.hid ht
    have hALL : allF pT = .func (.func 156) #[] #[.pointer (some ⟨pT, 0, none⟩)] := rfl
    rw [hALL]
    clear ht
    go_enter Try.func157, Try.ntmps157
    go_wp2_with fail
    go_loopw [17] (fun i wr => ∃ (k : Nat) (ek : List Int), k ≤ Z ∧ i = .int .i64 k ∧ tryW G k (Z - k) = R ∧ OwnI be (be+1) wr (.slice (some ⟨be, offe, none⟩) EL ce) ek ∧ Off (x :: r) e ek ∧ okEnv Z ek = true ∧ Chg base (be+1) w wr ∧ TS ar Z tb L H v u base top pT ad cap c rs wr) (fun i _ => Z - (intOf i).toNat)
    case atStart => exact ⟨0, e, Nat.zero_le _, rfl, HR0.out, hve, Off.refl _ _, he, Chg.refl _ _ _, HT.out⟩
    case round =>
      obtain ⟨k, ek, hk, rfl, hR, ho, hoff, hoke, hch, hts⟩ := hrel
      have qv := hch.cell zbv (by omega) hcv0
      have hekl : ek.length = EL := hoff.1.trans hEL
      by_cases hlt : k < Z
      · obtain ⟨b1, o1, e1, -, -, hcy, hfy, hst⟩ := ho.at x (by omega)
        simp only [Option.some.injEq, Addr.mk.injEq, and_true] at e1
        obtain ⟨rfl, rfl⟩ := e1
        have hst := hst (k : Int)
        have hCS : Chg base (be+1) w (wr.setCell ⟨be, offe + x, none⟩ (.int .i64 (k : Int))) := hch.trans (Chg.set (p := ⟨be, offe + x, none⟩) _ hbt (Nat.lt_succ_self _) _)
        have hTS : TS ar Z tb L H v u base top pT ad cap c rs (wr.setCell ⟨be, offe + x, none⟩ (.int .i64 (k : Int))) := hts.chg (Chg.set (p := ⟨be, offe + x, none⟩) (lo := be) (hi := be+1) _ (Nat.le_refl _) (Nat.lt_succ_self _) _) htop hH (fun bT h => .inl (hT bT h))
        have hoke2 := okEnv_set hoke x (x := (k : Int)) (by omega) (by omega)
        have hsl : ∀ q : Nat, (natsI r = [] ∨ q = offv + 1) → SlI a b (wr.setCell ⟨be, offe + x, none⟩ (.int .i64 (k : Int))) (.slice (some ⟨bv, q, none⟩) m (cvv - 1)) (natsI r) := fun q hq => by have h9 := (hvv0.chg hCS (by omega)).rest q hq; rw [HM.out] at h9; exact h9
        have HC := Lib.hid (fun q hq => IH.out (ek.set x (k : Int)) _ _ _ a b (fun y hy => hvr y (by simp [hy])) (by simp at hvl; omega) hoke2 hTS (hsl q hq) hst hdv)
        have hge := HGG.out k ek hoff
        rw [hge] at HC
        have hR1 : tryW G k ((Z - k - 1) + 1) = R := by rw [show Z - k - 1 + 1 = Z - k by omega]; exact hR
        have hoff1 := hoff.trans (Off.one x r ek (k : Int))
        have hcap1 : (1 : Int) ≤ cvv := by omega
        have hml : (m : Int) + 1 ≤ cvv := by omega
        have hm1 : (1 : Int) ≤ (m : Int) + 1 := by omega
        have hzk : (k : Int) < (Z : Int) := by omega
        rw [hALL] at HC
        have HKW := Lib.hid hCS
        clear hst hoke2 hsl hge hR hoff hoke ho hCS hch IH HGG HR0 hekl hts hTS HT hve
        cases hGk : G k with
        | some r1 =>
          rw [hGk] at HC
          have hRR := Lib.hid ((tryW_some hGk).symm.trans hR1)
          clear hR1
          by_cases hcap : cvv = 1
          · have hrn : natsI r = [] := List.length_eq_zero_iff.1 (by rw [HM.out]; omega)
            have HC1 := Lib.hid (HC.out offv (.inl hrn))
            obtain rfl : m = 0 := by omega
            subst hcap
            clear HC hrn
            go_wp2_with fail
            refine HC1.out.mono ?_; rintro e' w9 ⟨rfl, t9, c9, e2, o9, f9, k9, r9⟩
            go_wp2_with fail
            go_ret
            rw [← hRR.out]
            exact ⟨rfl, t9, HKW.out.trans c9, e2, o9, hoff1.trans (f9.wider (by simp +contextual)), k9, r9⟩
          · have HC1 := Lib.hid (HC.out (offv + 1) (.inr rfl))
            have hcp : (1 : Int) < cvv := by omega
            clear HC
            go_wp2_with fail
            refine HC1.out.mono ?_; rintro e' w9 ⟨rfl, t9, c9, e2, o9, f9, k9, r9⟩
            go_wp2_with fail
            go_ret
            rw [← hRR.out]
            exact ⟨rfl, t9, HKW.out.trans c9, e2, o9, hoff1.trans (f9.wider (by simp +contextual)), k9, r9⟩
        | none =>
          rw [hGk] at HC
          have hRR := Lib.hid ((tryW_none hGk).symm.trans hR1)
          clear hR1
          by_cases hcap : cvv = 1
          · have hrn : natsI r = [] := List.length_eq_zero_iff.1 (by rw [HM.out]; omega)
            have HC1 := Lib.hid (HC.out offv (.inl hrn))
            obtain rfl : m = 0 := by omega
            subst hcap
            clear HC hrn
            go_wp2_with fail
            refine HC1.out.mono ?_; rintro e' w9 ⟨rfl, t9, c9, e2, o9, f9, k9, r9⟩
            go_wp2_with fail
            refine ⟨?_, ?measure⟩
            iterate 90 (try apply Exists.intro)
            refine ⟨?rel, rfl⟩
            case rel => exact ⟨k+1, e2, by omega, by go_num, by rw [← hRR.out, show Z - (k + 1) = Z - k - 1 by omega], o9, hoff1.trans (f9.wider (by simp +contextual)), k9, HKW.out.trans c9, t9⟩
            case measure => simp [intOf]; omega
          · have HC1 := Lib.hid (HC.out (offv + 1) (.inr rfl))
            have hcp : (1 : Int) < cvv := by omega
            clear HC
            go_wp2_with fail
            refine HC1.out.mono ?_; rintro e' w9 ⟨rfl, t9, c9, e2, o9, f9, k9, r9⟩
            go_wp2_with fail
            go_roundw
            case rel => exact ⟨k+1, e2, by omega, by go_num, by rw [← hRR.out, show Z - (k + 1) = Z - k - 1 by omega], o9, hoff1.trans (f9.wider (by simp +contextual)), k9, HKW.out.trans c9, t9⟩
            case measure => simp [intOf]; omega
      · obtain rfl : k = Z := by omega
        have hR2 : Hid (R = none) := by show _ = _; rw [← hR, Nat.sub_self]; rfl
        clear hekl IH
        go_wp2_with fail
        go_ret
        rw [hR2.out]
        exact ⟨rfl, hts, hch, _, ho, hoff, hoke, fun r h => by simp at h⟩
end Go.Proofs.Yteegjnobmbcjiaa
end
section
/- Chapter 5, the reference: FalseAt. -/
namespace Go.Proofs.Yteegjnobmbcjiaa
open Go.RowKit

theorem make12 (w : World) : (Instr.makeSlice 22 (.int .i64 12) (.int .i64 12)).run Try.prog w = .ok (.slice (some ⟨w.heap.size, 0, none⟩) 12 12) (w.alloc (.cells #[.int .i64 0, .int .i64 0, .int .i64 0, .int .i64 0, .int .i64 0, .int .i64 0, .int .i64 0, .int .i64 0, .int .i64 0, .int .i64 0, .int .i64 0, .int .i64 0] 3)) := by kernel_rfl
theorem zeros_own (w : World) : OwnI w.heap.size (w.heap.size + 1) (w.alloc (.cells #[.int .i64 0, .int .i64 0, .int .i64 0, .int .i64 0, .int .i64 0, .int .i64 0, .int .i64 0, .int .i64 0, .int .i64 0, .int .i64 0, .int .i64 0, .int .i64 0] 3)) (.slice (some ⟨w.heap.size, 0, none⟩) 12 12) zeros12 := by
  refine ⟨⟨_, 12, rfl, Nat.le_refl _, ⟨by decide, fun h => by simp at h⟩, fun _ => ⟨w.heap.size, 0, rfl, Nat.le_refl _, Nat.lt_succ_self _, fun j hj => ?_⟩⟩, fun b off n c hv hn j => ?_⟩
  · rw [Nat.zero_add, World.cell?_alloc_new w]
    have : j < 12 := hj
    unfold zeros12
    match j, this with
    | 0, _ | 1, _ | 2, _ | 3, _ | 4, _ | 5, _ | 6, _ | 7, _ | 8, _ | 9, _ | 10, _ | 11, _ => rfl
  · simp only [Value.slice.injEq, Option.some.injEq, Addr.mk.injEq] at hv
    obtain ⟨⟨rfl, rfl, -⟩, rfl, rfl⟩ := hv
    exact World.frozen?_alloc_at _ _ _ _ rfl

def RetFA (w : World) (R : Option (List Int)) (x : Ending) (w' : World) : Prop := RetIB w (R.getD []) R.isSome x w'
end Go.Proofs.Yteegjnobmbcjiaa
end
section
/- Chapter 5, the program: falseAt. -/
namespace Go.Proofs.Yteegjnobmbcjiaa
open Go.RowKit

theorem fInfo : (Try.prog.info? 163).map (fun i => (i.zero, i.size, i.bytes)) = some (some .nilFunc, 1, 8) := by kernel_rfl
abbrev RowF (lo : Nat) (w : World) (v : Value) (rs : List TR) : Prop := w.ownsRow lo 163 1 v rs.length (rs.map TR.f)
theorem step_append_fn {w : World} {ops : Array Oper} {o : Oper} {a : Act} {K : Act → World → Prop} {Q : Exit → Act → World → Prop} {E : Prop} (hgd : o.guard = none) (s x : Operand) (d : Nat) (hd : o.dst = some d)
    (ho : o.op = .call { callee := .builtin .append, args := #[s, x], argTypes := #[162, 162] })
    (base : Nat) (v : Value) (rs : List TR) (hs : a.eval s = v) (hown : RowF base w v rs) (g : Nat) (r : TR) (hx : a.eval x = .slice (some ⟨g, 0, none⟩) 1 1)
    (hnews : ∀ j u, [r.f][j]? = some u → w.cell? ((⟨g, 0, none⟩ : Addr).add j) = some u)
    (hl : rs.length ≤ 1048576) (hbase : base ≤ w.heap.size)
    (h : ∀ b k w', RowF base w' (.slice (some ⟨b, 0, none⟩) (rs.length + 1) k) (rs ++ [r]) → w.grownBy w' v.ownBlock → (v.ownBlock = some b ∨ b = w.heap.size) → K (a.put (some d) (.slice (some ⟨b, 0, none⟩) (rs.length + 1) k)) w') :
    if Region.wanted o (yielded ops a.tmps) = true then Oper.wp Try.prog o a w K Q else E := by
  obtain ⟨i0, hi0, hz0, hz1, hz2⟩ := info_parts fInfo
  rw [← hd] at h
  refine step_append_lies w hgd s x 162 ho base 163 i0 .nilFunc 1 8 (by kernel_rfl) hi0 hz0 hz1 hz2 rfl (by decide) v rs.length (rs.map TR.f) hs hown
    ⟨g, 0, none⟩ 1 1 [r.f] hx (by simp) hnews (fun u hu => by simp at hu; subst hu; rfl) (by decide) (by unfold maxLen; omega) (by omega) hbase w.heap.size rfl (fun b k w' h1 h2 h3 _ => ?_)
  refine h b k w' ?_ h2 h3
  show World.ownsRow _ _ _ _ _ _ _
  rw [List.map_append, List.length_append]
  exact h1

/-- The tests as they are collected. -/
structure Col (ar : List Int) (Z : Nat) (tb : List (List Int)) (H : Nat) (v u tv : Value) (c : List Lt) (rs : List TR) (w : World) : Prop where
  tests : Tests ar Z tb 0 H v u (H + 3) c rs w
  row : RowF (H + 3) w tv rs
  off : ∀ g, tv.ownBlock = some g → ∀ r ∈ rs, g < r.lo ∨ r.hi ≤ g
theorem Col.nil {ar : List Int} {Z : Nat} {tb : List (List Int)} {H : Nat} {v u : Value} {w : World} : Col ar Z tb H v u (.slice none 0 0) [] [] w := ⟨Tests.nil, World.ownsRow_nil _ _ _ _, fun g h => by simp [Value.ownBlock] at h⟩
theorem Col.bel {ar : List Int} {Z : Nat} {tb : List (List Int)} {H : Nat} {v u tv : Value} {c : List Lt} {rs : List TR} {w w' : World} (h : Col ar Z tb H v u tv c rs w) (k : Bel w w') : Col ar Z tb H v u tv c rs w' := ⟨h.tests.bel k, ownsRow_bel h.row k, h.off⟩
theorem own_lt {w : World} {base e s n : Nat} {v : Value} {xs : List Value} (h : w.ownsRow base e s v n xs) {g : Nat} (hg : v.ownBlock = some g) : base ≤ g ∧ g < w.heap.size := by
  obtain ⟨_, h0 | ⟨g', cap, cur, rfl, h2, h3, _⟩⟩ := h
  · rw [h0.1] at hg; simp [Value.ownBlock] at hg
  · simp only [Value.ownBlock, Option.some.injEq] at hg
    subst hg
    refine ⟨h2, ?_⟩
    rcases Nat.lt_or_ge g' w.heap.size with h | h
    · exact h
    · rw [Array.getElem?_eq_none (by omega)] at h3; simp at h3
/-- A store below. -/
theorem Col.low {ar : List Int} {Z : Nat} {tb : List (List Int)} {H : Nat} {v u tv : Value} {c : List Lt} {rs : List TR} {w : World} (h : Col ar Z tb H v u tv c rs w) {p : Addr} (hp : H ≤ p.block) (hp2 : p.block < H + 3) (x : Value) : Col ar Z tb H v u tv c rs (w.setCell p x) := by
  refine ⟨h.tests.chg (Chg.set (lo := p.block) (hi := p.block + 1) w (Nat.le_refl _) (Nat.lt_succ_self _) x) (fun r hr => .inl (by have := h.tests.cur hr; omega)) (.inr hp), ?_, h.off⟩
  obtain ⟨h1, h0 | ⟨g, cap, cur, e1, e2, hh, r⟩⟩ := h.row
  · exact ⟨h1, .inl h0⟩
  · exact ⟨h1, .inr ⟨g, cap, cur, e1, e2, by rw [Below.heap_setCell w p x g (by omega)]; exact hh, r⟩⟩
/-- One more. -/
theorem Col.snoc {ar : List Int} {Z : Nat} {tb : List (List Int)} {H : Nat} {v u tv : Value} {c : List Lt} {rs : List TR} {w w' : World} {x : Lt} {r : TR} {b k : Nat} (h : Col ar Z tb H v u tv c rs w)
    (ho : TR.ok ar Z tb 0 H v u x r w) (hlo : H + 3 ≤ r.lo) (h1 : ∀ s ∈ rs, s.hi ≤ r.lo) (h2 : ∀ g, tv.ownBlock = some g → g < r.lo)
    (hrow : RowF (H + 3) w' (.slice (some ⟨b, 0, none⟩) (rs.length + 1) k) (rs ++ [r])) (hg : w.grownBy w' tv.ownBlock) (hb : tv.ownBlock = some b ∨ b = w.heap.size) :
    Col ar Z tb H v u (.slice (some ⟨b, 0, none⟩) (rs.length + 1) k) (c ++ [x]) (rs ++ [r]) w' := by
  have hT := h.tests.snoc hlo ho h1
  have hall : ∀ s ∈ rs ++ [r], s.hi ≤ w.heap.size := fun s hs => by have := hT.cur hs; omega
  have hoff : ∀ g, tv.ownBlock = some g → ∀ s ∈ rs ++ [r], g < s.lo ∨ s.hi ≤ g := fun g hg s hs => by
    rcases List.mem_append.1 hs with h' | h'
    · exact h.off g hg s h'
    · simp at h'; subst h'; exact .inl (h2 g hg)
  refine ⟨?_, hrow, fun g hg' s hs => ?_⟩
  · cases e : tv.ownBlock with
    | none =>
      rw [e] at hg
      exact hT.bel ((Bel.rfl' w).grown hg (fun k hk => by simp at hk))
    | some g =>
      rw [e] at hg
      have hlt := own_lt h.row e
      have hk : Chg g (g+1) w w' := ⟨hg.os, hg.tape, hg.output, hg.size, fun k hk ho => hg.block k hk (by simp; omega)⟩
      exact hT.chg hk (fun s hs => by have := hoff g e s hs; omega) (.inr (by omega))
  · simp only [Value.ownBlock, Option.some.injEq] at hg'
    subst hg'
    rcases hb with hb | rfl
    · exact hoff b hb s hs
    · exact .inr (hall s hs)

theorem Col.ts {ar : List Int} {Z : Nat} {tb : List (List Int)} {H : Nat} {v u tv : Value} {c : List Lt} {rs : List TR} {w : World} (h : Col ar Z tb H v u tv c rs w) (hc : w.cell? ⟨H + 2, 0, none⟩ = some tv) (hz : H + 3 ≤ w.heap.size) :
    ∃ ad cap, TS ar Z tb 0 H v u (H + 3) w.heap.size (H + 2) ad cap c rs w ∧ ∀ bT, ad = some ⟨bT, 0, none⟩ → bT < w.heap.size := by
  have hcur : ∀ r ∈ rs, r.hi ≤ w.heap.size := fun r hr => by have := h.tests.cur hr; omega
  have hrow := h.row
  obtain ⟨h1, h0 | ⟨g, cap, cur, e1, e2, hh, r⟩⟩ := hrow
  · have hr0 : rs = [] := List.length_eq_zero_iff.1 h0.2
    refine ⟨none, 0, ⟨h.tests, Nat.lt_succ_self _, hcur, ⟨hz, Nat.le_refl _⟩, by rw [hc, h0.1, hr0]; rfl, fun hp => by rw [hr0] at hp; simp at hp⟩, fun bT hb => by simp at hb⟩
  · subst e1
    have hl := own_lt h.row (g := g) rfl
    refine ⟨some ⟨g, 0, none⟩, cap, ⟨h.tests, Nat.lt_succ_self _, hcur, ⟨hz, Nat.le_refl _⟩, hc, fun _ => ⟨g, rfl, h.off g rfl, fun j s hs => ?_⟩⟩, fun bT hb => ?_⟩
    · have hj : j < rs.length := (List.getElem?_eq_some_iff.1 hs).1
      rw [h.row.cellAt j (by omega), List.getElem?_map, hs]
      rfl
    · simp only [Option.some.injEq, Addr.mk.injEq, and_true] at hb
      subst hb
      exact hl.2

def RetTR (ar : List Int) (Z : Nat) (tb : List (List Int)) (H : Nat) (v u : Value) (x : Lt) (w : World) (e : Ending) (w' : World) : Prop :=
  ∃ r : TR, e = .returned (.func (.func 158) #[] #[.pointer (some ⟨r.p7, 0, none⟩), .pointer (some ⟨r.p4, 0, none⟩), .pointer (some ⟨r.p8, 0, none⟩), .pointer (some ⟨r.p3, 0, none⟩), .pointer (some ⟨r.p5, 0, none⟩)]) ∧ TR.ok ar Z tb 0 H v u x r w' ∧ r.lo = w.heap.size ∧ r.hi = w'.heap.size ∧ Bel w w'
theorem litTest_r (ar : List Int) (Z : Nat) (tb : List (List Int)) (H : Nat) (x : Lt) (v u u1 u2 : Value) (w : World) (z1 : 1 ≤ Z) (z3 : Z ≤ 3) (hH : H ≤ w.heap.size)
    (o1 : okTerm ar x.2.1 = true) (o2 : okTerm ar x.2.2 = true)
    (hv : SlI 0 H w v ar) (hu : SlS 0 H w u tb) (s1 : SlI 0 H w u1 x.2.1) (s2 : SlI 0 H w u2 x.2.2) :
    Calls Try.prog 155 #[.agg #[v], .agg #[.int .i64 (Z : Int), u], .agg #[.bool x.1, u1, u2]] w (RetTR ar Z tb H v u x w) := by
  refine (litTest_c ar Z tb 0 H x v u u1 u2 w z1 z3 hH o1 o2 hv hu s1 s2).mono ?_
  rintro e w' ⟨p7, p4, p8, p3, p5, bk, a7, c7, ks, rfl, T, hb⟩
  exact ⟨⟨w.heap.size, w'.heap.size, p7, p4, p8, p3, p5, bk, c7, a7, u1, u2⟩, rfl, ⟨ks, T⟩, rfl, rfl, hb⟩
end Go.Proofs.Yteegjnobmbcjiaa
end
section
/- Chapter 5, the program: falseAt. -/
namespace Go.Proofs.Yteegjnobmbcjiaa
open Go.RowKit

set_option maxRecDepth 100000 in
set_option maxHeartbeats 4000000 in
theorem falseAt_c (v u vc : Value) (ar : List Int) (Z : Nat) (tb : List (List Int)) (c : List Lt) (w : World) (hg : goodSign ar = true) (hw : isWorld ar Z tb = true) (hok : okLits ar c = true) (hsh : sumL (flatC c) ≤ 1048576)
    (hv : SlI 0 w.heap.size w v ar) (hu : SlS 0 w.heap.size w u tb) (hc : SlC 0 w.heap.size w vc c) :
    Calls Try.prog 152 #[.agg #[v], .agg #[.int .i64 (Z : Int), u], vc] w (RetFA w (lwC ar Z tb c)) := by
  obtain ⟨z1, z3, _⟩ := isWorld_iff.1 hw
  have h8 := (okLits_iff.1 hok).1
  have HOK := Lib.hid (fun k hk => okLits_get (okLits_iff.1 hok).2 k hk)
  obtain ⟨ac, kc, rfl⟩ := hc.form
  have hmk := make12
  have HT := Lib.hid (fun (x : Lt) (u1 u2 : Value) (w' : World) (hs : w.heap.size ≤ w'.heap.size) (o1 : okTerm ar x.2.1 = true) (o2 : okTerm ar x.2.2 = true) (hv' : SlI 0 w.heap.size w' v ar) (hu' : SlS 0 w.heap.size w' u tb) (s1 : SlI 0 w.heap.size w' u1 x.2.1) (s2 : SlI 0 w.heap.size w' u2 x.2.2) =>
    litTest_r ar Z tb w.heap.size x v u u1 u2 w' (by omega) (by omega) hs o1 o2 hv' hu' s1 s2)
  go_enter Try.func152, Try.ntmps152
  go_wp2_with fail
  obtain ⟨W, hW⟩ : ∃ W, W = ((w.alloc (.cells #[v] 30)).alloc (.cells #[.int .i64 (Z : Int), u] 58)).alloc (.cells #[.slice none 0 0] 162) := ⟨_, rfl⟩
  have hB : Bel w W := by rw [hW]; exact Bel.alloc3 _ _ _ _
  have zW : W.heap.size = w.heap.size + 1 + 1 + 1 := by rw [hW]; simp
  have k0 : W.cell? ⟨w.heap.size, 0, none⟩ = some v := by rw [hW]; simp [go_sem]
  have k1 : W.cell? ⟨w.heap.size + 1, 0, none⟩ = some (.int .i64 (Z : Int)) := by rw [hW]; simp [go_sem]
  have k2 : W.cell? ⟨w.heap.size + 1, 1, none⟩ = some u := by rw [hW]; simp [go_sem]
  have k3 : W.cell? ⟨w.heap.size + 1 + 1, 0, none⟩ = some (.slice none 0 0) := by rw [hW]; simp [go_sem]
  have k4 : W.frozen? ⟨w.heap.size + 1 + 1, 0, none⟩ = false := by rw [hW]; simp [go_sem]
  rw [← hW]
  clear hW
  have HZW := Lib.hid zW
  clear zW
  go_loopw [15] (fun i wr => ∃ (k : Nat) (tv : Value) (rs : List TR), k ≤ c.length ∧ i = .int .i64 k ∧ wr.cell? ⟨w.heap.size + 1 + 1, 0, none⟩ = some tv ∧ wr.frozen? ⟨w.heap.size + 1 + 1, 0, none⟩ = false ∧ Col ar Z tb w.heap.size v u tv (c.take k) rs wr ∧ Below (w.heap.size + 1 + 1) W wr) (fun i _ => c.length - (intOf i).toNat)
  case atStart => exact ⟨0, _, [], Nat.zero_le _, rfl, k3, k4, Col.nil, Below.refl _ _⟩
  case round =>
    obtain ⟨k, tv, rs, hk, rfl, hc3, hf3, hcol, hbl⟩ := hrel
    have hbw : Bel w wr := hB.trans (hbl.mono (by omega))
    have zr : w.heap.size + 1 + 1 < wr.heap.size := Nat.lt_of_lt_of_le (by have := HZW.out; omega) hbl.size
    have q0 := (hbl.cell (p := ⟨w.heap.size, 0, none⟩) (by show w.heap.size < _; omega)).trans k0
    have q1 := (hbl.cell (p := ⟨w.heap.size + 1, 0, none⟩) (Nat.lt_succ_self _)).trans k1
    have q2 := (hbl.cell (p := ⟨w.heap.size + 1, 1, none⟩) (Nat.lt_succ_self _)).trans k2
    by_cases hlt : k < c.length
    · obtain ⟨bc, offc, u1, u2, rfl, hbc, c1, c2, c3, s1, s2⟩ := hc.at hbw k hlt
      have hox := HOK.out k hlt
      have htk : Hid (c.take (k+1) = c.take k ++ [c.getD k lt0]) := by
        show _ = _
        rw [List.take_succ_eq_append_getElem hlt]; simp [List.getD, hlt]
      generalize c.getD k lt0 = x at *
      obtain ⟨a1, d1, rfl⟩ := s1.form
      obtain ⟨a2, d2, rfl⟩ := s2.form
      have HA1 : Bel wr (wr.alloc (.cells #[.bool x.1, (.slice a1 x.2.1.length d1), (.slice a2 x.2.2.length d2)] 91)).drew := (Bel.alloc0 _ _).drew
      have HZ1 : Hid ((wr.alloc (.cells #[.bool x.1, (.slice a1 x.2.1.length d1), (.slice a2 x.2.2.length d2)] 91)).drew.heap.size = wr.heap.size + 1) := by show _ = _; simp
      have KX : Hid (∀ w', Bel (wr.alloc (.cells #[.bool x.1, (.slice a1 x.2.1.length d1), (.slice a2 x.2.2.length d2)] 91)).drew w' → (w'.cell? ⟨w.heap.size, 0, none⟩ = some v ∧ w'.cell? ⟨w.heap.size + 1, 0, none⟩ = some (.int .i64 (Z : Int)) ∧ w'.cell? ⟨w.heap.size + 1, 1, none⟩ = some u) ∧ w'.cell? ⟨w.heap.size + 1 + 1, 0, none⟩ = some tv ∧ w'.cell? ⟨wr.heap.size, 0, none⟩ = some (.bool x.1) ∧ w'.cell? ⟨wr.heap.size, 1, none⟩ = some (.slice a1 x.2.1.length d1) ∧ w'.cell? ⟨wr.heap.size, 2, none⟩ = some (.slice a2 x.2.2.length d2)) := fun w' hq =>
        ⟨⟨(HA1.step hq).at (by omega) q0, (HA1.step hq).at (by omega) q1, (HA1.step hq).at (by omega) q2⟩, (HA1.step hq).at zr hc3, hq.at (by simp) (by simp [go_sem]), hq.at (by simp) (by simp [go_sem]), hq.at (by simp) (by simp [go_sem])⟩
      have HC1 := Lib.hid (HT.out x _ _ (wr.alloc (.cells #[.bool x.1, (.slice a1 x.2.1.length d1), (.slice a2 x.2.2.length d2)] 91)).drew (hbw.step HA1).size hox.1 hox.2 (hv.below (hbw.step HA1)) (hu.below (hbw.step HA1)) (s1.below HA1) (s2.below HA1))
      have HCOL := Lib.hid hcol
      have hrl : rs.length ≤ 1048576 := by have := hcol.tests.1; rw [List.length_take] at this; omega
      have hfz := hf3
      clear hcol hox s1 s2 hv hu hc HT HOK
      go_wp2_with fail
      have m0 := KX.out _ (Bel.rfl' _)
      obtain ⟨⟨m00, m01, m02⟩, m03, m04, m05, m06⟩ := m0
      go_region_law
        (first
          | (refine step_append_fn rfl (.tmp 19) (.tmp 24) 25 rfl rfl (w.heap.size + 3) _ rs rfl R5 w4.heap.size r rfl HN hrl HZ5 ?_; intro b6 k6 w6 R6 hg6 hb6; have B6 := ((Below.refl (w.heap.size + 3) wr).trans (hBW5.mono (Nat.succ_le_of_lt zr))).grown hg6 HZ5 (fun q hq => (own_lt R5 hq).1); have t3 := (B6.cell (p := ⟨w.heap.size + 1 + 1, 0, none⟩) (Nat.lt_succ_self _)).trans hc3; have f3 := (B6.frozen (p := ⟨w.heap.size + 1 + 1, 0, none⟩) (Nat.lt_succ_self _)).trans hf3)
          | (go_simp; go_at_call 155; refine HC1.out.mono ?_; rintro e w4 ⟨r, rfl, hr4, hlo, hhi, hb4⟩; have hBW5 := HA1.step (hb4.alloc (.cells #[.func (.func 158) #[] #[.pointer (some ⟨r.p7, 0, none⟩), .pointer (some ⟨r.p4, 0, none⟩), .pointer (some ⟨r.p8, 0, none⟩), .pointer (some ⟨r.p3, 0, none⟩), .pointer (some ⟨r.p5, 0, none⟩)]] 163)); have R5 : RowF (w.heap.size + 3) (w4.alloc (.cells #[.func (.func 158) #[] #[.pointer (some ⟨r.p7, 0, none⟩), .pointer (some ⟨r.p4, 0, none⟩), .pointer (some ⟨r.p8, 0, none⟩), .pointer (some ⟨r.p3, 0, none⟩), .pointer (some ⟨r.p5, 0, none⟩)]] 163)) tv rs := ownsRow_bel HCOL.out.row hBW5; have HN := news_one w4 r.f 163; have l4 := (KX.out _ hb4).2.1; have l5 := (KX.out _ (hb4.alloc (.cells #[.func (.func 158) #[] #[.pointer (some ⟨r.p7, 0, none⟩), .pointer (some ⟨r.p4, 0, none⟩), .pointer (some ⟨r.p8, 0, none⟩), .pointer (some ⟨r.p3, 0, none⟩), .pointer (some ⟨r.p5, 0, none⟩)]] 163))).2.1; have HZ5 : w.heap.size + 3 ≤ (w4.alloc (.cells #[.func (.func 158) #[] #[.pointer (some ⟨r.p7, 0, none⟩), .pointer (some ⟨r.p4, 0, none⟩), .pointer (some ⟨r.p8, 0, none⟩), .pointer (some ⟨r.p3, 0, none⟩), .pointer (some ⟨r.p5, 0, none⟩)]] 163)).heap.size := Nat.le_trans (Nat.succ_le_of_lt zr) hBW5.size)
          | fail)
      all_goals
        go_wp2_with fail
        go_roundw
        case rel =>
          have hA := HCOL.out.bel hBW5
          have hc6 := hA.snoc (x := x) (hr4.chg (Chg.of_bel (lo := 0) (hi := 0) (Bel.alloc0 w4 (.cells #[.func (.func 158) #[] #[.pointer (some ⟨r.p7, 0, none⟩), .pointer (some ⟨r.p4, 0, none⟩), .pointer (some ⟨r.p8, 0, none⟩), .pointer (some ⟨r.p3, 0, none⟩), .pointer (some ⟨r.p5, 0, none⟩)]] 163))) (.inl (Nat.zero_le _)) (.inl (Nat.zero_le _))) (by rw [hlo]; have := HZ1.out; omega) (fun s hs => by have := HCOL.out.tests.cur hs; rw [hlo]; have := HZ1.out; omega) (fun g hg => by have := own_lt HCOL.out.row hg; rw [hlo]; have := HZ1.out; omega) R6 hg6 hb6
          refine ⟨k+1, _, rs ++ [r], by omega, by go_num, World.cell?_setCell_same _ _ _ t3, by rw [World.frozen?_setCell]; exact f3, ?_, Below.setCell (hbl.trans (B6.mono (Nat.le_succ _))) (Nat.le_refl _) _⟩
          rw [htk.out]
          exact hc6.low (by show w.heap.size ≤ w.heap.size + 1 + 1; omega) (Nat.lt_succ_self _) _
        case measure => simp [intOf]; omega
    · obtain rfl : k = c.length := by omega
      rw [List.take_length] at hcol
      obtain ⟨ad, cap, hts, hbt⟩ := hcol.ts hc3 zr
      have hD : Bel wr (wr.alloc (.cells #[.int .i64 0, .int .i64 0, .int .i64 0, .int .i64 0, .int .i64 0, .int .i64 0, .int .i64 0, .int .i64 0, .int .i64 0, .int .i64 0, .int .i64 0, .int .i64 0] 3)).drew := (Bel.alloc0 _ _).drew
      have HDZ : Hid ((wr.alloc (.cells #[.int .i64 0, .int .i64 0, .int .i64 0, .int .i64 0, .int .i64 0, .int .i64 0, .int .i64 0, .int .i64 0, .int .i64 0, .int .i64 0, .int .i64 0, .int .i64 0] 3)).drew.heap.size = wr.heap.size + 1) := by show _ = _; simp
      have hzo := (zeros_own wr).below ((Bel.rfl' _).drew)
      have HV := Lib.hid (clauseVars_c hsh h8 (fun k hk => by
        have hm := mem_gd _ 0 k hk
        rw [List.mem_flatten] at hm
        obtain ⟨t, ht, hn⟩ := hm
        exact ok_low (flat_ok (okLits_iff.1 hok).2 ht) hn) (hc.below (hbw.step hD)))
      have HLW : Hid (∀ (w2 : World) (vv : Value), Bel (wr.alloc (.cells #[.int .i64 0, .int .i64 0, .int .i64 0, .int .i64 0, .int .i64 0, .int .i64 0, .int .i64 0, .int .i64 0, .int .i64 0, .int .i64 0, .int .i64 0, .int .i64 0] 3)).drew w2 → SlI (wr.heap.size + 1) w2.heap.size w2 vv (natsI (varsC c)) → Calls Try.prog 157 #[.func (.func 156) #[] #[.pointer (some ⟨w.heap.size + 1 + 1, 0, none⟩)], .slice (some ⟨wr.heap.size, 0, none⟩) 12 12, vv, .int .i64 (Z : Int)] w2 (RetLW ar Z tb 0 w.heap.size v u (w.heap.size + 3) wr.heap.size (w.heap.size + 1 + 1) ad cap c rs wr.heap.size (.slice (some ⟨wr.heap.size, 0, none⟩) 12 12) (varsC c) zeros12 w2 (lwC ar Z tb c))) := fun w2 vv hb2 hs2 =>
        leastWhere_c hg hw hok wr.heap.size (Nat.le_refl _) hbw.size hbt (varsC c) zeros12 w2 vv _ (wr.heap.size + 1) w2.heap.size varsC_lt (varsTo_len _ _) (zeros_ok (by omega)) (hts.chg (Chg.of_bel (lo := wr.heap.size) (hi := wr.heap.size) (hD.step hb2)) (Nat.le_refl _) hbw.size (fun bT h => .inl (hbt bT h))) hs2 (hzo.below hb2) (.inr (Nat.le_refl _))
      have HVC : Hid (varsTo (mk (flatC c).flatten) 12 = varsC c) := rfl
      rw [show varsTo (mk (flatC c).flatten) 12 = varsC c from rfl] at HV
      have q1' := hD.at (by omega) q1
      have HBW := Lib.hid (hbw.step hD)
      have hlt9 : w.heap.size + 1 < wr.heap.size := by omega
      clear hts hcol hc hv hu hc3 hf3 HT HOK hok hw hg
      generalize lwC ar Z tb c = R at *
      cases R with
      | none =>
        go_wp2_with fail
        go_region_held3 (fun w' => w'.cell? ⟨w.heap.size + 1, 0, none⟩ = some (.int .i64 (Z : Int)))
          (first | exact q1' | exact t1 | exact t9 | fail)
          (first
            | (go_at_call 157; refine (HLW.out _ _ hb2 (o2.sl.mono (by rw [HDZ.out]; exact Nat.le_refl _) (Nat.le_refl _))).mono ?_; rintro e w9 ⟨rfl, ts9, cg9, e9, o9, f9, k9, r9⟩; have t9 := cg9.cell (Nat.lt_trans hlt9 (Nat.lt_of_lt_of_le (Nat.lt_succ_self _) (Nat.le_trans (Nat.le_of_eq HDZ.out.symm) hb2.size))) (.inl (Nat.lt_succ_of_lt (Nat.lt_succ_self _))) t1)
            | (go_at_call 84; refine HV.out.mono ?_; rintro e w2 ⟨a2, n2, c2, rfl, o2, hb2⟩; have t1 := hb2.at (Nat.lt_trans hlt9 (Nat.lt_of_lt_of_le (Nat.lt_succ_self _) (Nat.le_of_eq HDZ.out.symm))) q1')
            | fail)
        all_goals
          go_wp2_with fail
          go_ret2
          exact ⟨_, _, _, rfl, OwnI.nil _ _ _, cg9.bel (HBW.out.step hb2) (by omega)⟩
      | some r =>
        go_wp2_with fail
        go_region_held3 (fun w' => w'.cell? ⟨w.heap.size + 1, 0, none⟩ = some (.int .i64 (Z : Int)))
          (first | exact q1' | exact t1 | exact t9 | fail)
          (first
            | (go_at_call 157; refine (HLW.out _ _ hb2 (o2.sl.mono (by rw [HDZ.out]; exact Nat.le_refl _) (Nat.le_refl _))).mono ?_; rintro e w9 ⟨rfl, ts9, cg9, e9, o9, f9, k9, r9⟩; have t9 := cg9.cell (Nat.lt_trans hlt9 (Nat.lt_of_lt_of_le (Nat.lt_succ_self _) (Nat.le_trans (Nat.le_of_eq HDZ.out.symm) hb2.size))) (.inl (Nat.lt_succ_of_lt (Nat.lt_succ_self _))) t1)
            | (go_at_call 84; refine HV.out.mono ?_; rintro e w2 ⟨a2, n2, c2, rfl, o2, hb2⟩; have t1 := hb2.at (Nat.lt_trans hlt9 (Nat.lt_of_lt_of_le (Nat.lt_succ_self _) (Nat.le_of_eq HDZ.out.symm))) q1')
            | fail)
        all_goals
          go_wp2_with fail
          go_ret2
          obtain rfl := r9 _ rfl
          exact ⟨_, _, _, rfl, o9.mono hbw.size (by have := cg9.size; have := hb2.size; have := HDZ.out; omega), cg9.bel (HBW.out.step hb2) (by omega)⟩
end Go.Proofs.Yteegjnobmbcjiaa
end
section
/- Chapter 5, the reference: FalseAt. -/
namespace Go.Proofs.Yteegjnobmbcjiaa
open Go.RowKit

theorem SlS.in' {lo hi : Nat} {w : World} {v : Value} {xss : List (List Int)} (h : SlS lo hi w v xss) : SlS 0 w.heap.size w v xss := by
  obtain ⟨ad, cap, rfl, hc, hm, hr⟩ := h
  refine ⟨ad, cap, rfl, hc, hm, fun hp => ?_⟩
  obtain ⟨b, off, e, a1, a2, a3⟩ := hr hp
  refine ⟨b, off, e, Nat.zero_le _, ?_, fun j hj => ?_⟩
  · obtain ⟨u, h1, _⟩ := a3 0 hp; exact World.block_lt_of_cell? w ⟨b, off + 0, none⟩ h1
  · obtain ⟨u, h1, h2⟩ := a3 j hj; exact ⟨u, h1, h2.in'⟩
theorem SlC.in' {lo hi : Nat} {w : World} {v : Value} {c : List Lt} (h : SlC lo hi w v c) : SlC 0 w.heap.size w v c := by
  obtain ⟨ad, cap, rfl, hc, hm, hr⟩ := h
  refine ⟨ad, cap, rfl, hc, hm, fun hp => ?_⟩
  obtain ⟨b, off, e, a1, a2, a3⟩ := hr hp
  refine ⟨b, off, e, Nat.zero_le _, ?_, fun j hj => ?_⟩
  · obtain ⟨u1, u2, h1, _⟩ := a3 0 hp; exact World.block_lt_of_cell? w ⟨b, off + 0 * 3, none⟩ h1
  · obtain ⟨u1, u2, h1, h2, h3, h4, h5⟩ := a3 j hj; exact ⟨u1, u2, h1, h2, h3, h4.in', h5.in'⟩
theorem few_low {ar : List Int} {c : List Lt} (h : okLits ar c = true) : ∀ t ∈ flatC c, ∀ k, k < t.length → -12 ≤ t.getD k 0 := fun _ ht => low_memC (fun _ hn => ok_low (flat_ok (okLits_iff.1 h).2 ht) hn)
end Go.Proofs.Yteegjnobmbcjiaa
end
section
/- Chapter 5, the program: areTriable. -/
namespace Go.Proofs.Yteegjnobmbcjiaa
open Go.RowKit

/-- The slice value v holds the clauses cs. -/
def SlCs (lo hi : Nat) (w : World) (v : Value) (cs : List (List Lt)) : Prop :=
  ∃ ad cap, v = .slice ad cs.length cap ∧ cs.length ≤ cap ∧ (cap ≤ maxLen ∧ (ad = none → cap = 0)) ∧
    (0 < cs.length → ∃ b off, ad = some ⟨b, off, none⟩ ∧ lo ≤ b ∧ b < hi ∧ ∀ j, j < cs.length → ∃ u, w.cell? ⟨b, off + j, none⟩ = some u ∧ SlC lo hi w u (cs.getD j []))
theorem SlCs.form {lo hi w v cs} (h : SlCs lo hi w v cs) : ∃ ad k, v = .slice ad cs.length k := by obtain ⟨ad, k, h, _⟩ := h; exact ⟨ad, k, h⟩
theorem SlCs.below {lo hi w w' v cs} (h : SlCs lo hi w v cs) (hb : Bel w w') : SlCs lo hi w' v cs := by
  obtain ⟨ad, cap, rfl, hc, hm, hr⟩ := h
  refine ⟨ad, cap, rfl, hc, hm, fun hp => ?_⟩
  obtain ⟨b, off, e, a1, a2, a3⟩ := hr hp
  refine ⟨b, off, e, a1, a2, fun j hj => ?_⟩
  obtain ⟨u, h1, h2⟩ := a3 j hj
  exact ⟨u, hb.at (World.block_lt_of_cell? w ⟨b, off + j, none⟩ h1) h1, h2.below hb⟩
theorem SlCs.at {lo hi : Nat} {w wr : World} {ad : Option Addr} {k n : Nat} {cs : List (List Lt)} (h : SlCs lo hi w (.slice ad n k) cs) (hb : Bel w wr) (j : Nat) (hj : j < cs.length) :
    ∃ b off u, ad = some ⟨b, off, none⟩ ∧ b < w.heap.size ∧ wr.cell? ⟨b, off + j, none⟩ = some u ∧ SlC lo hi wr u (cs.getD j []) := by
  obtain ⟨ad', cap, e, _, _, hr⟩ := h
  obtain ⟨b, off, e2, _, _, hc⟩ := hr (by omega)
  obtain ⟨u, c1, s1⟩ := hc j hj
  have h1 := World.block_lt_of_cell? w ⟨b, off + j, none⟩ c1
  simp only [Value.slice.injEq] at e
  exact ⟨b, off, u, e.1.trans e2, h1, hb.at h1 c1, s1.below hb⟩
/-- One clause in a block of its own. -/
theorem slcs_one {w : World} {c : List Lt} {u : Value} {t : TypeId} (g : Nat) (hg : g = w.heap.size) (h : SlC 0 w.heap.size w u c) :
    SlCs 0 (w.alloc (.cells #[u] t)).heap.size (w.alloc (.cells #[u] t)) (.slice (some ⟨g, 0, none⟩) 1 1) [c] := by
  subst hg
  have hb := Bel.alloc0 w (.cells #[u] t)
  refine ⟨_, 1, rfl, Nat.le_refl _, ⟨by unfold maxLen; omega, fun h => by simp at h⟩, fun _ => ⟨w.heap.size, 0, rfl, Nat.zero_le _, by simp, fun j hj => ?_⟩⟩
  obtain rfl : j = 0 := by simp at hj; omega
  exact ⟨u, by rw [World.cell?_alloc_new w]; rfl, (h.below hb).mono (Nat.le_refl _) hb.size⟩

def triable (ar : List Int) (cs : List (List Lt)) : Bool := decide (cs.length ≤ 40) && cs.all (fun c => goodClause ar c && fewC c)
theorem allg_split {α : Type} (c : List α) (d : α) (p : α → Bool) (k : Nat) (hk : k < c.length) (h : (c.take k).all p = true) : (c.take (k+1)).all p = p (c.getD k d) := by
  rw [List.take_succ_eq_append_getElem hk, List.all_append, h]
  simp [List.getD, hk]
theorem allg_false {α : Type} (c : List α) (d : α) (p : α → Bool) (k : Nat) (hk : k < c.length) (h : p (c.getD k d) = false) : c.all p = false := by
  rw [List.all_eq_false]
  exact ⟨c[k], List.getElem_mem hk, by simp [List.getD, hk] at h; simp [h]⟩

def RetVI (w : World) (g : Bool) (n : Nat) (e : Ending) (w' : World) : Prop := ∃ ad m k, e = .returned (.tuple #[.slice ad m k, .bool g]) ∧ (g = true → m = n) ∧ Bel w w'
theorem iVarsIn_n {l h l' h' : Nat} {v u : Value} {ar : List Int} {c : List Lt} {w : World} (ha : ar.length ≤ 1048576) (hv : SlI l h w v ar) (hc : sumC c ≤ 1048576) (hu : SlC l' h' w u c) :
    Calls Try.prog 41 #[.agg #[v], u] w (RetVI w (goodClause ar c) (varsC c).length) := by
  refine (iVarsIn_t ha hv hc hu).mono ?_
  rintro e w' ⟨ad, n, k, rfl, o, hb⟩
  refine ⟨ad, n, k, rfl, fun hg => ?_, hb⟩
  obtain ⟨_, _, e, _⟩ := o.sl
  simp only [Value.slice.injEq] at e
  rw [e.2.1]
  unfold varsInAns
  rw [hg, if_pos rfl]
  simp [natsI]; rfl

set_option maxRecDepth 100000 in
set_option maxHeartbeats 1000000 in
theorem areTriable_c (l h l' h' : Nat) (v vc : Value) (ar : List Int) (cs : List (List Lt)) (w : World) (ha : ar.length ≤ 1048576) (hv : SlI l h w v ar) (hs : ∀ k, k < cs.length → sumC (cs.getD k []) ≤ 1048576) (hc : SlCs l' h' w vc cs) :
    Calls Try.prog 127 #[.agg #[v], vc] w (RetV w (.bool (triable ar cs))) := by
  obtain ⟨ac, kc, rfl⟩ := hc.form
  have hcl : cs.length ≤ 9223372036854775807 := by
    obtain ⟨_, cap, e, h1, h2, _⟩ := hc
    unfold maxLen at h2; omega
  unfold triable
  by_cases h40 : cs.length ≤ 40
  · rw [decide_eq_true h40, Bool.true_and]
    have HS1 := Lib.hid (fun k hk h => allg_split cs [] (fun c => goodClause ar c && fewC c) k hk h)
    have HS2 := Lib.hid (fun k hk h => allg_false cs [] (fun c => goodClause ar c && fewC c) k hk h)
    have HV := Lib.hid (fun (c : List Lt) (u : Value) (a b : Nat) (w' : World) (hb : Bel w w') (h1 : sumC c ≤ 1048576) (h2 : SlC a b w' u c) => iVarsIn_n ha (hv.below hb) h1 h2)
    have hd : decide ((cs.length : Int) > 40) = false := decide_eq_false (by omega)
    have HSM := Lib.hid hs
    have HB := Bel.alloc0 w (.cells #[v] 30)
    clear hv hs
    go_enter Try.func127, Try.ntmps127
    go_wp2_with fail
    go_loopw [14] (fun i wr => ∃ k : Nat, k ≤ cs.length ∧ i = .int .i64 k ∧ (cs.take k).all (fun c => goodClause ar c && fewC c) = true ∧ Bel (w.alloc (.cells #[v] 30)) wr) (fun i _ => cs.length - (intOf i).toNat)
    case atStart => exact ⟨0, Nat.zero_le _, rfl, rfl, Bel.rfl' _⟩
    case round =>
      obtain ⟨k, hk, rfl, hall, hb⟩ := hrel
      have x0 : wr.cell? ⟨w.heap.size, 0, none⟩ = some v := hb.at (by simp) (by simp [go_sem])
      by_cases hlt : k < cs.length
      · obtain ⟨bc, offc, uc, rfl, hbc, c1, s1⟩ := hc.at hb.of_alloc k hlt
        obtain ⟨a1, d1, rfl⟩ := s1.form
        have HC := Lib.hid (HV.out _ _ _ _ _ hb.of_alloc (HSM.out k hlt) s1)
        have HA := Lib.hid (HS1.out k hlt hall)
        have HF := Lib.hid (HS2.out k hlt)
        have hlk : (k : Int) < cs.length := by omega
        generalize hcc : (cs.getD k []) = c at *
        have hfe : fewC c = decide ((varsC c).length ≤ 6) := rfl
        have hvl : (varsC c).length ≤ 12 := varsTo_len _ _
        rw [hfe] at HA HF
        generalize (varsC c).length = n at *
        generalize c.length = m at *
        clear hc s1 hall HS1 HS2 HV HSM hcc hfe
        generalize goodClause ar c = g at *
        cases g with
        | false =>
          go_wp2_with fail
          refine HC.out.mono ?_; rintro e w3 ⟨a3, m3, k3, rfl, -, hb3⟩
          go_wp2_with fail
          go_ret
          exact ⟨by rw [HF.out rfl]; rfl, (HB.step hb).step hb3⟩
        | true =>
          by_cases h6 : n ≤ 6
          · have hA := HA.out
            rw [decide_eq_true h6] at hA
            have HA2 := Lib.hid hA
            clear hA HA HF
            have hd6 : decide ((n : Int) > 6) = false := decide_eq_false (by omega)
            go_wp2_with fail
            refine HC.out.mono ?_; rintro e w3 ⟨a3, m3, k3, rfl, hm3, hb3⟩
            obtain rfl := hm3 rfl
            go_wp2_with fail
            go_roundw
            case rel => exact ⟨k+1, by omega, by go_num, HA2.out, hb.step hb3⟩
            case measure => simp [intOf]; omega
          · have hF := Lib.hid (HF.out (by rw [decide_eq_false h6]; rfl))
            clear HA HF
            have hd6 : decide ((n : Int) > 6) = true := decide_eq_true (by omega)
            go_wp2_with fail
            refine HC.out.mono ?_; rintro e w3 ⟨a3, m3, k3, rfl, hm3, hb3⟩
            obtain rfl := hm3 rfl
            go_wp2_with fail
            go_ret
            exact ⟨by rw [hF.out]; rfl, (HB.step hb).step hb3⟩
      · obtain rfl : k = cs.length := by omega
        rw [List.take_length] at hall
        have HALL := Lib.hid hall
        clear hall
        go_wp2_with fail
        go_ret
        exact ⟨by rw [HALL.out]; rfl, HB.step hb⟩
  · rw [decide_eq_false h40, Bool.false_and]
    have hd : decide ((cs.length : Int) > 40) = true := decide_eq_true (by omega)
    go_enter Try.func127, Try.ntmps127
    go_wp2_with fail
    go_ret
    exact ⟨rfl, Bel.alloc0 _ _⟩
end Go.Proofs.Yteegjnobmbcjiaa
end
section
/- Chapter 5, the program: FalseAt. -/
namespace Go.Proofs.Yteegjnobmbcjiaa
open Go.RowKit

theorem triable_one {ar : List Int} (c : List Lt) (hg : goodSign ar = true) : triable ar [c] = (okLits ar c && fewC c) := by
  unfold triable goodClause
  rw [hg]
  simp
theorem areTriable_v {l h l' h' : Nat} {v vc : Value} {ar : List Int} {cs : List (List Lt)} {q : Bool} {w : World} (hq : triable ar cs = q) (ha : ar.length ≤ 1048576) (hv : SlI l h w v ar) (hs : ∀ k, k < cs.length → sumC (cs.getD k []) ≤ 1048576) (hc : SlCs l' h' w vc cs) :
    Calls Try.prog 127 #[.agg #[v], vc] w (RetV w (.bool q)) := by subst hq; exact areTriable_c l h l' h' v vc ar cs w ha hv hs hc

end Go.Proofs.Yteegjnobmbcjiaa
end
section
/- Chapter 5, the reference: HoldsIn. -/
namespace Go.Proofs.Yteegjnobmbcjiaa
open Go.RowKit

def heldC (ar : List Int) (sz : Int) (tb : List (List Int)) (c : List Lt) : Bool := !(lwC ar sz tb c).isSome
def heldAns (ar : List Int) (sz : Int) (tb : List (List Int)) (c : List Lt) : Bool := if falseOk ar sz tb c then heldC ar sz tb c else false
end Go.Proofs.Yteegjnobmbcjiaa
end
section
/- Chapter 5, the program: AllHold and HoldsIn. -/
namespace Go.Proofs.Yteegjnobmbcjiaa
open Go.RowKit

def heldAll (ar : List Int) (sz : Int) (tb : List (List Int)) (cs : List (List Lt)) : Bool := cs.all (heldC ar sz tb)
def allOk (ar : List Int) (sz : Int) (tb : List (List Int)) (cs : List (List Lt)) : Bool := goodWorld ar sz tb && triable ar cs
def allAns (ar : List Int) (sz : Int) (tb : List (List Int)) (cs : List (List Lt)) : Bool := if allOk ar sz tb cs then heldAll ar sz tb cs else false
theorem SlCs.in' {lo hi : Nat} {w : World} {v : Value} {cs : List (List Lt)} (h : SlCs lo hi w v cs) : SlCs 0 w.heap.size w v cs := by
  obtain ⟨ad, cap, rfl, hc, hm, hr⟩ := h
  refine ⟨ad, cap, rfl, hc, hm, fun hp => ?_⟩
  obtain ⟨b, off, e, a1, a2, a3⟩ := hr hp
  refine ⟨b, off, e, Nat.zero_le _, ?_, fun j hj => ?_⟩
  · obtain ⟨u, h1, _⟩ := a3 0 hp; exact World.block_lt_of_cell? w ⟨b, off + 0, none⟩ h1
  · obtain ⟨u, h1, h2⟩ := a3 j hj; exact ⟨u, h1, h2.in'⟩

set_option maxRecDepth 100000 in
set_option maxHeartbeats 1000000 in
theorem allHold_c (v u vc : Value) (ar : List Int) (Z : Nat) (tb : List (List Int)) (cs : List (List Lt)) (w : World) (hg : goodSign ar = true) (hw : isWorld ar Z tb = true) (hok : ∀ k, k < cs.length → okLits ar (cs.getD k []) = true) (hs : ∀ k, k < cs.length → sumC (cs.getD k []) ≤ 1048576) (h40 : cs.length ≤ 40)
    (hv : SlI 0 w.heap.size w v ar) (hu : SlS 0 w.heap.size w u tb) (hc : SlCs 0 w.heap.size w vc cs) :
    Calls Try.prog 128 #[.agg #[v], .agg #[.int .i64 (Z : Int), u], vc] w (RetV w (.bool (heldAll ar Z tb cs))) := by
  obtain ⟨ac, kc, rfl⟩ := hc.form
  have HB : Bel w ((w.alloc (.cells #[v] 30)).alloc (.cells #[.int .i64 (Z : Int), u] 58)) := Bel.alloc2 _ _ _
  have HS1 := Lib.hid (fun k hk h => allg_split cs [] (heldC ar Z tb) k hk h)
  have HS2 := Lib.hid (fun k hk h => allg_false cs [] (heldC ar Z tb) k hk h)
  have HV := Lib.hid (fun (c : List Lt) (uc : Value) (w' : World) (hb : Bel w w') (h0 : okLits ar c = true) (h1 : sumC c ≤ 1048576) (h2 : SlC 0 w'.heap.size w' uc c) => falseAt_c v u uc ar Z tb c w' hg hw h0 (short_flat h1).1 (hv.below hb).in' (hu.below hb).in' h2)
  have HSM := Lib.hid hs
  have HOK := Lib.hid hok
  have HK : Hid (∀ w', Bel ((w.alloc (.cells #[v] 30)).alloc (.cells #[.int .i64 (Z : Int), u] 58)) w' → w'.cell? ⟨w.heap.size, 0, none⟩ = some v ∧ w'.cell? ⟨w.heap.size + 1, 0, none⟩ = some (.int .i64 (Z : Int)) ∧ w'.cell? ⟨w.heap.size + 1, 1, none⟩ = some u) := fun w' hb =>
    ⟨hb.at (by simp; omega) (by simp [go_sem]), hb.at (by simp) (by simp [go_sem]), hb.at (by simp) (by simp [go_sem])⟩
  unfold heldAll
  clear hv hu hs hok hg hw
  go_enter Try.func128, Try.ntmps128
  go_wp2_with fail
  go_loopw [13] (fun i wr => ∃ k : Nat, k ≤ cs.length ∧ i = .int .i64 k ∧ (cs.take k).all (heldC ar Z tb) = true ∧ Bel ((w.alloc (.cells #[v] 30)).alloc (.cells #[.int .i64 (Z : Int), u] 58)) wr) (fun i _ => cs.length - (intOf i).toNat)
  case atStart => exact ⟨0, Nat.zero_le _, rfl, rfl, Bel.rfl' _⟩
  case round =>
    obtain ⟨k, hk, rfl, hall, hb⟩ := hrel
    obtain ⟨x0, x1, x2⟩ := HK.out _ hb
    by_cases hlt : k < cs.length
    · obtain ⟨bc, offc, uc, rfl, hbc, c1, s1⟩ := hc.at (HB.step hb) k hlt
      obtain ⟨a1, d1, rfl⟩ := s1.form
      have HC := Lib.hid (HV.out _ _ _ (HB.step hb) (HOK.out k hlt) (HSM.out k hlt) s1.in')
      have HA := Lib.hid (HS1.out k hlt hall)
      have HF := Lib.hid (HS2.out k hlt)
      have HH : Hid (∀ c, heldC ar Z tb c = !(lwC ar Z tb c).isSome) := fun _ => rfl
      generalize hcc : (cs.getD k []) = c at *
      generalize c.length = m at *
      rw [HH.out] at HA HF
      clear hc s1 hall HS1 HS2 HV HSM HOK hcc HH
      generalize lwC ar Z tb c = R at *
      cases R with
      | some r =>
        go_wp2_with fail
        refine HC.out.mono ?_; rintro e w3 ⟨a3, m3, k3, rfl, -, hb3⟩
        go_wp2_with fail
        go_ret
        exact ⟨by rw [HF.out rfl]; rfl, (HB.step hb).step hb3⟩
      | none =>
        go_wp2_with fail
        refine HC.out.mono ?_; rintro e w3 ⟨a3, m3, k3, rfl, -, hb3⟩
        go_wp2_with fail
        go_roundw
        case rel => exact ⟨k+1, by omega, by go_num, HA.out, hb.step hb3⟩
        case measure => simp [intOf]; omega
    · obtain rfl : k = cs.length := by omega
      rw [List.take_length] at hall
      have HALL := Lib.hid hall
      clear hall
      go_wp2_with fail
      go_ret
      exact ⟨by rw [HALL.out]; rfl, HB.step hb⟩

theorem triable_ok {ar : List Int} {cs : List (List Lt)} (h : triable ar cs = true) : cs.length ≤ 40 ∧ ∀ k, k < cs.length → okLits ar (cs.getD k []) = true := by
  unfold triable at h
  rw [Bool.and_eq_true, decide_eq_true_eq, List.all_eq_true] at h
  refine ⟨h.1, fun k hk => ?_⟩
  have := h.2 _ (mem_getD _ [] k hk)
  rw [Bool.and_eq_true] at this
  exact okLits_iff.2 (goodClause_iff.1 this.1).2

set_option maxRecDepth 100000 in
set_option maxHeartbeats 1000000 in
theorem iAllHold_c {l h l' h' l2 h2 : Nat} {v u vc : Value} {ar : List Int} {sz : Int} {tb : List (List Int)} {cs : List (List Lt)} {w : World} (ha : ar.length ≤ 1048576) (hv : SlI l h w v ar) (hx : short tb) (hu : SlS l' h' w u tb) (hs : ∀ k, k < cs.length → sumC (cs.getD k []) ≤ 1048576) (hc : SlCs l2 h2 w vc cs) :
    Calls Try.prog 81 #[.agg #[v], .agg #[.int .i64 sz, u], vc] w (RetV w (.tuple #[.bool (allAns ar sz tb cs), .bool (allOk ar sz tb cs)])) := by
  replace hv := hv.in'
  replace hu := hu.in'
  replace hc := hc.in'
  unfold allAns
  have HB : Bel w ((w.alloc (.cells #[v] 30)).alloc (.cells #[.int .i64 sz, u] 58)) := Bel.alloc2 _ _ _
  have HK : Hid (∀ w', Bel ((w.alloc (.cells #[v] 30)).alloc (.cells #[.int .i64 sz, u] 58)) w' → w'.cell? ⟨w.heap.size, 0, none⟩ = some v ∧ w'.cell? ⟨w.heap.size + 1, 0, none⟩ = some (.int .i64 sz) ∧ w'.cell? ⟨w.heap.size + 1, 1, none⟩ = some u) := fun w' hb =>
    ⟨hb.at (by simp; omega) (by simp [go_sem]), hb.at (by simp) (by simp [go_sem]), hb.at (by simp) (by simp [go_sem])⟩
  have EQ : allOk ar sz tb cs = (goodWorld ar sz tb && triable ar cs) := rfl
  cases hg : goodWorld ar sz tb with
  | false =>
    rw [EQ, hg, Bool.false_and, if_neg (by simp)]
    have HC := Lib.hid (fun (w' : World) (hb : Bel w w') => iGoodWorld_v hg ha (hv.below hb) hx (hu.below hb)); clear hg EQ
    go_enter Try.func81, Try.ntmps81
    go_wp2_with fail
    refine (HC.out _ HB).mono ?_; rintro e w1 ⟨rfl, hb1⟩
    go_wp2_with fail
    go_ret2
    exact ⟨rfl, HB.step hb1⟩
  | true =>
    obtain ⟨hgs, hiw⟩ := goodWorld_iff.1 hg
    obtain ⟨z1, z3, _⟩ := isWorld_iff.1 hiw
    have HC := Lib.hid (fun (w' : World) (hb : Bel w w') => iGoodWorld_v hg ha (hv.below hb) hx (hu.below hb))
    have HT := Lib.hid (fun (w' : World) (hb : Bel w w') => areTriable_v (rfl : triable ar cs = triable ar cs) ha (hv.below hb) hs (hc.below hb))
    cases hq : triable ar cs with
    | false =>
      rw [EQ, hg, hq, Bool.true_and, if_neg (by simp)]
      rw [hq] at HT
      clear hq hg EQ
      go_enter Try.func81, Try.ntmps81
      go_wp2_with fail
      refine (HC.out _ HB).mono ?_; rintro e w1 ⟨rfl, hb1⟩
      obtain ⟨x0, x1, x2⟩ := HK.out _ hb1
      go_wp2_with fail
      refine (HT.out _ (HB.step hb1)).mono ?_; rintro e w2 ⟨rfl, hb2⟩
      go_wp2_with fail
      go_ret2
      exact ⟨rfl, (HB.step hb1).step hb2⟩
    | true =>
      have hgk : (goodWorld ar sz tb && triable ar cs) = true := by rw [hg, hq]; rfl
      rw [EQ, hgk, if_pos rfl]
      rw [hq] at HT
      obtain ⟨Z, rfl⟩ : ∃ Z : Nat, sz = (Z : Int) := ⟨sz.toNat, by omega⟩
      obtain ⟨q40, qok⟩ := triable_ok hq
      have HV := Lib.hid (fun (w' : World) (hb : Bel w w') => allHold_c v u vc ar Z tb cs w' hgs hiw qok hs q40 (hv.below hb).in' (hu.below hb).in' (hc.below hb).in')
      clear hq hg EQ hgk qok
      generalize heldAll ar Z tb cs = R at *
      go_enter Try.func81, Try.ntmps81
      go_wp2_with fail
      refine (HC.out _ HB).mono ?_; rintro e w1 ⟨rfl, hb1⟩
      obtain ⟨x0, x1, x2⟩ := HK.out _ hb1
      go_wp2_with fail
      refine (HT.out _ (HB.step hb1)).mono ?_; rintro e w2 ⟨rfl, hb2⟩
      obtain ⟨v0, v1, v2⟩ := HK.out _ (hb1.step hb2)
      go_wp2_with fail
      refine (HV.out _ ((HB.step hb1).step hb2)).mono ?_; rintro e w4 ⟨rfl, hb4⟩
      go_wp2_with fail
      go_ret2
      exact ⟨rfl, ((HB.step hb1).step hb2).step hb4⟩

set_option maxRecDepth 100000 in
set_option maxHeartbeats 1000000 in
theorem iHoldsIn_t {l h l' h' l2 h2 : Nat} {v u vc : Value} {ar : List Int} {sz : Int} {tb : List (List Int)} {c : List Lt} {w : World} (ha : ar.length ≤ 1048576) (hv : SlI l h w v ar) (hx : short tb) (hu : SlS l' h' w u tb) (hcs : sumC c ≤ 1048576) (hc : SlC l2 h2 w vc c) :
    Calls Try.prog 37 #[.agg #[v], .agg #[.int .i64 sz, u], vc] w (RetV w (.tuple #[.bool (heldAns ar sz tb c), .bool (falseOk ar sz tb c)])) := by
  obtain ⟨ac, kc, rfl⟩ := hc.form
  have HB : Bel w ((w.alloc (.cells #[v] 30)).alloc (.cells #[.int .i64 sz, u] 58)) := Bel.alloc2 _ _ _
  have HB2 := HB.alloc (.cells #[.slice ac c.length kc] 47)
  have HSC : ∀ k, k < [c].length → sumC ([c].getD k []) ≤ 1048576 := fun k hk => by
    obtain rfl : k = 0 := by simp at hk; omega
    exact hcs
  have HV := Lib.hid (iAllHold_c (sz := sz) ha (hv.below HB2) hx (hu.below HB2) HSC (slcs_one (w := (w.alloc (.cells #[v] 30)).alloc (.cells #[.int .i64 sz, u] 58)) (t := 47) (w.heap.size + 1 + 1) (by simp) (hc.below HB).in'))
  have E1 : allOk ar sz tb [c] = falseOk ar sz tb c := by
    unfold allOk falseOk
    cases hg : goodWorld ar sz tb with
    | false => rfl
    | true => rw [Bool.true_and, Bool.true_and, triable_one c (goodWorld_iff.1 hg).1]
  have E2 : allAns ar sz tb [c] = heldAns ar sz tb c := by
    unfold allAns heldAns heldAll
    rw [E1]; simp
  rw [E1, E2] at HV
  clear E1 E2
  generalize heldAns ar sz tb c = R1 at *
  generalize falseOk ar sz tb c = R2 at *
  go_enter Try.func37, Try.ntmps37
  go_wp2_with fail
  refine HV.out.mono ?_; rintro e w4 ⟨rfl, hb4⟩
  go_wp2_with fail
  go_ret2
  exact ⟨rfl, HB2.step hb4⟩
end Go.Proofs.Yteegjnobmbcjiaa
end
