/- Texts merged, part 9. -/
import Derived.Deep.OwnRows
import Derived.Test.YteegjnobmbcjiaaGreatDoorMgFactor8
section
/- Match: the reference's. -/
namespace Go.Proofs.YteegjnobmbcjiaaGreatDoor
open Go.RowKit Go.Maps

/-- The first k have been taken back where they bind a variable to itself. -/
def mixF (F : Nat → List Int) (k : Nat) : Nat → List Int := fun v => if v < k then stayF F v else F v
theorem mixF_zero (F : Nat → List Int) : mixF F 0 = F := by funext v; simp [mixF]
theorem mixF_succ (F : Nat → List Int) (k : Nat) : upd (mixF F k) k (stayF F k) = mixF F (k+1) := by
  funext v
  unfold upd mixF
  by_cases e : v = k
  · subst e; simp
  · by_cases h : v < k
    · rw [if_neg e, if_pos h, if_pos (by omega)]
    · rw [if_neg e, if_neg h, if_neg (by omega)]
theorem mixF_at (F : Nat → List Int) (k : Nat) : mixF F k k = F k := by simp [mixF]
theorem rawL_mix (F : Nat → List Int) : rawL (mixF F 12) = substL F := by
  unfold rawL substL
  apply List.map_congr_left
  intro v hv
  rw [List.mem_range] at hv
  simp [mixF, hv]
theorem made12 (w : World) : (Instr.makeSlice 56 (.int .i64 12) (.int .i64 12)).run Tryz.prog w = .ok (.slice (some ⟨w.heap.size, 0, none⟩) 12 12) (w.alloc (.cells (madeCells #[.slice none 0 0] 12) 22)) :=
  Go.run_make_row' 56 22 (.slice none 0 0) 24 Tryz.underlying56 Tryz.info22 rfl .i64 .i64 12 (by omega) (by omega) w
theorem rep12 (w : World) : (w.alloc (.cells (madeCells #[.slice none 0 0] 12) 22)).ownsRow w.heap.size 22 1 (.slice (some ⟨w.heap.size, 0, none⟩) 12 12) 12 (List.replicate 12 (Value.slice none 0 0)) := by
  have h := World.ownsRow_lit (e := 22) (base := w.heap.size) (size := 1) w (madeCells #[.slice none 0 0] 12) 12 (Nat.le_refl _) (by unfold maxLen; omega) (by rw [← Array.length_toList, toList_madeCells_one]; simp)
  rw [toList_madeCells_one] at h
  exact h
theorem arr12 {w w' : World} {base B : Nat} (hb : base ≤ w.heap.size) (hB : B = w.heap.size) (hw : Bel (w.alloc (.cells (madeCells #[.slice none 0 0] 12) 22)) w') :
    Arr base B (fun _ => 2) w' (List.replicate 12 (Value.slice none 0 0)) (fun _ => []) := by
  subst hB
  exact Arr.fresh ((show OwnT base (fun _ => 2) 2 22 (w.alloc (.cells (madeCells #[.slice none 0 0] 12) 22)) (.slice (some ⟨w.heap.size, 0, none⟩) 12 12) (List.replicate 12 (Value.slice none 0 0)) from ⟨by simpa using row_mono (rep12 w) hb, fun _ _ => rfl⟩).bel hw)

end Go.Proofs.YteegjnobmbcjiaaGreatDoor
end
section
/- Unify: the reference's inner functions. -/
namespace Go.Proofs.YteegjnobmbcjiaaGreatDoor
open Go.RowKit Go.Maps

def sizesOk (ar : List Int) (b : List (List Int)) (x y : List Int) : Bool := b.all (okEmpty ar) && okTerm ar x && okTerm ar y

set_option maxRecDepth 100000 in
set_option maxHeartbeats 400000 in
theorem l2Sizes_c (l h l' h' l1 h1 l2 h2 : Nat) (v u p q : Value) (ar : List Int) (b : List (List Int)) (x y : List Int) (w : World) (hg : goodSign ar = true) (hv : SlI l h w v ar) (hb : short b) (hu : SlS l' h' w u b) (hxl : x.length ≤ 1600) (hp : SlI l1 h1 w p x) (hyl : y.length ≤ 1600) (hq : SlI l2 h2 w q y) :
    Calls Tryz.prog 103 #[.agg #[v], u, p, q] w (RetV w (.bool (sizesOk ar b x y))) := by
  obtain ⟨ad', cap', rfl⟩ := hu.form
  obtain ⟨pa, pc, rfl⟩ := hp.form
  obtain ⟨qa, qc, rfl⟩ := hq.form
  obtain ⟨hbl, hm⟩ := hb
  go_enter Tryz.func103, Tryz.ntmps103
  go_wp2_with fail
  go_loopw [13] (fun i wr => ∃ k : Nat, k ≤ b.length ∧ i = .int .i64 k ∧ (b.take k).all (okEmpty ar) = true ∧ Bel (w.alloc (.cells #[v] 33)) wr) (fun i _ => b.length - (intOf i).toNat)
  case atStart => exact ⟨0, Nat.zero_le _, rfl, rfl, Bel.rfl' _⟩
  case round =>
    obtain ⟨k, hk, rfl, hall, hb2⟩ := hrel
    have hbox2 := boxc hb2 0 _ rfl
    by_cases hlt : k < b.length
    · obtain ⟨bb, off, p, rfl, -, hc, hp⟩ := hu.at hb2.of_alloc k hlt
      have hmk := hm k hlt
      have hsp := all_splitS b (okEmpty ar) k hlt hall
      have hfs := all_falseS b (okEmpty ar) k hlt
      clear hm hu hall
      generalize b.getD k [] = t at *
      obtain ⟨ap, cp, rfl⟩ := hp.form
      by_cases hpos : 0 < t.length
      · rw [okEmpty_pos hpos] at hsp hfs
        cases ht : okTerm ar t with
        | false =>
          have E : Hid (sizesOk ar b x y = false) := by show _ = _; unfold sizesOk; rw [hfs ht]; rfl
          have HT := Lib.hid ht
          clear ht hsp hfs
          go_wp2_with fail
          refine (l1Term_v _ _ _ _ _ _ _ _ _ _ HT.out hg (by omega) (hv.below hb2.of_alloc) hp).mono ?_; rintro e w2 ⟨rfl, hb3⟩
          go_wp2_with fail
          go_ret
          exact ⟨by rw [E.out]; rfl, hb2.of_alloc.step hb3⟩
        | true =>
          have HA := Lib.hid (hsp.trans ht)
          have HT := Lib.hid ht
          clear ht hsp hfs
          go_wp2_with fail
          refine (l1Term_v _ _ _ _ _ _ _ _ _ _ HT.out hg (by omega) (hv.below hb2.of_alloc) hp).mono ?_; rintro e w2 ⟨rfl, hb3⟩
          go_wp2_with fail
          go_roundw
          case rel => exact ⟨k+1, by omega, by go_num, HA.out, hb2.step hb3⟩
          case measure => simp [intOf]; omega
      · have HA := Lib.hid (hsp.trans (okEmpty_nil hpos))
        have h0 : t.length = 0 := by omega
        clear hsp hfs hp
        rw [h0] at hc
        clear h0 hpos
        go_wp2_with fail
        go_roundw
        case rel => exact ⟨k+1, by omega, by go_num, HA.out, hb2⟩
        case measure => simp [intOf]; omega
    · have EA := Lib.hid (all_doneS b _ k hk hlt hall)
      clear hall
      cases hox : okTerm ar x with
      | false =>
        have E : Hid (sizesOk ar b x y = false) := by show _ = _; unfold sizesOk; rw [EA.out, hox]; rfl
        have HO := Lib.hid hox
        clear hox
        go_wp2_with fail
        refine (l1Term_v _ _ _ _ _ _ _ _ _ _ HO.out hg (by omega) (hv.below hb2.of_alloc) (hp.below hb2.of_alloc)).mono ?_; rintro e w2 ⟨rfl, hb3⟩
        go_wp2_with fail
        go_ret
        exact ⟨by rw [E.out]; rfl, hb2.of_alloc.step hb3⟩
      | true =>
        cases hoy : okTerm ar y with
        | false =>
          have E : Hid (sizesOk ar b x y = false) := by show _ = _; unfold sizesOk; rw [EA.out, hox, hoy]; rfl
          have HO := Lib.hid (And.intro hox hoy)
          clear hox hoy
          go_wp2_with fail
          refine (l1Term_v _ _ _ _ _ _ _ _ _ _ HO.out.1 hg (by omega) (hv.below hb2.of_alloc) (hp.below hb2.of_alloc)).mono ?_; rintro e w2 ⟨rfl, hb3⟩
          have hb23 := hb2.step hb3
          have hbox3 := boxc hb23 0 _ rfl
          go_wp2_with fail
          refine (l1Term_v _ _ _ _ _ _ _ _ _ _ HO.out.2 hg (by omega) (hv.below hb23.of_alloc) (hq.below hb23.of_alloc)).mono ?_; rintro e w3 ⟨rfl, hb4⟩
          go_wp2_with fail
          go_ret
          exact ⟨by rw [E.out]; rfl, hb23.of_alloc.step hb4⟩
        | true =>
          have E : Hid (sizesOk ar b x y = true) := by show _ = _; unfold sizesOk; rw [EA.out, hox, hoy]; rfl
          have HO := Lib.hid (And.intro hox hoy)
          clear hox hoy
          go_wp2_with fail
          refine (l1Term_v _ _ _ _ _ _ _ _ _ _ HO.out.1 hg (by omega) (hv.below hb2.of_alloc) (hp.below hb2.of_alloc)).mono ?_; rintro e w2 ⟨rfl, hb3⟩
          have hb23 := hb2.step hb3
          have hbox3 := boxc hb23 0 _ rfl
          go_wp2_with fail
          refine (l1Term_v _ _ _ _ _ _ _ _ _ _ HO.out.2 hg (by omega) (hv.below hb23.of_alloc) (hq.below hb23.of_alloc)).mono ?_; rintro e w3 ⟨rfl, hb4⟩
          go_wp2_with fail
          go_ret
          exact ⟨by rw [E.out]; rfl, hb23.of_alloc.step hb4⟩
theorem l2Sizes_v (l h l' h' l1 h1 l2 h2 : Nat) (v u p q : Value) (ar : List Int) (b : List (List Int)) (x y : List Int) (z : Bool) (w : World) (he : sizesOk ar b x y = z) (hg : goodSign ar = true) (hv : SlI l h w v ar) (hb : short b) (hu : SlS l' h' w u b) (hxl : x.length ≤ 1600) (hp : SlI l1 h1 w p x) (hyl : y.length ≤ 1600) (hq : SlI l2 h2 w q y) :
    Calls Tryz.prog 103 #[.agg #[v], u, p, q] w (RetV w (.bool z)) := he ▸ l2Sizes_c l h l' h' l1 h1 l2 h2 v u p q ar b x y w hg hv hb hu hxl hp hyl hq

/-- The substitution of one term. -/
def oneF (v : Nat) (t : List Int) : Nat → List Int := upd (fun _ => []) v t
theorem oneF_get (v : Nat) (t : List Int) (hv : v < 12) (j : Nat) : (rawL (oneF v t)).getD j [] = if j = v then t else [] := by
  rw [rawL_getA (fun k hk => by unfold oneF; rw [upd_other _ _ (by omega)])]
  unfold oneF upd
  rfl
theorem oneF_app {v : Nat} {t : List Int} (hv : v < 12) (ht : 0 < t.length) (s : List Int) : appT (rawL (oneF v t)) s = putFor (-1 - (v : Int)) t s := by
  unfold appT putFor
  congr 1
  funext m
  by_cases hm : m < 0
  · by_cases e : m = -1 - (v : Int)
    · have e2 : (-1 - m).toNat = v := by omega
      rw [if_pos e, one1_var hm (by rw [oneF_get v t hv, e2, if_pos rfl]; exact ht), oneF_get v t hv, e2, if_pos rfl]
    · have e2 : (-1 - m).toNat ≠ v := by omega
      rw [if_neg e, one1_free (by rw [oneF_get v t hv, if_neg e2]; simp)]
  · rw [if_neg (by omega), one1_sym hm]
theorem oneF_lens {v : Nat} {t : List Int} (hv : v < 12) (ht : t.length ≤ 40) : lens40 (rawL (oneF v t)) := by
  intro j _
  rw [oneF_get v t hv]
  split <;> simp [ht]
theorem one_sls (w : World) (l h v : Nat) (x : Value) (t : List Int) (hv : v < 12) (hx : SlI l h w x t) (hp : 0 < t.length) :
    SlS 0 (w.heap.size + 1) ((w.alloc (.cells (madeCells #[.slice none 0 0] 12) 22)).setCell ⟨w.heap.size, v, none⟩ x) (.slice (some ⟨w.heap.size, 0, none⟩) 12 12) (rawL (oneF v t)) := by
  have hr := ((rep12 w).stored v x).1
  refine ⟨_, 12, by rw [rawL_len], by rw [rawL_len]; exact Nat.le_refl _, ⟨by unfold maxLen; omega, fun h => by simp at h⟩, fun _ => ⟨w.heap.size, 0, rfl, Nat.zero_le _, Nat.lt_succ_self _, fun j hj => ?_⟩⟩
  rw [rawL_len] at hj
  have hc := hr.cellAt j (by omega)
  rw [Nat.zero_add, hc, List.getElem?_set, oneF_get v t hv]
  by_cases e : v = j
  · subst e
    rw [if_pos rfl, if_pos rfl, if_pos (by simpa using hv)]
    refine ⟨x, rfl, ?_⟩
    exact (((hx.in').alloc _).set (p := ⟨w.heap.size, v, none⟩) (.inr (Nat.le_refl _)) x).mono (Nat.zero_le _) (Nat.le_succ _)
  · rw [if_neg e, if_neg (Ne.symm e), List.getElem?_replicate, if_pos (by simpa using hj)]
    exact ⟨_, rfl, SlI.nil _ _ _⟩

/-- The same with longer terms. -/
def lensW (b : List (List Int)) : Prop := ∀ j, j < b.length → (b.getD j []).length ≤ 1600
theorem getD_lenW {b : List (List Int)} (h : lensW b) (j : Nat) : (b.getD j []).length ≤ 1600 := by
  rcases Nat.lt_or_ge j b.length with h1 | h1
  · exact h j h1
  · simp [List.getD, List.getElem?_eq_none h1]
theorem one1_lenW {b : List (List Int)} (h : lensW b) (n : Int) : (one1 b n).length ≤ 1600 := by
  unfold one1
  split
  · exact getD_lenW h _
  · simp
theorem appT_lenW {b : List (List Int)} (h : lensW b) (t : List Int) : (appT b t).length ≤ 1600 * t.length := by
  unfold appT
  induction t with
  | nil => simp
  | cons n t ih =>
    have := one1_lenW h n
    rw [List.flatMap_cons, List.length_append, List.length_cons]
    omega
set_option maxRecDepth 100000 in
set_option maxHeartbeats 400000 in
theorem l2Apply_w (l h l' h' : Nat) (v u : Value) (b : List (List Int)) (t : List Int) (w : World) (hlen : b.length = 12) (hb : lensW b) (ht : t.length ≤ 40) (hlow : ∀ k, k < t.length → -12 ≤ t.getD k 0) (hu : SlS l' h' w u b) (hv : SlI l h w v t) :
    Calls Tryz.prog 70 #[u, v] w (RetI w (appT b t)) := by
  obtain ⟨i0, hi0, hz0, hz1, hz2⟩ := info_parts Tryz.info3
  obtain ⟨ad', cap', rfl⟩ := hu.form
  have HN := Lib.hid hlen; clear hlen
  obtain ⟨ad, cap, rfl, -, -, hr⟩ := hv
  go_enter Tryz.func70, Tryz.ntmps70
  go_wp2_with fail
  go_loopw [5, 10] (fun vs i wr => ∃ k : Nat, k ≤ t.length ∧ i = .int .i64 k ∧ wr.ownsRow w.heap.size 3 1 vs (appT b (t.take k)).length ((appT b (t.take k)).map (Value.int .i64)) ∧ Bel w wr) (fun _ i _ => t.length - (intOf i).toNat)
  case atStart => exact ⟨0, Nat.zero_le _, rfl, World.ownsRow_nil _ _ _ _, Bel.rfl' _⟩
  case round =>
    obtain ⟨k, hk, rfl, hown, hb2⟩ := hrel
    by_cases hlt : k < t.length
    · obtain ⟨bt, offt, rfl, hbl, hcell⟩ := rd hr hb2 k hlt
      have hx12 := hlow k hlt
      have hsucc := appT_succ b t k hlt
      have hal := appT_lenW hb (t.take k)
      have hal2 : (appT b (t.take k)).length ≤ 64000 := by simp at hal; omega
      have h40 := getD_lenW hb (-1 - t.getD k 0).toNat
      clear hr hlow hal
      generalize t.getD k 0 = x at *
      generalize appT b (t.take k) = acc at *
      generalize hq : appT b (t.take (k+1)) = nxt at *
      by_cases hx : x < 0
      · have hm : (-1 - x).toNat < b.length := by have hN : b.length = 12 := HN.out; omega
        have hi0' : 0 ≤ -1 - x := by omega
        have hi1 : -1 - x < b.length := by have hN : b.length = 12 := HN.out; omega
        obtain ⟨bb, off, p, rfl, -, hc, hp⟩ := hu.at hb2 _ hm
        have hv1 := fun h1 => one1_var (b := b) hx h1
        have hv2 := fun h1 => one1_free (b := b) (n := x) h1
        generalize b.getD (-1 - x).toNat [] = tt at *
        by_cases hpos : 0 < tt.length
        · rw [hv1 hpos] at hsucc
          obtain ⟨pb, po, pc, rfl, hpc⟩ := hp.plain hpos
          have hn := news_of_sl hp
          have HS := Lib.hid (And.intro hq hsucc)
          clear hv1 hv2 hq hsucc
          go_wp2_with (at_builtin; refine wpList_append_own _ rfl _ _ 22 rfl w.heap.size 3 i0 (.int .i64 0) 1 8 Tryz.underlying22 hi0 hz0 hz1 hz2 rfl (by decide) _ _ _ rfl hown ⟨pb, po, none⟩ tt.length pc (tt.map (Value.int .i64)) rfl (by simp) hn (ones_int _) (by unfold maxLen; first | omega | (simp; omega)) (by first | omega | (simp; omega)) (by have := hb2.size; first | omega | (simp; omega)) ?_; intro v' w1 hown' hgrow _)
          have hb3 := hb2.grown hgrow (fun k hk => own_base hown k hk)
          have hown2 := row_app (by simpa using hown')
          go_roundw
          case rel =>
            have e := HS.out.1.trans HS.out.2
            exact ⟨k+1, by omega, by go_num, by rw [HS.out.1, HS.out.2]; exact hown2, hb3⟩
          case measure => simp [intOf]; omega
        · rw [hv2 hpos] at hsucc
          have HS := Lib.hid (And.intro hq hsucc)
          have h0 : tt.length = 0 := by omega
          obtain ⟨ap, cp, rfl⟩ := hp.form
          rw [h0] at hc
          clear hv1 hv2 hp hpos h0 hq hsucc
          go_wp2_with (at_builtin; refine wpList_append_own _ rfl _ _ 22 rfl w.heap.size 3 i0 (.int .i64 0) 1 8 Tryz.underlying22 hi0 hz0 hz1 hz2 rfl (by decide) _ _ _ rfl (hown.alloc _) ⟨wr.heap.size, 0, none⟩ 1 1 [.int .i64 x] rfl rfl (news_one _ _ _) (one_int _) (by unfold maxLen; first | omega | (simp; omega)) (by first | omega | (simp; omega)) (by have := hb2.size; first | omega | (simp; omega)) ?_; intro v' w1 hown' hgrow _; have hb3 := (hb2.alloc (.cells #[.int .i64 x] 3)).grown hgrow (fun k hk => own_base hown k hk); have hown2 := row_snoc hown')
          go_roundw
          case rel => exact ⟨k+1, by omega, by go_num, by rw [HS.out.1, HS.out.2]; exact hown2, hb3⟩
          case measure => simp [intOf]; omega
      · rw [one1_sym hx] at hsucc
        have HS := Lib.hid (And.intro hq hsucc)
        clear hq hsucc
        go_wp2_with (at_builtin; refine wpList_append_own _ rfl _ _ 22 rfl w.heap.size 3 i0 (.int .i64 0) 1 8 Tryz.underlying22 hi0 hz0 hz1 hz2 rfl (by decide) _ _ _ rfl (hown.alloc _) ⟨wr.heap.size, 0, none⟩ 1 1 [.int .i64 x] rfl rfl (news_one _ _ _) (one_int _) (by unfold maxLen; first | omega | (simp; omega)) (by first | omega | (simp; omega)) (by have := hb2.size; first | omega | (simp; omega)) ?_; intro v' w1 hown' hgrow _; have hb3 := (hb2.alloc (.cells #[.int .i64 x] 3)).grown hgrow (fun k hk => own_base hown k hk); have hown2 := row_snoc hown')
        go_roundw
        case rel => exact ⟨k+1, by omega, by go_num, by rw [HS.out.1, HS.out.2]; exact hown2, hb3⟩
        case measure => simp [intOf]; omega
    · have e : t.take k = t := List.take_of_length_le (by omega)
      rw [e] at hown
      go_wp2_with fail
      obtain ⟨g, n, c, hv'⟩ := own_form hown
      subst hv'
      go_ret
      exact ⟨_, _, _, rfl, OwnI.of_row hown, hb2⟩


theorem rawL_congr {F G : Nat → List Int} (h : ∀ v, v < 12 → F v = G v) : rawL F = rawL G := by
  unfold rawL
  apply List.map_congr_left
  intro v hv
  rw [List.mem_range] at hv
  exact h v hv
def RetOS (w : World) (F : Nat → List Int) (e : Ending) (w' : World) : Prop := ∃ g, e = .returned (.slice (some ⟨g, 0, none⟩) 12 12) ∧ OwnS w.heap.size w'.heap.size w' (.slice (some ⟨g, 0, none⟩) 12 12) (rawL F) ∧ Bel w w'
/-- What is laid up to index j. -/
def laidF (P : Nat → List Int) (j : Nat) : Nat → List Int := fun v => if v < j then P v else []
theorem laidF_zero (P : Nat → List Int) : laidF P 0 = fun _ => [] := by funext v; simp [laidF]
theorem laidF_succ (P : Nat → List Int) (j : Nat) : upd (laidF P j) j (P j) = laidF P (j+1) := by
  funext v
  unfold upd laidF
  by_cases e : v = j
  · subst e; simp
  · by_cases h : v < j
    · rw [if_neg e, if_pos h, if_pos (by omega)]
    · rw [if_neg e, if_neg h, if_neg (by omega)]
theorem laidF_none (P : Nat → List Int) (j : Nat) (h : P j = []) : laidF P j = laidF P (j+1) := by
  rw [← laidF_succ, h]
  funext v
  unfold upd
  split
  · rename_i e; subst e; simp [laidF]
  · rfl
end Go.Proofs.YteegjnobmbcjiaaGreatDoor
end
section
/- The least number of a loop's relation, as its measure. -/
namespace Go.Proofs.YteegjnobmbcjiaaGreatDoor

theorem least_ex (P : Nat → Prop) : ∀ k, P k → ∃ j, P j ∧ ∀ i, P i → j ≤ i := by
  intro k
  induction k using Nat.strongRecOn with
  | ind k ih =>
    intro h
    rcases Classical.em (∃ i, i < k ∧ P i) with ⟨i, hi, hp⟩ | hn
    · exact ih i hi hp
    · refine ⟨k, h, fun i hp => ?_⟩
      rcases Nat.lt_or_ge i k with h1 | h1
      · exact absurd ⟨i, h1, hp⟩ hn
      · exact h1
noncomputable def leastOf (P : Nat → Prop) : Nat := by
  classical exact if h : ∃ k, P k then Classical.choose (least_ex P h.choose h.choose_spec) else 0
theorem leastOf_spec {P : Nat → Prop} (h : ∃ k, P k) : P (leastOf P) ∧ ∀ i, P i → leastOf P ≤ i := by
  unfold leastOf
  rw [dif_pos h]
  exact Classical.choose_spec (least_ex P h.choose h.choose_spec)
theorem least_at {P : Nat → Prop} (h : ∃ k, P k) : ∃ k, P k ∧ leastOf P = k := ⟨_, (leastOf_spec h).1, rfl⟩
theorem least_lt {P Q : Nat → Prop} {j k : Nat} (hq : Q j) (hj : j < k) (hk : leastOf P = k) : leastOf Q < leastOf P := by
  have := (leastOf_spec ⟨j, hq⟩).2 j hq
  omega
end Go.Proofs.YteegjnobmbcjiaaGreatDoor
end
section
/- Unify: the reference's, one more term found. -/
namespace Go.Proofs.YteegjnobmbcjiaaGreatDoor
open Go.RowKit Go.Maps

set_option maxRecDepth 100000 in
set_option maxHeartbeats 1000000 in
theorem l2Bind_c (l h l2 h2 : Nat) (p q : Value) (F : Nat → List Int) (v : Nat) (u : List Int) (w : World) (hv : v < 12) (hp : SlS l h w p (rawL F)) (hF40 : ∀ v, (F v).length ≤ 40) (hlow : ∀ v i, i < (F v).length → -12 ≤ (F v).getD i 0) (hu40 : u.length ≤ 40) (hup : 0 < u.length) (hq : SlI l2 h2 w q u) :
    Calls Tryz.prog 106 #[p, .int .i64 v, q] w (RetOS w (nextF (-1 - (v : Int)) u F)) := by
  have hrl := rawL_len F
  obtain ⟨pa, pc, rfl⟩ := hp.form
  obtain ⟨qa, qc, rfl⟩ := hq.form
  have hmk := made12
  have hr1 := rep12 w
  have hc1 := hr1.cellAt v hv
  rw [List.getElem?_replicate, if_pos hv] at hc1
  have hf1 := hr1.frozenAt v
  have hone := one_sls w _ _ v _ u hv hq hup
  have hv64 : (v : Int) < 12 := by omega
  have hB1 : Bel w ((w.alloc (.cells (madeCells #[.slice none 0 0] 12) 22)).setCell ⟨w.heap.size, v, none⟩ (.slice qa u.length qc)) := (Bel.alloc0 w _).setCell (p := ⟨w.heap.size, v, none⟩) (Nat.le_refl _) _
  have hs1 : ((w.alloc (.cells (madeCells #[.slice none 0 0] 12) 22)).setCell ⟨w.heap.size, v, none⟩ (.slice qa u.length qc)).heap.size = w.heap.size + 1 := by simp
  clear hr1
  go_enter Tryz.func106, Tryz.ntmps106
  go_wp2_with fail
  rw [World.setCell_alloc_new] at hone hB1 hs1
  generalize hW : (w.alloc (.cells ((madeCells #[.slice none 0 0] 12).setIfInBounds v (.slice qa u.length qc)) 22)) = w2 at *
  have HW := Lib.hid hW
  clear hW hc1 hf1
  have hA0 : Arr w.heap.size (w.heap.size + 1) (fun _ => 2) (w2.alloc (.cells (madeCells #[.slice none 0 0] 12) 22)) (List.replicate 12 (Value.slice none 0 0)) (laidF (fun g => putFor (-1 - (v : Int)) u (F g)) 0) := by
    rw [laidF_zero]
    exact arr12 (by omega) hs1.symm (Bel.rfl' _)
  have hps := hp.below hB1
  have hqs := hq.below hB1
  have HP : Hid (∀ g, putFor (-1 - (v : Int)) u (F g) = (fun g => putFor (-1 - (v : Int)) u (F g)) g) := fun g => rfl
  generalize hP : (fun g => putFor (-1 - (v : Int)) u (F g)) = P at *
  go_loopw [18] (fun i wr => ∃ (j : Nat) (tag : Nat → Nat) (us : List Value), j ≤ 12 ∧ i = .int .i64 j ∧ Arr w.heap.size (w.heap.size + 1) tag wr us (laidF P j) ∧ Bel w2 wr) (fun i _ => 12 - (intOf i).toNat)
  case atStart => exact ⟨0, _, _, Nat.zero_le _, rfl, hA0, Bel.alloc0 _ _⟩
  case round =>
    clear hA0
    obtain ⟨j, tag, us, hj, rfl, hA, hb⟩ := hrel
    have hszr := hb.size
    by_cases hlt : j < 12
    · obtain ⟨bb, off, pj, rfl, -, hc, hpj⟩ := hps.at hb j (by omega)
      rw [rawL_get F j hlt] at hpj
      have hFl := hF40 j
      have hFlow := hlow j
      have hPj := HP.out j
      have hlt64 : (j : Int) < 12 := by omega
      obtain ⟨ap, cp, rfl⟩ := hpj.form
      by_cases hpos : 0 < (F j).length
      · have happ := oneF_app (v := v) (t := u) hv hup (F j)
        rw [hPj] at happ
        have hsucc := laidF_succ P j
        have HF := Lib.hid (And.intro happ (And.intro hsucc hA))
        clear happ hsucc hA
        go_wp2_with fail
        refine (l2Apply_r _ _ _ _ _ _ (rawL (oneF v u)) (F j) _ (rawL_len _) (oneF_lens hv hu40) (by omega) hFlow (hone.below hb) hpj).mono ?_; rintro e w4 ⟨ao, no, co, rfl, hX0, hb4⟩
        rw [HF.out.1] at hX0
        have hno : no = (P j).length := row_len hX0
        subst hno
        obtain ⟨tag1, hX, hT1⟩ := tag_new (tag := tag) (base := w.heap.size) (t := 10 + j) (xs := (P j).map (Value.int .i64)) (by simpa using hX0) hb4 (by omega)
        have hA4 := HF.out.2.2.all hT1
        obtain ⟨au, cu, hcu, -, hfu, hUr⟩ := hA4.cell j hlt
        go_wp2_with fail
        have hstp := hA4.set j hlt (fun _ _ _ _ h => h) hX
        rw [HF.out.2.1] at hstp
        refine ⟨?_, ?measure⟩
        iterate 90 (try apply Exists.intro)
        refine ⟨?rel, rfl⟩
        case rel => exact ⟨j+1, tag1, _, by omega, by go_num, hstp, (hb.step hb4).setCell (p := ⟨w.heap.size + 1, j, none⟩) (by simp; omega) _⟩
        case measure => simp [intOf]; omega
      · have h0 : (F j).length = 0 := by omega
        rw [h0] at hc
        have hPn : P j = [] := by rw [← hPj, len0 hpos]; rfl
        have hsucc := laidF_none P j hPn
        rw [hsucc] at hA
        clear hpj
        go_wp2_with fail
        go_roundw
        case rel => exact ⟨j+1, tag, us, by omega, by go_num, hA, hb⟩
        case measure => simp [intOf]; omega
    · obtain rfl : j = 12 := by omega
      have hend : rawL (upd (laidF P 12) v u) = rawL (nextF (-1 - (v : Int)) u F) := by
        apply rawL_congr
        intro g hg
        unfold nextF upd laidF
        rw [show (-1 - (-1 - (v : Int))).toNat = v by omega, ← hP]
        split
        · rfl
        · first | rfl | (rw [if_pos hg])
      have HF := Lib.hid (And.intro hend hA)
      clear hend hA
      go_wp2_with fail
      refine (l1Own_r _ _ _ u _ (by omega) (hqs.below hb)).mono ?_; rintro e w4 ⟨ao, no, co, rfl, hX0, hb4⟩
      have hno : no = u.length := row_len hX0
      subst hno
      obtain ⟨tag1, hX, hT1⟩ := tag_new (tag := tag) (base := w.heap.size) (t := 10 + v) (xs := u.map (Value.int .i64)) (by simpa using hX0) hb4 (by omega)
      have hA4 := HF.out.2.all hT1
      obtain ⟨au, cu, hcu, -, hfu, hUr⟩ := hA4.cell v hv
      go_wp2_with fail
      have hstp := hA4.set v hv (fun _ _ _ _ h => h) hX
      have hO := hstp.2.1
      have hI := hstp.2.2
      rw [HF.out.1] at hI
      go_ret
      exact ⟨_, rfl, OwnS.of_tag hO hI (by omega), (hB1.step (hb.step hb4)).setCell (p := ⟨w.heap.size + 1, v, none⟩) (by simp) _⟩
end Go.Proofs.YteegjnobmbcjiaaGreatDoor
end
section
/- Unify: the reference's. -/
namespace Go.Proofs.YteegjnobmbcjiaaGreatDoor
open Go.RowKit Go.Maps

def SRel (ar a b : List Int) (R : Option (Nat → List Int)) (base : Nat) (w0 : World) (k : Nat) (fv p q : Value) (wr : World) : Prop :=
  ∃ (xs ys : List Int) (F : Nat → List Int) (g : Nat), fv = .slice (some ⟨g, 0, none⟩) 12 12 ∧ OwnS base wr.heap.size wr fv (rawL F) ∧ (∃ lo hi, SlI lo hi wr p xs) ∧ (∃ lo hi, SlI lo hi wr q ys) ∧ Bel w0 wr ∧ xs.length ≤ 1600 ∧ ys.length ≤ 1600 ∧ (∀ v, (F v).length ≤ 1600) ∧
    ((k + cnt F 12 = 13 ∧ UInv ar a b xs ys F ∧ R = uniGo ar k xs ys F) ∨ (k = 0 ∧ R = none ∧ sizesOk ar (rawL F) xs ys = false))
theorem short_raw {F : Nat → List Int} (h : ∀ v, (F v).length ≤ 1600) : short (rawL F) := by
  refine ⟨by rw [rawL_len]; omega, fun j hj => ?_⟩
  rw [rawL_len] at hj
  rw [rawL_get F j hj]
  have := h j
  omega
theorem lensW_raw {F : Nat → List Int} (h : ∀ v, (F v).length ≤ 1600) : lensW (rawL F) := by
  intro j hj
  rw [rawL_len] at hj
  rw [rawL_get F j hj]
  exact h j
theorem UInv.okF {ar a0 b0 x y : List Int} {F : Nat → List Int} (h : UInv ar a0 b0 x y F) (v : Nat) (hv : F v ≠ []) : okTerm ar (F v) = true := okTerm_seq.2 ⟨h.len40 v, h.seq v hv⟩
theorem UInv.sizes {ar a0 b0 x y : List Int} {F : Nat → List Int} (h : UInv ar a0 b0 x y F) : sizesOk ar (rawL F) x y = true := by
  unfold sizesOk
  rw [h.okx, h.oky, Bool.and_true, Bool.and_true, List.all_eq_true]
  intro t ht
  unfold rawL at ht
  obtain ⟨v, -, rfl⟩ := List.mem_map.1 ht
  unfold okEmpty
  by_cases e : F v = []
  · rw [e]; rfl
  · rw [h.okF v e, Bool.or_true]
theorem UInv.lowF {ar a0 b0 x y : List Int} {F : Nat → List Int} (h : UInv ar a0 b0 x y F) (v i : Nat) (hi : i < (F v).length) : -12 ≤ (F v).getD i 0 := by
  by_cases e : F v = []
  · rw [e] at hi; simp at hi
  · exact okTerm_low (h.okF v e) i hi
theorem sym_rng {ar t : List Int} (hg : goodSign ar = true) (h : okTerm ar t = true) {i : Nat} (hi : i < t.length) : -12 ≤ t.getD i 0 ∧ t.getD i 0 ≤ 10 := by
  have h1 := good_sym ar t h i hi
  have h2 := sign_len ar hg
  have h3 := okTerm_low h i hi
  generalize t.getD i 0 = z at *
  unfold okSym inB at h1
  simp at h1
  omega
def ansR : Option (Nat → List Int) → List (List Int)
  | none => []
  | some F => substL F
theorem srel_next {ar a b xs ys : List Int} {R : Option (Nat → List Int)} {base k : Nat} {w0 wr : World} {F : Nat → List Int} {fv p q : Value} (hU : UInv ar a b xs ys F) (hne : xs ≠ ys) (hbad : ¬ badU ar xs ys) (hcnt : k + 1 + cnt F 12 = 13) (hRk : R = uniGo ar (k+1) xs ys F)
    (hf : ∃ g, fv = .slice (some ⟨g, 0, none⟩) 12 12) (hO : OwnS base wr.heap.size wr fv (rawL (nextF (lowN xs ys) (putU ar xs ys) F))) (hp : ∃ lo hi, SlI lo hi wr p (appT (rawL (nextF (lowN xs ys) (putU ar xs ys) F)) a)) (hq : ∃ lo hi, SlI lo hi wr q (appT (rawL (nextF (lowN xs ys) (putU ar xs ys) F)) b)) (hb : Bel w0 wr) :
    ∃ j, j < k + 1 ∧ SRel ar a b R base w0 j fv p q wr := by
  have hok := uok hU hne hbad
  obtain ⟨g, rfl⟩ := hf
  rw [← hok.ax] at hp
  rw [← hok.ay] at hq
  by_cases hl : longU ar xs ys
  · refine ⟨0, Nat.succ_pos _, _, _, _, g, rfl, hO, hp, hq, hb, hok.lx, hok.ly, hok.lF, .inr ⟨rfl, by rw [hRk, ug_long hne hbad hl], ?_⟩⟩
    unfold sizesOk
    unfold longU at hl
    rcases hl with h | h
    · rw [okTerm_long h, Bool.and_false, Bool.false_and]
    · rw [okTerm_long h, Bool.and_false]
  · exact ⟨k, Nat.lt_succ_self _, _, _, _, g, rfl, hO, hp, hq, hb, hok.lx, hok.ly, hok.lF, .inl ⟨by have := hok.more; omega, hok.next hl, by rw [hRk, ug_next hne hbad hl]⟩⟩

set_option maxRecDepth 100000 in
set_option maxHeartbeats 1000000 in
theorem l2Unify_c (l h l1 h1 l2 h2 : Nat) (v x y : Value) (ar a b : List Int) (w : World) (hg : goodSign ar = true) (hoa : okTerm ar a = true) (hob : okTerm ar b = true) (hv : SlI l h w v ar) (hx : SlI l1 h1 w x a) (hy : SlI l2 h2 w y b) :
    Calls Tryz.prog 68 #[.agg #[v], x, y] w (RetSSB w (ansR (uniR ar a b)) (uniR ar a b).isSome) := by
  have hU0 := UInv.start hoa hob
  have ha40 := (okTerm_seq.1 hoa).1
  have hb40 := (okTerm_seq.1 hob).1
  have hlowa := okTerm_low hoa
  have hlowb := okTerm_low hob
  have hR0 : uniR ar a b = uniGo ar 13 a b (fun _ => []) := rfl
  generalize hR : uniR ar a b = R at *
  clear hR
  have hmk := made12
  go_enter Tryz.func68, Tryz.ntmps68
  go_wp2_with fail
  refine (l1Own_r _ _ _ a _ (by omega) ((hx.alloc (.cells #[v] 33)).alloc _)).mono ?_; rintro e w1 ⟨ax, nx, cx, rfl, hX, hb1⟩
  go_wp2_with fail
  refine (l1Own_r _ _ _ b _ (by omega) (((hy.alloc (.cells #[v] 33)).alloc _).below hb1)).mono ?_; rintro e w2 ⟨ay, ny, cy, rfl, hY, hb2⟩
  have hnx := row_len hX
  have hny := row_len hY
  subst hnx hny
  have hb12 := hb1.step hb2
  have hB0 : Bel (w.alloc (.cells #[v] 33)) w2 := (Bel.alloc0 (w.alloc (.cells #[v] 33)) (.cells (madeCells #[.slice none 0 0] 12) 22)).step hb12
  have hA0 := arr12 (w := w.alloc (.cells #[v] 33)) (base := w.heap.size) (B := w.heap.size + 1) (by simp) (by simp) hb12
  have hS0 : OwnS w.heap.size w2.heap.size w2 (.slice (some ⟨w.heap.size + 1, 0, none⟩) 12 12) (rawL fun _ => []) := OwnS.of_tag hA0.2.1 hA0.2.2 (by omega)
  have hX0 := (OwnI.of_row hX).sl.below hb2
  have hY0 := (OwnI.of_row hY).sl
  clear hA0 hX hY hb1 hb2 hb12
  go_wp2_with fail
  go_loopw [8, 9, 10] (fun fv p q wr => ∃ k, SRel ar a b R w.heap.size (w.alloc (.cells #[v] 33)) k fv p q wr) (fun fv p q wr => leastOf fun k => SRel ar a b R w.heap.size (w.alloc (.cells #[v] 33)) k fv p q wr)
  case atStart => exact ⟨13, a, b, _, _, rfl, hS0, ⟨_, _, hX0⟩, ⟨_, _, hY0⟩, hB0, by omega, by omega, fun _ => by simp, .inl ⟨by simp [cnt], hU0, hR0⟩⟩
  case round =>
    clear hS0 hX0 hY0 hB0 hU0 hR0
    obtain ⟨k, hSR, hleast⟩ := least_at hrel
    have HL := Lib.hid hleast
    clear hleast hrel
    obtain ⟨xs, ys, F, g, rfl, hO, ⟨lx, hx3, hxs⟩, ⟨ly, hy3, hys⟩, hb, hxl, hyl, hFl, hcase⟩ := hSR
    have hbox := boxc hb 0 _ rfl
    obtain ⟨xa, xc, rfl⟩ := hxs.form
    obtain ⟨ya, yc, rfl⟩ := hys.form
    have hshort := short_raw hFl
    rcases hcase with ⟨hcnt, hU, hRk⟩ | ⟨rfl, rfl, hso⟩
    · have hso := hU.sizes
      have hc12 := cnt_le F 12
      obtain ⟨k, rfl⟩ : ∃ k', k = k' + 1 := ⟨k - 1, by omega⟩
      go_wp2_with fail
      refine (l2Sizes_v _ _ _ _ _ _ _ _ v _ _ _ ar (rawL F) xs ys true _ hso hg (hv.below hb.of_alloc) hshort hO.sl hxl hxs hyl hys).mono ?_; rintro e w3 ⟨rfl, hb3⟩
      have hbw3 := hb.step hb3
      have hbf := dif_before xs ys
      go_wp2_with fail
      go_loopw [11] (fun i wi => ∃ j : Nat, j ≤ dif xs ys ∧ i = .int .i64 j ∧ Bel wr wi) (fun i _ => dif xs ys - (intOf i).toNat)
      case atStart => exact ⟨0, Nat.zero_le _, rfl, hb3⟩
      case round =>
        clear hb3 hbw3 hbox
        obtain ⟨j, hj, rfl, hbi⟩ := hrel
        have hbw := hb.step hbi
        have hbox := boxc hbw 0 _ rfl
        have hxw := hxs.below hbi
        have hyw := hys.below hbi
        by_cases hlt : j < dif xs ys
        · obtain ⟨hjx, hjy, hje⟩ := hbf j hlt
          obtain ⟨b1, o1, rfl, -, hc1⟩ := hxw.at j hjx
          obtain ⟨b2, o2, rfl, -, hc2⟩ := hyw.at j hjy
          rw [← hje] at hc2
          have hjx2 : (j : Int) < xs.length := by omega
          have hjy2 : (j : Int) < ys.length := by omega
          have hd1 : decide ((j : Int) < xs.length) = true := by simpa using hjx2
          have hd2 : decide ((j : Int) < ys.length) = true := by simpa using hjy2
          have hw49 := IntWalk.i64_in ((j : Int) + 1) (by omega)
          clear hbf hje hU hO hso
          generalize xs.getD j 0 = m at *
          go_wp2_with fail
          go_quiet (fail)
          go_wp2_with fail
          go_roundw
          case rel => exact ⟨j+1, by omega, by go_num, hbi.drewN _⟩
          case measure => simp [intOf]; omega
        · obtain rfl : j = dif xs ys := by omega
          clear hbf
          by_cases hEq : xs = ys
          · subst hEq
            rw [ug_same rfl] at hRk
            subst hRk
            have hraw := hU.raw
            rw [hraw] at hO
            rw [dif_same] at *
            have hd1 : decide ((xs.length : Int) < xs.length) = false := by simp
            clear hU hso
            go_wp2_with fail
            go_quiet (fail)
            go_wp2_with fail
            go_ret2
            exact ⟨_, _, _, rfl, (hO.below (hbi.drewN _)).mono (Nat.le_refl _) (hbi.drewN _).size, (hbw.drewN _).of_alloc⟩
          · obtain ⟨e0, hRo⟩ := uround hU hEq
            have hx40 := (okTerm_seq.1 hU.okx).1
            have hy40 := (okTerm_seq.1 hU.oky).1
            have hoy := hU.oky
            obtain ⟨ey, hey, hdy, heyl⟩ := good_end ar ys hU.oky _ hRo.dy
            have hdx := hRo.dx
            have hdy1 := hRo.dy
            have hne := hRo.ne
            have hen := hRo.en
            have hde := hRo.de
            have heo := hRo.eo
            have hpu := hRo.pu
            have hlo := hRo.low
            have hnr := sym_rng hg hU.okx hRo.dx
            have hmr := sym_rng hg hU.oky hRo.dy
            have hlow : lowN xs ys = if ys.getD (dif xs ys) 0 < xs.getD (dif xs ys) 0 then ys.getD (dif xs ys) 0 else xs.getD (dif xs ys) 0 := rfl
            have hoth : other xs ys = if ys.getD (dif xs ys) 0 < xs.getD (dif xs ys) 0 then xs else ys := rfl
            have hbd : badU ar xs ys ↔ (0 ≤ lowN xs ys ∨ lowN xs ys ∈ putU ar xs ys) := Iff.rfl
            have hub : ¬ badU ar xs ys → (lowN xs ys < 0 ∧ lowN xs ys ∉ putU ar xs ys ∧ (putU ar xs ys).length ≤ 40 ∧ 0 < (putU ar xs ys).length ∧ ∀ v, (nextF (lowN xs ys) (putU ar xs ys) F v).length ≤ 1600) := fun h => have hok := uok hU hEq h; ⟨hok.neg, hok.not, hok.u40, hok.up, hok.lF⟩
            have HN := Lib.hid (fun (fv p q : Value) (wz : World) (hbad : ¬ badU ar xs ys) => srel_next (base := w.heap.size) (w0 := w.alloc (.cells #[v] 33)) (wr := wz) (fv := fv) (p := p) (q := q) hU hEq hbad (by omega) hRk)
            have HBd := Lib.hid (fun (hbad : badU ar xs ys) => show R = none by rw [hRk, ug_bad hEq hbad])
            have hF40 := hU.len40
            have hFlow := hU.lowF
            have hpl : (partOf ys (dif xs ys) ey).length ≤ 40 := by rw [partOf_len _ _ _ heyl]; omega
            have HBi := Lib.hid (fun (fv : Value) (lo hi : Nat) (wz : World) (n : Nat) (u : List Int) (q : Value) (lq hq : Nat) (hn : n < 12) (hfv : SlS lo hi wz fv (rawL F)) (hu40 : u.length ≤ 40) (hup : 0 < u.length) (hqv : SlI lq hq wz q u) => l2Bind_c lo hi lq hq fv q F n u wz hn hfv hF40 hFlow hu40 hup hqv)
            clear hU hRk hRo hF40 hFlow hso
            generalize lowN xs ys = n0 at *
            generalize other xs ys = oo at *
            generalize putU ar xs ys = u at *
            generalize badU ar xs ys = bad at *
            obtain ⟨b1, o1, rfl, -, hc1⟩ := hxw.at _ hdx
            obtain ⟨b2, o2, rfl, -, hc2⟩ := hyw.at _ hdy1
            generalize dif xs ys = d at *
            have hjx2 : (d : Int) < xs.length := by omega
            have hjy2 : (d : Int) < ys.length := by omega
            have hd1 : decide ((d : Int) < xs.length) = true := by simpa using hjx2
            have hd2 : decide ((d : Int) < ys.length) = true := by simpa using hjy2
            have hd3 : ((d : Int) == xs.length) = false := by rw [beq_eq_false_iff_ne]; omega
            generalize xs.getD d 0 = n at *
            generalize ys.getD d 0 = m at *
            have hnm : (n == m) = false := by simpa using hne
            by_cases hn : 0 ≤ n
            · have hdn : decide (0 ≤ n) = true := by simpa using hn
              by_cases hm : 0 ≤ m
              · have hdm : decide (0 ≤ m) = true := by simpa using hm
                have hbad : bad := hbd.2 (.inl (by rw [hlow]; split <;> assumption))
                have hRn := HBd.out hbad
                subst hRn
                go_wp2_with fail
                go_quiet (fail)
                go_wp2_with fail
                go_quiet (fail)
                go_wp2_with fail
                go_ret2
                exact ⟨_, _, _, rfl, OwnS.nil _ _ _, (hbw.drewN _).of_alloc⟩
              · have hdm : decide (0 ≤ m) = false := by simpa using hm
                have hdm2 : decide (m < 0) = true := by simp; omega
                rw [if_pos (by omega)] at hlow hoth
                subst hlow hoth
                have hvn : ((-1 - n0).toNat : Int) = -1 - n0 := by omega
                have hvv : -1 - (-1 - n0) = n0 := by omega
                have hv12 : (-1 - n0).toNat < 12 := by omega
                have hpl2 : (partOf oo d e0).length ≤ 40 := by rw [partOf_len _ _ _ heo]; omega
                have hwa := IntWalk.i64_in (-1 - n) (by omega)
                have hwb := IntWalk.i64_in (-1 - n0) (by omega)
                have hwc := IntWalk.i64_in (-1 - (-1 - n0)) (by omega)
                subst hpu
                have HX := Lib.hid (And.intro hey hen)
                clear hey hen
                go_wp2_with fail
                go_quiet (fail)
                go_wp2_with fail
                go_quiet (fail)
                go_wp2_with fail
                refine (l1Part_r _ _ _ _ v _ ar ys d ey _ hg (by omega) hdy1 HX.out.1 hdy heyl (hv.below (hbw.drewN _).of_alloc) (hys.below (hbi.drewN _))).mono ?_; rintro e w4 ⟨a4, n4, c4, rfl, hP4, hb4⟩
                have hb04 := (hbw.drewN _).step hb4
                have hbox4 := boxc hb04 0 _ rfl
                clear hP4
                go_wp2_with fail
                refine (l1Part_r _ _ _ _ v _ ar oo d e0 _ hg (by omega) hdx HX.out.2 hde heo (hv.below hb04.of_alloc) (hxs.below ((hbi.drewN _).step hb4))).mono ?_; rintro e w5 ⟨a5, n5, c5, rfl, hP5, hb5⟩
                have hb05 := hb04.step hb5
                have hbi5 := ((hbi.drewN _).step hb4).step hb5
                have hn5 := row_len hP5
                subst hn5
                have hu5 := (OwnI.of_row hP5).sl
                by_cases hmu : n0 ∈ partOf oo d e0
                · have hRn := HBd.out (hbd.2 (.inr hmu))
                  subst hRn
                  have hdm3 : decide (n0 ∈ partOf oo d e0) = true := by simpa using hmu
                  go_wp2_with fail
                  refine (l1Has_v _ _ _ (partOf oo d e0) _ true _ hdm3 (by omega) hu5).mono ?_; rintro e w6 ⟨rfl, hb6⟩
                  go_wp2_with fail
                  go_ret2
                  exact ⟨_, _, _, rfl, OwnS.nil _ _ _, (hb05.step hb6).of_alloc⟩
                · have hnb : ¬ bad := fun h => by
                    rcases hbd.1 h with h1 | h1
                    · omega
                    · exact hmu h1
                  obtain ⟨-, -, hu40, hup, hlF⟩ := hub hnb
                  have hdm3 : decide (n0 ∈ partOf oo d e0) = false := by simpa using hmu
                  have HNN := Lib.hid (fun (fv p q : Value) (wz : World) => HN.out fv p q wz hnb)
                  clear hub hbd hmu HN HBd
                  go_wp2_with fail
                  refine (l1Has_v _ _ _ (partOf oo d e0) _ false _ hdm3 (by omega) hu5).mono ?_; rintro e w6 ⟨rfl, hb6⟩
                  have hbi6 := hbi5.step hb6
                  have hb06 := hb05.step hb6
                  have hBind := HBi.out _ _ _ w6 (-1 - n0).toNat (partOf oo d e0) _ _ _ hv12 (hO.sl.below hbi6) hu40 hup (hu5.below hb6)
                  rw [hvn, hvv] at hBind
                  go_wp2_with fail
                  refine hBind.mono ?_; rintro e w7 ⟨g7, rfl, hO7, hb7⟩
                  have hb07 := hb06.step hb7
                  go_wp2_with fail
                  refine (l2Apply_w _ _ _ _ _ _ (rawL (nextF n0 (partOf oo d e0) F)) a _ (rawL_len _) (lensW_raw hlF) ha40 hlowa hO7.sl (hx.below hb07.of_alloc)).mono ?_; rintro e w8 ⟨a8, n8, c8, rfl, hX8, hb8⟩
                  go_wp2_with fail
                  refine (l2Apply_w _ _ _ _ _ _ (rawL (nextF n0 (partOf oo d e0) F)) b _ (rawL_len _) (lensW_raw hlF) hb40 hlowb (hO7.sl.below hb8) (hy.below (hb07.step hb8).of_alloc)).mono ?_; rintro e w9 ⟨a9, n9, c9, rfl, hX9, hb9⟩
                  have hb09 := (hb07.step hb8).step hb9
                  have hzz := hb06.size
                  simp only [World.size_alloc] at hzz
                  obtain ⟨jn, hjn, hSn⟩ := HNN.out (.slice (some ⟨g7, 0, none⟩) 12 12) (.slice a8 n8 c8) (.slice a9 n9 c9) w9 ⟨g7, rfl⟩ ((hO7.below (hb8.step hb9)).mono (by omega) (hb8.step hb9).size) ⟨_, _, hX8.sl.below hb9⟩ ⟨_, _, hX9.sl⟩ hb09
                  go_wp2_with fail
                  exact ⟨⟨jn, hSn⟩, least_lt hSn hjn HL.out⟩
            · have hdn : decide (0 ≤ n) = false := by simpa using hn
              by_cases hm : 0 ≤ m
              · have hdm : decide (0 ≤ m) = true := by simpa using hm
                have hdm2 : decide (m < 0) = false := by simp; omega
                rw [if_neg (by omega)] at hlow hoth
                subst hlow hoth
                have hvn : ((-1 - n0).toNat : Int) = -1 - n0 := by omega
                have hvv : -1 - (-1 - n0) = n0 := by omega
                have hv12 : (-1 - n0).toNat < 12 := by omega
                have hpl2 : (partOf oo d e0).length ≤ 40 := by rw [partOf_len _ _ _ heo]; omega
                have hwb := IntWalk.i64_in (-1 - n0) (by omega)
                have hwc := IntWalk.i64_in (-1 - (-1 - n0)) (by omega)
                subst hpu
                have HX := Lib.hid (And.intro hey hen)
                clear hey hen
                go_wp2_with fail
                go_quiet (fail)
                go_wp2_with fail
                go_quiet (fail)
                go_wp2_with fail
                refine (l1Part_r _ _ _ _ v _ ar oo d e0 _ hg (by omega) hdy1 HX.out.2 hde heo (hv.below (hbw.drewN _).of_alloc) (hys.below (hbi.drewN _))).mono ?_; rintro e w5 ⟨a5, n5, c5, rfl, hP5, hb5⟩
                have hb05 := (hbw.drewN _).step hb5
                have hbi5 := (hbi.drewN _).step hb5
                have hn5 := row_len hP5
                subst hn5
                have hu5 := (OwnI.of_row hP5).sl
                by_cases hmu : n0 ∈ partOf oo d e0
                · have hRn := HBd.out (hbd.2 (.inr hmu))
                  subst hRn
                  have hdm3 : decide (n0 ∈ partOf oo d e0) = true := by simpa using hmu
                  go_wp2_with fail
                  refine (l1Has_v _ _ _ (partOf oo d e0) _ true _ hdm3 (by omega) hu5).mono ?_; rintro e w6 ⟨rfl, hb6⟩
                  go_wp2_with fail
                  go_ret2
                  exact ⟨_, _, _, rfl, OwnS.nil _ _ _, (hb05.step hb6).of_alloc⟩
                · have hnb : ¬ bad := fun h => by
                    rcases hbd.1 h with h1 | h1
                    · omega
                    · exact hmu h1
                  obtain ⟨-, -, hu40, hup, hlF⟩ := hub hnb
                  have hdm3 : decide (n0 ∈ partOf oo d e0) = false := by simpa using hmu
                  have HNN := Lib.hid (fun (fv p q : Value) (wz : World) => HN.out fv p q wz hnb)
                  clear hub hbd hmu HN HBd
                  go_wp2_with fail
                  refine (l1Has_v _ _ _ (partOf oo d e0) _ false _ hdm3 (by omega) hu5).mono ?_; rintro e w6 ⟨rfl, hb6⟩
                  have hbi6 := hbi5.step hb6
                  have hb06 := hb05.step hb6
                  have hBind := HBi.out _ _ _ w6 (-1 - n0).toNat (partOf oo d e0) _ _ _ hv12 (hO.sl.below hbi6) hu40 hup (hu5.below hb6)
                  rw [hvn, hvv] at hBind
                  go_wp2_with fail
                  refine hBind.mono ?_; rintro e w7 ⟨g7, rfl, hO7, hb7⟩
                  have hb07 := hb06.step hb7
                  go_wp2_with fail
                  refine (l2Apply_w _ _ _ _ _ _ (rawL (nextF n0 (partOf oo d e0) F)) a _ (rawL_len _) (lensW_raw hlF) ha40 hlowa hO7.sl (hx.below hb07.of_alloc)).mono ?_; rintro e w8 ⟨a8, n8, c8, rfl, hX8, hb8⟩
                  go_wp2_with fail
                  refine (l2Apply_w _ _ _ _ _ _ (rawL (nextF n0 (partOf oo d e0) F)) b _ (rawL_len _) (lensW_raw hlF) hb40 hlowb (hO7.sl.below hb8) (hy.below (hb07.step hb8).of_alloc)).mono ?_; rintro e w9 ⟨a9, n9, c9, rfl, hX9, hb9⟩
                  have hb09 := (hb07.step hb8).step hb9
                  have hzz := hb06.size
                  simp only [World.size_alloc] at hzz
                  obtain ⟨jn, hjn, hSn⟩ := HNN.out (.slice (some ⟨g7, 0, none⟩) 12 12) (.slice a8 n8 c8) (.slice a9 n9 c9) w9 ⟨g7, rfl⟩ ((hO7.below (hb8.step hb9)).mono (by omega) (hb8.step hb9).size) ⟨_, _, hX8.sl.below hb9⟩ ⟨_, _, hX9.sl⟩ hb09
                  go_wp2_with fail
                  exact ⟨⟨jn, hSn⟩, least_lt hSn hjn HL.out⟩
              · have hdm : decide (0 ≤ m) = false := by simpa using hm
                have hdm2 : decide (m < 0) = true := by simp; omega
                by_cases hmn : m < n
                · have hdq : decide (-1 - n < -1 - m) = true := by simp; omega
                  rw [if_pos (by omega)] at hlow hoth
                  subst hlow hoth
                  have hvn : ((-1 - n0).toNat : Int) = -1 - n0 := by omega
                  have hvv : -1 - (-1 - n0) = n0 := by omega
                  have hv12 : (-1 - n0).toNat < 12 := by omega
                  have hpl2 : (partOf oo d e0).length ≤ 40 := by rw [partOf_len _ _ _ heo]; omega
                  have hwa := IntWalk.i64_in (-1 - n) (by omega)
                  have hwb := IntWalk.i64_in (-1 - n0) (by omega)
                  have hwc := IntWalk.i64_in (-1 - (-1 - n0)) (by omega)
                  subst hpu
                  have HX := Lib.hid (And.intro hey hen)
                  clear hey hen
                  go_wp2_with fail
                  go_quiet (fail)
                  go_wp2_with fail
                  go_quiet (fail)
                  go_wp2_with fail
                  refine (l1Part_r _ _ _ _ v _ ar ys d ey _ hg (by omega) hdy1 HX.out.1 hdy heyl (hv.below (hbw.drewN _).of_alloc) (hys.below (hbi.drewN _))).mono ?_; rintro e w4 ⟨a4, n4, c4, rfl, hP4, hb4⟩
                  have hb04 := (hbw.drewN _).step hb4
                  have hbox4 := boxc hb04 0 _ rfl
                  clear hP4
                  go_wp2_with fail
                  refine (l1Part_r _ _ _ _ v _ ar oo d e0 _ hg (by omega) hdx HX.out.2 hde heo (hv.below hb04.of_alloc) (hxs.below ((hbi.drewN _).step hb4))).mono ?_; rintro e w5 ⟨a5, n5, c5, rfl, hP5, hb5⟩
                  have hb05 := hb04.step hb5
                  have hbi5 := ((hbi.drewN _).step hb4).step hb5
                  have hn5 := row_len hP5
                  subst hn5
                  have hu5 := (OwnI.of_row hP5).sl
                  by_cases hmu : n0 ∈ partOf oo d e0
                  · have hRn := HBd.out (hbd.2 (.inr hmu))
                    subst hRn
                    have hdm3 : decide (n0 ∈ partOf oo d e0) = true := by simpa using hmu
                    go_wp2_with fail
                    refine (l1Has_v _ _ _ (partOf oo d e0) _ true _ hdm3 (by omega) hu5).mono ?_; rintro e w6 ⟨rfl, hb6⟩
                    go_wp2_with fail
                    go_ret2
                    exact ⟨_, _, _, rfl, OwnS.nil _ _ _, (hb05.step hb6).of_alloc⟩
                  · have hnb : ¬ bad := fun h => by
                      rcases hbd.1 h with h1 | h1
                      · omega
                      · exact hmu h1
                    obtain ⟨-, -, hu40, hup, hlF⟩ := hub hnb
                    have hdm3 : decide (n0 ∈ partOf oo d e0) = false := by simpa using hmu
                    have HNN := Lib.hid (fun (fv p q : Value) (wz : World) => HN.out fv p q wz hnb)
                    clear hub hbd hmu HN HBd
                    go_wp2_with fail
                    refine (l1Has_v _ _ _ (partOf oo d e0) _ false _ hdm3 (by omega) hu5).mono ?_; rintro e w6 ⟨rfl, hb6⟩
                    have hbi6 := hbi5.step hb6
                    have hb06 := hb05.step hb6
                    have hBind := HBi.out _ _ _ w6 (-1 - n0).toNat (partOf oo d e0) _ _ _ hv12 (hO.sl.below hbi6) hu40 hup (hu5.below hb6)
                    rw [hvn, hvv] at hBind
                    go_wp2_with fail
                    refine hBind.mono ?_; rintro e w7 ⟨g7, rfl, hO7, hb7⟩
                    have hb07 := hb06.step hb7
                    go_wp2_with fail
                    refine (l2Apply_w _ _ _ _ _ _ (rawL (nextF n0 (partOf oo d e0) F)) a _ (rawL_len _) (lensW_raw hlF) ha40 hlowa hO7.sl (hx.below hb07.of_alloc)).mono ?_; rintro e w8 ⟨a8, n8, c8, rfl, hX8, hb8⟩
                    go_wp2_with fail
                    refine (l2Apply_w _ _ _ _ _ _ (rawL (nextF n0 (partOf oo d e0) F)) b _ (rawL_len _) (lensW_raw hlF) hb40 hlowb (hO7.sl.below hb8) (hy.below (hb07.step hb8).of_alloc)).mono ?_; rintro e w9 ⟨a9, n9, c9, rfl, hX9, hb9⟩
                    have hb09 := (hb07.step hb8).step hb9
                    have hzz := hb06.size
                    simp only [World.size_alloc] at hzz
                    obtain ⟨jn, hjn, hSn⟩ := HNN.out (.slice (some ⟨g7, 0, none⟩) 12 12) (.slice a8 n8 c8) (.slice a9 n9 c9) w9 ⟨g7, rfl⟩ ((hO7.below (hb8.step hb9)).mono (by omega) (hb8.step hb9).size) ⟨_, _, hX8.sl.below hb9⟩ ⟨_, _, hX9.sl⟩ hb09
                    go_wp2_with fail
                    exact ⟨⟨jn, hSn⟩, least_lt hSn hjn HL.out⟩
                · have hdq : decide (-1 - n < -1 - m) = false := by simp; omega
                  have hwm := IntWalk.i64_in (-1 - m) (by omega)
                  rw [if_neg (by omega)] at hlow hoth
                  subst hlow hoth
                  have hvn : ((-1 - n0).toNat : Int) = -1 - n0 := by omega
                  have hvv : -1 - (-1 - n0) = n0 := by omega
                  have hv12 : (-1 - n0).toNat < 12 := by omega
                  have hpl2 : (partOf oo d e0).length ≤ 40 := by rw [partOf_len _ _ _ heo]; omega
                  have hwb := IntWalk.i64_in (-1 - n0) (by omega)
                  have hwc := IntWalk.i64_in (-1 - (-1 - n0)) (by omega)
                  subst hpu
                  have HX := Lib.hid (And.intro hey hen)
                  clear hey hen
                  go_wp2_with fail
                  go_quiet (fail)
                  go_wp2_with fail
                  go_quiet (fail)
                  go_wp2_with fail
                  refine (l1Part_r _ _ _ _ v _ ar oo d e0 _ hg (by omega) hdy1 HX.out.2 hde heo (hv.below (hbw.drewN _).of_alloc) (hys.below (hbi.drewN _))).mono ?_; rintro e w5 ⟨a5, n5, c5, rfl, hP5, hb5⟩
                  have hb05 := (hbw.drewN _).step hb5
                  have hbi5 := (hbi.drewN _).step hb5
                  have hn5 := row_len hP5
                  subst hn5
                  have hu5 := (OwnI.of_row hP5).sl
                  by_cases hmu : n0 ∈ partOf oo d e0
                  · have hRn := HBd.out (hbd.2 (.inr hmu))
                    subst hRn
                    have hdm3 : decide (n0 ∈ partOf oo d e0) = true := by simpa using hmu
                    go_wp2_with fail
                    refine (l1Has_v _ _ _ (partOf oo d e0) _ true _ hdm3 (by omega) hu5).mono ?_; rintro e w6 ⟨rfl, hb6⟩
                    go_wp2_with fail
                    go_ret2
                    exact ⟨_, _, _, rfl, OwnS.nil _ _ _, (hb05.step hb6).of_alloc⟩
                  · have hnb : ¬ bad := fun h => by
                      rcases hbd.1 h with h1 | h1
                      · omega
                      · exact hmu h1
                    obtain ⟨-, -, hu40, hup, hlF⟩ := hub hnb
                    have hdm3 : decide (n0 ∈ partOf oo d e0) = false := by simpa using hmu
                    have HNN := Lib.hid (fun (fv p q : Value) (wz : World) => HN.out fv p q wz hnb)
                    clear hub hbd hmu HN HBd
                    go_wp2_with fail
                    refine (l1Has_v _ _ _ (partOf oo d e0) _ false _ hdm3 (by omega) hu5).mono ?_; rintro e w6 ⟨rfl, hb6⟩
                    have hbi6 := hbi5.step hb6
                    have hb06 := hb05.step hb6
                    have hBind := HBi.out _ _ _ w6 (-1 - n0).toNat (partOf oo d e0) _ _ _ hv12 (hO.sl.below hbi6) hu40 hup (hu5.below hb6)
                    rw [hvn, hvv] at hBind
                    go_wp2_with fail
                    refine hBind.mono ?_; rintro e w7 ⟨g7, rfl, hO7, hb7⟩
                    have hb07 := hb06.step hb7
                    go_wp2_with fail
                    refine (l2Apply_w _ _ _ _ _ _ (rawL (nextF n0 (partOf oo d e0) F)) a _ (rawL_len _) (lensW_raw hlF) ha40 hlowa hO7.sl (hx.below hb07.of_alloc)).mono ?_; rintro e w8 ⟨a8, n8, c8, rfl, hX8, hb8⟩
                    go_wp2_with fail
                    refine (l2Apply_w _ _ _ _ _ _ (rawL (nextF n0 (partOf oo d e0) F)) b _ (rawL_len _) (lensW_raw hlF) hb40 hlowb (hO7.sl.below hb8) (hy.below (hb07.step hb8).of_alloc)).mono ?_; rintro e w9 ⟨a9, n9, c9, rfl, hX9, hb9⟩
                    have hb09 := (hb07.step hb8).step hb9
                    have hzz := hb06.size
                    simp only [World.size_alloc] at hzz
                    obtain ⟨jn, hjn, hSn⟩ := HNN.out (.slice (some ⟨g7, 0, none⟩) 12 12) (.slice a8 n8 c8) (.slice a9 n9 c9) w9 ⟨g7, rfl⟩ ((hO7.below (hb8.step hb9)).mono (by omega) (hb8.step hb9).size) ⟨_, _, hX8.sl.below hb9⟩ ⟨_, _, hX9.sl⟩ hb09
                    go_wp2_with fail
                    exact ⟨⟨jn, hSn⟩, least_lt hSn hjn HL.out⟩
    · go_wp2_with fail
      refine (l2Sizes_v _ _ _ _ _ _ _ _ v _ _ _ ar (rawL F) xs ys false _ hso hg (hv.below hb.of_alloc) hshort hO.sl hxl hxs hyl hys).mono ?_; rintro e w3 ⟨rfl, hb3⟩
      go_wp2_with fail
      go_ret2
      exact ⟨_, _, _, rfl, OwnS.nil _ _ _, (hb.step hb3).of_alloc⟩

end Go.Proofs.YteegjnobmbcjiaaGreatDoor
end
section
/- Match: a match makes the pattern the term; composition is one substitution behind the other. -/
namespace Go.Proofs.YteegjnobmbcjiaaGreatDoor
open Go.RowKit Go.Maps

def oneG (G : Nat → List Int) (n : Int) : List Int := if n < 0 then G (-1 - n).toNat else [n]
theorem mg_app {ar t : List Int} (ht : okTerm ar t = true) (p0 : List Int) : ∀ (k i j : Nat) (F G : Nat → List Int), k = p0.length - i → i ≤ p0.length → Pair2 ar p0 t i j → (∀ v, F v ≠ [] → okTerm ar (F v) = true) → matchGo ar t (p0.drop i) j F = some G →
    (∀ v, F v ≠ [] → G v = F v) ∧ (∀ v, G v ≠ [] → okTerm ar (G v) = true) ∧ (∀ n ∈ p0.drop i, n < 0 → G (-1 - n).toNat ≠ []) ∧ (p0.drop i).flatMap (oneG G) = t.drop j := by
  intro k
  induction k with
  | zero =>
    intro i j F G hk hi hP hF h
    have hd : p0.drop i = [] := List.drop_eq_nil_of_le (by omega)
    obtain ⟨m, h1, h2⟩ := hP
    rw [hd] at h h1 ⊢
    rw [matchGo] at h
    simp at h
    subst h
    refine ⟨fun _ _ => rfl, hF, by simp, ?_⟩
    cases m with
    | zero => rw [endGo_zero] at h2; simp at h2; rw [h2, List.drop_length]; rfl
    | succ m => rw [endGo_nil] at h1; simp at h1
  | succ k ih =>
    intro i j F G hk hi hP hF h
    have hlt : i < p0.length := by omega
    have hj := hP.lt hlt
    rw [drop_cons p0 i hlt] at h ⊢
    by_cases hn : 0 ≤ p0.getD i 0
    · by_cases he : t.getD j 0 = p0.getD i 0
      · rw [mg_sym hn he] at h
        obtain ⟨a1, a2, a3, a4⟩ := ih (i+1) (j+1) F G (by omega) (by omega) (hP.sym hlt he) hF h
        refine ⟨a1, a2, fun n hm hl => ?_, ?_⟩
        · rcases List.mem_cons.1 hm with rfl | hm
          · omega
          · exact a3 n hm hl
        · rw [List.flatMap_cons, a4, drop_cons t j hj, he]
          unfold oneG
          rw [if_neg (by omega)]
          rfl
      · rw [mg_symno hn he] at h; simp at h
    · obtain ⟨e, h1, h2, h3, h4⟩ := hP.var hlt (by omega)
      by_cases hc : F (-1 - p0.getD i 0).toNat = [] ∨ F (-1 - p0.getD i 0).toNat = partOf t j e
      · rw [mg_var hn h1 hc] at h
        have hpl := partOf_len t j e h3
        have hpne : partOf t j e ≠ [] := by intro h; rw [h] at hpl; simp at hpl; omega
        have hpo := partOf_ok ar t j e ht hj h1
        obtain ⟨a1, a2, a3, a4⟩ := ih (i+1) e _ G (by omega) (by omega) h4 (fun v hv => by
          by_cases e' : v = (-1 - p0.getD i 0).toNat
          · rw [e', upd_same]; exact hpo
          · rw [upd_other _ _ e'] at hv ⊢; exact hF v hv) h
        have hG : G (-1 - p0.getD i 0).toNat = partOf t j e := by
          have := a1 (-1 - p0.getD i 0).toNat (by rw [upd_same]; exact hpne)
          rw [upd_same] at this
          exact this
        refine ⟨fun v hv => ?_, a2, fun n hm hl => ?_, ?_⟩
        · by_cases e' : v = (-1 - p0.getD i 0).toNat
          · rw [e', hG]
            rcases hc with hc | hc
            · rw [e'] at hv; exact absurd hc hv
            · exact hc.symm
          · have := a1 v (by rw [upd_other _ _ e']; exact hv)
            rw [upd_other _ _ e'] at this
            exact this
        · rcases List.mem_cons.1 hm with rfl | hm
          · rw [hG]; exact hpne
          · exact a3 n hm hl
        · rw [List.flatMap_cons, a4]
          unfold oneG
          rw [if_pos (by omega), hG]
          unfold partOf
          have := List.take_append_drop (e - j) (t.drop j)
          rw [List.drop_drop, show j + (e - j) = e by omega] at this
          exact this
      · rw [mg_varno hn h1 hc] at h; simp at h
theorem substL_get (F : Nat → List Int) (v : Nat) (hv : v < 12) : (substL F).getD v [] = stayF F v := by simp [substL, List.getD, hv]
theorem substL_len (F : Nat → List Int) : (substL F).length = 12 := by simp [substL]
theorem one1_sub {F : Nat → List Int} {n : Int} (h12 : -12 ≤ n) (hF : n < 0 → F (-1 - n).toNat ≠ []) : one1 (substL F) n = oneG F n := by
  unfold oneG
  by_cases hn : n < 0
  · rw [if_pos hn]
    have hv : (-1 - n).toNat < 12 := by omega
    have hvn : (-1 - (((-1 - n).toNat : Nat) : Int)) = n := by omega
    by_cases hs : F (-1 - n).toNat = [-1 - (((-1 - n).toNat : Nat) : Int)]
    · have h0 : stayF F (-1 - n).toNat = [] := by unfold stayF; rw [if_pos hs]
      rw [one1_free (by rw [substL_get F _ hv, h0]; simp), hs, hvn]
    · have h0 : stayF F (-1 - n).toNat = F (-1 - n).toNat := by unfold stayF; rw [if_neg hs]
      rw [one1_var hn (by rw [substL_get F _ hv, h0]; exact List.length_pos_iff.2 (hF hn)), substL_get F _ hv, h0]
  · rw [if_neg hn, one1_sym hn]
theorem good_substL {ar : List Int} {F : Nat → List Int} (hg : goodSign ar = true) (hF : ∀ v, v < 12 → F v ≠ [] → okTerm ar (F v) = true) : goodSubst ar (substL F) = true := by
  refine goodSubst_iff.2 ⟨hg, substL_len F, fun t ht => ?_⟩
  unfold substL at ht
  obtain ⟨v, hv, rfl⟩ := List.mem_map.1 ht
  rw [List.mem_range] at hv
  unfold okEmpty stayF
  split
  · rfl
  · by_cases e : F v = []
    · rw [e]; rfl
    · rw [hF v hv e, Bool.or_true]
theorem match_app {ar p t : List Int} (h : matchOk ar p t = true) : applyOk ar (matchAns ar p t) p = true ∧ applyAns ar (matchAns ar p t) p = t := by
  have h0 := h
  unfold matchOk at h0
  simp only [Bool.and_eq_true] at h0
  obtain ⟨hk, hr⟩ := h0
  obtain ⟨G, hG⟩ := Option.isSome_iff_exists.1 hr
  simp only [matchOk0, Bool.and_eq_true] at hk
  obtain ⟨hg, hp⟩ := goodTerm_iff.1 hk.1
  have hans := (match_yes (by simp [matchOk0, hk.1, hk.2]) hG).1
  obtain ⟨a1, a2, a3, a4⟩ := mg_app hk.2 p p.length 0 0 (fun _ => []) G (by omega) (by omega) (Pair2.start hp hk.2) (fun _ h => absurd rfl h) (by simpa [matchR] using hG)
  rw [List.drop_zero, List.drop_zero] at *
  have happ : appT (substL G) p = t := by
    rw [← a4]
    unfold appT
    have : ∀ (q : List Int), (∀ n ∈ q, n ∈ p) → q.flatMap (one1 (substL G)) = q.flatMap (oneG G) := by
      intro q
      induction q with
      | nil => intro _; rfl
      | cons n q ih =>
        intro hq
        rw [List.flatMap_cons, List.flatMap_cons, ih (fun m hm => hq m (List.mem_cons_of_mem _ hm))]
        have hm := hq n List.mem_cons_self
        obtain ⟨i, hi, hin⟩ := List.getElem_of_mem hm
        have hl := okTerm_low hp i hi
        rw [show p.getD i 0 = n from by simp [List.getD, hi, hin]] at hl
        rw [one1_sub hl (fun hn => a3 n hm hn)]
    exact this p (fun _ h => h)
  have hok : applyOk ar (matchAns ar p t) p = true := by
    unfold applyOk
    rw [hans, good_substL hg (fun v _ hv => a2 v hv), hp, (app40_yes (by rw [happ]; have := ((okTerm_iff _ _).1 hk.2).2.1; omega)).2]
    rfl
  refine ⟨hok, ?_⟩
  unfold applyAns
  rw [if_pos hok, hans, happ]
theorem applyOk_iff {ar : List Int} {b : List (List Int)} {t : List Int} : applyOk ar b t = true ↔ goodSubst ar b = true ∧ okTerm ar t = true ∧ app40ok b t = true := by
  unfold applyOk
  simp only [Bool.and_eq_true]
  exact ⟨fun h => ⟨h.1.1, h.1.2, h.2⟩, fun h => ⟨⟨h.1, h.2.1⟩, h.2.2⟩⟩
theorem compose_app {ar : List Int} {a b : List (List Int)} {z : List Int} (hc : composeOk ar a b = true) (h1 : applyOk ar a z = true) (h2 : applyOk ar b (applyAns ar a z) = true) :
    applyOk ar (composeAns ar a b) z = true ∧ applyAns ar (composeAns ar a b) z = applyAns ar b (applyAns ar a z) := by
  have hc0 := hc
  unfold composeOk at hc0
  simp only [Bool.and_eq_true] at hc0
  obtain ⟨⟨hga, hgb⟩, hall⟩ := hc0
  obtain ⟨-, hz, hz40⟩ := applyOk_iff.1 h1
  obtain ⟨-, hx, hx40⟩ := applyOk_iff.1 h2
  have hg := (goodSubst_iff.1 hga).1
  rw [applyAns_yes h1] at *
  have hF : ∀ v, v < 12 → compF a b v ≠ [] → okTerm ar (compF a b v) = true := fun v hv _ => by
    have := app_ok hgb (compT_ok hga v hv)
    unfold compF
    rw [this]
    rw [List.all_eq_true] at hall
    exact hall v (by simpa using hv)
  have happ : appT (substL (compF a b)) z = appT b (appT a z) := by
    have : ∀ (q : List Int), (∀ n ∈ q, n ∈ z) → appT (substL (compF a b)) q = appT b (appT a q) := by
      intro q
      induction q with
      | nil => intro _; rfl
      | cons n q ih =>
        intro hq
        have ih2 := ih (fun m hm => hq m (List.mem_cons_of_mem _ hm))
        unfold appT at ih2 ⊢
        rw [List.flatMap_cons, List.flatMap_cons, List.flatMap_append, ih2]
        congr 1
        have hm := hq n List.mem_cons_self
        obtain ⟨i, hi, hin⟩ := List.getElem_of_mem hm
        have hl := okTerm_low hz i hi
        rw [show z.getD i 0 = n from by simp [List.getD, hi, hin]] at hl
        rw [one1_sub hl (fun hn => by
          have hv : (-1 - n).toNat < 12 := by omega
          have := ((okTerm_iff _ _).1 (show okTerm ar (appT b (compT a (-1 - n).toNat)) = true from by
            have h := app_ok hgb (compT_ok hga _ hv)
            rw [h]
            rw [List.all_eq_true] at hall
            exact hall _ (by simpa using hv))).1
          unfold compF
          intro h
          rw [h] at this; simp at this)]
        unfold oneG
        by_cases hn : n < 0
        · rw [if_pos hn]
          unfold compF compT
          by_cases hp : 0 < (a.getD (-1 - n).toNat []).length
          · rw [if_pos hp, one1_var hn hp]; rfl
          · rw [if_neg hp, one1_free hp, show (-1 - (((-1 - n).toNat : Nat) : Int)) = n by omega]; rfl
        · rw [if_neg hn, one1_sym hn]
          simp [one1_sym hn]
    exact this z (fun _ h => h)
  have hok : applyOk ar (composeAns ar a b) z = true := by
    rw [composeAns_yes hc]
    refine applyOk_iff.2 ⟨good_substL hg hF, hz, ?_⟩
    unfold app40ok at hx40 ⊢
    rw [happ]; exact hx40
  refine ⟨hok, ?_⟩
  rw [applyAns_yes hok, applyAns_yes h2, composeAns_yes hc, happ]
end Go.Proofs.YteegjnobmbcjiaaGreatDoor
end
section
/- Unify: what is found makes both terms one, once and for all, and whatever else does so goes on from it (Robinson). -/
namespace Go.Proofs.YteegjnobmbcjiaaGreatDoor
open Go.RowKit Go.Maps

theorem ug_inv {ar a0 b0 : List Int} : ∀ (k : Nat) (x y : List Int) (F G : Nat → List Int), UInv ar a0 b0 x y F → uniGo ar k x y F = some G → ∃ z, UInv ar a0 b0 z z G := by
  intro k
  induction k with
  | zero => intro x y F G h e; simp [uniGo] at e
  | succ k ih =>
    intro x y F G h e
    by_cases h1 : x = y
    · rw [ug_same h1] at e
      simp at e
      subst h1
      rw [← e]; exact ⟨x, h⟩
    · by_cases h2 : badU ar x y
      · rw [ug_bad h1 h2] at e; simp at e
      · by_cases h3 : longU ar x y
        · rw [ug_long h1 h2 h3] at e; simp at e
        · rw [ug_next h1 h2 h3] at e
          exact ih _ _ _ _ ((uok h h1 h2).next h3) e
theorem unify_inv {ar a b : List Int} (h : unifyOk ar a b = true) : ∃ G z, uniR ar a b = some G ∧ UInv ar a b z z G ∧ unifyAns ar a b = rawL G ∧ goodSign ar = true ∧ okTerm ar a = true ∧ okTerm ar b = true := by
  have h0 := h
  unfold unifyOk at h0
  simp only [Bool.and_eq_true] at h0
  obtain ⟨hk, hr⟩ := h0
  obtain ⟨G, hG⟩ := Option.isSome_iff_exists.1 hr
  have hk2 := hk
  simp only [uniOk0, Bool.and_eq_true] at hk2
  obtain ⟨hg, hp⟩ := goodTerm_iff.1 hk2.1
  obtain ⟨z, hz⟩ := ug_inv 13 a b _ G (UInv.start hp hk2.2) (by simpa [uniR] using hG)
  exact ⟨G, z, hG, hz, by rw [(unify_yes hk hG).1, hz.raw], hg, hp, hk2.2⟩
theorem good_raw {ar a0 b0 x y : List Int} {F : Nat → List Int} (hg : goodSign ar = true) (h : UInv ar a0 b0 x y F) : goodSubst ar (rawL F) = true := by
  rw [h.raw]; exact good_substL hg fun v _ => h.okF v
theorem unify_unifies {ar a b : List Int} (h : unifyOk ar a b = true) : applyOk ar (unifyAns ar a b) a = true ∧ applyOk ar (unifyAns ar a b) b = true ∧ unifAns ar (unifyAns ar a b) a b = true := by
  obtain ⟨G, z, hG, hz, hans, hg, ha, hb⟩ := unify_inv h
  have h40 := (okTerm_seq.1 hz.okx).1
  have h1 : applyOk ar (rawL G) a = true := applyOk_iff.2 ⟨good_raw hg hz, ha, (app40_yes (by rw [← hz.appx]; omega)).2⟩
  have h2 : applyOk ar (rawL G) b = true := applyOk_iff.2 ⟨good_raw hg hz, hb, (app40_yes (by rw [← hz.appy]; omega)).2⟩
  rw [hans]
  refine ⟨h1, h2, ?_⟩
  unfold unifAns
  rw [h1, h2, applyAns_yes h1, applyAns_yes h2, ← hz.appx, ← hz.appy]
  simp
theorem app_fixed {G : Nat → List Int} (hlow : ∀ v, 12 ≤ v → G v = []) : ∀ {t : List Int}, (∀ m ∈ t, m < 0 → G (-1 - m).toNat = []) → appT (rawL G) t = t
  | [], _ => rfl
  | m :: t, h => by
    have ih := app_fixed hlow (t := t) (fun x hx => h x (List.mem_cons_of_mem _ hx))
    unfold appT at ih ⊢
    rw [List.flatMap_cons, ih]
    by_cases hm : m < 0
    · rw [one1_free (by rw [rawL_getA hlow, h m List.mem_cons_self hm]; simp)]; rfl
    · rw [one1_sym hm]; rfl
theorem unify_twice {ar a b : List Int} (h : unifyOk ar a b = true) : composeOk ar (unifyAns ar a b) (unifyAns ar a b) = true ∧ composeAns ar (unifyAns ar a b) (unifyAns ar a b) = unifyAns ar a b := by
  obtain ⟨G, z, hG, hz, hans, hg, ha, hb⟩ := unify_inv h
  rw [hans]
  have hgs := good_raw hg hz
  have hcf : ∀ v, v < 12 → compF (rawL G) (rawL G) v = if G v = [] then [-1 - (v : Int)] else G v := by
    intro v hv
    unfold compF
    by_cases e : G v = []
    · rw [if_pos e, compT_zero (by rw [rawL_get G v hv, e]; simp)]
      exact app_fixed hz.low (fun m hm h0 => by simp at hm; rw [show (-1 - m).toNat = v by omega]; exact e)
    · rw [if_neg e, compT_pos (by rw [rawL_get G v hv]; exact List.length_pos_iff.2 e), rawL_get G v hv]
      refine app_fixed hz.low (fun m hm h0 => ?_)
      rcases Classical.em (G (-1 - m).toNat = []) with h1 | h1
      · exact h1
      · have hin : m ∈ z := by rcases hz.inf v e with h2 | h2 <;> exact h2.subset hm
        exact absurd (by rw [show (-1 - (((-1 - m).toNat : Nat) : Int)) = m by omega]; exact hin) (hz.notx _ h1)
  have hok : composeOk ar (rawL G) (rawL G) = true := by
    unfold composeOk
    rw [hgs, Bool.true_and, Bool.true_and, List.all_eq_true]
    intro v hv
    rw [List.mem_range] at hv
    refine (app40_yes ?_).2
    show ¬ 40 < (compF (rawL G) (rawL G) v).length
    rw [hcf v hv]
    have := hz.len40 v
    split
    · simp
    · omega
  refine ⟨hok, ?_⟩
  rw [composeAns_yes hok]
  conv => rhs; rw [hz.raw]
  unfold substL
  apply List.map_congr_left
  intro v hv
  rw [List.mem_range] at hv
  unfold stayF
  rw [hcf v hv]
  by_cases e : G v = []
  · rw [if_pos e, if_pos rfl, e]; simp
  · rw [if_neg e]
/-- Robinson. -/
theorem appT_put {V : List (List Int)} {n : Int} {u : List Int} (h : one1 V n = appT V u) : ∀ (t : List Int), appT V (putFor n u t) = appT V t
  | [] => rfl
  | m :: t => by
    rw [putFor_cons, appT_append, appT_put h t, show m :: t = [m] ++ t from rfl, appT_append]
    split
    · rename_i e; subst e; rw [appT_one, h]
    · rfl
theorem one_seq {ar : List Int} {V : List (List Int)} (hV : goodSubst ar V = true) {n : Int} (h12 : -12 ≤ n) (hn : n < 0) : seqT ar 1 (one1 V n) := by
  obtain ⟨hg, hl, hok⟩ := goodSubst_iff.1 hV
  by_cases hp : 0 < (V.getD (-1 - n).toNat []).length
  · rw [one1_var hn hp]
    exact (okTerm_seq.1 (okEmpty_get hok _ hp)).2
  · rw [one1_free hp]
    refine seqT_cons.2 ⟨?_, by rw [arOf_neg hn]; rfl⟩
    have := sign_len ar hg
    unfold okSym inB
    simp
    omega
theorem app_seq1 {ar : List Int} {V : List (List Int)} (hV : goodSubst ar V = true) {u : List Int} (hu : okTerm ar u = true) : seqT ar 1 (appT V u) := by
  obtain ⟨hg, hl, hok⟩ := goodSubst_iff.1 hV
  have := app_end hok hu
  unfold endOf at this
  rw [List.drop_zero] at this
  exact this
theorem dif_split {x y : List Int} (hx : dif x y ≤ x.length) (hy : dif x y ≤ y.length) : x.take (dif x y) = y.take (dif x y) := by
  apply List.ext_getElem?
  intro i
  rw [List.getElem?_take, List.getElem?_take]
  split
  · rename_i hi
    obtain ⟨h1, h2, h3⟩ := dif_before x y i hi
    rw [List.getElem?_eq_getElem h1, List.getElem?_eq_getElem h2]
    simpa [List.getD, h1, h2] using h3
  · rfl
theorem sigma_eq {ar a0 b0 x y : List Int} {F : Nat → List Int} {V : List (List Int)} (hV : goodSubst ar V = true) (h : UInv ar a0 b0 x y F) (hne : x ≠ y) (hb : ¬ badU ar x y) (he : appT V x = appT V y) : one1 V (lowN x y) = appT V (putU ar x y) := by
  obtain ⟨e, hR⟩ := uround h hne
  have hok := uok h hne hb
  have hsp := dif_split (x := x) (y := y) (Nat.le_of_lt hR.dx) (Nat.le_of_lt hR.dy)
  have hdrop : appT V (x.drop (dif x y)) = appT V (y.drop (dif x y)) := by
    have hx' : appT V x = appT V (x.take (dif x y)) ++ appT V (x.drop (dif x y)) := by rw [← appT_append, List.take_append_drop]
    have hy' : appT V y = appT V (y.take (dif x y)) ++ appT V (y.drop (dif x y)) := by rw [← appT_append, List.take_append_drop]
    have h1 := he
    rw [hx', hy', hsp] at h1
    exact List.append_cancel_left h1
  have hpart : ∀ (o : List Int), o = other x y → o.drop (dif x y) = putU ar x y ++ o.drop e := fun o ho => by
    rw [hR.pu, ho]
    unfold partOf
    have := List.take_append_drop (e - dif x y) ((other x y).drop (dif x y))
    rw [List.drop_drop, show dif x y + (e - dif x y) = e by have := hR.de; omega] at this
    exact this.symm
  have hs1 := one_seq hV hok.lo hok.neg
  have hs2 := app_seq1 hV hR.ok
  rw [drop_cons x _ hR.dx, drop_cons y _ hR.dy] at hdrop
  by_cases hlt : y.getD (dif x y) 0 < x.getD (dif x y) 0
  · have hlo : lowN x y = y.getD (dif x y) 0 := by unfold lowN; rw [if_pos hlt]
    have hot : x = other x y := by unfold other; rw [if_pos hlt]
    rw [← drop_cons x _ hR.dx, hpart x hot, ← hlo, appT_append, show ∀ (n : Int) (t : List Int), n :: t = [n] ++ t from fun _ _ => rfl, appT_append, appT_one] at hdrop
    exact (seq_prefix hs2 hs1 hdrop).symm
  · have hlo : lowN x y = x.getD (dif x y) 0 := by unfold lowN; rw [if_neg hlt]
    have hot : y = other x y := by unfold other; rw [if_neg hlt]
    rw [← drop_cons y _ hR.dy, hpart y hot, ← hlo, appT_append, show ∀ (n : Int) (t : List Int), n :: t = [n] ++ t from fun _ _ => rfl, appT_append, appT_one] at hdrop
    exact seq_prefix hs1 hs2 hdrop
theorem ug_mgu {ar a0 b0 : List Int} {V : List (List Int)} (hV : goodSubst ar V = true) : ∀ (k : Nat) (x y : List Int) (F G : Nat → List Int), UInv ar a0 b0 x y F → (∀ n, appT V (one1 (rawL F) n) = one1 V n) → appT V x = appT V y → uniGo ar k x y F = some G → ∀ n, appT V (one1 (rawL G) n) = one1 V n := by
  intro k
  induction k with
  | zero => intro x y F G h _ _ e; simp [uniGo] at e
  | succ k ih =>
    intro x y F G h hP he e
    by_cases h1 : x = y
    · rw [ug_same h1] at e
      simp at e
      rw [← e]; exact hP
    · by_cases h2 : badU ar x y
      · rw [ug_bad h1 h2] at e; simp at e
      · by_cases h3 : longU ar x y
        · rw [ug_long h1 h2 h3] at e; simp at e
        · rw [ug_next h1 h2 h3] at e
          have hok := uok h h1 h2
          have hE := sigma_eq hV h h1 h2 he
          refine ih _ _ _ _ (hok.next h3) (fun n => ?_) (by rw [appT_put hE, appT_put hE, he]) e
          have := app_next hok.neg (List.length_pos_iff.1 hok.up) hok.free h.low hok.lo [n]
          rw [appT_one, appT_one] at this
          rw [← this, appT_put hE, hP n]
theorem app_app {V : List (List Int)} {G : Nat → List Int} (h : ∀ n, appT V (one1 (rawL G) n) = one1 V n) : ∀ (t : List Int), appT V (appT (rawL G) t) = appT V t
  | [] => rfl
  | n :: t => by
    rw [show n :: t = [n] ++ t from rfl, appT_append, appT_append, appT_append, app_app h t, appT_one, h, appT_one]
theorem unify_most {ar x y : List Int} {V : List (List Int)} (h1 : applyOk ar V x = true) (h2 : applyOk ar V y = true) (he : applyAns ar V x = applyAns ar V y) (hu : unifyOk ar x y = true) (hc : composeOk ar (unifyAns ar x y) V = true) :
    applyOk ar (composeAns ar (unifyAns ar x y) V) x = true ∧ applyAns ar (composeAns ar (unifyAns ar x y) V) x = applyAns ar V x := by
  obtain ⟨G, z, hG, hz, hans, hg, ha, hb⟩ := unify_inv hu
  obtain ⟨hV, -, h40⟩ := applyOk_iff.1 h1
  have hm := (unify_unifies hu).1
  rw [applyAns_yes h1, applyAns_yes h2] at he
  have hP := ug_mgu hV 13 x y (fun _ => []) G (UInv.start ha hb) (fun n => by rw [← appT_one, appT_none, appT_one]) he (by simpa [uniR] using hG)
  have hmz : applyAns ar (unifyAns ar x y) x = z := by rw [applyAns_yes hm, hans, ← hz.appx]
  have hVz : appT V z = appT V x := by rw [hz.appx, app_app hP]
  have hz2 : applyOk ar V z = true := applyOk_iff.2 ⟨hV, hz.okx, by unfold app40ok at h40 ⊢; rw [hVz]; exact h40⟩
  obtain ⟨a1, a2⟩ := compose_app hc hm (by rw [hmz]; exact hz2)
  refine ⟨a1, ?_⟩
  rw [a2, hmz, applyAns_yes hz2, applyAns_yes h1, hVz]
end Go.Proofs.YteegjnobmbcjiaaGreatDoor
end
section
/- Chapter 4, the program: changedClause, over a function value. -/
namespace Go.Proofs.YteegjnobmbcjiaaGreatDoor
open Go.RowKit

set_option maxRecDepth 100000 in
set_option maxHeartbeats 1000000 in
theorem changedA_c (l h : Nat) (v : Value) (g : Nat) (c : List Lt) (w : World) (F : List Int → List Int) (okF : List Int → Bool) (hx : c.length ≤ 1048576) (hv : SlC l h w v c)
    (hF : ∀ t, t ∈ flatC c → ∀ lo hi x w', Bel w w' → SlI lo hi w' x t → Calls Tryz.prog 97 #[x, .pointer (some ⟨g, 0, none⟩)] w' (RetIB w' (if okF t then F t else []) (okF t))) (q : Bool) (r : List Lt) (hq : (flatC c).all okF = q) (hr : (if q then zipC c ((flatC c).map F) else []) = r) :
    Calls Tryz.prog 96 #[v, .func (.func 97) #[] #[.pointer (some ⟨g, 0, none⟩)]] w (RetCB w r q) := by
  have eg : ∀ args w, (callFunc 97 args).run Tryz.prog w = .ok (.enter 97 args) w := enters_of Tryz.func97 (by kernel_rfl) rfl
  obtain ⟨i1, hi1, hy0, hy1, hy2⟩ := info_parts Tryz.info22
  obtain ⟨ad, cap, rfl⟩ := hv.form
  have HQ := Lib.hid hq
  have HR := Lib.hid hr
  have HF := Lib.hid hF
  clear hq hr hF
  go_enter Tryz.func96, Tryz.ntmps96
  go_wp2_with fail
  refine (termsIn_c l h _ c _ hx hv).mono ?_; rintro e w1 ⟨a1, n1, c1, rfl, hrow, hb1⟩
  have hs := hrow.sls hb1
  have hfl := flatC_len c
  have hn1 : n1 = (flatC c).length := by obtain ⟨_, _, e⟩ := hs.form; simp only [Value.slice.injEq] at e; exact e.2.1
  subst hn1
  have HFL : Hid ((flatC c).length = 2 * c.length) := hfl
  have hl2 : (flatC c).length ≤ 2097152 := by omega
  have HV1 := hv.below hb1
  clear hfl hrow hv
  generalize flatC c = L at *
  go_wp2_with fail
  go_loopw [6, 14] (fun o i wr => ∃ k : Nat, k ≤ L.length ∧ i = .int .i64 k ∧ RowO w1.heap.size wr o ((L.take k).map F) ∧ (∀ t ∈ L.take k, okF t = true) ∧ Bel w1 wr) (fun _ i _ => L.length - (intOf i).toNat)
  case atStart => exact ⟨0, Nat.zero_le _, rfl, RowO.nil _ _, fun t h => by simp at h, Bel.rfl' _⟩
  case round =>
    obtain ⟨k, hk, rfl, hro, hall, hb⟩ := hrel
    by_cases hlt : k < L.length
    · obtain ⟨b1, o1, u1, rfl, hbs, c1, s1⟩ := hs.at hb k hlt
      have HTK : Hid (L.take (k+1) = L.take k ++ [L.getD k []]) := by show _ = _; rw [List.take_succ_eq_append_getElem hlt]; simp [List.getD, hlt]
      have hmem := mem_getD L [] k hlt
      have hin1 : (k : Int) < L.length := by omega
      generalize L.getD k [] = t at *
      have HC := HF.out t hmem _ _ u1 wr (hb1.step hb) s1
      obtain ⟨x1, y1, rfl⟩ := s1.form
      cases hok : okF t with
      | false =>
        rw [hok, if_neg (by simp)] at HC
        have HCC := Lib.hid HC
        have hqf : q = false := by
          rw [← HQ.out]; rw [List.all_eq_false]; exact ⟨t, hmem, by simp [hok]⟩
        subst hqf
        have hr0 : r = [] := by rw [← HR.out]; rfl
        subst hr0
        clear hs HC s1 hro hall
        go_wp2_with fail
        refine HCC.out.mono ?_; rintro e w2 ⟨a2, n2, c2, rfl, ho2, hb2⟩
        go_wp2_with fail
        go_ret2
        exact ⟨_, _, _, rfl, OwnC.nil _ _ _, (hb1.step hb).step hb2⟩
      | true =>
        rw [hok, if_pos rfl] at HC
        have HCC := Lib.hid HC
        have HAL := Lib.hid hall
        have HRO := Lib.hid hro
        have HOK := Lib.hid hok
        have hbz := hb.size
        clear hs HC s1 hro hall hok hmem
        go_wp2_with fail
        refine HCC.out.mono ?_; rintro e w2 ⟨a2, n2, c2, rfl, ho2, hb2⟩
        have hAl := Bel.alloc0 w2 (.cells #[.slice a2 n2 c2] 22)
        obtain ⟨us, hown, hul, hnext⟩ := HRO.out.step hb2 hAl ho2 hbz
        have hkl : us.length = k := by rw [hul]; simp; omega
        have HN := Lib.hid hnext
        clear hnext
        go_wp2_with (at_builtin; refine wpList_append_own_at _ rfl _ _ 56 rfl w1.heap.size 22 i1 (.slice none 0 0) 1 24 Tryz.underlying56 hi1 hy0 hy1 hy2 rfl (by decide) _ _ _ rfl hown _ _ _ [.slice a2 n2 c2] rfl rfl (news_oneV _ _ _) (one_slice _ _ _) (by unfold maxLen; omega) (by omega) (by have := hb2.size; simp; omega) ?_; intro v' w4 hown' hgrow _ hat)
        have hR4 := HN.out w4 v' hown' hgrow hat
        have hB4 := ((hb.step hb2).step hAl).grown hgrow (fun x hx => own_base hown x hx)
        go_roundw
        case rel =>
          refine ⟨k+1, by omega, by go_num, by rw [HTK.out, List.map_append]; exact hR4, fun t' h => ?_, hB4⟩
          rw [HTK.out] at h
          rcases List.mem_append.1 h with h | h
          · exact HAL.out t' h
          · simp at h; subst h; exact HOK.out
        case measure => simp [intOf]; omega
    · have ek : L.take k = L := List.take_of_length_le (by omega)
      rw [ek] at hro hall
      have hqt : q = true := by rw [← HQ.out, List.all_eq_true]; exact hall
      subst hqt
      have hr1 : zipC c (L.map F) = r := HR.out
      subst hr1
      obtain ⟨a5, c5, e5⟩ := hro.form
      rw [List.length_map] at e5
      subst e5
      have hin1 : ¬ (k : Int) < L.length := by omega
      have hw := withTerms_c _ _ _ _ _ _ c (L.map F) wr hx (by rw [List.length_map]; exact HFL.out) hb.size (Nat.le_refl _) (HV1.below hb) hro.own
      have HW := Lib.hid hw
      clear hs hro hall hw HV1
      go_wp2_with fail
      refine HW.out.mono ?_; rintro e w2 ⟨a2, n2, c2, rfl, ho2, hb2⟩
      go_wp2_with fail
      go_ret2
      exact ⟨_, _, _, rfl, ho2.mono hb1.size (Nat.le_refl _), (hb1.step hb).step hb2⟩

end Go.Proofs.YteegjnobmbcjiaaGreatDoor
end
section
/- Chapter 4, the program: ApplyClause (over changedClause and a function value). -/
namespace Go.Proofs.YteegjnobmbcjiaaGreatDoor
open Go.RowKit

theorem app40_if (b : List (List Int)) (t : List Int) : app40 b t = if app40ok b t then appT b t else [] := by
  by_cases h : 40 < (appT b t).length
  · rw [(app40_no h).1, (app40_no h).2]; rfl
  · rw [(app40_yes h).1, (app40_yes h).2]; rfl

set_option maxRecDepth 100000 in
set_option maxHeartbeats 400000 in
theorem appliedFn_c (g l h l' h' : Nat) (v u : Value) (b : List (List Int)) (t : List Int) (w : World) (hlen : b.length = 12) (hb : lens40 b) (ht : t.length ≤ 1024) (hlow : ∀ k, k < t.length → -12 ≤ t.getD k 0) (hc : w.cell? ⟨g, 0, none⟩ = some u) (hu : SlS l' h' w u b) (hv : SlI l h w v t) :
    Calls Tryz.prog 97 #[v, .pointer (some ⟨g, 0, none⟩)] w (RetIB w (app40 b t) (app40ok b t)) := by
  have HC := Lib.hid (applied_c l h l' h' v u b t w hlen hb ht hlow hu hv)
  obtain ⟨ad, cap, rfl⟩ := hv.form
  obtain ⟨au, cu, rfl⟩ := hu.form
  clear hlen hb ht hlow hu hv
  generalize app40 b t = r at *
  generalize app40ok b t = q at *
  go_enter Tryz.func97, Tryz.ntmps97
  go_wp2_with fail
  refine HC.out.mono ?_; rintro e w1 ⟨a1, n1, c1, rfl, ho1, hb1⟩
  go_wp2_with fail
  go_ret2
  exact ⟨_, _, _, rfl, ho1, hb1⟩

set_option maxRecDepth 100000 in
set_option maxHeartbeats 400000 in
theorem appliedClause_c (l h l' h' : Nat) (v u : Value) (b : List (List Int)) (c : List Lt) (w : World) (hlen : b.length = 12) (hb40 : lens40 b) (hx : c.length ≤ 1048576) (ht : ∀ t ∈ flatC c, t.length ≤ 1024 ∧ ∀ k, k < t.length → -12 ≤ t.getD k 0) (hu : SlS l' h' w u b) (hv : SlC l h w v c) (q : Bool) (r : List Lt) (hq : (flatC c).all (app40ok b) = q) (hr : (if q then applyC b c else []) = r) :
    Calls Tryz.prog 58 #[u, v] w (RetCB w r q) := by
  have hmf : ∀ (fn : Fn) (first cap : Array Value) (w : World), (Instr.makeFunc fn first cap).run Tryz.prog w = .ok (.func fn first cap) w := fun _ _ _ _ => rfl
  obtain ⟨ad, cap, rfl⟩ := hv.form
  obtain ⟨au, cu, rfl⟩ := hu.form
  have hA := Bel.alloc0 w (.cells #[.slice au b.length cu] 56)
  have hbox := boxc (Bel.rfl' (w.alloc (.cells #[.slice au b.length cu] 56))) 0 _ rfl
  have hz : zipC c ((flatC c).map (appT b)) = applyC b c := by rw [zipC_map]; rfl
  have HC := Lib.hid (changedA_c l h (.slice ad c.length cap) w.heap.size c _ (appT b) (app40ok b) hx (hv.below hA)
    (fun t hm lo hi x w' hbb hs => by
      rw [← app40_if]
      exact appliedFn_c _ _ _ _ _ _ _ b t w' hlen hb40 (ht t hm).1 (ht t hm).2 (hbb.at (World.block_lt_of_cell? _ ⟨_, _, none⟩ hbox) hbox) (hu.below (hA.step hbb)) hs) q r hq (by rw [hz]; exact hr))
  clear hlen hb40 ht hu hv hq hr hz hbox
  go_enter Tryz.func58, Tryz.ntmps58
  go_wp2_with fail
  refine HC.out.mono ?_; rintro e w1 ⟨a1, n1, c1, rfl, ho1, hb1⟩
  go_wp2_with fail
  go_ret2
  exact ⟨_, _, _, rfl, ho1.mono hA.size (Nat.le_refl _), hA.step hb1⟩
end Go.Proofs.YteegjnobmbcjiaaGreatDoor
end
section
/- Chapter 4: ApplyClause, both sides. -/
namespace Go.Proofs.YteegjnobmbcjiaaGreatDoor
open Go.RowKit

theorem l4Clause_v (l h l' h' : Nat) (v u : Value) (ar : List Int) (c : List Lt) (q : Bool) (w : World) (he : okLits ar c = q) (hg : goodSign ar = true) (hx : shortC c) (hv : SlI l h w v ar) (hu : SlC l' h' w u c) :
    Calls Tryz.prog 60 #[.agg #[v], u] w (RetV w (.bool q)) := by subst he; exact l4Clause_c l h l' h' v u ar c w hg hx hv hu

set_option maxRecDepth 100000 in
set_option maxHeartbeats 400000 in
theorem l4Made_c (l h lo hi : Nat) (v u : Value) (ar : List Int) (c : List Lt) (w : World) (hg : goodSign ar = true) (hx : shortC c) (hv : SlI l h w v ar) (hu : OwnC lo hi w u c) :
    Calls Tryz.prog 61 #[.agg #[v], u] w (fun e w' => ∃ ad n k, e = .returned (.tuple #[.slice ad n k, .bool (okLits ar c)]) ∧ OwnC lo hi w' (.slice ad n k) (if okLits ar c then c else []) ∧ Bel w w') := by
  cases hq : okLits ar c with
  | false =>
    rw [if_neg (by simp)]
    have HQ := Lib.hid hq; clear hq
    have hul := hu.sl
    go_enter Tryz.func61, Tryz.ntmps61
    go_wp2_with fail
    refine (l4Clause_v _ _ _ _ _ _ ar c false _ HQ.out hg hx (hv.alloc _) (hul.alloc _)).mono ?_; rintro e w1 ⟨rfl, hb1⟩
    go_wp2_with fail
    go_ret2
    exact ⟨_, _, _, rfl, OwnC.nil _ _ _, hb1.of_alloc⟩
  | true =>
    rw [if_pos rfl]
    have HQ := Lib.hid hq; clear hq
    have HU := Lib.hid hu
    have hul := hu.sl
    clear hu
    obtain ⟨au, cu, rfl⟩ := hul.form
    go_enter Tryz.func61, Tryz.ntmps61
    go_wp2_with fail
    refine (l4Clause_v _ _ _ _ _ _ ar c true _ HQ.out hg hx (hv.alloc _) (hul.alloc _)).mono ?_; rintro e w1 ⟨rfl, hb1⟩
    go_wp2_with fail
    go_ret2
    exact ⟨_, _, _, rfl, HU.out.below hb1.of_alloc, hb1.of_alloc⟩

theorem flat_rows {ar : List Int} {c : List Lt} (h : okLits ar c = true) : ∀ t ∈ flatC c, t.length ≤ 1024 ∧ ∀ k, k < t.length → -12 ≤ t.getD k 0 := fun t ht => by
  have := flat_ok (okLits_iff.1 h).2 ht
  exact ⟨by have := (okTerm_len this).2; omega, low_memC fun _ hn => ok_low this hn⟩
theorem applyC_short {ar : List Int} {b : List (List Int)} {c : List Lt} (hb : lens40 b) (hc : okLits ar c = true) : shortC (applyC b c) := by
  obtain ⟨h8, hok⟩ := okLits_iff.1 hc
  refine ⟨by simp [applyC]; omega, fun j hj => ?_⟩
  have hj' : j < c.length := by simpa [applyC] using hj
  obtain ⟨o1, o2⟩ := okLits_get hok j hj'
  have l1 := appT_len hb (c.getD j lt0).2.1
  have l2 := appT_len hb (c.getD j lt0).2.2
  have k1 := (okTerm_len o1).2
  have k2 := (okTerm_len o2).2
  have e : (applyC b c).getD j lt0 = ((c.getD j lt0).1, appT b (c.getD j lt0).2.1, appT b (c.getD j lt0).2.2) := by simp [applyC, List.getD, hj']
  rw [e]
  exact ⟨by show (appT b _).length ≤ _; omega, by show (appT b _).length ≤ _; omega⟩

set_option maxRecDepth 100000 in
set_option maxHeartbeats 1000000 in
theorem sApplyClause_t {l h l' h' l2 h2 : Nat} {v u x : Value} {ar : List Int} {b : List (List Int)} {c : List Lt} {w : World} (ha : ar.length ≤ 1048576) (hv : SlI l h w v ar) (hb : short b) (hu : SlS l' h' w u b) (hc : sumC c ≤ 1048576) (hx : SlC l2 h2 w x c) :
    Calls Tryz.prog 27 #[.agg #[v], u, x] w (RetCB w (applyCAns ar b c) (applyCok ar b c)) := by
  unfold applyCAns applyCok
  cases hs : goodSubst ar b with
  | false =>
    rw [Bool.false_and, Bool.false_and, if_neg (by simp)]
    have HS := Lib.hid hs; clear hs
    go_enter Tryz.func27, Tryz.ntmps27
    go_wp2_with fail
    refine (sGoodSubst_v _ _ _ _ _ _ ar b false _ HS.out ha (hv.alloc _) hb (hu.alloc _)).mono ?_; rintro e w1 ⟨rfl, hb1⟩
    go_wp2_with fail
    go_ret2
    exact ⟨_, _, _, rfl, OwnC.nil _ _ _, hb1.of_alloc⟩
  | true =>
    rw [Bool.true_and]
    have hg := (goodSubst_iff.1 hs).1
    have hl12 := (goodSubst_iff.1 hs).2.1
    have h40 := goodSubst_len40 hs
    have HS := Lib.hid hs; clear hs
    cases hq : okLits ar c with
    | false =>
      rw [Bool.false_and, if_neg (by simp)]
      have HQ := Lib.hid hq; clear hq hl12
      have hsc := shortC_of_sum hc
      go_enter Tryz.func27, Tryz.ntmps27
      go_wp2_with fail
      refine (sGoodSubst_v _ _ _ _ _ _ ar b true _ HS.out ha (hv.alloc _) hb (hu.alloc _)).mono ?_; rintro e w1 ⟨rfl, hb1⟩
      have hbox := boxc hb1 0 _ rfl
      go_wp2_with fail
      refine (l4Clause_v _ _ _ _ _ _ ar c false _ HQ.out hg hsc (hv.below hb1.of_alloc) (hx.below hb1.of_alloc)).mono ?_; rintro e w2 ⟨rfl, hb2⟩
      go_wp2_with fail
      go_ret2
      exact ⟨_, _, _, rfl, OwnC.nil _ _ _, hb1.of_alloc.step hb2⟩
    | true =>
      rw [Bool.true_and]
      have hsa := applyC_short h40 hq
      have hfr := flat_rows hq
      have hsc := shortC_of_sum hc
      have HA := Lib.hid (fun (w' : World) (hb' : Bel w w') => l4Apply_c _ _ _ _ _ _ b c w' hl12 h40 hsc.1 hfr (hu.below hb') (hx.below hb'))
      have HM := Lib.hid (fun (w' : World) (y : Value) (hb' : Bel w w') (hy : OwnC w.heap.size w'.heap.size w' y (applyC b c)) => l4Made_c _ _ _ _ _ y ar (applyC b c) w' hg hsa (hv.below hb') hy)
      have HQ := Lib.hid hq; clear hq hl12 hfr hsa
      generalize applyC b c = r at *
      generalize okLits ar r = q2 at *
      generalize (if q2 = true then r else []) = r2 at *
      go_enter Tryz.func27, Tryz.ntmps27
      go_wp2_with fail
      refine (sGoodSubst_v _ _ _ _ _ _ ar b true _ HS.out ha (hv.alloc _) hb (hu.alloc _)).mono ?_; rintro e w1 ⟨rfl, hb1⟩
      have hbox := boxc hb1 0 _ rfl
      go_wp2_with fail
      refine (l4Clause_v _ _ _ _ _ _ ar c true _ HQ.out hg hsc (hv.below hb1.of_alloc) (hx.below hb1.of_alloc)).mono ?_; rintro e w2 ⟨rfl, hb2⟩
      have hbox2 := hb2.at (World.block_lt_of_cell? _ ⟨_, _, none⟩ hbox) hbox
      have HB2 := hb1.of_alloc.step hb2
      go_wp2_with fail
      have HD2 := HB2.drew
      have hbox3 := (Bel.drew0 w2).at (World.block_lt_of_cell? _ ⟨_, _, none⟩ hbox2) hbox2
      go_region_held3 (fun w' => w'.cell? ⟨w.heap.size, 0, none⟩ = some v)
        (first | exact hbox5 | exact hbox4 | exact hbox3 | fail)
        (first | (go_at_call 61; refine (HM.out _ _ HB3 (ho3.mono HD2.size (Nat.le_refl _))).mono ?_; rintro e w4 ⟨a4, n4, c4, rfl, ho4, hb4⟩; have hbox5 := hb4.at (World.block_lt_of_cell? _ ⟨_, _, none⟩ hbox4) hbox4) | (go_at_call 62; refine (HA.out _ HD2).mono ?_; rintro e w3 ⟨a3, n3, c3, rfl, ho3, hb3⟩; have HB3 := HD2.step hb3; have hbox4 := hb3.at (World.block_lt_of_cell? _ ⟨_, _, none⟩ hbox3) hbox3) | fail)
      have hz4 := hb4.size
      go_wp2_with fail
      go_ret2
      exact ⟨_, _, _, rfl, ho4.mono (Nat.le_refl _) hz4, HB3.step hb4⟩

set_option maxRecDepth 100000 in
set_option maxHeartbeats 1000000 in
theorem iApplyClause_t {l h l' h' l2 h2 : Nat} {v u x : Value} {ar : List Int} {b : List (List Int)} {c : List Lt} {w : World} (ha : ar.length ≤ 1048576) (hv : SlI l h w v ar) (hb : short b) (hu : SlS l' h' w u b) (hc : sumC c ≤ 1048576) (hx : SlC l2 h2 w x c) :
    Calls Tryz.prog 26 #[.agg #[v], u, x] w (RetCB w (applyCAns ar b c) (applyCok ar b c)) := by
  unfold applyCAns applyCok
  cases hs : goodSubst ar b with
  | false =>
    rw [Bool.false_and, Bool.false_and, if_neg (by simp)]
    have HS := Lib.hid hs; clear hs
    go_enter Tryz.func26, Tryz.ntmps26
    go_wp2_with fail
    refine (iGoodSubst_v _ _ _ _ _ _ ar b false _ HS.out ha (hv.alloc _) hb (hu.alloc _)).mono ?_; rintro e w1 ⟨rfl, hb1⟩
    go_wp2_with fail
    go_ret2
    exact ⟨_, _, _, rfl, OwnC.nil _ _ _, hb1.of_alloc⟩
  | true =>
    rw [Bool.true_and]
    have hg := (goodSubst_iff.1 hs).1
    have hl12 := (goodSubst_iff.1 hs).2.1
    have h40 := goodSubst_len40 hs
    have hs0 := hs
    have HS := Lib.hid hs; clear hs
    have hgc : goodClause ar c = okLits ar c := by unfold goodClause; rw [hg, Bool.true_and]
    cases hq : okLits ar c with
    | false =>
      rw [Bool.false_and, if_neg (by simp)]
      rw [hq] at hgc
      have HQ := Lib.hid hgc; clear hq hl12 hgc hs0
      go_enter Tryz.func26, Tryz.ntmps26
      go_wp2_with fail
      refine (iGoodSubst_v _ _ _ _ _ _ ar b true _ HS.out ha (hv.alloc _) hb (hu.alloc _)).mono ?_; rintro e w1 ⟨rfl, hb1⟩
      have hbox := boxc hb1 0 _ rfl
      go_wp2_with fail
      refine (iGoodClause_v HQ.out ha (hv.below hb1.of_alloc) hc (hx.below hb1.of_alloc)).mono ?_; rintro e w2 ⟨rfl, hb2⟩
      go_wp2_with fail
      go_ret2
      exact ⟨_, _, _, rfl, OwnC.nil _ _ _, hb1.of_alloc.step hb2⟩
    | true =>
      rw [Bool.true_and]
      have hok := applyC_ok hs0 hq
      have hfr := flat_rows hq
      rw [hq] at hgc
      have hle := sumC_len c
      have HA := Lib.hid (fun (w' : World) (hb' : Bel w w') => appliedClause_c _ _ _ _ _ _ b c w' hl12 h40 (by omega) hfr (hu.below hb') (hx.below hb') _ _ hok.symm rfl)
      have HQ := Lib.hid hgc; clear hq hl12 hfr hok hgc hs0 hle
      generalize okLits ar (applyC b c) = q2 at *
      generalize (if q2 = true then applyC b c else []) = r2 at *
      go_enter Tryz.func26, Tryz.ntmps26
      go_wp2_with fail
      refine (iGoodSubst_v _ _ _ _ _ _ ar b true _ HS.out ha (hv.alloc _) hb (hu.alloc _)).mono ?_; rintro e w1 ⟨rfl, hb1⟩
      have hbox := boxc hb1 0 _ rfl
      go_wp2_with fail
      refine (iGoodClause_v HQ.out ha (hv.below hb1.of_alloc) hc (hx.below hb1.of_alloc)).mono ?_; rintro e w2 ⟨rfl, hb2⟩
      have HB2 := hb1.of_alloc.step hb2
      go_wp2_with fail
      refine (HA.out _ HB2).mono ?_; rintro e w3 ⟨a3, n3, c3, rfl, ho3, hb3⟩
      go_wp2_with fail
      go_ret2
      exact ⟨_, _, _, rfl, ho3.mono HB2.size (Nat.le_refl _), HB2.step hb3⟩
theorem applyCAns_len (ar : List Int) (b : List (List Int)) (c : List Lt) : sumC (applyCAns ar b c) ≤ 1048576 := by
  unfold applyCAns
  split
  · rename_i hg
    unfold applyCok at hg
    simp only [Bool.and_eq_true] at hg
    obtain ⟨h8, hok⟩ := okLits_iff.1 hg.2
    rw [sumC_eq]
    unfold lenC
    have := sumL_le40 (flatC (applyC b c)) (fun t ht => (okTerm_len (flat_ok hok ht)).2)
    rw [flatC_len] at this
    omega
  · simp [sumC]
end Go.Proofs.YteegjnobmbcjiaaGreatDoor
end
