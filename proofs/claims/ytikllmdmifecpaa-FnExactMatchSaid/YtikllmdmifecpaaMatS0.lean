/- Match: the reference's. -/
import Derived.Test.YtikllmdmifecpaaMat
import Derived.Test.YtikllmdmifecpaaSame
namespace Go.Proofs.Ytikllmdmifecpaa
open Go.RowKit Go.Maps

set_option maxRecDepth 100000 in
theorem l1Part_r (l h l' h' : Nat) (v u : Value) (ar t : List Int) (i q : Nat) (w : World) (hg : goodSign ar = true) (ht : t.length ≤ 1048576) (hi : i < t.length) (he : endOf ar t i = some q) (hq1 : i < q) (hq2 : q ≤ t.length) (hv : SlI l h w v ar) (hu : SlI l' h' w u t) :
    Calls Try.prog 121 #[.agg #[v], u, .int .i64 i] w (RetR w (partOf t i q)) := by
  obtain ⟨b, off, cap, rfl, hcap⟩ := hu.plain (by omega)
  have HE := Lib.hid he
  clear he
  have hpl : (partOf t i q).length ≤ 1048576 := by rw [partOf_len t i q hq2]; omega
  have hq3 : (i : Int) < q := by omega
  have hq4 : (q : Int) ≤ t.length := by omega
  go_enter Try.func121, Try.ntmps121
  go_wp2_with fail
  refine (l1End_v _ _ _ _ _ _ ar t i q _ HE.out hg ht (by omega) (hv.alloc _) (hu.alloc _)).mono ?_; rintro e w1 ⟨rfl, hb1⟩
  go_wp2_with fail
  refine (l1Own_r _ _ _ (partOf t i q) _ hpl ((hu.below hb1.of_alloc).cut i q (by omega) hq2)).mono ?_; rintro e w2 ⟨ad, n, c, rfl, ho, hb2⟩
  go_wp2_with fail
  go_ret
  exact ⟨_, _, _, rfl, row_mono ho (by have := hb1.size; simp at this; omega), hb1.of_alloc.step hb2⟩

def rawL (F : Nat → List Int) : List (List Int) := (List.range 12).map F
theorem rawL_len (F : Nat → List Int) : (rawL F).length = 12 := by simp [rawL]
theorem rawL_get (F : Nat → List Int) (v : Nat) (hv : v < 12) : (rawL F).getD v [] = F v := by simp [rawL, List.getD, hv]
theorem rawL_set (F : Nat → List Int) (v : Nat) (hv : v < 12) (x : List Int) : (rawL F).set v x = rawL (upd F v x) := by
  apply List.ext_getElem?
  intro i
  rw [List.getElem?_set]
  unfold rawL upd
  by_cases e : v = i
  · subst e; simp [hv]
  · by_cases hi : i < 12
    · have h1 : (List.range 12)[i]? = some i := by simp [hi]
      rw [if_neg e, List.getElem?_map, List.getElem?_map, h1]
      simp only [Option.map_some]
      rw [if_neg (Ne.symm e)]
    · rw [if_neg e, List.getElem?_eq_none (by simp; omega), List.getElem?_eq_none (by simp; omega)]
/-- The array of the terms found, in block B. -/
def Arr (base B : Nat) (tag : Nat → Nat) (w : World) (us : List Value) (F : Nat → List Int) : Prop :=
  us.length = 12 ∧ OwnT base tag 2 22 w (.slice (some ⟨B, 0, none⟩) 12 12) us ∧ InT base tag 3 w us (rawL F)
theorem Arr.bel {base B : Nat} {tag : Nat → Nat} {w w' : World} {us : List Value} {F : Nat → List Int} (h : Arr base B tag w us F) (hb : Bel w w') : Arr base B tag w' us F := ⟨h.1, h.2.1.bel hb, h.2.2.bel hb⟩
theorem Arr.all {base B : Nat} {tag tag' : Nat → Nat} {w w' : World} {us : List Value} {F : Nat → List Int} (h : Arr base B tag w us F) (k : ∀ t' e' u zs, OwnT base tag t' e' w u zs → OwnT base tag' t' e' w' u zs) : Arr base B tag' w' us F := ⟨h.1, k _ _ _ _ h.2.1, h.2.2.all k⟩
theorem Arr.cell {base B : Nat} {tag : Nat → Nat} {w : World} {us : List Value} {F : Nat → List Int} (h : Arr base B tag w us F) (v : Nat) (hv : v < 12) :
    ∃ a c, w.cell? ⟨B, v, none⟩ = some (.slice a (F v).length c) ∧ us[v]? = some (.slice a (F v).length c) ∧ w.frozen? ⟨B, v, none⟩ = false ∧ OwnT base tag (10 + v) 3 w (.slice a (F v).length c) ((F v).map (Value.int .i64)) := by
  obtain ⟨hl, hO, hI⟩ := h
  have hOr := hO.1
  rw [hl] at hOr
  have hu : us[v]? = some us[v] := List.getElem?_eq_getElem (by omega)
  have hi := hI.2 v _ hu
  rw [rawL_get F v hv] at hi
  obtain ⟨a, n, c, e⟩ := own_form hi.1
  rw [e] at hi hu
  have hn := row_len hi.1
  rw [List.length_map] at hn
  subst hn
  exact ⟨a, c, (hOr.cellAt v (by omega)).trans hu, hu, hOr.frozenAt v, hi⟩
theorem Arr.set {base B : Nat} {tag tag' : Nat → Nat} {w w' : World} {us : List Value} {F : Nat → List Int} {x : List Int} {u : Value} (h : Arr base B tag w us F) (v : Nat) (hv : v < 12)
    (hall : ∀ t' e' u zs, OwnT base tag t' e' w u zs → OwnT base tag' t' e' w' u zs) (hu : OwnT base tag' (10 + v) 3 w' u (x.map (Value.int .i64))) : Arr base B tag' (w'.setCell ⟨B, v, none⟩ u) (us.set v u) (upd F v x) := by
  obtain ⟨hl, hO, hI⟩ := h
  have hst := tag_store (hall _ _ _ _ hO) v u
  refine ⟨by simpa using hl, hst.1, ?_⟩
  rw [← rawL_set F v hv]
  exact (hI.put v (by omega) hall hu).step (by omega) hst.2
theorem Arr.fresh {base B : Nat} {tag : Nat → Nat} {w : World} (h : OwnT base tag 2 22 w (.slice (some ⟨B, 0, none⟩) 12 12) (List.replicate 12 (Value.slice none 0 0))) : Arr base B tag w (List.replicate 12 (Value.slice none 0 0)) (fun _ => []) := by
  refine ⟨by simp, h, by simp [rawL], fun j u hj => ?_⟩
  have hlt := (List.getElem?_eq_some_iff.1 hj).1
  rw [List.getElem?_replicate, if_pos (by simpa using hlt)] at hj
  simp at hj
  subst hj
  rw [show (rawL (fun _ => [])).getD j [] = [] from by rw [rawL_get _ _ (by simpa using hlt)]]
  exact OwnT.nil _ _ _ _ _
def RetL2 (base B : Nat) (R : Option (Nat → List Int)) (w : World) (e : Ending) (w' : World) : Prop :=
  Chg B (B+1) w w' ∧ match R with
    | none => e = .returned (.tuple #[.slice none 0 0, .bool false])
    | some F => e = .returned (.tuple #[.slice (some ⟨B, 0, none⟩) 12 12, .bool true]) ∧ ∃ tag us, Arr base B tag w' us F

set_option maxRecDepth 100000 in
set_option maxHeartbeats 1000000 in
theorem l2Match_c (base B : Nat) (tag0 : Nat → Nat) (us0 : List Value) (v x y : Value) (ar p t : List Int) (w : World) (hbB : base ≤ B) (hg : goodSign ar = true) (hop : okTerm ar p = true) (hot : okTerm ar t = true) (hA : Arr base B tag0 w us0 (fun _ => [])) (hv : SlI 0 base w v ar) (hx : SlI 0 base w x p) (hy : SlI 0 base w y t) :
    Calls Try.prog 72 #[.agg #[v], .slice (some ⟨B, 0, none⟩) 12 12, x, y] w (RetL2 base B (matchR ar p t) w) := by
  have hP0 := Pair2.start hop hot
  have hp40 := ((okTerm_iff _ _).1 hop).2.1
  have ht40 := ((okTerm_iff _ _).1 hot).2.1
  have hlow := okTerm_low hop
  obtain ⟨xa, xc, rfl⟩ := hx.form
  obtain ⟨ya, yc, rfl⟩ := hy.form
  have hBl : B < w.heap.size := hA.2.1.lt rfl
  have hR0 : matchR ar p t = matchGo ar t (p.drop 0) 0 (fun _ => []) := by rw [List.drop_zero]; rfl
  generalize hR : matchR ar p t = R at *
  clear hR
  go_enter Try.func72, Try.ntmps72
  go_wp2_with fail
  go_loopw [10, 11] (fun i a wr => ∃ (k j : Nat) (F : Nat → List Int) (tag : Nat → Nat) (us : List Value), k ≤ p.length ∧ i = .int .i64 k ∧ a = .int .i64 j ∧ j ≤ t.length ∧ Arr base B tag wr us F ∧ (∀ v, (F v).length ≤ 40) ∧ Pair2 ar p t k j ∧ R = matchGo ar t (p.drop k) j F ∧ Chg B (B+1) (w.alloc (.cells #[v] 29)) wr) (fun i _ _ => p.length - (intOf i).toNat)
  case atStart => exact ⟨0, 0, _, tag0, us0, Nat.zero_le _, rfl, rfl, Nat.zero_le _, hA.bel (Bel.alloc0 _ _), by simp, hP0, hR0, Chg.refl _ _ _⟩
  case round =>
    clear hA hP0 hR0
    obtain ⟨k, j, F, tag, us, hk, rfl, rfl, hj, hA, hF40, hP, hRk, hch⟩ := hrel
    have hbox : wr.cell? ⟨w.heap.size, 0, none⟩ = some v := hch.cell (by simp) (by omega) (by rw [World.cell?_alloc_new w]; rfl)
    have hvr := (hv.alloc (.cells #[v] 29)).chg hch (by omega)
    have hxr := (hx.alloc (.cells #[v] 29)).chg hch (by omega)
    have hyr := (hy.alloc (.cells #[v] 29)).chg hch (by omega)
    have hsz := hch.size
    simp only [World.size_alloc] at hsz
    have hchw := (Chg.of_bel (lo := B) (hi := B+1) (Bel.alloc0 w (.cells #[v] 29))).trans hch
    by_cases hlt : k < p.length
    · obtain ⟨b1, off1, rfl, -, hc⟩ := hxr.at k hlt
      have hjl := hP.lt hlt
      obtain ⟨b2, off2, rfl, -, hct⟩ := hyr.at j hjl
      have hn12 := hlow k hlt
      have hPs := hP.sym hlt
      have hPv := hP.var hlt
      have hkl2 : (k : Int) < p.length := by omega
      have hjl2 : (j : Int) < t.length := by omega
      rw [drop_cons p k hlt] at hRk
      generalize hn : p.getD k 0 = n at *
      by_cases hn0 : 0 ≤ n
      · have hd : decide (0 ≤ n) = true := by simpa using hn0
        clear hPv
        have hw33 := IntWalk.i64_in ((k : Int) + 1) (by omega)
        have hw35 := IntWalk.i64_in ((j : Int) + 1) (by omega)
        by_cases hne : t.getD j 0 = n
        · rw [mg_sym hn0 hne] at hRk
          have hP1 := hPs hne
          rw [hne] at hct
          have hne2 : (n != n) = false := by simp
          have HF := Lib.hid (And.intro hRk (And.intro hP1 hA))
          clear hRk hP1 hA hPs hne
          go_wp2_with fail
          go_quiet (fail)
          go_wp2_with fail
          go_roundw
          case rel => exact ⟨k+1, j+1, F, tag, us, by omega, by go_num, by go_num, by omega, HF.out.2.2.bel ((Bel.rfl' _).drewN _), hF40, HF.out.2.1, HF.out.1, hch.trans (Chg.of_bel ((Bel.rfl' _).drewN _))⟩
          case measure => simp [intOf]; omega
        · rw [mg_symno hn0 hne] at hRk
          have HR := Lib.hid hRk
          have hne2 : (n != t.getD j 0) = true := by simpa using fun h => hne h.symm
          clear hRk hPs hne hA
          generalize t.getD j 0 = tj at *
          go_wp2_with fail
          go_quiet (fail)
          go_wp2_with fail
          go_ret2
          exact ⟨hchw.trans (Chg.of_bel ((Bel.rfl' _).drewN _)), by rw [HR.out]; rfl⟩
      · have hd : decide (0 ≤ n) = false := by simp; omega
        clear hPs
        obtain ⟨e, he, hje, het, hP1⟩ := hPv (by omega)
        have hv12 : (-1 - n).toNat < 12 := by omega
        have hvn : ((-1 - n).toNat : Int) = -1 - n := by omega
        have hi0' : 0 ≤ -1 - n := by omega
        have hi1' : -1 - n < 12 := by omega
        have hpl' := partOf_len t j e het
        have hmv := mg_var (ar := ar) (t := t) (r := p.drop (k+1)) (n := n) (j := j) (F := F) hn0 he
        have hmn := mg_varno (ar := ar) (t := t) (r := p.drop (k+1)) (n := n) (j := j) (F := F) hn0 he
        have hpart := l1Part_r _ _ _ _ _ _ ar t j e _ hg (by omega) hjl he hje het hvr hyr
        have hw40 := IntWalk.i64_in (-1 - n) (by omega)
        have hw65 := IntWalk.i64_in ((k : Int) + 1) (by omega)
        have hw69 := IntWalk.i64_in ((j : Int) + (partOf t j e).length) (by omega)
        have hjx : ((j : Int) + (partOf t j e).length) = (e : Int) := by omega
        have HT := Lib.hid hpart
        clear hpart he
        generalize partOf t j e = X at *
        have hX40 : X.length ≤ 40 := by omega
        clear hpl'
        go_wp2_with fail
        refine HT.out.mono ?_; rintro e' w3 ⟨ax, nx, cx, rfl, hX0, hb3⟩
        have hnx : nx = X.length := row_len hX0
        subst hnx
        obtain ⟨tag1, hX, hT1⟩ := tag_new (tag := tag) (base := base) (t := 10 + (-1 - n).toNat) (xs := X.map (Value.int .i64)) (by simpa using hX0) hb3 (by omega)
        have hA3 := hA.all hT1
        obtain ⟨au, cu, hcu, hus, hfu, hUr⟩ := hA3.cell _ hv12
        have hXs := hX.sl
        have hUs := hUr.sl
        have hF4v := hF40 (-1 - n).toNat
        by_cases hF0 : F (-1 - n).toNat = []
        · rw [hmv (.inl hF0)] at hRk
          rw [hF0] at hcu
          simp only [List.length_nil] at hcu
          have HF := Lib.hid (And.intro hRk (And.intro hP1 (And.intro hA3 (And.intro hX hF40))))
          clear hRk hP1 hA3 hX hmv hmn hF40 hA hF0 hUr hUs hus hX0 hT1
          go_wp2_with fail
          have hstp := HF.out.2.2.1.set _ hv12 (fun _ _ _ _ h => h) HF.out.2.2.2.1
          go_roundw
          case rel => exact ⟨k+1, e, _, tag1, _, by omega, by go_num, by first | rfl | (rw [hjx]), by omega, hstp, fun u => (by unfold upd; split; omega; exact HF.out.2.2.2.2 u), HF.out.2.1, HF.out.1, (hch.trans (Chg.of_bel hb3)).trans (Chg.set (lo := B) (hi := B+1) (p := ⟨B, (-1 - n).toNat, none⟩) _ (Nat.le_refl _) (Nat.lt_succ_self _) _)⟩
          case measure => simp [intOf]; omega
        · have hpos : 0 < (F (-1 - n).toNat).length := List.length_pos_iff.2 hF0
          by_cases hEq : F (-1 - n).toNat = X
          · rw [hmv (.inr hEq)] at hRk
            have HSm := Lib.hid (fun w' (h : Bel w3 w') => l1Same_v _ _ _ _ _ _ (F (-1 - n).toNat) X true w' (by simpa using hEq) (by omega) (by omega) (hUs.below h) (hXs.below h))
            have HF := Lib.hid (And.intro hRk (And.intro hP1 (And.intro hA3 (And.intro hX hF40))))
            clear hRk hP1 hA3 hX hmv hmn hF40 hA hF0 hUr hUs hXs hus hX0 hT1 hEq
            generalize (F (-1 - n).toNat).length = nu at *
            go_wp2_with fail
            refine (HSm.out _ (Bel.rfl' _)).mono ?_; rintro e' w4 ⟨rfl, hb4⟩
            have hfu4 := (World.frozen?_of_block (w := w3) (w' := w4) (a := ⟨B, (-1 - n).toNat, none⟩) (hb4.block B (by have := hb3.size; omega))).trans hfu
            have hcu4 := hb4.at (by have := hb3.size; omega) hcu
            go_wp2_with fail
            have hstp := (HF.out.2.2.1.bel hb4).set _ hv12 (fun _ _ _ _ h => h) (HF.out.2.2.2.1.bel hb4)
            go_roundw
            case rel => exact ⟨k+1, e, _, tag1, _, by omega, by go_num, by first | rfl | (rw [hjx]), by omega, hstp, fun u => (by unfold upd; split; omega; exact HF.out.2.2.2.2 u), HF.out.2.1, HF.out.1, (hch.trans (Chg.of_bel (hb3.step hb4))).trans (Chg.set (lo := B) (hi := B+1) (p := ⟨B, (-1 - n).toNat, none⟩) _ (Nat.le_refl _) (Nat.lt_succ_self _) _)⟩
            case measure => simp [intOf]; omega
          · rw [hmn (by rintro (h | h); exact hF0 h; exact hEq h)] at hRk
            have HSm := Lib.hid (fun w' (h : Bel w3 w') => l1Same_v _ _ _ _ _ _ (F (-1 - n).toNat) X false w' (by simpa using hEq) (by omega) (by omega) (hUs.below h) (hXs.below h))
            have HR := Lib.hid hRk
            clear hRk hP1 hA3 hX hmv hmn hF40 hA hF0 hUr hUs hXs hus hX0 hT1 hEq
            generalize (F (-1 - n).toNat).length = nu at *
            go_wp2_with fail
            refine (HSm.out _ (Bel.rfl' _)).mono ?_; rintro e' w4 ⟨rfl, hb4⟩
            go_wp2_with fail
            go_ret2
            exact ⟨hchw.trans (Chg.of_bel (hb3.step hb4)), by rw [HR.out]; rfl⟩
    · obtain rfl : k = p.length := by omega
      rw [List.drop_length, matchGo] at hRk
      have HR := Lib.hid (And.intro hRk hA)
      clear hRk hA hP
      go_wp2_with fail
      go_ret2
      exact ⟨hchw, by rw [HR.out.1]; exact ⟨rfl, tag, us, HR.out.2⟩⟩
end Go.Proofs.Ytikllmdmifecpaa
