/- Compose: the reference's. -/
import Derived.Test.YtngdhpelnjckjaaComp
namespace Go.Proofs.Ytngdhpelnjckjaa
open Go.RowKit Go.Maps

set_option maxRecDepth 100000 in
set_option maxHeartbeats 1000000 in
theorem sCompose_t {l h l' h' l2 h2 : Nat} {v x y : Value} {ar : List Int} {a b : List (List Int)} {w : World} (ha : ar.length ≤ 1048576) (hv : SlI l h w v ar) (hba : short a) (hx : SlS l' h' w x a) (hbb : short b) (hy : SlS l2 h2 w y b) :
    Calls Try.prog 62 #[.agg #[v], x, y] w (RetSSB w (composeAns ar a b) (composeOk ar a b)) := by
  cases hs : goodSubst ar a with
  | false =>
    have e0 : composeOk ar a b = false := by simp [composeOk, hs]
    have E := Lib.hid (composeAns_no e0)
    have E2 := Lib.hid e0
    clear e0
    have HS := Lib.hid hs; clear hs
    go_enter Try.func62, Try.ntmps62
    go_wp2_with fail
    refine (sGoodSubst_v _ _ _ _ _ _ _ _ _ _ HS.out ha (hv.alloc _) hba (hx.alloc _)).mono ?_; rintro e w1 ⟨rfl, hb1⟩
    go_wp2_with fail
    go_ret2
    exact ⟨_, _, _, by rw [E2.out]; rfl, by rw [E.out]; exact OwnS.nil _ _ _, hb1.of_alloc⟩
  | true =>
    cases hs2 : goodSubst ar b with
    | false =>
      have e0 : composeOk ar a b = false := by simp [composeOk, hs2]
      have E := Lib.hid (composeAns_no e0)
      have E2 := Lib.hid e0
      clear e0
      have HS := Lib.hid (And.intro hs hs2); clear hs hs2
      go_enter Try.func62, Try.ntmps62
      go_wp2_with fail
      refine (sGoodSubst_v _ _ _ _ _ _ _ _ _ _ HS.out.1 ha (hv.alloc _) hba (hx.alloc _)).mono ?_; rintro e w1 ⟨rfl, hb1⟩
      have hx1 := boxc hb1 0 _ rfl
      go_wp2_with fail
      refine (sGoodSubst_v _ _ _ _ _ _ _ _ _ _ HS.out.2 ha (hv.below hb1.of_alloc) hbb (hy.below hb1.of_alloc)).mono ?_; rintro e w2 ⟨rfl, hb2⟩
      go_wp2_with fail
      go_ret2
      exact ⟨_, _, _, by rw [E2.out]; rfl, by rw [E.out]; exact OwnS.nil _ _ _, (hb1.step hb2).of_alloc⟩
    | true =>
      have hg := (goodSubst_iff.1 hs).1
      have hal := (goodSubst_iff.1 hs).2.1
      have hbl := (goodSubst_iff.1 hs2).2.1
      have hb40 := goodSubst_len40 hs2
      have hcok := fun v hv => compT_ok hs v hv
      have hapo := fun v hv => app_ok hs2 (compT_ok hs v hv)
      have HS := Lib.hid (And.intro hs hs2); clear hs hs2
      obtain ⟨xa, xc, rfl⟩ := hx.form
      rw [hal]
      go_enter Try.func62, Try.ntmps62
      go_wp2_with fail
      refine (sGoodSubst_v _ _ _ _ _ _ _ _ _ _ HS.out.1 ha (hv.alloc _) hba ((hal ▸ hx).alloc _)).mono ?_; rintro e w1 ⟨rfl, hb1⟩
      have hx1 := boxc hb1 0 _ rfl
      go_wp2_with fail
      refine (sGoodSubst_v _ _ _ _ _ _ _ _ _ _ HS.out.2 ha (hv.below hb1.of_alloc) hbb (hy.below hb1.of_alloc)).mono ?_; rintro e w2 ⟨rfl, hb2⟩
      have hb12 := hb1.step hb2
      have hsz12 := hb12.size
      simp only [World.size_alloc] at hsz12
      clear hb1 hb2 hx1
      obtain ⟨i0, hi, hz0, hz1, hz2⟩ := info_parts Try.info24
      go_wp2_with (at_make; refine wpList_make_full _ rfl _ _ 53 rfl w2.heap.size 24 i0 (.slice none 0 0) 1 Try.underlying53 hi hz0 hz1 _ _ _ _ 12 rfl rfl rfl rfl (by rw [hz2]; omega) (by unfold maxLen; omega) (Nat.le_refl _) ?_; intro w3 hown hg)
      have hB0 : Bel (w.alloc (.cells #[v] 26)) w3 := hb12.grown hg (by simp)
      have hO1 : OwnT w2.heap.size (fun _ => 2) 2 24 w3 (.slice (some ⟨w2.heap.size, 0, none⟩) 12 12) (List.replicate 12 (Value.slice none 0 0)) := by
        refine ⟨?_, fun _ _ => rfl⟩
        have hz3 : (madeCells (Value.slice none 0 0).cells (12 * 1)).toList = List.replicate 12 (Value.slice none 0 0) := by
          rw [Nat.mul_one]; show (madeCells #[_] _).toList = _; rw [toList_madeCells_one]
        rw [hz3] at hown
        simpa using hown
      have hI0 : InT w2.heap.size (fun _ => 2) 3 w3 (List.replicate 12 (Value.slice none 0 0)) (partL (compF a b) (castL (List.range 0))) := by
        show InT _ _ _ _ _ (partL (compF a b) [])
        rw [partL_nil]
        refine ⟨by simp, fun j u hj => ?_⟩
        have hlt := (List.getElem?_eq_some_iff.1 hj).1
        rw [List.getElem?_replicate, if_pos (by simpa using hlt)] at hj
        simp at hj
        subst hj
        rw [getD_rep]
        exact OwnT.nil _ _ _ _ _
      have hs3 : w2.heap.size < w3.heap.size := hO1.lt rfl
      clear hown hg
      go_loopw [25] (fun i wr => ∃ (k : Nat) (tag : Nat → Nat) (us : List Value), k ≤ 12 ∧ i = .int .i64 k ∧ us.length = 12 ∧ OwnT w2.heap.size tag 2 24 wr (.slice (some ⟨w2.heap.size, 0, none⟩) 12 12) us ∧ InT w2.heap.size tag 3 wr us (partL (compF a b) (castL (List.range k))) ∧ (∀ v, v < k → app40ok b (compT a v) = true) ∧ w3.heap.size ≤ wr.heap.size ∧ Bel (w.alloc (.cells #[v] 26)) wr) (fun i _ => 12 - (intOf i).toNat)
      case atStart => exact ⟨0, _, _, Nat.zero_le _, rfl, by simp, hO1, hI0, fun v hv => absurd hv (Nat.not_lt_zero _), Nat.le_refl _, hB0⟩
      case round =>
        clear hO1 hI0 hB0
        obtain ⟨k, tag, us, hk, rfl, hul, hO, hI, hgood, hszr, hb⟩ := hrel
        have hbox := boxc hb 0 _ rfl
        by_cases hlt : k < 12
        · obtain ⟨b1, off1, p, rfl, -, hc, hp⟩ := hx.at hb.of_alloc k (by omega)
          have hck := hcok k hlt
          have hap := hapo k hlt
          have hlow := okTerm_low hck
          have h40t := ((okTerm_iff _ _).1 hck).2.1
          have hcf : compF a b k = appT b (compT a k) := rfl
          have hbad := fun h => compose_bad (ar := ar) (a := a) (b := b) hlt h
          have hctp := compT_pos (a := a) (v := k)
          have hctz := compT_zero (a := a) (v := k)
          have hset := partL_snoc (compF a b) (castL (List.range k)) k hlt
          rw [← castL_range] at hset
          generalize a.getD k [] = T at *
          obtain ⟨ap, cp, rfl⟩ := hp.form
          clear hck
          have hlt64 : (k : Int) < 12 := by omega
          by_cases hpos : 0 < T.length
          · have hct := hctp hpos
            clear hctp hctz
            rw [hct] at hcf hlow h40t hbad hap
            have hnz2 : ((T.length : Int) == 0) = false := by rw [beq_eq_false_iff_ne]; omega
            have hal2 := appT_len hb40 T
            cases h4 : app40ok b T with
            | false =>
              have e0 := hbad h4
              have E := Lib.hid (composeAns_no e0)
              have E2 := Lib.hid e0
              have H4 := Lib.hid (hap.trans h4)
              clear e0 h4 hbad hgood hap
              go_wp2_with fail
              refine (l2Apply_r _ _ _ _ _ _ b T _ hbl hb40 (by omega) hlow (hy.below (hb).of_alloc) hp).mono ?_; rintro e w4 ⟨ao, no, co, rfl, hX0, hb4⟩
              have hno : no = (appT b T).length := row_len hX0
              subst hno
              obtain ⟨tag1, hX, hT1⟩ := tag_new (tag := tag) (base := w2.heap.size) (t := 10 + k) (xs := (appT b T).map (Value.int .i64)) (by simpa using hX0) hb4 (by first | omega | (simp; omega))
              have hO4 := hT1 _ _ _ _ hO
              have hI4 := hI.all hT1
              have hb14 := (hb).step hb4
              have hbox4 := boxc hb14 0 _ rfl
              have hXs := hX.sl
              go_wp2_with fail
              refine (l1Term_v _ _ _ _ _ _ ar (appT b T) false _ H4.out hg (by omega) (hv.below hb14.of_alloc) hXs).mono ?_; rintro e w5 ⟨rfl, hb5⟩
              go_wp2_with fail
              go_ret2
              exact ⟨_, _, _, by rw [E2.out]; rfl, by rw [E.out]; exact OwnS.nil _ _ _, (hb14.step hb5).of_alloc⟩
            | true =>
              have h4c : app40ok b (compT a k) = true := by rw [hct]; exact h4
              have H4 := Lib.hid (And.intro (hap.trans h4) (And.intro h4c (And.intro hset hcf)))
              clear h4 hbad h4c hcf hset hap
              go_wp2_with fail
              refine (l2Apply_r _ _ _ _ _ _ b T _ hbl hb40 (by omega) hlow (hy.below (hb).of_alloc) hp).mono ?_; rintro e w4 ⟨ao, no, co, rfl, hX0, hb4⟩
              have hno : no = (appT b T).length := row_len hX0
              subst hno
              obtain ⟨tag1, hX, hT1⟩ := tag_new (tag := tag) (base := w2.heap.size) (t := 10 + k) (xs := (appT b T).map (Value.int .i64)) (by simpa using hX0) hb4 (by first | omega | (simp; omega))
              have hO4 := hT1 _ _ _ _ hO
              have hI4 := hI.all hT1
              have hb14 := (hb).step hb4
              have hbox4 := boxc hb14 0 _ rfl
              have hXs := hX.sl
              go_wp2_with fail
              refine (l1Term_v _ _ _ _ _ _ ar (appT b T) true _ H4.out.1 hg (by omega) (hv.below hb14.of_alloc) hXs).mono ?_; rintro e w5 ⟨rfl, hb5⟩
              by_cases hst0 : appT b T = [-1 - (k : Int)]
              · have hsF : Hid (stayF (compF a b) k = []) := by show _ = _; unfold stayF; rw [if_pos (by rw [H4.out.2.2.2]; exact hst0)]
                have HY := Lib.hid (l2Stay_y _ _ _ (appT b T) k w5 hlt hst0 (hXs.below hb5))
                clear hst0 hX hXs
                go_wp2_with fail
                refine HY.out.mono ?_; rintro e w6 ⟨rfl, hb6⟩
                have hO5 := hO4.bel (hb5.step hb6)
                have hO5r := hO5.1
                rw [hul] at hO5r
                have hcell5 := hO5r.cellAt k (by omega)
                rw [List.getElem?_eq_getElem (by omega)] at hcell5
                have hfr5 := hO5r.frozenAt k
                have hI5 := hI4.put k (by omega) (u := .slice none 0 0) (xs := []) (fun t2 e2 u2 zs h => (h.bel (hb5.step hb6))) (OwnT.nil _ _ _ _ _)
                go_wp2_with fail
                have hst := tag_store hO5 k (.slice none 0 0)
                have hI6 := hI5.step (by omega) hst.2
                have hz6 := (hb4.step (hb5.step hb6)).size
                go_roundw
                case rel => exact ⟨k+1, tag1, us.set k (.slice none 0 0), by omega, by go_num, by simpa using hul, hst.1, by rw [← H4.out.2.2.1, hsF.out]; exact hI6, fun v hv => (by
                    by_cases e : v = k
                    · subst e; exact H4.out.2.1
                    · exact hgood v (by omega)), by simp at hz6 ⊢; omega, (hb14.step (hb5.step hb6)).setCell (p := ⟨w2.heap.size, k, none⟩) (by simp; omega) _⟩
                case measure => simp [intOf]; omega
              · have hsF : Hid (stayF (compF a b) k = appT b T) := by show _ = _; unfold stayF; rw [H4.out.2.2.2, if_neg hst0]
                have HY := Lib.hid (l2Stay_n _ _ _ (appT b T) k w5 hlt hst0 (hXs.below hb5))
                have hX6 := Lib.hid hX
                clear hst0 hX hXs
                go_wp2_with fail
                refine HY.out.mono ?_; rintro e w6 ⟨rfl, hb6⟩
                have hO5 := hO4.bel (hb5.step hb6)
                have hO5r := hO5.1
                rw [hul] at hO5r
                have hcell5 := hO5r.cellAt k (by omega)
                rw [List.getElem?_eq_getElem (by omega)] at hcell5
                have hfr5 := hO5r.frozenAt k
                have hI5 := hI4.put k (by omega) (u := .slice ao (appT b T).length co) (xs := appT b T) (fun t2 e2 u2 zs h => (h.bel (hb5.step hb6))) (hX6.out.bel (hb5.step hb6))
                go_wp2_with fail
                have hst := tag_store hO5 k (.slice ao (appT b T).length co)
                have hI6 := hI5.step (by omega) hst.2
                have hz6 := (hb4.step (hb5.step hb6)).size
                go_roundw
                case rel => exact ⟨k+1, tag1, us.set k (.slice ao (appT b T).length co), by omega, by go_num, by simpa using hul, hst.1, by rw [← H4.out.2.2.1, hsF.out]; exact hI6, fun v hv => (by
                    by_cases e : v = k
                    · subst e; exact H4.out.2.1
                    · exact hgood v (by omega)), by simp at hz6 ⊢; omega, (hb14.step (hb5.step hb6)).setCell (p := ⟨w2.heap.size, k, none⟩) (by simp; omega) _⟩
                case measure => simp [intOf]; omega
          · have hp0 : T.length = 0 := by omega
            have hct := hctz hpos
            clear hctp hctz
            rw [hct] at hcf hlow h40t hbad hap
            rw [hp0] at hc
            clear hp
            have hw35 := IntWalk.i64_in (-1 - (k : Int)) (by omega)
            have hal2 := appT_len hb40 [-1 - (k : Int)]
            cases h4 : app40ok b [-1 - (k : Int)] with
            | false =>
              have e0 := hbad h4
              have E := Lib.hid (composeAns_no e0)
              have E2 := Lib.hid e0
              have H4 := Lib.hid (hap.trans h4)
              clear e0 h4 hbad hgood hap
              go_wp2_with fail
              refine (l2Apply_r _ _ _ _ _ _ b [-1 - (k : Int)] _ hbl hb40 (by omega) hlow (hy.below ((hb.alloc (.cells #[.int .i64 (-1 - (k : Int))] 3))).of_alloc) (SlI.lit _ _)).mono ?_; rintro e w4 ⟨ao, no, co, rfl, hX0, hb4⟩
              have hno : no = (appT b [-1 - (k : Int)]).length := row_len hX0
              subst hno
              obtain ⟨tag1, hX, hT1⟩ := tag_new (tag := tag) (base := w2.heap.size) (t := 10 + k) (xs := (appT b [-1 - (k : Int)]).map (Value.int .i64)) (by simpa using hX0) hb4 (by first | omega | (simp; omega))
              have hO4 := hT1 _ _ _ _ (hO.alloc _)
              have hI4 := (hI.bel (Bel.alloc0 _ _)).all hT1
              have hb14 := ((hb.alloc (.cells #[.int .i64 (-1 - (k : Int))] 3))).step hb4
              have hbox4 := boxc hb14 0 _ rfl
              have hXs := hX.sl
              go_wp2_with fail
              refine (l1Term_v _ _ _ _ _ _ ar (appT b [-1 - (k : Int)]) false _ H4.out hg (by omega) (hv.below hb14.of_alloc) hXs).mono ?_; rintro e w5 ⟨rfl, hb5⟩
              go_wp2_with fail
              go_ret2
              exact ⟨_, _, _, by rw [E2.out]; rfl, by rw [E.out]; exact OwnS.nil _ _ _, (hb14.step hb5).of_alloc⟩
            | true =>
              have h4c : app40ok b (compT a k) = true := by rw [hct]; exact h4
              have H4 := Lib.hid (And.intro (hap.trans h4) (And.intro h4c (And.intro hset hcf)))
              clear h4 hbad h4c hcf hset hap
              go_wp2_with fail
              refine (l2Apply_r _ _ _ _ _ _ b [-1 - (k : Int)] _ hbl hb40 (by omega) hlow (hy.below ((hb.alloc (.cells #[.int .i64 (-1 - (k : Int))] 3))).of_alloc) (SlI.lit _ _)).mono ?_; rintro e w4 ⟨ao, no, co, rfl, hX0, hb4⟩
              have hno : no = (appT b [-1 - (k : Int)]).length := row_len hX0
              subst hno
              obtain ⟨tag1, hX, hT1⟩ := tag_new (tag := tag) (base := w2.heap.size) (t := 10 + k) (xs := (appT b [-1 - (k : Int)]).map (Value.int .i64)) (by simpa using hX0) hb4 (by first | omega | (simp; omega))
              have hO4 := hT1 _ _ _ _ (hO.alloc _)
              have hI4 := (hI.bel (Bel.alloc0 _ _)).all hT1
              have hb14 := ((hb.alloc (.cells #[.int .i64 (-1 - (k : Int))] 3))).step hb4
              have hbox4 := boxc hb14 0 _ rfl
              have hXs := hX.sl
              go_wp2_with fail
              refine (l1Term_v _ _ _ _ _ _ ar (appT b [-1 - (k : Int)]) true _ H4.out.1 hg (by omega) (hv.below hb14.of_alloc) hXs).mono ?_; rintro e w5 ⟨rfl, hb5⟩
              by_cases hst0 : appT b [-1 - (k : Int)] = [-1 - (k : Int)]
              · have hsF : Hid (stayF (compF a b) k = []) := by show _ = _; unfold stayF; rw [if_pos (by rw [H4.out.2.2.2]; exact hst0)]
                have HY := Lib.hid (l2Stay_y _ _ _ (appT b [-1 - (k : Int)]) k w5 hlt hst0 (hXs.below hb5))
                clear hst0 hX hXs
                go_wp2_with fail
                refine HY.out.mono ?_; rintro e w6 ⟨rfl, hb6⟩
                have hO5 := hO4.bel (hb5.step hb6)
                have hO5r := hO5.1
                rw [hul] at hO5r
                have hcell5 := hO5r.cellAt k (by omega)
                rw [List.getElem?_eq_getElem (by omega)] at hcell5
                have hfr5 := hO5r.frozenAt k
                have hI5 := hI4.put k (by omega) (u := .slice none 0 0) (xs := []) (fun t2 e2 u2 zs h => (h.bel (hb5.step hb6))) (OwnT.nil _ _ _ _ _)
                go_wp2_with fail
                have hst := tag_store hO5 k (.slice none 0 0)
                have hI6 := hI5.step (by omega) hst.2
                have hz6 := (hb4.step (hb5.step hb6)).size
                go_roundw
                case rel => exact ⟨k+1, tag1, us.set k (.slice none 0 0), by omega, by go_num, by simpa using hul, hst.1, by rw [← H4.out.2.2.1, hsF.out]; exact hI6, fun v hv => (by
                    by_cases e : v = k
                    · subst e; exact H4.out.2.1
                    · exact hgood v (by omega)), by simp at hz6 ⊢; omega, (hb14.step (hb5.step hb6)).setCell (p := ⟨w2.heap.size, k, none⟩) (by simp; omega) _⟩
                case measure => simp [intOf]; omega
              · have hsF : Hid (stayF (compF a b) k = appT b [-1 - (k : Int)]) := by show _ = _; unfold stayF; rw [H4.out.2.2.2, if_neg hst0]
                have HY := Lib.hid (l2Stay_n _ _ _ (appT b [-1 - (k : Int)]) k w5 hlt hst0 (hXs.below hb5))
                have hX6 := Lib.hid hX
                clear hst0 hX hXs
                go_wp2_with fail
                refine HY.out.mono ?_; rintro e w6 ⟨rfl, hb6⟩
                have hO5 := hO4.bel (hb5.step hb6)
                have hO5r := hO5.1
                rw [hul] at hO5r
                have hcell5 := hO5r.cellAt k (by omega)
                rw [List.getElem?_eq_getElem (by omega)] at hcell5
                have hfr5 := hO5r.frozenAt k
                have hI5 := hI4.put k (by omega) (u := .slice ao (appT b [-1 - (k : Int)]).length co) (xs := appT b [-1 - (k : Int)]) (fun t2 e2 u2 zs h => (h.bel (hb5.step hb6))) (hX6.out.bel (hb5.step hb6))
                go_wp2_with fail
                have hst := tag_store hO5 k (.slice ao (appT b [-1 - (k : Int)]).length co)
                have hI6 := hI5.step (by omega) hst.2
                have hz6 := (hb4.step (hb5.step hb6)).size
                go_roundw
                case rel => exact ⟨k+1, tag1, us.set k (.slice ao (appT b [-1 - (k : Int)]).length co), by omega, by go_num, by simpa using hul, hst.1, by rw [← H4.out.2.2.1, hsF.out]; exact hI6, fun v hv => (by
                    by_cases e : v = k
                    · subst e; exact H4.out.2.1
                    · exact hgood v (by omega)), by simp at hz6 ⊢; omega, (hb14.step (hb5.step hb6)).setCell (p := ⟨w2.heap.size, k, none⟩) (by simp; omega) _⟩
                case measure => simp [intOf]; omega
        · obtain rfl : k = 12 := by omega
          have e0 := compose_good HS.out.1 HS.out.2 hgood
          have E := Lib.hid (composeAns_yes e0)
          have E2 := Lib.hid e0
          rw [partL_all (compF a b) (castL (List.range 12)) (fun v hv hn => absurd (mem_castL.2 ⟨v, by simpa using hv, rfl⟩) hn)] at hI
          clear e0 hgood
          go_wp2_with fail
          go_ret2
          exact ⟨_, _, _, by rw [E2.out]; rfl, by rw [E.out]; exact (OwnS.of_tag hO hI (by omega)).mono (by omega) (Nat.le_refl _), hb.of_alloc⟩
end Go.Proofs.Ytngdhpelnjckjaa
