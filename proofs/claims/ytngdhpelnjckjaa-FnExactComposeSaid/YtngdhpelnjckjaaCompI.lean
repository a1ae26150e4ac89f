/- Compose: the program's. -/
import Derived.Test.YtngdhpelnjckjaaComp
namespace Go.Proofs.Ytngdhpelnjckjaa
open Go.RowKit Go.Maps

set_option maxRecDepth 100000 in
set_option maxHeartbeats 1000000 in
theorem iCompose_t {l h l' h' l2 h2 : Nat} {v x y : Value} {ar : List Int} {a b : List (List Int)} {w : World} (ha : ar.length ≤ 1048576) (hv : SlI l h w v ar) (hba : short a) (hx : SlS l' h' w x a) (hbb : short b) (hy : SlS l2 h2 w y b) :
    Calls Try.prog 54 #[.agg #[v], x, y] w (RetSSB w (composeAns ar a b) (composeOk ar a b)) := by
  cases hs : goodSubst ar a with
  | false =>
    have e0 : composeOk ar a b = false := by simp [composeOk, hs]
    have E := Lib.hid (composeAns_no e0)
    have E2 := Lib.hid e0
    clear e0
    have HS := Lib.hid hs; clear hs
    go_enter Try.func54, Try.ntmps54
    go_wp2_with fail
    refine (iGoodSubst_v _ _ _ _ _ _ _ _ _ _ HS.out ha (hv.alloc _) hba (hx.alloc _)).mono ?_; rintro e w1 ⟨rfl, hb1⟩
    go_wp2_with fail
    go_ret2
    exact ⟨_, _, _, by rw [E2.out]; rfl, by rw [E.out]; exact OwnS.nil _ _ _, hb1.of_alloc⟩
  | true =>
    cases hs2 : goodSubst ar b with
    | false =>
      have e0 : composeOk ar a b = false := by simp [composeOk, hs2]
      have E := Lib.hid (composeAns_no e0)
      have E2 := Lib.hid e0
      clear e0
      have HS := Lib.hid (And.intro hs hs2); clear hs hs2
      go_enter Try.func54, Try.ntmps54
      go_wp2_with fail
      refine (iGoodSubst_v _ _ _ _ _ _ _ _ _ _ HS.out.1 ha (hv.alloc _) hba (hx.alloc _)).mono ?_; rintro e w1 ⟨rfl, hb1⟩
      have hx1 := boxc hb1 0 _ rfl
      go_wp2_with fail
      refine (iGoodSubst_v _ _ _ _ _ _ _ _ _ _ HS.out.2 ha (hv.below hb1.of_alloc) hbb (hy.below hb1.of_alloc)).mono ?_; rintro e w2 ⟨rfl, hb2⟩
      go_wp2_with fail
      go_ret2
      exact ⟨_, _, _, by rw [E2.out]; rfl, by rw [E.out]; exact OwnS.nil _ _ _, (hb1.step hb2).of_alloc⟩
    | true =>
      have hg := (goodSubst_iff.1 hs).1
      have hal := (goodSubst_iff.1 hs).2.1
      have hbl := (goodSubst_iff.1 hs2).2.1
      have hb40 := goodSubst_len40 hs2
      have hcok := fun v hv => compT_ok hs v hv
      have hapo := fun v hv => app_ok hs2 (compT_ok hs v hv)
      have HS := Lib.hid (And.intro hs hs2); clear hs hs2
      obtain ⟨xa, xc, rfl⟩ := hx.form
      rw [hal]
      go_enter Try.func54, Try.ntmps54
      have hmm := @run_makeMap Try.prog
      go_wp2_with fail
      refine (iGoodSubst_v _ _ _ _ _ _ _ _ _ _ HS.out.1 ha (hv.alloc _) hba ((hal ▸ hx).alloc _)).mono ?_; rintro e w1 ⟨rfl, hb1⟩
      have hx1 := boxc hb1 0 _ rfl
      go_wp2_with fail
      refine (iGoodSubst_v _ _ _ _ _ _ _ _ _ _ HS.out.2 ha (hv.below hb1.of_alloc) hbb (hy.below hb1.of_alloc)).mono ?_; rintro e w2 ⟨rfl, hb2⟩
      have hb12 := hb1.step hb2
      have hsz12 := hb12.size
      simp only [World.size_alloc] at hsz12
      clear hb1 hb2 hx1
      go_wp2_with fail
      have hM0 := MapV.made w2
      have hB0 : Bel (w.alloc (.cells #[v] 26)) (w2.alloc (.map #[] 0)) := hb12.alloc (.map #[] 0)
      go_loopw [26] (fun i wr => ∃ (k : Nat) (f : Nat → Option Value), k ≤ 12 ∧ i = .int .i64 k ∧ MapV wr w2.heap.size k f ∧ (∀ v, v < k → ∃ u lo hi, f v = some u ∧ SlI lo hi wr u (compF a b v) ∧ app40ok b (compT a v) = true) ∧ Bel (w.alloc (.cells #[v] 26)) wr) (fun i _ => 12 - (intOf i).toNat)
      case atStart => exact ⟨0, _, Nat.zero_le _, rfl, hM0, fun v hv => absurd hv (Nat.not_lt_zero _), hB0⟩
      case round =>
        clear hM0 hB0
        obtain ⟨k, f, hk, rfl, hM, hf, hb⟩ := hrel
        by_cases hlt : k < 12
        · obtain ⟨b1, off1, p, rfl, -, hc, hp⟩ := hx.at hb.of_alloc k (by omega)
          have hck := hcok k hlt
          have hlow := okTerm_low hck
          have h40t := ((okTerm_iff _ _).1 hck).2.1
          have hcf : compF a b k = appT b (compT a k) := rfl
          have hbad := fun h => compose_bad (ar := ar) (a := a) (b := b) hlt h
          have hctp := compT_pos (a := a) (v := k)
          have hctz := compT_zero (a := a) (v := k)
          generalize a.getD k [] = T at *
          obtain ⟨ap, cp, rfl⟩ := hp.form
          clear hck
          by_cases hpos : 0 < T.length
          · have hct := hctp hpos
            clear hctp hctz
            rw [hct] at hcf hlow h40t hbad
            have hnz2 : ((T.length : Int) == 0) = false := by rw [beq_eq_false_iff_ne]; omega
            cases h4 : app40ok b T with
            | false =>
              have e0 := hbad h4
              have E := Lib.hid (composeAns_no e0)
              have E2 := Lib.hid e0
              have H4 := Lib.hid h4
              clear e0 h4 hbad hf
              go_wp2_with fail
              refine (applied_c _ _ _ _ _ _ b T _ hbl hb40 (by omega) hlow (hy.below hb.of_alloc) hp).mono ?_; rintro e w3 ⟨ao, no, co, rfl, ho, hb3⟩
              rw [H4.out]
              go_wp2_with fail
              go_ret2
              exact ⟨_, _, _, by rw [E2.out]; rfl, by rw [E.out]; exact OwnS.nil _ _ _, (hb.of_alloc).step hb3⟩
            | true =>
              have h4n : ¬ 40 < (appT b T).length := fun h => by rw [(app40_no h).2] at h4; simp at h4
              have e40 := (app40_yes h4n).1
              have h4c : app40ok b (compT a k) = true := by rw [hct]; exact h4
              have H4 := Lib.hid (And.intro h4 (And.intro e40 (And.intro h4c hcf)))
              clear h4 hbad e40 h4c hcf
              go_wp2_with fail
              refine (applied_c _ _ _ _ _ _ b T _ hbl hb40 (by omega) hlow (hy.below hb.of_alloc) hp).mono ?_; rintro e w3 ⟨ao, no, co, rfl, ho, hb3⟩
              rw [H4.out.1]
              rw [H4.out.2.1] at ho
              have hb13 := (hb.of_alloc).step hb3
              obtain ⟨n, D, hn, hown, hK⟩ := hM.bel hb3
              go_wp2_with (at_mapUpdate; refine wpList_mapUpdate_own _ rfl _ _ _ 112 rfl 3 24 keyInt Try.underlying112 _ w2.heap.size n D rfl hown (by unfold maxLen; omega) _ _ _ rfl rfl (kv_key hlt) _ [] rfl ?_; intro w4 hown4 hgrow)
              have hM4 : MapV w4 w2.heap.size (k+1) (fun i => if i = k then some (.slice ao no co) else f i) := ⟨n+1, _, by omega, hown4, hK.put hown.isMap hlt _⟩
              have hch := chg_of_grown hgrow
              have hM3 : MapV w3 w2.heap.size k f := ⟨n, D, hn, hown, hK⟩
              go_roundw
              case rel =>
                refine ⟨k+1, _, by omega, by go_num, hM4, fun v hv => ?_, hch.bel (w0 := w.alloc (.cells #[v] 26)) (hb.step hb3) (by simp; omega)⟩
                by_cases e : v = k
                · subst e
                  exact ⟨_, _, _, if_pos rfl, by rw [H4.out.2.2.2]; exact ho.sl.chgMap hM3 hch, H4.out.2.2.1⟩
                · obtain ⟨u, lo, hi, h1, h2, h3⟩ := hf v (by omega)
                  exact ⟨u, lo, hi, by rw [if_neg e]; exact h1, (h2.below hb3).chgMap hM3 hch, h3⟩
              case measure => simp [intOf]; omega
          · have hp0 : T.length = 0 := by omega
            have hct := hctz hpos
            clear hctp hctz
            rw [hct] at hcf hlow h40t hbad
            rw [hp0] at hc
            clear hp
            have hw35 := IntWalk.i64_in (-1 - (k : Int)) (by omega)
            cases h4 : app40ok b [-1 - (k : Int)] with
            | false =>
              have e0 := hbad h4
              have E := Lib.hid (composeAns_no e0)
              have E2 := Lib.hid e0
              have H4 := Lib.hid h4
              clear e0 h4 hbad hf
              go_wp2_with fail
              refine (applied_c _ _ _ _ _ _ b [-1 - (k : Int)] _ hbl hb40 (by omega) hlow (hy.below ((hb.of_alloc).alloc (.cells #[.int .i64 (-1 - (k : Int))] 3))) (SlI.lit _ _)).mono ?_; rintro e w3 ⟨ao, no, co, rfl, ho, hb3⟩
              rw [H4.out]
              go_wp2_with fail
              go_ret2
              exact ⟨_, _, _, by rw [E2.out]; rfl, by rw [E.out]; exact OwnS.nil _ _ _, (((hb.of_alloc).alloc (.cells #[.int .i64 (-1 - (k : Int))] 3))).step hb3⟩
            | true =>
              have h4n : ¬ 40 < (appT b [-1 - (k : Int)]).length := fun h => by rw [(app40_no h).2] at h4; simp at h4
              have e40 := (app40_yes h4n).1
              have h4c : app40ok b (compT a k) = true := by rw [hct]; exact h4
              have H4 := Lib.hid (And.intro h4 (And.intro e40 (And.intro h4c hcf)))
              clear h4 hbad e40 h4c hcf
              go_wp2_with fail
              refine (applied_c _ _ _ _ _ _ b [-1 - (k : Int)] _ hbl hb40 (by omega) hlow (hy.below ((hb.of_alloc).alloc (.cells #[.int .i64 (-1 - (k : Int))] 3))) (SlI.lit _ _)).mono ?_; rintro e w3 ⟨ao, no, co, rfl, ho, hb3⟩
              rw [H4.out.1]
              rw [H4.out.2.1] at ho
              have hb13 := (((hb.of_alloc).alloc (.cells #[.int .i64 (-1 - (k : Int))] 3))).step hb3
              obtain ⟨n, D, hn, hown, hK⟩ := hM.bel hb3.of_alloc
              go_wp2_with (at_mapUpdate; refine wpList_mapUpdate_own _ rfl _ _ _ 112 rfl 3 24 keyInt Try.underlying112 _ w2.heap.size n D rfl hown (by unfold maxLen; omega) _ _ _ rfl rfl (kv_key hlt) _ [] rfl ?_; intro w4 hown4 hgrow)
              have hM4 : MapV w4 w2.heap.size (k+1) (fun i => if i = k then some (.slice ao no co) else f i) := ⟨n+1, _, by omega, hown4, hK.put hown.isMap hlt _⟩
              have hch := chg_of_grown hgrow
              have hM3 : MapV w3 w2.heap.size k f := ⟨n, D, hn, hown, hK⟩
              go_roundw
              case rel =>
                refine ⟨k+1, _, by omega, by go_num, hM4, fun v hv => ?_, hch.bel (w0 := w.alloc (.cells #[v] 26)) (hb.step hb3.of_alloc) (by simp; omega)⟩
                by_cases e : v = k
                · subst e
                  exact ⟨_, _, _, if_pos rfl, by rw [H4.out.2.2.2]; exact ho.sl.chgMap hM3 hch, H4.out.2.2.1⟩
                · obtain ⟨u, lo, hi, h1, h2, h3⟩ := hf v (by omega)
                  exact ⟨u, lo, hi, by rw [if_neg e]; exact h1, (h2.below hb3.of_alloc).chgMap hM3 hch, h3⟩
              case measure => simp [intOf]; omega
        · obtain rfl : k = 12 := by omega
          have hgood := fun v hv => (hf v hv).elim fun u h => h.elim fun lo h => h.elim fun hi h => h.2.2
          have e0 := compose_good HS.out.1 HS.out.2 hgood
          have E := Lib.hid (composeAns_yes e0)
          have E2 := Lib.hid e0
          have hF : ∀ v, v < 12 → (compF a b v).length ≤ 1048576 ∧ ∃ lo hi, SlI lo hi wr ((f v).getD (.slice none 0 0)) (compF a b v) := by
            intro v hv
            obtain ⟨u, lo, hi, h1, h2, h3⟩ := hf v hv
            refine ⟨?_, lo, hi, by rw [h1]; exact h2⟩
            simp [app40ok] at h3
            unfold compF; omega
          clear e0 hgood hf
          go_wp2_with fail
          refine (subst_c _ _ f (compF a b) _ hM hF).mono ?_; rintro e w3 ⟨ao, no, co, rfl, ho, hch⟩
          go_wp2_with fail
          go_ret2
          have hz := hb.size
          simp only [World.size_alloc] at hz
          exact ⟨_, _, _, by rw [E2.out]; rfl, by rw [E.out]; exact ho.mono (by omega) (Nat.le_refl _), hch.bel hb.of_alloc (by omega)⟩
end Go.Proofs.Ytngdhpelnjckjaa
