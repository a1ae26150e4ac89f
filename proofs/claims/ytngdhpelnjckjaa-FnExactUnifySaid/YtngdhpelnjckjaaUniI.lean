/- Unify: the program's. -/
import Derived.Test.YtngdhpelnjckjaaUniI1
import Derived.Test.YtngdhpelnjckjaaLeast
namespace Go.Proofs.Ytngdhpelnjckjaa
open Go.RowKit Go.Maps

theorem slI_len {lo hi : Nat} {w : World} {ad : Option Addr} {n c : Nat} {xs : List Int} (h : SlI lo hi w (.slice ad n c) xs) : n = xs.length := by
  obtain ⟨ad', c', e⟩ := h.form
  simp only [Value.slice.injEq] at e
  exact e.2.1
def IRel (ar a b : List Int) (R : Option (Nat → List Int)) (B : Nat) (w0 : World) (k : Nat) (p q : Value) (wr : World) : Prop :=
  ∃ (xs ys : List Int) (F : Nat → List Int) (f : Nat → Option Value) (m : Nat), m + 14 * k ≤ 182 ∧ k + cnt F 12 = 13 ∧ UInv ar a b xs ys F ∧ R = uniGo ar k xs ys F ∧ (∃ lo hi, SlI lo hi wr p xs) ∧ (∃ lo hi, SlI lo hi wr q ys) ∧ MapV wr B m f ∧ Holds wr f F ∧ Bel w0 wr

/-- The terms found, with the new one put into those of the first i variables. -/
def gotF (n : Int) (u : List Int) (F : Nat → List Int) (vs : List Int) : Nat → List Int := fun v => if (v : Int) ∈ vs then putFor n u (F v) else F v
theorem gotF_nil (n : Int) (u : List Int) (F : Nat → List Int) : gotF n u F [] = F := by funext v; simp [gotF]
theorem gotF_snoc (n : Int) (u : List Int) (F : Nat → List Int) (vs : List Int) (v : Nat) : gotF n u F (vs ++ [(v : Int)]) = upd (gotF n u F vs) v (putFor n u (F v)) := by
  funext i
  unfold gotF upd
  by_cases e : i = v
  · subst e; simp
  · have e2 : ¬ (i : Int) = (v : Int) := by omega
    rw [if_neg e]
    simp only [List.mem_append, List.mem_singleton, e2, or_false]
theorem gotF_end {n : Int} {u : List Int} {F : Nat → List Int} {vs : List Int} (h : ∀ v : Nat, v < 12 → (v : Int) ∉ vs → F v = []) (hlow : ∀ v, 12 ≤ v → F v = []) : gotF n u F vs = fun v => putFor n u (F v) := by
  funext v
  unfold gotF
  split
  · rfl
  · rename_i hv
    rcases Nat.lt_or_ge v 12 with h1 | h1
    · rw [h v h1 hv]; rfl
    · rw [hlow v h1]; rfl
theorem holds_some {w : World} {f : Nat → Option Value} {F : Nat → List Int} (h : Holds w f F) {v : Nat} (hv : v < 12) (hs : (f v).isSome = true) : F v ≠ [] ∧ ∃ u lo hi, f v = some u ∧ SlI lo hi w u (F v) := by
  rcases (h v hv).2 with ⟨_, e⟩ | h2
  · rw [e] at hs; simp at hs
  · exact h2
theorem holds_none {w : World} {f : Nat → Option Value} {F : Nat → List Int} (h : Holds w f F) {v : Nat} (hv : v < 12) (hs : ¬ (f v).isSome = true) : F v = [] := by
  rcases (h v hv).2 with ⟨e, _⟩ | ⟨_, u, _, _, e, _⟩
  · exact e
  · rw [e] at hs; simp at hs

set_option maxRecDepth 100000 in
set_option maxHeartbeats 1000000 in
theorem iUnify_t {l h l' h' l2 h2 : Nat} {v x y : Value} {ar a b : List Int} {w : World} (ha : ar.length ≤ 1048576) (hv : SlI l h w v ar) (hal : a.length ≤ 1048576) (hx : SlI l' h' w x a) (hbl : b.length ≤ 1048576) (hy : SlI l2 h2 w y b) :
    Calls Try.prog 50 #[.agg #[v], x, y] w (RetSSB w (unifyAns ar a b) (unifyOk ar a b)) := by
  cases hs : goodTerm ar a with
  | false =>
    have h0 : uniOk0 ar a b = false := by simp [uniOk0, hs]
    have E := Lib.hid (unify_no0 h0).1
    have E2 := Lib.hid (unify_no0 h0).2
    have HS := Lib.hid hs; clear hs h0
    go_enter Try.func50, Try.ntmps50
    go_wp2_with fail
    refine (iGoodTerm_v _ _ _ _ _ _ _ _ _ _ HS.out ha hal (hv.alloc _) (hx.alloc _)).mono ?_; rintro e w1 ⟨rfl, hb1⟩
    go_wp2_with fail
    go_ret2
    exact ⟨_, _, _, by rw [E2.out]; rfl, by rw [E.out]; exact OwnS.nil _ _ _, hb1.of_alloc⟩
  | true =>
    obtain ⟨hg, hop⟩ := goodTerm_iff.1 hs
    cases hs2 : okTerm ar b with
    | false =>
      have h0 : uniOk0 ar a b = false := by simp [uniOk0, hs2]
      have E := Lib.hid (unify_no0 h0).1
      have E2 := Lib.hid (unify_no0 h0).2
      have HS := Lib.hid (And.intro hs (show goodTerm ar b = false by simp [goodTerm, hs2])); clear hs hs2 h0
      go_enter Try.func50, Try.ntmps50
      go_wp2_with fail
      refine (iGoodTerm_v _ _ _ _ _ _ _ _ _ _ HS.out.1 ha hal (hv.alloc _) (hx.alloc _)).mono ?_; rintro e w1 ⟨rfl, hb1⟩
      have hx1 := boxc hb1 0 _ rfl
      go_wp2_with fail
      refine (iGoodTerm_v _ _ _ _ _ _ _ _ _ _ HS.out.2 ha hbl (hv.below hb1.of_alloc) (hy.below hb1.of_alloc)).mono ?_; rintro e w2 ⟨rfl, hb2⟩
      go_wp2_with fail
      go_ret2
      exact ⟨_, _, _, by rw [E2.out]; rfl, by rw [E.out]; exact OwnS.nil _ _ _, (hb1.step hb2).of_alloc⟩
    | true =>
      have h00 : uniOk0 ar a b = true := by simp [uniOk0, hs, hs2]
      have hU0 := UInv.start hop hs2
      have HS := Lib.hid (And.intro (And.intro hs (show goodTerm ar b = true by simp [goodTerm, hs2, hg])) h00); clear hs hs2 h00 hop
      have hmm := @run_makeMap Try.prog
      have hR0 : uniR ar a b = uniGo ar 13 a b (fun _ => []) := rfl
      generalize hR : uniR ar a b = R at *
      go_enter Try.func50, Try.ntmps50
      go_wp2_with fail
      refine (iGoodTerm_v _ _ _ _ _ _ _ _ _ _ HS.out.1.1 ha hal (hv.alloc _) (hx.alloc _)).mono ?_; rintro e w1 ⟨rfl, hb1⟩
      have hx1 := boxc hb1 0 _ rfl
      go_wp2_with fail
      refine (iGoodTerm_v _ _ _ _ _ _ _ _ _ _ HS.out.1.2 ha hbl (hv.below hb1.of_alloc) (hy.below hb1.of_alloc)).mono ?_; rintro e w2 ⟨rfl, hb2⟩
      have hb12 := hb1.step hb2
      have hsz12 := hb12.size
      simp only [World.size_alloc] at hsz12
      clear hb1 hb2 hx1
      go_wp2_with fail
      have hM0 := MapV.made w2
      have hB0 : Bel (w.alloc (.cells #[v] 26)) (w2.alloc (.map #[] 0)) := hb12.alloc (.map #[] 0)
      go_loopw [1, 2] (fun p q wr => ∃ k, IRel ar a b R w2.heap.size (w.alloc (.cells #[v] 26)) k p q wr) (fun p q wr => leastOf fun k => IRel ar a b R w2.heap.size (w.alloc (.cells #[v] 26)) k p q wr)
      case atStart => exact ⟨13, a, b, _, _, 0, by omega, by simp [cnt], hU0, hR0, ⟨_, _, hx.below hB0.of_alloc⟩, ⟨_, _, hy.below hB0.of_alloc⟩, hM0, Holds.start _, hB0⟩
      case round =>
        clear hM0 hB0 hU0 hR0
        obtain ⟨k, hIR, hleast⟩ := least_at hrel
        have HL := Lib.hid hleast
        clear hleast hrel
        obtain ⟨xs, ys, F, f, m, hm, hcnt, hU, hRk, ⟨lx, hx3, hxs⟩, ⟨ly, hy3, hys⟩, hM, hH, hb⟩ := hIR
        have hbox := boxc hb 0 _ rfl
        have hx40 := (okTerm_seq.1 hU.okx).1
        have hy40 := (okTerm_seq.1 hU.oky).1
        obtain ⟨xa, xc, rfl⟩ := hxs.form
        obtain ⟨ya, yc, rfl⟩ := hys.form
        have hc12 := cnt_le F 12
        obtain ⟨k, rfl⟩ : ∃ k', k = k' + 1 := ⟨k - 1, by omega⟩
        by_cases hEq : xs = ys
        · rw [ug_same hEq] at hRk
          have E := Lib.hid (unify_yes HS.out.2 (hR.trans hRk)).1
          have E2 := Lib.hid (unify_yes HS.out.2 (hR.trans hRk)).2
          have HSB := Lib.hid (fun w' (hbw : Bel wr w') => subst_c _ _ f F w' (hM.bel hbw) (hH.bel hbw).sub)
          have hdec : decide (xs = ys) = true := by simpa using hEq
          clear hRk hH hM hU hEq
          go_wp2_with fail
          refine (slEqual_v _ _ _ _ _ _ xs ys true _ hdec (by omega) (by omega) hxs hys).mono ?_; rintro e w3 ⟨rfl, hb3⟩
          go_wp2_with fail
          refine (HSB.out w3 hb3).mono ?_; rintro e w4 ⟨ao, no, co, rfl, ho, hch⟩
          go_wp2_with fail
          go_ret2
          have hz := (hb.step hb3).size
          simp only [World.size_alloc] at hz
          exact ⟨_, _, _, by rw [E2.out]; rfl, by rw [E.out]; exact ho.mono (by omega) (Nat.le_refl _), hch.bel (hb.step hb3).of_alloc (by omega)⟩
        · have hdec : decide (xs = ys) = false := by simpa using hEq
          obtain ⟨e0, hRo⟩ := uround hU hEq
          by_cases hbad : badU ar xs ys
          · rw [ug_bad hEq hbad] at hRk
            have E := Lib.hid (unify_no (hR.trans hRk)).1
            have E2 := Lib.hid (unify_no (hR.trans hRk)).2
            have HRp := Lib.hid (fun w' (hbw : Bel wr w') => replacement_c _ _ _ _ _ _ v _ _ ar xs ys e0 true w' hg hRo (by simp [hbad]) hx40 hy40 ((hv.below hb.of_alloc).below hbw) (hxs.below hbw) (hys.below hbw))
            clear hRk hH hM hU hEq hRo
            go_wp2_with fail
            refine (slEqual_v _ _ _ _ _ _ xs ys false _ hdec (by omega) (by omega) hxs hys).mono ?_; rintro e w3 ⟨rfl, hb3⟩
            have hbox3 := boxc (hb.step hb3) 0 _ rfl
            go_wp2_with fail
            refine (HRp.out w3 hb3).mono ?_; rintro e w4 ⟨hb4, rfl⟩
            go_wp2_with fail
            go_ret2
            exact ⟨_, _, _, by rw [E2.out]; rfl, by rw [E.out]; exact OwnS.nil _ _ _, ((hb.step hb3).step hb4).of_alloc⟩
          · have hok := uok hU hEq hbad
            have HRp := Lib.hid (fun w' (hbw : Bel wr w') => replacement_c _ _ _ _ _ _ v _ _ ar xs ys e0 false w' hg hRo (by simp [hbad]) hx40 hy40 ((hv.below hb.of_alloc).below hbw) (hxs.below hbw) (hys.below hbw))
            by_cases hlong : longU ar xs ys
            · rw [ug_long hEq hbad hlong] at hRk
              have E := Lib.hid (unify_no (hR.trans hRk)).1
              have E2 := Lib.hid (unify_no (hR.trans hRk)).2
              clear hRk hH hM hU hEq hRo hbad
              unfold longU at hlong
              generalize lowN xs ys = n at *
              generalize putU ar xs ys = u at *
              have hu40 := hok.u40
              have hup := hok.up
              clear hok
              go_wp2_with fail
              refine (slEqual_v _ _ _ _ _ _ xs ys false _ hdec (by omega) (by omega) hxs hys).mono ?_; rintro e w3 ⟨rfl, hb3⟩
              have hbox3 := boxc (hb.step hb3) 0 _ rfl
              go_wp2_with fail
              refine (HRp.out w3 hb3).mono ?_; rintro e w4 ⟨hb4, au, cu, lu, hu2, rfl, hus⟩
              go_wp2_with fail
              refine (iPutFor_c _ _ _ _ _ _ xs u n _ (by omega) hu40 hup (hxs.below (hb3.step hb4)) hus).mono ?_; rintro e w5 ⟨ax, nx, cx, rfl, hX, hb5⟩
              go_wp2_with fail
              refine (iPutFor_c _ _ _ _ _ _ ys u n _ (by omega) hu40 hup (hys.below ((hb3.step hb4).step hb5)) (hus.below hb5)).mono ?_; rintro e w6 ⟨ay, ny, cy, rfl, hY, hb6⟩
              have hnx := slI_len hX.sl
              have hny := slI_len hY.sl
              subst hnx hny
              have hbb := (((hb.step hb3).step hb4).step hb5).step hb6
              by_cases h1 : 40 < (putFor n u xs).length
              · have hd1 : decide (40 < ((putFor n u xs).length : Int)) = true := by simp; omega
                go_wp2_with fail
                go_ret2
                exact ⟨_, _, _, by rw [E2.out]; rfl, by rw [E.out]; exact OwnS.nil _ _ _, hbb.of_alloc⟩
              · have hd1 : decide (40 < ((putFor n u xs).length : Int)) = false := by simp; omega
                have hd2 : decide (40 < ((putFor n u ys).length : Int)) = true := by simp; omega
                go_wp2_with fail
                go_ret2
                exact ⟨_, _, _, by rw [E2.out]; rfl, by rw [E.out]; exact OwnS.nil _ _ _, hbb.of_alloc⟩
            · rw [ug_next hEq hbad hlong] at hRk
              have hUn := hok.next hlong
              have hl1 : ¬ 40 < (putFor (lowN xs ys) (putU ar xs ys) xs).length ∧ ¬ 40 < (putFor (lowN xs ys) (putU ar xs ys) ys).length := by unfold longU at hlong; omega
              clear hEq hRo hbad hlong
              generalize lowN xs ys = n at *
              generalize putU ar xs ys = u at *
              have hu40 := hok.u40
              have hup := hok.up
              have hnlo := hok.lo
              have hnneg := hok.neg
              have hmore := hok.more
              have hv12 : (-1 - n).toNat < 12 := by omega
              have hvn : ((-1 - n).toNat : Int) = -1 - n := by omega
              have hkk : keyOf Try.prog 3 (.int .i64 (-1 - n)) = some (kv (-1 - n).toNat) := by rw [← hvn]; exact kv_key hv12
              have hn40 := hUn.len40
              have hFlow := hU.low
              have hF40 := hU.len40
              have hU1 := Lib.hid (And.intro hU (And.intro hUn (And.intro hRk (And.intro hmore hok))))
              have hw73 := IntWalk.i64_in (-1 - n) (by omega)
              obtain ⟨hl1, hl2⟩ := hl1
              have hd1 : decide (40 < ((putFor n u xs).length : Int)) = false := by simp; omega
              have hd2 : decide (40 < ((putFor n u ys).length : Int)) = false := by simp; omega
              clear hU hUn hRk hok hmore
              go_wp2_with fail
              refine (slEqual_v _ _ _ _ _ _ xs ys false _ hdec (by omega) (by omega) hxs hys).mono ?_; rintro e w3 ⟨rfl, hb3⟩
              have hbox3 := boxc (hb.step hb3) 0 _ rfl
              go_wp2_with fail
              refine (HRp.out w3 hb3).mono ?_; rintro e w4 ⟨hb4, au, cu, lu, hu2, rfl, hus⟩
              go_wp2_with fail
              refine (iPutFor_c _ _ _ _ _ _ xs u n _ (by omega) hu40 hup (hxs.below (hb3.step hb4)) hus).mono ?_; rintro e w5 ⟨ax, nx, cx, rfl, hX, hb5⟩
              go_wp2_with fail
              refine (iPutFor_c _ _ _ _ _ _ ys u n _ (by omega) hu40 hup (hys.below ((hb3.step hb4).step hb5)) (hus.below hb5)).mono ?_; rintro e w6 ⟨ay, ny, cy, rfl, hY, hb6⟩
              have hnx := slI_len hX.sl
              have hny := slI_len hY.sl
              subst hnx hny
              have hbr := ((hb3.step hb4).step hb5).step hb6
              have hbb := hb.step hbr
              have hM6 := hM.bel hbr
              have hH6 := hH.bel hbr
              have hX6 := hX.sl.below hb6
              have hY6 := hY.sl
              have hu6 := (hus.below hb5).below hb6
              have hxe : xs.length ≤ 40 := hx40
              clear hM hH hX hY hus hxs hys hbr hb3 hb4 hb5 hb6 hbox3 hbox HRp hdec
              go_wp2_with fail
              refine (vars_c _ m f _ hM6).mono ?_; rintro e w7 ⟨av, nv, cv, vs, rfl, hV, hv12', hnd, hvv, hvs, hb7⟩
              have hnv := slI_len hV.sl
              subst hnv
              have hM7 := hM6.bel hb7
              have hH7 := hH6.bel hb7
              have hbb7 := hbb.step hb7
              have hsz7 := hbb7.size
              simp only [World.size_alloc] at hsz7
              have hbl7 := hM7.lt
              go_wp2_with fail
              go_loopw [58] (fun i wi => ∃ (j : Nat) (f' : Nat → Option Value), j ≤ vs.length ∧ i = .int .i64 j ∧ MapV wi w2.heap.size (m + j) f' ∧ Holds wi f' (gotF n u F (vs.take j)) ∧ (∀ g : Nat, g < 12 → (g : Int) ∉ vs.take j → f' g = f g) ∧ Chg w2.heap.size (w2.heap.size + 1) w7 wi) (fun i _ => vs.length - (intOf i).toNat)
              case atStart => exact ⟨0, f, Nat.zero_le _, rfl, hM7, by rw [List.take_zero, gotF_nil]; exact hH7, fun _ _ _ => rfl, Chg.refl _ _ _⟩
              case round =>
                obtain ⟨j, f', hj, rfl, hMi, hHi, hfi, hch⟩ := hrel
                by_cases hlt : j < vs.length
                · obtain ⟨bv, ov, rfl, -, hcv⟩ := (hV.sl.chgMap hM7 hch).at j hlt
                  obtain ⟨g, hg12, hgj⟩ := hvv (vs.getD j 0) (getD_mem hlt)
                  have hnot : (g : Int) ∉ vs.take j := by
                    rw [← hgj]
                    intro hm2
                    have hmd : vs.getD j 0 ∈ vs.drop j := by rw [List.drop_eq_getElem_cons hlt, show vs.getD j 0 = vs[j] from by simp [List.getD, hlt]]; exact List.mem_cons_self
                    have h1 := hnd
                    rw [← List.take_append_drop j vs, List.nodup_append] at h1
                    exact h1.2.2 _ hm2 _ hmd rfl
                  have htk : vs.take (j+1) = vs.take j ++ [(g : Int)] := by
                    rw [List.take_succ_eq_append_getElem hlt]
                    have : vs[j] = g := by simpa [List.getD, hlt] using hgj
                    rw [this]
                  rw [hgj] at hcv
                  have hfg := hfi g hg12 hnot
                  have hgs : (f g).isSome = true := (hvs g hg12).1 (by rw [← hgj]; exact getD_mem hlt)
                  obtain ⟨hne, ug, lg, hg2, hfu, hgu⟩ := holds_some hH7 hg12 hgs
                  have hguw := hgu.chgMap hM7 hch
                  have hlook := hMi.look hg12
                  rw [hfg, hfu] at hlook
                  simp only [Option.getD_some] at hlook
                  have hput40 : (putFor n u (F g)).length ≤ 40 := by
                    have := hn40 g
                    unfold nextF upd at this
                    split at this
                    · rename_i e
                      exfalso
                      have := hU1.out.2.2.2.2.free
                      rw [← e] at this
                      exact hne this
                    · exact this
                  have hFg40 := hF40 g
                  have hgot := gotF_snoc n u F (vs.take j) g
                  rw [← htk] at hgot
                  have huw := (hu6.below hb7).chgMap hM7 hch
                  obtain ⟨ag, cg, rfl⟩ := hguw.form
                  have hjl : (j : Int) < vs.length := by omega
                  have HG := Lib.hid (And.intro hgot (And.intro hput40 (And.intro hne (And.intro hHi hfi))))
                  clear hgot hput40 hne hHi hfi
                  go_wp2_with fail
                  refine (iPutFor_c _ _ _ _ _ _ (F g) u n _ (by omega) hu40 hup hguw huw).mono ?_; rintro e w8 ⟨ap, np, cp, rfl, hP, hb8⟩
                  have hMi8 := hMi.bel hb8
                  obtain ⟨n9, D9, hn9, hown9, hK9⟩ := hMi8
                  go_wp2_with (at_mapUpdate; refine wpList_mapUpdate_own _ rfl _ _ _ 112 rfl 3 24 keyInt Try.underlying112 _ w2.heap.size n9 D9 rfl hown9 (by unfold maxLen; omega) _ _ _ rfl rfl (kv_key hg12) _ [] rfl ?_; intro w10 hown10 hgrow)
                  have hch10 := chg_of_grown hgrow
                  have hM10 : MapV w10 w2.heap.size (m + (j + 1)) (upd f' g (some (.slice ap np cp))) := ⟨n9+1, _, by omega, hown10, hK9.put hown9.isMap hg12 _⟩
                  obtain ⟨hgot, hput40, hne, hHi, hfi⟩ := HG.out
                  have hP10 := hP.sl.chgMap (hMi.bel hb8) hch10
                  have hH10 := ((hHi.bel hb8).chg (hMi.bel hb8) hch10).put g _ (putFor n u (F g)) _ _ hput40 (List.length_pos_iff.2 (putFor_ne (List.length_pos_iff.1 hup) hne)) hP10
                  go_roundw
                  case rel => exact ⟨j+1, _, by omega, by go_num, hM10, by rw [hgot]; exact hH10, fun g' hg' hn' => (by
                    rw [htk] at hn'
                    have h1 : (g' : Int) ∉ vs.take j := fun h => hn' (List.mem_append_left _ h)
                    have h2 : g' ≠ g := fun h => hn' (by rw [h]; simp)
                    rw [upd_other _ _ h2]; exact hfi g' hg' h1), (hch.trans (Chg.of_bel hb8)).trans hch10⟩
                  case measure => simp [intOf]; omega
                · obtain rfl : j = vs.length := by omega
                  rw [List.take_length, gotF_end (fun g hg hn' => holds_none hH7 hg (fun h => hn' ((hvs g hg).2 h))) hFlow] at hHi
                  have hMi0 := hMi
                  obtain ⟨n9, D9, hn9, hown9, hK9⟩ := hMi
                  go_wp2_with (at_mapUpdate; refine wpList_mapUpdate_own _ rfl _ _ _ 112 rfl 3 24 keyInt Try.underlying112 _ w2.heap.size n9 D9 rfl hown9 (by unfold maxLen; omega) _ _ _ rfl rfl hkk _ [] rfl ?_; intro w10 hown10 hgrow)
                  have hch10 := chg_of_grown hgrow
                  have hM10 : MapV w10 w2.heap.size (m + vs.length + 1) (upd f' (-1 - n).toNat (some (.slice au u.length cu))) := ⟨n9+1, _, by omega, hown10, hK9.put hown9.isMap hv12 _⟩
                  have huw := ((hu6.below hb7).chgMap hM7 hch).chgMap hMi0 hch10
                  have hH10 := (hHi.chg hMi0 hch10).put (-1 - n).toNat _ u _ _ hu40 hup huw
                  have hX10 := ((hX6.below hb7).chgMap hM7 hch).chgMap hMi0 hch10
                  have hY10 := ((hY6.below hb7).chgMap hM7 hch).chgMap hMi0 hch10
                  obtain ⟨hU, hUn, hRk, hmore, hok⟩ := hU1.out
                  have hbN : Bel (w.alloc (.cells #[v] 26)) w10 := (hch.trans hch10).bel hbb7 (by simp; omega)
                  have HN := Lib.hid (show IRel ar a b R w2.heap.size (w.alloc (.cells #[v] 26)) k (.slice ax (putFor n u xs).length cx) (.slice ay (putFor n u ys).length cy) w10 from
                    ⟨_, _, nextF n u F, _, m + vs.length + 1, by omega, by omega, hUn, hRk, ⟨_, _, hX10⟩, ⟨_, _, hY10⟩, hM10, hH10, hbN⟩)
                  refine ⟨?_, ?measure⟩
                  iterate 90 (try apply Exists.intro)
                  refine ⟨?rel, rfl⟩
                  case rel => exact ⟨k, HN.out⟩
                  case measure => exact least_lt HN.out (Nat.lt_succ_self _) HL.out
end Go.Proofs.Ytngdhpelnjckjaa
