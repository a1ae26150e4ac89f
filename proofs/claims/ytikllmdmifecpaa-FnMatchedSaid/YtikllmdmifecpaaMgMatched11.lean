/- Texts merged, part 11. -/
import Derived.Test.YtikllmdmifecpaaMgMatched10
section
/- Match: the program's. -/
namespace Go.Proofs.Ytikllmdmifecpaa
open Go.RowKit Go.Maps

def RetAg (b m : Nat) (f : Nat → Option Value) (v : Nat) (x : Value) (q : Bool) (w : World) (e : Ending) (w' : World) : Prop := e = .returned (.bool q) ∧ MapV w' b (m+1) (upd f v (some x)) ∧ Chg b (b+1) w w'
set_option maxRecDepth 100000 in
set_option maxHeartbeats 400000 in
theorem agree_new (b m : Nat) (f : Nat → Option Value) (v : Nat) (x : Value) (t : List Int) (lo hi : Nat) (w : World) (hm : m ≤ 1000000) (hv12 : v < 12) (hM : MapV w b m f) (hx : SlI lo hi w x t) (hf : f v = none) :
    Calls Try.prog 124 #[.map (some b), .int .i64 v, x] w (RetAg b m f v x true w) := by
  have hlk := hM.lookOk hv12
  rw [hf] at hlk
  simp only [Option.getD_none, Option.isSome_none] at hlk
  obtain ⟨n, D, hn, hown, hK⟩ := hM
  obtain ⟨xa, xc, rfl⟩ := hx.form
  go_enter Try.func124, Try.ntmps124
  go_wp2_with (at_mapUpdate; refine wpList_mapUpdate_own _ rfl _ _ _ 88 rfl 3 22 keyInt Try.underlying88 _ b n D rfl hown (by unfold maxLen; omega) _ _ _ rfl rfl (kv_key hv12) _ [] rfl ?_; intro w4 hown4 hgrow)
  go_ret
  exact ⟨rfl, ⟨n+1, _, by omega, hown4, hK.put hown.isMap hv12 _⟩, chg_of_grown hgrow⟩
set_option maxRecDepth 100000 in
set_option maxHeartbeats 400000 in
theorem agree_old (b m : Nat) (f : Nat → Option Value) (v : Nat) (x u : Value) (t old : List Int) (lo hi lo2 hi2 : Nat) (q : Bool) (w : World) (hm : m ≤ 1000000) (hv12 : v < 12) (hM : MapV w b m f) (ht : t.length ≤ 40) (ho : old.length ≤ 40) (hx : SlI lo hi w x t) (hf : f v = some u) (hu : SlI lo2 hi2 w u old) (hq : decide (old = t) = q) :
    Calls Try.prog 124 #[.map (some b), .int .i64 v, x] w (RetAg b m f v x q w) := by
  have hlk := hM.lookOk hv12
  rw [hf] at hlk
  simp only [Option.getD_some, Option.isSome_some] at hlk
  have hM0 := hM
  obtain ⟨n, D, hn, hown, hK⟩ := hM
  obtain ⟨xa, xc, rfl⟩ := hx.form
  obtain ⟨ua, uc, rfl⟩ := hu.form
  go_enter Try.func124, Try.ntmps124
  go_wp2_with (at_mapUpdate; refine wpList_mapUpdate_own _ rfl _ _ _ 88 rfl 3 22 keyInt Try.underlying88 _ b n D rfl hown (by unfold maxLen; omega) _ _ _ rfl rfl (kv_key hv12) _ [] rfl ?_; intro w4 hown4 hgrow)
  have hch := chg_of_grown hgrow
  have hM4 : MapV w4 b (m+1) (upd f v (some (.slice xa t.length xc))) := ⟨n+1, _, by omega, hown4, hK.put hown.isMap hv12 _⟩
  refine (slEqual_v _ _ _ _ _ _ old t q _ hq (by omega) (by omega) (hu.chgMap hM0 hch) (hx.chgMap hM0 hch)).mono ?_; rintro e w5 ⟨rfl, hb5⟩
  cases q
  all_goals
    go_wp2_with fail
    go_ret
    exact ⟨rfl, hM4.bel hb5, hch.trans (Chg.of_bel hb5)⟩

/-- What the map holds, told by terms. -/
def Holds (w : World) (f : Nat → Option Value) (F : Nat → List Int) : Prop := ∀ v, v < 12 → (F v).length ≤ 40 ∧ ((F v = [] ∧ f v = none) ∨ (F v ≠ [] ∧ ∃ u lo hi, f v = some u ∧ SlI lo hi w u (F v)))
theorem Holds.start (w : World) : Holds w (fun _ => none) (fun _ => []) := fun v _ => ⟨by simp, .inl ⟨rfl, rfl⟩⟩
theorem Holds.bel {w w' : World} {f : Nat → Option Value} {F : Nat → List Int} (h : Holds w f F) (hb : Bel w w') : Holds w' f F := fun v hv => ⟨(h v hv).1, (h v hv).2.imp id fun ⟨a, u, lo, hi, e, s⟩ => ⟨a, u, lo, hi, e, s.below hb⟩⟩
theorem Holds.chg {w w' : World} {f : Nat → Option Value} {F : Nat → List Int} {b m : Nat} {f' : Nat → Option Value} (h : Holds w f F) (hM : MapV w b m f') (k : Chg b (b+1) w w') : Holds w' f F :=
  fun v hv => ⟨(h v hv).1, (h v hv).2.imp id fun ⟨a, u, lo, hi, e, s⟩ => ⟨a, u, lo, hi, e, s.chgMap hM k⟩⟩
theorem Holds.put {w : World} {f : Nat → Option Value} {F : Nat → List Int} (h : Holds w f F) (v : Nat) (x : Value) (t : List Int) (lo hi : Nat) (ht : t.length ≤ 40) (hp : 0 < t.length) (hx : SlI lo hi w x t) : Holds w (upd f v (some x)) (upd F v t) := by
  intro i hi'
  by_cases e : i = v
  · subst e
    rw [upd_same, upd_same]
    exact ⟨ht, .inr ⟨by intro h; rw [h] at hp; simp at hp, x, lo, hi, rfl, hx⟩⟩
  · rw [upd_other _ _ e, upd_other _ _ e]; exact h i hi'
theorem Holds.sub {w : World} {f : Nat → Option Value} {F : Nat → List Int} (h : Holds w f F) : ∀ v, v < 12 → (F v).length ≤ 1048576 ∧ ∃ lo hi, SlI lo hi w ((f v).getD (.slice none 0 0)) (F v) := by
  intro v hv
  obtain ⟨h1, h2⟩ := h v hv
  refine ⟨by omega, ?_⟩
  rcases h2 with ⟨e1, e2⟩ | ⟨_, u, lo, hi, e, s⟩
  · rw [e1, e2]; exact ⟨0, 0, SlI.nil 0 0 w⟩
  · rw [e]; exact ⟨lo, hi, s⟩

theorem Holds.same {w w' : World} {f : Nat → Option Value} {F : Nat → List Int} (h : Holds w f F) (k : ∀ lo hi u xs, SlI lo hi w u xs → SlI lo hi w' u xs) : Holds w' f F :=
  fun v hv => ⟨(h v hv).1, (h v hv).2.imp id fun ⟨a, u, lo, hi, e, s⟩ => ⟨a, u, lo, hi, e, k lo hi u _ s⟩⟩
/-- What a match leaves behind: the map of the found terms has been written, and nothing else. -/
def RetMt (b m : Nat) (R : Option (Nat → List Int)) (w : World) (e : Ending) (w' : World) : Prop :=
  ∃ m' f', e = .returned (.bool R.isSome) ∧ m ≤ m' ∧ m' ≤ m + 40 ∧ MapV w' b m' f' ∧ Chg b (b+1) w w' ∧ ∀ G, R = some G → Holds w' f' G

set_option maxRecDepth 100000 in
set_option maxHeartbeats 1000000 in
theorem match_c (b m : Nat) (f : Nat → Option Value) (F : Nat → List Int) {l h l' h' l2 h2 : Nat} {v x y : Value} {ar p t : List Int} {w : World} (hm0 : m ≤ 100000) (hg : goodSign ar = true) (hop : okTerm ar p = true) (hot : okTerm ar t = true) (hM0 : MapV w b m f) (hH0 : Holds w f F)
    (hv : SlI l h w v ar) (hx : SlI l' h' w x p) (hy : SlI l2 h2 w y t) (R : Option (Nat → List Int)) (hR : matchGo ar t p 0 F = R) :
    Calls Try.prog 75 #[.map (some b), .agg #[v], x, y] w (RetMt b m R w) := by
  have hP0 := Pair2.start hop hot
  have hp40 := ((okTerm_iff _ _).1 hop).2.1
  have ht40 := ((okTerm_iff _ _).1 hot).2.1
  have htp := ((okTerm_iff _ _).1 hot).1
  have hlow := okTerm_low hop
  have htl : t.length ≤ 1048576 := by omega
  have hR0 : R = matchGo ar t (p.drop 0) 0 F := by rw [List.drop_zero]; exact hR.symm
  have hbl := hM0.lt
  obtain ⟨xa, xc, rfl⟩ := hx.form
  obtain ⟨yb, yo, yc, rfl, hyc⟩ := hy.plain (by omega)
  have hM1 := hM0.bel (Bel.alloc0 w (.cells #[v] 29))
  have hH1 := hH0.bel (Bel.alloc0 w (.cells #[v] 29))
  have hbx0 := boxc (Bel.rfl' (w.alloc (.cells #[v] 29))) 0 _ rfl
  have hK0 : Chg b (b+1) w (w.alloc (.cells #[v] 29)) := Chg.of_bel (Bel.alloc0 _ _)
  have hz0 : w.heap.size + 1 ≤ (w.alloc (.cells #[v] 29)).heap.size := by simp
  clear hR hop hot hH0
  go_enter Try.func75, Try.ntmps75
  go_wp2_with fail
  go_loopw [9, 16] (fun a i wr => ∃ (k j m' : Nat) (f' : Nat → Option Value) (F' : Nat → List Int), k ≤ p.length ∧ i = .int .i64 k ∧ a = .int .i64 j ∧ j ≤ t.length ∧ m ≤ m' ∧ m' ≤ m + k ∧ MapV wr b m' f' ∧ Holds wr f' F' ∧ Pair2 ar p t k j ∧ R = matchGo ar t (p.drop k) j F' ∧ Chg b (b+1) w wr ∧ wr.cell? ⟨w.heap.size, 0, none⟩ = some v ∧ w.heap.size + 1 ≤ wr.heap.size) (fun _ i _ => p.length - (intOf i).toNat)
  case atStart => exact ⟨0, 0, m, f, F, Nat.zero_le _, rfl, rfl, Nat.zero_le _, Nat.le_refl _, Nat.le_refl _, hM1, hH1, hP0, hR0, hK0, hbx0, hz0⟩
  case round =>
    clear hH1 hP0 hR0 hM1 hbx0 hK0
    obtain ⟨k, j, m', f', F', hk, rfl, rfl, hj, hm1, hm2, hM, hH, hP, hRk, hKK, hbox, hsz⟩ := hrel
    have hvr := hv.chgMap hM0 hKK
    have hxr := hx.chgMap hM0 hKK
    have hyr := hy.chgMap hM0 hKK
    by_cases hlt : k < p.length
    · obtain ⟨b1, off1, rfl, -, hc⟩ := hxr.at k hlt
      have hjl := hP.lt hlt
      obtain ⟨yb2, yo2, e0, -, hct⟩ := hyr.at j hjl
      simp only [Option.some.injEq, Addr.mk.injEq] at e0
      obtain ⟨rfl, rfl, -⟩ := e0
      have hn12 := hlow k hlt
      have hPs := hP.sym hlt
      have hPv := hP.var hlt
      rw [drop_cons p k hlt] at hRk
      generalize hn : p.getD k 0 = n at *
      by_cases hn0 : 0 ≤ n
      · have hd : decide (0 ≤ n) = true := by simpa using hn0
        clear hPv
        by_cases hne : t.getD j 0 = n
        · rw [mg_sym hn0 hne] at hRk
          have hP1 := hPs hne
          rw [hne] at hct
          have hne2 : (n != n) = false := by simp
          have HF := Lib.hid (And.intro hRk (And.intro hP1 hH))
          clear hRk hP1 hH hPs hne
          have hw40 := IntWalk.i64_in ((j : Int) + 1) (by omega)
          go_wp2_with fail
          go_roundw
          case rel => exact ⟨k+1, j+1, m', f', F', by omega, by go_num, by go_num, by omega, hm1, by omega, hM, HF.out.2.2, HF.out.2.1, HF.out.1, hKK, hbox, hsz⟩
          case measure => simp [intOf]; omega
        · rw [mg_symno hn0 hne] at hRk
          have hne2 : (t.getD j 0 != n) = true := by simpa using hne
          subst hRk
          have HM := Lib.hid hM
          clear hPs hne hH hM
          generalize t.getD j 0 = tj at *
          go_wp2_with fail
          go_ret
          exact ⟨m', f', rfl, hm1, by omega, HM.out, hKK, fun G hG => by cases hG⟩
      · have hd : decide (0 ≤ n) = false := by simp; omega
        clear hPs
        obtain ⟨e, he, hje, het, hP1⟩ := hPv (by omega)
        have hv12 : (-1 - n).toNat < 12 := by omega
        have hvn : ((-1 - n).toNat : Int) = -1 - n := by omega
        have hcut := hyr.cut j e (by omega) het
        have hpl' := partOf_len t j e het
        have hx0 : SlI l2 h2 wr (.slice (some ⟨yb, yo + j, none⟩) (partOf t j e).length (yc - j)) (partOf t j e) := by rw [hpl']; exact hcut
        have hHv := hH _ hv12
        have hmv := mg_var (ar := ar) (t := t) (r := p.drop (k+1)) (n := n) (j := j) (F := F') hn0 he
        have hmn := mg_varno (ar := ar) (t := t) (r := p.drop (k+1)) (n := n) (j := j) (F := F') hn0 he
        have hte := termEnd_v _ _ _ _ _ _ ar t j e _ he hg htl hj hvr hyr
        have hje2 : (j : Int) < e := by omega
        have het2 : (e : Int) ≤ t.length := by omega
        have hje3 : (j : Int) ≤ e := by omega
        have hec : (e : Int) ≤ yc := by omega
        have hw50 := IntWalk.i64_in (-1 - n) (by omega)
        have HT := Lib.hid hte
        rw [← hpl'] at hcut
        clear hte he
        rcases hHv.2 with ⟨hF0, hf0⟩ | ⟨hF1, u, lo, hi, hf1, hu⟩
        · rw [hmv (.inl hF0)] at hRk
          have HAG := Lib.hid (fun w' (hbw : Bel wr w') => agree_new b m' f' (-1 - n).toNat _ (partOf t j e) l2 h2 w' (by omega) hv12 (hM.bel hbw) (hx0.below hbw) hf0)
          have HF := Lib.hid (And.intro hRk (And.intro hP1 hH))
          clear hRk hP1 hH hmv hmn hHv hF0 hf0
          go_wp2_with fail
          refine HT.out.mono ?_; rintro e' w3 ⟨rfl, hb3⟩
          go_wp2_with fail
          have HC := HAG.out w3 hb3
          rw [hvn, hpl'] at HC
          refine HC.mono ?_; rintro e' w4 ⟨rfl, hM4, hch⟩
          have hM3 := hM.bel hb3
          have hH4 : Holds w4 (upd f' (-1 - n).toNat (some (.slice (some ⟨yb, yo + j, none⟩) (e - j) (yc - j)))) (upd F' (-1 - n).toNat (partOf t j e)) := ((HF.out.2.2.bel hb3).chg hM3 hch).put _ _ (partOf t j e) l2 h2 (by omega) (by omega) (by rw [← hpl']; exact (hx0.below hb3).chgMap hM3 hch)
          have hK4 := (hKK.trans (Chg.of_bel hb3)).trans hch
          have hbox4 := hch.cell (by have := hb3.size; omega) (.inr (by omega)) (hb3.at (by omega) hbox)
          have hsz4 : w.heap.size + 1 ≤ w4.heap.size := by have := hb3.size; have := hch.size; omega
          go_wp2_with fail
          go_roundw
          case rel => exact ⟨k+1, e, m'+1, _, _, by omega, by go_num, rfl, by omega, by omega, by omega, hM4, hH4, HF.out.2.1, HF.out.1, hK4, hbox4, hsz4⟩
          case measure => simp [intOf]; omega
        · by_cases hEq : F' (-1 - n).toNat = partOf t j e
          · rw [hmv (.inr hEq)] at hRk
            have HAG := Lib.hid (fun w' (hbw : Bel wr w') => agree_old b m' f' (-1 - n).toNat _ u (partOf t j e) (F' (-1 - n).toNat) l2 h2 lo hi true w' (by omega) hv12 (hM.bel hbw) (by omega) hHv.1 (hx0.below hbw) hf1 (hu.below hbw) (by simpa using hEq))
            have HF := Lib.hid (And.intro hRk (And.intro hP1 hH))
            clear hRk hP1 hH hmv hmn hHv hF1 hf1 hEq hu
            go_wp2_with fail
            refine HT.out.mono ?_; rintro e' w3 ⟨rfl, hb3⟩
            go_wp2_with fail
            have HC := HAG.out w3 hb3
            rw [hvn, hpl'] at HC
            refine HC.mono ?_; rintro e' w4 ⟨rfl, hM4, hch⟩
            have hM3 := hM.bel hb3
            have hH4 : Holds w4 (upd f' (-1 - n).toNat (some (.slice (some ⟨yb, yo + j, none⟩) (e - j) (yc - j)))) (upd F' (-1 - n).toNat (partOf t j e)) := ((HF.out.2.2.bel hb3).chg hM3 hch).put _ _ (partOf t j e) l2 h2 (by omega) (by omega) (by rw [← hpl']; exact (hx0.below hb3).chgMap hM3 hch)
            have hK4 := (hKK.trans (Chg.of_bel hb3)).trans hch
            have hbox4 := hch.cell (by have := hb3.size; omega) (.inr (by omega)) (hb3.at (by omega) hbox)
            have hsz4 : w.heap.size + 1 ≤ w4.heap.size := by have := hb3.size; have := hch.size; omega
            go_wp2_with fail
            go_roundw
            case rel => exact ⟨k+1, e, m'+1, _, _, by omega, by go_num, rfl, by omega, by omega, by omega, hM4, hH4, HF.out.2.1, HF.out.1, hK4, hbox4, hsz4⟩
            case measure => simp [intOf]; omega
          · rw [hmn (by rintro (h | h); exact hF1 h; exact hEq h)] at hRk
            have HAG := Lib.hid (fun w' (hbw : Bel wr w') => agree_old b m' f' (-1 - n).toNat _ u (partOf t j e) (F' (-1 - n).toNat) l2 h2 lo hi false w' (by omega) hv12 (hM.bel hbw) (by omega) hHv.1 (hx0.below hbw) hf1 (hu.below hbw) (by simpa using hEq))
            subst hRk
            clear hP1 hH hmv hmn hHv hF1 hf1 hEq hu
            go_wp2_with fail
            refine HT.out.mono ?_; rintro e' w3 ⟨rfl, hb3⟩
            go_wp2_with fail
            have HC := HAG.out w3 hb3
            rw [hvn, hpl'] at HC
            refine HC.mono ?_; rintro e' w4 ⟨rfl, hM4, hch⟩
            have hK4 := (hKK.trans (Chg.of_bel hb3)).trans hch
            go_wp2_with fail
            go_ret
            exact ⟨_, _, rfl, by omega, by omega, hM4, hK4, fun G hG => by cases hG⟩
    · obtain rfl : k = p.length := by omega
      rw [List.drop_length, matchGo] at hRk
      subst hRk
      have HF := Lib.hid (And.intro hM hH)
      clear hH hM hP
      go_wp2_with fail
      go_ret
      exact ⟨m', f', rfl, hm1, by omega, HF.out.1, hKK, fun G hG => by cases hG; exact HF.out.2⟩

set_option maxRecDepth 100000 in
set_option maxHeartbeats 1000000 in
theorem iMatch_t {l h l' h' l2 h2 : Nat} {v x y : Value} {ar p t : List Int} {w : World} (ha : ar.length ≤ 1048576) (hv : SlI l h w v ar) (hpl : p.length ≤ 1048576) (hx : SlI l' h' w x p) (htl : t.length ≤ 1048576) (hy : SlI l2 h2 w y t) :
    Calls Try.prog 13 #[.agg #[v], x, y] w (RetSSB w (matchAns ar p t) (matchOk ar p t)) := by
  cases hs : goodTerm ar p with
  | false =>
    have h0 : matchOk0 ar p t = false := by simp [matchOk0, hs]
    have E := Lib.hid (match_no0 h0).1
    have E2 := Lib.hid (match_no0 h0).2
    have HS := Lib.hid hs; clear hs h0
    go_enter Try.func13, Try.ntmps13
    go_wp2_with fail
    refine (iGoodTerm_v _ _ _ _ _ _ _ _ _ _ HS.out ha hpl (hv.alloc _) (hx.alloc _)).mono ?_; rintro e w1 ⟨rfl, hb1⟩
    go_wp2_with fail
    go_ret2
    exact ⟨_, _, _, by rw [E2.out]; rfl, by rw [E.out]; exact OwnS.nil _ _ _, hb1.of_alloc⟩
  | true =>
    obtain ⟨hg, hop⟩ := goodTerm_iff.1 hs
    cases hs2 : okTerm ar t with
    | false =>
      have h0 : matchOk0 ar p t = false := by simp [matchOk0, hs2]
      have E := Lib.hid (match_no0 h0).1
      have E2 := Lib.hid (match_no0 h0).2
      have HS := Lib.hid (And.intro hs (show goodTerm ar t = false by simp [goodTerm, hs2])); clear hs hs2 h0
      go_enter Try.func13, Try.ntmps13
      go_wp2_with fail
      refine (iGoodTerm_v _ _ _ _ _ _ _ _ _ _ HS.out.1 ha hpl (hv.alloc _) (hx.alloc _)).mono ?_; rintro e w1 ⟨rfl, hb1⟩
      have hx1 := boxc hb1 0 _ rfl
      go_wp2_with fail
      refine (iGoodTerm_v _ _ _ _ _ _ _ _ _ _ HS.out.2 ha htl (hv.below hb1.of_alloc) (hy.below hb1.of_alloc)).mono ?_; rintro e w2 ⟨rfl, hb2⟩
      go_wp2_with fail
      go_ret2
      exact ⟨_, _, _, by rw [E2.out]; rfl, by rw [E.out]; exact OwnS.nil _ _ _, (hb1.step hb2).of_alloc⟩
    | true =>
      have h00 : matchOk0 ar p t = true := by simp [matchOk0, hs, hs2]
      have HS := Lib.hid (And.intro (And.intro hs (show goodTerm ar t = true by simp [goodTerm, hs2, hg])) h00)
      have hmm := @run_makeMap Try.prog
      have HMT := Lib.hid (fun (w' : World) (hb' : Bel w w') (R : Option (Nat → List Int)) (hR : matchGo ar t p 0 (fun _ => []) = R) => match_c w'.heap.size 0 (fun _ => none) (fun _ => []) (by omega) hg hop hs2 (MapV.made w') (Holds.start _) ((hv.below hb').alloc _) ((hx.below hb').alloc _) ((hy.below hb').alloc _) R hR)
      clear hs hs2 h00 hop
      generalize hR : matchR ar p t = R at *
      have HR : Hid (matchGo ar t p 0 (fun _ => []) = R) := hR
      go_enter Try.func13, Try.ntmps13
      go_wp2_with fail
      refine (iGoodTerm_v _ _ _ _ _ _ _ _ _ _ HS.out.1.1 ha hpl (hv.alloc _) (hx.alloc _)).mono ?_; rintro e w1 ⟨rfl, hb1⟩
      have hx1 := boxc hb1 0 _ rfl
      go_wp2_with fail
      refine (iGoodTerm_v _ _ _ _ _ _ _ _ _ _ HS.out.1.2 ha htl (hv.below hb1.of_alloc) (hy.below hb1.of_alloc)).mono ?_; rintro e w2 ⟨rfl, hb2⟩
      have hx2 := hb2.at (World.block_lt_of_cell? _ ⟨_, _, none⟩ hx1) hx1
      have hb12 := hb1.of_alloc.step hb2
      have hsz12 := hb12.size
      have hx3 := (Bel.alloc0 w2 (.map #[] 0)).at (World.block_lt_of_cell? _ ⟨_, _, none⟩ hx2) hx2
      have hbm := hb12.alloc (.map #[] 0)
      have HC := Lib.hid (HMT.out w2 hb12 R HR.out)
      clear HMT hb1 hb2 hx1 hx2
      cases hRR : R with
      | none =>
        have E := Lib.hid (match_no (hR.trans hRR)).1
        have E2 := Lib.hid (match_no (hR.trans hRR)).2
        subst hRR
        clear hR
        go_wp2_with fail
        refine HC.out.mono ?_; rintro e w3 ⟨m3, f3, rfl, -, hm3, hM3, hch, -⟩
        simp only [Option.isSome_none]
        go_wp2_with fail
        go_ret2
        exact ⟨_, _, _, by rw [E2.out]; rfl, by rw [E.out]; exact OwnS.nil _ _ _, hch.bel hbm hsz12⟩
      | some G =>
        have E := Lib.hid (match_yes HS.out.2 (hR.trans hRR)).1
        have E2 := Lib.hid (match_yes HS.out.2 (hR.trans hRR)).2
        subst hRR
        clear hR
        go_wp2_with fail
        refine HC.out.mono ?_; rintro e w3 ⟨m3, f3, rfl, -, hm3, hM3, hch, hH3⟩
        simp only [Option.isSome_some]
        have HSB := Lib.hid (subst_c _ _ f3 G _ hM3 (hH3 G rfl).sub)
        have hB3 := hch.bel hbm hsz12
        have hz3 := hB3.size
        clear hH3
        go_wp2_with fail
        refine HSB.out.mono ?_; rintro e w4 ⟨ao, no, co, rfl, ho, hch4⟩
        go_wp2_with fail
        go_ret2
        exact ⟨_, _, _, by rw [E2.out]; rfl, by rw [E.out]; exact ho.mono hz3 (Nat.le_refl _), hch4.bel hB3 hsz12⟩
end Go.Proofs.Ytikllmdmifecpaa
end
section
/- Contracts of chapter 2 with the answers named. -/
namespace Go.Proofs.Ytikllmdmifecpaa
open Go.RowKit

theorem iApply_v {l h l' h' l2 h2 : Nat} {v u x : Value} {ar : List Int} {b : List (List Int)} {t : List Int} {w : World} (ha : ar.length ≤ 1048576) (hv : SlI l h w v ar) (hb : short b) (hu : SlS l' h' w u b) (ht : t.length ≤ 1048576) (hx : SlI l2 h2 w x t) {xs : List Int} {k : Bool} (e1 : applyAns ar b t = xs) (e2 : applyOk ar b t = k) :
    Calls Try.prog 24 #[.agg #[v], u, x] w (RetIB w xs k) := by subst e1 e2; exact iApply_t ha hv hb hu ht hx
theorem iCompose_v {l h l' h' l2 h2 : Nat} {v x y : Value} {ar : List Int} {a b : List (List Int)} {w : World} (ha : ar.length ≤ 1048576) (hv : SlI l h w v ar) (hba : short a) (hx : SlS l' h' w x a) (hbb : short b) (hy : SlS l2 h2 w y b) {xs : List (List Int)} {k : Bool} (e1 : composeAns ar a b = xs) (e2 : composeOk ar a b = k) :
    Calls Try.prog 27 #[.agg #[v], x, y] w (RetSSB w xs k) := by subst e1 e2; exact iCompose_t ha hv hba hx hbb hy
theorem iMatch_v {l h l' h' l2 h2 : Nat} {v x y : Value} {ar p t : List Int} {w : World} (ha : ar.length ≤ 1048576) (hv : SlI l h w v ar) (hpl : p.length ≤ 1048576) (hx : SlI l' h' w x p) (htl : t.length ≤ 1048576) (hy : SlI l2 h2 w y t) {xs : List (List Int)} {k : Bool} (e1 : matchAns ar p t = xs) (e2 : matchOk ar p t = k) :
    Calls Try.prog 13 #[.agg #[v], x, y] w (RetSSB w xs k) := by subst e1 e2; exact iMatch_t ha hv hpl hx htl hy
theorem sApply_v {l h l' h' l2 h2 : Nat} {v u x : Value} {ar : List Int} {b : List (List Int)} {t : List Int} {w : World} (ha : ar.length ≤ 1048576) (hv : SlI l h w v ar) (hb : short b) (hu : SlS l' h' w u b) (ht : t.length ≤ 1048576) (hx : SlI l2 h2 w x t) {xs : List Int} {k : Bool} (e1 : applyAns ar b t = xs) (e2 : applyOk ar b t = k) :
    Calls Try.prog 80 #[.agg #[v], u, x] w (RetIB w xs k) := by subst e1 e2; exact sApply_t ha hv hb hu ht hx
theorem sCompose_v {l h l' h' l2 h2 : Nat} {v x y : Value} {ar : List Int} {a b : List (List Int)} {w : World} (ha : ar.length ≤ 1048576) (hv : SlI l h w v ar) (hba : short a) (hx : SlS l' h' w x a) (hbb : short b) (hy : SlS l2 h2 w y b) {xs : List (List Int)} {k : Bool} (e1 : composeAns ar a b = xs) (e2 : composeOk ar a b = k) :
    Calls Try.prog 28 #[.agg #[v], x, y] w (RetSSB w xs k) := by subst e1 e2; exact sCompose_t ha hv hba hx hbb hy
theorem sMatch_v {l h l' h' l2 h2 : Nat} {v x y : Value} {ar p t : List Int} {w : World} (ha : ar.length ≤ 1048576) (hv : SlI l h w v ar) (hpl : p.length ≤ 1048576) (hx : SlI l' h' w x p) (htl : t.length ≤ 1048576) (hy : SlI l2 h2 w y t) {xs : List (List Int)} {k : Bool} (e1 : matchAns ar p t = xs) (e2 : matchOk ar p t = k) :
    Calls Try.prog 10 #[.agg #[v], x, y] w (RetSSB w xs k) := by subst e1 e2; exact sMatch_t ha hv hpl hx htl hy
end Go.Proofs.Ytikllmdmifecpaa
end
section
/- Match: a match makes the pattern the term; composition is one substitution behind the other. -/
namespace Go.Proofs.Ytikllmdmifecpaa
open Go.RowKit Go.Maps

def oneG (G : Nat → List Int) (n : Int) : List Int := if n < 0 then G (-1 - n).toNat else [n]
theorem mg_app {ar t : List Int} (ht : okTerm ar t = true) (p0 : List Int) : ∀ (k i j : Nat) (F G : Nat → List Int), k = p0.length - i → i ≤ p0.length → Pair2 ar p0 t i j → (∀ v, F v ≠ [] → okTerm ar (F v) = true) → matchGo ar t (p0.drop i) j F = some G →
    (∀ v, F v ≠ [] → G v = F v) ∧ (∀ v, G v ≠ [] → okTerm ar (G v) = true) ∧ (∀ n ∈ p0.drop i, n < 0 → G (-1 - n).toNat ≠ []) ∧ (p0.drop i).flatMap (oneG G) = t.drop j := by
  intro k
  induction k with
  | zero =>
    intro i j F G hk hi hP hF h
    have hd : p0.drop i = [] := List.drop_eq_nil_of_le (by omega)
    obtain ⟨m, h1, h2⟩ := hP
    rw [hd] at h h1 ⊢
    rw [matchGo] at h
    simp at h
    subst h
    refine ⟨fun _ _ => rfl, hF, by simp, ?_⟩
    cases m with
    | zero => rw [endGo_zero] at h2; simp at h2; rw [h2, List.drop_length]; rfl
    | succ m => rw [endGo_nil] at h1; simp at h1
  | succ k ih =>
    intro i j F G hk hi hP hF h
    have hlt : i < p0.length := by omega
    have hj := hP.lt hlt
    rw [drop_cons p0 i hlt] at h ⊢
    by_cases hn : 0 ≤ p0.getD i 0
    · by_cases he : t.getD j 0 = p0.getD i 0
      · rw [mg_sym hn he] at h
        obtain ⟨a1, a2, a3, a4⟩ := ih (i+1) (j+1) F G (by omega) (by omega) (hP.sym hlt he) hF h
        refine ⟨a1, a2, fun n hm hl => ?_, ?_⟩
        · rcases List.mem_cons.1 hm with rfl | hm
          · omega
          · exact a3 n hm hl
        · rw [List.flatMap_cons, a4, drop_cons t j hj, he]
          unfold oneG
          rw [if_neg (by omega)]
          rfl
      · rw [mg_symno hn he] at h; simp at h
    · obtain ⟨e, h1, h2, h3, h4⟩ := hP.var hlt (by omega)
      by_cases hc : F (-1 - p0.getD i 0).toNat = [] ∨ F (-1 - p0.getD i 0).toNat = partOf t j e
      · rw [mg_var hn h1 hc] at h
        have hpl := partOf_len t j e h3
        have hpne : partOf t j e ≠ [] := by intro h; rw [h] at hpl; simp at hpl; omega
        have hpo := partOf_ok ar t j e ht hj h1
        obtain ⟨a1, a2, a3, a4⟩ := ih (i+1) e _ G (by omega) (by omega) h4 (fun v hv => by
          by_cases e' : v = (-1 - p0.getD i 0).toNat
          · rw [e', upd_same]; exact hpo
          · rw [upd_other _ _ e'] at hv ⊢; exact hF v hv) h
        have hG : G (-1 - p0.getD i 0).toNat = partOf t j e := by
          have := a1 (-1 - p0.getD i 0).toNat (by rw [upd_same]; exact hpne)
          rw [upd_same] at this
          exact this
        refine ⟨fun v hv => ?_, a2, fun n hm hl => ?_, ?_⟩
        · by_cases e' : v = (-1 - p0.getD i 0).toNat
          · rw [e', hG]
            rcases hc with hc | hc
            · rw [e'] at hv; exact absurd hc hv
            · exact hc.symm
          · have := a1 v (by rw [upd_other _ _ e']; exact hv)
            rw [upd_other _ _ e'] at this
            exact this
        · rcases List.mem_cons.1 hm with rfl | hm
          · rw [hG]; exact hpne
          · exact a3 n hm hl
        · rw [List.flatMap_cons, a4]
          unfold oneG
          rw [if_pos (by omega), hG]
          unfold partOf
          have := List.take_append_drop (e - j) (t.drop j)
          rw [List.drop_drop, show j + (e - j) = e by omega] at this
          exact this
      · rw [mg_varno hn h1 hc] at h; simp at h
theorem substL_get (F : Nat → List Int) (v : Nat) (hv : v < 12) : (substL F).getD v [] = stayF F v := by simp [substL, List.getD, hv]
theorem substL_len (F : Nat → List Int) : (substL F).length = 12 := by simp [substL]
theorem one1_sub {F : Nat → List Int} {n : Int} (h12 : -12 ≤ n) (hF : n < 0 → F (-1 - n).toNat ≠ []) : one1 (substL F) n = oneG F n := by
  unfold oneG
  by_cases hn : n < 0
  · rw [if_pos hn]
    have hv : (-1 - n).toNat < 12 := by omega
    have hvn : (-1 - (((-1 - n).toNat : Nat) : Int)) = n := by omega
    by_cases hs : F (-1 - n).toNat = [-1 - (((-1 - n).toNat : Nat) : Int)]
    · have h0 : stayF F (-1 - n).toNat = [] := by unfold stayF; rw [if_pos hs]
      rw [one1_free (by rw [substL_get F _ hv, h0]; simp), hs, hvn]
    · have h0 : stayF F (-1 - n).toNat = F (-1 - n).toNat := by unfold stayF; rw [if_neg hs]
      rw [one1_var hn (by rw [substL_get F _ hv, h0]; exact List.length_pos_iff.2 (hF hn)), substL_get F _ hv, h0]
  · rw [if_neg hn, one1_sym hn]
theorem good_substL {ar : List Int} {F : Nat → List Int} (hg : goodSign ar = true) (hF : ∀ v, v < 12 → F v ≠ [] → okTerm ar (F v) = true) : goodSubst ar (substL F) = true := by
  refine goodSubst_iff.2 ⟨hg, substL_len F, fun t ht => ?_⟩
  unfold substL at ht
  obtain ⟨v, hv, rfl⟩ := List.mem_map.1 ht
  rw [List.mem_range] at hv
  unfold okEmpty stayF
  split
  · rfl
  · by_cases e : F v = []
    · rw [e]; rfl
    · rw [hF v hv e, Bool.or_true]
theorem match_app {ar p t : List Int} (h : matchOk ar p t = true) : applyOk ar (matchAns ar p t) p = true ∧ applyAns ar (matchAns ar p t) p = t := by
  have h0 := h
  unfold matchOk at h0
  simp only [Bool.and_eq_true] at h0
  obtain ⟨hk, hr⟩ := h0
  obtain ⟨G, hG⟩ := Option.isSome_iff_exists.1 hr
  simp only [matchOk0, Bool.and_eq_true] at hk
  obtain ⟨hg, hp⟩ := goodTerm_iff.1 hk.1
  have hans := (match_yes (by simp [matchOk0, hk.1, hk.2]) hG).1
  obtain ⟨a1, a2, a3, a4⟩ := mg_app hk.2 p p.length 0 0 (fun _ => []) G (by omega) (by omega) (Pair2.start hp hk.2) (fun _ h => absurd rfl h) (by simpa [matchR] using hG)
  rw [List.drop_zero, List.drop_zero] at *
  have happ : appT (substL G) p = t := by
    rw [← a4]
    unfold appT
    have : ∀ (q : List Int), (∀ n ∈ q, n ∈ p) → q.flatMap (one1 (substL G)) = q.flatMap (oneG G) := by
      intro q
      induction q with
      | nil => intro _; rfl
      | cons n q ih =>
        intro hq
        rw [List.flatMap_cons, List.flatMap_cons, ih (fun m hm => hq m (List.mem_cons_of_mem _ hm))]
        have hm := hq n List.mem_cons_self
        obtain ⟨i, hi, hin⟩ := List.getElem_of_mem hm
        have hl := okTerm_low hp i hi
        rw [show p.getD i 0 = n from by simp [List.getD, hi, hin]] at hl
        rw [one1_sub hl (fun hn => a3 n hm hn)]
    exact this p (fun _ h => h)
  have hok : applyOk ar (matchAns ar p t) p = true := by
    unfold applyOk
    rw [hans, good_substL hg (fun v _ hv => a2 v hv), hp, (app40_yes (by rw [happ]; have := ((okTerm_iff _ _).1 hk.2).2.1; omega)).2]
    rfl
  refine ⟨hok, ?_⟩
  unfold applyAns
  rw [if_pos hok, hans, happ]
theorem applyOk_iff {ar : List Int} {b : List (List Int)} {t : List Int} : applyOk ar b t = true ↔ goodSubst ar b = true ∧ okTerm ar t = true ∧ app40ok b t = true := by
  unfold applyOk
  simp only [Bool.and_eq_true]
  exact ⟨fun h => ⟨h.1.1, h.1.2, h.2⟩, fun h => ⟨⟨h.1, h.2.1⟩, h.2.2⟩⟩
theorem compose_app {ar : List Int} {a b : List (List Int)} {z : List Int} (hc : composeOk ar a b = true) (h1 : applyOk ar a z = true) (h2 : applyOk ar b (applyAns ar a z) = true) :
    applyOk ar (composeAns ar a b) z = true ∧ applyAns ar (composeAns ar a b) z = applyAns ar b (applyAns ar a z) := by
  have hc0 := hc
  unfold composeOk at hc0
  simp only [Bool.and_eq_true] at hc0
  obtain ⟨⟨hga, hgb⟩, hall⟩ := hc0
  obtain ⟨-, hz, hz40⟩ := applyOk_iff.1 h1
  obtain ⟨-, hx, hx40⟩ := applyOk_iff.1 h2
  have hg := (goodSubst_iff.1 hga).1
  rw [applyAns_yes h1] at *
  have hF : ∀ v, v < 12 → compF a b v ≠ [] → okTerm ar (compF a b v) = true := fun v hv _ => by
    have := app_ok hgb (compT_ok hga v hv)
    unfold compF
    rw [this]
    rw [List.all_eq_true] at hall
    exact hall v (by simpa using hv)
  have happ : appT (substL (compF a b)) z = appT b (appT a z) := by
    have : ∀ (q : List Int), (∀ n ∈ q, n ∈ z) → appT (substL (compF a b)) q = appT b (appT a q) := by
      intro q
      induction q with
      | nil => intro _; rfl
      | cons n q ih =>
        intro hq
        have ih2 := ih (fun m hm => hq m (List.mem_cons_of_mem _ hm))
        unfold appT at ih2 ⊢
        rw [List.flatMap_cons, List.flatMap_cons, List.flatMap_append, ih2]
        congr 1
        have hm := hq n List.mem_cons_self
        obtain ⟨i, hi, hin⟩ := List.getElem_of_mem hm
        have hl := okTerm_low hz i hi
        rw [show z.getD i 0 = n from by simp [List.getD, hi, hin]] at hl
        rw [one1_sub hl (fun hn => by
          have hv : (-1 - n).toNat < 12 := by omega
          have := ((okTerm_iff _ _).1 (show okTerm ar (appT b (compT a (-1 - n).toNat)) = true from by
            have h := app_ok hgb (compT_ok hga _ hv)
            rw [h]
            rw [List.all_eq_true] at hall
            exact hall _ (by simpa using hv))).1
          unfold compF
          intro h
          rw [h] at this; simp at this)]
        unfold oneG
        by_cases hn : n < 0
        · rw [if_pos hn]
          unfold compF compT
          by_cases hp : 0 < (a.getD (-1 - n).toNat []).length
          · rw [if_pos hp, one1_var hn hp]; rfl
          · rw [if_neg hp, one1_free hp, show (-1 - (((-1 - n).toNat : Nat) : Int)) = n by omega]; rfl
        · rw [if_neg hn, one1_sym hn]
          simp [one1_sym hn]
    exact this z (fun _ h => h)
  have hok : applyOk ar (composeAns ar a b) z = true := by
    rw [composeAns_yes hc]
    refine applyOk_iff.2 ⟨good_substL hg hF, hz, ?_⟩
    unfold app40ok at hx40 ⊢
    rw [happ]; exact hx40
  refine ⟨hok, ?_⟩
  rw [applyAns_yes hok, applyAns_yes h2, composeAns_yes hc, happ]
end Go.Proofs.Ytikllmdmifecpaa
end
