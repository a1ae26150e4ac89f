/- Match: the program's. -/
import Derived.Test.YtikllmdmifecpaaMat
namespace Go.Proofs.Ytikllmdmifecpaa
open Go.RowKit Go.Maps

def RetAg (b m : Nat) (f : Nat → Option Value) (v : Nat) (x : Value) (q : Bool) (w : World) (e : Ending) (w' : World) : Prop := e = .returned (.bool q) ∧ MapV w' b (m+1) (upd f v (some x)) ∧ Chg b (b+1) w w'
set_option maxRecDepth 100000 in
set_option maxHeartbeats 400000 in
theorem agree_new (b m : Nat) (f : Nat → Option Value) (v : Nat) (x : Value) (t : List Int) (lo hi : Nat) (w : World) (hm : m ≤ 1000000) (hv12 : v < 12) (hM : MapV w b m f) (hx : SlI lo hi w x t) (hf : f v = none) :
    Calls Try.prog 124 #[.map (some b), .int .i64 v, x] w (RetAg b m f v x true w) := by
  have hlk := hM.lookOk hv12
  rw [hf] at hlk
  simp only [Option.getD_none, Option.isSome_none] at hlk
  obtain ⟨n, D, hn, hown, hK⟩ := hM
  obtain ⟨xa, xc, rfl⟩ := hx.form
  go_enter Try.func124, Try.ntmps124
  go_wp2_with (at_mapUpdate; refine wpList_mapUpdate_own _ rfl _ _ _ 88 rfl 3 22 keyInt Try.underlying88 _ b n D rfl hown (by unfold maxLen; omega) _ _ _ rfl rfl (kv_key hv12) _ [] rfl ?_; intro w4 hown4 hgrow)
  go_ret
  exact ⟨rfl, ⟨n+1, _, by omega, hown4, hK.put hown.isMap hv12 _⟩, chg_of_grown hgrow⟩
set_option maxRecDepth 100000 in
set_option maxHeartbeats 400000 in
theorem agree_old (b m : Nat) (f : Nat → Option Value) (v : Nat) (x u : Value) (t old : List Int) (lo hi lo2 hi2 : Nat) (q : Bool) (w : World) (hm : m ≤ 1000000) (hv12 : v < 12) (hM : MapV w b m f) (ht : t.length ≤ 40) (ho : old.length ≤ 40) (hx : SlI lo hi w x t) (hf : f v = some u) (hu : SlI lo2 hi2 w u old) (hq : decide (old = t) = q) :
    Calls Try.prog 124 #[.map (some b), .int .i64 v, x] w (RetAg b m f v x q w) := by
  have hlk := hM.lookOk hv12
  rw [hf] at hlk
  simp only [Option.getD_some, Option.isSome_some] at hlk
  have hM0 := hM
  obtain ⟨n, D, hn, hown, hK⟩ := hM
  obtain ⟨xa, xc, rfl⟩ := hx.form
  obtain ⟨ua, uc, rfl⟩ := hu.form
  go_enter Try.func124, Try.ntmps124
  go_wp2_with (at_mapUpdate; refine wpList_mapUpdate_own _ rfl _ _ _ 88 rfl 3 22 keyInt Try.underlying88 _ b n D rfl hown (by unfold maxLen; omega) _ _ _ rfl rfl (kv_key hv12) _ [] rfl ?_; intro w4 hown4 hgrow)
  have hch := chg_of_grown hgrow
  have hM4 : MapV w4 b (m+1) (upd f v (some (.slice xa t.length xc))) := ⟨n+1, _, by omega, hown4, hK.put hown.isMap hv12 _⟩
  refine (slEqual_v _ _ _ _ _ _ old t q _ hq (by omega) (by omega) (hu.chgMap hM0 hch) (hx.chgMap hM0 hch)).mono ?_; rintro e w5 ⟨rfl, hb5⟩
  cases q
  all_goals
    go_wp2_with fail
    go_ret
    exact ⟨rfl, hM4.bel hb5, hch.trans (Chg.of_bel hb5)⟩

/-- What the map holds, told by terms. -/
def Holds (w : World) (f : Nat → Option Value) (F : Nat → List Int) : Prop := ∀ v, v < 12 → (F v).length ≤ 40 ∧ ((F v = [] ∧ f v = none) ∨ (F v ≠ [] ∧ ∃ u lo hi, f v = some u ∧ SlI lo hi w u (F v)))
theorem Holds.start (w : World) : Holds w (fun _ => none) (fun _ => []) := fun v _ => ⟨by simp, .inl ⟨rfl, rfl⟩⟩
theorem Holds.bel {w w' : World} {f : Nat → Option Value} {F : Nat → List Int} (h : Holds w f F) (hb : Bel w w') : Holds w' f F := fun v hv => ⟨(h v hv).1, (h v hv).2.imp id fun ⟨a, u, lo, hi, e, s⟩ => ⟨a, u, lo, hi, e, s.below hb⟩⟩
theorem Holds.chg {w w' : World} {f : Nat → Option Value} {F : Nat → List Int} {b m : Nat} {f' : Nat → Option Value} (h : Holds w f F) (hM : MapV w b m f') (k : Chg b (b+1) w w') : Holds w' f F :=
  fun v hv => ⟨(h v hv).1, (h v hv).2.imp id fun ⟨a, u, lo, hi, e, s⟩ => ⟨a, u, lo, hi, e, s.chgMap hM k⟩⟩
theorem Holds.put {w : World} {f : Nat → Option Value} {F : Nat → List Int} (h : Holds w f F) (v : Nat) (x : Value) (t : List Int) (lo hi : Nat) (ht : t.length ≤ 40) (hp : 0 < t.length) (hx : SlI lo hi w x t) : Holds w (upd f v (some x)) (upd F v t) := by
  intro i hi'
  by_cases e : i = v
  · subst e
    rw [upd_same, upd_same]
    exact ⟨ht, .inr ⟨by intro h; rw [h] at hp; simp at hp, x, lo, hi, rfl, hx⟩⟩
  · rw [upd_other _ _ e, upd_other _ _ e]; exact h i hi'
theorem Holds.sub {w : World} {f : Nat → Option Value} {F : Nat → List Int} (h : Holds w f F) : ∀ v, v < 12 → (F v).length ≤ 1048576 ∧ ∃ lo hi, SlI lo hi w ((f v).getD (.slice none 0 0)) (F v) := by
  intro v hv
  obtain ⟨h1, h2⟩ := h v hv
  refine ⟨by omega, ?_⟩
  rcases h2 with ⟨e1, e2⟩ | ⟨_, u, lo, hi, e, s⟩
  · rw [e1, e2]; exact ⟨0, 0, SlI.nil 0 0 w⟩
  · rw [e]; exact ⟨lo, hi, s⟩

theorem Holds.same {w w' : World} {f : Nat → Option Value} {F : Nat → List Int} (h : Holds w f F) (k : ∀ lo hi u xs, SlI lo hi w u xs → SlI lo hi w' u xs) : Holds w' f F :=
  fun v hv => ⟨(h v hv).1, (h v hv).2.imp id fun ⟨a, u, lo, hi, e, s⟩ => ⟨a, u, lo, hi, e, k lo hi u _ s⟩⟩
/-- What a match leaves behind: the map of the found terms has been written, and nothing else. -/
def RetMt (b m : Nat) (R : Option (Nat → List Int)) (w : World) (e : Ending) (w' : World) : Prop :=
  ∃ m' f', e = .returned (.bool R.isSome) ∧ m ≤ m' ∧ m' ≤ m + 40 ∧ MapV w' b m' f' ∧ Chg b (b+1) w w' ∧ ∀ G, R = some G → Holds w' f' G

set_option maxRecDepth 100000 in
set_option maxHeartbeats 1000000 in
theorem match_c (b m : Nat) (f : Nat → Option Value) (F : Nat → List Int) {l h l' h' l2 h2 : Nat} {v x y : Value} {ar p t : List Int} {w : World} (hm0 : m ≤ 100000) (hg : goodSign ar = true) (hop : okTerm ar p = true) (hot : okTerm ar t = true) (hM0 : MapV w b m f) (hH0 : Holds w f F)
    (hv : SlI l h w v ar) (hx : SlI l' h' w x p) (hy : SlI l2 h2 w y t) (R : Option (Nat → List Int)) (hR : matchGo ar t p 0 F = R) :
    Calls Try.prog 75 #[.map (some b), .agg #[v], x, y] w (RetMt b m R w) := by
  have hP0 := Pair2.start hop hot
  have hp40 := ((okTerm_iff _ _).1 hop).2.1
  have ht40 := ((okTerm_iff _ _).1 hot).2.1
  have htp := ((okTerm_iff _ _).1 hot).1
  have hlow := okTerm_low hop
  have htl : t.length ≤ 1048576 := by omega
  have hR0 : R = matchGo ar t (p.drop 0) 0 F := by rw [List.drop_zero]; exact hR.symm
  have hbl := hM0.lt
  obtain ⟨xa, xc, rfl⟩ := hx.form
  obtain ⟨yb, yo, yc, rfl, hyc⟩ := hy.plain (by omega)
  have hM1 := hM0.bel (Bel.alloc0 w (.cells #[v] 29))
  have hH1 := hH0.bel (Bel.alloc0 w (.cells #[v] 29))
  have hbx0 := boxc (Bel.rfl' (w.alloc (.cells #[v] 29))) 0 _ rfl
  have hK0 : Chg b (b+1) w (w.alloc (.cells #[v] 29)) := Chg.of_bel (Bel.alloc0 _ _)
  have hz0 : w.heap.size + 1 ≤ (w.alloc (.cells #[v] 29)).heap.size := by simp
  clear hR hop hot hH0
  go_enter Try.func75, Try.ntmps75
  go_wp2_with fail
  go_loopw [9, 16] (fun a i wr => ∃ (k j m' : Nat) (f' : Nat → Option Value) (F' : Nat → List Int), k ≤ p.length ∧ i = .int .i64 k ∧ a = .int .i64 j ∧ j ≤ t.length ∧ m ≤ m' ∧ m' ≤ m + k ∧ MapV wr b m' f' ∧ Holds wr f' F' ∧ Pair2 ar p t k j ∧ R = matchGo ar t (p.drop k) j F' ∧ Chg b (b+1) w wr ∧ wr.cell? ⟨w.heap.size, 0, none⟩ = some v ∧ w.heap.size + 1 ≤ wr.heap.size) (fun _ i _ => p.length - (intOf i).toNat)
  case atStart => exact ⟨0, 0, m, f, F, Nat.zero_le _, rfl, rfl, Nat.zero_le _, Nat.le_refl _, Nat.le_refl _, hM1, hH1, hP0, hR0, hK0, hbx0, hz0⟩
  case round =>
    clear hH1 hP0 hR0 hM1 hbx0 hK0
    obtain ⟨k, j, m', f', F', hk, rfl, rfl, hj, hm1, hm2, hM, hH, hP, hRk, hKK, hbox, hsz⟩ := hrel
    have hvr := hv.chgMap hM0 hKK
    have hxr := hx.chgMap hM0 hKK
    have hyr := hy.chgMap hM0 hKK
    by_cases hlt : k < p.length
    · obtain ⟨b1, off1, rfl, -, hc⟩ := hxr.at k hlt
      have hjl := hP.lt hlt
      obtain ⟨yb2, yo2, e0, -, hct⟩ := hyr.at j hjl
      simp only [Option.some.injEq, Addr.mk.injEq] at e0
      obtain ⟨rfl, rfl, -⟩ := e0
      have hn12 := hlow k hlt
      have hPs := hP.sym hlt
      have hPv := hP.var hlt
      rw [drop_cons p k hlt] at hRk
      generalize hn : p.getD k 0 = n at *
      by_cases hn0 : 0 ≤ n
      · have hd : decide (0 ≤ n) = true := by simpa using hn0
        clear hPv
        by_cases hne : t.getD j 0 = n
        · rw [mg_sym hn0 hne] at hRk
          have hP1 := hPs hne
          rw [hne] at hct
          have hne2 : (n != n) = false := by simp
          have HF := Lib.hid (And.intro hRk (And.intro hP1 hH))
          clear hRk hP1 hH hPs hne
          have hw40 := IntWalk.i64_in ((j : Int) + 1) (by omega)
          go_wp2_with fail
          go_roundw
          case rel => exact ⟨k+1, j+1, m', f', F', by omega, by go_num, by go_num, by omega, hm1, by omega, hM, HF.out.2.2, HF.out.2.1, HF.out.1, hKK, hbox, hsz⟩
          case measure => simp [intOf]; omega
        · rw [mg_symno hn0 hne] at hRk
          have hne2 : (t.getD j 0 != n) = true := by simpa using hne
          subst hRk
          have HM := Lib.hid hM
          clear hPs hne hH hM
          generalize t.getD j 0 = tj at *
          go_wp2_with fail
          go_ret
          exact ⟨m', f', rfl, hm1, by omega, HM.out, hKK, fun G hG => by cases hG⟩
      · have hd : decide (0 ≤ n) = false := by simp; omega
        clear hPs
        obtain ⟨e, he, hje, het, hP1⟩ := hPv (by omega)
        have hv12 : (-1 - n).toNat < 12 := by omega
        have hvn : ((-1 - n).toNat : Int) = -1 - n := by omega
        have hcut := hyr.cut j e (by omega) het
        have hpl' := partOf_len t j e het
        have hx0 : SlI l2 h2 wr (.slice (some ⟨yb, yo + j, none⟩) (partOf t j e).length (yc - j)) (partOf t j e) := by rw [hpl']; exact hcut
        have hHv := hH _ hv12
        have hmv := mg_var (ar := ar) (t := t) (r := p.drop (k+1)) (n := n) (j := j) (F := F') hn0 he
        have hmn := mg_varno (ar := ar) (t := t) (r := p.drop (k+1)) (n := n) (j := j) (F := F') hn0 he
        have hte := termEnd_v _ _ _ _ _ _ ar t j e _ he hg htl hj hvr hyr
        have hje2 : (j : Int) < e := by omega
        have het2 : (e : Int) ≤ t.length := by omega
        have hje3 : (j : Int) ≤ e := by omega
        have hec : (e : Int) ≤ yc := by omega
        have hw50 := IntWalk.i64_in (-1 - n) (by omega)
        have HT := Lib.hid hte
        rw [← hpl'] at hcut
        clear hte he
        rcases hHv.2 with ⟨hF0, hf0⟩ | ⟨hF1, u, lo, hi, hf1, hu⟩
        · rw [hmv (.inl hF0)] at hRk
          have HAG := Lib.hid (fun w' (hbw : Bel wr w') => agree_new b m' f' (-1 - n).toNat _ (partOf t j e) l2 h2 w' (by omega) hv12 (hM.bel hbw) (hx0.below hbw) hf0)
          have HF := Lib.hid (And.intro hRk (And.intro hP1 hH))
          clear hRk hP1 hH hmv hmn hHv hF0 hf0
          go_wp2_with fail
          refine HT.out.mono ?_; rintro e' w3 ⟨rfl, hb3⟩
          go_wp2_with fail
          have HC := HAG.out w3 hb3
          rw [hvn, hpl'] at HC
          refine HC.mono ?_; rintro e' w4 ⟨rfl, hM4, hch⟩
          have hM3 := hM.bel hb3
          have hH4 : Holds w4 (upd f' (-1 - n).toNat (some (.slice (some ⟨yb, yo + j, none⟩) (e - j) (yc - j)))) (upd F' (-1 - n).toNat (partOf t j e)) := ((HF.out.2.2.bel hb3).chg hM3 hch).put _ _ (partOf t j e) l2 h2 (by omega) (by omega) (by rw [← hpl']; exact (hx0.below hb3).chgMap hM3 hch)
          have hK4 := (hKK.trans (Chg.of_bel hb3)).trans hch
          have hbox4 := hch.cell (by have := hb3.size; omega) (.inr (by omega)) (hb3.at (by omega) hbox)
          have hsz4 : w.heap.size + 1 ≤ w4.heap.size := by have := hb3.size; have := hch.size; omega
          go_wp2_with fail
          go_roundw
          case rel => exact ⟨k+1, e, m'+1, _, _, by omega, by go_num, rfl, by omega, by omega, by omega, hM4, hH4, HF.out.2.1, HF.out.1, hK4, hbox4, hsz4⟩
          case measure => simp [intOf]; omega
        · by_cases hEq : F' (-1 - n).toNat = partOf t j e
          · rw [hmv (.inr hEq)] at hRk
            have HAG := Lib.hid (fun w' (hbw : Bel wr w') => agree_old b m' f' (-1 - n).toNat _ u (partOf t j e) (F' (-1 - n).toNat) l2 h2 lo hi true w' (by omega) hv12 (hM.bel hbw) (by omega) hHv.1 (hx0.below hbw) hf1 (hu.below hbw) (by simpa using hEq))
            have HF := Lib.hid (And.intro hRk (And.intro hP1 hH))
            clear hRk hP1 hH hmv hmn hHv hF1 hf1 hEq hu
            go_wp2_with fail
            refine HT.out.mono ?_; rintro e' w3 ⟨rfl, hb3⟩
            go_wp2_with fail
            have HC := HAG.out w3 hb3
            rw [hvn, hpl'] at HC
            refine HC.mono ?_; rintro e' w4 ⟨rfl, hM4, hch⟩
            have hM3 := hM.bel hb3
            have hH4 : Holds w4 (upd f' (-1 - n).toNat (some (.slice (some ⟨yb, yo + j, none⟩) (e - j) (yc - j)))) (upd F' (-1 - n).toNat (partOf t j e)) := ((HF.out.2.2.bel hb3).chg hM3 hch).put _ _ (partOf t j e) l2 h2 (by omega) (by omega) (by rw [← hpl']; exact (hx0.below hb3).chgMap hM3 hch)
            have hK4 := (hKK.trans (Chg.of_bel hb3)).trans hch
            have hbox4 := hch.cell (by have := hb3.size; omega) (.inr (by omega)) (hb3.at (by omega) hbox)
            have hsz4 : w.heap.size + 1 ≤ w4.heap.size := by have := hb3.size; have := hch.size; omega
            go_wp2_with fail
            go_roundw
            case rel => exact ⟨k+1, e, m'+1, _, _, by omega, by go_num, rfl, by omega, by omega, by omega, hM4, hH4, HF.out.2.1, HF.out.1, hK4, hbox4, hsz4⟩
            case measure => simp [intOf]; omega
          · rw [hmn (by rintro (h | h); exact hF1 h; exact hEq h)] at hRk
            have HAG := Lib.hid (fun w' (hbw : Bel wr w') => agree_old b m' f' (-1 - n).toNat _ u (partOf t j e) (F' (-1 - n).toNat) l2 h2 lo hi false w' (by omega) hv12 (hM.bel hbw) (by omega) hHv.1 (hx0.below hbw) hf1 (hu.below hbw) (by simpa using hEq))
            subst hRk
            clear hP1 hH hmv hmn hHv hF1 hf1 hEq hu
            go_wp2_with fail
            refine HT.out.mono ?_; rintro e' w3 ⟨rfl, hb3⟩
            go_wp2_with fail
            have HC := HAG.out w3 hb3
            rw [hvn, hpl'] at HC
            refine HC.mono ?_; rintro e' w4 ⟨rfl, hM4, hch⟩
            have hK4 := (hKK.trans (Chg.of_bel hb3)).trans hch
            go_wp2_with fail
            go_ret
            exact ⟨_, _, rfl, by omega, by omega, hM4, hK4, fun G hG => by cases hG⟩
    · obtain rfl : k = p.length := by omega
      rw [List.drop_length, matchGo] at hRk
      subst hRk
      have HF := Lib.hid (And.intro hM hH)
      clear hH hM hP
      go_wp2_with fail
      go_ret
      exact ⟨m', f', rfl, hm1, by omega, HF.out.1, hKK, fun G hG => by cases hG; exact HF.out.2⟩

set_option maxRecDepth 100000 in
set_option maxHeartbeats 1000000 in
theorem iMatch_t {l h l' h' l2 h2 : Nat} {v x y : Value} {ar p t : List Int} {w : World} (ha : ar.length ≤ 1048576) (hv : SlI l h w v ar) (hpl : p.length ≤ 1048576) (hx : SlI l' h' w x p) (htl : t.length ≤ 1048576) (hy : SlI l2 h2 w y t) :
    Calls Try.prog 13 #[.agg #[v], x, y] w (RetSSB w (matchAns ar p t) (matchOk ar p t)) := by
  cases hs : goodTerm ar p with
  | false =>
    have h0 : matchOk0 ar p t = false := by simp [matchOk0, hs]
    have E := Lib.hid (match_no0 h0).1
    have E2 := Lib.hid (match_no0 h0).2
    have HS := Lib.hid hs; clear hs h0
    go_enter Try.func13, Try.ntmps13
    go_wp2_with fail
    refine (iGoodTerm_v _ _ _ _ _ _ _ _ _ _ HS.out ha hpl (hv.alloc _) (hx.alloc _)).mono ?_; rintro e w1 ⟨rfl, hb1⟩
    go_wp2_with fail
    go_ret2
    exact ⟨_, _, _, by rw [E2.out]; rfl, by rw [E.out]; exact OwnS.nil _ _ _, hb1.of_alloc⟩
  | true =>
    obtain ⟨hg, hop⟩ := goodTerm_iff.1 hs
    cases hs2 : okTerm ar t with
    | false =>
      have h0 : matchOk0 ar p t = false := by simp [matchOk0, hs2]
      have E := Lib.hid (match_no0 h0).1
      have E2 := Lib.hid (match_no0 h0).2
      have HS := Lib.hid (And.intro hs (show goodTerm ar t = false by simp [goodTerm, hs2])); clear hs hs2 h0
      go_enter Try.func13, Try.ntmps13
      go_wp2_with fail
      refine (iGoodTerm_v _ _ _ _ _ _ _ _ _ _ HS.out.1 ha hpl (hv.alloc _) (hx.alloc _)).mono ?_; rintro e w1 ⟨rfl, hb1⟩
      have hx1 := boxc hb1 0 _ rfl
      go_wp2_with fail
      refine (iGoodTerm_v _ _ _ _ _ _ _ _ _ _ HS.out.2 ha htl (hv.below hb1.of_alloc) (hy.below hb1.of_alloc)).mono ?_; rintro e w2 ⟨rfl, hb2⟩
      go_wp2_with fail
      go_ret2
      exact ⟨_, _, _, by rw [E2.out]; rfl, by rw [E.out]; exact OwnS.nil _ _ _, (hb1.step hb2).of_alloc⟩
    | true =>
      have h00 : matchOk0 ar p t = true := by simp [matchOk0, hs, hs2]
      have HS := Lib.hid (And.intro (And.intro hs (show goodTerm ar t = true by simp [goodTerm, hs2, hg])) h00)
      have hmm := @run_makeMap Try.prog
      have HMT := Lib.hid (fun (w' : World) (hb' : Bel w w') (R : Option (Nat → List Int)) (hR : matchGo ar t p 0 (fun _ => []) = R) => match_c w'.heap.size 0 (fun _ => none) (fun _ => []) (by omega) hg hop hs2 (MapV.made w') (Holds.start _) ((hv.below hb').alloc _) ((hx.below hb').alloc _) ((hy.below hb').alloc _) R hR)
      clear hs hs2 h00 hop
      generalize hR : matchR ar p t = R at *
      have HR : Hid (matchGo ar t p 0 (fun _ => []) = R) := hR
      go_enter Try.func13, Try.ntmps13
      go_wp2_with fail
      refine (iGoodTerm_v _ _ _ _ _ _ _ _ _ _ HS.out.1.1 ha hpl (hv.alloc _) (hx.alloc _)).mono ?_; rintro e w1 ⟨rfl, hb1⟩
      have hx1 := boxc hb1 0 _ rfl
      go_wp2_with fail
      refine (iGoodTerm_v _ _ _ _ _ _ _ _ _ _ HS.out.1.2 ha htl (hv.below hb1.of_alloc) (hy.below hb1.of_alloc)).mono ?_; rintro e w2 ⟨rfl, hb2⟩
      have hx2 := hb2.at (World.block_lt_of_cell? _ ⟨_, _, none⟩ hx1) hx1
      have hb12 := hb1.of_alloc.step hb2
      have hsz12 := hb12.size
      have hx3 := (Bel.alloc0 w2 (.map #[] 0)).at (World.block_lt_of_cell? _ ⟨_, _, none⟩ hx2) hx2
      have hbm := hb12.alloc (.map #[] 0)
      have HC := Lib.hid (HMT.out w2 hb12 R HR.out)
      clear HMT hb1 hb2 hx1 hx2
      cases hRR : R with
      | none =>
        have E := Lib.hid (match_no (hR.trans hRR)).1
        have E2 := Lib.hid (match_no (hR.trans hRR)).2
        subst hRR
        clear hR
        go_wp2_with fail
        refine HC.out.mono ?_; rintro e w3 ⟨m3, f3, rfl, -, hm3, hM3, hch, -⟩
        simp only [Option.isSome_none]
        go_wp2_with fail
        go_ret2
        exact ⟨_, _, _, by rw [E2.out]; rfl, by rw [E.out]; exact OwnS.nil _ _ _, hch.bel hbm hsz12⟩
      | some G =>
        have E := Lib.hid (match_yes HS.out.2 (hR.trans hRR)).1
        have E2 := Lib.hid (match_yes HS.out.2 (hR.trans hRR)).2
        subst hRR
        clear hR
        go_wp2_with fail
        refine HC.out.mono ?_; rintro e w3 ⟨m3, f3, rfl, -, hm3, hM3, hch, hH3⟩
        simp only [Option.isSome_some]
        have HSB := Lib.hid (subst_c _ _ f3 G _ hM3 (hH3 G rfl).sub)
        have hB3 := hch.bel hbm hsz12
        have hz3 := hB3.size
        clear hH3
        go_wp2_with fail
        refine HSB.out.mono ?_; rintro e w4 ⟨ao, no, co, rfl, ho, hch4⟩
        go_wp2_with fail
        go_ret2
        exact ⟨_, _, _, by rw [E2.out]; rfl, by rw [E.out]; exact ho.mono hz3 (Nat.le_refl _), hch4.bel hB3 hsz12⟩
end Go.Proofs.Ytikllmdmifecpaa
