/- Texts merged, part 10. -/
import Derived.Test.YtikllmdmifecpaaMgApartClauses9
section
/- Chapter 4, the program: GoodClause, WeightOf. -/
namespace Go.Proofs.Ytikllmdmifecpaa
open Go.RowKit

theorem short_flat {c : List Lt} (h : sumC c ≤ 1048576) : sumL (flatC c) ≤ 1048576 ∧ ∀ j, j < (flatC c).length → ((flatC c).getD j []).length ≤ 1048576 := by
  have h1 : sumL (flatC c) ≤ 1048576 := by have := sumC_eq c; unfold lenC at this; omega
  exact ⟨h1, fun j hj => by have := sumL_get (flatC c) j hj; omega⟩
theorem short_flat8 {c : List Lt} (h : sumC c ≤ 1048576) (h8 : c.length ≤ 8) : short (flatC c) := ⟨by rw [flatC_len]; omega, (short_flat h).2⟩

theorem short_flat8s {c : List Lt} (h : shortC c) (h8 : c.length ≤ 8) : short (flatC c) := by
  refine ⟨by rw [flatC_len]; omega, fun j hj => ?_⟩
  obtain ⟨x, hx, e⟩ := flat_mem (mem_getD (flatC c) [] j hj)
  obtain ⟨i, hi, rfl⟩ := List.getElem_of_mem hx
  have := h.2 i hi
  rw [show c.getD i lt0 = c[i] from by simp [List.getD, hi]] at this
  rcases e with e | e <;> rw [e]
  · exact this.1
  · exact this.2

set_option maxRecDepth 100000 in
set_option maxHeartbeats 400000 in
theorem iGoodClause_sh {l h l' h' : Nat} {v u : Value} {ar : List Int} {c : List Lt} {w : World} (ha : ar.length ≤ 1048576) (hv : SlI l h w v ar) (hc : shortC c) (hu : SlC l' h' w u c) :
    Calls Try.prog 53 #[.agg #[v], u] w (RetV w (.bool (goodClause ar c))) := by
  obtain ⟨ad, cap, rfl⟩ := hu.form
  have hle := hc.1
  by_cases h8 : c.length ≤ 8
  · have hd : decide ((c.length : Int) ≤ 8) = true := by rw [decide_eq_true]; omega
    have HE := Lib.hid (goodTerms_flat ar h8)
    have hsh := short_flat8s hc h8
    have HT := Lib.hid (fun (w' : World) (hb : Bel w w') => termsIn_c l' h' _ c w' (by omega) (hu.below hb))
    have HD := Lib.hid (fun (w' : World) (x : Value) (hb : Bel w w') (hx : SlS 0 w'.heap.size w' x (flatC c)) => goodTerms_c l h _ _ v x ar (flatC c) 16 w' (by omega) ha (hv.below hb) hsh hx)
    rw [HE.out] at HD
    clear hsh hle hu hv HE h8
    have HB0 : Bel w (w.alloc (.cells #[v] 29)).drew := (Bel.alloc0 _ _).drew
    have hbox0 : (w.alloc (.cells #[v] 29)).drew.cell? ⟨w.heap.size, 0, none⟩ = some v := boxc ((Bel.rfl' _).drew) 0 _ rfl
    go_enter Try.func53, Try.ntmps53
    go_wp2_with fail
    go_region_held3 (fun w' => Bel w w' ∧ w'.cell? ⟨w.heap.size, 0, none⟩ = some v)
      (first | exact ⟨HB2, hbox2⟩ | exact ⟨HB1, hbox1⟩ | exact ⟨HB0, hbox0⟩ | fail)
      (first | (go_at_call 103; refine (HD.out _ _ HB1 hrow).mono ?_; rintro e w2 ⟨rfl, hb2⟩; have HB2 := HB1.step hb2; have hbox2 := hb2.at (World.block_lt_of_cell? _ ⟨_, _, none⟩ hbox1) hbox1) | (go_at_call 104; refine (HT.out _ HB0).mono ?_; rintro e w1 ⟨ad1, n1, c1, rfl, hrw, hb1⟩; have HB1 := HB0.step hb1; have hbox1 := hb1.at (World.block_lt_of_cell? _ ⟨_, _, none⟩ hbox0) hbox0; have hrow := hrw.sls hb1) | fail)
    go_wp2_with fail
    go_ret
    exact ⟨rfl, HB2⟩
  · have hd : decide ((c.length : Int) ≤ 8) = false := by rw [decide_eq_false]; omega
    have E := Lib.hid (goodClause_long ar h8)
    clear h8
    go_enter Try.func53, Try.ntmps53
    go_wp2_with fail
    have hbox0 : (w.alloc (.cells #[v] 29)).drew.cell? ⟨w.heap.size, 0, none⟩ = some v := boxc ((Bel.rfl' _).drew) 0 _ rfl
    go_region
    all_goals
      go_wp2_with fail
      go_ret
      exact ⟨by rw [E.out]; rfl, (Bel.alloc0 _ _).drew⟩
theorem iGoodClause_t {l h l' h' : Nat} {v u : Value} {ar : List Int} {c : List Lt} {w : World} (ha : ar.length ≤ 1048576) (hv : SlI l h w v ar) (hc : sumC c ≤ 1048576) (hu : SlC l' h' w u c) :
    Calls Try.prog 53 #[.agg #[v], u] w (RetV w (.bool (goodClause ar c))) := iGoodClause_sh ha hv (shortC_of_sum hc) hu
theorem iGoodClause_v {l h l' h' : Nat} {v u : Value} {ar : List Int} {c : List Lt} {w : World} {q : Bool} (he : goodClause ar c = q) (ha : ar.length ≤ 1048576) (hv : SlI l h w v ar) (hc : sumC c ≤ 1048576) (hu : SlC l' h' w u c) :
    Calls Try.prog 53 #[.agg #[v], u] w (RetV w (.bool q)) := by subst he; exact iGoodClause_t ha hv hc hu

set_option maxRecDepth 100000 in
set_option maxHeartbeats 400000 in
theorem iWeightOf_t {l h l' h' : Nat} {v u : Value} {ar : List Int} {c : List Lt} {w : World} (ha : ar.length ≤ 1048576) (hv : SlI l h w v ar) (hc : sumC c ≤ 1048576) (hu : SlC l' h' w u c) :
    Calls Try.prog 60 #[.agg #[v], u] w (RetV w (.tuple #[.int .i64 (weightAns ar c), .bool (goodClause ar c)])) := by
  unfold weightAns
  cases hg : goodClause ar c with
  | false =>
    rw [if_neg (by simp)]
    have HG := Lib.hid hg; clear hg
    go_enter Try.func60, Try.ntmps60
    go_wp2_with fail
    refine (iGoodClause_v HG.out ha (hv.alloc _) hc (hu.alloc _)).mono ?_; rintro e w1 ⟨rfl, hb1⟩
    go_wp2_with fail
    go_ret2
    exact ⟨rfl, hb1.of_alloc⟩
  | true =>
    rw [if_pos rfl]
    have hle := sumC_len c
    have hsum := (short_flat hc).1
    have hfl := flatC_len c
    have HG := Lib.hid hg; clear hg
    have HC := Lib.hid (fun (w' : World) (hb : Bel w w') => termsIn_c l' h' u c w' (by omega) (hu.below hb))
    go_enter Try.func60, Try.ntmps60
    go_wp2_with fail
    refine (iGoodClause_v HG.out ha (hv.alloc _) hc (hu.alloc _)).mono ?_; rintro e w1 ⟨rfl, hb1⟩
    have hcl : c.length ≤ 1048576 := by omega
    clear hc hu hv
    go_wp2_with fail
    refine (HC.out _ hb1.of_alloc).mono ?_; rintro e w2 ⟨a2, n2, c2, rfl, hrow, hb2⟩
    have HB := hb1.of_alloc.step hb2
    generalize flatC c = L at *
    have hs := hrow.sls hb2
    obtain ⟨ad, cap, e⟩ := hs.form
    simp only [Value.slice.injEq] at e
    obtain ⟨rfl, rfl, rfl⟩ := e
    go_wp2_with fail
    go_loopw [6, 16] (fun m i wr => ∃ k : Nat, k ≤ L.length ∧ i = .int .i64 k ∧ m = .int .i64 (sumL (L.take k) : Nat) ∧ Bel w2 wr) (fun _ i _ => L.length - (intOf i).toNat)
    case atStart => exact ⟨0, Nat.zero_le _, rfl, by simp [sumL], Bel.rfl' _⟩
    case round =>
      obtain ⟨k, hk, rfl, rfl, hb⟩ := hrel
      by_cases hlt : k < L.length
      · obtain ⟨b, off, u1, rfl, hbs, c1, s1⟩ := hs.at hb k hlt
        have hst := sumL_take L k hlt
        have hsl := sumL_get L k hlt
        have hin1 : (k : Int) < L.length := by omega
        have hin2 : (k : Int) < 2 * c.length := by omega
        clear hs hrow
        generalize L.getD k [] = x at *
        obtain ⟨a1, d1, rfl⟩ := s1.form
        have HE : Hid (((sumL (L.take k) : Nat) : Int) + (x.length : Int) = (sumL (L.take (k+1)) : Nat)) := by show _ = _; omega
        have i2 := IntWalk.i64_in (((sumL (L.take k) : Nat) : Int) + (x.length : Int)) (by omega)
        clear s1 hst hsl
        go_wp2_with fail
        go_roundw
        case rel => exact ⟨k+1, by omega, by go_num, by rw [← HE.out], hb⟩
        case measure => simp [intOf]; omega
      · have hin2 : ¬ (k : Int) < 2 * c.length := by omega
        rw [sumL_all L k hlt]
        go_wp2_with fail
        go_ret2
        exact ⟨rfl, HB.step hb⟩
end Go.Proofs.Ytikllmdmifecpaa
end
section
/- Chapter 4, the program: a clause with other terms; RenameClause. -/
namespace Go.Proofs.Ytikllmdmifecpaa
open Go.RowKit

theorem ownsRow_base {w : World} {lo lo' e s n : Nat} {v : Value} {xs : List Value} (h : w.ownsRow lo e s v n xs) (hl : lo' ≤ lo) : w.ownsRow lo' e s v n xs := by
  refine ⟨h.1, ?_⟩
  rcases h.2 with h0 | ⟨g, cap, cur, e1, e2, r⟩
  · exact .inl h0
  · exact .inr ⟨g, cap, cur, e1, Nat.le_trans hl e2, r⟩
theorem OwnS.two {lo hi : Nat} {w : World} {u : Value} {ts : List (List Int)} (h : OwnS lo hi w u ts) (hhi : hi ≤ w.heap.size) : ∃ (ad : Option Addr) (cap : Nat) (us : List SV) (bs : Nat → Nat), u = .slice ad ts.length cap ∧ us.length = ts.length ∧
    (∀ j z, us[j]? = some z → ∃ b off, ad = some ⟨b, off, none⟩ ∧ b < w.heap.size ∧ w.cell? ⟨b, off + j, none⟩ = some (encS z)) ∧ (∀ g w', Bel w w' → w.heap.size ≤ g → Ins lo hi g w' (us.map encS) ts bs) := by
  obtain ⟨ad, cap, rfl, hc, hm, hr⟩ := h
  by_cases hp : 0 < ts.length
  · obtain ⟨b, off, us, bs, rfl, a1, a2, a3, hi'⟩ := hr hp
    have hl := hi'.len
    have hv : ∀ j, j < us.length → ∃ z : SV, us[j]? = some (encS z) := fun j hj => by
      have h1 : us[j]? = some us[j] := List.getElem?_eq_getElem hj
      obtain ⟨x, y, e⟩ := (hi'.sl j _ h1).form
      exact ⟨(x, _, y), by rw [h1, e]; rfl⟩
    obtain ⟨f, hf⟩ := skolem_lt hv
    have he : ((List.range us.length).map f).map encS = us := by
      apply List.ext_getElem?
      intro j
      by_cases hj : j < us.length
      · rw [hf j hj]; simp [hj]
      · simp [List.getElem?_eq_none (Nat.le_of_not_lt hj), Nat.le_of_not_lt hj]
    refine ⟨some ⟨b, off, none⟩, cap, (List.range us.length).map f, bs, rfl, by simp [hl], fun j z hj => ?_, fun g w' hb hg => ?_⟩
    · have h2 : us[j]? = some (encS z) := by rw [← he, List.getElem?_map, hj]; rfl
      have h3 := a3 j _ h2
      exact ⟨b, off, rfl, World.block_lt_of_cell? w ⟨b, _, none⟩ h3, h3⟩
    · rw [he]
      have h4 := hi'.below hb
      exact ⟨h4.len, fun j hj hpj => by have := h4.rng j hj hpj; omega, h4.inj, h4.own⟩
  · obtain rfl : ts = [] := List.length_eq_zero_iff.1 (by omega)
    exact ⟨ad, cap, [], _, rfl, rfl, fun j z h => by simp at h, fun g w' _ _ => Ins.none _ _ _ _ |>.mono (Nat.le_refl _) (Nat.le_refl _)⟩

set_option maxRecDepth 100000 in
set_option maxHeartbeats 400000 in
theorem withTerms_c (l h lo hi : Nat) (v u : Value) (c : List Lt) (ts : List (List Int)) (w : World) (hx : c.length ≤ 1048576) (ht : ts.length = 2 * c.length) (hlo : lo ≤ w.heap.size) (hhi : hi ≤ w.heap.size) (hv : SlC l h w v c) (hu : OwnS lo hi w u ts) :
    Calls Try.prog 145 #[v, u] w (fun e w' => ∃ ad n k, e = .returned (.slice ad n k) ∧ OwnC lo w'.heap.size w' (.slice ad n k) (zipC c ts) ∧ Bel w w') := by
  obtain ⟨ad, cap, rfl⟩ := hv.form
  obtain ⟨au, cu, us, bs, rfl, hul, hcell, hIns⟩ := hu.two hhi
  have HTS := Lib.hid ht
  clear hu ht
  go_enter Try.func145, Try.ntmps145
  go_wp2_with fail
  go_loopw [5, 10] (fun o i wr => ∃ (k : Nat) (zs : List LV), k ≤ c.length ∧ i = .int .i64 k ∧ RowC w.heap.size wr o zs ∧ zs.map (·.1) = (c.take k).map (·.1) ∧ rowsC zs = (us.take (2 * k)).map encS ∧ Bel w wr) (fun _ i _ => c.length - (intOf i).toNat)
  case atStart => exact ⟨0, [], Nat.zero_le _, rfl, RowC.nil _ _, rfl, rfl, Bel.rfl' _⟩
  case round =>
    obtain ⟨k, zs, hk, rfl, hrow, hzp, hzr, hb⟩ := hrel
    have hzl : zs.length = k := by have := congrArg List.length hzp; simp at this; omega
    have ht := HTS.out
    by_cases hlt : k < c.length
    · obtain ⟨b, off, z1, z2, rfl, hbs, e1, e2, e3, -, -⟩ := hv.two k hlt
      have c1 := hb.at (World.block_lt_of_cell? _ ⟨_, _, none⟩ e1) e1
      have c2 := hb.at (World.block_lt_of_cell? _ ⟨_, _, none⟩ e2) e2
      have c3 := hb.at (World.block_lt_of_cell? _ ⟨_, _, none⟩ e3) e3
      have hu1 : us[2 * k]? = some us[2 * k] := List.getElem?_eq_getElem (by omega)
      have hu2 : us[2 * k + 1]? = some us[2 * k + 1] := List.getElem?_eq_getElem (by omega)
      have HTK : Hid ((us.take (2 * (k+1))).map encS = (us.take (2 * k)).map encS ++ [encS us[2 * k], encS us[2 * k + 1]]) := by
        show _ = _
        rw [show 2 * (k + 1) = 2 * k + 1 + 1 from by omega, List.take_succ_eq_append_getElem (show 2 * k + 1 < us.length by omega), List.take_succ_eq_append_getElem (show 2 * k < us.length by omega), List.map_append, List.map_append]
        simp only [List.append_assoc]
        rfl
      have HTP : Hid ((c.take (k+1)).map (·.1) = (c.take k).map (·.1) ++ [(c.getD k lt0).1]) := by show _ = _; rw [List.take_succ_eq_append_getElem hlt, List.map_append]; simp [List.getD, hlt]
      obtain ⟨b2, o2, rfl, hb2, d1⟩ := hcell _ _ hu1
      obtain ⟨b2', o2', eq2, -, d2⟩ := hcell _ _ hu2
      simp only [Option.some.injEq, Addr.mk.injEq, and_true] at eq2
      obtain ⟨rfl, rfl⟩ := eq2
      have d1 := hb.at hb2 d1
      have d2 := hb.at hb2 d2
      have hin1 : (k : Int) < c.length := by omega
      generalize (c.getD k lt0).1 = p at *
      generalize us[2 * k] = y1 at *
      generalize us[2 * k + 1] = y2 at *
      obtain ⟨a1, n1, q1⟩ := z1
      obtain ⟨a2, n2, q2⟩ := z2
      obtain ⟨a3, n3, q3⟩ := y1
      obtain ⟨a4, n4, q4⟩ := y2
      simp only [encS] at c2 c3 d1 d2
      have HROW := Lib.hid hrow
      have hin2 : 2 * (k : Int) < ts.length := by omega
      have hin3 : 2 * (k : Int) + 1 < ts.length := by omega
      have hw1 := IntWalk.i64_in (2 * (k : Int)) (by omega)
      have hw2 := IntWalk.i64_in (2 * (k : Int) + 1) (by omega)
      have B2 := World.block_lt_of_cell? wr ⟨b2, _, none⟩ d1
      have k1 : (wr.alloc (.cells #[.bool p, .slice a1 n1 q1, .slice a2 n2 q2] 106)).drew.cell? ⟨wr.heap.size, 0, none⟩ = some (.bool p) := boxc ((Bel.rfl' _).drew) 0 _ rfl
      have k2 := (Bel.alloc0 wr (.cells #[.bool p, .slice a1 n1 q1, .slice a2 n2 q2] 106)).drew.at B2 d1
      have k3 := (Bel.alloc0 wr (.cells #[.bool p, .slice a1 n1 q1, .slice a2 n2 q2] 106)).drew.at B2 d2
      have m1 : ((wr.alloc (.cells #[.bool p, .slice a1 n1 q1, .slice a2 n2 q2] 106)).alloc (.cells #[.bool p, .slice a3 n3 q3, .slice a4 n4 q4] 106)).drew.cell? ⟨wr.heap.size, 0, none⟩ = some (.bool p) := boxc (Bel.alloc0 _ _).drew 0 _ rfl
      have m2 := (Bel.alloc2 wr (.cells #[.bool p, .slice a1 n1 q1, .slice a2 n2 q2] 106) (.cells #[.bool p, .slice a3 n3 q3, .slice a4 n4 q4] 106)).drew.at B2 d1
      have m3 := (Bel.alloc2 wr (.cells #[.bool p, .slice a1 n1 q1, .slice a2 n2 q2] 106) (.cells #[.bool p, .slice a3 n3 q3, .slice a4 n4 q4] 106)).drew.at B2 d2
      have HB5 : Bel wr ((wr.alloc (.cells #[.bool p, .slice a1 n1 q1, .slice a2 n2 q2] 106)).alloc (.cells #[.bool p, .slice a3 n3 q3, .slice a4 n4 q4] 106)).drew := (Bel.alloc2 _ _ _).drew
      have R5 : RowC w.heap.size ((wr.alloc (.cells #[.bool p, .slice a1 n1 q1, .slice a2 n2 q2] 106)).alloc (.cells #[.bool p, .slice a3 n3 q3, .slice a4 n4 q4] 106)).drew _ zs := ownsRow_bel hrow HB5
      have HLT := hrow.lt
      have HZ5 : w.heap.size ≤ ((wr.alloc (.cells #[.bool p, .slice a1 n1 q1, .slice a2 n2 q2] 106)).alloc (.cells #[.bool p, .slice a3 n3 q3, .slice a4 n4 q4] 106)).drew.heap.size := Nat.le_trans hb.size HB5.size
      have HN : ∀ j u, [Value.bool p, encS (a3, n3, q3), encS (a4, n4, q4)][j]? = some u → ((wr.alloc (.cells #[.bool p, .slice a1 n1 q1, .slice a2 n2 q2] 106)).alloc (.cells #[.bool p, .slice a3 n3 q3, .slice a4 n4 q4] 106)).drew.cell? ((⟨wr.heap.size + 1, 0, none⟩ : Addr).add j) = some u := fun j u hj => by
        have := news_lit (wr.alloc (.cells #[.bool p, .slice a1 n1 q1, .slice a2 n2 q2] 106)) (.bool p) (.slice a3 n3 q3) (.slice a4 n4 q4) 106 (wr.heap.size + 1) (by simp) j u hj
        rw [addr_add] at this ⊢
        exact (Bel.drew0 _).at (World.block_lt_of_cell? _ ⟨_, _, none⟩ this) this
      clear hv e1 e2 e3 hcell hu1 hu2 hIns hrow ht
      go_wp2_with fail
      go_region_held_law (fun w' => w'.cell? ⟨wr.heap.size, 0, none⟩ = some (.bool p) ∧ w'.cell? ⟨b2, o2 + 2 * k, none⟩ = some (.slice a3 n3 q3) ∧ w'.cell? ⟨b2, o2 + (2 * k + 1), none⟩ = some (.slice a4 n4 q4))
        (first | exact ⟨k1, k2, k3⟩ | exact ⟨m1, m2, m3⟩ | exact ⟨t1, t2, t3⟩ | fail)
        (first
          | (refine step_append_lit rfl (.tmp 15) (.tmp 30) 31 rfl rfl w.heap.size _ zs rfl R5 (wr.heap.size + 1) p (a3, n3, q3) (a4, n4, q4) rfl HN (by omega) HZ5 ?_; intro a5 n5 c5 w5 R6 hg5; have t1 := hg5.cell m1 (fun e => Nat.lt_irrefl _ (HLT _ e.symm).2); have t2 := hg5.cell m2 (fun e => by have := (HLT _ e.symm).1; simp at this; omega); have t3 := hg5.cell m3 (fun e => by have := (HLT _ e.symm).1; simp at this; omega))
          | fail)
      all_goals
        have HB6 := (hb.step HB5).grown hg5 (fun q hq => own_base R5 q hq)
        go_wp2_with fail
        go_roundw
        case rel => exact ⟨k+1, _, by omega, by go_num, R6, by rw [List.map_append, hzp, HTP.out]; rfl, by rw [rowsC_app, hzr, HTK.out]; rfl, HB6⟩
        case measure => simp [intOf]; omega
    · obtain ⟨ad5, n5, c5, rfl⟩ := own_form hrow
      rw [List.take_of_length_le (by omega)] at hzp hzr
      have hfz := zipC_flat c ts ht
      have hlz := zipC_len c ts ht
      have hsz := zipC_signs c ts ht
      have hkc : k = c.length := by omega
      have HO : Hid (OwnC lo wr.heap.size wr (.slice ad5 n5 c5) (zipC c ts)) := by
        show OwnC _ _ _ _ _
        refine OwnC.of_row (base := lo) (e := 106) (zs := zs) (bs := bs) ?_ (Nat.le_refl _) (by rw [hsz]; exact hzp) (fun g hg => ?_)
        · rw [hlz, ← hkc, ← hzl]
          exact ownsRow_base hrow hlo
        · rw [hfz, hzr]
          exact (hIns g wr hb (own_base hrow g hg)).mono (Nat.le_refl _) (Nat.le_trans hhi hb.size)
      clear hrow hzp hzr hcell hIns hfz hlz hsz ht
      go_wp2_with fail
      go_ret
      exact ⟨_, _, _, rfl, HO.out, hb⟩
end Go.Proofs.Ytikllmdmifecpaa
end
section
/- Chapter 4, the program: changedClause, over a function value. -/
namespace Go.Proofs.Ytikllmdmifecpaa
open Go.RowKit

set_option maxRecDepth 100000 in
set_option maxHeartbeats 1000000 in
theorem changedA_c (l h : Nat) (v : Value) (g : Nat) (c : List Lt) (w : World) (F : List Int → List Int) (okF : List Int → Bool) (hx : c.length ≤ 1048576) (hv : SlC l h w v c)
    (hF : ∀ t, t ∈ flatC c → ∀ lo hi x w', Bel w w' → SlI lo hi w' x t → Calls Try.prog 134 #[x, .pointer (some ⟨g, 0, none⟩)] w' (RetIB w' (if okF t then F t else []) (okF t))) (q : Bool) (r : List Lt) (hq : (flatC c).all okF = q) (hr : (if q then zipC c ((flatC c).map F) else []) = r) :
    Calls Try.prog 133 #[v, .func (.func 134) #[] #[.pointer (some ⟨g, 0, none⟩)]] w (RetCB w r q) := by
  have eg : ∀ args w, (callFunc 134 args).run Try.prog w = .ok (.enter 134 args) w := enters_of Try.func134 (by kernel_rfl) rfl
  obtain ⟨i1, hi1, hy0, hy1, hy2⟩ := info_parts Try.info22
  obtain ⟨ad, cap, rfl⟩ := hv.form
  have HQ := Lib.hid hq
  have HR := Lib.hid hr
  have HF := Lib.hid hF
  clear hq hr hF
  go_enter Try.func133, Try.ntmps133
  go_wp2_with fail
  refine (termsIn_c l h _ c _ hx hv).mono ?_; rintro e w1 ⟨a1, n1, c1, rfl, hrow, hb1⟩
  have hs := hrow.sls hb1
  have hfl := flatC_len c
  have hn1 : n1 = (flatC c).length := by obtain ⟨_, _, e⟩ := hs.form; simp only [Value.slice.injEq] at e; exact e.2.1
  subst hn1
  have HFL : Hid ((flatC c).length = 2 * c.length) := hfl
  have hl2 : (flatC c).length ≤ 2097152 := by omega
  have HV1 := hv.below hb1
  clear hfl hrow hv
  generalize flatC c = L at *
  go_wp2_with fail
  go_loopw [6, 14] (fun o i wr => ∃ k : Nat, k ≤ L.length ∧ i = .int .i64 k ∧ RowO w1.heap.size wr o ((L.take k).map F) ∧ (∀ t ∈ L.take k, okF t = true) ∧ Bel w1 wr) (fun _ i _ => L.length - (intOf i).toNat)
  case atStart => exact ⟨0, Nat.zero_le _, rfl, RowO.nil _ _, fun t h => by simp at h, Bel.rfl' _⟩
  case round =>
    obtain ⟨k, hk, rfl, hro, hall, hb⟩ := hrel
    by_cases hlt : k < L.length
    · obtain ⟨b1, o1, u1, rfl, hbs, c1, s1⟩ := hs.at hb k hlt
      have HTK : Hid (L.take (k+1) = L.take k ++ [L.getD k []]) := by show _ = _; rw [List.take_succ_eq_append_getElem hlt]; simp [List.getD, hlt]
      have hmem := mem_getD L [] k hlt
      have hin1 : (k : Int) < L.length := by omega
      generalize L.getD k [] = t at *
      have HC := HF.out t hmem _ _ u1 wr (hb1.step hb) s1
      obtain ⟨x1, y1, rfl⟩ := s1.form
      cases hok : okF t with
      | false =>
        rw [hok, if_neg (by simp)] at HC
        have HCC := Lib.hid HC
        have hqf : q = false := by
          rw [← HQ.out]; rw [List.all_eq_false]; exact ⟨t, hmem, by simp [hok]⟩
        subst hqf
        have hr0 : r = [] := by rw [← HR.out]; rfl
        subst hr0
        clear hs HC s1 hro hall
        go_wp2_with fail
        refine HCC.out.mono ?_; rintro e w2 ⟨a2, n2, c2, rfl, ho2, hb2⟩
        go_wp2_with fail
        go_ret2
        exact ⟨_, _, _, rfl, OwnC.nil _ _ _, (hb1.step hb).step hb2⟩
      | true =>
        rw [hok, if_pos rfl] at HC
        have HCC := Lib.hid HC
        have HAL := Lib.hid hall
        have HRO := Lib.hid hro
        have HOK := Lib.hid hok
        have hbz := hb.size
        clear hs HC s1 hro hall hok hmem
        go_wp2_with fail
        refine HCC.out.mono ?_; rintro e w2 ⟨a2, n2, c2, rfl, ho2, hb2⟩
        have hAl := Bel.alloc0 w2 (.cells #[.slice a2 n2 c2] 22)
        obtain ⟨us, hown, hul, hnext⟩ := HRO.out.step hb2 hAl ho2 hbz
        have hkl : us.length = k := by rw [hul]; simp; omega
        have HN := Lib.hid hnext
        clear hnext
        go_wp2_with (at_builtin; refine wpList_append_own_at _ rfl _ _ 26 rfl w1.heap.size 22 i1 (.slice none 0 0) 1 24 Try.underlying26 hi1 hy0 hy1 hy2 rfl (by decide) _ _ _ rfl hown _ _ _ [.slice a2 n2 c2] rfl rfl (news_oneV _ _ _) (one_slice _ _ _) (by unfold maxLen; omega) (by omega) (by have := hb2.size; simp; omega) ?_; intro v' w4 hown' hgrow _ hat)
        have hR4 := HN.out w4 v' hown' hgrow hat
        have hB4 := ((hb.step hb2).step hAl).grown hgrow (fun x hx => own_base hown x hx)
        go_roundw
        case rel =>
          refine ⟨k+1, by omega, by go_num, by rw [HTK.out, List.map_append]; exact hR4, fun t' h => ?_, hB4⟩
          rw [HTK.out] at h
          rcases List.mem_append.1 h with h | h
          · exact HAL.out t' h
          · simp at h; subst h; exact HOK.out
        case measure => simp [intOf]; omega
    · have ek : L.take k = L := List.take_of_length_le (by omega)
      rw [ek] at hro hall
      have hqt : q = true := by rw [← HQ.out, List.all_eq_true]; exact hall
      subst hqt
      have hr1 : zipC c (L.map F) = r := HR.out
      subst hr1
      obtain ⟨a5, c5, e5⟩ := hro.form
      rw [List.length_map] at e5
      subst e5
      have hin1 : ¬ (k : Int) < L.length := by omega
      have hw := withTerms_c _ _ _ _ _ _ c (L.map F) wr hx (by rw [List.length_map]; exact HFL.out) hb.size (Nat.le_refl _) (HV1.below hb) hro.own
      have HW := Lib.hid hw
      clear hs hro hall hw HV1
      go_wp2_with fail
      refine HW.out.mono ?_; rintro e w2 ⟨a2, n2, c2, rfl, ho2, hb2⟩
      go_wp2_with fail
      go_ret2
      exact ⟨_, _, _, rfl, ho2.mono hb1.size (Nat.le_refl _), (hb1.step hb).step hb2⟩

set_option maxRecDepth 100000 in
set_option maxHeartbeats 1000000 in
theorem changedS_c (l h : Nat) (v : Value) (g g2 : Nat) (c : List Lt) (w : World) (F : List Int → List Int) (okF : List Int → Bool) (hx : c.length ≤ 1048576) (hv : SlC l h w v c)
    (hF : ∀ t, t ∈ flatC c → ∀ lo hi x w', Bel w w' → SlI lo hi w' x t → Calls Try.prog 138 #[x, .pointer (some ⟨g, 0, none⟩), .pointer (some ⟨g2, 0, none⟩)] w' (RetIB w' (if okF t then F t else []) (okF t))) (q : Bool) (r : List Lt) (hq : (flatC c).all okF = q) (hr : (if q then zipC c ((flatC c).map F) else []) = r) :
    Calls Try.prog 133 #[v, .func (.func 138) #[] #[.pointer (some ⟨g, 0, none⟩), .pointer (some ⟨g2, 0, none⟩)]] w (RetCB w r q) := by
  have eg : ∀ args w, (callFunc 138 args).run Try.prog w = .ok (.enter 138 args) w := enters_of Try.func138 (by kernel_rfl) rfl
  obtain ⟨i1, hi1, hy0, hy1, hy2⟩ := info_parts Try.info22
  obtain ⟨ad, cap, rfl⟩ := hv.form
  have HQ := Lib.hid hq
  have HR := Lib.hid hr
  have HF := Lib.hid hF
  clear hq hr hF
  go_enter Try.func133, Try.ntmps133
  go_wp2_with fail
  refine (termsIn_c l h _ c _ hx hv).mono ?_; rintro e w1 ⟨a1, n1, c1, rfl, hrow, hb1⟩
  have hs := hrow.sls hb1
  have hfl := flatC_len c
  have hn1 : n1 = (flatC c).length := by obtain ⟨_, _, e⟩ := hs.form; simp only [Value.slice.injEq] at e; exact e.2.1
  subst hn1
  have HFL : Hid ((flatC c).length = 2 * c.length) := hfl
  have hl2 : (flatC c).length ≤ 2097152 := by omega
  have HV1 := hv.below hb1
  clear hfl hrow hv
  generalize flatC c = L at *
  go_wp2_with fail
  go_loopw [6, 14] (fun o i wr => ∃ k : Nat, k ≤ L.length ∧ i = .int .i64 k ∧ RowO w1.heap.size wr o ((L.take k).map F) ∧ (∀ t ∈ L.take k, okF t = true) ∧ Bel w1 wr) (fun _ i _ => L.length - (intOf i).toNat)
  case atStart => exact ⟨0, Nat.zero_le _, rfl, RowO.nil _ _, fun t h => by simp at h, Bel.rfl' _⟩
  case round =>
    obtain ⟨k, hk, rfl, hro, hall, hb⟩ := hrel
    by_cases hlt : k < L.length
    · obtain ⟨b1, o1, u1, rfl, hbs, c1, s1⟩ := hs.at hb k hlt
      have HTK : Hid (L.take (k+1) = L.take k ++ [L.getD k []]) := by show _ = _; rw [List.take_succ_eq_append_getElem hlt]; simp [List.getD, hlt]
      have hmem := mem_getD L [] k hlt
      have hin1 : (k : Int) < L.length := by omega
      generalize L.getD k [] = t at *
      have HC := HF.out t hmem _ _ u1 wr (hb1.step hb) s1
      obtain ⟨x1, y1, rfl⟩ := s1.form
      cases hok : okF t with
      | false =>
        rw [hok, if_neg (by simp)] at HC
        have HCC := Lib.hid HC
        have hqf : q = false := by
          rw [← HQ.out]; rw [List.all_eq_false]; exact ⟨t, hmem, by simp [hok]⟩
        subst hqf
        have hr0 : r = [] := by rw [← HR.out]; rfl
        subst hr0
        clear hs HC s1 hro hall
        go_wp2_with fail
        refine HCC.out.mono ?_; rintro e w2 ⟨a2, n2, c2, rfl, ho2, hb2⟩
        go_wp2_with fail
        go_ret2
        exact ⟨_, _, _, rfl, OwnC.nil _ _ _, (hb1.step hb).step hb2⟩
      | true =>
        rw [hok, if_pos rfl] at HC
        have HCC := Lib.hid HC
        have HAL := Lib.hid hall
        have HRO := Lib.hid hro
        have HOK := Lib.hid hok
        have hbz := hb.size
        clear hs HC s1 hro hall hok hmem
        go_wp2_with fail
        refine HCC.out.mono ?_; rintro e w2 ⟨a2, n2, c2, rfl, ho2, hb2⟩
        have hAl := Bel.alloc0 w2 (.cells #[.slice a2 n2 c2] 22)
        obtain ⟨us, hown, hul, hnext⟩ := HRO.out.step hb2 hAl ho2 hbz
        have hkl : us.length = k := by rw [hul]; simp; omega
        have HN := Lib.hid hnext
        clear hnext
        go_wp2_with (at_builtin; refine wpList_append_own_at _ rfl _ _ 26 rfl w1.heap.size 22 i1 (.slice none 0 0) 1 24 Try.underlying26 hi1 hy0 hy1 hy2 rfl (by decide) _ _ _ rfl hown _ _ _ [.slice a2 n2 c2] rfl rfl (news_oneV _ _ _) (one_slice _ _ _) (by unfold maxLen; omega) (by omega) (by have := hb2.size; simp; omega) ?_; intro v' w4 hown' hgrow _ hat)
        have hR4 := HN.out w4 v' hown' hgrow hat
        have hB4 := ((hb.step hb2).step hAl).grown hgrow (fun x hx => own_base hown x hx)
        go_roundw
        case rel =>
          refine ⟨k+1, by omega, by go_num, by rw [HTK.out, List.map_append]; exact hR4, fun t' h => ?_, hB4⟩
          rw [HTK.out] at h
          rcases List.mem_append.1 h with h | h
          · exact HAL.out t' h
          · simp at h; subst h; exact HOK.out
        case measure => simp [intOf]; omega
    · have ek : L.take k = L := List.take_of_length_le (by omega)
      rw [ek] at hro hall
      have hqt : q = true := by rw [← HQ.out, List.all_eq_true]; exact hall
      subst hqt
      have hr1 : zipC c (L.map F) = r := HR.out
      subst hr1
      obtain ⟨a5, c5, e5⟩ := hro.form
      rw [List.length_map] at e5
      subst e5
      have hin1 : ¬ (k : Int) < L.length := by omega
      have hw := withTerms_c _ _ _ _ _ _ c (L.map F) wr hx (by rw [List.length_map]; exact HFL.out) hb.size (Nat.le_refl _) (HV1.below hb) hro.own
      have HW := Lib.hid hw
      clear hs hro hall hw HV1
      go_wp2_with fail
      refine HW.out.mono ?_; rintro e w2 ⟨a2, n2, c2, rfl, ho2, hb2⟩
      go_wp2_with fail
      go_ret2
      exact ⟨_, _, _, rfl, ho2.mono hb1.size (Nat.le_refl _), (hb1.step hb).step hb2⟩
end Go.Proofs.Ytikllmdmifecpaa
end
section
/- Chapter 4, the program: ApplyClause (over changedClause and a function value). -/
namespace Go.Proofs.Ytikllmdmifecpaa
open Go.RowKit

theorem app40_if (b : List (List Int)) (t : List Int) : app40 b t = if app40ok b t then appT b t else [] := by
  by_cases h : 40 < (appT b t).length
  · rw [(app40_no h).1, (app40_no h).2]; rfl
  · rw [(app40_yes h).1, (app40_yes h).2]; rfl

set_option maxRecDepth 100000 in
set_option maxHeartbeats 400000 in
theorem appliedFn_c (g l h l' h' : Nat) (v u : Value) (b : List (List Int)) (t : List Int) (w : World) (hlen : b.length = 12) (hb : lens40 b) (ht : t.length ≤ 1024) (hlow : ∀ k, k < t.length → -12 ≤ t.getD k 0) (hc : w.cell? ⟨g, 0, none⟩ = some u) (hu : SlS l' h' w u b) (hv : SlI l h w v t) :
    Calls Try.prog 134 #[v, .pointer (some ⟨g, 0, none⟩)] w (RetIB w (app40 b t) (app40ok b t)) := by
  have HC := Lib.hid (applied_c l h l' h' v u b t w hlen hb ht hlow hu hv)
  obtain ⟨ad, cap, rfl⟩ := hv.form
  obtain ⟨au, cu, rfl⟩ := hu.form
  clear hlen hb ht hlow hu hv
  generalize app40 b t = r at *
  generalize app40ok b t = q at *
  go_enter Try.func134, Try.ntmps134
  go_wp2_with fail
  refine HC.out.mono ?_; rintro e w1 ⟨a1, n1, c1, rfl, ho1, hb1⟩
  go_wp2_with fail
  go_ret2
  exact ⟨_, _, _, rfl, ho1, hb1⟩

set_option maxRecDepth 100000 in
set_option maxHeartbeats 400000 in
theorem appliedClause_c (l h l' h' : Nat) (v u : Value) (b : List (List Int)) (c : List Lt) (w : World) (hlen : b.length = 12) (hb40 : lens40 b) (hx : c.length ≤ 1048576) (ht : ∀ t ∈ flatC c, t.length ≤ 1024 ∧ ∀ k, k < t.length → -12 ≤ t.getD k 0) (hu : SlS l' h' w u b) (hv : SlC l h w v c) (q : Bool) (r : List Lt) (hq : (flatC c).all (app40ok b) = q) (hr : (if q then applyC b c else []) = r) :
    Calls Try.prog 92 #[u, v] w (RetCB w r q) := by
  have hmf : ∀ (fn : Fn) (first cap : Array Value) (w : World), (Instr.makeFunc fn first cap).run Try.prog w = .ok (.func fn first cap) w := fun _ _ _ _ => rfl
  obtain ⟨ad, cap, rfl⟩ := hv.form
  obtain ⟨au, cu, rfl⟩ := hu.form
  have hA := Bel.alloc0 w (.cells #[.slice au b.length cu] 26)
  have hbox := boxc (Bel.rfl' (w.alloc (.cells #[.slice au b.length cu] 26))) 0 _ rfl
  have hz : zipC c ((flatC c).map (appT b)) = applyC b c := by rw [zipC_map]; rfl
  have HC := Lib.hid (changedA_c l h (.slice ad c.length cap) w.heap.size c _ (appT b) (app40ok b) hx (hv.below hA)
    (fun t hm lo hi x w' hbb hs => by
      rw [← app40_if]
      exact appliedFn_c _ _ _ _ _ _ _ b t w' hlen hb40 (ht t hm).1 (ht t hm).2 (hbb.at (World.block_lt_of_cell? _ ⟨_, _, none⟩ hbox) hbox) (hu.below (hA.step hbb)) hs) q r hq (by rw [hz]; exact hr))
  clear hlen hb40 ht hu hv hq hr hz hbox
  go_enter Try.func92, Try.ntmps92
  go_wp2_with fail
  refine HC.out.mono ?_; rintro e w1 ⟨a1, n1, c1, rfl, ho1, hb1⟩
  go_wp2_with fail
  go_ret2
  exact ⟨_, _, _, rfl, ho1.mono hA.size (Nat.le_refl _), hA.step hb1⟩
end Go.Proofs.Ytikllmdmifecpaa
end
section
/- Chapter 4: ApplyClause, both sides. -/
namespace Go.Proofs.Ytikllmdmifecpaa
open Go.RowKit

theorem l4Clause_v (l h l' h' : Nat) (v u : Value) (ar : List Int) (c : List Lt) (q : Bool) (w : World) (he : okLits ar c = q) (hg : goodSign ar = true) (hx : shortC c) (hv : SlI l h w v ar) (hu : SlC l' h' w u c) :
    Calls Try.prog 88 #[.agg #[v], u] w (RetV w (.bool q)) := by subst he; exact l4Clause_c l h l' h' v u ar c w hg hx hv hu

set_option maxRecDepth 100000 in
set_option maxHeartbeats 400000 in
theorem l4Made_c (l h lo hi : Nat) (v u : Value) (ar : List Int) (c : List Lt) (w : World) (hg : goodSign ar = true) (hx : shortC c) (hv : SlI l h w v ar) (hu : OwnC lo hi w u c) :
    Calls Try.prog 89 #[.agg #[v], u] w (fun e w' => ∃ ad n k, e = .returned (.tuple #[.slice ad n k, .bool (okLits ar c)]) ∧ OwnC lo hi w' (.slice ad n k) (if okLits ar c then c else []) ∧ Bel w w') := by
  cases hq : okLits ar c with
  | false =>
    rw [if_neg (by simp)]
    have HQ := Lib.hid hq; clear hq
    have hul := hu.sl
    go_enter Try.func89, Try.ntmps89
    go_wp2_with fail
    refine (l4Clause_v _ _ _ _ _ _ ar c false _ HQ.out hg hx (hv.alloc _) (hul.alloc _)).mono ?_; rintro e w1 ⟨rfl, hb1⟩
    go_wp2_with fail
    go_ret2
    exact ⟨_, _, _, rfl, OwnC.nil _ _ _, hb1.of_alloc⟩
  | true =>
    rw [if_pos rfl]
    have HQ := Lib.hid hq; clear hq
    have HU := Lib.hid hu
    have hul := hu.sl
    clear hu
    obtain ⟨au, cu, rfl⟩ := hul.form
    go_enter Try.func89, Try.ntmps89
    go_wp2_with fail
    refine (l4Clause_v _ _ _ _ _ _ ar c true _ HQ.out hg hx (hv.alloc _) (hul.alloc _)).mono ?_; rintro e w1 ⟨rfl, hb1⟩
    go_wp2_with fail
    go_ret2
    exact ⟨_, _, _, rfl, HU.out.below hb1.of_alloc, hb1.of_alloc⟩

theorem flat_rows {ar : List Int} {c : List Lt} (h : okLits ar c = true) : ∀ t ∈ flatC c, t.length ≤ 1024 ∧ ∀ k, k < t.length → -12 ≤ t.getD k 0 := fun t ht => by
  have := flat_ok (okLits_iff.1 h).2 ht
  exact ⟨by have := (okTerm_len this).2; omega, low_memC fun _ hn => ok_low this hn⟩
theorem applyC_short {ar : List Int} {b : List (List Int)} {c : List Lt} (hb : lens40 b) (hc : okLits ar c = true) : shortC (applyC b c) := by
  obtain ⟨h8, hok⟩ := okLits_iff.1 hc
  refine ⟨by simp [applyC]; omega, fun j hj => ?_⟩
  have hj' : j < c.length := by simpa [applyC] using hj
  obtain ⟨o1, o2⟩ := okLits_get hok j hj'
  have l1 := appT_len hb (c.getD j lt0).2.1
  have l2 := appT_len hb (c.getD j lt0).2.2
  have k1 := (okTerm_len o1).2
  have k2 := (okTerm_len o2).2
  have e : (applyC b c).getD j lt0 = ((c.getD j lt0).1, appT b (c.getD j lt0).2.1, appT b (c.getD j lt0).2.2) := by simp [applyC, List.getD, hj']
  rw [e]
  exact ⟨by show (appT b _).length ≤ _; omega, by show (appT b _).length ≤ _; omega⟩

set_option maxRecDepth 100000 in
set_option maxHeartbeats 1000000 in
theorem sApplyClause_t {l h l' h' l2 h2 : Nat} {v u x : Value} {ar : List Int} {b : List (List Int)} {c : List Lt} {w : World} (ha : ar.length ≤ 1048576) (hv : SlI l h w v ar) (hb : short b) (hu : SlS l' h' w u b) (hc : sumC c ≤ 1048576) (hx : SlC l2 h2 w x c) :
    Calls Try.prog 36 #[.agg #[v], u, x] w (RetCB w (applyCAns ar b c) (applyCok ar b c)) := by
  unfold applyCAns applyCok
  cases hs : goodSubst ar b with
  | false =>
    rw [Bool.false_and, Bool.false_and, if_neg (by simp)]
    have HS := Lib.hid hs; clear hs
    go_enter Try.func36, Try.ntmps36
    go_wp2_with fail
    refine (sGoodSubst_v _ _ _ _ _ _ ar b false _ HS.out ha (hv.alloc _) hb (hu.alloc _)).mono ?_; rintro e w1 ⟨rfl, hb1⟩
    go_wp2_with fail
    go_ret2
    exact ⟨_, _, _, rfl, OwnC.nil _ _ _, hb1.of_alloc⟩
  | true =>
    rw [Bool.true_and]
    have hg := (goodSubst_iff.1 hs).1
    have hl12 := (goodSubst_iff.1 hs).2.1
    have h40 := goodSubst_len40 hs
    have HS := Lib.hid hs; clear hs
    cases hq : okLits ar c with
    | false =>
      rw [Bool.false_and, if_neg (by simp)]
      have HQ := Lib.hid hq; clear hq hl12
      have hsc := shortC_of_sum hc
      go_enter Try.func36, Try.ntmps36
      go_wp2_with fail
      refine (sGoodSubst_v _ _ _ _ _ _ ar b true _ HS.out ha (hv.alloc _) hb (hu.alloc _)).mono ?_; rintro e w1 ⟨rfl, hb1⟩
      have hbox := boxc hb1 0 _ rfl
      go_wp2_with fail
      refine (l4Clause_v _ _ _ _ _ _ ar c false _ HQ.out hg hsc (hv.below hb1.of_alloc) (hx.below hb1.of_alloc)).mono ?_; rintro e w2 ⟨rfl, hb2⟩
      go_wp2_with fail
      go_ret2
      exact ⟨_, _, _, rfl, OwnC.nil _ _ _, hb1.of_alloc.step hb2⟩
    | true =>
      rw [Bool.true_and]
      have hsa := applyC_short h40 hq
      have hfr := flat_rows hq
      have hsc := shortC_of_sum hc
      have HA := Lib.hid (fun (w' : World) (hb' : Bel w w') => l4Apply_c _ _ _ _ _ _ b c w' hl12 h40 hsc.1 hfr (hu.below hb') (hx.below hb'))
      have HM := Lib.hid (fun (w' : World) (y : Value) (hb' : Bel w w') (hy : OwnC w.heap.size w'.heap.size w' y (applyC b c)) => l4Made_c _ _ _ _ _ y ar (applyC b c) w' hg hsa (hv.below hb') hy)
      have HQ := Lib.hid hq; clear hq hl12 hfr hsa
      generalize applyC b c = r at *
      generalize okLits ar r = q2 at *
      generalize (if q2 = true then r else []) = r2 at *
      go_enter Try.func36, Try.ntmps36
      go_wp2_with fail
      refine (sGoodSubst_v _ _ _ _ _ _ ar b true _ HS.out ha (hv.alloc _) hb (hu.alloc _)).mono ?_; rintro e w1 ⟨rfl, hb1⟩
      have hbox := boxc hb1 0 _ rfl
      go_wp2_with fail
      refine (l4Clause_v _ _ _ _ _ _ ar c true _ HQ.out hg hsc (hv.below hb1.of_alloc) (hx.below hb1.of_alloc)).mono ?_; rintro e w2 ⟨rfl, hb2⟩
      have hbox2 := hb2.at (World.block_lt_of_cell? _ ⟨_, _, none⟩ hbox) hbox
      have HB2 := hb1.of_alloc.step hb2
      go_wp2_with fail
      have HD2 := HB2.drew
      have hbox3 := (Bel.drew0 w2).at (World.block_lt_of_cell? _ ⟨_, _, none⟩ hbox2) hbox2
      go_region_held3 (fun w' => w'.cell? ⟨w.heap.size, 0, none⟩ = some v)
        (first | exact hbox5 | exact hbox4 | exact hbox3 | fail)
        (first | (go_at_call 89; refine (HM.out _ _ HB3 (ho3.mono HD2.size (Nat.le_refl _))).mono ?_; rintro e w4 ⟨a4, n4, c4, rfl, ho4, hb4⟩; have hbox5 := hb4.at (World.block_lt_of_cell? _ ⟨_, _, none⟩ hbox4) hbox4) | (go_at_call 90; refine (HA.out _ HD2).mono ?_; rintro e w3 ⟨a3, n3, c3, rfl, ho3, hb3⟩; have HB3 := HD2.step hb3; have hbox4 := hb3.at (World.block_lt_of_cell? _ ⟨_, _, none⟩ hbox3) hbox3) | fail)
      have hz4 := hb4.size
      go_wp2_with fail
      go_ret2
      exact ⟨_, _, _, rfl, ho4.mono (Nat.le_refl _) hz4, HB3.step hb4⟩

set_option maxRecDepth 100000 in
set_option maxHeartbeats 1000000 in
theorem iApplyClause_t {l h l' h' l2 h2 : Nat} {v u x : Value} {ar : List Int} {b : List (List Int)} {c : List Lt} {w : World} (ha : ar.length ≤ 1048576) (hv : SlI l h w v ar) (hb : short b) (hu : SlS l' h' w u b) (hc : sumC c ≤ 1048576) (hx : SlC l2 h2 w x c) :
    Calls Try.prog 39 #[.agg #[v], u, x] w (RetCB w (applyCAns ar b c) (applyCok ar b c)) := by
  unfold applyCAns applyCok
  cases hs : goodSubst ar b with
  | false =>
    rw [Bool.false_and, Bool.false_and, if_neg (by simp)]
    have HS := Lib.hid hs; clear hs
    go_enter Try.func39, Try.ntmps39
    go_wp2_with fail
    refine (iGoodSubst_v _ _ _ _ _ _ ar b false _ HS.out ha (hv.alloc _) hb (hu.alloc _)).mono ?_; rintro e w1 ⟨rfl, hb1⟩
    go_wp2_with fail
    go_ret2
    exact ⟨_, _, _, rfl, OwnC.nil _ _ _, hb1.of_alloc⟩
  | true =>
    rw [Bool.true_and]
    have hg := (goodSubst_iff.1 hs).1
    have hl12 := (goodSubst_iff.1 hs).2.1
    have h40 := goodSubst_len40 hs
    have hs0 := hs
    have HS := Lib.hid hs; clear hs
    have hgc : goodClause ar c = okLits ar c := by unfold goodClause; rw [hg, Bool.true_and]
    cases hq : okLits ar c with
    | false =>
      rw [Bool.false_and, if_neg (by simp)]
      rw [hq] at hgc
      have HQ := Lib.hid hgc; clear hq hl12 hgc hs0
      go_enter Try.func39, Try.ntmps39
      go_wp2_with fail
      refine (iGoodSubst_v _ _ _ _ _ _ ar b true _ HS.out ha (hv.alloc _) hb (hu.alloc _)).mono ?_; rintro e w1 ⟨rfl, hb1⟩
      have hbox := boxc hb1 0 _ rfl
      go_wp2_with fail
      refine (iGoodClause_v HQ.out ha (hv.below hb1.of_alloc) hc (hx.below hb1.of_alloc)).mono ?_; rintro e w2 ⟨rfl, hb2⟩
      go_wp2_with fail
      go_ret2
      exact ⟨_, _, _, rfl, OwnC.nil _ _ _, hb1.of_alloc.step hb2⟩
    | true =>
      rw [Bool.true_and]
      have hok := applyC_ok hs0 hq
      have hfr := flat_rows hq
      rw [hq] at hgc
      have hle := sumC_len c
      have HA := Lib.hid (fun (w' : World) (hb' : Bel w w') => appliedClause_c _ _ _ _ _ _ b c w' hl12 h40 (by omega) hfr (hu.below hb') (hx.below hb') _ _ hok.symm rfl)
      have HQ := Lib.hid hgc; clear hq hl12 hfr hok hgc hs0 hle
      generalize okLits ar (applyC b c) = q2 at *
      generalize (if q2 = true then applyC b c else []) = r2 at *
      go_enter Try.func39, Try.ntmps39
      go_wp2_with fail
      refine (iGoodSubst_v _ _ _ _ _ _ ar b true _ HS.out ha (hv.alloc _) hb (hu.alloc _)).mono ?_; rintro e w1 ⟨rfl, hb1⟩
      have hbox := boxc hb1 0 _ rfl
      go_wp2_with fail
      refine (iGoodClause_v HQ.out ha (hv.below hb1.of_alloc) hc (hx.below hb1.of_alloc)).mono ?_; rintro e w2 ⟨rfl, hb2⟩
      have HB2 := hb1.of_alloc.step hb2
      go_wp2_with fail
      refine (HA.out _ HB2).mono ?_; rintro e w3 ⟨a3, n3, c3, rfl, ho3, hb3⟩
      go_wp2_with fail
      go_ret2
      exact ⟨_, _, _, rfl, ho3.mono HB2.size (Nat.le_refl _), HB2.step hb3⟩
theorem applyCAns_len (ar : List Int) (b : List (List Int)) (c : List Lt) : sumC (applyCAns ar b c) ≤ 1048576 := by
  unfold applyCAns
  split
  · rename_i hg
    unfold applyCok at hg
    simp only [Bool.and_eq_true] at hg
    obtain ⟨h8, hok⟩ := okLits_iff.1 hg.2
    rw [sumC_eq]
    unfold lenC
    have := sumL_le40 (flatC (applyC b c)) (fun t ht => (okTerm_len (flat_ok hok ht)).2)
    rw [flatC_len] at this
    omega
  · simp [sumC]
end Go.Proofs.Ytikllmdmifecpaa
end
section
/- Chapter 6, the reference: ApartClauses. -/
namespace Go.Proofs.Ytikllmdmifecpaa
open Go.RowKit

set_option maxRecDepth 100000 in
set_option maxHeartbeats 400000 in
theorem l6Shift_c (l h : Nat) (v : Value) (c : List Lt) (w : World) (hx : shortC c) (hlow : ∀ t ∈ flatC c, ∀ k, k < t.length → -12 ≤ t.getD k 0) (hv : SlC l h w v c) :
    Calls Try.prog 135 #[v] w (RetV w (.int .i64 (byC c))) := by
  have HB : Hid (Calls Try.prog 112 #[v] w (RetI w (natsI (vC c)))) := Lib.hid (l4Vars_c l h v c w hx hlow hv)
  obtain ⟨ad, cap, rfl⟩ := hv.form
  have hL := vC_len c
  have hby0 := byC_no (c := c)
  have hby1 := byC_yes (c := c)
  have hlt := fun j hj => vC_lt (c := c) (j := j) hj
  clear hv hx hlow
  generalize byC c = z at *
  generalize vC c = L at *
  go_enter Try.func135, Try.ntmps135
  go_wp2_with fail
  refine HB.out.mono ?_; rintro e w1 ⟨a1, n1, c1, rfl, ho, hb1⟩
  have hn1 : n1 = L.length := by obtain ⟨_, _, e, _⟩ := ho.sl; simp only [Value.slice.injEq] at e; rw [e.2.1, natsI_len]
  subst hn1
  obtain ⟨ad1, cap1, e1, hc1, hm1, hr1⟩ := ho.sl
  simp only [Value.slice.injEq] at e1
  obtain ⟨rfl, -, rfl⟩ := e1
  clear HB ho
  by_cases h0 : L.length = 0
  · have E := Lib.hid (hby0 h0)
    clear hby0 hby1 hlt hr1
    generalize L.length = n at *
    subst h0
    go_wp2_with fail
    go_ret
    exact ⟨by rw [E.out]; rfl, hb1⟩
  · obtain ⟨b, off, rfl, -, hcell⟩ := rd hr1 (Bel.rfl' _) (L.length - 1) (by rw [natsI_len]; omega)
    rw [nget _ _ (by omega)] at hcell
    have E := Lib.hid (hby1 (by omega))
    have hl12 := hlt (L.length - 1) (by omega)
    clear hr1 hby0 hby1 hlt
    generalize L.getD (L.length - 1) 0 = q at *
    rw [natsI_len] at hc1
    generalize L.length = n at *
    obtain ⟨m, rfl⟩ : ∃ m, n = m + 1 := ⟨n - 1, by omega⟩
    rw [Nat.add_sub_cancel] at hcell
    have hm0 : ¬ (((m + 1 : Nat) : Int) = 0) := by omega
    have hm1 : (((m + 1 : Nat) : Int) - 1) = (m : Int) := by omega
    go_wp2_with fail
    go_ret
    exact ⟨by rw [E.out]; go_num, hb1⟩

set_option maxRecDepth 100000 in
set_option maxHeartbeats 1000000 in
theorem l6Apart_c (l h l' h' l2 h2 : Nat) (v u x : Value) (ar : List Int) (c d : List Lt) (w : World) (hg : goodSign ar = true) (hc : okLits ar c = true) (hd : okLits ar d = true) (hv : SlI l h w v ar) (hu : SlC l' h' w u c) (hx : SlC l2 h2 w x d) :
    Calls Try.prog 94 #[.agg #[v], u, x] w (RetCB w (if okLits ar (apartC c d) then apartC c d else []) (okLits ar (apartC c d))) := by
  obtain ⟨ad, cap, rfl⟩ := hx.form
  have hgc : goodClause ar c = true := by unfold goodClause; rw [hg, hc]; rfl
  have h8 := (okLits_iff.1 hc).1
  have h8d := (okLits_iff.1 hd).1
  have ht : ∀ t ∈ flatC d, t.length ≤ 1048576 ∧ ∀ k, k < t.length → -12 ≤ t.getD k 0 := fun t h => ⟨by have := (flat_rows hd t h).1; omega, (flat_rows hd t h).2⟩
  have HS := Lib.hid (fun (w' : World) (hb : Bel w w') => l6Shift_c l' h' u c w' (okLits_short hc) (flat_low1 hgc) (hu.below hb))
  have HSH := Lib.hid (shiftC_short (byC c) hd)
  have hN := byC_le c
  unfold apartC
  clear hc hd hgc h8 hu
  generalize byC c = N at *
  have HMM := Lib.hid (fun (w' : World) (y : Value) (hb : Bel w w') (hy : OwnC w.heap.size w'.heap.size w' y (shiftC N d)) => l4Made_c _ _ _ _ v y ar (shiftC N d) w' hg HSH.out (hv.below hb) hy)
  clear HSH
  generalize (if okLits ar (shiftC N d) = true then shiftC N d else []) = R at *
  generalize okLits ar (shiftC N d) = Q at *
  go_enter Try.func94, Try.ntmps94
  go_wp2_with fail
  refine (HS.out _ (Bel.alloc0 _ _)).mono ?_; rintro e w1 ⟨rfl, hb1⟩
  have hbox := boxc hb1 0 _ rfl
  replace hx := hx.below hb1.of_alloc
  go_wp2_with fail
  go_loopw [9, 16] (fun o i wr => ∃ k : Nat, k ≤ d.length ∧ i = .int .i64 k ∧ RowCO w1.heap.size wr o ((d.take k).map (fun x => (x.1, shifted x.2.1 N, shifted x.2.2 N))) ∧ Bel w1 wr) (fun _ i _ => d.length - (intOf i).toNat)
  case atStart => exact ⟨0, Nat.zero_le _, rfl, RowCO.nil _ _, Bel.rfl' _⟩
  case round =>
    obtain ⟨k, hk, rfl, hrow, hb⟩ := hrel
    by_cases hlt : k < d.length
    · obtain ⟨b1, off, u1, u2, rfl, hbs, c1, c2, c3, s1, s2⟩ := hx.at hb k hlt
      have HTK := Lib.hid (show (d.take (k+1)).map (fun x => (x.1, shifted x.2.1 N, shifted x.2.2 N)) = (d.take k).map (fun x => (x.1, shifted x.2.1 N, shifted x.2.2 N)) ++ [((d.getD k lt0).1, shifted (d.getD k lt0).2.1 N, shifted (d.getD k lt0).2.2 N)] by rw [List.take_succ_eq_append_getElem hlt, List.map_append]; simp [List.getD, hlt])
      have hlen0 := Lib.hid (show ((d.take k).map (fun x => (x.1, shifted x.2.1 N, shifted x.2.2 N))).length = k by simp; omega)
      obtain ⟨ht1, ht2⟩ := And.intro (ht _ (List.mem_flatMap.2 ⟨_, mem_getD d lt0 k hlt, by simp⟩ : (d.getD k lt0).2.1 ∈ flatC d)) (ht _ (List.mem_flatMap.2 ⟨_, mem_getD d lt0 k hlt, by simp⟩ : (d.getD k lt0).2.2 ∈ flatC d))
      have hin1 : (k : Int) < d.length := by omega
      have HROW := Lib.hid hrow
      have hbz := hb.size
      have HBK := hrow.blk
      generalize d.getD k lt0 = x at *
      obtain ⟨p, xl, xr⟩ := x
      simp only at *
      obtain ⟨a1, d1, rfl⟩ := s1.form
      obtain ⟨a2, d2, rfl⟩ := s2.form
      have HL := Lib.hid (fun (w' : World) (hq : Bel wr w') => l1Shift_c _ _ _ xl N w' ht1.1 hN ht1.2 (s1.below hq))
      have HR := Lib.hid (fun (w' : World) (hq : Bel wr w') => l1Shift_c _ _ _ xr N w' ht2.1 hN ht2.2 (s2.below hq))
      generalize shifted xl N = tl at *
      generalize shifted xr N = tr at *
      have HB0 : Bel wr (wr.alloc (.cells #[.bool p, .slice a1 xl.length d1, .slice a2 xr.length d2] 106)).drew := (Bel.alloc0 _ _).drew
      have HZ0 : wr.heap.size ≤ (wr.alloc (.cells #[.bool p, .slice a1 xl.length d1, .slice a2 xr.length d2] 106)).drew.heap.size := HB0.size
      have k1 : (wr.alloc (.cells #[.bool p, .slice a1 xl.length d1, .slice a2 xr.length d2] 106)).drew.cell? ⟨wr.heap.size, 0, none⟩ = some (.bool p) := boxc ((Bel.rfl' _).drew) 0 _ rfl
      have k2 : (wr.alloc (.cells #[.bool p, .slice a1 xl.length d1, .slice a2 xr.length d2] 106)).drew.cell? ⟨wr.heap.size, 1, none⟩ = some (.slice a1 xl.length d1) := boxc ((Bel.rfl' _).drew) 1 _ rfl
      have k3 : (wr.alloc (.cells #[.bool p, .slice a1 xl.length d1, .slice a2 xr.length d2] 106)).drew.cell? ⟨wr.heap.size, 2, none⟩ = some (.slice a2 xr.length d2) := boxc ((Bel.rfl' _).drew) 2 _ rfl
      clear hx s1 s2 hrow ht
      go_wp2_with fail
      go_region_held_law (fun w' => w'.cell? ⟨wr.heap.size, 0, none⟩ = some (.bool p) ∧ w'.cell? ⟨wr.heap.size, 1, none⟩ = some (.slice a1 xl.length d1) ∧ w'.cell? ⟨wr.heap.size, 2, none⟩ = some (.slice a2 xr.length d2))
        (first | exact ⟨t1, t2, t3⟩ | exact ⟨m1, m2, m3⟩ | exact ⟨k14, k24, k34⟩ | exact ⟨k13, k23, k33⟩ | exact ⟨k1, k2, k3⟩ | fail)
        (first
          | (refine step_append_litO rfl (.tmp 20) (.tmp 32) 33 rfl rfl w1.heap.size _ zs rfl hown w4.heap.size p (a3, n3, q3) (a4, n4, q4) rfl HN (by rw [hzl, hlen0.out]; omega) HZ4 ?_; intro b5 k5 w5 R5 hg5 hat5; have HR5 := hnext w5 _ R5 hg5 hat5; have t1 := hg5.cell m1 (fun e => Nat.lt_irrefl _ (HBK _ e.symm).2); have t2 := hg5.cell m2 (fun e => Nat.lt_irrefl _ (HBK _ e.symm).2); have t3 := hg5.cell m3 (fun e => Nat.lt_irrefl _ (HBK _ e.symm).2); have HB5 := (hb.step (HB4.step HA4)).grown hg5 (fun q hq => (HBK q hq).1))
          | (go_at_call 136; refine (HR.out _ HB3).mono ?_; rintro e w4 ⟨a4, n4, q4, rfl, r2, g4⟩; obtain ⟨LA, HA, LB, HB, O1, O2, RA, RB, QA, QB, HD⟩ : ∃ la ha lb hb, OwnI la ha w4 (.slice a3 n3 q3) tl ∧ OwnI lb hb w4 (.slice a4 n4 q4) tr ∧ wr.heap.size ≤ la ∧ wr.heap.size ≤ lb ∧ ha ≤ w4.heap.size ∧ hb ≤ w4.heap.size ∧ (ha ≤ lb ∨ hb ≤ la) := ⟨_, _, _, _, r1.below g4, r2, HZ0, HZ3, g4.size, Nat.le_refl _, .inl (Nat.le_refl _)⟩; have HB4 := HB3.step g4; have HA4 := Bel.alloc0 w4 (.cells #[.bool p, .slice a3 n3 q3, .slice a4 n4 q4] 106); obtain ⟨zs, hown, hzl, hnext⟩ := HROW.out.step HB4 HA4 O1 O2 RA RB QA QB HD hbz p; have HZ4 : w1.heap.size ≤ (w4.alloc (.cells #[.bool p, .slice a3 n3 q3, .slice a4 n4 q4] 106)).heap.size := Nat.le_trans hbz (HB4.step HA4).size; have HN := news_lit w4 (.bool p) (encS (a3, n3, q3)) (encS (a4, n4, q4)) 106 w4.heap.size rfl; have k14 := g4.at (World.block_lt_of_cell? _ ⟨_, _, none⟩ k13) k13; have k24 := g4.at (World.block_lt_of_cell? _ ⟨_, _, none⟩ k23) k23; have k34 := g4.at (World.block_lt_of_cell? _ ⟨_, _, none⟩ k33) k33; have m1 := HA4.at (World.block_lt_of_cell? _ ⟨_, _, none⟩ k14) k14; have m2 := HA4.at (World.block_lt_of_cell? _ ⟨_, _, none⟩ k24) k24; have m3 := HA4.at (World.block_lt_of_cell? _ ⟨_, _, none⟩ k34) k34)
          | (go_at_call 136; refine (HL.out _ HB3).mono ?_; rintro e w4 ⟨a3, n3, q3, rfl, r1, g4⟩; obtain ⟨LA, HA, LB, HB, O1, O2, RA, RB, QA, QB, HD⟩ : ∃ la ha lb hb, OwnI la ha w4 (.slice a3 n3 q3) tl ∧ OwnI lb hb w4 (.slice a4 n4 q4) tr ∧ wr.heap.size ≤ la ∧ wr.heap.size ≤ lb ∧ ha ≤ w4.heap.size ∧ hb ≤ w4.heap.size ∧ (ha ≤ lb ∨ hb ≤ la) := ⟨_, _, _, _, r1, r2.below g4, HZ3, HZ0, Nat.le_refl _, g4.size, .inr (Nat.le_refl _)⟩; have HB4 := HB3.step g4; have HA4 := Bel.alloc0 w4 (.cells #[.bool p, .slice a3 n3 q3, .slice a4 n4 q4] 106); obtain ⟨zs, hown, hzl, hnext⟩ := HROW.out.step HB4 HA4 O1 O2 RA RB QA QB HD hbz p; have HZ4 : w1.heap.size ≤ (w4.alloc (.cells #[.bool p, .slice a3 n3 q3, .slice a4 n4 q4] 106)).heap.size := Nat.le_trans hbz (HB4.step HA4).size; have HN := news_lit w4 (.bool p) (encS (a3, n3, q3)) (encS (a4, n4, q4)) 106 w4.heap.size rfl; have k14 := g4.at (World.block_lt_of_cell? _ ⟨_, _, none⟩ k13) k13; have k24 := g4.at (World.block_lt_of_cell? _ ⟨_, _, none⟩ k23) k23; have k34 := g4.at (World.block_lt_of_cell? _ ⟨_, _, none⟩ k33) k33; have m1 := HA4.at (World.block_lt_of_cell? _ ⟨_, _, none⟩ k14) k14; have m2 := HA4.at (World.block_lt_of_cell? _ ⟨_, _, none⟩ k24) k24; have m3 := HA4.at (World.block_lt_of_cell? _ ⟨_, _, none⟩ k34) k34)
          | (go_at_call 136; refine (HL.out _ HB0).mono ?_; rintro e w3 ⟨a3, n3, q3, rfl, r1, g3⟩; have HB3 := HB0.step g3; have HZ3 := Nat.le_trans HZ0 g3.size; have k13 := g3.at (World.block_lt_of_cell? _ ⟨_, _, none⟩ k1) k1; have k23 := g3.at (World.block_lt_of_cell? _ ⟨_, _, none⟩ k2) k2; have k33 := g3.at (World.block_lt_of_cell? _ ⟨_, _, none⟩ k3) k3)
          | (go_at_call 136; refine (HR.out _ HB0).mono ?_; rintro e w3 ⟨a4, n4, q4, rfl, r2, g3⟩; have HB3 := HB0.step g3; have HZ3 := Nat.le_trans HZ0 g3.size; have k13 := g3.at (World.block_lt_of_cell? _ ⟨_, _, none⟩ k1) k1; have k23 := g3.at (World.block_lt_of_cell? _ ⟨_, _, none⟩ k2) k2; have k33 := g3.at (World.block_lt_of_cell? _ ⟨_, _, none⟩ k3) k3)
          | fail)
      all_goals
        go_wp2_with fail
        go_roundw
        case rel => exact ⟨k+1, by omega, by go_num, by rw [HTK.out]; have e := hzl.trans hlen0.out; rw [e] at HR5; exact HR5, HB5⟩
        case measure => simp [intOf]; omega
    · have ek : d.take k = d := List.take_of_length_le (by omega)
      rw [ek] at hrow
      obtain ⟨a5, c5, e5⟩ := hrow.form
      rw [List.length_map] at e5
      subst e5
      have HO : Hid (OwnC w.heap.size wr.heap.size wr (.slice a5 d.length c5) (shiftC N d)) := Lib.hid (hrow.own.mono hb1.of_alloc.size (Nat.le_refl _))
      have hbox2 := hb.at (World.block_lt_of_cell? _ ⟨_, _, none⟩ hbox) hbox
      have HM := Lib.hid (HMM.out _ _ (hb1.of_alloc.step hb) HO.out)
      clear hrow HO
      go_wp2_with fail
      refine HM.out.mono ?_; rintro e w4 ⟨a4, n4, c4, rfl, ho4, hb4⟩
      have hz4 := hb4.size
      go_wp2_with fail
      go_ret2
      exact ⟨_, _, _, rfl, ho4.mono (Nat.le_refl _) hz4, (hb1.of_alloc.step hb).step hb4⟩

set_option maxRecDepth 100000 in
set_option maxHeartbeats 1000000 in
theorem sApartClauses_t {l h l' h' l2 h2 : Nat} {v u x : Value} {ar : List Int} {c d : List Lt} {w : World} (ha : ar.length ≤ 1048576) (hv : SlI l h w v ar) (hc : sumC c ≤ 1048576) (hu : SlC l' h' w u c) (hd : sumC d ≤ 1048576) (hx : SlC l2 h2 w x d) :
    Calls Try.prog 43 #[.agg #[v], u, x] w (RetCB w (apAns ar c d) (apOk ar c d)) := by
  unfold apAns apOk
  cases hs : goodClause ar c with
  | false =>
    rw [Bool.false_and, Bool.false_and, if_neg (by simp)]
    have HS := Lib.hid hs; clear hs
    go_enter Try.func43, Try.ntmps43
    go_wp2_with fail
    refine (sGoodClause_v HS.out ha (hv.alloc _) hc (hu.alloc _)).mono ?_; rintro e w1 ⟨rfl, hb1⟩
    go_wp2_with fail
    go_ret2
    exact ⟨_, _, _, rfl, OwnC.nil _ _ _, hb1.of_alloc⟩
  | true =>
    rw [Bool.true_and]
    have hg := (goodClause_iff.1 hs).1
    have hq1 : okLits ar c = true := by unfold goodClause at hs; exact (Bool.and_eq_true_iff.1 hs).2
    have HS := Lib.hid hs; clear hs
    cases hq : okLits ar d with
    | false =>
      rw [Bool.false_and, if_neg (by simp)]
      have HQ := Lib.hid hq; clear hq hq1
      have hsc := shortC_of_sum hd
      go_enter Try.func43, Try.ntmps43
      go_wp2_with fail
      refine (sGoodClause_v HS.out ha (hv.alloc _) hc (hu.alloc _)).mono ?_; rintro e w1 ⟨rfl, hb1⟩
      have hbox := boxc hb1 0 _ rfl
      go_wp2_with fail
      refine (l4Clause_v _ _ _ _ _ _ ar d false _ HQ.out hg hsc (hv.below hb1.of_alloc) (hx.below hb1.of_alloc)).mono ?_; rintro e w2 ⟨rfl, hb2⟩
      go_wp2_with fail
      go_ret2
      exact ⟨_, _, _, rfl, OwnC.nil _ _ _, hb1.of_alloc.step hb2⟩
    | true =>
      rw [Bool.true_and]
      have hsc := shortC_of_sum hd
      have HA := Lib.hid (fun (w' : World) (hb' : Bel w w') => l6Apart_c _ _ _ _ _ _ v u x ar c d w' hg hq1 hq (hv.below hb') (hu.below hb') (hx.below hb'))
      have HQ := Lib.hid hq; clear hq hq1
      generalize (if okLits ar (apartC c d) = true then apartC c d else []) = r at *
      generalize okLits ar (apartC c d) = q2 at *
      go_enter Try.func43, Try.ntmps43
      go_wp2_with fail
      refine (sGoodClause_v HS.out ha (hv.alloc _) hc (hu.alloc _)).mono ?_; rintro e w1 ⟨rfl, hb1⟩
      have hbox := boxc hb1 0 _ rfl
      go_wp2_with fail
      refine (l4Clause_v _ _ _ _ _ _ ar d true _ HQ.out hg hsc (hv.below hb1.of_alloc) (hx.below hb1.of_alloc)).mono ?_; rintro e w2 ⟨rfl, hb2⟩
      have hbox2 := hb2.at (World.block_lt_of_cell? _ ⟨_, _, none⟩ hbox) hbox
      have HB2 := hb1.of_alloc.step hb2
      go_wp2_with fail
      refine (HA.out _ HB2).mono ?_; rintro e w3 ⟨a3, n3, c3, rfl, ho3, hb3⟩
      go_wp2_with fail
      go_ret2
      exact ⟨_, _, _, rfl, ho3.mono HB2.size (Nat.le_refl _), HB2.step hb3⟩
end Go.Proofs.Ytikllmdmifecpaa
end
