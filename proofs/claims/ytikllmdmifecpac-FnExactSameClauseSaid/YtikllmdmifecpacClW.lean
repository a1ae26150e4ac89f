/- Chapter 4, the program: a clause with other terms; RenameClause. -/
import Derived.Test.YtikllmdmifecpacClI1
import Derived.Test.YtikllmdmifecpacRen3
import Derived.Test.YtikllmdmifecpacApC
namespace Go.Proofs.Ytikllmdmifecpac
open Go.RowKit

theorem ownsRow_base {w : World} {lo lo' e s n : Nat} {v : Value} {xs : List Value} (h : w.ownsRow lo e s v n xs) (hl : lo' ≤ lo) : w.ownsRow lo' e s v n xs := by
  refine ⟨h.1, ?_⟩
  rcases h.2 with h0 | ⟨g, cap, cur, e1, e2, r⟩
  · exact .inl h0
  · exact .inr ⟨g, cap, cur, e1, Nat.le_trans hl e2, r⟩
theorem OwnS.two {lo hi : Nat} {w : World} {u : Value} {ts : List (List Int)} (h : OwnS lo hi w u ts) (hhi : hi ≤ w.heap.size) : ∃ (ad : Option Addr) (cap : Nat) (us : List SV) (bs : Nat → Nat), u = .slice ad ts.length cap ∧ us.length = ts.length ∧
    (∀ j z, us[j]? = some z → ∃ b off, ad = some ⟨b, off, none⟩ ∧ b < w.heap.size ∧ w.cell? ⟨b, off + j, none⟩ = some (encS z)) ∧ (∀ g w', Bel w w' → w.heap.size ≤ g → Ins lo hi g w' (us.map encS) ts bs) := by
  obtain ⟨ad, cap, rfl, hc, hm, hr⟩ := h
  by_cases hp : 0 < ts.length
  · obtain ⟨b, off, us, bs, rfl, a1, a2, a3, hi'⟩ := hr hp
    have hl := hi'.len
    have hv : ∀ j, j < us.length → ∃ z : SV, us[j]? = some (encS z) := fun j hj => by
      have h1 : us[j]? = some us[j] := List.getElem?_eq_getElem hj
      obtain ⟨x, y, e⟩ := (hi'.sl j _ h1).form
      exact ⟨(x, _, y), by rw [h1, e]; rfl⟩
    obtain ⟨f, hf⟩ := skolem_lt hv
    have he : ((List.range us.length).map f).map encS = us := by
      apply List.ext_getElem?
      intro j
      by_cases hj : j < us.length
      · rw [hf j hj]; simp [hj]
      · simp [List.getElem?_eq_none (Nat.le_of_not_lt hj), Nat.le_of_not_lt hj]
    refine ⟨some ⟨b, off, none⟩, cap, (List.range us.length).map f, bs, rfl, by simp [hl], fun j z hj => ?_, fun g w' hb hg => ?_⟩
    · have h2 : us[j]? = some (encS z) := by rw [← he, List.getElem?_map, hj]; rfl
      have h3 := a3 j _ h2
      exact ⟨b, off, rfl, World.block_lt_of_cell? w ⟨b, _, none⟩ h3, h3⟩
    · rw [he]
      have h4 := hi'.below hb
      exact ⟨h4.len, fun j hj hpj => by have := h4.rng j hj hpj; omega, h4.inj, h4.own⟩
  · obtain rfl : ts = [] := List.length_eq_zero_iff.1 (by omega)
    exact ⟨ad, cap, [], _, rfl, rfl, fun j z h => by simp at h, fun g w' _ _ => Ins.none _ _ _ _ |>.mono (Nat.le_refl _) (Nat.le_refl _)⟩

set_option maxRecDepth 100000 in
set_option maxHeartbeats 400000 in
theorem withTerms_c (l h lo hi : Nat) (v u : Value) (c : List Lt) (ts : List (List Int)) (w : World) (hx : c.length ≤ 1048576) (ht : ts.length = 2 * c.length) (hlo : lo ≤ w.heap.size) (hhi : hi ≤ w.heap.size) (hv : SlC l h w v c) (hu : OwnS lo hi w u ts) :
    Calls Try.prog 31 #[v, u] w (fun e w' => ∃ ad n k, e = .returned (.slice ad n k) ∧ OwnC lo w'.heap.size w' (.slice ad n k) (zipC c ts) ∧ Bel w w') := by
  obtain ⟨ad, cap, rfl⟩ := hv.form
  obtain ⟨au, cu, us, bs, rfl, hul, hcell, hIns⟩ := hu.two hhi
  have HTS := Lib.hid ht
  clear hu ht
  go_enter Try.func31, Try.ntmps31
  go_wp2_with fail
  go_loopw [5, 10] (fun o i wr => ∃ (k : Nat) (zs : List LV), k ≤ c.length ∧ i = .int .i64 k ∧ RowC w.heap.size wr o zs ∧ zs.map (·.1) = (c.take k).map (·.1) ∧ rowsC zs = (us.take (2 * k)).map encS ∧ Bel w wr) (fun _ i _ => c.length - (intOf i).toNat)
  case atStart => exact ⟨0, [], Nat.zero_le _, rfl, RowC.nil _ _, rfl, rfl, Bel.rfl' _⟩
  case round =>
    obtain ⟨k, zs, hk, rfl, hrow, hzp, hzr, hb⟩ := hrel
    have hzl : zs.length = k := by have := congrArg List.length hzp; simp at this; omega
    have ht := HTS.out
    by_cases hlt : k < c.length
    · obtain ⟨b, off, z1, z2, rfl, hbs, e1, e2, e3, -, -⟩ := hv.two k hlt
      have c1 := hb.at (World.block_lt_of_cell? _ ⟨_, _, none⟩ e1) e1
      have c2 := hb.at (World.block_lt_of_cell? _ ⟨_, _, none⟩ e2) e2
      have c3 := hb.at (World.block_lt_of_cell? _ ⟨_, _, none⟩ e3) e3
      have hu1 : us[2 * k]? = some us[2 * k] := List.getElem?_eq_getElem (by omega)
      have hu2 : us[2 * k + 1]? = some us[2 * k + 1] := List.getElem?_eq_getElem (by omega)
      have HTK : Hid ((us.take (2 * (k+1))).map encS = (us.take (2 * k)).map encS ++ [encS us[2 * k], encS us[2 * k + 1]]) := by
        show _ = _
        rw [show 2 * (k + 1) = 2 * k + 1 + 1 from by omega, List.take_succ_eq_append_getElem (show 2 * k + 1 < us.length by omega), List.take_succ_eq_append_getElem (show 2 * k < us.length by omega), List.map_append, List.map_append]
        simp only [List.append_assoc]
        rfl
      have HTP : Hid ((c.take (k+1)).map (·.1) = (c.take k).map (·.1) ++ [(c.getD k lt0).1]) := by show _ = _; rw [List.take_succ_eq_append_getElem hlt, List.map_append]; simp [List.getD, hlt]
      obtain ⟨b2, o2, rfl, hb2, d1⟩ := hcell _ _ hu1
      obtain ⟨b2', o2', eq2, -, d2⟩ := hcell _ _ hu2
      simp only [Option.some.injEq, Addr.mk.injEq, and_true] at eq2
      obtain ⟨rfl, rfl⟩ := eq2
      have d1 := hb.at hb2 d1
      have d2 := hb.at hb2 d2
      have hin1 : (k : Int) < c.length := by omega
      generalize (c.getD k lt0).1 = p at *
      generalize us[2 * k] = y1 at *
      generalize us[2 * k + 1] = y2 at *
      obtain ⟨a1, n1, q1⟩ := z1
      obtain ⟨a2, n2, q2⟩ := z2
      obtain ⟨a3, n3, q3⟩ := y1
      obtain ⟨a4, n4, q4⟩ := y2
      simp only [encS] at c2 c3 d1 d2
      have HROW := Lib.hid hrow
      have hin2 : 2 * (k : Int) < ts.length := by omega
      have hin3 : 2 * (k : Int) + 1 < ts.length := by omega
      have hw1 := IntWalk.i64_in (2 * (k : Int)) (by omega)
      have hw2 := IntWalk.i64_in (2 * (k : Int) + 1) (by omega)
      have B2 := World.block_lt_of_cell? wr ⟨b2, _, none⟩ d1
      have k1 : (wr.alloc (.cells #[.bool p, .slice a1 n1 q1, .slice a2 n2 q2] 43)).drew.cell? ⟨wr.heap.size, 0, none⟩ = some (.bool p) := boxc ((Bel.rfl' _).drew) 0 _ rfl
      have k2 := (Bel.alloc0 wr (.cells #[.bool p, .slice a1 n1 q1, .slice a2 n2 q2] 43)).drew.at B2 d1
      have k3 := (Bel.alloc0 wr (.cells #[.bool p, .slice a1 n1 q1, .slice a2 n2 q2] 43)).drew.at B2 d2
      have m1 : ((wr.alloc (.cells #[.bool p, .slice a1 n1 q1, .slice a2 n2 q2] 43)).alloc (.cells #[.bool p, .slice a3 n3 q3, .slice a4 n4 q4] 43)).drew.cell? ⟨wr.heap.size, 0, none⟩ = some (.bool p) := boxc (Bel.alloc0 _ _).drew 0 _ rfl
      have m2 := (Bel.alloc2 wr (.cells #[.bool p, .slice a1 n1 q1, .slice a2 n2 q2] 43) (.cells #[.bool p, .slice a3 n3 q3, .slice a4 n4 q4] 43)).drew.at B2 d1
      have m3 := (Bel.alloc2 wr (.cells #[.bool p, .slice a1 n1 q1, .slice a2 n2 q2] 43) (.cells #[.bool p, .slice a3 n3 q3, .slice a4 n4 q4] 43)).drew.at B2 d2
      have HB5 : Bel wr ((wr.alloc (.cells #[.bool p, .slice a1 n1 q1, .slice a2 n2 q2] 43)).alloc (.cells #[.bool p, .slice a3 n3 q3, .slice a4 n4 q4] 43)).drew := (Bel.alloc2 _ _ _).drew
      have R5 : RowC w.heap.size ((wr.alloc (.cells #[.bool p, .slice a1 n1 q1, .slice a2 n2 q2] 43)).alloc (.cells #[.bool p, .slice a3 n3 q3, .slice a4 n4 q4] 43)).drew _ zs := ownsRow_bel hrow HB5
      have HLT := hrow.lt
      have HZ5 : w.heap.size ≤ ((wr.alloc (.cells #[.bool p, .slice a1 n1 q1, .slice a2 n2 q2] 43)).alloc (.cells #[.bool p, .slice a3 n3 q3, .slice a4 n4 q4] 43)).drew.heap.size := Nat.le_trans hb.size HB5.size
      have HN : ∀ j u, [Value.bool p, encS (a3, n3, q3), encS (a4, n4, q4)][j]? = some u → ((wr.alloc (.cells #[.bool p, .slice a1 n1 q1, .slice a2 n2 q2] 43)).alloc (.cells #[.bool p, .slice a3 n3 q3, .slice a4 n4 q4] 43)).drew.cell? ((⟨wr.heap.size + 1, 0, none⟩ : Addr).add j) = some u := fun j u hj => by
        have := news_lit (wr.alloc (.cells #[.bool p, .slice a1 n1 q1, .slice a2 n2 q2] 43)) (.bool p) (.slice a3 n3 q3) (.slice a4 n4 q4) 43 (wr.heap.size + 1) (by simp) j u hj
        rw [addr_add] at this ⊢
        exact (Bel.drew0 _).at (World.block_lt_of_cell? _ ⟨_, _, none⟩ this) this
      clear hv e1 e2 e3 hcell hu1 hu2 hIns hrow ht
      go_wp2_with fail
      go_region_held_law (fun w' => w'.cell? ⟨wr.heap.size, 0, none⟩ = some (.bool p) ∧ w'.cell? ⟨b2, o2 + 2 * k, none⟩ = some (.slice a3 n3 q3) ∧ w'.cell? ⟨b2, o2 + (2 * k + 1), none⟩ = some (.slice a4 n4 q4))
        (first | exact ⟨k1, k2, k3⟩ | exact ⟨m1, m2, m3⟩ | exact ⟨t1, t2, t3⟩ | fail)
        (first
          | (refine step_append_lit rfl (.tmp 15) (.tmp 30) 31 rfl rfl w.heap.size _ zs rfl R5 (wr.heap.size + 1) p (a3, n3, q3) (a4, n4, q4) rfl HN (by omega) HZ5 ?_; intro a5 n5 c5 w5 R6 hg5; have t1 := hg5.cell m1 (fun e => Nat.lt_irrefl _ (HLT _ e.symm).2); have t2 := hg5.cell m2 (fun e => by have := (HLT _ e.symm).1; simp at this; omega); have t3 := hg5.cell m3 (fun e => by have := (HLT _ e.symm).1; simp at this; omega))
          | fail)
      all_goals
        have HB6 := (hb.step HB5).grown hg5 (fun q hq => own_base R5 q hq)
        go_wp2_with fail
        go_roundw
        case rel => exact ⟨k+1, _, by omega, by go_num, R6, by rw [List.map_append, hzp, HTP.out]; rfl, by rw [rowsC_app, hzr, HTK.out]; rfl, HB6⟩
        case measure => simp [intOf]; omega
    · obtain ⟨ad5, n5, c5, rfl⟩ := own_form hrow
      rw [List.take_of_length_le (by omega)] at hzp hzr
      have hfz := zipC_flat c ts ht
      have hlz := zipC_len c ts ht
      have hsz := zipC_signs c ts ht
      have hkc : k = c.length := by omega
      have HO : Hid (OwnC lo wr.heap.size wr (.slice ad5 n5 c5) (zipC c ts)) := by
        show OwnC _ _ _ _ _
        refine OwnC.of_row (base := lo) (e := 43) (zs := zs) (bs := bs) ?_ (Nat.le_refl _) (by rw [hsz]; exact hzp) (fun g hg => ?_)
        · rw [hlz, ← hkc, ← hzl]
          exact ownsRow_base hrow hlo
        · rw [hfz, hzr]
          exact (hIns g wr hb (own_base hrow g hg)).mono (Nat.le_refl _) (Nat.le_trans hhi hb.size)
      clear hrow hzp hzr hcell hIns hfz hlz hsz ht
      go_wp2_with fail
      go_ret
      exact ⟨_, _, _, rfl, HO.out, hb⟩
end Go.Proofs.Ytikllmdmifecpac
