/- Texts merged, part 8. -/
import Derived.Test.YtkbgglejhdodoaaMgTexts7
section
/- The laws' comparison of lists of lists. -/
namespace Go.Proofs.Ytkbgglejhdodoaa
open Go.RowKit

set_option maxRecDepth 100000 in
set_option maxHeartbeats 400000 in
theorem sameLists_same (l h l' h' : Nat) (v u : Value) (xss : List (List Int)) (w : World) (hs : short xss) (hv : SlS l h w v xss) (hu : SlS l' h' w u xss) :
    Calls Try.prog 21 #[v, u] w (RetV w (.bool true)) := by
  obtain ⟨va, vc, rfl⟩ := hv.form
  obtain ⟨ua, uc, rfl⟩ := hu.form
  obtain ⟨hl, hj⟩ := hs
  go_enter Try.func21, Try.ntmps21
  go_wp2_with fail
  go_loopw [13] (fun i wr => ∃ k : Nat, k ≤ xss.length ∧ i = .int .i64 k ∧ Bel w wr) (fun i _ => xss.length - (intOf i).toNat)
  case atStart => exact ⟨0, Nat.zero_le _, rfl, Bel.rfl' _⟩
  case round =>
    obtain ⟨k, hk, rfl, hb⟩ := hrel
    by_cases hlt : k < xss.length
    · obtain ⟨b1, o1, p1, rfl, -, hc1, hp1⟩ := hv.at hb k hlt
      obtain ⟨b2, o2, p2, rfl, -, hc2, hp2⟩ := hu.at hb k hlt
      have hjk := hj k hlt
      have hk64 : (k : Int) < xss.length := by omega
      have HS := Lib.hid (sameInts_same _ _ _ _ _ _ (xss.getD k []) _ hjk (hp1.below (Bel.drew0 wr)) (hp2.below (Bel.drew0 wr)))
      generalize xss.getD k [] = t at *
      obtain ⟨pa, pc, rfl⟩ := hp1.form
      obtain ⟨qa, qc, rfl⟩ := hp2.form
      go_wp2_with fail
      go_region_held3 (fun w' => w'.cell? ⟨b1, o1 + k, none⟩ = some (.slice pa t.length pc) ∧ w'.cell? ⟨b2, o2 + k, none⟩ = some (.slice qa t.length qc))
        (first | exact ⟨hc1, hc2⟩ | exact hcc | fail)
        (first | (go_at_call 55; refine HS.out.mono ?_; rintro e w1 ⟨rfl, hb1⟩; have hcc : w1.cell? ⟨b1, o1 + k, none⟩ = some (.slice pa t.length pc) ∧ w1.cell? ⟨b2, o2 + k, none⟩ = some (.slice qa t.length qc) := ⟨hb1.of_drew.at (World.block_lt_of_cell? _ ⟨_, _, none⟩ hc1) hc1, hb1.of_drew.at (World.block_lt_of_cell? _ ⟨_, _, none⟩ hc2) hc2⟩) | fail)
      go_wp2_with fail
      go_roundw
      case rel => exact ⟨k+1, by omega, by go_num, hb.step hb1.of_drew⟩
      case measure => simp [intOf]; omega
    · go_wp2_with fail
      go_ret
      exact ⟨rfl, hb⟩
end Go.Proofs.Ytkbgglejhdodoaa
end
section
/- Compose: the program's. -/
namespace Go.Proofs.Ytkbgglejhdodoaa
open Go.RowKit Go.Maps

end Go.Proofs.Ytkbgglejhdodoaa
end
section
/- Compose: the reference's. -/
namespace Go.Proofs.Ytkbgglejhdodoaa
open Go.RowKit Go.Maps

end Go.Proofs.Ytkbgglejhdodoaa
end
section
/- Match: the program's. -/
namespace Go.Proofs.Ytkbgglejhdodoaa
open Go.RowKit Go.Maps

def RetAg (b m : Nat) (f : Nat → Option Value) (v : Nat) (x : Value) (q : Bool) (w : World) (e : Ending) (w' : World) : Prop := e = .returned (.bool q) ∧ MapV w' b (m+1) (upd f v (some x)) ∧ Chg b (b+1) w w'
/-- What the map holds, told by terms. -/
def Holds (w : World) (f : Nat → Option Value) (F : Nat → List Int) : Prop := ∀ v, v < 12 → (F v).length ≤ 40 ∧ ((F v = [] ∧ f v = none) ∨ (F v ≠ [] ∧ ∃ u lo hi, f v = some u ∧ SlI lo hi w u (F v)))
theorem Holds.start (w : World) : Holds w (fun _ => none) (fun _ => []) := fun v _ => ⟨by simp, .inl ⟨rfl, rfl⟩⟩
theorem Holds.bel {w w' : World} {f : Nat → Option Value} {F : Nat → List Int} (h : Holds w f F) (hb : Bel w w') : Holds w' f F := fun v hv => ⟨(h v hv).1, (h v hv).2.imp id fun ⟨a, u, lo, hi, e, s⟩ => ⟨a, u, lo, hi, e, s.below hb⟩⟩
theorem Holds.chg {w w' : World} {f : Nat → Option Value} {F : Nat → List Int} {b m : Nat} {f' : Nat → Option Value} (h : Holds w f F) (hM : MapV w b m f') (k : Chg b (b+1) w w') : Holds w' f F :=
  fun v hv => ⟨(h v hv).1, (h v hv).2.imp id fun ⟨a, u, lo, hi, e, s⟩ => ⟨a, u, lo, hi, e, s.chgMap hM k⟩⟩
theorem Holds.put {w : World} {f : Nat → Option Value} {F : Nat → List Int} (h : Holds w f F) (v : Nat) (x : Value) (t : List Int) (lo hi : Nat) (ht : t.length ≤ 40) (hp : 0 < t.length) (hx : SlI lo hi w x t) : Holds w (upd f v (some x)) (upd F v t) := by
  intro i hi'
  by_cases e : i = v
  · subst e
    rw [upd_same, upd_same]
    exact ⟨ht, .inr ⟨by intro h; rw [h] at hp; simp at hp, x, lo, hi, rfl, hx⟩⟩
  · rw [upd_other _ _ e, upd_other _ _ e]; exact h i hi'
theorem Holds.sub {w : World} {f : Nat → Option Value} {F : Nat → List Int} (h : Holds w f F) : ∀ v, v < 12 → (F v).length ≤ 1048576 ∧ ∃ lo hi, SlI lo hi w ((f v).getD (.slice none 0 0)) (F v) := by
  intro v hv
  obtain ⟨h1, h2⟩ := h v hv
  refine ⟨by omega, ?_⟩
  rcases h2 with ⟨e1, e2⟩ | ⟨_, u, lo, hi, e, s⟩
  · rw [e1, e2]; exact ⟨0, 0, SlI.nil 0 0 w⟩
  · rw [e]; exact ⟨lo, hi, s⟩

end Go.Proofs.Ytkbgglejhdodoaa
end
section
/- Contracts of chapter 2 with the answers named. -/
namespace Go.Proofs.Ytkbgglejhdodoaa
open Go.RowKit

theorem iApply_v {l h l' h' l2 h2 : Nat} {v u x : Value} {ar : List Int} {b : List (List Int)} {t : List Int} {w : World} (ha : ar.length ≤ 1048576) (hv : SlI l h w v ar) (hb : short b) (hu : SlS l' h' w u b) (ht : t.length ≤ 1048576) (hx : SlI l2 h2 w x t) {xs : List Int} {k : Bool} (e1 : applyAns ar b t = xs) (e2 : applyOk ar b t = k) :
    Calls Try.prog 26 #[.agg #[v], u, x] w (RetIB w xs k) := by subst e1 e2; exact iApply_t ha hv hb hu ht hx
theorem sApply_v {l h l' h' l2 h2 : Nat} {v u x : Value} {ar : List Int} {b : List (List Int)} {t : List Int} {w : World} (ha : ar.length ≤ 1048576) (hv : SlI l h w v ar) (hb : short b) (hu : SlS l' h' w u b) (ht : t.length ≤ 1048576) (hx : SlI l2 h2 w x t) {xs : List Int} {k : Bool} (e1 : applyAns ar b t = xs) (e2 : applyOk ar b t = k) :
    Calls Try.prog 27 #[.agg #[v], u, x] w (RetIB w xs k) := by subst e1 e2; exact sApply_t ha hv hb hu ht hx
end Go.Proofs.Ytkbgglejhdodoaa
end
section
/- The draws of chapter 2: lists of terms. -/
namespace Go.Proofs.Ytkbgglejhdodoaa
open Go.RowKit

/-- A row of slices of ints, each apart from the row's own block. -/
def RowS (w : World) (base : Nat) (v : Value) (xss : List (List Int)) : Prop :=
  ∃ us : List Value, w.ownsRow base 22 1 v us.length us ∧ us.length = xss.length ∧ ∀ j u, us[j]? = some u → ∃ lo hi, SlI lo hi w u (xss.getD j []) ∧ base ≤ lo ∧ hi ≤ w.heap.size ∧ ∀ g, v.ownBlock = some g → g < lo ∨ hi ≤ g
theorem RowS.nil (w : World) (base : Nat) : RowS w base (.slice none 0 0) [] := ⟨[], World.ownsRow_nil _ _ _ _, rfl, fun j u h => by simp at h⟩
theorem RowS.cur {w w' : World} {base b : Nat} {v : Value} {xss : List (List Int)} (h : RowS w base v xss) (hb : b < base) (k : Chg b (b+1) w w') : RowS w' base v xss := by
  obtain ⟨us, h1, h2, h3⟩ := h
  refine ⟨us, row_chg h1 hb k, h2, fun j u hj => ?_⟩
  obtain ⟨lo, hi, a1, a2, a3, a4⟩ := h3 j u hj
  exact ⟨lo, hi, a1.chg k (by omega), a2, Nat.le_trans a3 k.size, a4⟩
theorem RowS.bel {w w' : World} {base : Nat} {v : Value} {xss : List (List Int)} (h : RowS w base v xss) (hb : Bel w w') : RowS w' base v xss := by
  obtain ⟨us, h1, h2, h3⟩ := h
  refine ⟨us, ownsRow_bel h1 hb, h2, fun j u hj => ?_⟩
  obtain ⟨lo, hi, a1, a2, a3, a4⟩ := h3 j u hj
  exact ⟨lo, hi, a1.below hb, a2, Nat.le_trans a3 hb.size, a4⟩
theorem RowS.own {w : World} {base : Nat} {v : Value} {xss : List (List Int)} (h : RowS w base v xss) : ∃ us, w.ownsRow base 22 1 v us.length us ∧ us.length = xss.length ∧ ∀ (w1 : World) (v' u : Value) (t : List Int) (lo hi : Nat), SlI lo hi w u t → base ≤ lo → hi ≤ w.heap.size → (∀ g, v.ownBlock = some g → g < lo ∨ hi ≤ g) → w1.ownsRow base 22 1 v' (us.length + 1) (us ++ [u]) → w.grownBy w1 v.ownBlock → (v'.ownBlock = v.ownBlock ∨ v'.ownBlock = some w.heap.size) → RowS w1 base v' (xss ++ [t]) := by
  obtain ⟨us, h1, h2, h3⟩ := h
  refine ⟨us, h1, h2, fun w1 v' u t lo hi hu hlo hhi hne hown hg hat => ⟨us ++ [u], by simpa using hown, by simp [h2], fun j x hj => ?_⟩⟩
  have hkeep : ∀ (lo hi : Nat) (y : Value) (q : List Int), SlI lo hi w y q → base ≤ lo → hi ≤ w.heap.size → (∀ g, v.ownBlock = some g → g < lo ∨ hi ≤ g) → ∃ lo hi, SlI lo hi w1 y q ∧ base ≤ lo ∧ hi ≤ w1.heap.size ∧ ∀ g, v'.ownBlock = some g → g < lo ∨ hi ≤ g := by
    intro lo hi y q hy hl hh hn
    refine ⟨lo, hi, hy.same fun b b1 b2 b3 => hg.block b b3 (fun e => ?_), hl, Nat.le_trans hh hg.size, fun g hgb => ?_⟩
    · have := hn b e.symm
      omega
    · rcases hat with e | e
      · rw [e] at hgb; exact hn g hgb
      · rw [e] at hgb; simp at hgb; omega
  by_cases e : j < us.length
  · rw [List.getElem?_append_left e] at hj
    obtain ⟨lo', hi', a1, a2, a3, a4⟩ := h3 j x hj
    rw [show (xss ++ [t]).getD j [] = xss.getD j [] from by simp [List.getD, List.getElem?_append_left (show j < xss.length by omega)]]
    exact hkeep lo' hi' x _ a1 a2 a3 a4
  · have hlt := (List.getElem?_eq_some_iff.1 hj).1
    simp at hlt
    obtain rfl : j = us.length := by omega
    rw [List.getElem?_append_right (Nat.le_refl _), Nat.sub_self] at hj
    simp at hj
    subst hj
    rw [show (xss ++ [t]).getD us.length [] = t from by rw [h2]; simp [List.getD]]
    exact hkeep lo hi u t hu hlo hhi hne
theorem RowS.sls {w : World} {base : Nat} {v : Value} {xss : List (List Int)} (h : RowS w base v xss) : SlS base w.heap.size w v xss := by
  obtain ⟨us, h1, h2, h3⟩ := h
  have h0 := h1
  rcases h1.2 with ⟨rfl, hn⟩ | ⟨g, cap, cur, rfl, hg, hh, hn, hc, hs, ht⟩
  · obtain rfl : xss = [] := List.length_eq_zero_iff.1 (by omega)
    exact SlS.nil _ _ _
  · have hgs : g < w.heap.size := (Array.getElem?_eq_some_iff.1 hh).1
    refine ⟨_, cap, by rw [h2], by omega, ⟨hc, fun h => by simp at h⟩, fun hp => ⟨g, 0, rfl, hg, hgs, fun j hj => ?_⟩⟩
    have hju : us[j]? = some us[j] := List.getElem?_eq_getElem (by omega)
    refine ⟨us[j], by rw [Nat.zero_add, h0.cellAt j (by omega)]; exact hju, ?_⟩
    obtain ⟨lo, hi, a1, a2, a3, _⟩ := h3 j _ hju
    exact a1.mono a2 a3
def RetDL (w : World) (e : Ending) (w' : World) : Prop :=
  ∃ (sv lv : Value) (ar : List Int) (l : List (List Int)), e = .returned (.tuple #[.agg #[sv], lv]) ∧ drawn ar ∧ SlI w.heap.size w'.heap.size w' sv ar ∧ SlS w.heap.size w'.heap.size w' lv l ∧ l.length ≤ 12 ∧ (∀ j, (l.getD j []).length ≤ 1000) ∧ Bel w w'

set_option maxRecDepth 100000 in
set_option maxHeartbeats 1000000 in
theorem drawRenameOf_c (n : Nat) (v : Value) (w : World) (hn : n ≤ 1048576) (hv : SlB w.heap.size w v n) :
    Calls Try.prog 18 #[v] w (RetDL w) := by
  obtain ⟨ad, cap, rfl, hcap, hr⟩ := hv
  have hv : SlB w.heap.size w (.slice ad n cap) n := ⟨ad, cap, rfl, hcap, hr⟩
  have hB1 := Bel.alloc0 w (.cells #[.slice none 0 0] 28)
  have hs1 : (w.alloc (.cells #[.slice none 0 0] 28)).heap.size = w.heap.size + 1 := by simp
  have hC := Cur.new (T := 70) (w := w.alloc (.cells #[.slice none 0 0] 28)) (v := .slice ad n cap) (n := n) (by
    obtain ⟨ad', cap', e, hc, hr'⟩ := hv.chg (Chg.of_bel (lo := w.heap.size) (hi := w.heap.size) hB1) (Nat.le_refl _)
    exact ⟨ad', cap', e, hc, fun hp => by obtain ⟨b, off, e1, e2, e3⟩ := hr' hp; exact ⟨b, off, e1, by omega, e3⟩⟩)
  rw [hs1] at hC
  have hB2 := hB1.step (Bel.alloc0 (w.alloc (.cells #[.slice none 0 0] 28)) (.cells #[.slice ad n cap, .int .i64 0, .int .u64 0] 70))
  have hbx : ((w.alloc (.cells #[.slice none 0 0] 28)).alloc (.cells #[.slice ad n cap, .int .i64 0, .int .u64 0] 70)).cell? ⟨w.heap.size, 0, none⟩ = some (.slice none 0 0) := (Bel.alloc0 _ _).at (by simp) (by rw [World.cell?_alloc_new w]; rfl)
  have hfx : ((w.alloc (.cells #[.slice none 0 0] 28)).alloc (.cells #[.slice ad n cap, .int .i64 0, .int .u64 0] 70)).frozen? ⟨w.heap.size, 0, none⟩ = false := by simp [go_sem]; try rfl
  have HS := Lib.hid (sign_c (w.heap.size + 1) n 0 _ (by omega) (by omega) hC)
  go_enter Try.func18, Try.ntmps18
  go_wp2_with fail
  refine HS.out.mono ?_; rintro e w1 ⟨sv, ar, k1, rfl, hdr, hsv, hk1, hk2, hc1, hg1⟩
  obtain ⟨sa, sc, rfl⟩ := hsv.form
  have hW0 : ((w.alloc (.cells #[.slice none 0 0] 28)).alloc (.cells #[.slice ad n cap, .int .i64 0, .int .u64 0] 70)).heap.size = w.heap.size + 1 + 1 := by simp
  generalize ((w.alloc (.cells #[.slice none 0 0] 28)).alloc (.cells #[.slice ad n cap, .int .i64 0, .int .u64 0] 70)) = W0 at *
  have hsz1 : W0.heap.size ≤ w1.heap.size := hg1.size
  rw [hW0] at hsv
  have hbx1 := hg1.cell (by omega) (by omega) hbx
  have hfx1 : w1.frozen? ⟨w.heap.size, 0, none⟩ = false := (World.frozen?_of_block (w := W0) (w' := w1) (a := ⟨w.heap.size, 0, none⟩) (hg1.block w.heap.size (by omega) (by omega))).trans hfx
  have hB3 := Bel.alloc0 w1 (.cells #[.slice sa ar.length sc] 28)
  have hs2 : (w1.alloc (.cells #[.slice sa ar.length sc] 28)).heap.size = w1.heap.size + 1 := by simp
  have hbx7 : (w1.alloc (.cells #[.slice sa ar.length sc] 28)).cell? ⟨w1.heap.size, 0, none⟩ = some (.slice sa ar.length sc) := by rw [World.cell?_alloc_new w1]; rfl
  have hbx2 := hB3.at (by omega) hbx1
  have hfx2 := (World.frozen?_of_block (w := w1) (a := ⟨w.heap.size, 0, none⟩) (hB3.block w.heap.size (by omega))).trans hfx1
  have hc2 := hc1.below hB3
  have hsv2 := hsv.below hB3
  have hg2 := hg1.trans (Chg.of_bel (lo := w.heap.size + 1) (hi := w.heap.size + 1 + 1) hB3)
  generalize hw2 : w1.alloc (.cells #[.slice sa ar.length sc] 28) = w2 at *
  clear hc1 hg1 hbx1 hfx1 hB3 hsv hbx hfx HS hC hB1
  have hal := drawn_len hdr
  go_wp2_with fail
  refine (pick_c (w.heap.size + 1) n k1 _ 5 w2 (by decide) (by omega) (by omega) (by omega) hc2).mono ?_; rintro e w3 ⟨x, k2x, rfl, hpx, hk1k2x, hk2k2x, hc3, hgs3⟩
  have hzw3 : w2.heap.size ≤ w3.heap.size := hgs3.size
  replace hsv2 := hsv2.chg hgs3 (by omega)
  replace hbx7 := hgs3.cell (by omega) (by omega) hbx7
  have hfq := hfx2
  replace hfx2 := (World.frozen?_of_block (w := w2) (w' := w3) (a := ⟨w.heap.size, 0, none⟩) (hgs3.block w.heap.size (by omega) (by omega))).trans hfq
  clear hfq
  replace hbx2 := hgs3.cell (by omega) (by omega) hbx2
  replace hg2 := hg2.trans hgs3
  clear hc2
  obtain ⟨i1, hi1, hy0, hy1, hy2⟩ := info_parts Try.info22
  go_wp2_with fail
  go_loopw [6, 7] (fun lv i wr => ∃ (j kk : Nat) (xss : List (List Int)), j ≤ 4 ∧ i = .int .i64 j ∧ RowS wr w3.heap.size lv xss ∧ xss.length + j ≤ 4 ∧ (∀ q, (xss.getD q []).length ≤ 1000) ∧ kk + 5000 * j ≤ 20010 ∧ Cur (w.heap.size + 1) n kk wr ∧ wr.cell? ⟨w1.heap.size, 0, none⟩ = some (.slice sa ar.length sc) ∧ wr.cell? ⟨w.heap.size, 0, none⟩ = some (.slice none 0 0) ∧ wr.frozen? ⟨w.heap.size, 0, none⟩ = false ∧ SlI (w.heap.size + 1 + 1) w1.heap.size wr (.slice sa ar.length sc) ar ∧ w3.heap.size ≤ wr.heap.size ∧ Chg (w.heap.size + 1) (w.heap.size + 1 + 1) W0 wr) (fun _ i _ => (intOf i).toNat)
  case atStart => exact ⟨x, _, [], by omega, rfl, RowS.nil _ _, by simp; omega, by simp, by omega, hc3, hbx7, hbx2, hfx2, hsv2, Nat.le_refl _, hg2⟩
  case round =>
    clear hc3 hbx7 hbx2 hfx2 hsv2 hg2
    obtain ⟨j, kk, xss, hj, rfl, hR, hxl, hxj, hkk, hc, hbx7, hbx2, hfx2, hsv2, hzr, hg2⟩ := hrel
    by_cases hlt : 0 < j
    · have HW := Lib.hid (IntWalk.i64_in ((j : Int) - 1) (by omega))
      go_wp2_with fail
      refine (anyTerm_c (w.heap.size + 1) n kk _ _ _ ar wr (by omega) (by omega) hdr (by omega) hc hsv2).mono ?_; rintro e w5 ⟨a5, c5, t5, k5, rfl, ht5, htl5, hk51, hk52, hc5, hg5⟩
      have hz5 : wr.heap.size ≤ w5.heap.size := hg5.size
      have hB5 := Bel.alloc0 w5 (.cells #[.slice a5 t5.length c5] 22)
      have hR0 := hR
      obtain ⟨us, ho5, hul, hsn⟩ := ((hR.cur (by omega) hg5).bel hB5).own
      have hne5 : ∀ g, u6.ownBlock = some g → g < wr.heap.size ∨ w5.heap.size ≤ g := fun g hgb => by
        obtain ⟨us0, h10, -, -⟩ := hR0
        left
        rcases h10.2 with ⟨rfl, _⟩ | ⟨g', cap, cur, rfl, _, hh, _⟩
        · simp [Value.ownBlock] at hgb
        · simp [Value.ownBlock] at hgb; subst hgb; exact (Array.getElem?_eq_some_iff.1 hh).1
      have HS := Lib.hid (And.intro hsn hne5)
      have hs5 : (w5.alloc (.cells #[.slice a5 t5.length c5] 22)).heap.size = w5.heap.size + 1 := by simp
      clear hsn hR hR0
      go_wp2_with (at_builtin; refine wpList_append_own_at _ rfl _ _ 37 rfl w3.heap.size 22 i1 (.slice none 0 0) 1 24 Try.underlying37 hi1 hy0 hy1 hy2 rfl (by decide) _ _ _ rfl ho5 _ _ _ [.slice a5 t5.length c5] rfl rfl (news_oneV _ _ _) (one_slice _ _ _) (by unfold maxLen; omega) (by omega) (by omega) ?_; intro v' w6 hown' hgrow _ hat)
      have hR6 := HS.out.1 w6 v' _ t5 wr.heap.size w5.heap.size (ht5.below hB5) (by omega) (by omega) HS.out.2 hown' hgrow hat
      have hg6 : Chg w3.heap.size (w6.heap.size + 1) (w5.alloc (.cells #[.slice a5 t5.length c5] 22)) w6 := ⟨hgrow.os, hgrow.tape, hgrow.output, hgrow.size, fun i hi ho => hgrow.block i hi (fun e => by have := own_base ho5 i e.symm; have := hgrow.size; omega)⟩
      have hq6 := (Chg.of_bel (lo := w3.heap.size) (hi := w6.heap.size + 1) hB5).trans hg6
      have hc6 := hc5.chg hq6 (by omega)
      have hb76 := hq6.cell (by omega) (by omega) (hg5.cell (by omega) (by omega) hbx7)
      have hb26 := hq6.cell (by omega) (by omega) (hg5.cell (by omega) (by omega) hbx2)
      have hf26 := (World.frozen?_of_block (w := w5) (w' := w6) (a := ⟨w.heap.size, 0, none⟩) (hq6.block w.heap.size (by omega) (by omega))).trans ((World.frozen?_of_block (w := wr) (w' := w5) (a := ⟨w.heap.size, 0, none⟩) (hg5.block w.heap.size (by omega) (by omega))).trans hfx2)
      have hs6 := (hsv2.chg hg5 (by omega)).chg hq6 (by omega)
      have hg26 := (hg2.trans hg5).news hq6 (by omega)
      have hz6 : w5.heap.size ≤ w6.heap.size := hq6.size
      have hl6 : (xss ++ [t5]).length = xss.length + 1 := by simp
      have hj6 : ∀ q, ((xss ++ [t5]).getD q []).length ≤ 1000 := fun q => by
        by_cases e : q < xss.length
        · rw [show (xss ++ [t5]).getD q [] = xss.getD q [] from by simp [List.getD, List.getElem?_append_left e]]; exact hxj q
        · by_cases e2 : q = xss.length
          · subst e2; rw [show (xss ++ [t5]).getD xss.length [] = t5 from by simp [List.getD]]; exact htl5
          · simp [List.getD, List.getElem?_eq_none (show (xss ++ [t5]).length ≤ q by rw [hl6]; omega)]
      clear hbx7 hbx2 hfx2 hsv2 hg2 hg5 hc hc5 ho5 ht5 hB5 hg6 hq6 hown' hgrow
      have hw18 := HW.out
      go_wp2_with fail
      clear hw18
      exact ⟨⟨j - 1, k5, xss ++ [t5], by omega, by go_num, hR6, by omega, hj6, by omega, hc6, hb76, hb26, hf26, hs6, by omega, hg26⟩, by simp [intOf]; omega⟩
    · obtain rfl : j = 0 := by omega
      have hL := hR.sls
      clear hR
      obtain ⟨la, lc, rfl⟩ := hL.form
      have hbF : (wr.setCell ⟨w.heap.size, 0, none⟩ (.slice sa ar.length sc)).cell? ⟨w.heap.size, 0, none⟩ = some (.slice sa ar.length sc) := World.cell?_setCell_same _ _ _ hbx2
      have hsF := (hsv2.set (p := ⟨w.heap.size, 0, none⟩) (.inl (by simp; omega)) (.slice sa ar.length sc)).mono (show w.heap.size ≤ _ by omega) (show _ ≤ (wr.setCell ⟨w.heap.size, 0, none⟩ (.slice sa ar.length sc)).heap.size by first | (simp; done) | (simp; omega))
      have hLF := (hL.set (p := ⟨w.heap.size, 0, none⟩) (.inl (by simp; omega)) (.slice sa ar.length sc)).mono (show w.heap.size ≤ _ by omega) (show _ ≤ (wr.setCell ⟨w.heap.size, 0, none⟩ (.slice sa ar.length sc)).heap.size by first | (simp; done) | (simp; omega))
      have hgF := (hg2.bel hB2 (by omega)).setCell (p := ⟨w.heap.size, 0, none⟩) (Nat.le_refl _) (.slice sa ar.length sc)
      go_wp2_with fail
      exact bodyPost_ret (v := .tuple #[.agg #[.slice sa ar.length sc], .slice la xss.length lc]) (by simp [results, Try.results18, go_sem, hbF]) rfl ⟨_, _, ar, xss, rfl, hdr, hsF, hLF, by omega, hxj, hgF⟩
  
end Go.Proofs.Ytkbgglejhdodoaa
end
section
/- Lists of terms that are valid: both functions; the reference's also at signs that are not. -/
namespace Go.Proofs.Ytkbgglejhdodoaa
open Go.RowKit

def goodTerms (ar : List Int) (b : List (List Int)) (m : Nat) : Bool := goodSign ar && decide (b.length ≤ m) && b.all (okTerm ar)
theorem goodTerms_iff {ar : List Int} {b : List (List Int)} {m : Nat} : goodTerms ar b m = true ↔ goodSign ar = true ∧ b.length ≤ m ∧ ∀ t ∈ b, okTerm ar t = true := by
  simp only [goodTerms, Bool.and_eq_true, decide_eq_true_eq, List.all_eq_true]
  constructor
  · rintro ⟨⟨h1, h2⟩, h3⟩; exact ⟨h1, h2, h3⟩
  · rintro ⟨h1, h2, h3⟩; exact ⟨⟨h1, h2⟩, h3⟩

set_option maxRecDepth 100000 in
set_option maxHeartbeats 400000 in
theorem goodTerms_c (l h l' h' : Nat) (v u : Value) (ar : List Int) (b : List (List Int)) (m : Nat) (w : World) (hmm : m ≤ 1000) (ha : ar.length ≤ 1048576) (hv : SlI l h w v ar) (hb : short b) (hu : SlS l' h' w u b) :
    Calls Try.prog 51 #[.agg #[v], u, .int .i64 m] w (RetV w (.bool (goodTerms ar b m))) := by
  obtain ⟨ad', cap', rfl⟩ := hu.form
  obtain ⟨-, hm⟩ := hb
  by_cases hl : b.length ≤ m
  · have hl2 : decide (m < b.length) = false := by simp; omega
    cases hs : goodSign ar with
    | false =>
      have E : Hid (goodTerms ar b m = false) := by show _ = _; simp [goodTerms, hs]
      have HS := Lib.hid hs; clear hs
      go_enter Try.func51, Try.ntmps51
      go_wp2_with fail
      refine (iGoodSign_v _ _ _ _ _ _ HS.out ha (hv.alloc _)).mono ?_; rintro e w' ⟨rfl, hb1⟩
      go_wp2_with fail
      go_ret
      exact ⟨by rw [E.out]; rfl, hb1.of_alloc⟩
    | true =>
      have hG : Hid (goodTerms ar b m = b.all (okTerm ar)) := by show _ = _; simp [goodTerms, hs, hl]
      have hg := hs
      have HS := Lib.hid hs; clear hs
      go_enter Try.func51, Try.ntmps51
      go_wp2_with fail
      refine (iGoodSign_v _ _ _ _ _ _ HS.out ha (hv.alloc _)).mono ?_; rintro e w1 ⟨rfl, hb1⟩
      have hbox := boxc hb1 0 _ rfl
      go_wp2_with fail
      go_loopw [20] (fun i wr => ∃ k : Nat, k ≤ b.length ∧ i = .int .i64 k ∧ (b.take k).all (okTerm ar) = true ∧ Bel (w.alloc (.cells #[v] 28)) wr) (fun i _ => b.length - (intOf i).toNat)
      case atStart => exact ⟨0, Nat.zero_le _, rfl, rfl, hb1⟩
      case round =>
        obtain ⟨k, hk, rfl, hall, hb2⟩ := hrel
        have hbox2 := boxc hb2 0 _ rfl
        by_cases hlt : k < b.length
        · obtain ⟨bb, off, p, rfl, -, hc, hp⟩ := hu.at hb2.of_alloc k hlt
          have hmk := hm k hlt
          have hsp := all_splitS b (okTerm ar) k hlt hall
          have hfs := all_falseS b (okTerm ar) k hlt
          clear hm hu hbox hall
          generalize b.getD k [] = t at *
          obtain ⟨ap, cp, rfl⟩ := hp.form
          cases ht : okTerm ar t with
          | false =>
            have E : Hid (goodTerms ar b m = false) := by show _ = _; rw [hG.out]; exact hfs ht
            have HT := Lib.hid ht
            clear ht hsp hfs
            go_wp2_with fail
            refine (iGoodTerm_vv _ _ _ _ _ _ _ _ _ _ HT.out hg ha (by omega) (hv.below hb2.of_alloc) hp).mono ?_; rintro e w2 ⟨rfl, hb3⟩
            go_wp2_with fail
            go_ret
            exact ⟨by rw [E.out]; rfl, hb2.of_alloc.step hb3⟩
          | true =>
            have HA := Lib.hid (hsp.trans ht)
            have HT := Lib.hid ht
            clear ht hsp hfs
            go_wp2_with fail
            refine (iGoodTerm_vv _ _ _ _ _ _ _ _ _ _ HT.out hg ha (by omega) (hv.below hb2.of_alloc) hp).mono ?_; rintro e w2 ⟨rfl, hb3⟩
            go_wp2_with fail
            go_roundw
            case rel => exact ⟨k+1, by omega, by go_num, HA.out, hb2.step hb3⟩
            case measure => simp [intOf]; omega
        · have E : Hid (goodTerms ar b m = true) := by show _ = _; rw [hG.out]; exact all_doneS b _ k hk hlt hall
          clear hall
          go_wp2_with fail
          go_ret
          exact ⟨by rw [E.out]; rfl, hb2.of_alloc⟩
  · have E : Hid (goodTerms ar b m = false) := by show _ = _; simp [goodTerms, hl]
    have hl2 : decide (m < b.length) = true := by simp; omega
    go_enter Try.func51, Try.ntmps51
    go_wp2_with fail
    go_ret
    exact ⟨by rw [E.out]; rfl, Bel.alloc0 _ _⟩
theorem goodTerms_v (l h l' h' : Nat) (v u : Value) (ar : List Int) (b : List (List Int)) (m : Nat) (q : Bool) (w : World) (he : goodTerms ar b m = q) (hmm : m ≤ 1000) (ha : ar.length ≤ 1048576) (hv : SlI l h w v ar) (hb : short b) (hu : SlS l' h' w u b) :
    Calls Try.prog 51 #[.agg #[v], u, .int .i64 m] w (RetV w (.bool q)) := he ▸ goodTerms_c l h l' h' v u ar b m w hmm ha hv hb hu

/-- Whatever the sign: an answer comes. -/
def RetN (w : World) (e : Ending) (w' : World) : Prop := ∃ x : Int, e = .returned (.int .i64 x) ∧ Bel w w'
def RetB (w : World) (e : Ending) (w' : World) : Prop := ∃ b, e = .returned (.bool b) ∧ Bel w w'
theorem l1End_any (l h l' h' : Nat) (v u : Value) (ar t : List Int) (w : World) (ha : ar.length ≤ 1048576) (ht : t.length ≤ 1048576) (hv : SlI l h w v ar) (hu : SlI l' h' w u t) :
    Calls Try.prog 79 #[.agg #[v], u, .int .i64 0] w (RetN w) := by
  obtain ⟨ad, cap, rfl, -, -, hr⟩ := hv
  obtain ⟨ad', cap', rfl, -, -, hr'⟩ := hu
  go_enter Try.func79, Try.ntmps79
  go_wp2_with fail
  go_loopw [2, 7] (fun a n wr => ∃ (p : Nat) (m : Int), p ≤ t.length ∧ a = .int .i64 p ∧ n = .int .i64 m ∧ Bel (w.alloc (.cells #[.slice ad ar.length cap] 28)) wr) (fun a _ _ => t.length + 1 - (intOf a).toNat)
  case atStart => exact ⟨0, 1, Nat.zero_le _, rfl, rfl, Bel.rfl' _⟩
  case round =>
    obtain ⟨p, m, hp, rfl, rfl, hb⟩ := hrel
    have hbox := boxc hb 0 _ rfl
    by_cases hm : 0 < m
    · have hm1 : decide (m > 0) = true := by simpa using hm
      by_cases hlt : p < t.length
      · obtain ⟨b', off', rfl, -, hcell'⟩ := rd hr' hb.of_alloc p hlt
        clear hr'
        generalize t.getD p 0 = x at *
        have hw1 := IntWalk.i64_in ((ar.length : Int) - 1) (by omega)
        cases hs : inB x (-12) ((ar.length : Int) - 1) with
        | false =>
          have HS := Lib.hid hs; clear hs
          go_wp2_with fail
          go_quiet ((go_at_call 74; exact Calls.quiet_of_same (l1In_qv _ _ _ _ HS.out _)))
          go_wp2
          go_ret
          exact ⟨_, rfl, hb.of_alloc.drewN _⟩
        | true =>
          have HS := Lib.hid hs
          by_cases hx : x < 0
          · clear hs
            have hx' : decide (x ≥ 0) = false := by simp; omega
            go_wp2_with fail
            go_quiet ((go_at_call 74; exact Calls.quiet_of_same (l1In_qv _ _ _ _ HS.out _)))
            go_wp2
            go_roundw
            case rel => exact ⟨p+1, _, by omega, by go_num, rfl, hb.drewN _⟩
            case measure => simp [intOf]; omega
          · obtain ⟨k, rfl⟩ : ∃ k : Nat, x = k := ⟨x.toNat, by omega⟩
            have hk : k < ar.length := by simp [inB] at hs; omega
            clear hs
            obtain ⟨b, off, rfl, -, hcell⟩ := rd hr hb.of_alloc k hk
            clear hr
            generalize ar.getD k 0 = q at *
            have hk2 : (k : Int) < ar.length := by omega
            go_wp2_with fail
            go_quiet ((go_at_call 74; exact Calls.quiet_of_same (l1In_qv _ _ _ _ HS.out _)))
            go_wp2
            go_quiet (fail)
            go_wp2
            go_roundw
            case rel => exact ⟨p+1, _, by omega, by go_num, rfl, hb.drewN _⟩
            case measure => simp [intOf]; omega
      · have hge : decide ((p : Int) ≥ t.length) = true := by simp; omega
        go_wp2_with fail
        go_quiet (fail)
        go_wp2
        go_ret
        exact ⟨_, rfl, hb.of_alloc.drewN _⟩
    · have hm1 : decide (m > 0) = false := by simpa using hm
      go_wp2_with fail
      go_ret
      exact ⟨_, rfl, hb.of_alloc⟩
theorem l1Term_any (l h l' h' : Nat) (v u : Value) (ar t : List Int) (w : World) (ha : ar.length ≤ 1048576) (ht : t.length ≤ 1048576) (hv : SlI l h w v ar) (hu : SlI l' h' w u t) :
    Calls Try.prog 53 #[.agg #[v], u] w (RetB w) := by
  have hu0 := hu
  obtain ⟨ad', cap', rfl⟩ := hu.form
  cases hs : inB t.length 1 40 with
  | false =>
    have HS := Lib.hid hs; clear hs
    go_enter Try.func53, Try.ntmps53
    go_wp2_with (go_at_call 74; refine (l1In_f _ _ _ _ HS.out).mono ?_; rintro e w' ⟨rfl, hb1⟩)
    go_ret
    exact ⟨_, rfl, hb1.of_alloc⟩
  | true =>
    have HS := Lib.hid hs; clear hs
    go_enter Try.func53, Try.ntmps53
    go_wp2_with fail
    refine (l1In_t _ _ _ _ HS.out).mono ?_; rintro e w' ⟨rfl, hb1⟩
    have hx1 := boxc hb1 0 _ rfl
    go_wp2_with fail
    refine (l1End_any _ _ _ _ _ _ ar t _ ha ht (hv.below hb1.of_alloc) (hu0.below hb1.of_alloc)).mono ?_; rintro e w2 ⟨x, rfl, hb2⟩
    go_wp2_with fail
    go_ret
    exact ⟨_, rfl, hb1.of_alloc.step hb2⟩

end Go.Proofs.Ytkbgglejhdodoaa
end
section
/- RenameOf: both functions. -/
namespace Go.Proofs.Ytkbgglejhdodoaa
open Go.RowKit

def renameOk (ar : List Int) (b : List (List Int)) : Bool := goodSign ar && decide (b.length ≤ 20) && b.all (okTerm ar)
def renameAns (ar : List Int) (b : List (List Int)) : List (List Int) := if renameOk ar b then renS [] b else []
theorem renameAns_no {ar : List Int} {b : List (List Int)} (h : renameOk ar b = false) : renameAns ar b = [] := by simp [renameAns, h]
theorem renameAns_yes {ar : List Int} {b : List (List Int)} (h : renameOk ar b = true) : renameAns ar b = renS [] b := by simp [renameAns, h]
theorem renameOk_iff {ar : List Int} {b : List (List Int)} : renameOk ar b = true ↔ goodSign ar = true ∧ b.length ≤ 20 ∧ ∀ t ∈ b, okTerm ar t = true := by
  simp only [renameOk, Bool.and_eq_true, decide_eq_true_eq, List.all_eq_true]
  constructor
  · rintro ⟨⟨h1, h2⟩, h3⟩; exact ⟨h1, h2, h3⟩
  · rintro ⟨h1, h2, h3⟩; exact ⟨⟨h1, h2⟩, h3⟩
theorem renameOk_rows {ar : List Int} {b : List (List Int)} (h : renameOk ar b = true) : rows40 b := by
  obtain ⟨_, h2, h3⟩ := renameOk_iff.1 h
  refine ⟨h2, fun j hj => ?_⟩
  have ho := h3 (b.getD j []) (by simp [List.getD, hj])
  exact ⟨((okTerm_iff _ _).1 ho).2.1, okTerm_low ho⟩
theorem sumL_le40 (l : List (List Int)) (h : ∀ t ∈ l, t.length ≤ 40) : sumL l ≤ 40 * l.length := by
  unfold sumL
  induction l with
  | nil => simp
  | cons x r ih =>
    have h1 := ih (fun t ht => h t (List.mem_cons_of_mem _ ht))
    have h2 := h x List.mem_cons_self
    simp only [List.map_cons, List.sum_cons, List.length_cons]
    omega
theorem renS_lens (met : List Int) (l : List (List Int)) (h : ∀ t ∈ l, t.length ≤ 40) : ∀ t ∈ renS met l, t.length ≤ 40 := by
  induction l generalizing met with
  | nil => intro t ht; simp [renS] at ht
  | cons x r ih =>
    intro t ht
    simp only [renS, List.mem_cons] at ht
    rcases ht with rfl | ht
    · rw [renT_len]; exact h x List.mem_cons_self
    · exact ih _ (fun t ht => h t (List.mem_cons_of_mem _ ht)) t ht
theorem renameAns_len (ar : List Int) (b : List (List Int)) : tot (renameAns ar b) ≤ 1048576 := by
  unfold renameAns
  split
  · rename_i h
    have hr := renameOk_rows h
    have h1 := sumL_le40 _ (renS_lens [] b hr.mem)
    have h2 := hr.1
    unfold tot
    rw [renS_len] at h1 ⊢
    omega
  · simp [tot, sumL]

set_option maxRecDepth 100000 in
set_option maxHeartbeats 400000 in
theorem sRenameOf_t {l h l' h' : Nat} {v u : Value} {ar : List Int} {b : List (List Int)} {w : World} (ha : ar.length ≤ 1048576) (hv : SlI l h w v ar) (hb : short b) (hu : SlS l' h' w u b) :
    Calls Try.prog 20 #[.agg #[v], u] w (RetSSB w (renameAns ar b) (renameOk ar b)) := by
  obtain ⟨ad', cap', rfl⟩ := hu.form
  obtain ⟨-, hm⟩ := hb
  cases hs : goodSign ar with
  | false =>
    have E := Lib.hid (renameAns_no (show renameOk ar b = false by simp [renameOk, hs]))
    have E2 : Hid (renameOk ar b = false) := by show _ = _; simp [renameOk, hs]
    have HS := Lib.hid hs; clear hs
    go_enter Try.func20, Try.ntmps20
    go_wp2_with fail
    refine (sGoodSign_v _ _ _ _ _ _ HS.out ha (hv.alloc _)).mono ?_; rintro e w' ⟨rfl, hb1⟩
    go_wp2_with fail
    go_ret2
    exact ⟨_, _, _, by rw [E2.out]; rfl, by rw [E.out]; exact OwnS.nil _ _ _, hb1.of_alloc⟩
  | true =>
    by_cases hl : b.length ≤ 20
    · have hG : Hid (renameOk ar b = b.all (okTerm ar)) := by show _ = _; simp [renameOk, hs, hl]
      have hg := hs
      have HS := Lib.hid hs; clear hs
      have hl2 : decide ((20 : Int) < b.length) = false := by simp; omega
      go_enter Try.func20, Try.ntmps20
      go_wp2_with fail
      refine (sGoodSign_v _ _ _ _ _ _ HS.out ha (hv.alloc _)).mono ?_; rintro e w1 ⟨rfl, hb1⟩
      have hbox := boxc hb1 0 _ rfl
      go_wp2_with fail
      go_loopw [18] (fun i wr => ∃ k : Nat, k ≤ b.length ∧ i = .int .i64 k ∧ (b.take k).all (okTerm ar) = true ∧ Bel (w.alloc (.cells #[v] 28)) wr) (fun i _ => b.length - (intOf i).toNat)
      case atStart => exact ⟨0, Nat.zero_le _, rfl, rfl, hb1⟩
      case round =>
        obtain ⟨k, hk, rfl, hall, hb2⟩ := hrel
        have hbox2 := boxc hb2 0 _ rfl
        by_cases hlt : k < b.length
        · obtain ⟨bb, off, p, rfl, -, hc, hp⟩ := hu.at hb2.of_alloc k hlt
          have hmk := hm k hlt
          have hsp := all_splitS b (okTerm ar) k hlt hall
          have hfs := all_falseS b (okTerm ar) k hlt
          clear hm hu hbox hall
          generalize b.getD k [] = t at *
          obtain ⟨ap, cp, rfl⟩ := hp.form
          cases ht : okTerm ar t with
          | false =>
            have e0 : renameOk ar b = false := by rw [hG.out]; exact hfs ht
            have E := Lib.hid (renameAns_no e0)
            have E2 := Lib.hid e0
            have HT := Lib.hid ht
            clear ht hsp hfs e0
            go_wp2_with fail
            refine (l1Term_v _ _ _ _ _ _ _ _ _ _ HT.out hg (by omega) (hv.below hb2.of_alloc) hp).mono ?_; rintro e w2 ⟨rfl, hb3⟩
            go_wp2_with fail
            go_ret2
            exact ⟨_, _, _, by rw [E2.out]; rfl, by rw [E.out]; exact OwnS.nil _ _ _, hb2.of_alloc.step hb3⟩
          | true =>
            have HA := Lib.hid (hsp.trans ht)
            have HT := Lib.hid ht
            clear ht hsp hfs
            go_wp2_with fail
            refine (l1Term_v _ _ _ _ _ _ _ _ _ _ HT.out hg (by omega) (hv.below hb2.of_alloc) hp).mono ?_; rintro e w2 ⟨rfl, hb3⟩
            go_wp2_with fail
            go_roundw
            case rel => exact ⟨k+1, by omega, by go_num, HA.out, hb2.step hb3⟩
            case measure => simp [intOf]; omega
        · have e0 : renameOk ar b = true := by rw [hG.out]; exact all_doneS b _ k hk hlt hall
          have E := Lib.hid (renameAns_yes e0)
          have E2 := Lib.hid e0
          have hr := renameOk_rows e0
          have HC := Lib.hid (l2Rename_c _ _ _ b wr hr (hu.below hb2.of_alloc))
          clear hall e0 hr
          go_wp2_with fail
          refine HC.out.mono ?_; rintro e w2 ⟨ao, no, co, rfl, ho, hb3⟩
          go_wp2_with fail
          go_ret2
          exact ⟨_, _, _, by rw [E2.out]; rfl, by rw [E.out]; exact ho.mono (by have := hb2.size; simp at this; omega) (Nat.le_refl _), hb2.of_alloc.step hb3⟩
    · have hl' : ¬ b.length ≤ 20 := hl
      have E := Lib.hid (renameAns_no (show renameOk ar b = false by simp [renameOk, hl']))
      have E2 : Hid (renameOk ar b = false) := by show _ = _; simp [renameOk, hl']
      have HS := Lib.hid hs; clear hs
      have hl2 : decide ((20 : Int) < b.length) = true := by simp; omega
      go_enter Try.func20, Try.ntmps20
      go_wp2_with fail
      refine (sGoodSign_v _ _ _ _ _ _ HS.out ha (hv.alloc _)).mono ?_; rintro e w' ⟨rfl, hb1⟩
      go_wp2_with fail
      go_ret2
      exact ⟨_, _, _, by rw [E2.out]; rfl, by rw [E.out]; exact OwnS.nil _ _ _, hb1.of_alloc⟩

set_option maxRecDepth 100000 in
set_option maxHeartbeats 400000 in
theorem iRenameOf_t {l h l' h' : Nat} {v u : Value} {ar : List Int} {b : List (List Int)} {w : World} (ha : ar.length ≤ 1048576) (hv : SlI l h w v ar) (hb : short b) (hu : SlS l' h' w u b) :
    Calls Try.prog 19 #[.agg #[v], u] w (RetSSB w (renameAns ar b) (renameOk ar b)) := by
  cases hs : renameOk ar b with
  | false =>
    have E := Lib.hid (renameAns_no hs)
    have HC := Lib.hid (fun (w' : World) (hq : Bel w w') => goodTerms_v l h l' h' v u ar b 20 false w' hs (by omega) ha (hv.below hq) hb (hu.below hq))
    clear hs
    obtain ⟨ad', cap', rfl⟩ := hu.form
    go_enter Try.func19, Try.ntmps19
    go_wp2_with fail
    refine (HC.out _ (Bel.alloc0 _ _)).mono ?_; rintro e w' ⟨rfl, hb1⟩
    go_wp2_with fail
    go_ret2
    exact ⟨_, _, _, rfl, by rw [E.out]; exact OwnS.nil _ _ _, hb1.of_alloc⟩
  | true =>
    have E := Lib.hid (renameAns_yes hs)
    have hr := renameOk_rows hs
    have HC := Lib.hid (fun (w' : World) (hq : Bel w w') => goodTerms_v l h l' h' v u ar b 20 true w' hs (by omega) ha (hv.below hq) hb (hu.below hq))
    have HD := Lib.hid (fun (w' : World) (hq : Bel w w') => renamed_c _ _ _ b w' hr (hu.below hq))
    clear hs hr
    obtain ⟨ad', cap', rfl⟩ := hu.form
    go_enter Try.func19, Try.ntmps19
    go_wp2_with fail
    refine (HC.out _ (Bel.alloc0 _ _)).mono ?_; rintro e w1 ⟨rfl, hb1⟩
    go_wp2_with fail
    refine (HD.out _ hb1.of_alloc).mono ?_; rintro e w2 ⟨ao, no, co, rfl, ho, hb3⟩
    go_wp2_with fail
    go_ret2
    exact ⟨_, _, _, rfl, by rw [E.out]; exact ho.mono (by have := hb1.of_alloc.size; omega) (Nat.le_refl _), hb1.of_alloc.step hb3⟩
end Go.Proofs.Ytkbgglejhdodoaa
end
