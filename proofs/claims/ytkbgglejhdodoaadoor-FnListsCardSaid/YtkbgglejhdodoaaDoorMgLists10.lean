/- Texts merged, part 10. -/
import Derived.Deep.AppendLies
import Derived.Deep.RegionHeldLaw
import Derived.Test.YtkbgglejhdodoaaDoorMgLists9
section
/- LeastGround: both functions. -/
namespace Go.Proofs.YtkbgglejhdodoaaDoor
open Go.RowKit

/-- Symbol 0 has no arguments: it is the least. -/
def leastAns (ar : List Int) : List Int := if goodSign ar then [0] else []
theorem leastAns_len (ar : List Int) : (leastAns ar).length ≤ 1048576 := by unfold leastAns; split <;> simp
theorem least_no {ar : List Int} (h : goodSign ar = false) : leastAns ar = [] := by simp [leastAns, h]
theorem least_yes {ar : List Int} (h : goodSign ar = true) : leastAns ar = [0] := by simp [leastAns, h]
theorem sign_first {ar : List Int} (h : goodSign ar = true) : 0 < ar.length ∧ ar.getD 0 0 = 0 := by
  have h1 := sign_len ar h
  simp only [goodSign, Bool.and_eq_true, beq_iff_eq] at h
  exact ⟨by omega, h.2⟩
theorem own_one (w : World) (x : Int) : OwnI w.heap.size (w.alloc (.cells #[.int .i64 x] 3)).heap.size (w.alloc (.cells #[.int .i64 x] 3)) (.slice (some ⟨w.heap.size, 0, none⟩) 1 1) [x] :=
  OwnI.of_row (World.ownsRow_lit w #[.int .i64 x] 1 (Nat.le_refl _) (by unfold maxLen; omega) rfl)

theorem slIndex_first (l h : Nat) (v : Value) (t : List Int) (n : Int) (w : World) (hl : 0 < t.length) (h0 : t.getD 0 0 = n) (ht : t.length ≤ 1048576) (hv : SlI l h w v t) :
    Calls Tryd.prog 70 #[v, .int .i64 n] w (RetV w (.int .i64 0)) := by
  obtain ⟨ad, cap, rfl, -, -, hr⟩ := hv
  obtain ⟨b, off, rfl, -, hcell⟩ := rd hr (Bel.rfl' w) 0 hl
  rw [h0] at hcell
  rw [Nat.add_zero] at hcell
  have hl2 : decide ((0 : Int) < t.length) = true := by simp; omega
  clear hr h0
  go_enter Tryd.func70, Tryd.ntmps70
  go_wp2_with fail
  go_loop [8] (fun i => i = .int .i64 0) (fun i => 0)
  case atStart => rfl
  case round =>
    subst hrel
    go_wp2_with fail
    go_ret
    exact ⟨rfl, Bel.rfl' _⟩

set_option maxRecDepth 100000 in
theorem iLeastGround_t {l h : Nat} {v : Value} {ar : List Int} {w : World} (ha : ar.length ≤ 1048576) (hv : SlI l h w v ar) :
    Calls Tryd.prog 27 #[.agg #[v]] w (RetIB w (leastAns ar) (goodSign ar)) := by
  cases hs : goodSign ar with
  | false =>
    have E := Lib.hid (least_no hs)
    have HS := Lib.hid hs; clear hs
    go_enter Tryd.func27, Tryd.ntmps27
    go_wp2_with fail
    refine (iGoodSign_v _ _ _ _ _ _ HS.out ha (hv.alloc _)).mono ?_; rintro e w' ⟨rfl, hb1⟩
    go_wp2_with fail
    go_ret2
    exact ⟨_, _, _, rfl, by rw [E.out]; exact OwnI.nil _ _ _, hb1.of_alloc⟩
  | true =>
    have E := Lib.hid (least_yes hs)
    obtain ⟨h1, h2⟩ := sign_first hs
    have HS := Lib.hid hs; clear hs
    go_enter Tryd.func27, Tryd.ntmps27
    go_wp2_with fail
    refine (iGoodSign_v _ _ _ _ _ _ HS.out ha (hv.alloc _)).mono ?_; rintro e w1 ⟨rfl, hb1⟩
    have hx1 := boxc hb1 0 _ rfl
    go_wp2_with fail
    refine (slIndex_first _ _ _ ar 0 _ h1 h2 ha (hv.below hb1.of_alloc)).mono ?_; rintro e w2 ⟨rfl, hb2⟩
    go_wp2_with fail
    go_ret2
    exact ⟨_, _, _, rfl, by rw [E.out]; exact (own_one w2 0).mono (hb1.of_alloc.step hb2).size (Nat.le_refl _), (hb1.of_alloc.step hb2).alloc _⟩

set_option maxRecDepth 100000 in
theorem sLeastGround_t {l h : Nat} {v : Value} {ar : List Int} {w : World} (ha : ar.length ≤ 1048576) (hv : SlI l h w v ar) :
    Calls Tryd.prog 32 #[.agg #[v]] w (RetIB w (leastAns ar) (goodSign ar)) := by
  cases hs : goodSign ar with
  | false =>
    have E := Lib.hid (least_no hs)
    have HS := Lib.hid hs; clear hs
    go_enter Tryd.func32, Tryd.ntmps32
    go_wp2_with fail
    refine (sGoodSign_v _ _ _ _ _ _ HS.out ha (hv.alloc _)).mono ?_; rintro e w' ⟨rfl, hb1⟩
    go_wp2_with fail
    go_ret2
    exact ⟨_, _, _, rfl, by rw [E.out]; exact OwnI.nil _ _ _, hb1.of_alloc⟩
  | true =>
    have E := Lib.hid (least_yes hs)
    obtain ⟨h1, h2⟩ := sign_first hs
    have HS := Lib.hid hs; clear hs
    obtain ⟨ad, cap, rfl, -, -, hr⟩ := id hv
    go_enter Tryd.func32, Tryd.ntmps32
    go_wp2_with fail
    refine (sGoodSign_v _ _ _ _ _ _ HS.out ha (hv.alloc _)).mono ?_; rintro e w1 ⟨rfl, hb1⟩
    have hx1 := boxc hb1 0 _ rfl
    obtain ⟨b, off, rfl, -, hcell⟩ := rd hr hb1.of_alloc 0 h1
    rw [h2, Nat.add_zero] at hcell
    have hl2 : decide ((0 : Int) < ar.length) = true := by simp; omega
    clear hr h2
    go_wp2_with fail
    go_loop [12] (fun i => i = .int .i64 0) (fun i => 0)
    case atStart => rfl
    case round =>
      subst hrel
      go_wp2_with fail
      go_ret2
      exact ⟨_, _, _, rfl, by rw [E.out]; exact (own_one w1 0).mono hb1.of_alloc.size (Nat.le_refl _), hb1.of_alloc.alloc _⟩
end Go.Proofs.YtkbgglejhdodoaaDoor
end
section
/- The draws of chapter 2: lists of terms. -/
namespace Go.Proofs.YtkbgglejhdodoaaDoor
open Go.RowKit

/-- A row of slices of ints, each apart from the row's own block. -/
def RowS (w : World) (base : Nat) (v : Value) (xss : List (List Int)) : Prop :=
  ∃ us : List Value, w.ownsRow base 24 1 v us.length us ∧ us.length = xss.length ∧ ∀ j u, us[j]? = some u → ∃ lo hi, SlI lo hi w u (xss.getD j []) ∧ base ≤ lo ∧ hi ≤ w.heap.size ∧ ∀ g, v.ownBlock = some g → g < lo ∨ hi ≤ g
theorem RowS.nil (w : World) (base : Nat) : RowS w base (.slice none 0 0) [] := ⟨[], World.ownsRow_nil _ _ _ _, rfl, fun j u h => by simp at h⟩
theorem RowS.cur {w w' : World} {base b : Nat} {v : Value} {xss : List (List Int)} (h : RowS w base v xss) (hb : b < base) (k : Chg b (b+1) w w') : RowS w' base v xss := by
  obtain ⟨us, h1, h2, h3⟩ := h
  refine ⟨us, row_chg h1 hb k, h2, fun j u hj => ?_⟩
  obtain ⟨lo, hi, a1, a2, a3, a4⟩ := h3 j u hj
  exact ⟨lo, hi, a1.chg k (by omega), a2, Nat.le_trans a3 k.size, a4⟩
theorem RowS.bel {w w' : World} {base : Nat} {v : Value} {xss : List (List Int)} (h : RowS w base v xss) (hb : Bel w w') : RowS w' base v xss := by
  obtain ⟨us, h1, h2, h3⟩ := h
  refine ⟨us, ownsRow_bel h1 hb, h2, fun j u hj => ?_⟩
  obtain ⟨lo, hi, a1, a2, a3, a4⟩ := h3 j u hj
  exact ⟨lo, hi, a1.below hb, a2, Nat.le_trans a3 hb.size, a4⟩
theorem RowS.own {w : World} {base : Nat} {v : Value} {xss : List (List Int)} (h : RowS w base v xss) : ∃ us, w.ownsRow base 24 1 v us.length us ∧ us.length = xss.length ∧ ∀ (w1 : World) (v' u : Value) (t : List Int) (lo hi : Nat), SlI lo hi w u t → base ≤ lo → hi ≤ w.heap.size → (∀ g, v.ownBlock = some g → g < lo ∨ hi ≤ g) → w1.ownsRow base 24 1 v' (us.length + 1) (us ++ [u]) → w.grownBy w1 v.ownBlock → (v'.ownBlock = v.ownBlock ∨ v'.ownBlock = some w.heap.size) → RowS w1 base v' (xss ++ [t]) := by
  obtain ⟨us, h1, h2, h3⟩ := h
  refine ⟨us, h1, h2, fun w1 v' u t lo hi hu hlo hhi hne hown hg hat => ⟨us ++ [u], by simpa using hown, by simp [h2], fun j x hj => ?_⟩⟩
  have hkeep : ∀ (lo hi : Nat) (y : Value) (q : List Int), SlI lo hi w y q → base ≤ lo → hi ≤ w.heap.size → (∀ g, v.ownBlock = some g → g < lo ∨ hi ≤ g) → ∃ lo hi, SlI lo hi w1 y q ∧ base ≤ lo ∧ hi ≤ w1.heap.size ∧ ∀ g, v'.ownBlock = some g → g < lo ∨ hi ≤ g := by
    intro lo hi y q hy hl hh hn
    refine ⟨lo, hi, hy.same fun b b1 b2 b3 => hg.block b b3 (fun e => ?_), hl, Nat.le_trans hh hg.size, fun g hgb => ?_⟩
    · have := hn b e.symm
      omega
    · rcases hat with e | e
      · rw [e] at hgb; exact hn g hgb
      · rw [e] at hgb; simp at hgb; omega
  by_cases e : j < us.length
  · rw [List.getElem?_append_left e] at hj
    obtain ⟨lo', hi', a1, a2, a3, a4⟩ := h3 j x hj
    rw [show (xss ++ [t]).getD j [] = xss.getD j [] from by simp [List.getD, List.getElem?_append_left (show j < xss.length by omega)]]
    exact hkeep lo' hi' x _ a1 a2 a3 a4
  · have hlt := (List.getElem?_eq_some_iff.1 hj).1
    simp at hlt
    obtain rfl : j = us.length := by omega
    rw [List.getElem?_append_right (Nat.le_refl _), Nat.sub_self] at hj
    simp at hj
    subst hj
    rw [show (xss ++ [t]).getD us.length [] = t from by rw [h2]; simp [List.getD]]
    exact hkeep lo hi u t hu hlo hhi hne
theorem RowS.sls {w : World} {base : Nat} {v : Value} {xss : List (List Int)} (h : RowS w base v xss) : SlS base w.heap.size w v xss := by
  obtain ⟨us, h1, h2, h3⟩ := h
  have h0 := h1
  rcases h1.2 with ⟨rfl, hn⟩ | ⟨g, cap, cur, rfl, hg, hh, hn, hc, hs, ht⟩
  · obtain rfl : xss = [] := List.length_eq_zero_iff.1 (by omega)
    exact SlS.nil _ _ _
  · have hgs : g < w.heap.size := (Array.getElem?_eq_some_iff.1 hh).1
    refine ⟨_, cap, by rw [h2], by omega, ⟨hc, fun h => by simp at h⟩, fun hp => ⟨g, 0, rfl, hg, hgs, fun j hj => ?_⟩⟩
    have hju : us[j]? = some us[j] := List.getElem?_eq_getElem (by omega)
    refine ⟨us[j], by rw [Nat.zero_add, h0.cellAt j (by omega)]; exact hju, ?_⟩
    obtain ⟨lo, hi, a1, a2, a3, _⟩ := h3 j _ hju
    exact a1.mono a2 a3
def RetDL (w : World) (e : Ending) (w' : World) : Prop :=
  ∃ (sv lv : Value) (ar : List Int) (l : List (List Int)), e = .returned (.tuple #[.agg #[sv], lv]) ∧ drawn ar ∧ SlI w.heap.size w'.heap.size w' sv ar ∧ SlS w.heap.size w'.heap.size w' lv l ∧ l.length ≤ 12 ∧ (∀ j, (l.getD j []).length ≤ 1000) ∧ Bel w w'

end Go.Proofs.YtkbgglejhdodoaaDoor
end
section
/- The draws of chapter 3: lists of terms. -/
namespace Go.Proofs.YtkbgglejhdodoaaDoor
open Go.RowKit

def RetTL (b n k d : Nat) (w : World) (e : Ending) (w' : World) : Prop :=
  ∃ (lv : Value) (l : List (List Int)) (k' : Nat), e = .returned lv ∧ RowS w' w.heap.size lv l ∧ l.length ≤ 4 ∧ (∀ j, (l.getD j []).length ≤ 1000) ∧ k ≤ k' ∧ k' ≤ k + d ∧ Cur b n k' w' ∧ Chg b (b+1) w w'
theorem len_snoc {xss : List (List Int)} {t : List Int} (h : ∀ q, (xss.getD q []).length ≤ 1000) (ht : t.length ≤ 1000) : ∀ q, ((xss ++ [t]).getD q []).length ≤ 1000 := fun q => by
  by_cases e : q < xss.length
  · rw [show (xss ++ [t]).getD q [] = xss.getD q [] from by simp [List.getD, List.getElem?_append_left e]]; exact h q
  · by_cases e2 : q = xss.length
    · subst e2; rw [show (xss ++ [t]).getD xss.length [] = t from by simp [List.getD]]; exact ht
    · simp [List.getD, List.getElem?_eq_none (show (xss ++ [t]).length ≤ q by simp; omega)]
theorem RowS.base {w : World} {base base' : Nat} {v : Value} {xss : List (List Int)} (h : RowS w base v xss) (hb : base' ≤ base) : RowS w base' v xss := by
  obtain ⟨us, h1, h2, h3⟩ := h
  exact ⟨us, row_mono h1 hb, h2, fun j u hj => by obtain ⟨lo, hi, a1, a2, a3, a4⟩ := h3 j u hj; exact ⟨lo, hi, a1, by omega, a3, a4⟩⟩
theorem RowS.block {w : World} {base : Nat} {v : Value} {xss : List (List Int)} (h : RowS w base v xss) : ∀ g, v.ownBlock = some g → base ≤ g ∧ g < w.heap.size := fun g hg => by
  obtain ⟨us, h1, -, -⟩ := h
  rcases h1.2 with ⟨rfl, _⟩ | ⟨g', cap, cur, rfl, hb, hh, _⟩
  · simp [Value.ownBlock] at hg
  · simp [Value.ownBlock] at hg; subst hg; exact ⟨hb, (Array.getElem?_eq_some_iff.1 hh).1⟩
theorem RowS.form {w : World} {base : Nat} {v : Value} {xss : List (List Int)} (h : RowS w base v xss) : ∃ a c, v = .slice a xss.length c := h.sls.form

set_option maxRecDepth 100000 in
set_option maxHeartbeats 1000000 in
theorem termList_c (b n k lo hi : Nat) (v : Value) (ar : List Int) (w : World) (hn : n ≤ 1099511627776) (hk : k ≤ 1000000000) (hdr : drawn ar) (hblo : b < lo) (hhi : hi ≤ w.heap.size) (hc : Cur b n k w) (hv : SlI lo hi w v ar) :
    Calls Tryd.prog 63 #[.pointer (some ⟨b, 0, none⟩), .agg #[v]] w (RetTL b n k 20010 w) := by
  obtain ⟨i1, hi1, hy0, hy1, hy2⟩ := info_parts Tryd.info24
  obtain ⟨sa, sc, rfl⟩ := hv.form
  have hbl := hc.lt
  have hB0 := Bel.alloc0 w (.cells #[.slice sa ar.length sc] 26)
  have hbx : (w.alloc (.cells #[.slice sa ar.length sc] 26)).cell? ⟨w.heap.size, 0, none⟩ = some (.slice sa ar.length sc) := by rw [World.cell?_alloc_new w]; rfl
  have hs0 : (w.alloc (.cells #[.slice sa ar.length sc] 26)).heap.size = w.heap.size + 1 := by simp
  have hcA := hc.below hB0
  have hvA := hv.below hB0
  clear hc hv
  go_enter Tryd.func63, Tryd.ntmps63
  go_wp2_with fail
  refine (pick_c b n k _ 4 _ (by decide) (by omega) (by omega) (by omega) hcA).mono ?_; rintro e w2 ⟨x, k2, rfl, hx, hk21, hk22, hc2, hg2⟩
  have hz2 := hg2.size
  have hwz : w.heap.size < w2.heap.size := by rw [hs0] at hz2; omega
  have hg := (Chg.of_bel (lo := b) (hi := b + 1) hB0).trans hg2
  have hbx2 := hg2.cell (by omega) (by omega) hbx
  have hv2 := hvA.chg hg2 (by omega)
  clear hcA hvA hbx hg2 hB0
  go_wp2_with fail
  go_loopw [5, 6] (fun lv i wr => ∃ (j kk : Nat) (xss : List (List Int)), j ≤ 4 ∧ i = .int .i64 j ∧ RowS wr w2.heap.size lv xss ∧ xss.length + j ≤ 4 ∧ (∀ q, (xss.getD q []).length ≤ 1000) ∧ k ≤ kk ∧ kk + 5000 * j ≤ k + 20005 ∧ Cur b n kk wr ∧ wr.cell? ⟨w.heap.size, 0, none⟩ = some (.slice sa ar.length sc) ∧ SlI lo hi wr (.slice sa ar.length sc) ar ∧ w2.heap.size ≤ wr.heap.size ∧ Chg b (b + 1) w wr) (fun _ i _ => (intOf i).toNat)
  case atStart => exact ⟨x, k2, [], by omega, rfl, RowS.nil _ _, by simp; omega, by simp, by omega, by omega, hc2, hbx2, hv2, Nat.le_refl _, hg⟩
  case round =>
    clear hc2 hbx2 hv2 hg
    obtain ⟨j, kk, xss, hj, rfl, hR, hxl, hxj, hkk0, hkk, hc, hbx, hv, hzr, hg⟩ := hrel
    by_cases hlt : 0 < j
    · have HW := Lib.hid (IntWalk.i64_in ((j : Int) - 1) (by omega))
      have hbr := hR.block
      have hc0 := hc.below (Bel.drew0 wr)
      go_wp2_with fail
      go_region_held_law (fun w' => w'.cell? ⟨w.heap.size, 0, none⟩ = some (.slice sa ar.length sc))
        (first | exact hbx | exact hx5 | exact hx6 | exact hx7 | exact hx8 | fail)
        (first
          | (refine step_append_lies _ ?a1 (.tmp 13) (.tmp 20) 36 ?a2 w2.heap.size 24 i1 (.slice none 0 0) 1 24 Tryd.underlying36 hi1 hy0 hy1 hy2 rfl (by decide) _ _ _ ?a3 ho7 ⟨y6.heap.size, 0, none⟩ 1 1 [.slice a6 m6 c6] ?a4 rfl (news_oneV _ _ _) (one_slice _ _ _) (by decide) (by unfold maxLen; omega) (by omega) (Nat.le_trans hzr hz6) _ rfl ?a5; (case a1 => rfl); (case a2 => rfl); (case a3 => first | rfl | (simp [Act.eval, Act.put]; done)); (case a4 => first | rfl | (simp [Act.eval, Act.put]; done)); intro g7 c7 w7 hown7 hgrow7 hat7 hlt7; have hx8 := (hgrow7.cell_far ⟨w.heap.size, 0, none⟩ (World.block_lt_of_cell? _ ⟨_, 0, none⟩ hx7) (fun e => by have := hbr w.heap.size e.symm; omega)).trans hx7)
          | (go_at_call 71; refine (term_z b n (1 + z) 2 k5 _ _ _ _ _ ar y5 (by simp) (by decide) (by omega) (by omega) (by omega) hdr (by omega) (by omega) (by omega) hc5 (hv.chg G5 (by omega))).mono ?_; rintro e y6 ⟨a6, m6, c6, t6, k6, rfl, hrow6, ht61, ht62, hseq6, hk61, hk62, hc6, hg6⟩; have G6 := G5.trans hg6; have hx6 := hg6.cell (by have := G5.size; omega) (by omega) hx5; have hBA := Bel.alloc0 y6 (.cells #[.slice a6 m6 c6] 24); have hx7 := hBA.at (World.block_lt_of_cell? _ ⟨_, 0, none⟩ hx6) hx6; have hz6 : wr.heap.size ≤ (y6.alloc (.cells #[.slice a6 m6 c6] 24)).heap.size := (Nat.le_trans G6.size hBA.size); obtain ⟨us, ho7, hul, hsn⟩ := ((hR.cur (by omega) G6).bel hBA).own)
          | (go_at_call 43; refine (pick_c b n kk _ 3 _ (by decide) (by omega) (by omega) (by omega) hc0).mono ?_; rintro e y5 ⟨z, k5, rfl, hz, hk51, hk52, hc5, hg5⟩; have G5 := (Chg.of_bel (lo := b) (hi := b + 1) (Bel.drew0 wr)).trans hg5; have hx5 := G5.cell (by omega) (by omega) hbx; have hw18 := IntWalk.i64_in (1 + (z : Int)) (by omega))
          | fail)
      have hm6 := row_len hrow6
      subst hm6
      have hzy := G5.size
      have hR8 := hsn w7 _ _ t6 y5.heap.size y6.heap.size ((OwnI.of_row hrow6).sl.below hBA) (Nat.le_trans hzr hzy) hBA.size (fun g hgb => .inl (Nat.lt_of_lt_of_le (hbr g hgb).2 hzy)) hown7 hgrow7 (by rcases hat7 with e | e; exact .inl e.symm; exact .inr (by rw [e]; rfl))
      rw [hul] at hR8
      have hq7 : Chg w2.heap.size (w7.heap.size + 1) (y6.alloc (.cells #[.slice a6 t6.length c6] 24)) w7 := ⟨hgrow7.os, hgrow7.tape, hgrow7.output, hgrow7.size, fun i hi ho => hgrow7.block i hi (fun e => by have := own_base ho7 i e.symm; have := hgrow7.size; omega)⟩
      have hc8 := (hc6.below hBA).chg hq7 (by omega)
      have hv8 := ((hv.chg G6 (by omega)).below hBA).chg hq7 (by omega)
      have hg8 := ((hg.trans G6).trans (Chg.of_bel hBA)).news hq7 (by omega)
      have hl8 : (xss ++ [t6]).length = xss.length + 1 := by simp
      have htl := tl_le (1 + z) (by omega)
      have hj8 := len_snoc hxj (show t6.length ≤ 1000 by omega)
      have hz8 : w2.heap.size ≤ w7.heap.size := Nat.le_trans (Nat.le_trans hzr hz6) hgrow7.size
      clear hR hxj hc hbx hv hg hc5 hc6 hg5 G5 hg6 G6 hx5 hx6 hx7 hBA hsn ho7 hown7 hgrow7 hat7 hq7 hrow6 hseq6 hc0 hbr
      have hw18 := HW.out
      go_wp2_with fail
      clear hw18
      exact ⟨⟨j - 1, k6, xss ++ [t6], by omega, by go_num, hR8, by omega, hj8, by omega, by omega, hc8, hx8, hv8, hz8, hg8⟩, by simp [intOf]; omega⟩
    · obtain rfl : j = 0 := by omega
      have hxj' := hxj
      have hR' := hR.base (show w.heap.size ≤ w2.heap.size by omega)
      obtain ⟨la, lc, rfl⟩ := hR.form
      clear hR hv hbx
      go_wp2_with fail
      go_ret
      exact ⟨_, xss, kk, rfl, hR', by omega, hxj', by omega, by omega, hc, hg⟩
end Go.Proofs.YtkbgglejhdodoaaDoor
end
section
/- The draws of chapter 3: lists of terms, falling lists, signs. -/
namespace Go.Proofs.YtkbgglejhdodoaaDoor
open Go.RowKit

def RetDLL (w : World) (e : Ending) (w' : World) : Prop :=
  ∃ (sv av bv : Value) (ar : List Int) (la lb : List (List Int)), e = .returned (.tuple #[.agg #[sv], av, bv]) ∧ drawn ar ∧ SlI w.heap.size w'.heap.size w' sv ar ∧ SlS w.heap.size w'.heap.size w' av la ∧ la.length ≤ 5 ∧ (∀ j, (la.getD j []).length ≤ 1000) ∧ SlS w.heap.size w'.heap.size w' bv lb ∧ lb.length ≤ 5 ∧ (∀ j, (lb.getD j []).length ≤ 1000) ∧ Bel w w'
def RetDLe (w : World) (e : Ending) (w' : World) : Prop :=
  ∃ (sv lv : Value) (ar : List Int) (l : List (List Int)), e = .returned (.tuple #[.agg #[sv], lv]) ∧ drawn ar ∧ SlI w.heap.size w'.heap.size w' sv ar ∧ SlS w.heap.size w'.heap.size w' lv l ∧ l.length ≤ 12 ∧ (∀ j, (l.getD j []).length ≤ 1000) ∧ Bel w w'
theorem partAns_len1000 (ar t : List Int) (z : Int) : (partAns ar t z).length ≤ 1000 := by
  by_cases h : askOk ar t z = true
  · obtain ⟨k, e, rfl, hk, he, hke, het, h40, hg, hok⟩ := ask_yes h
    rw [partAns_yes h he, partOf_len t k e het]; omega
  · unfold partAns; rw [if_neg h]; simp
theorem slI_kk {lo hi : Nat} {w : World} {ad : Option Addr} {n c : Nat} {xs : List Int} (h : SlI lo hi w (.slice ad n c) xs) : n = xs.length := by
  obtain ⟨ad', c', e⟩ := h.form
  simp only [Value.slice.injEq] at e
  exact e.2.1

set_option maxRecDepth 100000 in
set_option maxHeartbeats 1000000 in
theorem drawCompareLists_c (n : Nat) (v : Value) (w : World) (hn : n ≤ 1048576) (hv : SlB w.heap.size w v n) :
    Calls Tryd.prog 24 #[v] w (RetDLL w) := by
  obtain ⟨ad, cap, rfl, hcap, hr⟩ := hv
  have hv : SlB w.heap.size w (.slice ad n cap) n := ⟨ad, cap, rfl, hcap, hr⟩
  have hB1 := Bel.alloc0 w (.cells #[.slice none 0 0] 26)
  have hs1 : (w.alloc (.cells #[.slice none 0 0] 26)).heap.size = w.heap.size + 1 := by simp
  have hC := Cur.new (T := 68) (w := w.alloc (.cells #[.slice none 0 0] 26)) (v := .slice ad n cap) (n := n) (by
    obtain ⟨ad', cap', e, hc, hr'⟩ := hv.chg (Chg.of_bel (lo := w.heap.size) (hi := w.heap.size) hB1) (Nat.le_refl _)
    exact ⟨ad', cap', e, hc, fun hp => by obtain ⟨b, off, e1, e2, e3⟩ := hr' hp; exact ⟨b, off, e1, by omega, e3⟩⟩)
  rw [hs1] at hC
  have hB2 := hB1.step (Bel.alloc0 (w.alloc (.cells #[.slice none 0 0] 26)) (.cells #[.slice ad n cap, .int .i64 0, .int .u64 0] 68))
  have hbx : ((w.alloc (.cells #[.slice none 0 0] 26)).alloc (.cells #[.slice ad n cap, .int .i64 0, .int .u64 0] 68)).cell? ⟨w.heap.size, 0, none⟩ = some (.slice none 0 0) := (Bel.alloc0 _ _).at (by simp) (by rw [World.cell?_alloc_new w]; rfl)
  have hfx : ((w.alloc (.cells #[.slice none 0 0] 26)).alloc (.cells #[.slice ad n cap, .int .i64 0, .int .u64 0] 68)).frozen? ⟨w.heap.size, 0, none⟩ = false := by simp [go_sem]; try rfl
  have HS := Lib.hid (sign_c (w.heap.size + 1) n 0 _ (by omega) (by omega) hC)
  go_enter Tryd.func24, Tryd.ntmps24
  go_wp2_with fail
  refine HS.out.mono ?_; rintro e w1 ⟨sv, ar, k1, rfl, hdr, hsv, hk1, hk2, hc1, hg1⟩
  obtain ⟨sa, sc, rfl⟩ := hsv.form
  have hW0 : ((w.alloc (.cells #[.slice none 0 0] 26)).alloc (.cells #[.slice ad n cap, .int .i64 0, .int .u64 0] 68)).heap.size = w.heap.size + 1 + 1 := by simp
  generalize ((w.alloc (.cells #[.slice none 0 0] 26)).alloc (.cells #[.slice ad n cap, .int .i64 0, .int .u64 0] 68)) = W0 at *
  have hsz1 : W0.heap.size ≤ w1.heap.size := hg1.size
  rw [hW0] at hsv
  have hbx1 := hg1.cell (by omega) (by omega) hbx
  have hfx1 : w1.frozen? ⟨w.heap.size, 0, none⟩ = false := (World.frozen?_of_block (w := W0) (w' := w1) (a := ⟨w.heap.size, 0, none⟩) (hg1.block w.heap.size (by omega) (by omega))).trans hfx
  have hB3 := Bel.alloc0 w1 (.cells #[.slice sa ar.length sc] 26)
  have hs2 : (w1.alloc (.cells #[.slice sa ar.length sc] 26)).heap.size = w1.heap.size + 1 := by simp
  have hbx7 : (w1.alloc (.cells #[.slice sa ar.length sc] 26)).cell? ⟨w1.heap.size, 0, none⟩ = some (.slice sa ar.length sc) := by rw [World.cell?_alloc_new w1]; rfl
  have hbx2 := hB3.at (by omega) hbx1
  have hfx2 := (World.frozen?_of_block (w := w1) (a := ⟨w.heap.size, 0, none⟩) (hB3.block w.heap.size (by omega))).trans hfx1
  have hc2 := hc1.below hB3
  have hsv2 := hsv.below hB3
  have hg2 := hg1.trans (Chg.of_bel (lo := w.heap.size + 1) (hi := w.heap.size + 1 + 1) hB3)
  generalize hw2 : w1.alloc (.cells #[.slice sa ar.length sc] 26) = w2 at *
  clear hc1 hg1 hbx1 hfx1 hB3 hsv hbx hfx HS hC hB1
  have hal := drawn_len hdr
  obtain ⟨i1, hi1, hy0, hy1, hy2⟩ := info_parts Tryd.info24
  go_wp2_with fail
  refine (termList_c (w.heap.size + 1) n k1 _ _ _ ar w2 (by omega) (by omega) hdr (by omega) (by omega) hc2 hsv2).mono ?_; rintro e w3 ⟨vA, lA, k2x, rfl, hRA, hlA, hjA, hk1k2x, hk2k2x, hc3, hgs3⟩
  have hzw3 : w2.heap.size ≤ w3.heap.size := hgs3.size
  replace hsv2 := hsv2.chg hgs3 (by omega)
  replace hbx7 := hgs3.cell (by omega) (by omega) hbx7
  have hfq := hfx2
  replace hfx2 := (World.frozen?_of_block (w := w2) (w' := w3) (a := ⟨w.heap.size, 0, none⟩) (hgs3.block w.heap.size (by omega) (by omega))).trans hfq
  clear hfq
  replace hbx2 := hgs3.cell (by omega) (by omega) hbx2
  replace hg2 := hg2.trans hgs3
  clear hc2
  have hA := hRA.sls
  obtain ⟨aA, cA, rfl⟩ := hRA.form
  clear hRA
  go_wp2_with fail
  refine (termList_c (w.heap.size + 1) n k2x _ _ _ ar w3 (by omega) (by omega) hdr (by omega) (by omega) hc3 hsv2).mono ?_; rintro e w4 ⟨vB, lB, k3x, rfl, hRB, hlB, hjB, hk1k3x, hk2k3x, hc4, hgs4⟩
  have hzw4 : w3.heap.size ≤ w4.heap.size := hgs4.size
  replace hsv2 := hsv2.chg hgs4 (by omega)
  replace hA := hA.chg hgs4 (by omega)
  replace hbx7 := hgs4.cell (by omega) (by omega) hbx7
  have hfq := hfx2
  replace hfx2 := (World.frozen?_of_block (w := w3) (w' := w4) (a := ⟨w.heap.size, 0, none⟩) (hgs4.block w.heap.size (by omega) (by omega))).trans hfq
  clear hfq
  replace hbx2 := hgs4.cell (by omega) (by omega) hbx2
  replace hg2 := hg2.trans hgs4
  clear hc3
  have hbrB := hRB.block
  obtain ⟨aB, cB, rfl⟩ := hRB.form
  by_cases hA0 : 0 < lA.length
  · have hdA : decide ((lA.length : Int) > 0) = true := by rw [decide_eq_true_iff]; omega
    go_wp2_with fail
    refine (one_c (w.heap.size + 1) n k3x _ 2 w4 (by decide) (by omega) (by omega) (by omega) hc4).mono ?_; rintro e w5 ⟨q, k4x, rfl, hk1k4x, hk2k4x, hc5, hgs5⟩
    have hzw5 : w4.heap.size ≤ w5.heap.size := hgs5.size
    replace hsv2 := hsv2.chg hgs5 (by omega)
    replace hA := hA.chg hgs5 (by omega)
    replace hbx7 := hgs5.cell (by omega) (by omega) hbx7
    have hfq := hfx2
    replace hfx2 := (World.frozen?_of_block (w := w4) (w' := w5) (a := ⟨w.heap.size, 0, none⟩) (hgs5.block w.heap.size (by omega) (by omega))).trans hfq
    clear hfq
    replace hbx2 := hgs5.cell (by omega) (by omega) hbx2
    replace hg2 := hg2.trans hgs5
    clear hc4
    replace hRB := hRB.cur (by omega) hgs5
    cases q with
    | true =>
      obtain ⟨bb, off, p, e1, hbb, hc0, hp⟩ := hA.at (Bel.rfl' _) 0 hA0
      rw [Nat.add_zero] at hc0
      subst e1
      have hp1000 := hjA 0
      generalize lA.getD 0 [] = t0 at *
      obtain ⟨ap, cp, rfl⟩ := hp.form
      have hBe := Bel.alloc0 w5 (.cells #[.slice ap t0.length cp] 24)
      have hs6 : (w5.alloc (.cells #[.slice ap t0.length cp] 24)).heap.size = w5.heap.size + 1 := by simp
      obtain ⟨us, ho5, hul, hsn⟩ := ((hRB.base (show w2.heap.size ≤ w3.heap.size by omega)).bel hBe).own
      have HS := Lib.hid hsn
      clear hsn hRB
      go_wp2_with (at_builtin; refine wpList_append_own_at _ rfl _ _ 36 rfl w2.heap.size 24 i1 (.slice none 0 0) 1 24 Tryd.underlying36 hi1 hy0 hy1 hy2 rfl (by decide) _ _ _ rfl ho5 _ _ _ [.slice ap t0.length cp] rfl rfl (news_oneV _ _ _) (one_slice _ _ _) (by unfold maxLen; omega) (by omega) (by omega) ?_; intro v' w6 hown' hgrow _ hat; have hR6 := HS.out w6 v' _ t0 w2.heap.size w3.heap.size (hp.below hBe) (Nat.le_refl _) (by omega) (fun g hgb => .inr (hbrB g hgb).1) hown' hgrow hat; have hq6 : Chg w3.heap.size (w6.heap.size + 1) (w5.alloc (.cells #[.slice ap t0.length cp] 24)) w6 := ⟨hgrow.os, hgrow.tape, hgrow.output, hgrow.size, fun i hi ho => hgrow.block i hi (fun e => by have := (hbrB i e.symm).1; have := hgrow.size; omega)⟩; have hqq := (Chg.of_bel (lo := w3.heap.size) (hi := w6.heap.size + 1) hBe).trans hq6; have hz6 : w5.heap.size ≤ w6.heap.size := hqq.size; replace hsv2 := hsv2.chg hqq (by omega); replace hA := hA.chg hqq (by omega); replace hbx2 := hqq.cell (by omega) (by omega) hbx2; have hfq := hfx2; replace hfx2 := (World.frozen?_of_block (w := w5) (w' := w6) (a := ⟨w.heap.size, 0, none⟩) (hqq.block w.heap.size (by omega) (by omega))).trans hfq; replace hbx7 := hqq.cell (by omega) (by omega) hbx7; replace hg2 := hg2.news hqq (by omega); clear hfq hc5 hown' hgrow hat ho5 hBe hq6 hqq hc0 hp HS; have hB := hR6.sls; have hl6 : (lB ++ [t0]).length = lB.length + 1 := (by simp); have hj6 := len_snoc hjB hp1000; obtain ⟨aB6, cB6, rfl⟩ := hR6.form; clear hR6)
      have hbF : (w6.setCell ⟨w.heap.size, 0, none⟩ (.slice sa ar.length sc)).cell? ⟨w.heap.size, 0, none⟩ = some (.slice sa ar.length sc) := World.cell?_setCell_same _ _ _ hbx2
      have hsv2F := (hsv2.set (p := ⟨w.heap.size, 0, none⟩) (.inl (by simp; omega)) (.slice sa ar.length sc)).mono (show w.heap.size ≤ _ by omega) (show _ ≤ (w6.setCell ⟨w.heap.size, 0, none⟩ (.slice sa ar.length sc)).heap.size by first | (simp; done) | (simp; omega))
      have hAF := (hA.set (p := ⟨w.heap.size, 0, none⟩) (.inl (by simp; omega)) (.slice sa ar.length sc)).mono (show w.heap.size ≤ _ by omega) (show _ ≤ (w6.setCell ⟨w.heap.size, 0, none⟩ (.slice sa ar.length sc)).heap.size by first | (simp; done) | (simp; omega))
      have hBF := (hB.set (p := ⟨w.heap.size, 0, none⟩) (.inl (by simp; omega)) (.slice sa ar.length sc)).mono (show w.heap.size ≤ _ by omega) (show _ ≤ (w6.setCell ⟨w.heap.size, 0, none⟩ (.slice sa ar.length sc)).heap.size by first | (simp; done) | (simp; omega))
      have hgF := (hg2.bel hB2 (by omega)).setCell (p := ⟨w.heap.size, 0, none⟩) (Nat.le_refl _) (.slice sa ar.length sc)
      clear hg2 hB2 
      go_wp2_with fail
      exact bodyPost_ret (v := .tuple #[.agg #[.slice sa ar.length sc], .slice (some ⟨bb, off, none⟩) lA.length cA, .slice aB6 (lB ++ [t0]).length cB6]) (by simp [results, Tryd.results24, go_sem, hbF]) rfl ⟨_, _, _, ar, _, _, rfl, hdr, hsv2F, hAF, by omega, hjA, hBF, by omega, hj6, hgF⟩
    | false =>
      have hB := hRB.sls
      clear hRB
      have hbF : (w5.setCell ⟨w.heap.size, 0, none⟩ (.slice sa ar.length sc)).cell? ⟨w.heap.size, 0, none⟩ = some (.slice sa ar.length sc) := World.cell?_setCell_same _ _ _ hbx2
      have hsv2F := (hsv2.set (p := ⟨w.heap.size, 0, none⟩) (.inl (by simp; omega)) (.slice sa ar.length sc)).mono (show w.heap.size ≤ _ by omega) (show _ ≤ (w5.setCell ⟨w.heap.size, 0, none⟩ (.slice sa ar.length sc)).heap.size by first | (simp; done) | (simp; omega))
      have hAF := (hA.set (p := ⟨w.heap.size, 0, none⟩) (.inl (by simp; omega)) (.slice sa ar.length sc)).mono (show w.heap.size ≤ _ by omega) (show _ ≤ (w5.setCell ⟨w.heap.size, 0, none⟩ (.slice sa ar.length sc)).heap.size by first | (simp; done) | (simp; omega))
      have hBF := (hB.set (p := ⟨w.heap.size, 0, none⟩) (.inl (by simp; omega)) (.slice sa ar.length sc)).mono (show w.heap.size ≤ _ by omega) (show _ ≤ (w5.setCell ⟨w.heap.size, 0, none⟩ (.slice sa ar.length sc)).heap.size by first | (simp; done) | (simp; omega))
      have hgF := (hg2.bel hB2 (by omega)).setCell (p := ⟨w.heap.size, 0, none⟩) (Nat.le_refl _) (.slice sa ar.length sc)
      clear hg2 hB2 hc5
      go_wp2_with fail
      exact bodyPost_ret (v := .tuple #[.agg #[.slice sa ar.length sc], .slice aA lA.length cA, .slice aB lB.length cB]) (by simp [results, Tryd.results24, go_sem, hbF]) rfl ⟨_, _, _, ar, _, _, rfl, hdr, hsv2F, hAF, by omega, hjA, hBF, by omega, hjB, hgF⟩
  · have hdA : decide ((lA.length : Int) > 0) = false := by rw [decide_eq_false_iff_not]; omega
    have hB := hRB.sls
    clear hRB
    have hbF : (w4.setCell ⟨w.heap.size, 0, none⟩ (.slice sa ar.length sc)).cell? ⟨w.heap.size, 0, none⟩ = some (.slice sa ar.length sc) := World.cell?_setCell_same _ _ _ hbx2
    have hsv2F := (hsv2.set (p := ⟨w.heap.size, 0, none⟩) (.inl (by simp; omega)) (.slice sa ar.length sc)).mono (show w.heap.size ≤ _ by omega) (show _ ≤ (w4.setCell ⟨w.heap.size, 0, none⟩ (.slice sa ar.length sc)).heap.size by first | (simp; done) | (simp; omega))
    have hAF := (hA.set (p := ⟨w.heap.size, 0, none⟩) (.inl (by simp; omega)) (.slice sa ar.length sc)).mono (show w.heap.size ≤ _ by omega) (show _ ≤ (w4.setCell ⟨w.heap.size, 0, none⟩ (.slice sa ar.length sc)).heap.size by first | (simp; done) | (simp; omega))
    have hBF := (hB.set (p := ⟨w.heap.size, 0, none⟩) (.inl (by simp; omega)) (.slice sa ar.length sc)).mono (show w.heap.size ≤ _ by omega) (show _ ≤ (w4.setCell ⟨w.heap.size, 0, none⟩ (.slice sa ar.length sc)).heap.size by first | (simp; done) | (simp; omega))
    have hgF := (hg2.bel hB2 (by omega)).setCell (p := ⟨w.heap.size, 0, none⟩) (Nat.le_refl _) (.slice sa ar.length sc)
    clear hg2 hB2 hc4
    go_wp2_with fail
    exact bodyPost_ret (v := .tuple #[.agg #[.slice sa ar.length sc], .slice aA lA.length cA, .slice aB lB.length cB]) (by simp [results, Tryd.results24, go_sem, hbF]) rfl ⟨_, _, _, ar, _, _, rfl, hdr, hsv2F, hAF, by omega, hjA, hBF, by omega, hjB, hgF⟩
end Go.Proofs.YtkbgglejhdodoaaDoor
end
section
/- The draws of chapter 3: lists of terms, falling lists, signs. -/
namespace Go.Proofs.YtkbgglejhdodoaaDoor
open Go.RowKit

set_option maxRecDepth 100000 in
set_option maxHeartbeats 1000000 in
theorem drawIsFalling_c (n : Nat) (v : Value) (w : World) (hn : n ≤ 1048576) (hv : SlB w.heap.size w v n) :
    Calls Tryd.prog 28 #[v] w (RetDLe w) := by
  obtain ⟨ad, cap, rfl, hcap, hr⟩ := hv
  have hv : SlB w.heap.size w (.slice ad n cap) n := ⟨ad, cap, rfl, hcap, hr⟩
  have hB1 := Bel.alloc0 w (.cells #[.slice none 0 0] 26)
  have hs1 : (w.alloc (.cells #[.slice none 0 0] 26)).heap.size = w.heap.size + 1 := by simp
  have hC := Cur.new (T := 68) (w := w.alloc (.cells #[.slice none 0 0] 26)) (v := .slice ad n cap) (n := n) (by
    obtain ⟨ad', cap', e, hc, hr'⟩ := hv.chg (Chg.of_bel (lo := w.heap.size) (hi := w.heap.size) hB1) (Nat.le_refl _)
    exact ⟨ad', cap', e, hc, fun hp => by obtain ⟨b, off, e1, e2, e3⟩ := hr' hp; exact ⟨b, off, e1, by omega, e3⟩⟩)
  rw [hs1] at hC
  have hB2 := hB1.step (Bel.alloc0 (w.alloc (.cells #[.slice none 0 0] 26)) (.cells #[.slice ad n cap, .int .i64 0, .int .u64 0] 68))
  have hbx : ((w.alloc (.cells #[.slice none 0 0] 26)).alloc (.cells #[.slice ad n cap, .int .i64 0, .int .u64 0] 68)).cell? ⟨w.heap.size, 0, none⟩ = some (.slice none 0 0) := (Bel.alloc0 _ _).at (by simp) (by rw [World.cell?_alloc_new w]; rfl)
  have hfx : ((w.alloc (.cells #[.slice none 0 0] 26)).alloc (.cells #[.slice ad n cap, .int .i64 0, .int .u64 0] 68)).frozen? ⟨w.heap.size, 0, none⟩ = false := by simp [go_sem]; try rfl
  have HS := Lib.hid (sign_c (w.heap.size + 1) n 0 _ (by omega) (by omega) hC)
  go_enter Tryd.func28, Tryd.ntmps28
  go_wp2_with fail
  refine HS.out.mono ?_; rintro e w1 ⟨sv, ar, k1, rfl, hdr, hsv, hk1, hk2, hc1, hg1⟩
  obtain ⟨sa, sc, rfl⟩ := hsv.form
  have hW0 : ((w.alloc (.cells #[.slice none 0 0] 26)).alloc (.cells #[.slice ad n cap, .int .i64 0, .int .u64 0] 68)).heap.size = w.heap.size + 1 + 1 := by simp
  generalize ((w.alloc (.cells #[.slice none 0 0] 26)).alloc (.cells #[.slice ad n cap, .int .i64 0, .int .u64 0] 68)) = W0 at *
  have hsz1 : W0.heap.size ≤ w1.heap.size := hg1.size
  rw [hW0] at hsv
  have hbx1 := hg1.cell (by omega) (by omega) hbx
  have hfx1 : w1.frozen? ⟨w.heap.size, 0, none⟩ = false := (World.frozen?_of_block (w := W0) (w' := w1) (a := ⟨w.heap.size, 0, none⟩) (hg1.block w.heap.size (by omega) (by omega))).trans hfx
  have hB3 := Bel.alloc0 w1 (.cells #[.slice sa ar.length sc] 26)
  have hs2 : (w1.alloc (.cells #[.slice sa ar.length sc] 26)).heap.size = w1.heap.size + 1 := by simp
  have hbx7 : (w1.alloc (.cells #[.slice sa ar.length sc] 26)).cell? ⟨w1.heap.size, 0, none⟩ = some (.slice sa ar.length sc) := by rw [World.cell?_alloc_new w1]; rfl
  have hbx2 := hB3.at (by omega) hbx1
  have hfx2 := (World.frozen?_of_block (w := w1) (a := ⟨w.heap.size, 0, none⟩) (hB3.block w.heap.size (by omega))).trans hfx1
  have hc2 := hc1.below hB3
  have hsv2 := hsv.below hB3
  have hg2 := hg1.trans (Chg.of_bel (lo := w.heap.size + 1) (hi := w.heap.size + 1 + 1) hB3)
  generalize hw2 : w1.alloc (.cells #[.slice sa ar.length sc] 26) = w2 at *
  clear hc1 hg1 hbx1 hfx1 hB3 hsv hbx hfx HS hC hB1
  have hal := drawn_len hdr
  obtain ⟨i1, hi1, hy0, hy1, hy2⟩ := info_parts Tryd.info24
  go_wp2_with fail
  refine (term_z (w.heap.size + 1) n 4 1 k1 _ _ _ _ _ ar w2 (by decide) (by decide) (by omega) (by omega) (by omega) hdr (by omega) (by omega) (by omega) hc2 hsv2).mono ?_; rintro e w3 ⟨aT, mT, cT, tT, k2x, rfl, hrowT, hlT0, hlT, hseqT, hk1k2x, hk2k2x, hc3, hgs3⟩
  have hzw3 : w2.heap.size ≤ w3.heap.size := hgs3.size
  replace hsv2 := hsv2.chg hgs3 (by omega)
  replace hbx7 := hgs3.cell (by omega) (by omega) hbx7
  have hfq := hfx2
  replace hfx2 := (World.frozen?_of_block (w := w2) (w' := w3) (a := ⟨w.heap.size, 0, none⟩) (hgs3.block w.heap.size (by omega) (by omega))).trans hfq
  clear hfq
  replace hbx2 := hgs3.cell (by omega) (by omega) hbx2
  replace hg2 := hg2.trans hgs3
  clear hc2
  have hmT := row_len hrowT
  subst hmT
  have htT := tl_le 4 (by omega)
  have hsT := (OwnI.of_row hrowT).sl
  have hBl := Bel.alloc0 w3 (.cells #[.slice aT tT.length cT] 24)
  have hs4 : (w3.alloc (.cells #[.slice aT tT.length cT] 24)).heap.size = w3.heap.size + 1 := by simp
  have hR0 : RowS (w3.alloc (.cells #[.slice aT tT.length cT] 24)) w2.heap.size (.slice (some ⟨w3.heap.size, 0, none⟩) 1 1) [tT] := by
    refine ⟨[.slice aT tT.length cT], World.ownsRow_lit w3 #[.slice aT tT.length cT] 1 (by omega) (by unfold maxLen; omega) rfl, rfl, fun j u hj => ?_⟩
    have hj0 : j = 0 := by have := (List.getElem?_eq_some_iff.1 hj).1; simp at this; omega
    subst hj0
    simp at hj
    subst hj
    exact ⟨w2.heap.size, w3.heap.size, hsT.below hBl, Nat.le_refl _, by omega, fun g hg => by simp [Value.ownBlock] at hg; omega⟩
  replace hsv2 := hsv2.below hBl
  replace hbx7 := hBl.at (by omega) hbx7
  replace hbx2 := hBl.at (by omega) hbx2
  have hfq := hfx2
  replace hfx2 := (World.frozen?_of_block (w := w3) (a := ⟨w.heap.size, 0, none⟩) (hBl.block w.heap.size (by omega))).trans hfq
  replace hg2 := hg2.trans (Chg.of_bel (lo := w.heap.size + 1) (hi := w.heap.size + 1 + 1) hBl)
  have hcl := hc3.below hBl
  clear hfq hc3 hrowT hsT hseqT
  have hz4 := hBl.size
  go_wp2_with fail
  generalize hw4 : w3.alloc (.cells #[.slice aT tT.length cT] 24) = w4 at *
  clear hBl hw4
  go_wp2_with fail
  refine (pick_c (w.heap.size + 1) n k2x _ 4 w4 (by decide) (by omega) (by omega) (by omega) hcl).mono ?_; rintro e w5 ⟨x, k3x, rfl, hpx, hk1k3x, hk2k3x, hc5, hgs5⟩
  have hzw5 : w4.heap.size ≤ w5.heap.size := hgs5.size
  replace hsv2 := hsv2.chg hgs5 (by omega)
  replace hbx7 := hgs5.cell (by omega) (by omega) hbx7
  have hfq := hfx2
  replace hfx2 := (World.frozen?_of_block (w := w4) (w' := w5) (a := ⟨w.heap.size, 0, none⟩) (hgs5.block w.heap.size (by omega) (by omega))).trans hfq
  clear hfq
  replace hbx2 := hgs5.cell (by omega) (by omega) hbx2
  replace hg2 := hg2.trans hgs5
  clear hcl
  replace hR0 := hR0.cur (by omega) hgs5
  obtain ⟨lv0, hlv0⟩ : ∃ lv0, lv0 = Value.slice (some ⟨w3.heap.size, 0, none⟩) 1 1 := ⟨_, rfl⟩
  have hj0 : ∀ q, (([tT] : List (List Int)).getD q []).length ≤ 1000 := fun q => by
    cases q with
    | zero => simpa using (by omega : tT.length ≤ 1000)
    | succ q => simp
  go_wp2_with fail
  go_loopw [6, 7] (fun lv i wr => ∃ (j : Nat) (xss : List (List Int)), j ≤ 4 ∧ i = .int .i64 j ∧ RowS wr w2.heap.size lv xss ∧ 1 ≤ xss.length ∧ xss.length + j ≤ 5 ∧ (∀ q, (xss.getD q []).length ≤ 1000) ∧ Cur (w.heap.size + 1) n k3x wr ∧ wr.cell? ⟨w1.heap.size, 0, none⟩ = some (.slice sa ar.length sc) ∧ wr.cell? ⟨w.heap.size, 0, none⟩ = some (.slice none 0 0) ∧ wr.frozen? ⟨w.heap.size, 0, none⟩ = false ∧ SlI (w.heap.size + 1 + 1) w1.heap.size wr (.slice sa ar.length sc) ar ∧ w5.heap.size ≤ wr.heap.size ∧ Chg (w.heap.size + 1) (w.heap.size + 1 + 1) W0 wr) (fun _ i _ => (intOf i).toNat)
  case atStart => exact ⟨x, [tT], by omega, rfl, hR0, by simp, by simp; omega, hj0, hc5, hbx7, hbx2, hfx2, hsv2, Nat.le_refl _, hg2⟩
  case round =>
    clear hR0 hc5 hbx7 hbx2 hfx2 hsv2 hg2 hj0
    obtain ⟨j, xss, hj, rfl, hR, hx1, hxl, hxj, hc, hbx7, hbx2, hfx2, hsv2, hzr, hg2⟩ := hrel
    by_cases hlt : 0 < j
    · have HW := Lib.hid (IntWalk.i64_in ((j : Int) - 1) (by omega))
      obtain ⟨m, hm⟩ : ∃ m, xss.length = m + 1 := ⟨xss.length - 1, by omega⟩
      have hbr := hR.block
      obtain ⟨la, lc, rfl⟩ := hR.form
      obtain ⟨bb, off, p, e1, hbb, hc0, hp⟩ := hR.sls.at (Bel.rfl' _) m (by omega)
      subst e1
      have hp1000 := hxj m
      generalize xss.getD m [] = t at *
      obtain ⟨ap, cp, rfl⟩ := hp.form
      have hw8 := IntWalk.i64_in ((m : Int) + 1 - 1) (by omega)
      have hw7 := IntWalk.i64_in (m : Int) (by omega)
      have hi0 : (0 : Int) ≤ m := by omega
      have hi1' : (m : Int) < (m : Int) + 1 := by omega
      have hpl := partAns_len1000 ar t 1
      have HP := Lib.hid (fun (w' : World) (hq : Bel wr w') => sPartAt_t (i := 1) (by omega) (hsv2.below hq) (by omega) (hp.below hq) (by decide) (by decide))
      generalize partAns ar t 1 = u at *
      generalize askOk ar t 1 = ok at *
      rw [hm]
      cases ok with
      | false =>
        go_wp2_with fail
        go_region_held3 (fun w' => w'.cell? ⟨w1.heap.size, 0, none⟩ = some (.slice sa ar.length sc) ∧ w'.cell? ⟨bb, off + m, none⟩ = some (.slice ap t.length cp))
          (first | exact ⟨hbx7, hc0⟩ | exact hx | fail)
          (first | (go_at_call 44; refine (HP.out _ (Bel.drew0 wr)).mono ?_; rintro e w7 ⟨aU, mU, cU, rfl, oU, hb7⟩; have hx := And.intro (hb7.of_drew.at (World.block_lt_of_cell? _ ⟨_, _, none⟩ hbx7) hbx7) (hb7.of_drew.at (World.block_lt_of_cell? _ ⟨_, _, none⟩ hc0) hc0)) | fail)
        have hbn := hb7.of_drew
        have hR7 := hR.bel hbn
        replace hc := hc.below hbn
        replace hsv2 := hsv2.below hbn
        replace hbx2 := hbn.at (by omega) hbx2
        have hfq := hfx2
        replace hfx2 := (World.frozen?_of_block (w := wr) (w' := w7) (a := ⟨w.heap.size, 0, none⟩) (hbn.block w.heap.size (by omega))).trans hfq
        have hg7 := hg2.trans (Chg.of_bel (lo := w.heap.size + 1) (hi := w.heap.size + 1 + 1) hbn)
        have hz7 := hbn.size
        have hbx77 := hbn.at (by omega) hbx7
        clear hR hbx7 hg2 hb7 hbn hfq oU hx hc0 hp
        have hw18 := HW.out
        go_wp2_with fail
        clear hw18
        rw [← hm]
        exact ⟨⟨j - 1, xss, by omega, by go_num, hR7, hx1, by omega, hxj, hc, hbx77, hbx2, hfx2, hsv2, by omega, hg7⟩, by simp [intOf]; omega⟩
      | true =>
        go_wp2_with fail
        go_region_held3 (fun w' => w'.cell? ⟨w1.heap.size, 0, none⟩ = some (.slice sa ar.length sc) ∧ w'.cell? ⟨bb, off + m, none⟩ = some (.slice ap t.length cp))
          (first | exact ⟨hbx7, hc0⟩ | exact hx | fail)
          (first | (go_at_call 44; refine (HP.out _ (Bel.drew0 wr)).mono ?_; rintro e w7 ⟨aU, mU, cU, rfl, oU, hb7⟩; have hx := And.intro (hb7.of_drew.at (World.block_lt_of_cell? _ ⟨_, _, none⟩ hbx7) hbx7) (hb7.of_drew.at (World.block_lt_of_cell? _ ⟨_, _, none⟩ hc0) hc0)) | fail)
        have hbn := hb7.of_drew
        have hmU := slI_kk oU.sl
        subst hmU
        have hz7 := hbn.size
        have hBe := Bel.alloc0 w7 (.cells #[.slice aU u.length cU] 24)
        have hs7 : (w7.alloc (.cells #[.slice aU u.length cU] 24)).heap.size = w7.heap.size + 1 := by simp
        obtain ⟨us, ho5, hul, hsn⟩ := (hR.bel (hbn.step hBe)).own
        rw [hm] at ho5 hsn hul
        have HS := Lib.hid hsn
        clear hsn
        have hbt := hbn.step hBe
        have hul' : (us.length : Int) = (m : Int) + 1 := by omega
        go_wp2_with (at_builtin; refine wpList_append_own_at _ rfl _ _ 36 rfl w2.heap.size 24 i1 (.slice none 0 0) 1 24 Tryd.underlying36 hi1 hy0 hy1 hy2 rfl (by decide) _ _ _ rfl ho5 _ _ _ [.slice aU u.length cU] rfl rfl (news_oneV _ _ _) (one_slice _ _ _) (by unfold maxLen; omega) (by omega) (by omega) ?_; intro v' w8 hown' hgrow _ hat)
        have hR8 := HS.out w8 v' _ u wr.heap.size w7.heap.size ((oU.sl.mono (show wr.heap.size ≤ wr.drew.heap.size from Nat.le_refl _) (Nat.le_refl _)).below hBe) (by omega) (by omega) (fun g hgb => .inl (hbr g hgb).2) hown' hgrow hat
        have hq8 : Chg w2.heap.size (w8.heap.size + 1) (w7.alloc (.cells #[.slice aU u.length cU] 24)) w8 := ⟨hgrow.os, hgrow.tape, hgrow.output, hgrow.size, fun i hi ho => hgrow.block i hi (fun e => by have := (hbr i e.symm).1; have := hgrow.size; omega)⟩
        have hqq := (Chg.of_bel (lo := w2.heap.size) (hi := w8.heap.size + 1) hbt).trans hq8
        have hz8 := hqq.size
        replace hc := hc.chg hqq (by omega)
        replace hsv2 := hsv2.chg hqq (by omega)
        replace hbx2 := hqq.cell (by omega) (by omega) hbx2
        have hfq := hfx2
        replace hfx2 := (World.frozen?_of_block (w := wr) (w' := w8) (a := ⟨w.heap.size, 0, none⟩) (hqq.block w.heap.size (by omega) (by omega))).trans hfq
        have hg8 := hg2.news hqq (by omega)
        have hbx78 := hqq.cell (by omega) (by omega) hbx7
        have hl8 : (xss ++ [u]).length = xss.length + 1 := by simp
        have hj8 := len_snoc hxj hpl
        clear hR hbx7 hg2 hb7 hbn hbt hqq hq8 hBe hfq oU hx hc0 hp hown' hgrow hat ho5 HS
        have hw18 := HW.out
        go_wp2_with fail
        clear hw18
        exact ⟨⟨j - 1, xss ++ [u], by omega, by go_num, hR8, by omega, by omega, hj8, hc, hbx78, hbx2, hfx2, hsv2, by omega, hg8⟩, by simp [intOf]; omega⟩
    · obtain rfl : j = 0 := by omega
      have hbr := hR.block
      obtain ⟨la, lc, rfl⟩ := hR.form
      go_wp2_with fail
      refine (one_c (w.heap.size + 1) n k3x _ 4 wr (by decide) (by omega) (by omega) (by omega) hc).mono ?_; rintro e w10 ⟨q, k4x, rfl, hk1k4x, hk2k4x, hc10, hgs10⟩
      have hzw10 : wr.heap.size ≤ w10.heap.size := hgs10.size
      replace hsv2 := hsv2.chg hgs10 (by omega)
      replace hbx7 := hgs10.cell (by omega) (by omega) hbx7
      have hfq := hfx2
      replace hfx2 := (World.frozen?_of_block (w := wr) (w' := w10) (a := ⟨w.heap.size, 0, none⟩) (hgs10.block w.heap.size (by omega) (by omega))).trans hfq
      clear hfq
      replace hbx2 := hgs10.cell (by omega) (by omega) hbx2
      replace hg2 := hg2.trans hgs10
      clear hc
      replace hR := hR.cur (by omega) hgs10
      cases q with
      | true =>
        go_wp2_with fail
        refine (anyTerm_c (w.heap.size + 1) n k4x _ _ _ ar w10 (by omega) (by omega) hdr (by omega) hc10 hsv2).mono ?_; rintro e w11 ⟨aQ, cQ, tQ, k5x, rfl, hQ, hlQ, hk1k5x, hk2k5x, hc11, hgs11⟩
        have hzw11 : w10.heap.size ≤ w11.heap.size := hgs11.size
        replace hsv2 := hsv2.chg hgs11 (by omega)
        replace hbx7 := hgs11.cell (by omega) (by omega) hbx7
        have hfq := hfx2
        replace hfx2 := (World.frozen?_of_block (w := w10) (w' := w11) (a := ⟨w.heap.size, 0, none⟩) (hgs11.block w.heap.size (by omega) (by omega))).trans hfq
        clear hfq
        replace hbx2 := hgs11.cell (by omega) (by omega) hbx2
        replace hg2 := hg2.trans hgs11
        clear hc10
        have hbr2 : ∀ g, (Value.slice la xss.length lc).ownBlock = some g → w2.heap.size ≤ g ∧ g < wr.heap.size := hbr
        replace hR := hR.cur (by omega) hgs11
        have hBe := Bel.alloc0 w11 (.cells #[.slice aQ tQ.length cQ] 24)
        have hs6 : (w11.alloc (.cells #[.slice aQ tQ.length cQ] 24)).heap.size = w11.heap.size + 1 := by simp
        obtain ⟨us, ho5, hul, hsn⟩ := (hR.bel hBe).own
        have HS := Lib.hid hsn
        clear hsn hR
        go_wp2_with (at_builtin; refine wpList_append_own_at _ rfl _ _ 36 rfl w2.heap.size 24 i1 (.slice none 0 0) 1 24 Tryd.underlying36 hi1 hy0 hy1 hy2 rfl (by decide) _ _ _ rfl ho5 _ _ _ [.slice aQ tQ.length cQ] rfl rfl (news_oneV _ _ _) (one_slice _ _ _) (by unfold maxLen; omega) (by omega) (by omega) ?_; intro v' w13 hown' hgrow _ hat; have hR6 := HS.out w13 v' _ tQ w10.heap.size w11.heap.size (hQ.below hBe) (by omega) (by omega) (fun g hgb => .inl (by have := (hbr2 g hgb).2; omega)) hown' hgrow hat; have hq6 : Chg w2.heap.size (w13.heap.size + 1) (w11.alloc (.cells #[.slice aQ tQ.length cQ] 24)) w13 := ⟨hgrow.os, hgrow.tape, hgrow.output, hgrow.size, fun i hi ho => hgrow.block i hi (fun e => by have := (hbr2 i e.symm).1; have := hgrow.size; omega)⟩; have hqq := (Chg.of_bel (lo := w2.heap.size) (hi := w13.heap.size + 1) hBe).trans hq6; have hz6 : w11.heap.size ≤ w13.heap.size := hqq.size; replace hsv2 := hsv2.chg hqq (by omega); replace hbx2 := hqq.cell (by omega) (by omega) hbx2; have hfq := hfx2; replace hfx2 := (World.frozen?_of_block (w := w11) (w' := w13) (a := ⟨w.heap.size, 0, none⟩) (hqq.block w.heap.size (by omega) (by omega))).trans hfq; replace hbx7 := hqq.cell (by omega) (by omega) hbx7; replace hg2 := hg2.news hqq (by omega); clear hfq hc11 hown' hgrow hat ho5 hBe hq6 hqq HS hQ; have hL := hR6.sls; have hl6 : (xss ++ [tQ]).length = xss.length + 1 := (by simp); have hj6 := len_snoc hxj hlQ; obtain ⟨aB6, cB6, rfl⟩ := hR6.form; clear hR6)
        have hbF : (w13.setCell ⟨w.heap.size, 0, none⟩ (.slice sa ar.length sc)).cell? ⟨w.heap.size, 0, none⟩ = some (.slice sa ar.length sc) := World.cell?_setCell_same _ _ _ hbx2
        have hsv2F := (hsv2.set (p := ⟨w.heap.size, 0, none⟩) (.inl (by simp; omega)) (.slice sa ar.length sc)).mono (show w.heap.size ≤ _ by omega) (show _ ≤ (w13.setCell ⟨w.heap.size, 0, none⟩ (.slice sa ar.length sc)).heap.size by first | (simp; done) | (simp; omega))
        have hLF := (hL.set (p := ⟨w.heap.size, 0, none⟩) (.inl (by simp; omega)) (.slice sa ar.length sc)).mono (show w.heap.size ≤ _ by omega) (show _ ≤ (w13.setCell ⟨w.heap.size, 0, none⟩ (.slice sa ar.length sc)).heap.size by first | (simp; done) | (simp; omega))
        have hgF := (hg2.bel hB2 (by omega)).setCell (p := ⟨w.heap.size, 0, none⟩) (Nat.le_refl _) (.slice sa ar.length sc)
        clear hg2 hB2 
        go_wp2_with fail
        exact bodyPost_ret (v := .tuple #[.agg #[.slice sa ar.length sc], .slice aB6 (xss ++ [tQ]).length cB6]) (by simp [results, Tryd.results28, go_sem, hbF]) rfl ⟨_, _, ar, _, rfl, hdr, hsv2F, hLF, by omega, hj6, hgF⟩
      | false =>
        have hL := hR.sls
        clear hR
        have hbF : (w10.setCell ⟨w.heap.size, 0, none⟩ (.slice sa ar.length sc)).cell? ⟨w.heap.size, 0, none⟩ = some (.slice sa ar.length sc) := World.cell?_setCell_same _ _ _ hbx2
        have hsv2F := (hsv2.set (p := ⟨w.heap.size, 0, none⟩) (.inl (by simp; omega)) (.slice sa ar.length sc)).mono (show w.heap.size ≤ _ by omega) (show _ ≤ (w10.setCell ⟨w.heap.size, 0, none⟩ (.slice sa ar.length sc)).heap.size by first | (simp; done) | (simp; omega))
        have hLF := (hL.set (p := ⟨w.heap.size, 0, none⟩) (.inl (by simp; omega)) (.slice sa ar.length sc)).mono (show w.heap.size ≤ _ by omega) (show _ ≤ (w10.setCell ⟨w.heap.size, 0, none⟩ (.slice sa ar.length sc)).heap.size by first | (simp; done) | (simp; omega))
        have hgF := (hg2.bel hB2 (by omega)).setCell (p := ⟨w.heap.size, 0, none⟩) (Nat.le_refl _) (.slice sa ar.length sc)
        clear hg2 hB2 hc10
        go_wp2_with fail
        exact bodyPost_ret (v := .tuple #[.agg #[.slice sa ar.length sc], .slice la xss.length lc]) (by simp [results, Tryd.results28, go_sem, hbF]) rfl ⟨_, _, ar, _, rfl, hdr, hsv2F, hLF, by omega, hxj, hgF⟩
end Go.Proofs.YtkbgglejhdodoaaDoor
end
section
/- The draws of chapter 3: signs. -/
namespace Go.Proofs.YtkbgglejhdodoaaDoor
open Go.RowKit

set_option maxRecDepth 100000 in
set_option maxHeartbeats 1000000 in
theorem drawGoodSign_e (n : Nat) (v : Value) (w : World) (hn : n ≤ 1048576) (hv : SlB w.heap.size w v n) :
    Calls Tryd.prog 74 #[v] w (RetDGe w) := by
  obtain ⟨ad, cap, rfl, hcap, hr⟩ := hv
  have hv : SlB w.heap.size w (.slice ad n cap) n := ⟨ad, cap, rfl, hcap, hr⟩
  have hB1 := Bel.alloc0 w (.cells #[.slice none 0 0] 26)
  have hs1 : (w.alloc (.cells #[.slice none 0 0] 26)).heap.size = w.heap.size + 1 := by simp
  have hC := Cur.new (T := 68) (w := w.alloc (.cells #[.slice none 0 0] 26)) (v := .slice ad n cap) (n := n) (by
    obtain ⟨ad', cap', e, hc, hr'⟩ := hv.chg (Chg.of_bel (lo := w.heap.size) (hi := w.heap.size) hB1) (Nat.le_refl _)
    exact ⟨ad', cap', e, hc, fun hp => by obtain ⟨b, off, e1, e2, e3⟩ := hr' hp; exact ⟨b, off, e1, by omega, e3⟩⟩)
  rw [hs1] at hC
  have hB2 := hB1.step (Bel.alloc0 (w.alloc (.cells #[.slice none 0 0] 26)) (.cells #[.slice ad n cap, .int .i64 0, .int .u64 0] 68))
  have hbx : ((w.alloc (.cells #[.slice none 0 0] 26)).alloc (.cells #[.slice ad n cap, .int .i64 0, .int .u64 0] 68)).cell? ⟨w.heap.size, 0, none⟩ = some (.slice none 0 0) := (Bel.alloc0 _ _).at (by simp) (by rw [World.cell?_alloc_new w]; rfl)
  have hfx : ((w.alloc (.cells #[.slice none 0 0] 26)).alloc (.cells #[.slice ad n cap, .int .i64 0, .int .u64 0] 68)).frozen? ⟨w.heap.size, 0, none⟩ = false := by simp [go_sem]; try rfl
  have HS := Lib.hid (sign_c (w.heap.size + 1) n 0 _ (by omega) (by omega) hC)
  go_enter Tryd.func74, Tryd.ntmps74
  go_wp2_with fail
  refine HS.out.mono ?_; rintro e w1 ⟨sv, ar, k1, rfl, hdr, hsv, hk1, hk2, hc1, hg1⟩
  obtain ⟨sa, sc, rfl⟩ := hsv.form
  have hW0 : ((w.alloc (.cells #[.slice none 0 0] 26)).alloc (.cells #[.slice ad n cap, .int .i64 0, .int .u64 0] 68)).heap.size = w.heap.size + 1 + 1 := by simp
  generalize ((w.alloc (.cells #[.slice none 0 0] 26)).alloc (.cells #[.slice ad n cap, .int .i64 0, .int .u64 0] 68)) = W0 at *
  have hsz1 : W0.heap.size ≤ w1.heap.size := hg1.size
  rw [hW0] at hsv
  have hbx1 := hg1.cell (by omega) (by omega) hbx
  have hfx1 : w1.frozen? ⟨w.heap.size, 0, none⟩ = false := (World.frozen?_of_block (w := W0) (w' := w1) (a := ⟨w.heap.size, 0, none⟩) (hg1.block w.heap.size (by omega) (by omega))).trans hfx
  have hbF : (w1.setCell ⟨w.heap.size, 0, none⟩ (.slice sa ar.length sc)).cell? ⟨w.heap.size, 0, none⟩ = some (.slice sa ar.length sc) := World.cell?_setCell_same _ _ _ hbx1
  have hsF := (hsv.set (p := ⟨w.heap.size, 0, none⟩) (.inl (by simp; omega)) (.slice sa ar.length sc)).mono (show w.heap.size ≤ _ by omega) (show _ ≤ (w1.setCell ⟨w.heap.size, 0, none⟩ (.slice sa ar.length sc)).heap.size by simp)
  have hgF := (hg1.bel hB2 (by omega)).setCell (p := ⟨w.heap.size, 0, none⟩) (Nat.le_refl _) (.slice sa ar.length sc)
  clear hsv hg1 hB2 hc1 hbx hfx HS hC hB1
  go_wp2_with fail
  exact bodyPost_ret (v := .agg #[.slice sa ar.length sc]) (by simp [results, Tryd.results74, go_sem, hbF]) rfl ⟨_, ar, rfl, hdr, hsF, hgF⟩

set_option maxRecDepth 100000 in
set_option maxHeartbeats 400000 in
theorem drawLeastGround_c (n : Nat) (v : Value) (w : World) (hn : n ≤ 1048576) (hv : SlB w.heap.size w v n) :
    Calls Tryd.prog 31 #[v] w (RetDGe w) := by
  have hB1 := Bel.alloc0 w (.cells #[.slice none 0 0] 26)
  have hs1 : (w.alloc (.cells #[.slice none 0 0] 26)).heap.size = w.heap.size + 1 := by simp
  have hbx : (w.alloc (.cells #[.slice none 0 0] 26)).cell? ⟨w.heap.size, 0, none⟩ = some (.slice none 0 0) := by rw [World.cell?_alloc_new w]; rfl
  have hfx : (w.alloc (.cells #[.slice none 0 0] 26)).frozen? ⟨w.heap.size, 0, none⟩ = false := by simp [go_sem]; try rfl
  have hv1 : SlB (w.alloc (.cells #[.slice none 0 0] 26)).heap.size (w.alloc (.cells #[.slice none 0 0] 26)) v n := by
    obtain ⟨ad', cap', e, hc, hr'⟩ := hv.chg (Chg.of_bel (lo := w.heap.size) (hi := w.heap.size) hB1) (Nat.le_refl _)
    exact ⟨ad', cap', e, hc, fun hp => by obtain ⟨b, off, e1, e2, e3⟩ := hr' hp; exact ⟨b, off, e1, by omega, e3⟩⟩
  obtain ⟨ad, cap, rfl, -, -⟩ := hv
  go_enter Tryd.func31, Tryd.ntmps31
  go_wp2_with fail
  refine (drawGoodSign_e n _ _ hn hv1).mono ?_; rintro e w1 ⟨sv, ar, rfl, hdr, hs, hb1⟩
  obtain ⟨sa, sc, rfl⟩ := hs.form
  have hbx1 := hb1.at (by omega) hbx
  have hfx1 := (World.frozen?_of_block (w' := w1) (a := ⟨w.heap.size, 0, none⟩) (hb1.block w.heap.size (by omega))).trans hfx
  have hz1 := hb1.size
  have hbF : (w1.setCell ⟨w.heap.size, 0, none⟩ (.slice sa ar.length sc)).cell? ⟨w.heap.size, 0, none⟩ = some (.slice sa ar.length sc) := World.cell?_setCell_same _ _ _ hbx1
  have hsF := (hs.set (p := ⟨w.heap.size, 0, none⟩) (.inl (by simp)) (.slice sa ar.length sc)).mono (show w.heap.size ≤ _ by omega) (show _ ≤ (w1.setCell ⟨w.heap.size, 0, none⟩ (.slice sa ar.length sc)).heap.size by simp)
  have hgF := (hB1.step hb1).setCell (p := ⟨w.heap.size, 0, none⟩) (Nat.le_refl _) (.slice sa ar.length sc)
  clear hs hB1 hb1
  go_wp2_with fail
  exact bodyPost_ret (v := .agg #[.slice sa ar.length sc]) (by simp [results, Tryd.results31, go_sem, hbF]) rfl ⟨_, ar, rfl, hdr, hsF, hgF⟩
end Go.Proofs.YtkbgglejhdodoaaDoor
end
section
/- Contracts with the answers named, and what the answers say: chapter 3's law on lists. -/
namespace Go.Proofs.YtkbgglejhdodoaaDoor
open Go.RowKit

theorem iCompareLists_o {l h l' h' l2 h2 : Nat} {v x y : Value} {ar : List Int} {a b : List (List Int)} {w : World} (hT : Tab w) (ha : ar.length ≤ 1048576) (hv : SlI l h w v ar) (hsa : short a) (hx : SlS l' h' w x a) (hsb : short b) (hy : SlS l2 h2 w y b) {n : Int} {k : Bool} (e1 : lisAns ar a b = n) (e2 : lisOk ar a b = k) :
    Calls Tryd.prog 25 #[.agg #[v], x, y] w (RetV w (.tuple #[.int .i64 n, .bool k])) := by subst e1 e2; exact iCompareLists_t hT ha hv hsa hx hsb hy
theorem sCompareLists_o {l h l' h' l2 h2 : Nat} {v x y : Value} {ar : List Int} {a b : List (List Int)} {w : World} (ha : ar.length ≤ 1048576) (hv : SlI l h w v ar) (hsa : short a) (hx : SlS l' h' w x a) (hsb : short b) (hy : SlS l2 h2 w y b) {n : Int} {k : Bool} (e1 : lisAns ar a b = n) (e2 : lisOk ar a b = k) :
    Calls Tryd.prog 26 #[.agg #[v], x, y] w (RetV w (.tuple #[.int .i64 n, .bool k])) := by subst e1 e2; exact sCompareLists_t ha hv hsa hx hsb hy
theorem iIsFalling_o {l h l' h' : Nat} {v x : Value} {ar : List Int} {b : List (List Int)} {w : World} (hT : Tab w) (ha : ar.length ≤ 1048576) (hv : SlI l h w v ar) (hsb : short b) (hx : SlS l' h' w x b) {f k : Bool} (e1 : falAns ar b = f) (e2 : goodTerms ar b 8 = k) :
    Calls Tryd.prog 29 #[.agg #[v], x] w (RetV w (.tuple #[.bool f, .bool k])) := by subst e1 e2; exact iIsFalling_t hT ha hv hsb hx
theorem sIsFalling_o {l h l' h' : Nat} {v x : Value} {ar : List Int} {b : List (List Int)} {w : World} (ha : ar.length ≤ 1048576) (hv : SlI l h w v ar) (hsb : short b) (hx : SlS l' h' w x b) {f k : Bool} (e1 : falAns ar b = f) (e2 : goodTerms ar b 8 = k) :
    Calls Tryd.prog 30 #[.agg #[v], x] w (RetV w (.tuple #[.bool f, .bool k])) := by subst e1 e2; exact sIsFalling_t ha hv hsb hx
theorem iLeastGround_o {l h : Nat} {v : Value} {ar : List Int} {w : World} (ha : ar.length ≤ 1048576) (hv : SlI l h w v ar) {t : List Int} {k : Bool} (e1 : leastAns ar = t) (e2 : goodSign ar = k) :
    Calls Tryd.prog 27 #[.agg #[v]] w (RetIB w t k) := by subst e1 e2; exact iLeastGround_t ha hv
theorem sLeastGround_o {l h : Nat} {v : Value} {ar : List Int} {w : World} (ha : ar.length ≤ 1048576) (hv : SlI l h w v ar) {t : List Int} {k : Bool} (e1 : leastAns ar = t) (e2 : goodSign ar = k) :
    Calls Tryd.prog 32 #[.agg #[v]] w (RetIB w t k) := by subst e1 e2; exact sLeastGround_t ha hv

theorem lisOk_swap (ar : List Int) (a b : List (List Int)) : lisOk ar b a = lisOk ar a b := by unfold lisOk; rw [Bool.and_comm]
theorem short_of {xss : List (List Int)} {n : Nat} (h : xss.length ≤ n) (hn : n ≤ 1000) (hj : ∀ j, (xss.getD j []).length ≤ 1000) : short xss := ⟨by omega, fun j _ => by have := hj j; omega⟩
theorem cmpL_cases (a b : List (List Int)) : cmpL a b = 0 ∨ cmpL a b = 1 ∨ cmpL a b = -1 ∨ cmpL a b = 2 := by
  unfold cmpL
  split
  · exact .inl rfl
  · split
    · exact .inr (.inl rfl)
    · split
      · exact .inr (.inr (.inl rfl))
      · exact .inr (.inr (.inr rfl))
/-- The two answers, one the other way round. -/
theorem lis_pair {ar : List Int} {a b : List (List Int)} (h : lisOk ar a b = true) :
    (lisAns ar a b = 1 ∧ lisAns ar b a = -1) ∨ (lisAns ar a b = 0 ∧ lisAns ar b a = 0) ∨ (lisAns ar a b = -1 ∧ lisAns ar b a = 1) ∨ (lisAns ar a b = 2 ∧ lisAns ar b a = 2) := by
  rw [lis_yes h, lis_yes ((lisOk_swap ar a b).trans h)]
  have h1 := cmpL_flip a b
  have h2 := cmpL_flip b a
  have h3 := cmpL_cases a b
  have h4 := cmpL_cases b a
  omega
theorem ok_least {ar : List Int} (h : goodSign ar = true) : okTerm ar [0] = true := by
  obtain ⟨h1, h2⟩ := sign_first h
  have hs : okSym ar 0 = true := by simp [okSym, inB]; omega
  rw [okTerm_iff]
  refine ⟨by simp, by simp, ?_⟩
  unfold endOf
  rw [List.drop_zero, endGo_cons, if_pos hs]
  have : arOf ar 0 = 0 := by
    unfold arOf
    rw [if_neg (by omega)]
    show (ar.getD 0 0).toNat = 0
    rw [h2]; rfl
  rw [this]
  rfl
theorem goods_snoc {ar : List Int} {l : List (List Int)} (h : goodTerms ar l 8 = true) (hl : l.length < 8) : goodTerms ar (l ++ [leastAns ar]) 8 = true := by
  obtain ⟨h1, h2, h3⟩ := goodTerms_iff.1 h
  refine goodTerms_iff.2 ⟨h1, by simp; omega, fun t ht => ?_⟩
  rcases List.mem_append.1 ht with ht | ht
  · exact h3 t ht
  · simp at ht; subst ht; rw [least_yes h1]; exact ok_least h1
/-- The same element behind both changes nothing. -/
theorem lis_snoc {ar : List Int} {a b : List (List Int)} (h : lisOk ar a b = true) (ha : a.length < 8) (hb : b.length < 8) :
    lisOk ar (a ++ [leastAns ar]) (b ++ [leastAns ar]) = true ∧ lisAns ar (a ++ [leastAns ar]) (b ++ [leastAns ar]) = lisAns ar a b ∧ goodSign ar = true := by
  obtain ⟨h1, h2⟩ := lisOk_iff.1 h
  have h3 := lisOk_iff.2 ⟨goods_snoc h1 ha, goods_snoc h2 hb⟩
  exact ⟨h3, by rw [lis_yes h3, lis_yes h, cmpL_snoc], (goodTerms_iff.1 h1).1⟩
/-- Falling terms fall from each to each. -/
theorem fal_cmp {ar : List Int} {l : List (List Int)} (h : falAns ar l = true) (j i : Nat) (hj : j < i) (hi : i < l.length) :
    cmpOk ar (l.getD j []) (l.getD i []) = true ∧ cmpAns ar (l.getD j []) (l.getD i []) = 1 := by
  unfold falAns at h
  rw [Bool.and_eq_true] at h
  obtain ⟨h1, h2⟩ := h
  have hs := (goodTerms_iff.1 h1).1
  have hok : cmpOk ar (l.getD j []) (l.getD i []) = true := cmpOk_iff.2 ⟨goodTerm_iff.2 ⟨hs, goodTerms_get h1 j (by omega)⟩, goodTerm_iff.2 ⟨hs, goodTerms_get h1 i hi⟩⟩
  exact ⟨hok, by rw [cmp_yes hok]; exact cmpT_one.2 (falls_pair h2 i j hj hi)⟩
end Go.Proofs.YtkbgglejhdodoaaDoor
end
section
/- Builds and appends of one statement in whatever order: two lists, each copied, with one element put behind. -/
namespace Go.Proofs.YtkbgglejhdodoaaDoor.Rg
open Go.RowKit

def Rows4 (w0 : World) (tag : Nat → Nat) (r : Nat → Option (Value × List Value)) (w : World) : Prop :=
  Bel w0 w ∧ ∀ t v xs, t < 4 → r t = some (v, xs) → OwnT w0.heap.size tag t 24 w v xs
def upd (r : Nat → Option (Value × List Value)) (t : Nat) (p : Option (Value × List Value)) : Nat → Option (Value × List Value) := fun i => if i = t then p else r i
theorem upd_same (r t p) : upd r t p t = p := if_pos rfl
theorem upd_ne {r t p i} (h : i ≠ t) : upd r t p i = r i := if_neg h
theorem Rows4.new {w0 w w1 : World} {tag r} (h : Rows4 w0 tag r w) (t : Nat) {v : Value} {xs : List Value} (hown : w1.ownsRow w.heap.size 24 1 v xs.length xs) (hb : Bel w w1) : ∃ tag', Rows4 w0 tag' (upd r t (some (v, xs))) w1 := by
  obtain ⟨tag', h1, h2⟩ := tag_new t hown hb h.1.size
  refine ⟨tag', h.1.step hb, fun t' v' xs' ht e => ?_⟩
  by_cases e1 : t' = t
  · subst e1
    rw [upd_same] at e
    simp only [Option.some.injEq, Prod.mk.injEq] at e
    obtain ⟨rfl, rfl⟩ := e
    exact h1
  · rw [upd_ne e1] at e
    exact h2 _ _ _ _ (h.2 t' v' xs' ht e)
theorem Rows4.app {w0 w w1 : World} {tag r} (h : Rows4 w0 tag r w) {t : Nat} (ht : t < 4) {v v' : Value} {xs ys : List Value} (e : r t = some (v, xs)) (hown : w1.ownsRow w0.heap.size 24 1 v' ys.length ys) (hg : w.grownBy w1 v.ownBlock) (hat : v'.ownBlock = v.ownBlock ∨ v'.ownBlock = some w.heap.size) : ∃ tag', Rows4 w0 tag' (upd r t (some (v', ys))) w1 := by
  have ho := h.2 t v xs ht e
  obtain ⟨tag', h1, h2⟩ := tag_append ho hown hg hat
  refine ⟨tag', h.1.grown hg (fun k hk => own_base ho.1 k hk), fun t' v2 xs' ht' e' => ?_⟩
  by_cases e1 : t' = t
  · subst e1
    rw [upd_same] at e'
    simp only [Option.some.injEq, Prod.mk.injEq] at e'
    obtain ⟨rfl, rfl⟩ := e'
    exact h1
  · rw [upd_ne e1] at e'
    exact h2 _ _ _ _ e1 (h.2 t' v2 xs' ht' e')

theorem World.grownBy.refl' (w : World) (row : Option Nat) : w.grownBy w row := ⟨rfl, rfl, rfl, Nat.le_refl _, fun _ _ _ => rfl⟩
theorem own_zero (w : World) : (w.alloc (.cells #[] 24)).ownsRow w.heap.size 24 1 (.slice (some ⟨w.heap.size, 0, none⟩) 0 0) ([] : List Value).length [] := World.ownsRow_made w #[] 0 (Nat.le_refl _) (by decide) rfl
theorem own_one (w : World) (u : Value) : (w.alloc (.cells #[u] 24)).ownsRow w.heap.size 24 1 (.slice (some ⟨w.heap.size, 0, none⟩) 1 1) [u].length [u] :=
  ⟨rfl, .inr ⟨w.heap.size, 1, #[u], rfl, Nat.le_refl _, heap_alloc_new w _, Nat.le_refl _, by decide, rfl, rfl⟩⟩
theorem wanted_plain {o : Oper} {ops : Array Oper} {a : Act} (hgd : o.guard = none) : Region.wanted o (yielded ops a.tmps) = true := by simp [Region.wanted, hgd]
theorem step_build0 {ops : Array Oper} {o : Oper} {a : Act} {K : Act → World → Prop} {Q : Exit → Act → World → Prop} {E : Prop} {w : World} (hgd : o.guard = none) (ho : o.op = .buildSlice 36 0 #[])
    (h : K (a.put o.dst (.slice (some ⟨w.heap.size, 0, none⟩) 0 0)) (w.alloc (.cells #[] 24))) : if Region.wanted o (yielded ops a.tmps) = true then Oper.wp Tryd.prog o a w K Q else E := by
  rw [if_pos (wanted_plain hgd)]
  obtain ⟨dst, op, type, pos, after, guard⟩ := o
  simp only at ho
  subst ho
  go_simp
  exact h
theorem step_build1 {ops : Array Oper} {o : Oper} {a : Act} {K : Act → World → Prop} {Q : Exit → Act → World → Prop} {E : Prop} {w : World} {g : SV} {d : Nat} (hgd : o.guard = none) (ho : o.op = .buildSlice 36 1 #[(0, .tmp d)]) (hx : a.eval (.tmp d) = encS g)
    (h : K (a.put o.dst (.slice (some ⟨w.heap.size, 0, none⟩) 1 1)) (w.alloc (.cells #[encS g] 24))) : if Region.wanted o (yielded ops a.tmps) = true then Oper.wp Tryd.prog o a w K Q else E := by
  rw [if_pos (wanted_plain hgd)]
  obtain ⟨dst, op, type, pos, after, guard⟩ := o
  simp only at ho
  subst ho
  obtain ⟨g1, g2, g3⟩ := g
  have hx' : a.tmps[d]?.getD undef = .slice g1 g2 g3 := by have h2 : a.tmps.getD d undef = .slice g1 g2 g3 := hx; simpa using h2
  simp only [encS] at h
  go_simp
  exact h
theorem step_app {ops : Array Oper} {o : Oper} {a : Act} {K : Act → World → Prop} {Q : Exit → Act → World → Prop} {E : Prop} {w : World} (hgd : o.guard = none) (s x : Operand)
    (ho : o.op = .call { callee := .builtin .append, args := #[s, x], argTypes := #[36, 36] }) (base : Nat)
    {v : Value} {n : Nat} {xs : List Value} (hs : a.eval s = v) (hown : w.ownsRow base 24 1 v n xs)
    {ad : Option Addr} {c : Nat} {news : List Value} (hx : a.eval x = .slice ad news.length c) (h0 : ad = none → news.length = 0 ∧ c = 0) (hnews : ∀ p, ad = some p → ∀ j u, news[j]? = some u → w.cell? (p.add j) = some u) (h1 : ∀ u ∈ news, u.oneCell' = true)
    (hn : n ≤ 50) (hm : news.length ≤ 50) (hbase : base ≤ w.heap.size)
    (h : ∀ v' w', w'.ownsRow base 24 1 v' (xs ++ news).length (xs ++ news) → w.grownBy w' v.ownBlock → (v'.ownBlock = v.ownBlock ∨ v'.ownBlock = some w.heap.size) → K (a.put o.dst v') w') :
    if Region.wanted o (yielded ops a.tmps) = true then Oper.wp Tryd.prog o a w K Q else E := by
  rw [if_pos (wanted_plain hgd)]
  obtain ⟨i1, hi1, hy0, hy1, hy2⟩ := info_parts Tryd.info24
  have hxl : xs.length = n := by have := hown.1; omega
  cases ad with
  | none =>
    obtain ⟨e1, rfl⟩ := h0 rfl
    obtain rfl := List.length_eq_zero_iff.1 e1
    have hrun := run_append_owned_none (P := Tryd.prog) (w := w) base 36 o.type 24 i1 1 Tryd.underlying36 hi1 v n xs hown
    have hk := h v w (by rw [List.append_nil, hxl]; exact hown) (World.grownBy.refl' _ _) (.inl rfl)
    unfold Oper.wp execOp
    simp only [List.length_nil] at hx
    simp only [ho, resolve, invoke, builtin, Sem.run_bind, Sem.run_pure, Result.andThen_ok, List.map_toArray, List.map_cons, List.map_nil, hs, hx, hrun]
    exact hk
  | some p =>
    obtain ⟨v', w', hr, h2, h3, -, h5⟩ := run_append_own_at (P := Tryd.prog) w base 36 o.type 24 i1 (.slice none 0 0) 1 24 Tryd.underlying36 hi1 hy0 hy1 hy2 rfl (by decide) v n xs hown p news.length c news (by omega) (hnews p rfl) h1 (by unfold maxLen; omega) (by omega) hbase
    unfold Oper.wp execOp
    simp only [ho, resolve, invoke, builtin, Sem.run_bind, Sem.run_pure, Result.andThen_ok, List.map_toArray, List.map_cons, List.map_nil, hs, hx, hr]
    exact h v' w' (by rw [List.length_append, hxl]; exact h2) h3 h5


def puts (a : Act) (v1 v3 v5 v6 v7 v9 v11 v12 : Value) : Act := { a with tmps := ((((((((a.tmps.setIfInBounds 114 v1).setIfInBounds 116 v3).setIfInBounds 118 v5).setIfInBounds 119 v6).setIfInBounds 120 v7).setIfInBounds 122 v9).setIfInBounds 124 v11).setIfInBounds 125 v12) }
theorem put114 (a : Act) (v1 v3 v5 v6 v7 v9 v11 v12 u : Value) : (puts a v1 v3 v5 v6 v7 v9 v11 v12).put (some 114) u = puts a u v3 v5 v6 v7 v9 v11 v12 := by
  simp only [puts, Act.put]
  rw [Array.setIfInBounds_comm (i := 125) (j := 114) _ _ (by decide), Array.setIfInBounds_comm (i := 124) (j := 114) _ _ (by decide), Array.setIfInBounds_comm (i := 122) (j := 114) _ _ (by decide), Array.setIfInBounds_comm (i := 120) (j := 114) _ _ (by decide), Array.setIfInBounds_comm (i := 119) (j := 114) _ _ (by decide), Array.setIfInBounds_comm (i := 118) (j := 114) _ _ (by decide), Array.setIfInBounds_comm (i := 116) (j := 114) _ _ (by decide), Array.setIfInBounds_setIfInBounds]
theorem get114 {a : Act} (h : 128 ≤ a.tmps.size) (v1 v3 v5 v6 v7 v9 v11 v12 : Value) : (puts a v1 v3 v5 v6 v7 v9 v11 v12).eval (.tmp 114) = v1 := by
  unfold puts Act.eval
  simp only [Array.getD_eq_getD_getElem?, Array.getElem?_setIfInBounds, Array.size_setIfInBounds]
  simp
  rw [if_pos (by omega)]
  rfl
theorem put116 (a : Act) (v1 v3 v5 v6 v7 v9 v11 v12 u : Value) : (puts a v1 v3 v5 v6 v7 v9 v11 v12).put (some 116) u = puts a v1 u v5 v6 v7 v9 v11 v12 := by
  simp only [puts, Act.put]
  rw [Array.setIfInBounds_comm (i := 125) (j := 116) _ _ (by decide), Array.setIfInBounds_comm (i := 124) (j := 116) _ _ (by decide), Array.setIfInBounds_comm (i := 122) (j := 116) _ _ (by decide), Array.setIfInBounds_comm (i := 120) (j := 116) _ _ (by decide), Array.setIfInBounds_comm (i := 119) (j := 116) _ _ (by decide), Array.setIfInBounds_comm (i := 118) (j := 116) _ _ (by decide), Array.setIfInBounds_setIfInBounds]
theorem get116 {a : Act} (h : 128 ≤ a.tmps.size) (v1 v3 v5 v6 v7 v9 v11 v12 : Value) : (puts a v1 v3 v5 v6 v7 v9 v11 v12).eval (.tmp 116) = v3 := by
  unfold puts Act.eval
  simp only [Array.getD_eq_getD_getElem?, Array.getElem?_setIfInBounds, Array.size_setIfInBounds]
  simp
  rw [if_pos (by omega)]
  rfl
theorem put118 (a : Act) (v1 v3 v5 v6 v7 v9 v11 v12 u : Value) : (puts a v1 v3 v5 v6 v7 v9 v11 v12).put (some 118) u = puts a v1 v3 u v6 v7 v9 v11 v12 := by
  simp only [puts, Act.put]
  rw [Array.setIfInBounds_comm (i := 125) (j := 118) _ _ (by decide), Array.setIfInBounds_comm (i := 124) (j := 118) _ _ (by decide), Array.setIfInBounds_comm (i := 122) (j := 118) _ _ (by decide), Array.setIfInBounds_comm (i := 120) (j := 118) _ _ (by decide), Array.setIfInBounds_comm (i := 119) (j := 118) _ _ (by decide), Array.setIfInBounds_setIfInBounds]
theorem get118 {a : Act} (h : 128 ≤ a.tmps.size) (v1 v3 v5 v6 v7 v9 v11 v12 : Value) : (puts a v1 v3 v5 v6 v7 v9 v11 v12).eval (.tmp 118) = v5 := by
  unfold puts Act.eval
  simp only [Array.getD_eq_getD_getElem?, Array.getElem?_setIfInBounds, Array.size_setIfInBounds]
  simp
  rw [if_pos (by omega)]
  rfl
theorem put119 (a : Act) (v1 v3 v5 v6 v7 v9 v11 v12 u : Value) : (puts a v1 v3 v5 v6 v7 v9 v11 v12).put (some 119) u = puts a v1 v3 v5 u v7 v9 v11 v12 := by
  simp only [puts, Act.put]
  rw [Array.setIfInBounds_comm (i := 125) (j := 119) _ _ (by decide), Array.setIfInBounds_comm (i := 124) (j := 119) _ _ (by decide), Array.setIfInBounds_comm (i := 122) (j := 119) _ _ (by decide), Array.setIfInBounds_comm (i := 120) (j := 119) _ _ (by decide), Array.setIfInBounds_setIfInBounds]
theorem get119 {a : Act} (h : 128 ≤ a.tmps.size) (v1 v3 v5 v6 v7 v9 v11 v12 : Value) : (puts a v1 v3 v5 v6 v7 v9 v11 v12).eval (.tmp 119) = v6 := by
  unfold puts Act.eval
  simp only [Array.getD_eq_getD_getElem?, Array.getElem?_setIfInBounds, Array.size_setIfInBounds]
  simp
  rw [if_pos (by omega)]
  rfl
theorem put120 (a : Act) (v1 v3 v5 v6 v7 v9 v11 v12 u : Value) : (puts a v1 v3 v5 v6 v7 v9 v11 v12).put (some 120) u = puts a v1 v3 v5 v6 u v9 v11 v12 := by
  simp only [puts, Act.put]
  rw [Array.setIfInBounds_comm (i := 125) (j := 120) _ _ (by decide), Array.setIfInBounds_comm (i := 124) (j := 120) _ _ (by decide), Array.setIfInBounds_comm (i := 122) (j := 120) _ _ (by decide), Array.setIfInBounds_setIfInBounds]
theorem get120 {a : Act} (h : 128 ≤ a.tmps.size) (v1 v3 v5 v6 v7 v9 v11 v12 : Value) : (puts a v1 v3 v5 v6 v7 v9 v11 v12).eval (.tmp 120) = v7 := by
  unfold puts Act.eval
  simp only [Array.getD_eq_getD_getElem?, Array.getElem?_setIfInBounds, Array.size_setIfInBounds]
  simp
  rw [if_pos (by omega)]
  rfl
theorem put122 (a : Act) (v1 v3 v5 v6 v7 v9 v11 v12 u : Value) : (puts a v1 v3 v5 v6 v7 v9 v11 v12).put (some 122) u = puts a v1 v3 v5 v6 v7 u v11 v12 := by
  simp only [puts, Act.put]
  rw [Array.setIfInBounds_comm (i := 125) (j := 122) _ _ (by decide), Array.setIfInBounds_comm (i := 124) (j := 122) _ _ (by decide), Array.setIfInBounds_setIfInBounds]
theorem get122 {a : Act} (h : 128 ≤ a.tmps.size) (v1 v3 v5 v6 v7 v9 v11 v12 : Value) : (puts a v1 v3 v5 v6 v7 v9 v11 v12).eval (.tmp 122) = v9 := by
  unfold puts Act.eval
  simp only [Array.getD_eq_getD_getElem?, Array.getElem?_setIfInBounds, Array.size_setIfInBounds]
  simp
  rw [if_pos (by omega)]
  rfl
theorem put124 (a : Act) (v1 v3 v5 v6 v7 v9 v11 v12 u : Value) : (puts a v1 v3 v5 v6 v7 v9 v11 v12).put (some 124) u = puts a v1 v3 v5 v6 v7 v9 u v12 := by
  simp only [puts, Act.put]
  rw [Array.setIfInBounds_comm (i := 125) (j := 124) _ _ (by decide), Array.setIfInBounds_setIfInBounds]
theorem get124 {a : Act} (h : 128 ≤ a.tmps.size) (v1 v3 v5 v6 v7 v9 v11 v12 : Value) : (puts a v1 v3 v5 v6 v7 v9 v11 v12).eval (.tmp 124) = v11 := by
  unfold puts Act.eval
  simp only [Array.getD_eq_getD_getElem?, Array.getElem?_setIfInBounds, Array.size_setIfInBounds]
  simp
  rw [if_pos (by omega)]
  rfl
theorem put125 (a : Act) (v1 v3 v5 v6 v7 v9 v11 v12 u : Value) : (puts a v1 v3 v5 v6 v7 v9 v11 v12).put (some 125) u = puts a v1 v3 v5 v6 v7 v9 v11 u := by
  simp only [puts, Act.put]
  rw [Array.setIfInBounds_setIfInBounds]
theorem get125 {a : Act} (h : 128 ≤ a.tmps.size) (v1 v3 v5 v6 v7 v9 v11 v12 : Value) : (puts a v1 v3 v5 v6 v7 v9 v11 v12).eval (.tmp 125) = v12 := by
  unfold puts Act.eval
  simp only [Array.getD_eq_getD_getElem?, Array.getElem?_setIfInBounds, Array.size_setIfInBounds]
  simp
  rw [if_pos (by omega)]
  rfl
theorem far115 (a : Act) (v1 v3 v5 v6 v7 v9 v11 v12 : Value) : (puts a v1 v3 v5 v6 v7 v9 v11 v12).eval (.tmp 115) = a.eval (.tmp 115) := by
  unfold puts Act.eval
  simp only [Array.getD_eq_getD_getElem?, Array.getElem?_setIfInBounds, Array.size_setIfInBounds]
  simp
theorem far117 (a : Act) (v1 v3 v5 v6 v7 v9 v11 v12 : Value) : (puts a v1 v3 v5 v6 v7 v9 v11 v12).eval (.tmp 117) = a.eval (.tmp 117) := by
  unfold puts Act.eval
  simp only [Array.getD_eq_getD_getElem?, Array.getElem?_setIfInBounds, Array.size_setIfInBounds]
  simp
theorem far121 (a : Act) (v1 v3 v5 v6 v7 v9 v11 v12 : Value) : (puts a v1 v3 v5 v6 v7 v9 v11 v12).eval (.tmp 121) = a.eval (.tmp 121) := by
  unfold puts Act.eval
  simp only [Array.getD_eq_getD_getElem?, Array.getElem?_setIfInBounds, Array.size_setIfInBounds]
  simp
theorem far123 (a : Act) (v1 v3 v5 v6 v7 v9 v11 v12 : Value) : (puts a v1 v3 v5 v6 v7 v9 v11 v12).eval (.tmp 123) = a.eval (.tmp 123) := by
  unfold puts Act.eval
  simp only [Array.getD_eq_getD_getElem?, Array.getElem?_setIfInBounds, Array.size_setIfInBounds]
  simp
def regTable : List (Array Bool × List Nat) := [
  (#[true, false, true, false, true, false, false, false, true, false, true, false, false, false, false, false, false, false, false], [1, 5, 7, 11]),
  (#[true, true, true, false, true, false, false, false, true, false, true, false, false, false, false, false, false, false, false], [3, 5, 7, 11]),
  (#[true, false, true, false, true, true, false, false, true, false, true, false, false, false, false, false, false, false, false], [1, 7, 11]),
  (#[true, false, true, false, true, false, false, true, true, false, true, false, false, false, false, false, false, false, false], [1, 5, 11]),
  (#[true, false, true, false, true, false, false, false, true, false, true, true, false, false, false, false, false, false, false], [1, 5, 7]),
  (#[true, true, true, false, true, true, false, false, true, false, true, false, false, false, false, false, false, false, false], [3, 7, 11]),
  (#[true, true, true, false, true, false, false, true, true, false, true, false, false, false, false, false, false, false, false], [3, 5, 11]),
  (#[true, true, true, false, true, false, false, false, true, false, true, true, false, false, false, false, false, false, false], [3, 5, 7]),
  (#[true, false, true, false, true, true, false, true, true, false, true, false, false, false, false, false, false, false, false], [1, 11]),
  (#[true, false, true, false, true, true, false, false, true, false, true, true, false, false, false, false, false, false, false], [1, 7]),
  (#[true, false, true, false, true, false, false, true, true, false, true, true, false, false, false, false, false, false, false], [1, 5]),
  (#[true, true, true, false, true, true, false, true, true, false, true, false, false, false, false, false, false, false, false], [3, 11]),
  (#[true, true, true, false, true, true, false, false, true, false, true, true, false, false, false, false, false, false, false], [3, 7]),
  (#[true, true, true, false, true, false, false, true, true, false, true, true, false, false, false, false, false, false, false], [3, 5]),
  (#[true, false, true, false, true, true, false, true, true, false, true, true, false, false, false, false, false, false, false], [1]),
  (#[true, true, true, false, true, true, false, true, true, false, true, true, false, false, false, false, false, false, false], [3]),
  (#[true, true, true, true, true, false, false, false, true, false, true, false, false, false, false, false, false, false, false], [5, 7, 11]),
  (#[true, true, true, true, true, true, false, false, true, false, true, false, false, false, false, false, false, false, false], [6, 7, 11]),
  (#[true, true, true, true, true, false, false, true, true, false, true, false, false, false, false, false, false, false, false], [5, 11]),
  (#[true, true, true, true, true, false, false, false, true, false, true, true, false, false, false, false, false, false, false], [5, 7]),
  (#[true, true, true, true, true, true, false, true, true, false, true, false, false, false, false, false, false, false, false], [6, 11]),
  (#[true, true, true, true, true, true, false, false, true, false, true, true, false, false, false, false, false, false, false], [6, 7]),
  (#[true, true, true, true, true, false, false, true, true, false, true, true, false, false, false, false, false, false, false], [5]),
  (#[true, true, true, true, true, true, false, true, true, false, true, true, false, false, false, false, false, false, false], [6]),
  (#[true, true, true, true, true, true, true, false, true, false, true, false, false, false, false, false, false, false, false], [7, 11]),
  (#[true, true, true, true, true, true, true, true, true, false, true, false, false, false, false, false, false, false, false], [9, 11]),
  (#[true, true, true, true, true, true, true, false, true, false, true, true, false, false, false, false, false, false, false], [7]),
  (#[true, true, true, true, true, true, true, true, true, false, true, true, false, false, false, false, false, false, false], [9]),
  (#[true, true, true, true, true, true, true, true, true, true, true, false, false, false, false, false, false, false, false], [11]),
  (#[true, true, true, true, true, true, true, true, true, true, true, true, false, false, false, false, false, false, false], [12]),
  (#[true, true, true, true, true, true, true, true, true, true, true, true, true, false, false, false, false, false, false], [13])]
structure Reg (ops : Array Oper) (a0 : Act) (w0 : World) (g : SV) (za zb : List SV) : Prop where
  n : 128 ≤ a0.tmps.size
  h1 : ∃ o, ops[1]? = some o ∧ o.guard = none ∧ o.dst = some 114 ∧ o.op = .buildSlice 36 0 #[]
  h3 : ∃ o, ops[3]? = some o ∧ o.guard = none ∧ o.dst = some 116 ∧ o.op = .call { callee := .builtin .append, args := #[.tmp 114, .tmp 115], argTypes := #[36, 36] }
  h5 : ∃ o, ops[5]? = some o ∧ o.guard = none ∧ o.dst = some 118 ∧ o.op = .buildSlice 36 1 #[(0, .tmp 117)]
  h6 : ∃ o, ops[6]? = some o ∧ o.guard = none ∧ o.dst = some 119 ∧ o.op = .call { callee := .builtin .append, args := #[.tmp 116, .tmp 118], argTypes := #[36, 36] }
  h7 : ∃ o, ops[7]? = some o ∧ o.guard = none ∧ o.dst = some 120 ∧ o.op = .buildSlice 36 0 #[]
  h9 : ∃ o, ops[9]? = some o ∧ o.guard = none ∧ o.dst = some 122 ∧ o.op = .call { callee := .builtin .append, args := #[.tmp 120, .tmp 121], argTypes := #[36, 36] }
  h11 : ∃ o, ops[11]? = some o ∧ o.guard = none ∧ o.dst = some 124 ∧ o.op = .buildSlice 36 1 #[(0, .tmp 123)]
  h12 : ∃ o, ops[12]? = some o ∧ o.guard = none ∧ o.dst = some 125 ∧ o.op = .call { callee := .builtin .append, args := #[.tmp 122, .tmp 124], argTypes := #[36, 36] }
  e115 : ∃ ad c, a0.eval (.tmp 115) = .slice ad (za.map encS).length c ∧ (ad = none → (za.map encS).length = 0 ∧ c = 0) ∧ ∀ q, ad = some q → ∀ j u, (za.map encS)[j]? = some u → w0.cell? (q.add j) = some u
  e121 : ∃ ad c, a0.eval (.tmp 121) = .slice ad (zb.map encS).length c ∧ (ad = none → (zb.map encS).length = 0 ∧ c = 0) ∧ ∀ q, ad = some q → ∀ j u, (zb.map encS)[j]? = some u → w0.cell? (q.add j) = some u
  e117 : a0.eval (.tmp 117) = encS g
  e123 : a0.eval (.tmp 123) = encS g
  la : (za.map encS).length ≤ 8
  lb : (zb.map encS).length ≤ 8
  rd : (regTable.all fun c => Region.ready .any ops c.1 == c.2) = true
theorem Reg.row {ops a0 w0 g za zb} (H : Reg ops a0 w0 g za zb) (i : Nat) {c : Array Bool × List Nat} (h : regTable[i]? = some c) : Region.ready .any ops c.1 = c.2 :=
  eq_of_beq (List.all_eq_true.1 H.rd c (List.mem_of_getElem? h))
theorem cells_far {w0 w : World} (hb : Bel w0 w) {us : List Value} {ad : Option Addr} (h : ∀ q, ad = some q → ∀ j u, us[j]? = some u → w0.cell? (q.add j) = some u) : ∀ q, ad = some q → ∀ j u, us[j]? = some u → w.cell? (q.add j) = some u := fun q hq j u hj => by
  have h1 := h q hq j u hj
  exact (hb.cell (World.block_lt_of_cell? w0 _ h1)).trans h1
/-- The one element that is put behind lies in a row of its own. -/
theorem one_cells {base : Nat} {w : World} {v : Value} {u : Value} (h : w.ownsRow base 24 1 v 1 [u]) : ∃ ad c, v = .slice ad [u].length c ∧ (ad = none → [u].length = 0 ∧ c = 0) ∧ ∀ q, ad = some q → ∀ j x, [u][j]? = some x → w.cell? (q.add j) = some x := by
  have h0 := h
  rcases h.2 with ⟨rfl, e⟩ | ⟨gg, cap, cur, rfl, _⟩
  · omega
  · refine ⟨_, cap, rfl, fun e => by simp at e, fun q hq => ?_⟩
    simp only [Option.some.injEq] at hq
    subst hq
    exact h0.cells (g := gg) rfl

def RegTail (ops : Array Oper) (Q : Exit → Act → World → Prop) (S : World → Prop) (a0 : Act) (w0 : World) (g : SV) (za zb : List SV) : Prop :=
  ∀ tag v1 v3 v5 v6 v7 v9 v11 v12 w, Bel w0 w → OwnT w0.heap.size tag 0 24 w v6 (za.map encS ++ [encS g]) → OwnT w0.heap.size tag 1 24 w v12 (zb.map encS ++ [encS g]) → wpAnyH Tryd.prog .any ops Q S 6 #[true, true, true, true, true, true, true, true, true, true, true, true, true, false, false, false, false, false, false] (puts a0 v1 v3 v5 v6 v7 v9 v11 v12) w
theorem st4_1_5_7_11 {ops : Array Oper} {Q : Exit → Act → World → Prop} {S : World → Prop} {a0 : Act} {w0 : World} {g : SV} {za zb : List SV} (_H : Reg ops a0 w0 g za zb) (HK : RegTail ops Q S a0 w0 g za zb) (_hS : ∀ w, Bel w0 w → S w)
    (tag : Nat → Nat) (r : Nat → Option (Value × List Value)) (v1 v3 v5 v6 v7 v9 v11 v12 : Value) (w : World) (hR : Rows4 w0 tag r w) (e0 : r 0 = some (v6, za.map encS ++ [encS g])) (e1 : r 1 = some (v12, zb.map encS ++ [encS g])) : wpAnyH Tryd.prog .any ops Q S 6 #[true, true, true, true, true, true, true, true, true, true, true, true, true, false, false, false, false, false, false] (puts a0 v1 v3 v5 v6 v7 v9 v11 v12) w := by
  exact HK tag v1 v3 v5 v6 v7 v9 v11 v12 w hR.1 (hR.2 0 _ _ (by decide) e0) (hR.2 1 _ _ (by decide) e1)
theorem st3_1_5_7_11 {ops : Array Oper} {Q : Exit → Act → World → Prop} {S : World → Prop} {a0 : Act} {w0 : World} {g : SV} {za zb : List SV} (H : Reg ops a0 w0 g za zb) (HK : RegTail ops Q S a0 w0 g za zb) (hS : ∀ w, Bel w0 w → S w)
    (tag : Nat → Nat) (r : Nat → Option (Value × List Value)) (v1 v3 v5 v6 v7 v9 v11 v12 : Value) (w : World) (hR : Rows4 w0 tag r w) (e0 : r 0 = some (v6, za.map encS ++ [encS g])) (e1 : r 1 = some (v9, zb.map encS)) (e3 : r 3 = some (v11, [encS g])) : wpAnyH Tryd.prog .any ops Q S 7 #[true, true, true, true, true, true, true, true, true, true, true, true, false, false, false, false, false, false, false] (puts a0 v1 v3 v5 v6 v7 v9 v11 v12) w := by
  refine wpAnyH_ready (H.row 29 rfl) (by simp) ?_
  obtain ⟨o, a1, a2, a3, a4⟩ := H.h12
  refine AllReadyH.cons a1 (fun K hK => ?_) ?_
  · have hO := hR.2 1 _ _ (by decide) e1
    obtain ⟨ad, c, b1, b2, b4⟩ := one_cells (hR.2 3 _ _ (by decide) e3).1
    have b1' := (get124 H.n v1 v3 v5 v6 v7 v9 v11 v12).trans b1
    have hla := H.la
    have hlb := H.lb
    refine step_app a2 (.tmp 122) (.tmp 124) a4 w0.heap.size (get122 H.n v1 v3 v5 v6 v7 v9 v11 v12) hO.1 b1' b2 b4 (encS_one [g]) (by simp at hla hlb ⊢; try omega) (by simp at hla hlb ⊢; try omega) hR.1.size ?_
    intro v' w' hown hgrow hat
    obtain ⟨tag', hR'⟩ := hR.app (by decide) e1 hown hgrow hat
    rw [a3, put125]
    exact hK.out _ _ (hS _ hR'.1) (fun _ => st4_1_5_7_11 H HK hS tag' _ _ _ _ _ _ _ _ _ _ hR' ((upd_ne (by decide)).trans e0) (upd_same _ _ _))
  exact AllReadyH.nil
theorem st3_1_5_7 {ops : Array Oper} {Q : Exit → Act → World → Prop} {S : World → Prop} {a0 : Act} {w0 : World} {g : SV} {za zb : List SV} (H : Reg ops a0 w0 g za zb) (HK : RegTail ops Q S a0 w0 g za zb) (hS : ∀ w, Bel w0 w → S w)
    (tag : Nat → Nat) (r : Nat → Option (Value × List Value)) (v1 v3 v5 v6 v7 v9 v11 v12 : Value) (w : World) (hR : Rows4 w0 tag r w) (e0 : r 0 = some (v6, za.map encS ++ [encS g])) (e1 : r 1 = some (v9, zb.map encS)) : wpAnyH Tryd.prog .any ops Q S 8 #[true, true, true, true, true, true, true, true, true, true, true, false, false, false, false, false, false, false, false] (puts a0 v1 v3 v5 v6 v7 v9 v11 v12) w := by
  refine wpAnyH_ready (H.row 28 rfl) (by simp) ?_
  obtain ⟨o, a1, a2, a3, a4⟩ := H.h11
  refine AllReadyH.cons a1 (fun K hK => ?_) ?_
  · refine step_build1 (g := g) a2 a4 ((far123 a0 v1 v3 v5 v6 v7 v9 v11 v12).trans H.e123) ?_
    have hown := own_one w (encS g)
    obtain ⟨tag', hR'⟩ := hR.new 3 hown (Bel.alloc0 w _)
    rw [a3, put124]
    exact hK.out _ _ (hS _ hR'.1) (fun _ => st3_1_5_7_11 H HK hS tag' _ _ _ _ _ _ _ _ _ _ hR' ((upd_ne (by decide)).trans e0) ((upd_ne (by decide)).trans e1) (upd_same _ _ _))
  exact AllReadyH.nil
theorem st2_1_5_7_11 {ops : Array Oper} {Q : Exit → Act → World → Prop} {S : World → Prop} {a0 : Act} {w0 : World} {g : SV} {za zb : List SV} (H : Reg ops a0 w0 g za zb) (HK : RegTail ops Q S a0 w0 g za zb) (hS : ∀ w, Bel w0 w → S w)
    (tag : Nat → Nat) (r : Nat → Option (Value × List Value)) (v1 v3 v5 v6 v7 v9 v11 v12 : Value) (w : World) (hR : Rows4 w0 tag r w) (e0 : r 0 = some (v6, za.map encS ++ [encS g])) (e1 : r 1 = some (v7, [])) (e3 : r 3 = some (v11, [encS g])) : wpAnyH Tryd.prog .any ops Q S 8 #[true, true, true, true, true, true, true, true, true, false, true, true, false, false, false, false, false, false, false] (puts a0 v1 v3 v5 v6 v7 v9 v11 v12) w := by
  refine wpAnyH_ready (H.row 27 rfl) (by simp) ?_
  obtain ⟨o, a1, a2, a3, a4⟩ := H.h9
  refine AllReadyH.cons a1 (fun K hK => ?_) ?_
  · have hO := hR.2 1 _ _ (by decide) e1
    obtain ⟨ad, c, b1, b2, b3⟩ := H.e121
    have b4 := cells_far hR.1 b3
    have b1' := (far121 a0 v1 v3 v5 v6 v7 v9 v11 v12).trans b1
    have hla := H.la
    have hlb := H.lb
    refine step_app a2 (.tmp 120) (.tmp 121) a4 w0.heap.size (get120 H.n v1 v3 v5 v6 v7 v9 v11 v12) hO.1 b1' b2 b4 (encS_one _) (by simp at hla hlb ⊢; try omega) (by simp at hla hlb ⊢; try omega) hR.1.size ?_
    intro v' w' hown hgrow hat
    obtain ⟨tag', hR'⟩ := hR.app (by decide) e1 hown hgrow hat
    rw [a3, put122]
    exact hK.out _ _ (hS _ hR'.1) (fun _ => st3_1_5_7_11 H HK hS tag' _ _ _ _ _ _ _ _ _ _ hR' ((upd_ne (by decide)).trans e0) (upd_same _ _ _) ((upd_ne (by decide)).trans e3))
  exact AllReadyH.nil
theorem st2_1_5_11 {ops : Array Oper} {Q : Exit → Act → World → Prop} {S : World → Prop} {a0 : Act} {w0 : World} {g : SV} {za zb : List SV} (H : Reg ops a0 w0 g za zb) (HK : RegTail ops Q S a0 w0 g za zb) (hS : ∀ w, Bel w0 w → S w)
    (tag : Nat → Nat) (r : Nat → Option (Value × List Value)) (v1 v3 v5 v6 v7 v9 v11 v12 : Value) (w : World) (hR : Rows4 w0 tag r w) (e0 : r 0 = some (v6, za.map encS ++ [encS g])) (e3 : r 3 = some (v11, [encS g])) : wpAnyH Tryd.prog .any ops Q S 9 #[true, true, true, true, true, true, true, false, true, false, true, true, false, false, false, false, false, false, false] (puts a0 v1 v3 v5 v6 v7 v9 v11 v12) w := by
  refine wpAnyH_ready (H.row 26 rfl) (by simp) ?_
  obtain ⟨o, a1, a2, a3, a4⟩ := H.h7
  refine AllReadyH.cons a1 (fun K hK => ?_) ?_
  · refine step_build0 a2 a4 ?_
    have hown := own_zero w
    obtain ⟨tag', hR'⟩ := hR.new 1 hown (Bel.alloc0 w _)
    rw [a3, put120]
    exact hK.out _ _ (hS _ hR'.1) (fun _ => st2_1_5_7_11 H HK hS tag' _ _ _ _ _ _ _ _ _ _ hR' ((upd_ne (by decide)).trans e0) (upd_same _ _ _) ((upd_ne (by decide)).trans e3))
  exact AllReadyH.nil
theorem st2_1_5_7 {ops : Array Oper} {Q : Exit → Act → World → Prop} {S : World → Prop} {a0 : Act} {w0 : World} {g : SV} {za zb : List SV} (H : Reg ops a0 w0 g za zb) (HK : RegTail ops Q S a0 w0 g za zb) (hS : ∀ w, Bel w0 w → S w)
    (tag : Nat → Nat) (r : Nat → Option (Value × List Value)) (v1 v3 v5 v6 v7 v9 v11 v12 : Value) (w : World) (hR : Rows4 w0 tag r w) (e0 : r 0 = some (v6, za.map encS ++ [encS g])) (e1 : r 1 = some (v7, [])) : wpAnyH Tryd.prog .any ops Q S 9 #[true, true, true, true, true, true, true, true, true, false, true, false, false, false, false, false, false, false, false] (puts a0 v1 v3 v5 v6 v7 v9 v11 v12) w := by
  refine wpAnyH_ready (H.row 25 rfl) (by simp) ?_
  obtain ⟨o, a1, a2, a3, a4⟩ := H.h9
  refine AllReadyH.cons a1 (fun K hK => ?_) ?_
  · have hO := hR.2 1 _ _ (by decide) e1
    obtain ⟨ad, c, b1, b2, b3⟩ := H.e121
    have b4 := cells_far hR.1 b3
    have b1' := (far121 a0 v1 v3 v5 v6 v7 v9 v11 v12).trans b1
    have hla := H.la
    have hlb := H.lb
    refine step_app a2 (.tmp 120) (.tmp 121) a4 w0.heap.size (get120 H.n v1 v3 v5 v6 v7 v9 v11 v12) hO.1 b1' b2 b4 (encS_one _) (by simp at hla hlb ⊢; try omega) (by simp at hla hlb ⊢; try omega) hR.1.size ?_
    intro v' w' hown hgrow hat
    obtain ⟨tag', hR'⟩ := hR.app (by decide) e1 hown hgrow hat
    rw [a3, put122]
    exact hK.out _ _ (hS _ hR'.1) (fun _ => st3_1_5_7 H HK hS tag' _ _ _ _ _ _ _ _ _ _ hR' ((upd_ne (by decide)).trans e0) (upd_same _ _ _))
  obtain ⟨o, a1, a2, a3, a4⟩ := H.h11
  refine AllReadyH.cons a1 (fun K hK => ?_) ?_
  · refine step_build1 (g := g) a2 a4 ((far123 a0 v1 v3 v5 v6 v7 v9 v11 v12).trans H.e123) ?_
    have hown := own_one w (encS g)
    obtain ⟨tag', hR'⟩ := hR.new 3 hown (Bel.alloc0 w _)
    rw [a3, put124]
    exact hK.out _ _ (hS _ hR'.1) (fun _ => st2_1_5_7_11 H HK hS tag' _ _ _ _ _ _ _ _ _ _ hR' ((upd_ne (by decide)).trans e0) ((upd_ne (by decide)).trans e1) (upd_same _ _ _))
  exact AllReadyH.nil
theorem st2_1_5 {ops : Array Oper} {Q : Exit → Act → World → Prop} {S : World → Prop} {a0 : Act} {w0 : World} {g : SV} {za zb : List SV} (H : Reg ops a0 w0 g za zb) (HK : RegTail ops Q S a0 w0 g za zb) (hS : ∀ w, Bel w0 w → S w)
    (tag : Nat → Nat) (r : Nat → Option (Value × List Value)) (v1 v3 v5 v6 v7 v9 v11 v12 : Value) (w : World) (hR : Rows4 w0 tag r w) (e0 : r 0 = some (v6, za.map encS ++ [encS g])) : wpAnyH Tryd.prog .any ops Q S 10 #[true, true, true, true, true, true, true, false, true, false, true, false, false, false, false, false, false, false, false] (puts a0 v1 v3 v5 v6 v7 v9 v11 v12) w := by
  refine wpAnyH_ready (H.row 24 rfl) (by simp) ?_
  obtain ⟨o, a1, a2, a3, a4⟩ := H.h7
  refine AllReadyH.cons a1 (fun K hK => ?_) ?_
  · refine step_build0 a2 a4 ?_
    have hown := own_zero w
    obtain ⟨tag', hR'⟩ := hR.new 1 hown (Bel.alloc0 w _)
    rw [a3, put120]
    exact hK.out _ _ (hS _ hR'.1) (fun _ => st2_1_5_7 H HK hS tag' _ _ _ _ _ _ _ _ _ _ hR' ((upd_ne (by decide)).trans e0) (upd_same _ _ _))
  obtain ⟨o, a1, a2, a3, a4⟩ := H.h11
  refine AllReadyH.cons a1 (fun K hK => ?_) ?_
  · refine step_build1 (g := g) a2 a4 ((far123 a0 v1 v3 v5 v6 v7 v9 v11 v12).trans H.e123) ?_
    have hown := own_one w (encS g)
    obtain ⟨tag', hR'⟩ := hR.new 3 hown (Bel.alloc0 w _)
    rw [a3, put124]
    exact hK.out _ _ (hS _ hR'.1) (fun _ => st2_1_5_11 H HK hS tag' _ _ _ _ _ _ _ _ _ _ hR' ((upd_ne (by decide)).trans e0) (upd_same _ _ _))
  exact AllReadyH.nil
theorem st1_1_5_7_11 {ops : Array Oper} {Q : Exit → Act → World → Prop} {S : World → Prop} {a0 : Act} {w0 : World} {g : SV} {za zb : List SV} (H : Reg ops a0 w0 g za zb) (HK : RegTail ops Q S a0 w0 g za zb) (hS : ∀ w, Bel w0 w → S w)
    (tag : Nat → Nat) (r : Nat → Option (Value × List Value)) (v1 v3 v5 v6 v7 v9 v11 v12 : Value) (w : World) (hR : Rows4 w0 tag r w) (e0 : r 0 = some (v3, za.map encS)) (e1 : r 1 = some (v7, [])) (e2 : r 2 = some (v5, [encS g])) (e3 : r 3 = some (v11, [encS g])) : wpAnyH Tryd.prog .any ops Q S 9 #[true, true, true, true, true, true, false, true, true, false, true, true, false, false, false, false, false, false, false] (puts a0 v1 v3 v5 v6 v7 v9 v11 v12) w := by
  refine wpAnyH_ready (H.row 23 rfl) (by simp) ?_
  obtain ⟨o, a1, a2, a3, a4⟩ := H.h6
  refine AllReadyH.cons a1 (fun K hK => ?_) ?_
  · have hO := hR.2 0 _ _ (by decide) e0
    obtain ⟨ad, c, b1, b2, b4⟩ := one_cells (hR.2 2 _ _ (by decide) e2).1
    have b1' := (get118 H.n v1 v3 v5 v6 v7 v9 v11 v12).trans b1
    have hla := H.la
    have hlb := H.lb
    refine step_app a2 (.tmp 116) (.tmp 118) a4 w0.heap.size (get116 H.n v1 v3 v5 v6 v7 v9 v11 v12) hO.1 b1' b2 b4 (encS_one [g]) (by simp at hla hlb ⊢; try omega) (by simp at hla hlb ⊢; try omega) hR.1.size ?_
    intro v' w' hown hgrow hat
    obtain ⟨tag', hR'⟩ := hR.app (by decide) e0 hown hgrow hat
    rw [a3, put119]
    exact hK.out _ _ (hS _ hR'.1) (fun _ => st2_1_5_7_11 H HK hS tag' _ _ _ _ _ _ _ _ _ _ hR' (upd_same _ _ _) ((upd_ne (by decide)).trans e1) ((upd_ne (by decide)).trans e3))
  exact AllReadyH.nil
theorem st1_1_7_11 {ops : Array Oper} {Q : Exit → Act → World → Prop} {S : World → Prop} {a0 : Act} {w0 : World} {g : SV} {za zb : List SV} (H : Reg ops a0 w0 g za zb) (HK : RegTail ops Q S a0 w0 g za zb) (hS : ∀ w, Bel w0 w → S w)
    (tag : Nat → Nat) (r : Nat → Option (Value × List Value)) (v1 v3 v5 v6 v7 v9 v11 v12 : Value) (w : World) (hR : Rows4 w0 tag r w) (e0 : r 0 = some (v3, za.map encS)) (e1 : r 1 = some (v7, [])) (e3 : r 3 = some (v11, [encS g])) : wpAnyH Tryd.prog .any ops Q S 10 #[true, true, true, true, true, false, false, true, true, false, true, true, false, false, false, false, false, false, false] (puts a0 v1 v3 v5 v6 v7 v9 v11 v12) w := by
  refine wpAnyH_ready (H.row 22 rfl) (by simp) ?_
  obtain ⟨o, a1, a2, a3, a4⟩ := H.h5
  refine AllReadyH.cons a1 (fun K hK => ?_) ?_
  · refine step_build1 (g := g) a2 a4 ((far117 a0 v1 v3 v5 v6 v7 v9 v11 v12).trans H.e117) ?_
    have hown := own_one w (encS g)
    obtain ⟨tag', hR'⟩ := hR.new 2 hown (Bel.alloc0 w _)
    rw [a3, put118]
    exact hK.out _ _ (hS _ hR'.1) (fun _ => st1_1_5_7_11 H HK hS tag' _ _ _ _ _ _ _ _ _ _ hR' ((upd_ne (by decide)).trans e0) ((upd_ne (by decide)).trans e1) (upd_same _ _ _) ((upd_ne (by decide)).trans e3))
  exact AllReadyH.nil
theorem st1_1_5_11 {ops : Array Oper} {Q : Exit → Act → World → Prop} {S : World → Prop} {a0 : Act} {w0 : World} {g : SV} {za zb : List SV} (H : Reg ops a0 w0 g za zb) (HK : RegTail ops Q S a0 w0 g za zb) (hS : ∀ w, Bel w0 w → S w)
    (tag : Nat → Nat) (r : Nat → Option (Value × List Value)) (v1 v3 v5 v6 v7 v9 v11 v12 : Value) (w : World) (hR : Rows4 w0 tag r w) (e0 : r 0 = some (v3, za.map encS)) (e2 : r 2 = some (v5, [encS g])) (e3 : r 3 = some (v11, [encS g])) : wpAnyH Tryd.prog .any ops Q S 10 #[true, true, true, true, true, true, false, false, true, false, true, true, false, false, false, false, false, false, false] (puts a0 v1 v3 v5 v6 v7 v9 v11 v12) w := by
  refine wpAnyH_ready (H.row 21 rfl) (by simp) ?_
  obtain ⟨o, a1, a2, a3, a4⟩ := H.h6
  refine AllReadyH.cons a1 (fun K hK => ?_) ?_
  · have hO := hR.2 0 _ _ (by decide) e0
    obtain ⟨ad, c, b1, b2, b4⟩ := one_cells (hR.2 2 _ _ (by decide) e2).1
    have b1' := (get118 H.n v1 v3 v5 v6 v7 v9 v11 v12).trans b1
    have hla := H.la
    have hlb := H.lb
    refine step_app a2 (.tmp 116) (.tmp 118) a4 w0.heap.size (get116 H.n v1 v3 v5 v6 v7 v9 v11 v12) hO.1 b1' b2 b4 (encS_one [g]) (by simp at hla hlb ⊢; try omega) (by simp at hla hlb ⊢; try omega) hR.1.size ?_
    intro v' w' hown hgrow hat
    obtain ⟨tag', hR'⟩ := hR.app (by decide) e0 hown hgrow hat
    rw [a3, put119]
    exact hK.out _ _ (hS _ hR'.1) (fun _ => st2_1_5_11 H HK hS tag' _ _ _ _ _ _ _ _ _ _ hR' (upd_same _ _ _) ((upd_ne (by decide)).trans e3))
  obtain ⟨o, a1, a2, a3, a4⟩ := H.h7
  refine AllReadyH.cons a1 (fun K hK => ?_) ?_
  · refine step_build0 a2 a4 ?_
    have hown := own_zero w
    obtain ⟨tag', hR'⟩ := hR.new 1 hown (Bel.alloc0 w _)
    rw [a3, put120]
    exact hK.out _ _ (hS _ hR'.1) (fun _ => st1_1_5_7_11 H HK hS tag' _ _ _ _ _ _ _ _ _ _ hR' ((upd_ne (by decide)).trans e0) (upd_same _ _ _) ((upd_ne (by decide)).trans e2) ((upd_ne (by decide)).trans e3))
  exact AllReadyH.nil
theorem st1_1_5_7 {ops : Array Oper} {Q : Exit → Act → World → Prop} {S : World → Prop} {a0 : Act} {w0 : World} {g : SV} {za zb : List SV} (H : Reg ops a0 w0 g za zb) (HK : RegTail ops Q S a0 w0 g za zb) (hS : ∀ w, Bel w0 w → S w)
    (tag : Nat → Nat) (r : Nat → Option (Value × List Value)) (v1 v3 v5 v6 v7 v9 v11 v12 : Value) (w : World) (hR : Rows4 w0 tag r w) (e0 : r 0 = some (v3, za.map encS)) (e1 : r 1 = some (v7, [])) (e2 : r 2 = some (v5, [encS g])) : wpAnyH Tryd.prog .any ops Q S 10 #[true, true, true, true, true, true, false, true, true, false, true, false, false, false, false, false, false, false, false] (puts a0 v1 v3 v5 v6 v7 v9 v11 v12) w := by
  refine wpAnyH_ready (H.row 20 rfl) (by simp) ?_
  obtain ⟨o, a1, a2, a3, a4⟩ := H.h6
  refine AllReadyH.cons a1 (fun K hK => ?_) ?_
  · have hO := hR.2 0 _ _ (by decide) e0
    obtain ⟨ad, c, b1, b2, b4⟩ := one_cells (hR.2 2 _ _ (by decide) e2).1
    have b1' := (get118 H.n v1 v3 v5 v6 v7 v9 v11 v12).trans b1
    have hla := H.la
    have hlb := H.lb
    refine step_app a2 (.tmp 116) (.tmp 118) a4 w0.heap.size (get116 H.n v1 v3 v5 v6 v7 v9 v11 v12) hO.1 b1' b2 b4 (encS_one [g]) (by simp at hla hlb ⊢; try omega) (by simp at hla hlb ⊢; try omega) hR.1.size ?_
    intro v' w' hown hgrow hat
    obtain ⟨tag', hR'⟩ := hR.app (by decide) e0 hown hgrow hat
    rw [a3, put119]
    exact hK.out _ _ (hS _ hR'.1) (fun _ => st2_1_5_7 H HK hS tag' _ _ _ _ _ _ _ _ _ _ hR' (upd_same _ _ _) ((upd_ne (by decide)).trans e1))
  obtain ⟨o, a1, a2, a3, a4⟩ := H.h11
  refine AllReadyH.cons a1 (fun K hK => ?_) ?_
  · refine step_build1 (g := g) a2 a4 ((far123 a0 v1 v3 v5 v6 v7 v9 v11 v12).trans H.e123) ?_
    have hown := own_one w (encS g)
    obtain ⟨tag', hR'⟩ := hR.new 3 hown (Bel.alloc0 w _)
    rw [a3, put124]
    exact hK.out _ _ (hS _ hR'.1) (fun _ => st1_1_5_7_11 H HK hS tag' _ _ _ _ _ _ _ _ _ _ hR' ((upd_ne (by decide)).trans e0) ((upd_ne (by decide)).trans e1) ((upd_ne (by decide)).trans e2) (upd_same _ _ _))
  exact AllReadyH.nil
theorem st1_1_11 {ops : Array Oper} {Q : Exit → Act → World → Prop} {S : World → Prop} {a0 : Act} {w0 : World} {g : SV} {za zb : List SV} (H : Reg ops a0 w0 g za zb) (HK : RegTail ops Q S a0 w0 g za zb) (hS : ∀ w, Bel w0 w → S w)
    (tag : Nat → Nat) (r : Nat → Option (Value × List Value)) (v1 v3 v5 v6 v7 v9 v11 v12 : Value) (w : World) (hR : Rows4 w0 tag r w) (e0 : r 0 = some (v3, za.map encS)) (e3 : r 3 = some (v11, [encS g])) : wpAnyH Tryd.prog .any ops Q S 11 #[true, true, true, true, true, false, false, false, true, false, true, true, false, false, false, false, false, false, false] (puts a0 v1 v3 v5 v6 v7 v9 v11 v12) w := by
  refine wpAnyH_ready (H.row 19 rfl) (by simp) ?_
  obtain ⟨o, a1, a2, a3, a4⟩ := H.h5
  refine AllReadyH.cons a1 (fun K hK => ?_) ?_
  · refine step_build1 (g := g) a2 a4 ((far117 a0 v1 v3 v5 v6 v7 v9 v11 v12).trans H.e117) ?_
    have hown := own_one w (encS g)
    obtain ⟨tag', hR'⟩ := hR.new 2 hown (Bel.alloc0 w _)
    rw [a3, put118]
    exact hK.out _ _ (hS _ hR'.1) (fun _ => st1_1_5_11 H HK hS tag' _ _ _ _ _ _ _ _ _ _ hR' ((upd_ne (by decide)).trans e0) (upd_same _ _ _) ((upd_ne (by decide)).trans e3))
  obtain ⟨o, a1, a2, a3, a4⟩ := H.h7
  refine AllReadyH.cons a1 (fun K hK => ?_) ?_
  · refine step_build0 a2 a4 ?_
    have hown := own_zero w
    obtain ⟨tag', hR'⟩ := hR.new 1 hown (Bel.alloc0 w _)
    rw [a3, put120]
    exact hK.out _ _ (hS _ hR'.1) (fun _ => st1_1_7_11 H HK hS tag' _ _ _ _ _ _ _ _ _ _ hR' ((upd_ne (by decide)).trans e0) (upd_same _ _ _) ((upd_ne (by decide)).trans e3))
  exact AllReadyH.nil
theorem st1_1_7 {ops : Array Oper} {Q : Exit → Act → World → Prop} {S : World → Prop} {a0 : Act} {w0 : World} {g : SV} {za zb : List SV} (H : Reg ops a0 w0 g za zb) (HK : RegTail ops Q S a0 w0 g za zb) (hS : ∀ w, Bel w0 w → S w)
    (tag : Nat → Nat) (r : Nat → Option (Value × List Value)) (v1 v3 v5 v6 v7 v9 v11 v12 : Value) (w : World) (hR : Rows4 w0 tag r w) (e0 : r 0 = some (v3, za.map encS)) (e1 : r 1 = some (v7, [])) : wpAnyH Tryd.prog .any ops Q S 11 #[true, true, true, true, true, false, false, true, true, false, true, false, false, false, false, false, false, false, false] (puts a0 v1 v3 v5 v6 v7 v9 v11 v12) w := by
  refine wpAnyH_ready (H.row 18 rfl) (by simp) ?_
  obtain ⟨o, a1, a2, a3, a4⟩ := H.h5
  refine AllReadyH.cons a1 (fun K hK => ?_) ?_
  · refine step_build1 (g := g) a2 a4 ((far117 a0 v1 v3 v5 v6 v7 v9 v11 v12).trans H.e117) ?_
    have hown := own_one w (encS g)
    obtain ⟨tag', hR'⟩ := hR.new 2 hown (Bel.alloc0 w _)
    rw [a3, put118]
    exact hK.out _ _ (hS _ hR'.1) (fun _ => st1_1_5_7 H HK hS tag' _ _ _ _ _ _ _ _ _ _ hR' ((upd_ne (by decide)).trans e0) ((upd_ne (by decide)).trans e1) (upd_same _ _ _))
  obtain ⟨o, a1, a2, a3, a4⟩ := H.h11
  refine AllReadyH.cons a1 (fun K hK => ?_) ?_
  · refine step_build1 (g := g) a2 a4 ((far123 a0 v1 v3 v5 v6 v7 v9 v11 v12).trans H.e123) ?_
    have hown := own_one w (encS g)
    obtain ⟨tag', hR'⟩ := hR.new 3 hown (Bel.alloc0 w _)
    rw [a3, put124]
    exact hK.out _ _ (hS _ hR'.1) (fun _ => st1_1_7_11 H HK hS tag' _ _ _ _ _ _ _ _ _ _ hR' ((upd_ne (by decide)).trans e0) ((upd_ne (by decide)).trans e1) (upd_same _ _ _))
  exact AllReadyH.nil
theorem st1_1_5 {ops : Array Oper} {Q : Exit → Act → World → Prop} {S : World → Prop} {a0 : Act} {w0 : World} {g : SV} {za zb : List SV} (H : Reg ops a0 w0 g za zb) (HK : RegTail ops Q S a0 w0 g za zb) (hS : ∀ w, Bel w0 w → S w)
    (tag : Nat → Nat) (r : Nat → Option (Value × List Value)) (v1 v3 v5 v6 v7 v9 v11 v12 : Value) (w : World) (hR : Rows4 w0 tag r w) (e0 : r 0 = some (v3, za.map encS)) (e2 : r 2 = some (v5, [encS g])) : wpAnyH Tryd.prog .any ops Q S 11 #[true, true, true, true, true, true, false, false, true, false, true, false, false, false, false, false, false, false, false] (puts a0 v1 v3 v5 v6 v7 v9 v11 v12) w := by
  refine wpAnyH_ready (H.row 17 rfl) (by simp) ?_
  obtain ⟨o, a1, a2, a3, a4⟩ := H.h6
  refine AllReadyH.cons a1 (fun K hK => ?_) ?_
  · have hO := hR.2 0 _ _ (by decide) e0
    obtain ⟨ad, c, b1, b2, b4⟩ := one_cells (hR.2 2 _ _ (by decide) e2).1
    have b1' := (get118 H.n v1 v3 v5 v6 v7 v9 v11 v12).trans b1
    have hla := H.la
    have hlb := H.lb
    refine step_app a2 (.tmp 116) (.tmp 118) a4 w0.heap.size (get116 H.n v1 v3 v5 v6 v7 v9 v11 v12) hO.1 b1' b2 b4 (encS_one [g]) (by simp at hla hlb ⊢; try omega) (by simp at hla hlb ⊢; try omega) hR.1.size ?_
    intro v' w' hown hgrow hat
    obtain ⟨tag', hR'⟩ := hR.app (by decide) e0 hown hgrow hat
    rw [a3, put119]
    exact hK.out _ _ (hS _ hR'.1) (fun _ => st2_1_5 H HK hS tag' _ _ _ _ _ _ _ _ _ _ hR' (upd_same _ _ _))
  obtain ⟨o, a1, a2, a3, a4⟩ := H.h7
  refine AllReadyH.cons a1 (fun K hK => ?_) ?_
  · refine step_build0 a2 a4 ?_
    have hown := own_zero w
    obtain ⟨tag', hR'⟩ := hR.new 1 hown (Bel.alloc0 w _)
    rw [a3, put120]
    exact hK.out _ _ (hS _ hR'.1) (fun _ => st1_1_5_7 H HK hS tag' _ _ _ _ _ _ _ _ _ _ hR' ((upd_ne (by decide)).trans e0) (upd_same _ _ _) ((upd_ne (by decide)).trans e2))
  obtain ⟨o, a1, a2, a3, a4⟩ := H.h11
  refine AllReadyH.cons a1 (fun K hK => ?_) ?_
  · refine step_build1 (g := g) a2 a4 ((far123 a0 v1 v3 v5 v6 v7 v9 v11 v12).trans H.e123) ?_
    have hown := own_one w (encS g)
    obtain ⟨tag', hR'⟩ := hR.new 3 hown (Bel.alloc0 w _)
    rw [a3, put124]
    exact hK.out _ _ (hS _ hR'.1) (fun _ => st1_1_5_11 H HK hS tag' _ _ _ _ _ _ _ _ _ _ hR' ((upd_ne (by decide)).trans e0) ((upd_ne (by decide)).trans e2) (upd_same _ _ _))
  exact AllReadyH.nil
theorem st1_1 {ops : Array Oper} {Q : Exit → Act → World → Prop} {S : World → Prop} {a0 : Act} {w0 : World} {g : SV} {za zb : List SV} (H : Reg ops a0 w0 g za zb) (HK : RegTail ops Q S a0 w0 g za zb) (hS : ∀ w, Bel w0 w → S w)
    (tag : Nat → Nat) (r : Nat → Option (Value × List Value)) (v1 v3 v5 v6 v7 v9 v11 v12 : Value) (w : World) (hR : Rows4 w0 tag r w) (e0 : r 0 = some (v3, za.map encS)) : wpAnyH Tryd.prog .any ops Q S 12 #[true, true, true, true, true, false, false, false, true, false, true, false, false, false, false, false, false, false, false] (puts a0 v1 v3 v5 v6 v7 v9 v11 v12) w := by
  refine wpAnyH_ready (H.row 16 rfl) (by simp) ?_
  obtain ⟨o, a1, a2, a3, a4⟩ := H.h5
  refine AllReadyH.cons a1 (fun K hK => ?_) ?_
  · refine step_build1 (g := g) a2 a4 ((far117 a0 v1 v3 v5 v6 v7 v9 v11 v12).trans H.e117) ?_
    have hown := own_one w (encS g)
    obtain ⟨tag', hR'⟩ := hR.new 2 hown (Bel.alloc0 w _)
    rw [a3, put118]
    exact hK.out _ _ (hS _ hR'.1) (fun _ => st1_1_5 H HK hS tag' _ _ _ _ _ _ _ _ _ _ hR' ((upd_ne (by decide)).trans e0) (upd_same _ _ _))
  obtain ⟨o, a1, a2, a3, a4⟩ := H.h7
  refine AllReadyH.cons a1 (fun K hK => ?_) ?_
  · refine step_build0 a2 a4 ?_
    have hown := own_zero w
    obtain ⟨tag', hR'⟩ := hR.new 1 hown (Bel.alloc0 w _)
    rw [a3, put120]
    exact hK.out _ _ (hS _ hR'.1) (fun _ => st1_1_7 H HK hS tag' _ _ _ _ _ _ _ _ _ _ hR' ((upd_ne (by decide)).trans e0) (upd_same _ _ _))
  obtain ⟨o, a1, a2, a3, a4⟩ := H.h11
  refine AllReadyH.cons a1 (fun K hK => ?_) ?_
  · refine step_build1 (g := g) a2 a4 ((far123 a0 v1 v3 v5 v6 v7 v9 v11 v12).trans H.e123) ?_
    have hown := own_one w (encS g)
    obtain ⟨tag', hR'⟩ := hR.new 3 hown (Bel.alloc0 w _)
    rw [a3, put124]
    exact hK.out _ _ (hS _ hR'.1) (fun _ => st1_1_11 H HK hS tag' _ _ _ _ _ _ _ _ _ _ hR' ((upd_ne (by decide)).trans e0) (upd_same _ _ _))
  exact AllReadyH.nil
theorem st0_1_5_7_11 {ops : Array Oper} {Q : Exit → Act → World → Prop} {S : World → Prop} {a0 : Act} {w0 : World} {g : SV} {za zb : List SV} (H : Reg ops a0 w0 g za zb) (HK : RegTail ops Q S a0 w0 g za zb) (hS : ∀ w, Bel w0 w → S w)
    (tag : Nat → Nat) (r : Nat → Option (Value × List Value)) (v1 v3 v5 v6 v7 v9 v11 v12 : Value) (w : World) (hR : Rows4 w0 tag r w) (e0 : r 0 = some (v1, [])) (e1 : r 1 = some (v7, [])) (e2 : r 2 = some (v5, [encS g])) (e3 : r 3 = some (v11, [encS g])) : wpAnyH Tryd.prog .any ops Q S 10 #[true, true, true, false, true, true, false, true, true, false, true, true, false, false, false, false, false, false, false] (puts a0 v1 v3 v5 v6 v7 v9 v11 v12) w := by
  refine wpAnyH_ready (H.row 15 rfl) (by simp) ?_
  obtain ⟨o, a1, a2, a3, a4⟩ := H.h3
  refine AllReadyH.cons a1 (fun K hK => ?_) ?_
  · have hO := hR.2 0 _ _ (by decide) e0
    obtain ⟨ad, c, b1, b2, b3⟩ := H.e115
    have b4 := cells_far hR.1 b3
    have b1' := (far115 a0 v1 v3 v5 v6 v7 v9 v11 v12).trans b1
    have hla := H.la
    have hlb := H.lb
    refine step_app a2 (.tmp 114) (.tmp 115) a4 w0.heap.size (get114 H.n v1 v3 v5 v6 v7 v9 v11 v12) hO.1 b1' b2 b4 (encS_one _) (by simp at hla hlb ⊢; try omega) (by simp at hla hlb ⊢; try omega) hR.1.size ?_
    intro v' w' hown hgrow hat
    obtain ⟨tag', hR'⟩ := hR.app (by decide) e0 hown hgrow hat
    rw [a3, put116]
    exact hK.out _ _ (hS _ hR'.1) (fun _ => st1_1_5_7_11 H HK hS tag' _ _ _ _ _ _ _ _ _ _ hR' (upd_same _ _ _) ((upd_ne (by decide)).trans e1) ((upd_ne (by decide)).trans e2) ((upd_ne (by decide)).trans e3))
  exact AllReadyH.nil
theorem st0_5_7_11 {ops : Array Oper} {Q : Exit → Act → World → Prop} {S : World → Prop} {a0 : Act} {w0 : World} {g : SV} {za zb : List SV} (H : Reg ops a0 w0 g za zb) (HK : RegTail ops Q S a0 w0 g za zb) (hS : ∀ w, Bel w0 w → S w)
    (tag : Nat → Nat) (r : Nat → Option (Value × List Value)) (v1 v3 v5 v6 v7 v9 v11 v12 : Value) (w : World) (hR : Rows4 w0 tag r w) (e1 : r 1 = some (v7, [])) (e2 : r 2 = some (v5, [encS g])) (e3 : r 3 = some (v11, [encS g])) : wpAnyH Tryd.prog .any ops Q S 11 #[true, false, true, false, true, true, false, true, true, false, true, true, false, false, false, false, false, false, false] (puts a0 v1 v3 v5 v6 v7 v9 v11 v12) w := by
  refine wpAnyH_ready (H.row 14 rfl) (by simp) ?_
  obtain ⟨o, a1, a2, a3, a4⟩ := H.h1
  refine AllReadyH.cons a1 (fun K hK => ?_) ?_
  · refine step_build0 a2 a4 ?_
    have hown := own_zero w
    obtain ⟨tag', hR'⟩ := hR.new 0 hown (Bel.alloc0 w _)
    rw [a3, put114]
    exact hK.out _ _ (hS _ hR'.1) (fun _ => st0_1_5_7_11 H HK hS tag' _ _ _ _ _ _ _ _ _ _ hR' (upd_same _ _ _) ((upd_ne (by decide)).trans e1) ((upd_ne (by decide)).trans e2) ((upd_ne (by decide)).trans e3))
  exact AllReadyH.nil
theorem st0_1_7_11 {ops : Array Oper} {Q : Exit → Act → World → Prop} {S : World → Prop} {a0 : Act} {w0 : World} {g : SV} {za zb : List SV} (H : Reg ops a0 w0 g za zb) (HK : RegTail ops Q S a0 w0 g za zb) (hS : ∀ w, Bel w0 w → S w)
    (tag : Nat → Nat) (r : Nat → Option (Value × List Value)) (v1 v3 v5 v6 v7 v9 v11 v12 : Value) (w : World) (hR : Rows4 w0 tag r w) (e0 : r 0 = some (v1, [])) (e1 : r 1 = some (v7, [])) (e3 : r 3 = some (v11, [encS g])) : wpAnyH Tryd.prog .any ops Q S 11 #[true, true, true, false, true, false, false, true, true, false, true, true, false, false, false, false, false, false, false] (puts a0 v1 v3 v5 v6 v7 v9 v11 v12) w := by
  refine wpAnyH_ready (H.row 13 rfl) (by simp) ?_
  obtain ⟨o, a1, a2, a3, a4⟩ := H.h3
  refine AllReadyH.cons a1 (fun K hK => ?_) ?_
  · have hO := hR.2 0 _ _ (by decide) e0
    obtain ⟨ad, c, b1, b2, b3⟩ := H.e115
    have b4 := cells_far hR.1 b3
    have b1' := (far115 a0 v1 v3 v5 v6 v7 v9 v11 v12).trans b1
    have hla := H.la
    have hlb := H.lb
    refine step_app a2 (.tmp 114) (.tmp 115) a4 w0.heap.size (get114 H.n v1 v3 v5 v6 v7 v9 v11 v12) hO.1 b1' b2 b4 (encS_one _) (by simp at hla hlb ⊢; try omega) (by simp at hla hlb ⊢; try omega) hR.1.size ?_
    intro v' w' hown hgrow hat
    obtain ⟨tag', hR'⟩ := hR.app (by decide) e0 hown hgrow hat
    rw [a3, put116]
    exact hK.out _ _ (hS _ hR'.1) (fun _ => st1_1_7_11 H HK hS tag' _ _ _ _ _ _ _ _ _ _ hR' (upd_same _ _ _) ((upd_ne (by decide)).trans e1) ((upd_ne (by decide)).trans e3))
  obtain ⟨o, a1, a2, a3, a4⟩ := H.h5
  refine AllReadyH.cons a1 (fun K hK => ?_) ?_
  · refine step_build1 (g := g) a2 a4 ((far117 a0 v1 v3 v5 v6 v7 v9 v11 v12).trans H.e117) ?_
    have hown := own_one w (encS g)
    obtain ⟨tag', hR'⟩ := hR.new 2 hown (Bel.alloc0 w _)
    rw [a3, put118]
    exact hK.out _ _ (hS _ hR'.1) (fun _ => st0_1_5_7_11 H HK hS tag' _ _ _ _ _ _ _ _ _ _ hR' ((upd_ne (by decide)).trans e0) ((upd_ne (by decide)).trans e1) (upd_same _ _ _) ((upd_ne (by decide)).trans e3))
  exact AllReadyH.nil
theorem st0_1_5_11 {ops : Array Oper} {Q : Exit → Act → World → Prop} {S : World → Prop} {a0 : Act} {w0 : World} {g : SV} {za zb : List SV} (H : Reg ops a0 w0 g za zb) (HK : RegTail ops Q S a0 w0 g za zb) (hS : ∀ w, Bel w0 w → S w)
    (tag : Nat → Nat) (r : Nat → Option (Value × List Value)) (v1 v3 v5 v6 v7 v9 v11 v12 : Value) (w : World) (hR : Rows4 w0 tag r w) (e0 : r 0 = some (v1, [])) (e2 : r 2 = some (v5, [encS g])) (e3 : r 3 = some (v11, [encS g])) : wpAnyH Tryd.prog .any ops Q S 11 #[true, true, true, false, true, true, false, false, true, false, true, true, false, false, false, false, false, false, false] (puts a0 v1 v3 v5 v6 v7 v9 v11 v12) w := by
  refine wpAnyH_ready (H.row 12 rfl) (by simp) ?_
  obtain ⟨o, a1, a2, a3, a4⟩ := H.h3
  refine AllReadyH.cons a1 (fun K hK => ?_) ?_
  · have hO := hR.2 0 _ _ (by decide) e0
    obtain ⟨ad, c, b1, b2, b3⟩ := H.e115
    have b4 := cells_far hR.1 b3
    have b1' := (far115 a0 v1 v3 v5 v6 v7 v9 v11 v12).trans b1
    have hla := H.la
    have hlb := H.lb
    refine step_app a2 (.tmp 114) (.tmp 115) a4 w0.heap.size (get114 H.n v1 v3 v5 v6 v7 v9 v11 v12) hO.1 b1' b2 b4 (encS_one _) (by simp at hla hlb ⊢; try omega) (by simp at hla hlb ⊢; try omega) hR.1.size ?_
    intro v' w' hown hgrow hat
    obtain ⟨tag', hR'⟩ := hR.app (by decide) e0 hown hgrow hat
    rw [a3, put116]
    exact hK.out _ _ (hS _ hR'.1) (fun _ => st1_1_5_11 H HK hS tag' _ _ _ _ _ _ _ _ _ _ hR' (upd_same _ _ _) ((upd_ne (by decide)).trans e2) ((upd_ne (by decide)).trans e3))
  obtain ⟨o, a1, a2, a3, a4⟩ := H.h7
  refine AllReadyH.cons a1 (fun K hK => ?_) ?_
  · refine step_build0 a2 a4 ?_
    have hown := own_zero w
    obtain ⟨tag', hR'⟩ := hR.new 1 hown (Bel.alloc0 w _)
    rw [a3, put120]
    exact hK.out _ _ (hS _ hR'.1) (fun _ => st0_1_5_7_11 H HK hS tag' _ _ _ _ _ _ _ _ _ _ hR' ((upd_ne (by decide)).trans e0) (upd_same _ _ _) ((upd_ne (by decide)).trans e2) ((upd_ne (by decide)).trans e3))
  exact AllReadyH.nil
theorem st0_1_5_7 {ops : Array Oper} {Q : Exit → Act → World → Prop} {S : World → Prop} {a0 : Act} {w0 : World} {g : SV} {za zb : List SV} (H : Reg ops a0 w0 g za zb) (HK : RegTail ops Q S a0 w0 g za zb) (hS : ∀ w, Bel w0 w → S w)
    (tag : Nat → Nat) (r : Nat → Option (Value × List Value)) (v1 v3 v5 v6 v7 v9 v11 v12 : Value) (w : World) (hR : Rows4 w0 tag r w) (e0 : r 0 = some (v1, [])) (e1 : r 1 = some (v7, [])) (e2 : r 2 = some (v5, [encS g])) : wpAnyH Tryd.prog .any ops Q S 11 #[true, true, true, false, true, true, false, true, true, false, true, false, false, false, false, false, false, false, false] (puts a0 v1 v3 v5 v6 v7 v9 v11 v12) w := by
  refine wpAnyH_ready (H.row 11 rfl) (by simp) ?_
  obtain ⟨o, a1, a2, a3, a4⟩ := H.h3
  refine AllReadyH.cons a1 (fun K hK => ?_) ?_
  · have hO := hR.2 0 _ _ (by decide) e0
    obtain ⟨ad, c, b1, b2, b3⟩ := H.e115
    have b4 := cells_far hR.1 b3
    have b1' := (far115 a0 v1 v3 v5 v6 v7 v9 v11 v12).trans b1
    have hla := H.la
    have hlb := H.lb
    refine step_app a2 (.tmp 114) (.tmp 115) a4 w0.heap.size (get114 H.n v1 v3 v5 v6 v7 v9 v11 v12) hO.1 b1' b2 b4 (encS_one _) (by simp at hla hlb ⊢; try omega) (by simp at hla hlb ⊢; try omega) hR.1.size ?_
    intro v' w' hown hgrow hat
    obtain ⟨tag', hR'⟩ := hR.app (by decide) e0 hown hgrow hat
    rw [a3, put116]
    exact hK.out _ _ (hS _ hR'.1) (fun _ => st1_1_5_7 H HK hS tag' _ _ _ _ _ _ _ _ _ _ hR' (upd_same _ _ _) ((upd_ne (by decide)).trans e1) ((upd_ne (by decide)).trans e2))
  obtain ⟨o, a1, a2, a3, a4⟩ := H.h11
  refine AllReadyH.cons a1 (fun K hK => ?_) ?_
  · refine step_build1 (g := g) a2 a4 ((far123 a0 v1 v3 v5 v6 v7 v9 v11 v12).trans H.e123) ?_
    have hown := own_one w (encS g)
    obtain ⟨tag', hR'⟩ := hR.new 3 hown (Bel.alloc0 w _)
    rw [a3, put124]
    exact hK.out _ _ (hS _ hR'.1) (fun _ => st0_1_5_7_11 H HK hS tag' _ _ _ _ _ _ _ _ _ _ hR' ((upd_ne (by decide)).trans e0) ((upd_ne (by decide)).trans e1) ((upd_ne (by decide)).trans e2) (upd_same _ _ _))
  exact AllReadyH.nil
theorem st0_7_11 {ops : Array Oper} {Q : Exit → Act → World → Prop} {S : World → Prop} {a0 : Act} {w0 : World} {g : SV} {za zb : List SV} (H : Reg ops a0 w0 g za zb) (HK : RegTail ops Q S a0 w0 g za zb) (hS : ∀ w, Bel w0 w → S w)
    (tag : Nat → Nat) (r : Nat → Option (Value × List Value)) (v1 v3 v5 v6 v7 v9 v11 v12 : Value) (w : World) (hR : Rows4 w0 tag r w) (e1 : r 1 = some (v7, [])) (e3 : r 3 = some (v11, [encS g])) : wpAnyH Tryd.prog .any ops Q S 12 #[true, false, true, false, true, false, false, true, true, false, true, true, false, false, false, false, false, false, false] (puts a0 v1 v3 v5 v6 v7 v9 v11 v12) w := by
  refine wpAnyH_ready (H.row 10 rfl) (by simp) ?_
  obtain ⟨o, a1, a2, a3, a4⟩ := H.h1
  refine AllReadyH.cons a1 (fun K hK => ?_) ?_
  · refine step_build0 a2 a4 ?_
    have hown := own_zero w
    obtain ⟨tag', hR'⟩ := hR.new 0 hown (Bel.alloc0 w _)
    rw [a3, put114]
    exact hK.out _ _ (hS _ hR'.1) (fun _ => st0_1_7_11 H HK hS tag' _ _ _ _ _ _ _ _ _ _ hR' (upd_same _ _ _) ((upd_ne (by decide)).trans e1) ((upd_ne (by decide)).trans e3))
  obtain ⟨o, a1, a2, a3, a4⟩ := H.h5
  refine AllReadyH.cons a1 (fun K hK => ?_) ?_
  · refine step_build1 (g := g) a2 a4 ((far117 a0 v1 v3 v5 v6 v7 v9 v11 v12).trans H.e117) ?_
    have hown := own_one w (encS g)
    obtain ⟨tag', hR'⟩ := hR.new 2 hown (Bel.alloc0 w _)
    rw [a3, put118]
    exact hK.out _ _ (hS _ hR'.1) (fun _ => st0_5_7_11 H HK hS tag' _ _ _ _ _ _ _ _ _ _ hR' ((upd_ne (by decide)).trans e1) (upd_same _ _ _) ((upd_ne (by decide)).trans e3))
  exact AllReadyH.nil
theorem st0_5_11 {ops : Array Oper} {Q : Exit → Act → World → Prop} {S : World → Prop} {a0 : Act} {w0 : World} {g : SV} {za zb : List SV} (H : Reg ops a0 w0 g za zb) (HK : RegTail ops Q S a0 w0 g za zb) (hS : ∀ w, Bel w0 w → S w)
    (tag : Nat → Nat) (r : Nat → Option (Value × List Value)) (v1 v3 v5 v6 v7 v9 v11 v12 : Value) (w : World) (hR : Rows4 w0 tag r w) (e2 : r 2 = some (v5, [encS g])) (e3 : r 3 = some (v11, [encS g])) : wpAnyH Tryd.prog .any ops Q S 12 #[true, false, true, false, true, true, false, false, true, false, true, true, false, false, false, false, false, false, false] (puts a0 v1 v3 v5 v6 v7 v9 v11 v12) w := by
  refine wpAnyH_ready (H.row 9 rfl) (by simp) ?_
  obtain ⟨o, a1, a2, a3, a4⟩ := H.h1
  refine AllReadyH.cons a1 (fun K hK => ?_) ?_
  · refine step_build0 a2 a4 ?_
    have hown := own_zero w
    obtain ⟨tag', hR'⟩ := hR.new 0 hown (Bel.alloc0 w _)
    rw [a3, put114]
    exact hK.out _ _ (hS _ hR'.1) (fun _ => st0_1_5_11 H HK hS tag' _ _ _ _ _ _ _ _ _ _ hR' (upd_same _ _ _) ((upd_ne (by decide)).trans e2) ((upd_ne (by decide)).trans e3))
  obtain ⟨o, a1, a2, a3, a4⟩ := H.h7
  refine AllReadyH.cons a1 (fun K hK => ?_) ?_
  · refine step_build0 a2 a4 ?_
    have hown := own_zero w
    obtain ⟨tag', hR'⟩ := hR.new 1 hown (Bel.alloc0 w _)
    rw [a3, put120]
    exact hK.out _ _ (hS _ hR'.1) (fun _ => st0_5_7_11 H HK hS tag' _ _ _ _ _ _ _ _ _ _ hR' (upd_same _ _ _) ((upd_ne (by decide)).trans e2) ((upd_ne (by decide)).trans e3))
  exact AllReadyH.nil
theorem st0_5_7 {ops : Array Oper} {Q : Exit → Act → World → Prop} {S : World → Prop} {a0 : Act} {w0 : World} {g : SV} {za zb : List SV} (H : Reg ops a0 w0 g za zb) (HK : RegTail ops Q S a0 w0 g za zb) (hS : ∀ w, Bel w0 w → S w)
    (tag : Nat → Nat) (r : Nat → Option (Value × List Value)) (v1 v3 v5 v6 v7 v9 v11 v12 : Value) (w : World) (hR : Rows4 w0 tag r w) (e1 : r 1 = some (v7, [])) (e2 : r 2 = some (v5, [encS g])) : wpAnyH Tryd.prog .any ops Q S 12 #[true, false, true, false, true, true, false, true, true, false, true, false, false, false, false, false, false, false, false] (puts a0 v1 v3 v5 v6 v7 v9 v11 v12) w := by
  refine wpAnyH_ready (H.row 8 rfl) (by simp) ?_
  obtain ⟨o, a1, a2, a3, a4⟩ := H.h1
  refine AllReadyH.cons a1 (fun K hK => ?_) ?_
  · refine step_build0 a2 a4 ?_
    have hown := own_zero w
    obtain ⟨tag', hR'⟩ := hR.new 0 hown (Bel.alloc0 w _)
    rw [a3, put114]
    exact hK.out _ _ (hS _ hR'.1) (fun _ => st0_1_5_7 H HK hS tag' _ _ _ _ _ _ _ _ _ _ hR' (upd_same _ _ _) ((upd_ne (by decide)).trans e1) ((upd_ne (by decide)).trans e2))
  obtain ⟨o, a1, a2, a3, a4⟩ := H.h11
  refine AllReadyH.cons a1 (fun K hK => ?_) ?_
  · refine step_build1 (g := g) a2 a4 ((far123 a0 v1 v3 v5 v6 v7 v9 v11 v12).trans H.e123) ?_
    have hown := own_one w (encS g)
    obtain ⟨tag', hR'⟩ := hR.new 3 hown (Bel.alloc0 w _)
    rw [a3, put124]
    exact hK.out _ _ (hS _ hR'.1) (fun _ => st0_5_7_11 H HK hS tag' _ _ _ _ _ _ _ _ _ _ hR' ((upd_ne (by decide)).trans e1) ((upd_ne (by decide)).trans e2) (upd_same _ _ _))
  exact AllReadyH.nil
theorem st0_1_11 {ops : Array Oper} {Q : Exit → Act → World → Prop} {S : World → Prop} {a0 : Act} {w0 : World} {g : SV} {za zb : List SV} (H : Reg ops a0 w0 g za zb) (HK : RegTail ops Q S a0 w0 g za zb) (hS : ∀ w, Bel w0 w → S w)
    (tag : Nat → Nat) (r : Nat → Option (Value × List Value)) (v1 v3 v5 v6 v7 v9 v11 v12 : Value) (w : World) (hR : Rows4 w0 tag r w) (e0 : r 0 = some (v1, [])) (e3 : r 3 = some (v11, [encS g])) : wpAnyH Tryd.prog .any ops Q S 12 #[true, true, true, false, true, false, false, false, true, false, true, true, false, false, false, false, false, false, false] (puts a0 v1 v3 v5 v6 v7 v9 v11 v12) w := by
  refine wpAnyH_ready (H.row 7 rfl) (by simp) ?_
  obtain ⟨o, a1, a2, a3, a4⟩ := H.h3
  refine AllReadyH.cons a1 (fun K hK => ?_) ?_
  · have hO := hR.2 0 _ _ (by decide) e0
    obtain ⟨ad, c, b1, b2, b3⟩ := H.e115
    have b4 := cells_far hR.1 b3
    have b1' := (far115 a0 v1 v3 v5 v6 v7 v9 v11 v12).trans b1
    have hla := H.la
    have hlb := H.lb
    refine step_app a2 (.tmp 114) (.tmp 115) a4 w0.heap.size (get114 H.n v1 v3 v5 v6 v7 v9 v11 v12) hO.1 b1' b2 b4 (encS_one _) (by simp at hla hlb ⊢; try omega) (by simp at hla hlb ⊢; try omega) hR.1.size ?_
    intro v' w' hown hgrow hat
    obtain ⟨tag', hR'⟩ := hR.app (by decide) e0 hown hgrow hat
    rw [a3, put116]
    exact hK.out _ _ (hS _ hR'.1) (fun _ => st1_1_11 H HK hS tag' _ _ _ _ _ _ _ _ _ _ hR' (upd_same _ _ _) ((upd_ne (by decide)).trans e3))
  obtain ⟨o, a1, a2, a3, a4⟩ := H.h5
  refine AllReadyH.cons a1 (fun K hK => ?_) ?_
  · refine step_build1 (g := g) a2 a4 ((far117 a0 v1 v3 v5 v6 v7 v9 v11 v12).trans H.e117) ?_
    have hown := own_one w (encS g)
    obtain ⟨tag', hR'⟩ := hR.new 2 hown (Bel.alloc0 w _)
    rw [a3, put118]
    exact hK.out _ _ (hS _ hR'.1) (fun _ => st0_1_5_11 H HK hS tag' _ _ _ _ _ _ _ _ _ _ hR' ((upd_ne (by decide)).trans e0) (upd_same _ _ _) ((upd_ne (by decide)).trans e3))
  obtain ⟨o, a1, a2, a3, a4⟩ := H.h7
  refine AllReadyH.cons a1 (fun K hK => ?_) ?_
  · refine step_build0 a2 a4 ?_
    have hown := own_zero w
    obtain ⟨tag', hR'⟩ := hR.new 1 hown (Bel.alloc0 w _)
    rw [a3, put120]
    exact hK.out _ _ (hS _ hR'.1) (fun _ => st0_1_7_11 H HK hS tag' _ _ _ _ _ _ _ _ _ _ hR' ((upd_ne (by decide)).trans e0) (upd_same _ _ _) ((upd_ne (by decide)).trans e3))
  exact AllReadyH.nil
theorem st0_1_7 {ops : Array Oper} {Q : Exit → Act → World → Prop} {S : World → Prop} {a0 : Act} {w0 : World} {g : SV} {za zb : List SV} (H : Reg ops a0 w0 g za zb) (HK : RegTail ops Q S a0 w0 g za zb) (hS : ∀ w, Bel w0 w → S w)
    (tag : Nat → Nat) (r : Nat → Option (Value × List Value)) (v1 v3 v5 v6 v7 v9 v11 v12 : Value) (w : World) (hR : Rows4 w0 tag r w) (e0 : r 0 = some (v1, [])) (e1 : r 1 = some (v7, [])) : wpAnyH Tryd.prog .any ops Q S 12 #[true, true, true, false, true, false, false, true, true, false, true, false, false, false, false, false, false, false, false] (puts a0 v1 v3 v5 v6 v7 v9 v11 v12) w := by
  refine wpAnyH_ready (H.row 6 rfl) (by simp) ?_
  obtain ⟨o, a1, a2, a3, a4⟩ := H.h3
  refine AllReadyH.cons a1 (fun K hK => ?_) ?_
  · have hO := hR.2 0 _ _ (by decide) e0
    obtain ⟨ad, c, b1, b2, b3⟩ := H.e115
    have b4 := cells_far hR.1 b3
    have b1' := (far115 a0 v1 v3 v5 v6 v7 v9 v11 v12).trans b1
    have hla := H.la
    have hlb := H.lb
    refine step_app a2 (.tmp 114) (.tmp 115) a4 w0.heap.size (get114 H.n v1 v3 v5 v6 v7 v9 v11 v12) hO.1 b1' b2 b4 (encS_one _) (by simp at hla hlb ⊢; try omega) (by simp at hla hlb ⊢; try omega) hR.1.size ?_
    intro v' w' hown hgrow hat
    obtain ⟨tag', hR'⟩ := hR.app (by decide) e0 hown hgrow hat
    rw [a3, put116]
    exact hK.out _ _ (hS _ hR'.1) (fun _ => st1_1_7 H HK hS tag' _ _ _ _ _ _ _ _ _ _ hR' (upd_same _ _ _) ((upd_ne (by decide)).trans e1))
  obtain ⟨o, a1, a2, a3, a4⟩ := H.h5
  refine AllReadyH.cons a1 (fun K hK => ?_) ?_
  · refine step_build1 (g := g) a2 a4 ((far117 a0 v1 v3 v5 v6 v7 v9 v11 v12).trans H.e117) ?_
    have hown := own_one w (encS g)
    obtain ⟨tag', hR'⟩ := hR.new 2 hown (Bel.alloc0 w _)
    rw [a3, put118]
    exact hK.out _ _ (hS _ hR'.1) (fun _ => st0_1_5_7 H HK hS tag' _ _ _ _ _ _ _ _ _ _ hR' ((upd_ne (by decide)).trans e0) ((upd_ne (by decide)).trans e1) (upd_same _ _ _))
  obtain ⟨o, a1, a2, a3, a4⟩ := H.h11
  refine AllReadyH.cons a1 (fun K hK => ?_) ?_
  · refine step_build1 (g := g) a2 a4 ((far123 a0 v1 v3 v5 v6 v7 v9 v11 v12).trans H.e123) ?_
    have hown := own_one w (encS g)
    obtain ⟨tag', hR'⟩ := hR.new 3 hown (Bel.alloc0 w _)
    rw [a3, put124]
    exact hK.out _ _ (hS _ hR'.1) (fun _ => st0_1_7_11 H HK hS tag' _ _ _ _ _ _ _ _ _ _ hR' ((upd_ne (by decide)).trans e0) ((upd_ne (by decide)).trans e1) (upd_same _ _ _))
  exact AllReadyH.nil
theorem st0_1_5 {ops : Array Oper} {Q : Exit → Act → World → Prop} {S : World → Prop} {a0 : Act} {w0 : World} {g : SV} {za zb : List SV} (H : Reg ops a0 w0 g za zb) (HK : RegTail ops Q S a0 w0 g za zb) (hS : ∀ w, Bel w0 w → S w)
    (tag : Nat → Nat) (r : Nat → Option (Value × List Value)) (v1 v3 v5 v6 v7 v9 v11 v12 : Value) (w : World) (hR : Rows4 w0 tag r w) (e0 : r 0 = some (v1, [])) (e2 : r 2 = some (v5, [encS g])) : wpAnyH Tryd.prog .any ops Q S 12 #[true, true, true, false, true, true, false, false, true, false, true, false, false, false, false, false, false, false, false] (puts a0 v1 v3 v5 v6 v7 v9 v11 v12) w := by
  refine wpAnyH_ready (H.row 5 rfl) (by simp) ?_
  obtain ⟨o, a1, a2, a3, a4⟩ := H.h3
  refine AllReadyH.cons a1 (fun K hK => ?_) ?_
  · have hO := hR.2 0 _ _ (by decide) e0
    obtain ⟨ad, c, b1, b2, b3⟩ := H.e115
    have b4 := cells_far hR.1 b3
    have b1' := (far115 a0 v1 v3 v5 v6 v7 v9 v11 v12).trans b1
    have hla := H.la
    have hlb := H.lb
    refine step_app a2 (.tmp 114) (.tmp 115) a4 w0.heap.size (get114 H.n v1 v3 v5 v6 v7 v9 v11 v12) hO.1 b1' b2 b4 (encS_one _) (by simp at hla hlb ⊢; try omega) (by simp at hla hlb ⊢; try omega) hR.1.size ?_
    intro v' w' hown hgrow hat
    obtain ⟨tag', hR'⟩ := hR.app (by decide) e0 hown hgrow hat
    rw [a3, put116]
    exact hK.out _ _ (hS _ hR'.1) (fun _ => st1_1_5 H HK hS tag' _ _ _ _ _ _ _ _ _ _ hR' (upd_same _ _ _) ((upd_ne (by decide)).trans e2))
  obtain ⟨o, a1, a2, a3, a4⟩ := H.h7
  refine AllReadyH.cons a1 (fun K hK => ?_) ?_
  · refine step_build0 a2 a4 ?_
    have hown := own_zero w
    obtain ⟨tag', hR'⟩ := hR.new 1 hown (Bel.alloc0 w _)
    rw [a3, put120]
    exact hK.out _ _ (hS _ hR'.1) (fun _ => st0_1_5_7 H HK hS tag' _ _ _ _ _ _ _ _ _ _ hR' ((upd_ne (by decide)).trans e0) (upd_same _ _ _) ((upd_ne (by decide)).trans e2))
  obtain ⟨o, a1, a2, a3, a4⟩ := H.h11
  refine AllReadyH.cons a1 (fun K hK => ?_) ?_
  · refine step_build1 (g := g) a2 a4 ((far123 a0 v1 v3 v5 v6 v7 v9 v11 v12).trans H.e123) ?_
    have hown := own_one w (encS g)
    obtain ⟨tag', hR'⟩ := hR.new 3 hown (Bel.alloc0 w _)
    rw [a3, put124]
    exact hK.out _ _ (hS _ hR'.1) (fun _ => st0_1_5_11 H HK hS tag' _ _ _ _ _ _ _ _ _ _ hR' ((upd_ne (by decide)).trans e0) ((upd_ne (by decide)).trans e2) (upd_same _ _ _))
  exact AllReadyH.nil
theorem st0_11 {ops : Array Oper} {Q : Exit → Act → World → Prop} {S : World → Prop} {a0 : Act} {w0 : World} {g : SV} {za zb : List SV} (H : Reg ops a0 w0 g za zb) (HK : RegTail ops Q S a0 w0 g za zb) (hS : ∀ w, Bel w0 w → S w)
    (tag : Nat → Nat) (r : Nat → Option (Value × List Value)) (v1 v3 v5 v6 v7 v9 v11 v12 : Value) (w : World) (hR : Rows4 w0 tag r w) (e3 : r 3 = some (v11, [encS g])) : wpAnyH Tryd.prog .any ops Q S 13 #[true, false, true, false, true, false, false, false, true, false, true, true, false, false, false, false, false, false, false] (puts a0 v1 v3 v5 v6 v7 v9 v11 v12) w := by
  refine wpAnyH_ready (H.row 4 rfl) (by simp) ?_
  obtain ⟨o, a1, a2, a3, a4⟩ := H.h1
  refine AllReadyH.cons a1 (fun K hK => ?_) ?_
  · refine step_build0 a2 a4 ?_
    have hown := own_zero w
    obtain ⟨tag', hR'⟩ := hR.new 0 hown (Bel.alloc0 w _)
    rw [a3, put114]
    exact hK.out _ _ (hS _ hR'.1) (fun _ => st0_1_11 H HK hS tag' _ _ _ _ _ _ _ _ _ _ hR' (upd_same _ _ _) ((upd_ne (by decide)).trans e3))
  obtain ⟨o, a1, a2, a3, a4⟩ := H.h5
  refine AllReadyH.cons a1 (fun K hK => ?_) ?_
  · refine step_build1 (g := g) a2 a4 ((far117 a0 v1 v3 v5 v6 v7 v9 v11 v12).trans H.e117) ?_
    have hown := own_one w (encS g)
    obtain ⟨tag', hR'⟩ := hR.new 2 hown (Bel.alloc0 w _)
    rw [a3, put118]
    exact hK.out _ _ (hS _ hR'.1) (fun _ => st0_5_11 H HK hS tag' _ _ _ _ _ _ _ _ _ _ hR' (upd_same _ _ _) ((upd_ne (by decide)).trans e3))
  obtain ⟨o, a1, a2, a3, a4⟩ := H.h7
  refine AllReadyH.cons a1 (fun K hK => ?_) ?_
  · refine step_build0 a2 a4 ?_
    have hown := own_zero w
    obtain ⟨tag', hR'⟩ := hR.new 1 hown (Bel.alloc0 w _)
    rw [a3, put120]
    exact hK.out _ _ (hS _ hR'.1) (fun _ => st0_7_11 H HK hS tag' _ _ _ _ _ _ _ _ _ _ hR' (upd_same _ _ _) ((upd_ne (by decide)).trans e3))
  exact AllReadyH.nil
theorem st0_7 {ops : Array Oper} {Q : Exit → Act → World → Prop} {S : World → Prop} {a0 : Act} {w0 : World} {g : SV} {za zb : List SV} (H : Reg ops a0 w0 g za zb) (HK : RegTail ops Q S a0 w0 g za zb) (hS : ∀ w, Bel w0 w → S w)
    (tag : Nat → Nat) (r : Nat → Option (Value × List Value)) (v1 v3 v5 v6 v7 v9 v11 v12 : Value) (w : World) (hR : Rows4 w0 tag r w) (e1 : r 1 = some (v7, [])) : wpAnyH Tryd.prog .any ops Q S 13 #[true, false, true, false, true, false, false, true, true, false, true, false, false, false, false, false, false, false, false] (puts a0 v1 v3 v5 v6 v7 v9 v11 v12) w := by
  refine wpAnyH_ready (H.row 3 rfl) (by simp) ?_
  obtain ⟨o, a1, a2, a3, a4⟩ := H.h1
  refine AllReadyH.cons a1 (fun K hK => ?_) ?_
  · refine step_build0 a2 a4 ?_
    have hown := own_zero w
    obtain ⟨tag', hR'⟩ := hR.new 0 hown (Bel.alloc0 w _)
    rw [a3, put114]
    exact hK.out _ _ (hS _ hR'.1) (fun _ => st0_1_7 H HK hS tag' _ _ _ _ _ _ _ _ _ _ hR' (upd_same _ _ _) ((upd_ne (by decide)).trans e1))
  obtain ⟨o, a1, a2, a3, a4⟩ := H.h5
  refine AllReadyH.cons a1 (fun K hK => ?_) ?_
  · refine step_build1 (g := g) a2 a4 ((far117 a0 v1 v3 v5 v6 v7 v9 v11 v12).trans H.e117) ?_
    have hown := own_one w (encS g)
    obtain ⟨tag', hR'⟩ := hR.new 2 hown (Bel.alloc0 w _)
    rw [a3, put118]
    exact hK.out _ _ (hS _ hR'.1) (fun _ => st0_5_7 H HK hS tag' _ _ _ _ _ _ _ _ _ _ hR' ((upd_ne (by decide)).trans e1) (upd_same _ _ _))
  obtain ⟨o, a1, a2, a3, a4⟩ := H.h11
  refine AllReadyH.cons a1 (fun K hK => ?_) ?_
  · refine step_build1 (g := g) a2 a4 ((far123 a0 v1 v3 v5 v6 v7 v9 v11 v12).trans H.e123) ?_
    have hown := own_one w (encS g)
    obtain ⟨tag', hR'⟩ := hR.new 3 hown (Bel.alloc0 w _)
    rw [a3, put124]
    exact hK.out _ _ (hS _ hR'.1) (fun _ => st0_7_11 H HK hS tag' _ _ _ _ _ _ _ _ _ _ hR' ((upd_ne (by decide)).trans e1) (upd_same _ _ _))
  exact AllReadyH.nil
theorem st0_5 {ops : Array Oper} {Q : Exit → Act → World → Prop} {S : World → Prop} {a0 : Act} {w0 : World} {g : SV} {za zb : List SV} (H : Reg ops a0 w0 g za zb) (HK : RegTail ops Q S a0 w0 g za zb) (hS : ∀ w, Bel w0 w → S w)
    (tag : Nat → Nat) (r : Nat → Option (Value × List Value)) (v1 v3 v5 v6 v7 v9 v11 v12 : Value) (w : World) (hR : Rows4 w0 tag r w) (e2 : r 2 = some (v5, [encS g])) : wpAnyH Tryd.prog .any ops Q S 13 #[true, false, true, false, true, true, false, false, true, false, true, false, false, false, false, false, false, false, false] (puts a0 v1 v3 v5 v6 v7 v9 v11 v12) w := by
  refine wpAnyH_ready (H.row 2 rfl) (by simp) ?_
  obtain ⟨o, a1, a2, a3, a4⟩ := H.h1
  refine AllReadyH.cons a1 (fun K hK => ?_) ?_
  · refine step_build0 a2 a4 ?_
    have hown := own_zero w
    obtain ⟨tag', hR'⟩ := hR.new 0 hown (Bel.alloc0 w _)
    rw [a3, put114]
    exact hK.out _ _ (hS _ hR'.1) (fun _ => st0_1_5 H HK hS tag' _ _ _ _ _ _ _ _ _ _ hR' (upd_same _ _ _) ((upd_ne (by decide)).trans e2))
  obtain ⟨o, a1, a2, a3, a4⟩ := H.h7
  refine AllReadyH.cons a1 (fun K hK => ?_) ?_
  · refine step_build0 a2 a4 ?_
    have hown := own_zero w
    obtain ⟨tag', hR'⟩ := hR.new 1 hown (Bel.alloc0 w _)
    rw [a3, put120]
    exact hK.out _ _ (hS _ hR'.1) (fun _ => st0_5_7 H HK hS tag' _ _ _ _ _ _ _ _ _ _ hR' (upd_same _ _ _) ((upd_ne (by decide)).trans e2))
  obtain ⟨o, a1, a2, a3, a4⟩ := H.h11
  refine AllReadyH.cons a1 (fun K hK => ?_) ?_
  · refine step_build1 (g := g) a2 a4 ((far123 a0 v1 v3 v5 v6 v7 v9 v11 v12).trans H.e123) ?_
    have hown := own_one w (encS g)
    obtain ⟨tag', hR'⟩ := hR.new 3 hown (Bel.alloc0 w _)
    rw [a3, put124]
    exact hK.out _ _ (hS _ hR'.1) (fun _ => st0_5_11 H HK hS tag' _ _ _ _ _ _ _ _ _ _ hR' ((upd_ne (by decide)).trans e2) (upd_same _ _ _))
  exact AllReadyH.nil
theorem st0_1 {ops : Array Oper} {Q : Exit → Act → World → Prop} {S : World → Prop} {a0 : Act} {w0 : World} {g : SV} {za zb : List SV} (H : Reg ops a0 w0 g za zb) (HK : RegTail ops Q S a0 w0 g za zb) (hS : ∀ w, Bel w0 w → S w)
    (tag : Nat → Nat) (r : Nat → Option (Value × List Value)) (v1 v3 v5 v6 v7 v9 v11 v12 : Value) (w : World) (hR : Rows4 w0 tag r w) (e0 : r 0 = some (v1, [])) : wpAnyH Tryd.prog .any ops Q S 13 #[true, true, true, false, true, false, false, false, true, false, true, false, false, false, false, false, false, false, false] (puts a0 v1 v3 v5 v6 v7 v9 v11 v12) w := by
  refine wpAnyH_ready (H.row 1 rfl) (by simp) ?_
  obtain ⟨o, a1, a2, a3, a4⟩ := H.h3
  refine AllReadyH.cons a1 (fun K hK => ?_) ?_
  · have hO := hR.2 0 _ _ (by decide) e0
    obtain ⟨ad, c, b1, b2, b3⟩ := H.e115
    have b4 := cells_far hR.1 b3
    have b1' := (far115 a0 v1 v3 v5 v6 v7 v9 v11 v12).trans b1
    have hla := H.la
    have hlb := H.lb
    refine step_app a2 (.tmp 114) (.tmp 115) a4 w0.heap.size (get114 H.n v1 v3 v5 v6 v7 v9 v11 v12) hO.1 b1' b2 b4 (encS_one _) (by simp at hla hlb ⊢; try omega) (by simp at hla hlb ⊢; try omega) hR.1.size ?_
    intro v' w' hown hgrow hat
    obtain ⟨tag', hR'⟩ := hR.app (by decide) e0 hown hgrow hat
    rw [a3, put116]
    exact hK.out _ _ (hS _ hR'.1) (fun _ => st1_1 H HK hS tag' _ _ _ _ _ _ _ _ _ _ hR' (upd_same _ _ _))
  obtain ⟨o, a1, a2, a3, a4⟩ := H.h5
  refine AllReadyH.cons a1 (fun K hK => ?_) ?_
  · refine step_build1 (g := g) a2 a4 ((far117 a0 v1 v3 v5 v6 v7 v9 v11 v12).trans H.e117) ?_
    have hown := own_one w (encS g)
    obtain ⟨tag', hR'⟩ := hR.new 2 hown (Bel.alloc0 w _)
    rw [a3, put118]
    exact hK.out _ _ (hS _ hR'.1) (fun _ => st0_1_5 H HK hS tag' _ _ _ _ _ _ _ _ _ _ hR' ((upd_ne (by decide)).trans e0) (upd_same _ _ _))
  obtain ⟨o, a1, a2, a3, a4⟩ := H.h7
  refine AllReadyH.cons a1 (fun K hK => ?_) ?_
  · refine step_build0 a2 a4 ?_
    have hown := own_zero w
    obtain ⟨tag', hR'⟩ := hR.new 1 hown (Bel.alloc0 w _)
    rw [a3, put120]
    exact hK.out _ _ (hS _ hR'.1) (fun _ => st0_1_7 H HK hS tag' _ _ _ _ _ _ _ _ _ _ hR' ((upd_ne (by decide)).trans e0) (upd_same _ _ _))
  obtain ⟨o, a1, a2, a3, a4⟩ := H.h11
  refine AllReadyH.cons a1 (fun K hK => ?_) ?_
  · refine step_build1 (g := g) a2 a4 ((far123 a0 v1 v3 v5 v6 v7 v9 v11 v12).trans H.e123) ?_
    have hown := own_one w (encS g)
    obtain ⟨tag', hR'⟩ := hR.new 3 hown (Bel.alloc0 w _)
    rw [a3, put124]
    exact hK.out _ _ (hS _ hR'.1) (fun _ => st0_1_11 H HK hS tag' _ _ _ _ _ _ _ _ _ _ hR' ((upd_ne (by decide)).trans e0) (upd_same _ _ _))
  exact AllReadyH.nil
theorem st0_ {ops : Array Oper} {Q : Exit → Act → World → Prop} {S : World → Prop} {a0 : Act} {w0 : World} {g : SV} {za zb : List SV} (H : Reg ops a0 w0 g za zb) (HK : RegTail ops Q S a0 w0 g za zb) (hS : ∀ w, Bel w0 w → S w)
    (tag : Nat → Nat) (r : Nat → Option (Value × List Value)) (v1 v3 v5 v6 v7 v9 v11 v12 : Value) (w : World) (hR : Rows4 w0 tag r w)  : wpAnyH Tryd.prog .any ops Q S 14 #[true, false, true, false, true, false, false, false, true, false, true, false, false, false, false, false, false, false, false] (puts a0 v1 v3 v5 v6 v7 v9 v11 v12) w := by
  refine wpAnyH_ready (H.row 0 rfl) (by simp) ?_
  obtain ⟨o, a1, a2, a3, a4⟩ := H.h1
  refine AllReadyH.cons a1 (fun K hK => ?_) ?_
  · refine step_build0 a2 a4 ?_
    have hown := own_zero w
    obtain ⟨tag', hR'⟩ := hR.new 0 hown (Bel.alloc0 w _)
    rw [a3, put114]
    exact hK.out _ _ (hS _ hR'.1) (fun _ => st0_1 H HK hS tag' _ _ _ _ _ _ _ _ _ _ hR' (upd_same _ _ _))
  obtain ⟨o, a1, a2, a3, a4⟩ := H.h5
  refine AllReadyH.cons a1 (fun K hK => ?_) ?_
  · refine step_build1 (g := g) a2 a4 ((far117 a0 v1 v3 v5 v6 v7 v9 v11 v12).trans H.e117) ?_
    have hown := own_one w (encS g)
    obtain ⟨tag', hR'⟩ := hR.new 2 hown (Bel.alloc0 w _)
    rw [a3, put118]
    exact hK.out _ _ (hS _ hR'.1) (fun _ => st0_5 H HK hS tag' _ _ _ _ _ _ _ _ _ _ hR' (upd_same _ _ _))
  obtain ⟨o, a1, a2, a3, a4⟩ := H.h7
  refine AllReadyH.cons a1 (fun K hK => ?_) ?_
  · refine step_build0 a2 a4 ?_
    have hown := own_zero w
    obtain ⟨tag', hR'⟩ := hR.new 1 hown (Bel.alloc0 w _)
    rw [a3, put120]
    exact hK.out _ _ (hS _ hR'.1) (fun _ => st0_7 H HK hS tag' _ _ _ _ _ _ _ _ _ _ hR' (upd_same _ _ _))
  obtain ⟨o, a1, a2, a3, a4⟩ := H.h11
  refine AllReadyH.cons a1 (fun K hK => ?_) ?_
  · refine step_build1 (g := g) a2 a4 ((far123 a0 v1 v3 v5 v6 v7 v9 v11 v12).trans H.e123) ?_
    have hown := own_one w (encS g)
    obtain ⟨tag', hR'⟩ := hR.new 3 hown (Bel.alloc0 w _)
    rw [a3, put124]
    exact hK.out _ _ (hS _ hR'.1) (fun _ => st0_11 H HK hS tag' _ _ _ _ _ _ _ _ _ _ hR' (upd_same _ _ _))
  exact AllReadyH.nil
theorem set_getD (t : Array Value) (i : Nat) (hi : i < t.size) : t.setIfInBounds i (t.getD i undef) = t := by
  apply Array.ext_getElem?
  intro j
  simp only [Array.getElem?_setIfInBounds, Array.getD_eq_getD_getElem?]
  by_cases e : i = j
  · subst e; simp [hi]
  · simp [e]
theorem puts_self {a0 : Act} (h : 128 ≤ a0.tmps.size) : puts a0 (a0.eval (.tmp 114)) (a0.eval (.tmp 116)) (a0.eval (.tmp 118)) (a0.eval (.tmp 119)) (a0.eval (.tmp 120)) (a0.eval (.tmp 122)) (a0.eval (.tmp 124)) (a0.eval (.tmp 125)) = a0 := by
  unfold puts Act.eval
  simp only [set_getD a0.tmps 114 (by omega), set_getD a0.tmps 116 (by omega), set_getD a0.tmps 118 (by omega), set_getD a0.tmps 119 (by omega), set_getD a0.tmps 120 (by omega), set_getD a0.tmps 122 (by omega), set_getD a0.tmps 124 (by omega), set_getD a0.tmps 125 (by omega)]
/-- The region from its builds on: whatever the order, the call comes with both lists copied and the element behind each. -/
theorem region_go {ops : Array Oper} {Q : Exit → Act → World → Prop} {S : World → Prop} {a0 : Act} {w0 : World} (g : SV) (za zb : List SV) (H : Reg ops a0 w0 g za zb) (hS : ∀ w, Bel w0 w → S w) (HK : RegTail ops Q S a0 w0 g za zb) :
    wpAnyH Tryd.prog .any ops Q S 14 #[true, false, true, false, true, false, false, false, true, false, true, false, false, false, false, false, false, false, false] a0 w0 := by
  have h := st0_ H HK hS (fun _ => 0) (fun _ => none) (a0.eval (.tmp 114)) (a0.eval (.tmp 116)) (a0.eval (.tmp 118)) (a0.eval (.tmp 119)) (a0.eval (.tmp 120)) (a0.eval (.tmp 122)) (a0.eval (.tmp 124)) (a0.eval (.tmp 125)) w0 ⟨Bel.rfl' _, fun t v xs _ e => by simp at e⟩
  rwa [puts_self H.n] at h
end Go.Proofs.YtkbgglejhdodoaaDoor.Rg
end
