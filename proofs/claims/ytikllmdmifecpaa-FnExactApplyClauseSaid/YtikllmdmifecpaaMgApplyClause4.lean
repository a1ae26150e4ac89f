/- Texts merged, part 4. -/
import Derived.Laws.AppendOwnNone
import Derived.Lib.AppendZeros
import Derived.Test.YtikllmdmifecpaaMgApplyClause3
section
/- Copies and joins of slices of ints. -/
namespace Go.Proofs.Ytikllmdmifecpaa
open Go.RowKit

theorem news_of_sl {lo hi : Nat} {w : World} {a : Addr} {n c : Nat} {xs : List Int} (h : SlI lo hi w (.slice (some a) n c) xs) : ∀ j u, (xs.map (Value.int .i64))[j]? = some u → w.cell? (a.add j) = some u := by
  intro j u hj
  obtain ⟨ad, cap, e, _, _, hr⟩ := h
  simp only [Value.slice.injEq] at e
  have hlt : j < xs.length := by
    have := List.getElem?_eq_some_iff.1 hj
    simpa using this.1
  obtain ⟨b, off, e2, _, _, hc⟩ := hr (by omega)
  rw [← e.1] at e2
  simp only [Option.some.injEq] at e2
  subst e2
  rw [addr_add, hc j hlt]
  simp [hlt] at hj
  simp [List.getD, hlt, hj]
theorem ones_int (xs : List Int) : ∀ u ∈ xs.map (Value.int .i64), u.oneCell' = true := by
  intro u hu; simp at hu; obtain ⟨n, _, rfl⟩ := hu; rfl

/-- A slice of ints that the call itself made, as a row that may grow. -/
def RetR (w : World) (xs : List Int) (e : Ending) (w' : World) : Prop := ∃ ad n c, e = .returned (.slice ad n c) ∧ w'.ownsRow w.heap.size 3 1 (.slice ad n c) xs.length (xs.map (Value.int .i64)) ∧ Bel w w'
theorem RetR.i {w : World} {xs : List Int} {e : Ending} {w' : World} (h : RetR w xs e w') : RetI w xs e w' := by
  obtain ⟨ad, n, c, h1, h2, h3⟩ := h
  exact ⟨ad, n, c, h1, OwnI.of_row h2, h3⟩

set_option maxRecDepth 100000 in
theorem l1Own_r (l h : Nat) (v : Value) (xs : List Int) (w : World) (hx : xs.length ≤ 1048576) (hv : SlI l h w v xs) :
    Calls Try.prog 167 #[v] w (RetR w xs) := by
  obtain ⟨i0, hi0, hz0, hz1, hz2⟩ := info_parts Try.info3
  have hv0 := hv
  obtain ⟨ad, cap, rfl, -, hm, hr⟩ := hv
  have hown : (w.alloc (.cells #[] 3)).ownsRow w.heap.size 3 1 (.slice (some ⟨w.heap.size, 0, none⟩) 0 0) ([] : List Int).length (([] : List Int).map (Value.int .i64)) :=
    World.ownsRow_lit w #[] 0 (Nat.le_refl _) (Nat.zero_le _) rfl
  cases ad with
  | none =>
    obtain rfl : xs = [] := by
      rcases Nat.eq_zero_or_pos xs.length with h0 | h0
      · exact List.length_eq_zero_iff.1 h0
      · obtain ⟨_, _, e, _⟩ := hr h0; simp at e
    obtain rfl : cap = 0 := hm.2 rfl
    clear hr hm hv0
    go_enter Try.func167, Try.ntmps167
    go_wp2_with (at_builtin; refine wpList_append_own_none rfl _ _ 22 rfl w.heap.size 3 i0 1 Try.underlying22 hi0 _ _ _ rfl hown rfl ?_)
    go_ret
    exact ⟨_, _, _, rfl, hown, Bel.alloc0 _ _⟩
  | some a =>
    have hn := news_of_sl (hv0.alloc (.cells #[] 3))
    clear hr hm
    go_enter Try.func167, Try.ntmps167
    go_wp2_with (at_builtin; refine wpList_append_own _ rfl _ _ 22 rfl w.heap.size 3 i0 (.int .i64 0) 1 8 Try.underlying22 hi0 hz0 hz1 hz2 rfl (by decide) _ _ _ rfl hown a xs.length cap (xs.map (Value.int .i64)) rfl (by simp) hn (ones_int _) (by unfold maxLen; simp; omega) (by simp; omega) (by simp) ?_; intro v' w1 hown' hgrow _)
    have hb1 := (Bel.alloc0 w (.cells #[] 3)).grown hgrow (fun k hk => own_base hown k hk)
    have hown2 : w1.ownsRow w.heap.size 3 1 v' xs.length (xs.map (Value.int .i64)) := by simpa using hown'
    obtain ⟨g, n, c, rfl⟩ := own_form hown2
    go_ret
    exact ⟨_, _, _, rfl, hown2, hb1⟩
theorem l1Own_c (l h : Nat) (v : Value) (xs : List Int) (w : World) (hx : xs.length ≤ 1048576) (hv : SlI l h w v xs) :
    Calls Try.prog 167 #[v] w (RetI w xs) := (l1Own_r l h v xs w hx hv).mono fun _ _ h => h.i

set_option maxRecDepth 100000 in
theorem clone_c (l h : Nat) (v : Value) (xs : List Int) (w : World) (hx : xs.length ≤ 1048576) (hv : SlI l h w v xs) :
    Calls Try.prog 127 #[v] w (RetI w xs) := by
  obtain ⟨i0, hi0, hz0, hz1, hz2⟩ := info_parts Try.info3
  have hv0 := hv
  obtain ⟨ad, cap, rfl, -, hm, hr⟩ := hv
  have hown : (w.alloc (.cells #[] 3)).ownsRow w.heap.size 3 1 (.slice (some ⟨w.heap.size, 0, none⟩) 0 0) ([] : List Int).length (([] : List Int).map (Value.int .i64)) :=
    World.ownsRow_lit w #[] 0 (Nat.le_refl _) (Nat.zero_le _) rfl
  cases ad with
  | none =>
    obtain rfl : xs = [] := by
      rcases Nat.eq_zero_or_pos xs.length with h0 | h0
      · exact List.length_eq_zero_iff.1 h0
      · obtain ⟨_, _, e, _⟩ := hr h0; simp at e
    obtain rfl : cap = 0 := hm.2 rfl
    clear hr hm hv0
    have hk := fun (w : World) (a : Option Addr) (n c : Nat) => Lib.run_eql_slice_nil (P := Try.prog) w 22 3 a n c 0 0 Try.underlying22
    go_enter Try.func127, Try.ntmps127
    go_wp2_with fail
    go_ret
    exact ⟨_, _, _, rfl, OwnI.nil _ _ _, Bel.rfl' _⟩
  | some a =>
    have hn := news_of_sl (hv0.alloc (.cells #[] 3))
    clear hr hm
    have hk := fun (w : World) (a : Option Addr) (n c : Nat) => Lib.run_eql_slice_nil (P := Try.prog) w 22 3 a n c 0 0 Try.underlying22
    go_enter Try.func127, Try.ntmps127
    go_wp2_with (at_builtin; refine wpList_append_own _ rfl _ _ 22 rfl w.heap.size 3 i0 (.int .i64 0) 1 8 Try.underlying22 hi0 hz0 hz1 hz2 rfl (by decide) _ _ _ rfl hown a xs.length cap (xs.map (Value.int .i64)) rfl (by simp) hn (ones_int _) (by unfold maxLen; simp; omega) (by simp; omega) (by simp) ?_; intro v' w1 hown' hgrow _)
    have hb1 := (Bel.alloc0 w (.cells #[] 3)).grown hgrow (fun k hk => own_base hown k hk)
    have hown2 : w1.ownsRow w.heap.size 3 1 v' xs.length (xs.map (Value.int .i64)) := by simpa using hown'
    obtain ⟨g, n, c, rfl⟩ := own_form hown2
    go_ret
    exact ⟨_, _, _, rfl, OwnI.of_row hown2, hb1⟩

/-- A cut of a slice. -/
theorem SlI.cut {lo hi : Nat} {w : World} {b off n c : Nat} {xs : List Int} (h : SlI lo hi w (.slice (some ⟨b, off, none⟩) n c) xs) (i j : Nat) (hij : i ≤ j) (hj : j ≤ xs.length) :
    SlI lo hi w (.slice (some ⟨b, off + i, none⟩) (j - i) (c - i)) ((xs.drop i).take (j - i)) := by
  obtain ⟨ad, cap, e, hc, hm, hr⟩ := h
  simp only [Value.slice.injEq] at e
  obtain ⟨rfl, rfl, rfl⟩ := e
  have hl : ((xs.drop i).take (j - i)).length = j - i := by simp; omega
  refine ⟨_, c - i, by rw [hl], by rw [hl]; omega, ⟨by have := hm.1; omega, fun h => by simp at h⟩, fun hp => ?_⟩
  rw [hl] at hp
  obtain ⟨b', off', e2, a1, a2, a3⟩ := hr (by omega)
  simp only [Option.some.injEq, Addr.mk.injEq, and_true] at e2
  obtain ⟨rfl, rfl⟩ := e2
  refine ⟨b, off + i, rfl, a1, a2, fun k hk => ?_⟩
  rw [hl] at hk
  rw [show off + i + k = off + (i + k) from by omega, a3 (i + k) (by omega)]
  simp [List.getD, hk, List.getElem?_drop]

/-- The head of a slice that is not nil lies at a plain address. -/
theorem SlI.plain {lo hi : Nat} {w : World} {v : Value} {xs : List Int} (h : SlI lo hi w v xs) (hp : 0 < xs.length) : ∃ b off c, v = .slice (some ⟨b, off, none⟩) xs.length c ∧ xs.length ≤ c := by
  obtain ⟨ad, cap, rfl, hc, hm, hr⟩ := h
  obtain ⟨b, off, rfl, _⟩ := hr hp
  exact ⟨b, off, cap, rfl, hc⟩

set_option maxRecDepth 100000 in
theorem grow_c (n : Nat) (w : World) (hn : n ≤ 1099511627776) :
    Calls Try.prog 174 #[.slice none 0 0, .int .i64 n] w fun e w' => ∃ ad m c, e = .returned (.slice ad m c) ∧ w'.ownsRow w.heap.size 3 1 (.slice ad m c) ([] : List Int).length (([] : List Int).map (Value.int .i64)) ∧ Bel w w' := by
  obtain ⟨i0, hi0, hz0, hz1, hz2⟩ := info_parts Try.info3
  rcases Nat.eq_zero_or_pos n with rfl | hp
  · go_enter Try.func174, Try.ntmps174
    go_wp2_with fail
    go_ret
    exact ⟨_, _, _, rfl, World.ownsRow_nil _ _ _ _, Bel.rfl' _⟩
  · have hrun := Lib.run_append_nil_zeros (P := Try.prog) w 22 3 22 3 i0 (.int .i64 0) .i64 .i64 Try.underlying22 Try.underlying3 hi0 hz0 n hp (by omega) (by omega) (by rw [hz2]; omega)
    go_enter Try.func174, Try.ntmps174
    go_wp2_with (at_builtin; refine Lib.wpList_append_run _ rfl _ _ _ _ rfl _ _ rfl rfl _ _ hrun ?_)
    go_ret
    refine ⟨_, _, _, rfl, ⟨by simp, .inr ⟨w.heap.size, grownCap w n 0 3, _, rfl, Nat.le_refl _, heap_alloc_new w _, Nat.zero_le _, grownCap_le_maxLen w n 0 3 (by unfold maxLen; omega), ?_, by simp⟩⟩, (Bel.alloc0 w _).drew⟩
    have := grownCap_ge w n 0 3
    simp [size_zeroCells]
    omega

/-- A slice of slices of ints, as Concat reads it. -/
def PartsAt (lo hi : Nat) (w : World) (B o : Nat) (L : List (List Int)) : Prop :=
  ∀ j, j < L.length → ∃ ad c, w.cell? ⟨B, o + j, none⟩ = some (.slice ad (L.getD j []).length c) ∧ SlI lo hi w (.slice ad (L.getD j []).length c) (L.getD j [])
theorem PartsAt.below {lo hi : Nat} {w w' : World} {B o : Nat} {L : List (List Int)} (h : PartsAt lo hi w B o L) (hb : Bel w w') : PartsAt lo hi w' B o L := fun j hj => by
  obtain ⟨ad, c, h1, h2⟩ := h j hj
  exact ⟨ad, c, hb.at (World.block_lt_of_cell? w ⟨B, o + j, none⟩ h1) h1, h2.below hb⟩
def sumLen (L : List (List Int)) : Nat := (L.map List.length).sum
theorem sumLen_take (L : List (List Int)) (j : Nat) (h : j < L.length) : sumLen (L.take (j+1)) = sumLen (L.take j) + (L.getD j []).length := by
  unfold sumLen
  rw [List.take_succ_eq_append_getElem h, List.map_append, List.sum_append]
  simp only [List.map_cons, List.map_nil, List.sum_cons, List.sum_nil, Nat.add_zero]
  simp [List.getD, h]
theorem sumLen_le (L : List (List Int)) (j : Nat) : sumLen (L.take j) ≤ sumLen L := by
  unfold sumLen
  conv => rhs; rw [← List.take_append_drop j L]
  rw [List.map_append, List.sum_append]
  exact Nat.le_add_right _ _
theorem flat_take (L : List (List Int)) (j : Nat) (h : j < L.length) : (L.take (j+1)).flatten = (L.take j).flatten ++ L.getD j [] := by
  rw [List.take_succ_eq_append_getElem h, List.flatten_append]
  simp only [List.flatten_cons, List.flatten_nil, List.append_nil]
  simp [List.getD, h]
theorem flat_len (L : List (List Int)) : L.flatten.length = sumLen L := by simp [sumLen, List.length_flatten]

set_option maxRecDepth 100000 in
set_option maxHeartbeats 1000000 in
theorem concat_c (lo hi B o c : Nat) (L : List (List Int)) (w : World) (hL : L.length ≤ 1048576) (hs : sumLen L ≤ 1099511627776) (hp : PartsAt lo hi w B o L) :
    Calls Try.prog 156 #[.slice (some ⟨B, o, none⟩) L.length c] w (RetI w L.flatten) := by
  obtain ⟨i0, hi0, hz0, hz1, hz2⟩ := info_parts Try.info3
  go_enter Try.func156, Try.ntmps156
  go_wp2_with fail
  go_loop [3, 11] (fun n i => ∃ j : Nat, j ≤ L.length ∧ i = .int .i64 j ∧ n = .int .i64 (sumLen (L.take j))) (fun _ i => L.length - (intOf i).toNat)
  case atStart => exact ⟨0, Nat.zero_le _, rfl, by simp [sumLen]⟩
  case round =>
    obtain ⟨j, hj, rfl, rfl⟩ := hrel
    have hle := sumLen_le L j
    by_cases hlt : j < L.length
    · obtain ⟨ad, cc, hcell, hsl⟩ := hp j hlt
      have E := Lib.hid (sumLen_take L j hlt)
      have hle2 := sumLen_le L (j + 1)
      rw [E.out] at hle2
      clear hp hsl
      generalize L.getD j [] = xs at *
      generalize sumLen (L.take j) = m at *
      go_wp2_with fail
      go_round
      case rel => exact ⟨j + 1, by omega, by go_num, by rw [E.out]; go_num⟩
      case measure => simp [intOf]; omega
    · have e1 : L.take j = L := List.take_of_length_le (by omega)
      rw [e1]
      clear e1
      go_wp2_with fail
      refine (grow_c (sumLen L) _ (by omega)).mono ?_; rintro e w1 ⟨ad, m, c1, rfl, hown, hb⟩
      go_wp2_with fail
      go_loopw [6, 27] (fun v i wr => ∃ j : Nat, j ≤ L.length ∧ i = .int .i64 j ∧ wr.ownsRow w.heap.size 3 1 v (L.take j).flatten.length ((L.take j).flatten.map (Value.int .i64)) ∧ Bel w wr) (fun _ i _ => L.length - (intOf i).toNat)
      case atStart => exact ⟨0, Nat.zero_le _, rfl, by simpa using hown, hb⟩
      case round =>
        obtain ⟨j, hj, rfl, hown, hb⟩ := hrel
        have hle := sumLen_le L j
        rw [← flat_len] at hle
        by_cases hlt : j < L.length
        · obtain ⟨ad, cc, hcell, hsl⟩ := (hp.below hb) j hlt
          have E := Lib.hid (flat_take L j hlt)
          have hle2 := sumLen_le L (j + 1)
          rw [← flat_len, E.out, List.length_append] at hle2
          clear hp
          generalize L.getD j [] = xs at *
          generalize (L.take j).flatten = acc at *
          cases ad with
          | none =>
            obtain ⟨ad', cap', e, -, hm, hr⟩ := hsl
            simp only [Value.slice.injEq] at e
            obtain ⟨rfl, -, rfl⟩ := e
            obtain rfl : xs = [] := by
              rcases Nat.eq_zero_or_pos xs.length with h0 | h0
              · exact List.length_eq_zero_iff.1 h0
              · obtain ⟨_, _, e, _⟩ := hr h0; simp at e
            obtain rfl : cc = 0 := hm.2 rfl
            have E2 := Lib.hid (show (L.take (j+1)).flatten = acc by rw [E.out]; simp)
            clear hr hm E
            go_wp2_with (at_builtin; refine wpList_append_own_none rfl _ _ 22 rfl w.heap.size 3 i0 1 Try.underlying22 hi0 _ _ _ rfl hown rfl ?_)
            go_roundw
            case rel => exact ⟨j + 1, by omega, by go_num, by rw [E2.out]; exact hown, hb⟩
            case measure => simp [intOf]; omega
          | some a =>
            have hn := news_of_sl hsl
            clear hsl
            go_wp2_with (at_builtin; refine wpList_append_own _ rfl _ _ 22 rfl w.heap.size 3 i0 (.int .i64 0) 1 8 Try.underlying22 hi0 hz0 hz1 hz2 rfl (by decide) _ _ _ rfl hown a xs.length cc (xs.map (Value.int .i64)) rfl (by simp) hn (ones_int _) (by unfold maxLen; omega) (by omega) hb.size ?_; intro v' w2 hown' hgrow _)
            have hb2 := hb.grown hgrow (fun k hk => own_base hown k hk)
            have hown2 : w2.ownsRow w.heap.size 3 1 v' (acc ++ xs).length ((acc ++ xs).map (Value.int .i64)) := by simpa using hown'
            go_roundw
            case rel => exact ⟨j + 1, by omega, by go_num, by rw [E.out]; exact hown2, hb2⟩
            case measure => simp [intOf]; omega
        · have e1 : L.take j = L := List.take_of_length_le (by omega)
          rw [e1] at hown
          clear e1
          go_wp2_with fail
          obtain ⟨g, n, c2, hv⟩ := own_form hown
          subst hv
          go_ret
          exact ⟨_, _, _, rfl, OwnI.of_row hown, hb⟩

/-- Three slices in a new block, joined. -/
theorem concat3_c (lo hi : Nat) (p0 p1 p2 : Option Addr) (n0 n1 n2 c0 c1 c2 : Nat) (x0 x1 x2 : List Int) (w : World) (hs : x0.length + x1.length + x2.length ≤ 1099511627776)
    (h0 : SlI lo hi w (.slice p0 n0 c0) x0) (h1 : SlI lo hi w (.slice p1 n1 c1) x1) (h2 : SlI lo hi w (.slice p2 n2 c2) x2) (t : TypeId) :
    Calls Try.prog 156 #[.slice (some ⟨w.heap.size, 0, none⟩) 3 3] (w.alloc (.cells #[.slice p0 n0 c0, .slice p1 n1 c1, .slice p2 n2 c2] t)).drew (RetI (w.alloc (.cells #[.slice p0 n0 c0, .slice p1 n1 c1, .slice p2 n2 c2] t)).drew (x0 ++ x1 ++ x2)) := by
  have e0 : n0 = x0.length := by obtain ⟨ad, c, e, _⟩ := h0; simp at e; exact e.2.1
  have e1 : n1 = x1.length := by obtain ⟨ad, c, e, _⟩ := h1; simp at e; exact e.2.1
  have e2 : n2 = x2.length := by obtain ⟨ad, c, e, _⟩ := h2; simp at e; exact e.2.1
  subst e0 e1 e2
  have hb : Bel w (w.alloc (.cells #[.slice p0 x0.length c0, .slice p1 x1.length c1, .slice p2 x2.length c2] t)).drew := (Bel.alloc0 w _).drew
  have hp : PartsAt lo hi (w.alloc (.cells #[.slice p0 x0.length c0, .slice p1 x1.length c1, .slice p2 x2.length c2] t)).drew w.heap.size 0 [x0, x1, x2] := by
    intro j hj
    match j, hj with
    | 0, _ => exact ⟨p0, c0, (World.cell?_alloc_new w _ t 0).trans (by simp), h0.below hb⟩
    | 1, _ => exact ⟨p1, c1, (World.cell?_alloc_new w _ t 1).trans (by simp), h1.below hb⟩
    | 2, _ => exact ⟨p2, c2, (World.cell?_alloc_new w _ t 2).trans (by simp), h2.below hb⟩
  have := concat_c lo hi w.heap.size 0 3 [x0, x1, x2] _ (by simp) (by simp [sumLen]; omega) hp
  simpa using this
end Go.Proofs.Ytikllmdmifecpaa
end
section
/- The laws' helpers over slices of slices of ints, by contracts. -/
namespace Go.Proofs.Ytikllmdmifecpaa
open Go.RowKit

theorem Try.info22 : (Try.prog.info? 22).map (fun i => (i.zero, i.size, i.bytes)) = some (some (.slice none 0 0), 1, 24) := by kernel_rfl

def szS (xss : List (List Int)) (left : Int) : Int := if left - (tot xss : Nat) < 0 then -1 else left - (tot xss : Nat)

set_option maxRecDepth 100000 in
set_option maxHeartbeats 400000 in
theorem szIntSS_c (l h : Nat) (v : Value) (xss : List (List Int)) (left : Int) (w : World) (h0 : 0 ≤ left) (h1 : left ≤ 1048576) (hv : SlS l h w v xss) :
    Calls Try.prog 34 #[v, .int .i64 left] w (RetV w (.int .i64 (szS xss left))) := by
  obtain ⟨ad, cap, rfl⟩ := hv.form
  obtain ⟨hx, hmax⟩ := hv.max
  by_cases hs : left - xss.length < 0
  · have E : Hid (szS xss left = -1) := by show szS _ _ = _; unfold szS tot; rw [if_pos (by omega)]
    go_enter Try.func34, Try.ntmps34
    go_wp2_with fail
    go_ret
    exact ⟨by rw [E.out]; rfl, Bel.rfl' _⟩
  · have hw1 := IntWalk.i64_in (left - xss.length) (by omega)
    go_enter Try.func34, Try.ntmps34
    go_wp2_with fail
    go_loopw [1, 5] (fun m i wr => ∃ (k : Nat) (z : Int), k ≤ xss.length ∧ i = .int .i64 k ∧ m = .int .i64 z ∧ 0 ≤ z ∧ z = left - xss.length - (sumL (xss.take k) : Nat) ∧ Bel w wr) (fun _ i _ => xss.length - (intOf i).toNat)
    case atStart => exact ⟨0, _, Nat.zero_le _, rfl, by go_num, by omega, by simp [sumL], Bel.rfl' _⟩
    case round =>
      obtain ⟨k, z, hk, rfl, rfl, hz0, hz, hb⟩ := hrel
      by_cases hlt : k < xss.length
      · obtain ⟨b, off, u, rfl, -, hc, hu⟩ := hv.at hb k hlt
        have hm := hmax k hlt
        have hst := sumL_take xss k hlt
        have hsl := sumL_get xss k hlt
        have hcall := szIntS_c l h u (xss.getD k []) z wr hm hz0 (by omega) hu
        by_cases hneg : z - (xss.getD k []).length < 0
        · have e1 : szI (xss.getD k []).length z = -1 := by unfold szI; rw [if_pos hneg]
          have E : Hid (szS xss left = -1) := by show szS _ _ = _; unfold szS tot; rw [if_pos (by omega)]
          rw [e1] at hcall
          have HC := Lib.hid hcall
          clear hcall hv hu hmax hst hsl e1 hneg hz
          go_wp2_with (go_at_call 70; refine HC.out.mono ?_; rintro e w' ⟨rfl, hb1⟩)
          go_ret
          exact ⟨by rw [E.out]; rfl, hb.step hb1⟩
        · have e1 : szI (xss.getD k []).length z = z - (xss.getD k []).length := by unfold szI; rw [if_neg hneg]
          have hz' : z - ((xss.getD k []).length : Int) = left - xss.length - (sumL (xss.take (k+1)) : Nat) := by omega
          rw [e1] at hcall
          have HC := Lib.hid hcall
          have HZ := Lib.hid hz'
          have hz2 : 0 ≤ z - ((xss.getD k []).length : Int) := by omega
          clear hcall hv hu hmax hst hsl e1 hneg hz hz'
          generalize z - ((xss.getD k []).length : Int) = z2 at *
          go_wp2_with (go_at_call 70; refine HC.out.mono ?_; rintro e w' ⟨rfl, hb1⟩)
          go_roundw
          case rel => exact ⟨k+1, z2, by omega, by go_num, rfl, hz2, HZ.out, hb.step hb1⟩
          case measure => simp [intOf]; omega
      · have E : Hid (szS xss left = z) := by
          show szS _ _ = _
          rw [sumL_all xss k hlt] at hz
          unfold szS tot; rw [if_neg (by omega)]; omega
        clear hz
        go_wp2_with fail
        go_ret
        exact ⟨by rw [E.out]; rfl, hb⟩

set_option maxRecDepth 100000 in
set_option maxHeartbeats 400000 in
theorem toIntSS_c (l h : Nat) (v : Value) (xss : List (List Int)) (w : World) (hx : short xss) (hv : SlS l h w v xss) :
    Calls Try.prog 37 #[v] w (RetSS w xss) := by
  obtain ⟨ad, cap, rfl⟩ := hv.form
  obtain ⟨hx, hmax⟩ := hx
  obtain ⟨i0, hi, hz0, hz1, hz2⟩ := info_parts Try.info22
  go_enter Try.func37, Try.ntmps37
  go_wp2_with (at_make; refine wpList_make_full _ rfl _ _ 26 rfl w.heap.size 22 i0 (.slice none 0 0) 1 Try.underlying26 hi hz0 hz1 _ _ _ _ xss.length rfl rfl rfl rfl (by rw [hz2]; omega) (by unfold maxLen; omega) (Nat.le_refl _) ?_; intro w1 hown hg)
  have hz3 : (madeCells (Value.slice none 0 0).cells (xss.length * 1)).toList = [] ++ List.replicate (xss.length - 0) (Value.slice none 0 0) := by
    rw [Nat.mul_one]; show (madeCells #[_] _).toList = _; rw [toList_madeCells_one]; simp
  rw [hz3] at hown
  have hb0 : Bel w w1 := (Bel.rfl' w).grown hg (by simp)
  have hs1 : w.heap.size + 1 ≤ w1.heap.size := by
    rcases hown.2 with ⟨e, _⟩ | ⟨g, c, cur, e, _, hh, _⟩
    · simp at e
    · simp at e; have := (Array.getElem?_eq_some_iff.1 hh).1; omega
  clear hg hz3
  go_loopw [4] (fun i wr => ∃ (k : Nat) (us : List Value) (bs : Nat → Nat), k ≤ xss.length ∧ i = .int .i64 k ∧ wr.ownsRow w.heap.size 22 1 (.slice (some ⟨w.heap.size, 0, none⟩) xss.length xss.length) xss.length (us ++ List.replicate (xss.length - k) (Value.slice none 0 0)) ∧
    Ins (w.heap.size + 1) wr.heap.size w.heap.size wr us (xss.take k) bs ∧ w.heap.size + 1 ≤ wr.heap.size ∧ Bel w wr) (fun i _ => xss.length - (intOf i).toNat)
  case atStart => exact ⟨0, [], _, Nat.zero_le _, rfl, hown, (Ins.none _ _ _ _), hs1, hb0⟩
  case round =>
    obtain ⟨k, us, bs, hk, rfl, ho, hin, hs, hb⟩ := hrel
    have hul : us.length = k := by have := hin.len; simp at this; omega
    by_cases hlt : k < xss.length
    · obtain ⟨b, off, u, rfl, hbs, hc, hu⟩ := hv.at hb k hlt
      have hm := hmax k hlt
      have hcall := toIntS_c l h u (xss.getD k []) wr hm hu
      have HC := Lib.hid hcall
      have HI := Lib.hid hin
      have HO := Lib.hid ho
      clear hv hcall hu hmax hown hin ho
      go_wp2_with (go_at_call 12; refine HC.out.mono ?_; rintro e w' ⟨ad2, n2, c2, rfl, ho2, hb2⟩; have ho3 := ownsRow_bel HO.out hb2; have hcell := ho3.cellAt k (by omega); have hf := ho3.frozenAt k; rw [List.getElem?_append_right (by omega), hul, Nat.sub_self, List.getElem?_replicate, if_pos (by omega)] at hcell)
      go_roundw
      case rel =>
        have hst := ho3.stored k (.slice ad2 n2 c2)
        rw [List.set_append_right _ _ (by omega), hul, Nat.sub_self, show xss.length - k = (xss.length - (k+1)) + 1 from by omega, List.replicate_succ, List.set_cons_zero] at hst
        have hsz := hb2.size
        obtain ⟨bs', hin'⟩ := (HI.out.below hb2).snoc ho2 (Nat.le_refl _) hs (.inl (by omega)) (hi2 := w'.heap.size) (Nat.le_refl _) hsz
        have hin2 := hin'.same (w' := w'.setCell ⟨w.heap.size, k, none⟩ (.slice ad2 n2 c2)) (fun b h1 h2 _ => Below.heap_setCell w' _ _ b (by simp; omega))
        rw [show xss.take k ++ [xss.getD k []] = xss.take (k+1) from by rw [List.take_succ_eq_append_getElem hlt]; simp [List.getD, hlt]] at hin2
        refine ⟨k+1, us ++ [.slice ad2 n2 c2], bs', by omega, by go_num, by simpa using hst.1, by simpa using hin2, by simpa using (by omega : w.heap.size + 1 ≤ w'.heap.size), (hb.step hb2).setCell (p := ⟨w.heap.size, k, none⟩) (Nat.le_refl _) _⟩
      case measure => simp [intOf]; omega
    · rw [show xss.length - k = 0 from by omega, List.replicate_zero, List.append_nil] at ho
      rw [List.take_of_length_le (by omega)] at hin
      have HI := Lib.hid hin
      have HO := Lib.hid ho
      clear hin ho hv hmax hown
      go_wp2_with fail
      go_ret
      exact ⟨_, _, _, rfl, OwnS.of_row HO.out (Nat.le_refl _) (fun g hg => by simp [Value.ownBlock] at hg; subst hg; exact HI.out.mono (by omega) (Nat.le_refl _)), hb⟩

set_option maxRecDepth 100000 in
set_option maxHeartbeats 400000 in
theorem eqIntSS_same (l h l' h' : Nat) (v u : Value) (xss : List (List Int)) (w : World) (hx : short xss) (hv : SlS l h w v xss) (hu : SlS l' h' w u xss) :
    Calls Try.prog 14 #[v, u] w (RetV w (.bool true)) := by
  obtain ⟨ad, cap, rfl⟩ := hv.form
  obtain ⟨ad', cap', rfl⟩ := hu.form
  obtain ⟨hx, hmax⟩ := hx
  have hl' : ((xss.length : Int) != xss.length) = false := by simp
  go_enter Try.func14, Try.ntmps14
  go_wp2_with fail
  go_loopw [5] (fun i wr => ∃ k : Nat, k ≤ xss.length ∧ i = .int .i64 k ∧ Bel w wr) (fun i _ => xss.length - (intOf i).toNat)
  case atStart => exact ⟨0, Nat.zero_le _, rfl, Bel.rfl' _⟩
  case round =>
    obtain ⟨k, hk, rfl, hb⟩ := hrel
    by_cases hlt : k < xss.length
    · obtain ⟨b, off, p, rfl, -, hc, hp⟩ := hv.at hb k hlt
      obtain ⟨b', off', q, rfl, -, hc', hq⟩ := hu.at hb k hlt
      have hm := hmax k hlt
      have hbp := World.block_lt_of_cell? wr ⟨b, off + k, none⟩ hc
      have hbq := World.block_lt_of_cell? wr ⟨b', off' + k, none⟩ hc'
      have HC := Lib.hid (fun w' (h1 : Bel wr w') => eqIntS_same _ _ _ _ p q (xss.getD k []) w' hm (hp.below h1) (hq.below h1))
      clear hv hu hmax hp hq
      have hin1 : (k : Int) < xss.length := by omega
      go_wp2_with fail
      go_region_held3 (fun w' => Bel wr w' ∧ w'.cell? ⟨b, off + k, none⟩ = some p ∧ w'.cell? ⟨b', off' + k, none⟩ = some q)
        (first | exact ⟨Bel.drew0 _, hc, hc'⟩ | exact ⟨hb2.of_drew, hb2.at hbp hc, hb2.at hbq hc'⟩)
        (first | (go_at_call 16; refine (HC.out _ (Bel.drew0 _)).mono ?_; rintro e w2 ⟨rfl, hb2⟩))
      go_wp2_with fail
      go_roundw
      case rel => exact ⟨k+1, by omega, by go_num, hb.step hb2.of_drew⟩
      case measure => simp [intOf]; omega
    · go_wp2_with fail
      go_ret
      exact ⟨rfl, hb⟩

def RetMS (lo hi : Nat) (w : World) (v : Value) (xss : List (List Int)) (k : Nat) (e : Ending) (w' : World) : Prop := e = .returned (.int .i64 ((k + sumL xss : Nat) : Int)) ∧ Chg lo hi w w' ∧ OwnS lo hi w' v (marksS k xss)

set_option maxRecDepth 100000 in
set_option maxHeartbeats 400000 in
theorem markIntSS_c (lo hi : Nat) (v : Value) (xss : List (List Int)) (k : Nat) (w : World) (hx : tot xss ≤ 1048576) (hk : k ≤ 1073741824) (hv : OwnS lo hi w v xss) :
    Calls Try.prog 19 #[v, .int .i64 k] w (RetMS lo hi w v xss k) := by
  obtain ⟨ad, cap, rfl⟩ := hv.sl.form
  unfold tot at hx
  go_enter Try.func19, Try.ntmps19
  go_wp2_with fail
  go_loopw [1, 5] (fun m i wr => ∃ j : Nat, j ≤ xss.length ∧ i = .int .i64 j ∧ m = .int .i64 ((k + sumL (xss.take j) : Nat) : Int) ∧ OwnS lo hi wr (.slice ad xss.length cap) (markedS xss k j) ∧ Chg lo hi w wr) (fun _ i _ => xss.length - (intOf i).toNat)
  case atStart => exact ⟨0, Nat.zero_le _, rfl, by simp [sumL], by rw [markedS_zero]; exact hv, Chg.refl _ _ _⟩
  case round =>
    obtain ⟨j, hj, rfl, rfl, ho, hb⟩ := hrel
    by_cases hlt : j < xss.length
    · have hl := markedS_len xss k j hj
      have hst := sumL_take xss j hlt
      have hsl := sumL_get xss j hlt
      obtain ⟨ad', cap', e, hc, hm, hr⟩ := ho
      obtain ⟨b, off, us, bs, rfl, a1, a2, a3, hin⟩ := hr (by omega)
      simp only [Value.slice.injEq] at e
      obtain ⟨rfl, -, rfl⟩ := e
      have hul := hin.len
      have hju : us[j]? = some us[j] := List.getElem?_eq_getElem (by omega)
      have hcell := a3 j _ hju
      have hown := hin.own j _ hju
      have hget := markedS_get xss k j hlt
      have hsucc := markedS_succ xss k j hlt
      generalize us[j] = u at hju hcell hown
      generalize hq : (if 0 < (xss.getD j []).length then bs j else 0) = q
      generalize hq2 : (if 0 < (xss.getD j []).length then bs j + 1 else 0) = q2
      have hown2 : OwnI q q2 wr u (xss.getD j []) := by
        rw [← hq, ← hq2]; rw [hget] at hown
        split
        · exact hown
        · rename_i h0; rw [len0 h0] at hown ⊢; exact hown.empty
      have hcall := markIntS_c q q2 u (xss.getD j []) (k + sumL (xss.take j)) wr (by omega) (by omega) hown2
      have HC := Lib.hid hcall
      have HF := Lib.hid (And.intro hin (And.intro a3 (And.intro hju (And.intro hc (And.intro hm (And.intro hget (And.intro hsucc (And.intro hq (And.intro hq2 (And.intro a1 (And.intro a2 (And.intro hst hl))))))))))))
      have HB := Lib.hid hb
      have hkj : k + sumL (xss.take j) ≤ 1073741824 + 1048576 := by have := sumL_le xss j; omega
      clear hr hb hv hcall hown hown2 hin a3 hju hc hm hget hsucc hq hq2 hst hl
      generalize hz : k + sumL (xss.take j) = z at *
      go_wp2_with (go_at_call 18; refine HC.out.mono ?_; rintro e w' ⟨rfl, hch, hom⟩)
      go_roundw
      case rel =>
        obtain ⟨hin, a3, hju, hc, hm, hget, hsucc, hq, hq2, a1, a2, hst, hl⟩ := HF.out
        have hpos : 0 < (xss.getD j []).length → lo ≤ bs j ∧ bs j < hi ∧ bs j ≠ b := fun hp => hin.rng j (by omega) (by rw [hget]; exact hp)
        have hch2 : Chg lo hi wr w' := by
          by_cases hp : 0 < (xss.getD j []).length
          · have := hpos hp
            rw [if_pos hp] at hq hq2
            exact hch.mono (by omega) (by omega)
          · rw [if_neg hp] at hq hq2
            subst hq hq2
            exact ⟨hch.os, hch.tape, hch.output, hch.size, fun b hb _ => hch.block b hb (by omega)⟩
        refine ⟨j+1, by omega, by go_num, by rw [hst, ← Nat.add_assoc, hz]; first | done | (simp [List.getD, hlt]), ?_, HB.out.trans hch2⟩
        rw [← hsucc]
        have hlm : (marks z (xss.getD j []).length).length = ((markedS xss k j).getD j []).length := by rw [marks_len, hget]
        have hom2 : OwnI (bs j) (bs j + 1) w' u (marks z (xss.getD j []).length) := by
          by_cases hp : 0 < (xss.getD j []).length
          · rw [if_pos hp] at hq hq2; rw [← hq, ← hq2] at hom; exact hom
          · rw [len0 hp] at hom ⊢; exact hom.empty
        have hin2 := hin.stored (w' := w') j (by omega) u hju (marks z (xss.getD j []).length) hlm
          (fun hp => by rw [marks_len] at hp; rw [if_pos hp] at hq hq2; rw [hq] at hq2; rw [hq, hq2]; exact hch)
          (fun hp => by rw [marks_len] at hp; rw [if_neg hp] at hq hq2; rw [← hq, ← hq2] at hch; exact hch) hom2
        refine ⟨_, cap, by rw [List.length_set, hl], by rw [List.length_set]; exact hc, hm, fun _ => ⟨b, off, us, bs, rfl, a1, a2, fun i x hix => ?_, hin2⟩⟩
        have hbx := a3 i x hix
        have hbl := World.block_lt_of_cell? wr ⟨b, off + i, none⟩ hbx
        refine hch.cell hbl ?_ hbx
        by_cases hp : 0 < (xss.getD j []).length
        · have := hpos hp
          rw [if_pos hp] at hq hq2
          omega
        · rw [if_neg hp] at hq hq2
          omega
      case measure => simp [intOf]; omega
    · rw [markedS_all xss k j hlt] at ho
      rw [sumL_all xss j hlt]
      go_wp2_with fail
      go_ret
      exact ⟨rfl, hb, ho⟩

set_option maxRecDepth 100000 in
set_option maxHeartbeats 400000 in
theorem heldIntSS_c (l h : Nat) (v : Value) (xss : List (List Int)) (k : Nat) (w : World) (hx : tot xss ≤ 1048576) (hk : k ≤ 1073741824) (hv : SlS l h w v (marksS k xss)) :
    Calls Try.prog 20 #[v, .int .i64 k] w (RetV w (.int .i64 ((k + sumL xss : Nat) : Int))) := by
  obtain ⟨ad, cap, rfl⟩ := hv.form
  unfold tot at hx
  have hml := marksS_len k xss
  rw [hml]
  go_enter Try.func20, Try.ntmps20
  go_wp2_with fail
  go_loopw [1, 5] (fun m i wr => ∃ j : Nat, j ≤ xss.length ∧ i = .int .i64 j ∧ m = .int .i64 ((k + sumL (xss.take j) : Nat) : Int) ∧ Bel w wr) (fun _ i _ => xss.length - (intOf i).toNat)
  case atStart => exact ⟨0, Nat.zero_le _, rfl, by simp [sumL], Bel.rfl' _⟩
  case round =>
    obtain ⟨j, hj, rfl, rfl, hb⟩ := hrel
    by_cases hlt : j < xss.length
    · have hst := sumL_take xss j hlt
      have hsl := sumL_get xss j hlt
      obtain ⟨b, off, u, rfl, -, hc, hu⟩ := hv.at hb j (by rw [hml]; exact hlt)
      rw [marksS_get k xss j hlt] at hu
      have hcall := heldIntS_c _ _ u (xss.getD j []).length (k + sumL (xss.take j)) wr (by omega) (by omega) hu
      rw [Nat.add_assoc, ← hst] at hcall
      have hnn : decide (((k + sumL (xss.take (j+1)) : Nat) : Int) < 0) = false := by simp; omega
      have hkj : k + sumL (xss.take j) ≤ 1073741824 + 1048576 := by omega
      have HC := Lib.hid hcall
      clear hcall hu hv hst hsl
      generalize hz2 : k + sumL (xss.take (j+1)) = z2 at *
      generalize k + sumL (xss.take j) = z at *
      go_wp2_with (go_at_call 77; refine HC.out.mono ?_; rintro e w' ⟨rfl, hb2⟩)
      go_roundw
      case rel => exact ⟨j+1, by omega, by go_num, by rw [hz2], hb.step hb2⟩
      case measure => simp [intOf]; omega
    · rw [sumL_all xss j hlt]
      go_wp2_with fail
      go_ret
      exact ⟨rfl, hb⟩
end Go.Proofs.Ytikllmdmifecpaa
end
section
/- RenameOf: the inner functions. -/
namespace Go.Proofs.Ytikllmdmifecpaa
open Go.RowKit

set_option maxRecDepth 100000 in
set_option maxHeartbeats 400000 in
theorem l1Has_c (l h : Nat) (v : Value) (t : List Int) (n : Int) (w : World) (ht : t.length ≤ 1048576) (hv : SlI l h w v t) :
    Calls Try.prog 172 #[v, .int .i64 n] w (RetV w (.bool (decide (n ∈ t)))) := by
  obtain ⟨ad, cap, rfl⟩ := hv.form
  go_enter Try.func172, Try.ntmps172
  go_wp2_with fail
  go_loop [9] (fun i => ∃ k : Nat, k ≤ t.length ∧ i = .int .i64 k ∧ n ∉ t.take k) (fun i => t.length - (intOf i).toNat)
  case atStart => exact ⟨0, Nat.zero_le _, rfl, by simp⟩
  case round =>
    obtain ⟨k, hk, rfl, hn⟩ := hrel
    by_cases hlt : k < t.length
    · obtain ⟨b, off, rfl, -, hcell⟩ := hv.at k hlt
      have E1 := Lib.hid (fun h => not_take_succ hlt (n := n) h hn)
      have E2 := Lib.hid (show t.getD k 0 = n → n ∈ t from fun h => by rw [← h]; simp [List.getD, hlt])
      clear hn hv
      generalize t.getD k 0 = x at *
      by_cases hx : x = n
      · have E : Hid (decide (n ∈ t) = true) := by show _ = _; simpa using E2.out hx
        have hx' : (x == n) = true := by simpa using hx
        clear hx E1 E2
        go_wp2_with fail
        go_ret
        exact ⟨by rw [E.out]; rfl, Bel.rfl' _⟩
      · have E := Lib.hid (E1.out hx)
        have hx' : (x == n) = false := by simpa using hx
        clear hx E1 E2
        go_wp2_with fail
        go_round
        case rel => exact ⟨k+1, by omega, by go_num, E.out⟩
        case measure => simp [intOf]; omega
    · have E : Hid (decide (n ∈ t) = false) := by show _ = _; rw [List.take_of_length_le (by omega)] at hn; simpa using hn
      clear hn
      go_wp2_with fail
      go_ret
      exact ⟨by rw [E.out]; rfl, Bel.rfl' _⟩
theorem l1Has_v (l h : Nat) (v : Value) (t : List Int) (n : Int) (q : Bool) (w : World) (he : decide (n ∈ t) = q) (ht : t.length ≤ 1048576) (hv : SlI l h w v t) :
    Calls Try.prog 172 #[v, .int .i64 n] w (RetV w (.bool q)) := he ▸ l1Has_c l h v t n w ht hv

def rows40 (l : List (List Int)) : Prop := l.length ≤ 20 ∧ ∀ j, j < l.length → (l.getD j []).length ≤ 40 ∧ ∀ k, k < (l.getD j []).length → -12 ≤ (l.getD j []).getD k 0
theorem rows40.mem {l : List (List Int)} (h : rows40 l) : ∀ t ∈ l, t.length ≤ 40 := by
  intro t ht
  obtain ⟨j, hj, rfl⟩ := List.getElem_of_mem ht
  have := (h.2 j hj).1
  simpa [List.getD, hj] using this
theorem rows40.met {l : List (List Int)} (h : rows40 l) (k : Nat) : (metS [] (l.take k)).length ≤ 800 := by
  have h1 := metS_len (l := l.take k) [] (fun t ht => h.mem t (List.mem_of_mem_take ht))
  have h2 := h.1
  simp at h1
  omega
theorem news_oneV (w : World) (x : Value) (t : TypeId) : ∀ j u, [x][j]? = some u → (w.alloc (.cells #[x] t)).cell? ((⟨w.heap.size, 0, none⟩ : Addr).add j) = some u := news_one w x t
theorem one_slice (a : Option Addr) (n c : Nat) : ∀ u ∈ [Value.slice a n c], u.oneCell' = true := by intro u hu; simp at hu; subst hu; rfl

set_option maxRecDepth 100000 in
set_option maxHeartbeats 2000000 in
theorem l2Rename_c (lo hi : Nat) (v : Value) (l : List (List Int)) (w : World) (hl : rows40 l) (hv : SlS lo hi w v l) :
    Calls Try.prog 147 #[v] w (RetSS w (renS [] l)) := by
  obtain ⟨ad, cap, rfl⟩ := hv.form
  obtain ⟨i0, hi0, hz0, hz1, hz2⟩ := info_parts Try.info3
  obtain ⟨i1, hi1, hy0, hy1, hy2⟩ := info_parts Try.info22
  have hl20 := hl.1
  go_enter Try.func147, Try.ntmps147
  go_wp2_with fail
  go_loopw [3, 4, 14] (fun vm vo i wr => ∃ (k : Nat) (tag : Nat → Nat) (us : List Value), k ≤ l.length ∧ i = .int .i64 k ∧ OwnT w.heap.size tag 0 3 wr vm ((metS [] (l.take k)).map (Value.int .i64)) ∧ OwnT w.heap.size tag 2 22 wr vo us ∧ InT w.heap.size tag 3 wr us (renS [] (l.take k)) ∧ Bel w wr) (fun _ _ i _ => l.length - (intOf i).toNat)
  case atStart => exact ⟨0, fun _ => 0, [], Nat.zero_le _, rfl, OwnT.nil _ _ _ _ _, OwnT.nil _ _ _ _ _, InT.nil _ _ _ _, Bel.rfl' _⟩
  case round =>
    obtain ⟨k, tag, us, hk, rfl, hM, hO, hI, hb⟩ := hrel
    by_cases hlt : k < l.length
    · obtain ⟨b1, off1, p, rfl, hbl1, hc1w, hp⟩ := hv.at (Bel.rfl' w) k hlt
      have hc1 := hb.at hbl1 hc1w
      have hms := metS_succ [] l k hlt
      have hrs := renS_succ [] l k hlt
      have hml := hl.met k
      have hneg : negM (metS [] (l.take k)) := negM.metS (by intro x hx; simp at hx) _
      obtain ⟨ht40, htl⟩ := hl.2 k hlt
      have hiL : us.length = (renS [] (l.take k)).length := hI.1
      rw [renS_len, List.length_take] at hiL
      generalize hMt : metS [] (l.take k) = M at *
      generalize hRt : renS [] (l.take k) = R at *
      generalize hMt2 : metS [] (l.take (k+1)) = M2 at *
      generalize hRt2 : renS [] (l.take (k+1)) = R2 at *
      generalize l.getD k [] = t at *
      have HSS := Lib.hid (And.intro hms (And.intro hrs (And.intro hMt2 hRt2)))
      have HNG := Lib.hid hneg
      clear hms hrs hMt hRt hMt2 hRt2 hneg
      obtain ⟨ap, cp, rfl⟩ := hp.form
      go_wp2_with fail
      go_loopw [3, 7, 20] (fun vm vx i wr => ∃ (j : Nat) (tag : Nat → Nat), j ≤ t.length ∧ i = .int .i64 j ∧ OwnT w.heap.size tag 0 3 wr vm ((metT M (t.take j)).map (Value.int .i64)) ∧ OwnT w.heap.size tag 1 3 wr vx ((renT M (t.take j)).map (Value.int .i64)) ∧ OwnT w.heap.size tag 2 22 wr u4 us ∧ InT w.heap.size tag 3 wr us R ∧ Bel w wr) (fun _ _ i _ => t.length - (intOf i).toNat)
      case atStart => exact ⟨0, tag, Nat.zero_le _, rfl, hM, OwnT.nil _ _ _ _ _, hO, hI, hb⟩
      case round =>
        clear hM hO hI
        obtain ⟨i, tag1, hi, rfl, hM, hX, hO, hI, hb1⟩ := hrel
        by_cases hlt2 : i < t.length
        · obtain ⟨b2, off2, rfl, -, hc2⟩ := (hp.below hb1).at i hlt2
          have hsm := metT_succ M t i hlt2
          have hsr := renT_succ M t i hlt2
          have hn12 := htl i hlt2
          have hml2 := metT_len M (t.take i)
          have hxl := renT_len M (t.take i)
          rw [List.length_take] at hml2 hxl
          have hng := HNG.out.metT (t.take i)
          generalize hq1 : metT M (t.take i) = M1 at *
          generalize hq2 : renT M (t.take i) = X1 at *
          generalize hq3 : metT M (t.take (i+1)) = M3 at *
          generalize hq4 : renT M (t.take (i+1)) = X3 at *
          generalize t.getD i 0 = n at *
          have hst := hng.step n
          have hmem := stepM_mem M1 n
          by_cases hneg : n < 0
          · by_cases hin : n ∈ M1
            · rw [stepM_old hin] at hsm hsr hst hmem
              have HS := Lib.hid (And.intro (hq3.trans hsm) (hq4.trans hsr))
              have HN := Lib.hid hst
              have HE := Lib.hid hmem
              clear hq1 hq2 hq3 hq4 hsm hsr hst hmem hng
              obtain ⟨am, nm, cm, rfl⟩ := own_form hM.1
              have hnm := row_len hM.1
              rw [List.length_map] at hnm
              subst hnm
              have hin' : decide (n ∈ M1) = true := by simpa using hin
              clear hin
              go_wp2_with (go_at_call 172; refine (l1Has_v _ _ _ M1 n true _ hin' (by omega) hM.sl).mono ?_; rintro e w2 ⟨rfl, hb2⟩)
              replace hM := hM.bel hb2
              replace hX := hX.bel hb2
              replace hO := hO.bel hb2
              replace hI := hI.bel hb2
              have hbn := hb1.step hb2
              have hMs := hM.sl
              clear hb2
              go_wp2_with fail
              go_loop [9, 38] (fun x i => ∃ k : Nat, k ≤ (M1).length ∧ i = .int .i64 k ∧ x = .int .i64 n ∧ n ∉ (M1).take k) (fun _ i => (M1).length - (intOf i).toNat)
              case atStart => exact ⟨0, Nat.zero_le _, rfl, rfl, by simp⟩
              case round =>
                obtain ⟨j, hj, rfl, rfl, hnj⟩ := hrel
                by_cases hjl : j < (M1).length
                · obtain ⟨b3, off3, rfl, -, hcell3⟩ := hMs.at j hjl
                  have E1 := Lib.hid (fun h => not_take_succ hjl (n := n) h hnj)
                  have E2 := Lib.hid (fun h => val_found HN.out hjl (n := n) h hnj)
                  clear hnj hMs
                  generalize (M1).getD j 0 = y at *
                  by_cases hy : y = n
                  · have EV := Lib.hid (E2.out hy)
                    have hy' : (y == n) = true := by simpa using hy
                    clear hy E1 E2
                    have hw9 := IntWalk.i64_in (-1 - (j : Int)) (by omega)
                    go_wp2_with (at_builtin; refine wpList_append_own_at _ rfl _ _ 22 rfl w.heap.size 3 i0 (.int .i64 0) 1 8 Try.underlying22 hi0 hz0 hz1 hz2 rfl (by decide) _ _ _ rfl (hX.alloc _).1 _ _ _ [.int .i64 (-1 - (j : Int))] rfl rfl (news_one _ _ _) (one_int _) (by unfold maxLen; simp only [List.length_map]; omega) (by simp only [List.length_map]; omega) (by have := hbn.size; simp; omega) ?_; intro v' w1 hown' hgrow _ hat)
                    obtain ⟨tag3, hX3, hT3⟩ := tag_snoc (hX.alloc _) hown' hgrow hat
                    have hM3 := hT3 _ _ _ _ (by omega) (hM.alloc _)
                    have hO3 := hT3 _ _ _ _ (by omega) (hO.alloc _)
                    have hI3 := (hI.bel (Bel.alloc0 _ _)).step (by omega) hT3
                    have hb3 := hbn.grownT hX (Nat.le_refl _) hgrow
                    go_roundw
                    case rel => exact ⟨i+1, tag3, by omega, by go_num, by rw [HS.out.1]; exact hM3, by rw [HS.out.2, EV.out]; exact hX3, hO3, hI3, hb3⟩
                    case measure => simp [intOf]; omega
                  · have E := Lib.hid (E1.out hy)
                    have hy' : (y == n) = false := by simpa using hy
                    clear hy E1 E2
                    go_wp2_with fail
                    go_round
                    case rel => exact ⟨j+1, by omega, by go_num, rfl, E.out⟩
                    case measure => simp [intOf]; omega
                · have EV : Hid (valM (M1) n = n) := by show _ = _; exact val_end HE.out (by rw [List.take_of_length_le (by omega)] at hnj; exact hnj)
                  clear hnj
                  go_wp2_with (at_builtin; refine wpList_append_own_at _ rfl _ _ 22 rfl w.heap.size 3 i0 (.int .i64 0) 1 8 Try.underlying22 hi0 hz0 hz1 hz2 rfl (by decide) _ _ _ rfl (hX.alloc _).1 _ _ _ [.int .i64 (n)] rfl rfl (news_one _ _ _) (one_int _) (by unfold maxLen; simp only [List.length_map]; omega) (by simp only [List.length_map]; omega) (by have := hbn.size; simp; omega) ?_; intro v' w1 hown' hgrow _ hat)
                  obtain ⟨tag3, hX3, hT3⟩ := tag_snoc (hX.alloc _) hown' hgrow hat
                  have hM3 := hT3 _ _ _ _ (by omega) (hM.alloc _)
                  have hO3 := hT3 _ _ _ _ (by omega) (hO.alloc _)
                  have hI3 := (hI.bel (Bel.alloc0 _ _)).step (by omega) hT3
                  have hb3 := hbn.grownT hX (Nat.le_refl _) hgrow
                  go_roundw
                  case rel => exact ⟨i+1, tag3, by omega, by go_num, by rw [HS.out.1]; exact hM3, by rw [HS.out.2, EV.out]; exact hX3, hO3, hI3, hb3⟩
                  case measure => simp [intOf]; omega
            · rw [stepM_new hneg hin] at hsm hsr hst hmem
              have HS := Lib.hid (And.intro (hq3.trans hsm) (hq4.trans hsr))
              have HN := Lib.hid hst
              have HE := Lib.hid hmem
              clear hq1 hq2 hq3 hq4 hsm hsr hst hmem hng
              obtain ⟨am, nm, cm, rfl⟩ := own_form hM.1
              have hnm := row_len hM.1
              rw [List.length_map] at hnm
              subst hnm
              have hin' : decide (n ∈ M1) = false := by simpa using hin
              clear hin
              obtain ⟨M4, hM4⟩ : ∃ M4, M4 = M1 ++ [n] := ⟨_, rfl⟩
              have HM4 := Lib.hid hM4
              clear hM4
              go_wp2_with (first | (go_at_call 172; refine (l1Has_v _ _ _ M1 n false _ hin' (by omega) hM.sl).mono ?_; rintro e w2 ⟨rfl, hb2⟩; replace hM := hM.bel hb2; replace hX := hX.bel hb2; replace hO := hO.bel hb2; replace hI := hI.bel hb2; have hbn0 := hb1.step hb2; clear hb2) | (at_builtin; refine wpList_append_own_at _ rfl _ _ 22 rfl w.heap.size 3 i0 (.int .i64 0) 1 8 Try.underlying22 hi0 hz0 hz1 hz2 rfl (by decide) _ _ _ rfl (hM.alloc _).1 _ _ _ [.int .i64 n] rfl rfl (news_one _ _ _) (one_int _) (by unfold maxLen; simp only [List.length_map]; omega) (by simp only [List.length_map]; omega) (by have := hbn0.size; simp; omega) ?_; intro v' w1 hown' hgrow _ hat; obtain ⟨am2, nm2, cm2, rfl⟩ := own_form hown'; have hnm2 : nm2 = M4.length := (by have := row_len hown'; rw [HM4.out]; simpa using this); subst hnm2))
              obtain ⟨tag2, hM2, hT2⟩ := tag_snoc (hM.alloc _) hown' hgrow hat
              replace hX := hT2 _ _ _ _ (by omega) (hX.alloc _)
              replace hO := hT2 _ _ _ _ (by omega) (hO.alloc _)
              replace hI := (hI.bel (Bel.alloc0 _ _)).step (by omega) hT2
              have hbn := hbn0.grownT hM (Nat.le_refl _) hgrow
              clear hM hown' hgrow hat hT2 hbn0
              have hM := hM2
              clear hM2
              rw [← HM4.out] at hM HS HN HE
              have hMs := hM.sl
              have hml3 : M4.length ≤ 900 := by rw [HM4.out]; simp; omega
              go_wp2_with fail
              go_loop [9, 38] (fun x i => ∃ k : Nat, k ≤ (M4).length ∧ i = .int .i64 k ∧ x = .int .i64 n ∧ n ∉ (M4).take k) (fun _ i => (M4).length - (intOf i).toNat)
              case atStart => exact ⟨0, Nat.zero_le _, rfl, rfl, by simp⟩
              case round =>
                obtain ⟨j, hj, rfl, rfl, hnj⟩ := hrel
                by_cases hjl : j < (M4).length
                · obtain ⟨b3, off3, rfl, -, hcell3⟩ := hMs.at j hjl
                  have E1 := Lib.hid (fun h => not_take_succ hjl (n := n) h hnj)
                  have E2 := Lib.hid (fun h => val_found HN.out hjl (n := n) h hnj)
                  clear hnj hMs
                  generalize (M4).getD j 0 = y at *
                  by_cases hy : y = n
                  · have EV := Lib.hid (E2.out hy)
                    have hy' : (y == n) = true := by simpa using hy
                    clear hy E1 E2
                    have hw9 := IntWalk.i64_in (-1 - (j : Int)) (by omega)
                    go_wp2_with (at_builtin; refine wpList_append_own_at _ rfl _ _ 22 rfl w.heap.size 3 i0 (.int .i64 0) 1 8 Try.underlying22 hi0 hz0 hz1 hz2 rfl (by decide) _ _ _ rfl (hX.alloc _).1 _ _ _ [.int .i64 (-1 - (j : Int))] rfl rfl (news_one _ _ _) (one_int _) (by unfold maxLen; simp only [List.length_map]; omega) (by simp only [List.length_map]; omega) (by have := hbn.size; simp; omega) ?_; intro v'' w9 hown' hgrow _ hat)
                    obtain ⟨tag3, hX3, hT3⟩ := tag_snoc (hX.alloc _) hown' hgrow hat
                    have hM3 := hT3 _ _ _ _ (by omega) (hM.alloc _)
                    have hO3 := hT3 _ _ _ _ (by omega) (hO.alloc _)
                    have hI3 := (hI.bel (Bel.alloc0 _ _)).step (by omega) hT3
                    have hb3 := hbn.grownT hX (Nat.le_refl _) hgrow
                    go_roundw
                    case rel => exact ⟨i+1, tag3, by omega, by go_num, by rw [HS.out.1]; exact hM3, by rw [HS.out.2, EV.out]; exact hX3, hO3, hI3, hb3⟩
                    case measure => simp [intOf]; omega
                  · have E := Lib.hid (E1.out hy)
                    have hy' : (y == n) = false := by simpa using hy
                    clear hy E1 E2
                    go_wp2_with fail
                    go_round
                    case rel => exact ⟨j+1, by omega, by go_num, rfl, E.out⟩
                    case measure => simp [intOf]; omega
                · have EV : Hid (valM (M4) n = n) := by show _ = _; exact val_end HE.out (by rw [List.take_of_length_le (by omega)] at hnj; exact hnj)
                  clear hnj
                  go_wp2_with (at_builtin; refine wpList_append_own_at _ rfl _ _ 22 rfl w.heap.size 3 i0 (.int .i64 0) 1 8 Try.underlying22 hi0 hz0 hz1 hz2 rfl (by decide) _ _ _ rfl (hX.alloc _).1 _ _ _ [.int .i64 (n)] rfl rfl (news_one _ _ _) (one_int _) (by unfold maxLen; simp only [List.length_map]; omega) (by simp only [List.length_map]; omega) (by have := hbn.size; simp; omega) ?_; intro v'' w9 hown' hgrow _ hat)
                  obtain ⟨tag3, hX3, hT3⟩ := tag_snoc (hX.alloc _) hown' hgrow hat
                  have hM3 := hT3 _ _ _ _ (by omega) (hM.alloc _)
                  have hO3 := hT3 _ _ _ _ (by omega) (hO.alloc _)
                  have hI3 := (hI.bel (Bel.alloc0 _ _)).step (by omega) hT3
                  have hb3 := hbn.grownT hX (Nat.le_refl _) hgrow
                  go_roundw
                  case rel => exact ⟨i+1, tag3, by omega, by go_num, by rw [HS.out.1]; exact hM3, by rw [HS.out.2, EV.out]; exact hX3, hO3, hI3, hb3⟩
                  case measure => simp [intOf]; omega
          · rw [stepM_sym hneg] at hsm hsr hst hmem
            have HS := Lib.hid (And.intro (hq3.trans hsm) (hq4.trans hsr))
            have HN := Lib.hid hst
            have HE := Lib.hid hmem
            clear hq1 hq2 hq3 hq4 hsm hsr hst hmem hng
            obtain ⟨am, nm, cm, rfl⟩ := own_form hM.1
            have hnm := row_len hM.1
            rw [List.length_map] at hnm
            subst hnm
            have hbn := hb1
            have hMs := hM.sl
            go_wp2_with fail
            go_loop [9, 38] (fun x i => ∃ k : Nat, k ≤ (M1).length ∧ i = .int .i64 k ∧ x = .int .i64 n ∧ n ∉ (M1).take k) (fun _ i => (M1).length - (intOf i).toNat)
            case atStart => exact ⟨0, Nat.zero_le _, rfl, rfl, by simp⟩
            case round =>
              obtain ⟨j, hj, rfl, rfl, hnj⟩ := hrel
              by_cases hjl : j < (M1).length
              · obtain ⟨b3, off3, rfl, -, hcell3⟩ := hMs.at j hjl
                have E1 := Lib.hid (fun h => not_take_succ hjl (n := n) h hnj)
                have E2 := Lib.hid (fun h => val_found HN.out hjl (n := n) h hnj)
                clear hnj hMs
                generalize (M1).getD j 0 = y at *
                by_cases hy : y = n
                · have EV := Lib.hid (E2.out hy)
                  have hy' : (y == n) = true := by simpa using hy
                  clear hy E1 E2
                  have hw9 := IntWalk.i64_in (-1 - (j : Int)) (by omega)
                  go_wp2_with (at_builtin; refine wpList_append_own_at _ rfl _ _ 22 rfl w.heap.size 3 i0 (.int .i64 0) 1 8 Try.underlying22 hi0 hz0 hz1 hz2 rfl (by decide) _ _ _ rfl (hX.alloc _).1 _ _ _ [.int .i64 (-1 - (j : Int))] rfl rfl (news_one _ _ _) (one_int _) (by unfold maxLen; simp only [List.length_map]; omega) (by simp only [List.length_map]; omega) (by have := hbn.size; simp; omega) ?_; intro v' w1 hown' hgrow _ hat)
                  obtain ⟨tag3, hX3, hT3⟩ := tag_snoc (hX.alloc _) hown' hgrow hat
                  have hM3 := hT3 _ _ _ _ (by omega) (hM.alloc _)
                  have hO3 := hT3 _ _ _ _ (by omega) (hO.alloc _)
                  have hI3 := (hI.bel (Bel.alloc0 _ _)).step (by omega) hT3
                  have hb3 := hbn.grownT hX (Nat.le_refl _) hgrow
                  go_roundw
                  case rel => exact ⟨i+1, tag3, by omega, by go_num, by rw [HS.out.1]; exact hM3, by rw [HS.out.2, EV.out]; exact hX3, hO3, hI3, hb3⟩
                  case measure => simp [intOf]; omega
                · have E := Lib.hid (E1.out hy)
                  have hy' : (y == n) = false := by simpa using hy
                  clear hy E1 E2
                  go_wp2_with fail
                  go_round
                  case rel => exact ⟨j+1, by omega, by go_num, rfl, E.out⟩
                  case measure => simp [intOf]; omega
              · have EV : Hid (valM (M1) n = n) := by show _ = _; exact val_end HE.out (by rw [List.take_of_length_le (by omega)] at hnj; exact hnj)
                clear hnj
                go_wp2_with (at_builtin; refine wpList_append_own_at _ rfl _ _ 22 rfl w.heap.size 3 i0 (.int .i64 0) 1 8 Try.underlying22 hi0 hz0 hz1 hz2 rfl (by decide) _ _ _ rfl (hX.alloc _).1 _ _ _ [.int .i64 (n)] rfl rfl (news_one _ _ _) (one_int _) (by unfold maxLen; simp only [List.length_map]; omega) (by simp only [List.length_map]; omega) (by have := hbn.size; simp; omega) ?_; intro v' w1 hown' hgrow _ hat)
                obtain ⟨tag3, hX3, hT3⟩ := tag_snoc (hX.alloc _) hown' hgrow hat
                have hM3 := hT3 _ _ _ _ (by omega) (hM.alloc _)
                have hO3 := hT3 _ _ _ _ (by omega) (hO.alloc _)
                have hI3 := (hI.bel (Bel.alloc0 _ _)).step (by omega) hT3
                have hb3 := hbn.grownT hX (Nat.le_refl _) hgrow
                go_roundw
                case rel => exact ⟨i+1, tag3, by omega, by go_num, by rw [HS.out.1]; exact hM3, by rw [HS.out.2, EV.out]; exact hX3, hO3, hI3, hb3⟩
                case measure => simp [intOf]; omega
        · rw [List.take_of_length_le (by omega)] at hM hX
          obtain ⟨ax, nx, cx, rfl⟩ := own_form hX.1
          go_wp2_with (at_builtin; refine wpList_append_own_at _ rfl _ _ 26 rfl w.heap.size 22 i1 (.slice none 0 0) 1 24 Try.underlying26 hi1 hy0 hy1 hy2 rfl (by decide) _ _ _ rfl (hO.alloc _).1 _ _ _ [.slice ax nx cx] rfl rfl (news_oneV _ _ _) (one_slice _ _ _) (by unfold maxLen; omega) (by omega) (by have := hb1.size; simp; omega) ?_; intro v' w1 hown' hgrow _ hat)
          obtain ⟨tag3, hO3, hT3⟩ := tag_snocV (hO.alloc _) hown' hgrow hat
          have hM3 := hT3 _ _ _ _ (by omega) (hM.alloc _)
          have hX3 := hT3 _ _ _ _ (by omega) (hX.alloc _)
          have hI3 := (hI.bel (Bel.alloc0 _ _)).step (by omega) hT3
          obtain ⟨tag4, hI4, hT4⟩ := hI3.snoc hX3 (by omega)
          have hM4 := hT4 _ _ _ _ (by omega) hM3
          have hO4 := hT4 _ _ _ _ (by omega) hO3
          have hb3 := hb1.grownT hO (Nat.le_refl _) hgrow
          obtain ⟨e1, e2, e3, e4⟩ := HSS.out
          go_roundw
          case rel => exact ⟨k+1, tag4, us ++ [.slice ax nx cx], by omega, by go_num, by rw [e3, e1]; exact hM4, hO4, by rw [e4, e2]; exact hI4, hb3⟩
          case measure => simp [intOf]; omega
    · rw [List.take_of_length_le (by omega)] at hI
      obtain ⟨ao, no, co, rfl⟩ := own_form hO.1
      go_wp2_with fail
      go_ret
      exact ⟨_, _, _, rfl, OwnS.of_tag hO hI (by omega), hb⟩
end Go.Proofs.Ytikllmdmifecpaa
end
