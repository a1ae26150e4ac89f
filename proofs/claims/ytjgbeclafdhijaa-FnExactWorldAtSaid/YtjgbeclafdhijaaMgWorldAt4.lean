/- Texts merged, part 4. -/
import Derived.Test.YtjgbeclafdhijaaProg
import Derived.Test.YtjgbeclafdhijaaMgWorldAt3
section
/- The laws' own helpers, by contracts: sizes, copies, comparisons, marks over slices of ints and a signature. -/
namespace Go.Proofs.Ytjgbeclafdhijaa
open Go.RowKit



def szI (n left : Int) : Int := if left - n < 0 then -1 else left - n

theorem szIntS_c (l h : Nat) (v : Value) (xs : List Int) (left : Int) (w : World) (hx : xs.length ≤ 9223372036854775807) (h0 : 0 ≤ left) (h1 : left ≤ 1048576) (hv : SlI l h w v xs) :
    Calls Try.prog 20 #[v, .int .i64 left] w (RetV w (.int .i64 (szI xs.length left))) := by
  obtain ⟨ad, cap, rfl, -, -, hr⟩ := hv
  by_cases hs : left - xs.length < 0
  · have E : Hid (szI xs.length left = -1) := by show szI _ _ = _; simp [szI, hs]
    go_enter Try.func20, Try.ntmps20
    go_wp2_with fail
    go_ret
    exact ⟨by rw [E.out]; rfl, Bel.rfl' _⟩
  · have E : Hid (szI xs.length left = left - xs.length) := by show szI _ _ = _; simp [szI, hs]
    go_enter Try.func20, Try.ntmps20
    go_wp2_with fail
    go_ret
    exact ⟨by rw [E.out]; rfl, Bel.rfl' _⟩

theorem szSign_c (l h : Nat) (v : Value) (xs : List Int) (left : Int) (w : World) (hx : xs.length ≤ 9223372036854775807) (h0 : 0 ≤ left) (h1 : left ≤ 1048576) (hv : SlI l h w v xs) :
    Calls Try.prog 5 #[.agg #[v], .int .i64 left] w (RetV w (.int .i64 (szI xs.length left))) := by
  by_cases hs : szI xs.length left < 0
  · have E : Hid (szI xs.length left = -1) := by show szI _ _ = _; revert hs; unfold szI; split <;> omega
    have hl := szIntS_c l h v xs left (w.alloc (.cells #[v] 24)) hx h0 h1 (hv.below (Bel.alloc0 _ _))
    have HL := Lib.hid hl; clear hl
    rw [E.out] at HL
    rw [E.out]
    clear hs
    go_enter Try.func5, Try.ntmps5
    go_wp2_with (go_at_call 20; refine HL.out.mono ?_; rintro e w' ⟨rfl, hb1⟩)
    go_ret
    exact ⟨rfl, hb1.of_alloc⟩
  · have hl := szIntS_c l h v xs left (w.alloc (.cells #[v] 24)) hx h0 h1 (hv.below (Bel.alloc0 _ _))
    have HL := Lib.hid hl; clear hl
    generalize szI xs.length left = r at *
    go_enter Try.func5, Try.ntmps5
    go_wp2_with (go_at_call 20; refine HL.out.mono ?_; rintro e w' ⟨rfl, hb1⟩)
    go_ret
    exact ⟨rfl, hb1.of_alloc⟩

theorem Try.info3 : (Try.prog.info? 3).map (fun i => (i.zero, i.size, i.bytes)) = some (some (.int .i64 0), 1, 8) := by kernel_rfl

def madeI (xs : List Int) (k : Nat) : List Int := xs.take k ++ List.replicate (xs.length - k) 0


theorem madeI_0 (xs : List Int) : (madeCells (Value.int .i64 0).cells (xs.length * 1)).toList = (madeI xs 0).map (Value.int .i64) := by
  rw [Nat.mul_one]; show (madeCells #[_] _).toList = _; rw [toList_madeCells_one]; simp [madeI]
theorem madeI_all (xs : List Int) (k : Nat) (h : ¬ k < xs.length) : madeI xs k = xs := by
  unfold madeI; rw [show xs.length - k = 0 from by omega, List.take_of_length_le (by omega)]; simp
theorem madeI_len (xs : List Int) (k : Nat) (h : k ≤ xs.length) : (madeI xs k).length = xs.length := by simp [madeI]; omega
theorem madeI_get (xs : List Int) (k i : Nat) (h : k ≤ xs.length) : (madeI xs k)[i]? = if i < k then xs[i]? else if i < xs.length then some 0 else none := by
  unfold madeI
  simp only [List.getElem?_append, List.getElem?_take, List.getElem?_replicate, List.length_take]
  grind
theorem madeI_set (xs : List Int) (k : Nat) (h : k < xs.length) : (madeI xs k).set k (xs.getD k 0) = madeI xs (k+1) := by
  apply List.ext_getElem?
  intro i
  rw [List.getElem?_set, madeI_get _ _ _ (by omega), madeI_get _ _ _ (by omega)]
  have : (madeI xs k).length = xs.length := by simp [madeI]; omega
  rw [this]
  by_cases e : k = i
  · subst e; simp [h, List.getD]
  · simp only [e, if_false]
    by_cases h1 : i < k
    · simp [h1, show i < k + 1 from by omega]
    · simp [h1, show ¬ i < k + 1 from by omega]
theorem madeI_succ (xs : List Int) (k : Nat) (h : k < xs.length) : ((madeI xs k).map (Value.int .i64)).set k (.int .i64 (xs.getD k 0)) = (madeI xs (k+1)).map (Value.int .i64) := by
  rw [← List.map_set, madeI_set xs k h]

set_option maxRecDepth 100000 in
theorem toIntS_c (l h : Nat) (v : Value) (xs : List Int) (w : World) (hx : xs.length ≤ 1048576) (hv : SlI l h w v xs) :
    Calls Try.prog 10 #[v] w (RetI w xs) := by
  obtain ⟨ad, cap, rfl, -, -, hr⟩ := hv
  obtain ⟨i0, hi, hz0, hz1, hz2⟩ := info_parts Try.info3
  go_enter Try.func10, Try.ntmps10
  go_wp2_with (at_make; refine wpList_make_full _ rfl _ _ 22 rfl w.heap.size 3 i0 (.int .i64 0) 1 Try.underlying22 hi hz0 hz1 _ _ _ _ xs.length rfl rfl rfl rfl (by rw [hz2]; omega) (by unfold maxLen; omega) (Nat.le_refl _) ?_; intro w1 hown hg)
  rw [madeI_0] at hown
  have hb0 : Bel w w1 := (Bel.rfl' w).grown hg (by simp)
  clear hg
  go_loopw [4] (fun i wr => ∃ k : Nat, k ≤ xs.length ∧ i = .int .i64 k ∧ wr.ownsRow w.heap.size 3 1 (.slice (some ⟨w.heap.size, 0, none⟩) xs.length xs.length) xs.length ((madeI xs k).map (Value.int .i64)) ∧ Bel w wr) (fun i _ => xs.length - (intOf i).toNat)
  case atStart => exact ⟨0, Nat.zero_le _, rfl, hown, hb0⟩
  case round =>
    obtain ⟨k, hk, rfl, ho, hb⟩ := hrel
    by_cases hlt : k < xs.length
    · obtain ⟨b, off, rfl, hbs, hcell⟩ := rd hr hb k hlt
      obtain ⟨y, hc2⟩ := own_cell ho k (by rw [madeI_len xs k hk]; exact hlt)
      have hst := ho.stored k (.int .i64 (xs.getD k 0))
      rw [madeI_succ xs k hlt] at hst
      have hf2 := ho.frozenAt k
      have hb2 := hb.setCell (p := ⟨w.heap.size, k, none⟩) (Nat.le_refl _) (.int .i64 (xs.getD k 0))
      clear hr hown ho hb0
      generalize xs.getD k 0 = x at *
      go_wp2_with fail
      go_roundw
      case rel => exact ⟨k+1, by omega, by go_num, hst.1, hb2⟩
      case measure => simp [intOf]; omega
    · rw [madeI_all xs k hlt] at ho
      go_wp2_with fail
      go_ret
      exact ⟨_, _, _, rfl, OwnI.of_row ho, hb⟩


theorem toSign_c (l h : Nat) (v : Value) (xs : List Int) (w : World) (hx : xs.length ≤ 1048576) (hv : SlI l h w v xs) :
    Calls Try.prog 8 #[.agg #[v]] w (RetS w xs) := by
  go_enter Try.func8, Try.ntmps8
  go_wp2_with (go_at_call 10; refine (toIntS_c l h v xs _ hx (hv.below (Bel.alloc3 _ _ _ _))).mono ?_; rintro e w' ⟨ad', n', c', rfl, hv', hb⟩; have c1 := (hb.cell (p := ⟨w.heap.size+1+1, 0, none⟩) (by simp)).trans (by simp [go_sem]; rfl); have c2 := (hb.frozen (p := ⟨w.heap.size+1+1, 0, none⟩) (by simp)).trans (by simp [go_sem]; rfl); have c3 := (hb.cell (p := ⟨w.heap.size+1, 0, none⟩) (by simp)).trans (by simp [go_sem]; rfl); have c4 := (hb.frozen (p := ⟨w.heap.size+1, 0, none⟩) (by simp)).trans (by simp [go_sem]; rfl))
  have hs := hb.size
  simp only [World.size_alloc] at hs hv'
  refine bodyPost_ret (v := .agg #[.slice ad' n' c']) (by simp [results, Try.results8, go_sem, c3]) rfl ⟨_, _, _, rfl, ?_, ?_⟩
  · simp only [World.size_setCell]
    exact ((hv'.set (.inl (by simp)) _).set (.inl (by simp)) _).mono (by omega) (Nat.le_refl _)
  · exact (((Bel.alloc3 w _ _ _).step hb).set (by simp; omega) _).set (by simp) _

theorem take_ne (xs ys : List Int) (k : Nat) (_ : k < xs.length) (h2 : k < ys.length) (h : xs.getD k 0 ≠ ys.getD k 0) : xs ≠ ys := by rintro rfl; exact h rfl
theorem take_eq_succ (xs ys : List Int) (k : Nat) (h1 : k < xs.length) (h2 : k < ys.length) (h : xs.take k = ys.take k) (e : xs.getD k 0 = ys.getD k 0) : xs.take (k+1) = ys.take (k+1) := by
  rw [List.take_succ_eq_append_getElem h1, List.take_succ_eq_append_getElem h2, h]
  simp [List.getD, h1, h2] at e
  rw [e]

theorem eqIntS_c (l h l' h' : Nat) (v u : Value) (xs ys : List Int) (w : World) (hx : xs.length ≤ 1048576) (hy : ys.length ≤ 1048576) (hv : SlI l h w v xs) (hu : SlI l' h' w u ys) :
    Calls Try.prog 14 #[v, u] w (RetV w (.bool (decide (xs = ys)))) := by
  obtain ⟨ad, cap, rfl, -, -, hr⟩ := hv
  obtain ⟨ad', cap', rfl, -, -, hr'⟩ := hu
  by_cases hl : (xs.length : Int) = ys.length
  · have hl1 : xs.length = ys.length := by omega
    have hl' : ((xs.length : Int) != ys.length) = false := by simpa using hl
    have HL := Lib.hid hl1
    clear hl hl1
    go_enter Try.func14, Try.ntmps14
    go_wp2_with fail
    go_loopw [5] (fun i wr => ∃ k : Nat, k ≤ xs.length ∧ i = .int .i64 k ∧ xs.take k = ys.take k ∧ Bel w wr) (fun i _ => xs.length - (intOf i).toNat)
    case atStart => exact ⟨0, Nat.zero_le _, rfl, rfl, Bel.rfl' _⟩
    case round =>
      obtain ⟨k, hk, rfl, ha, hb⟩ := hrel
      by_cases hlt : k < xs.length
      · have hlt2 : k < ys.length := by rw [← HL.out]; exact hlt
        obtain ⟨b, off, rfl, -, hcell⟩ := rd hr hb k hlt
        obtain ⟨b', off', rfl, -, hcell'⟩ := rd hr' hb k hlt2
        have E1 := Lib.hid (take_eq_succ xs ys k hlt hlt2 ha)
        have E2 := Lib.hid (take_ne xs ys k)
        clear hr hr' ha
        generalize xs.getD k 0 = x at *
        generalize ys.getD k 0 = y at *
        by_cases hxy : x = y
        · have E3 := Lib.hid (E1.out hxy)
          clear E1 E2
          subst hxy
          go_wp2_with fail
          go_quiet (fail)
          go_wp2
          go_roundw
          case rel => exact ⟨k+1, by omega, by go_num, E3.out, hb.drewN _⟩
          case measure => simp [intOf]; omega
        · have e1 : Hid (decide (xs = ys) = false) := by show decide (xs = ys) = false; simpa using E2.out hlt hlt2 hxy
          have hxy' : (x != y) = true := by simpa using hxy
          clear hxy
          go_wp2_with fail
          go_quiet (fail)
          go_wp2
          go_ret
          exact ⟨by rw [e1.out]; rfl, hb.drewN _⟩
      · have HA := Lib.hid ha; clear ha
        have e1 : Hid (decide (xs = ys) = true) := by
          show decide (xs = ys) = true
          have h1 := HA.out
          rw [List.take_of_length_le (by omega), List.take_of_length_le (by rw [← HL.out]; omega)] at h1
          simpa using h1
        go_wp2_with fail
        go_ret
        exact ⟨by rw [e1.out]; rfl, hb⟩
  · have e1 : Hid (decide (xs = ys) = false) := by show decide (xs = ys) = false; simp; rintro rfl; exact hl rfl
    have hl' : ((xs.length : Int) != ys.length) = true := by simpa using hl
    clear hl
    go_enter Try.func14, Try.ntmps14
    go_wp2_with fail
    go_ret
    exact ⟨by rw [e1.out]; rfl, Bel.rfl' _⟩


theorem eqIntS_same (l h l' h' : Nat) (v u : Value) (xs : List Int) (w : World) (hx : xs.length ≤ 1048576) (hv : SlI l h w v xs) (hu : SlI l' h' w u xs) :
    Calls Try.prog 14 #[v, u] w (RetV w (.bool true)) := by
  have := eqIntS_c l h l' h' v u xs xs w hx hx hv hu
  simpa using this

theorem eqSign_c (l h l' h' : Nat) (v u : Value) (xs ys : List Int) (w : World) (hx : xs.length ≤ 1048576) (hy : ys.length ≤ 1048576) (hv : SlI l h w v xs) (hu : SlI l' h' w u ys) :
    Calls Try.prog 12 #[.agg #[v], .agg #[u]] w (RetV w (.bool (decide (xs = ys)))) := by
  have hc := eqIntS_c l h l' h' v u xs ys ((w.alloc (.cells #[v] 32)).alloc (.cells #[u] 32)) hx hy (hv.below (Bel.alloc2 _ _ _)) (hu.below (Bel.alloc2 _ _ _))
  generalize decide (xs = ys) = r at *
  cases r
  all_goals
    have HC := Lib.hid hc; clear hc
    go_enter Try.func12, Try.ntmps12
    go_wp2_with (go_at_call 14; refine HC.out.mono ?_; rintro e w' ⟨rfl, hb⟩)
    go_ret
    exact ⟨rfl, (Bel.alloc2 w _ _).step hb⟩

theorem eqSign_same (l h l' h' : Nat) (v u : Value) (xs : List Int) (w : World) (hx : xs.length ≤ 1048576) (hv : SlI l h w v xs) (hu : SlI l' h' w u xs) :
    Calls Try.prog 12 #[.agg #[v], .agg #[u]] w (RetV w (.bool true)) := by
  have := eqSign_c l h l' h' v u xs xs w hx hx hv hu
  simpa using this


/-- Marking: the returned count, and what may have turned. -/
def RetM (lo hi : Nat) (w : World) (v : Value) (xs : List Int) (k : Nat) (e : Ending) (w' : World) : Prop := e = .returned (.int .i64 ((k + xs.length : Nat) : Int)) ∧ Chg lo hi w w' ∧ OwnI lo hi w' v (marks k xs.length)

theorem markIntS_c (lo hi : Nat) (v : Value) (xs : List Int) (k : Nat) (w : World) (hx : xs.length ≤ 1099511627776) (hk : k ≤ 1099511627776) (hv : OwnI lo hi w v xs) :
    Calls Try.prog 37 #[v, .int .i64 k] w (RetM lo hi w v xs k) := by
  obtain ⟨ad, cap, rfl⟩ := hv.sl.form
  go_enter Try.func37, Try.ntmps37
  go_wp2_with fail
  go_loopw [1, 5] (fun m i wr => ∃ j : Nat, j ≤ xs.length ∧ i = .int .i64 j ∧ m = .int .i64 ((k + j : Nat) : Int) ∧ OwnI lo hi wr (.slice ad xs.length cap) (marked xs k j) ∧ Chg lo hi w wr) (fun _ i _ => xs.length - (intOf i).toNat)
  case atStart => exact ⟨0, Nat.zero_le _, rfl, rfl, by rw [marked_zero]; exact hv, Chg.refl _ _ _⟩
  case round =>
    obtain ⟨j, hj, rfl, rfl, ho, hb⟩ := hrel
    by_cases hlt : j < xs.length
    · have hl := marked_len xs k j hj
      have ho0 := ho
      obtain ⟨⟨ad', cap', e, hc, hm, hr⟩, hf⟩ := ho0
      obtain ⟨b, off, rfl, a1, a2, a3⟩ := hr (by omega)
      simp only [Value.slice.injEq] at e
      obtain ⟨rfl, -, rfl⟩ := e
      have hcell := a3 j (by omega)
      have hfr := hf b off _ _ rfl (by omega) j
      have hst := ho.stored j (by omega) ((k + j : Nat) : Int)
      rw [marked_succ xs k j hlt] at hst
      have hb2 := hb.trans (Chg.set wr (p := ⟨b, off + j, none⟩) a1 a2 (.int .i64 ((k + j : Nat) : Int)))
      generalize (marked xs k j).getD j 0 = x at hcell
      clear hr hf ho hb hv hc hm hl a3
      have hkj : ((k + j : Nat) : Int) ≤ 9223372036854775000 := by omega
      go_wp2_with fail
      go_roundw
      case rel => exact ⟨j+1, by omega, by go_num, by go_num, by simpa using hst, by simpa using hb2⟩
      case measure => simp [intOf]; omega
    · rw [marked_all xs k j hlt hj] at ho
      go_wp2_with fail
      go_ret
      obtain rfl : j = xs.length := by omega
      exact ⟨rfl, hb, ho⟩

theorem heldIntS_c (l h : Nat) (v : Value) (n k : Nat) (w : World) (hx : n ≤ 1099511627776) (hk : k ≤ 1099511627776) (hv : SlI l h w v (marks k n)) :
    Calls Try.prog 52 #[v, .int .i64 k] w (RetV w (.int .i64 ((k + n : Nat) : Int))) := by
  obtain ⟨ad, cap, rfl, -, -, hr⟩ := hv
  rw [marks_len] at hr ⊢
  go_enter Try.func52, Try.ntmps52
  go_wp2_with fail
  go_loop [1, 5] (fun m i => ∃ j : Nat, j ≤ n ∧ i = .int .i64 j ∧ m = .int .i64 ((k + j : Nat) : Int)) (fun _ i => n - (intOf i).toNat)
  case atStart => exact ⟨0, Nat.zero_le _, rfl, rfl⟩
  case round =>
    obtain ⟨j, hj, rfl, rfl⟩ := hrel
    by_cases hlt : j < n
    · obtain ⟨b, off, rfl, -, -, a3⟩ := hr (by omega)
      have hcell := a3 j (by omega)
      rw [marks_get k n j hlt] at hcell
      have hne : (((k + j : Nat) : Int) != ((k + j : Nat) : Int)) = false := by simp
      clear hr a3
      go_wp2_with fail
      go_round
      case rel => exact ⟨j+1, by omega, by go_num, by go_num⟩
      case measure => simp [intOf]; omega
    · go_wp2_with fail
      go_ret
      obtain rfl : j = n := by omega
      exact ⟨rfl, Bel.rfl' _⟩

theorem markSign_c (lo hi : Nat) (v : Value) (xs : List Int) (k : Nat) (w : World) (hx : xs.length ≤ 1048576) (hk : k ≤ 1073741824) (_ : hi ≤ w.heap.size) (hv : OwnI lo hi w v xs) :
    Calls Try.prog 17 #[.agg #[v], .int .i64 k] w (RetM lo hi w v xs k) := by
  go_enter Try.func17, Try.ntmps17
  go_wp2_with fail
  refine (markIntS_c lo hi v xs k _ (by omega) (by omega) (hv.alloc _)).mono ?_; rintro e w' ⟨rfl, hb, ho⟩
  go_wp2_with fail
  go_ret
  exact ⟨rfl, (Chg.of_bel (Bel.alloc0 w _)).trans hb, ho⟩
end Go.Proofs.Ytjgbeclafdhijaa
end
section
/- The laws' helpers over slices of slices of ints, by contracts. -/
namespace Go.Proofs.Ytjgbeclafdhijaa
open Go.RowKit

theorem Try.info22 : (Try.prog.info? 22).map (fun i => (i.zero, i.size, i.bytes)) = some (some (.slice none 0 0), 1, 24) := by kernel_rfl

def szS (xss : List (List Int)) (left : Int) : Int := if left - (tot xss : Nat) < 0 then -1 else left - (tot xss : Nat)

set_option maxRecDepth 100000 in
set_option maxHeartbeats 400000 in
theorem szIntSS_c (l h : Nat) (v : Value) (xss : List (List Int)) (left : Int) (w : World) (h0 : 0 ≤ left) (h1 : left ≤ 1048576) (hv : SlS l h w v xss) :
    Calls Try.prog 21 #[v, .int .i64 left] w (RetV w (.int .i64 (szS xss left))) := by
  obtain ⟨ad, cap, rfl⟩ := hv.form
  obtain ⟨hx, hmax⟩ := hv.max
  by_cases hs : left - xss.length < 0
  · have E : Hid (szS xss left = -1) := by show szS _ _ = _; unfold szS tot; rw [if_pos (by omega)]
    go_enter Try.func21, Try.ntmps21
    go_wp2_with fail
    go_ret
    exact ⟨by rw [E.out]; rfl, Bel.rfl' _⟩
  · have hw1 := IntWalk.i64_in (left - xss.length) (by omega)
    go_enter Try.func21, Try.ntmps21
    go_wp2_with fail
    go_loopw [1, 5] (fun m i wr => ∃ (k : Nat) (z : Int), k ≤ xss.length ∧ i = .int .i64 k ∧ m = .int .i64 z ∧ 0 ≤ z ∧ z = left - xss.length - (sumL (xss.take k) : Nat) ∧ Bel w wr) (fun _ i _ => xss.length - (intOf i).toNat)
    case atStart => exact ⟨0, _, Nat.zero_le _, rfl, by go_num, by omega, by simp [sumL], Bel.rfl' _⟩
    case round =>
      obtain ⟨k, z, hk, rfl, rfl, hz0, hz, hb⟩ := hrel
      by_cases hlt : k < xss.length
      · obtain ⟨b, off, u, rfl, -, hc, hu⟩ := hv.at hb k hlt
        have hm := hmax k hlt
        have hst := sumL_take xss k hlt
        have hsl := sumL_get xss k hlt
        have hcall := szIntS_c l h u (xss.getD k []) z wr hm hz0 (by omega) hu
        by_cases hneg : z - (xss.getD k []).length < 0
        · have e1 : szI (xss.getD k []).length z = -1 := by unfold szI; rw [if_pos hneg]
          have E : Hid (szS xss left = -1) := by show szS _ _ = _; unfold szS tot; rw [if_pos (by omega)]
          rw [e1] at hcall
          have HC := Lib.hid hcall
          clear hcall hv hu hmax hst hsl e1 hneg hz
          go_wp2_with (go_at_call 20; refine HC.out.mono ?_; rintro e w' ⟨rfl, hb1⟩)
          go_ret
          exact ⟨by rw [E.out]; rfl, hb.step hb1⟩
        · have e1 : szI (xss.getD k []).length z = z - (xss.getD k []).length := by unfold szI; rw [if_neg hneg]
          have hz' : z - ((xss.getD k []).length : Int) = left - xss.length - (sumL (xss.take (k+1)) : Nat) := by omega
          rw [e1] at hcall
          have HC := Lib.hid hcall
          have HZ := Lib.hid hz'
          have hz2 : 0 ≤ z - ((xss.getD k []).length : Int) := by omega
          clear hcall hv hu hmax hst hsl e1 hneg hz hz'
          generalize z - ((xss.getD k []).length : Int) = z2 at *
          go_wp2_with (go_at_call 20; refine HC.out.mono ?_; rintro e w' ⟨rfl, hb1⟩)
          go_roundw
          case rel => exact ⟨k+1, z2, by omega, by go_num, rfl, hz2, HZ.out, hb.step hb1⟩
          case measure => simp [intOf]; omega
      · have E : Hid (szS xss left = z) := by
          show szS _ _ = _
          rw [sumL_all xss k hlt] at hz
          unfold szS tot; rw [if_neg (by omega)]; omega
        clear hz
        go_wp2_with fail
        go_ret
        exact ⟨by rw [E.out]; rfl, hb⟩

set_option maxRecDepth 100000 in
set_option maxHeartbeats 400000 in
theorem toIntSS_c (l h : Nat) (v : Value) (xss : List (List Int)) (w : World) (hx : short xss) (hv : SlS l h w v xss) :
    Calls Try.prog 26 #[v] w (RetSS w xss) := by
  obtain ⟨ad, cap, rfl⟩ := hv.form
  obtain ⟨hx, hmax⟩ := hx
  obtain ⟨i0, hi, hz0, hz1, hz2⟩ := info_parts Try.info22
  go_enter Try.func26, Try.ntmps26
  go_wp2_with (at_make; refine wpList_make_full _ rfl _ _ 25 rfl w.heap.size 22 i0 (.slice none 0 0) 1 Try.underlying25 hi hz0 hz1 _ _ _ _ xss.length rfl rfl rfl rfl (by rw [hz2]; omega) (by unfold maxLen; omega) (Nat.le_refl _) ?_; intro w1 hown hg)
  have hz3 : (madeCells (Value.slice none 0 0).cells (xss.length * 1)).toList = [] ++ List.replicate (xss.length - 0) (Value.slice none 0 0) := by
    rw [Nat.mul_one]; show (madeCells #[_] _).toList = _; rw [toList_madeCells_one]; simp
  rw [hz3] at hown
  have hb0 : Bel w w1 := (Bel.rfl' w).grown hg (by simp)
  have hs1 : w.heap.size + 1 ≤ w1.heap.size := by
    rcases hown.2 with ⟨e, _⟩ | ⟨g, c, cur, e, _, hh, _⟩
    · simp at e
    · simp at e; have := (Array.getElem?_eq_some_iff.1 hh).1; omega
  clear hg hz3
  go_loopw [4] (fun i wr => ∃ (k : Nat) (us : List Value) (bs : Nat → Nat), k ≤ xss.length ∧ i = .int .i64 k ∧ wr.ownsRow w.heap.size 22 1 (.slice (some ⟨w.heap.size, 0, none⟩) xss.length xss.length) xss.length (us ++ List.replicate (xss.length - k) (Value.slice none 0 0)) ∧
    Ins (w.heap.size + 1) wr.heap.size w.heap.size wr us (xss.take k) bs ∧ w.heap.size + 1 ≤ wr.heap.size ∧ Bel w wr) (fun i _ => xss.length - (intOf i).toNat)
  case atStart => exact ⟨0, [], _, Nat.zero_le _, rfl, hown, (Ins.none _ _ _ _), hs1, hb0⟩
  case round =>
    obtain ⟨k, us, bs, hk, rfl, ho, hin, hs, hb⟩ := hrel
    have hul : us.length = k := by have := hin.len; simp at this; omega
    by_cases hlt : k < xss.length
    · obtain ⟨b, off, u, rfl, hbs, hc, hu⟩ := hv.at hb k hlt
      have hm := hmax k hlt
      have hcall := toIntS_c l h u (xss.getD k []) wr hm hu
      have HC := Lib.hid hcall
      have HI := Lib.hid hin
      have HO := Lib.hid ho
      clear hv hcall hu hmax hown hin ho
      go_wp2_with (go_at_call 10; refine HC.out.mono ?_; rintro e w' ⟨ad2, n2, c2, rfl, ho2, hb2⟩; have ho3 := ownsRow_bel HO.out hb2; have hcell := ho3.cellAt k (by omega); have hf := ho3.frozenAt k; rw [List.getElem?_append_right (by omega), hul, Nat.sub_self, List.getElem?_replicate, if_pos (by omega)] at hcell)
      go_roundw
      case rel =>
        have hst := ho3.stored k (.slice ad2 n2 c2)
        rw [List.set_append_right _ _ (by omega), hul, Nat.sub_self, show xss.length - k = (xss.length - (k+1)) + 1 from by omega, List.replicate_succ, List.set_cons_zero] at hst
        have hsz := hb2.size
        obtain ⟨bs', hin'⟩ := (HI.out.below hb2).snoc ho2 (Nat.le_refl _) hs (.inl (by omega)) (hi2 := w'.heap.size) (Nat.le_refl _) hsz
        have hin2 := hin'.same (w' := w'.setCell ⟨w.heap.size, k, none⟩ (.slice ad2 n2 c2)) (fun b h1 h2 _ => Below.heap_setCell w' _ _ b (by simp; omega))
        rw [show xss.take k ++ [xss.getD k []] = xss.take (k+1) from by rw [List.take_succ_eq_append_getElem hlt]; simp [List.getD, hlt]] at hin2
        refine ⟨k+1, us ++ [.slice ad2 n2 c2], bs', by omega, by go_num, by simpa using hst.1, by simpa using hin2, by simpa using (by omega : w.heap.size + 1 ≤ w'.heap.size), (hb.step hb2).setCell (p := ⟨w.heap.size, k, none⟩) (Nat.le_refl _) _⟩
      case measure => simp [intOf]; omega
    · rw [show xss.length - k = 0 from by omega, List.replicate_zero, List.append_nil] at ho
      rw [List.take_of_length_le (by omega)] at hin
      have HI := Lib.hid hin
      have HO := Lib.hid ho
      clear hin ho hv hmax hown
      go_wp2_with fail
      go_ret
      exact ⟨_, _, _, rfl, OwnS.of_row HO.out (Nat.le_refl _) (fun g hg => by simp [Value.ownBlock] at hg; subst hg; exact HI.out.mono (by omega) (Nat.le_refl _)), hb⟩

set_option maxRecDepth 100000 in
set_option maxHeartbeats 400000 in
theorem eqIntSS_same (l h l' h' : Nat) (v u : Value) (xss : List (List Int)) (w : World) (hx : short xss) (hv : SlS l h w v xss) (hu : SlS l' h' w u xss) :
    Calls Try.prog 31 #[v, u] w (RetV w (.bool true)) := by
  obtain ⟨ad, cap, rfl⟩ := hv.form
  obtain ⟨ad', cap', rfl⟩ := hu.form
  obtain ⟨hx, hmax⟩ := hx
  have hl' : ((xss.length : Int) != xss.length) = false := by simp
  go_enter Try.func31, Try.ntmps31
  go_wp2_with fail
  go_loopw [5] (fun i wr => ∃ k : Nat, k ≤ xss.length ∧ i = .int .i64 k ∧ Bel w wr) (fun i _ => xss.length - (intOf i).toNat)
  case atStart => exact ⟨0, Nat.zero_le _, rfl, Bel.rfl' _⟩
  case round =>
    obtain ⟨k, hk, rfl, hb⟩ := hrel
    by_cases hlt : k < xss.length
    · obtain ⟨b, off, p, rfl, -, hc, hp⟩ := hv.at hb k hlt
      obtain ⟨b', off', q, rfl, -, hc', hq⟩ := hu.at hb k hlt
      have hm := hmax k hlt
      have hbp := World.block_lt_of_cell? wr ⟨b, off + k, none⟩ hc
      have hbq := World.block_lt_of_cell? wr ⟨b', off' + k, none⟩ hc'
      have HC := Lib.hid (fun w' (h1 : Bel wr w') => eqIntS_same _ _ _ _ p q (xss.getD k []) w' hm (hp.below h1) (hq.below h1))
      clear hv hu hmax hp hq
      have hin1 : (k : Int) < xss.length := by omega
      go_wp2_with fail
      go_region_held3 (fun w' => Bel wr w' ∧ w'.cell? ⟨b, off + k, none⟩ = some p ∧ w'.cell? ⟨b', off' + k, none⟩ = some q)
        (first | exact ⟨Bel.drew0 _, hc, hc'⟩ | exact ⟨hb2.of_drew, hb2.at hbp hc, hb2.at hbq hc'⟩)
        (first | (go_at_call 14; refine (HC.out _ (Bel.drew0 _)).mono ?_; rintro e w2 ⟨rfl, hb2⟩))
      go_wp2_with fail
      go_roundw
      case rel => exact ⟨k+1, by omega, by go_num, hb.step hb2.of_drew⟩
      case measure => simp [intOf]; omega
    · go_wp2_with fail
      go_ret
      exact ⟨rfl, hb⟩

def RetMS (lo hi : Nat) (w : World) (v : Value) (xss : List (List Int)) (k : Nat) (e : Ending) (w' : World) : Prop := e = .returned (.int .i64 ((k + sumL xss : Nat) : Int)) ∧ Chg lo hi w w' ∧ OwnS lo hi w' v (marksS k xss)

set_option maxRecDepth 100000 in
set_option maxHeartbeats 400000 in
theorem markIntSS_c (lo hi : Nat) (v : Value) (xss : List (List Int)) (k : Nat) (w : World) (hx : tot xss ≤ 1048576) (hk : k ≤ 1073741824) (hv : OwnS lo hi w v xss) :
    Calls Try.prog 38 #[v, .int .i64 k] w (RetMS lo hi w v xss k) := by
  obtain ⟨ad, cap, rfl⟩ := hv.sl.form
  unfold tot at hx
  go_enter Try.func38, Try.ntmps38
  go_wp2_with fail
  go_loopw [1, 5] (fun m i wr => ∃ j : Nat, j ≤ xss.length ∧ i = .int .i64 j ∧ m = .int .i64 ((k + sumL (xss.take j) : Nat) : Int) ∧ OwnS lo hi wr (.slice ad xss.length cap) (markedS xss k j) ∧ Chg lo hi w wr) (fun _ i _ => xss.length - (intOf i).toNat)
  case atStart => exact ⟨0, Nat.zero_le _, rfl, by simp [sumL], by rw [markedS_zero]; exact hv, Chg.refl _ _ _⟩
  case round =>
    obtain ⟨j, hj, rfl, rfl, ho, hb⟩ := hrel
    by_cases hlt : j < xss.length
    · have hl := markedS_len xss k j hj
      have hst := sumL_take xss j hlt
      have hsl := sumL_get xss j hlt
      obtain ⟨ad', cap', e, hc, hm, hr⟩ := ho
      obtain ⟨b, off, us, bs, rfl, a1, a2, a3, hin⟩ := hr (by omega)
      simp only [Value.slice.injEq] at e
      obtain ⟨rfl, -, rfl⟩ := e
      have hul := hin.len
      have hju : us[j]? = some us[j] := List.getElem?_eq_getElem (by omega)
      have hcell := a3 j _ hju
      have hown := hin.own j _ hju
      have hget := markedS_get xss k j hlt
      have hsucc := markedS_succ xss k j hlt
      generalize us[j] = u at hju hcell hown
      generalize hq : (if 0 < (xss.getD j []).length then bs j else 0) = q
      generalize hq2 : (if 0 < (xss.getD j []).length then bs j + 1 else 0) = q2
      have hown2 : OwnI q q2 wr u (xss.getD j []) := by
        rw [← hq, ← hq2]; rw [hget] at hown
        split
        · exact hown
        · rename_i h0; rw [len0 h0] at hown ⊢; exact hown.empty
      have hcall := markIntS_c q q2 u (xss.getD j []) (k + sumL (xss.take j)) wr (by omega) (by omega) hown2
      have HC := Lib.hid hcall
      have HF := Lib.hid (And.intro hin (And.intro a3 (And.intro hju (And.intro hc (And.intro hm (And.intro hget (And.intro hsucc (And.intro hq (And.intro hq2 (And.intro a1 (And.intro a2 (And.intro hst hl))))))))))))
      have HB := Lib.hid hb
      have hkj : k + sumL (xss.take j) ≤ 1073741824 + 1048576 := by have := sumL_le xss j; omega
      clear hr hb hv hcall hown hown2 hin a3 hju hc hm hget hsucc hq hq2 hst hl
      generalize hz : k + sumL (xss.take j) = z at *
      go_wp2_with (go_at_call 37; refine HC.out.mono ?_; rintro e w' ⟨rfl, hch, hom⟩)
      go_roundw
      case rel =>
        obtain ⟨hin, a3, hju, hc, hm, hget, hsucc, hq, hq2, a1, a2, hst, hl⟩ := HF.out
        have hpos : 0 < (xss.getD j []).length → lo ≤ bs j ∧ bs j < hi ∧ bs j ≠ b := fun hp => hin.rng j (by omega) (by rw [hget]; exact hp)
        have hch2 : Chg lo hi wr w' := by
          by_cases hp : 0 < (xss.getD j []).length
          · have := hpos hp
            rw [if_pos hp] at hq hq2
            exact hch.mono (by omega) (by omega)
          · rw [if_neg hp] at hq hq2
            subst hq hq2
            exact ⟨hch.os, hch.tape, hch.output, hch.size, fun b hb _ => hch.block b hb (by omega)⟩
        refine ⟨j+1, by omega, by go_num, by rw [hst, ← Nat.add_assoc, hz]; first | done | (simp [List.getD, hlt]), ?_, HB.out.trans hch2⟩
        rw [← hsucc]
        have hlm : (marks z (xss.getD j []).length).length = ((markedS xss k j).getD j []).length := by rw [marks_len, hget]
        have hom2 : OwnI (bs j) (bs j + 1) w' u (marks z (xss.getD j []).length) := by
          by_cases hp : 0 < (xss.getD j []).length
          · rw [if_pos hp] at hq hq2; rw [← hq, ← hq2] at hom; exact hom
          · rw [len0 hp] at hom ⊢; exact hom.empty
        have hin2 := hin.stored (w' := w') j (by omega) u hju (marks z (xss.getD j []).length) hlm
          (fun hp => by rw [marks_len] at hp; rw [if_pos hp] at hq hq2; rw [hq] at hq2; rw [hq, hq2]; exact hch)
          (fun hp => by rw [marks_len] at hp; rw [if_neg hp] at hq hq2; rw [← hq, ← hq2] at hch; exact hch) hom2
        refine ⟨_, cap, by rw [List.length_set, hl], by rw [List.length_set]; exact hc, hm, fun _ => ⟨b, off, us, bs, rfl, a1, a2, fun i x hix => ?_, hin2⟩⟩
        have hbx := a3 i x hix
        have hbl := World.block_lt_of_cell? wr ⟨b, off + i, none⟩ hbx
        refine hch.cell hbl ?_ hbx
        by_cases hp : 0 < (xss.getD j []).length
        · have := hpos hp
          rw [if_pos hp] at hq hq2
          omega
        · rw [if_neg hp] at hq hq2
          omega
      case measure => simp [intOf]; omega
    · rw [markedS_all xss k j hlt] at ho
      rw [sumL_all xss j hlt]
      go_wp2_with fail
      go_ret
      exact ⟨rfl, hb, ho⟩

set_option maxRecDepth 100000 in
set_option maxHeartbeats 400000 in
theorem heldIntSS_c (l h : Nat) (v : Value) (xss : List (List Int)) (k : Nat) (w : World) (hx : tot xss ≤ 1048576) (hk : k ≤ 1073741824) (hv : SlS l h w v (marksS k xss)) :
    Calls Try.prog 39 #[v, .int .i64 k] w (RetV w (.int .i64 ((k + sumL xss : Nat) : Int))) := by
  obtain ⟨ad, cap, rfl⟩ := hv.form
  unfold tot at hx
  have hml := marksS_len k xss
  rw [hml]
  go_enter Try.func39, Try.ntmps39
  go_wp2_with fail
  go_loopw [1, 5] (fun m i wr => ∃ j : Nat, j ≤ xss.length ∧ i = .int .i64 j ∧ m = .int .i64 ((k + sumL (xss.take j) : Nat) : Int) ∧ Bel w wr) (fun _ i _ => xss.length - (intOf i).toNat)
  case atStart => exact ⟨0, Nat.zero_le _, rfl, by simp [sumL], Bel.rfl' _⟩
  case round =>
    obtain ⟨j, hj, rfl, rfl, hb⟩ := hrel
    by_cases hlt : j < xss.length
    · have hst := sumL_take xss j hlt
      have hsl := sumL_get xss j hlt
      obtain ⟨b, off, u, rfl, -, hc, hu⟩ := hv.at hb j (by rw [hml]; exact hlt)
      rw [marksS_get k xss j hlt] at hu
      have hcall := heldIntS_c _ _ u (xss.getD j []).length (k + sumL (xss.take j)) wr (by omega) (by omega) hu
      rw [Nat.add_assoc, ← hst] at hcall
      have hnn : decide (((k + sumL (xss.take (j+1)) : Nat) : Int) < 0) = false := by simp; omega
      have hkj : k + sumL (xss.take j) ≤ 1073741824 + 1048576 := by omega
      have HC := Lib.hid hcall
      clear hcall hu hv hst hsl
      generalize hz2 : k + sumL (xss.take (j+1)) = z2 at *
      generalize k + sumL (xss.take j) = z at *
      go_wp2_with (go_at_call 52; refine HC.out.mono ?_; rintro e w' ⟨rfl, hb2⟩)
      go_roundw
      case rel => exact ⟨j+1, by omega, by go_num, by rw [hz2], hb.step hb2⟩
      case measure => simp [intOf]; omega
    · rw [sumL_all xss j hlt]
      go_wp2_with fail
      go_ret
      exact ⟨rfl, hb⟩
end Go.Proofs.Ytjgbeclafdhijaa
end
