/- Texts merged, part 4. -/
import Derived.Test.YtjgbeclafdhijaaProg
import Derived.Laws.AppendOwnNone
import Derived.Lib.AppendZeros
import Derived.Test.YtjgbeclafdhijaaMgEvalIn3
section
/- The laws' own helpers, by contracts: sizes, copies, comparisons, marks over slices of ints and a signature. -/
namespace Go.Proofs.Ytjgbeclafdhijaa
open Go.RowKit



def szI (n left : Int) : Int := if left - n < 0 then -1 else left - n

theorem szIntS_c (l h : Nat) (v : Value) (xs : List Int) (left : Int) (w : World) (hx : xs.length ≤ 9223372036854775807) (h0 : 0 ≤ left) (h1 : left ≤ 1048576) (hv : SlI l h w v xs) :
    Calls Try.prog 20 #[v, .int .i64 left] w (RetV w (.int .i64 (szI xs.length left))) := by
  obtain ⟨ad, cap, rfl, -, -, hr⟩ := hv
  by_cases hs : left - xs.length < 0
  · have E : Hid (szI xs.length left = -1) := by show szI _ _ = _; simp [szI, hs]
    go_enter Try.func20, Try.ntmps20
    go_wp2_with fail
    go_ret
    exact ⟨by rw [E.out]; rfl, Bel.rfl' _⟩
  · have E : Hid (szI xs.length left = left - xs.length) := by show szI _ _ = _; simp [szI, hs]
    go_enter Try.func20, Try.ntmps20
    go_wp2_with fail
    go_ret
    exact ⟨by rw [E.out]; rfl, Bel.rfl' _⟩

theorem szSign_c (l h : Nat) (v : Value) (xs : List Int) (left : Int) (w : World) (hx : xs.length ≤ 9223372036854775807) (h0 : 0 ≤ left) (h1 : left ≤ 1048576) (hv : SlI l h w v xs) :
    Calls Try.prog 5 #[.agg #[v], .int .i64 left] w (RetV w (.int .i64 (szI xs.length left))) := by
  by_cases hs : szI xs.length left < 0
  · have E : Hid (szI xs.length left = -1) := by show szI _ _ = _; revert hs; unfold szI; split <;> omega
    have hl := szIntS_c l h v xs left (w.alloc (.cells #[v] 24)) hx h0 h1 (hv.below (Bel.alloc0 _ _))
    have HL := Lib.hid hl; clear hl
    rw [E.out] at HL
    rw [E.out]
    clear hs
    go_enter Try.func5, Try.ntmps5
    go_wp2_with (go_at_call 20; refine HL.out.mono ?_; rintro e w' ⟨rfl, hb1⟩)
    go_ret
    exact ⟨rfl, hb1.of_alloc⟩
  · have hl := szIntS_c l h v xs left (w.alloc (.cells #[v] 24)) hx h0 h1 (hv.below (Bel.alloc0 _ _))
    have HL := Lib.hid hl; clear hl
    generalize szI xs.length left = r at *
    go_enter Try.func5, Try.ntmps5
    go_wp2_with (go_at_call 20; refine HL.out.mono ?_; rintro e w' ⟨rfl, hb1⟩)
    go_ret
    exact ⟨rfl, hb1.of_alloc⟩

theorem Try.info3 : (Try.prog.info? 3).map (fun i => (i.zero, i.size, i.bytes)) = some (some (.int .i64 0), 1, 8) := by kernel_rfl

def madeI (xs : List Int) (k : Nat) : List Int := xs.take k ++ List.replicate (xs.length - k) 0


theorem madeI_0 (xs : List Int) : (madeCells (Value.int .i64 0).cells (xs.length * 1)).toList = (madeI xs 0).map (Value.int .i64) := by
  rw [Nat.mul_one]; show (madeCells #[_] _).toList = _; rw [toList_madeCells_one]; simp [madeI]
theorem madeI_all (xs : List Int) (k : Nat) (h : ¬ k < xs.length) : madeI xs k = xs := by
  unfold madeI; rw [show xs.length - k = 0 from by omega, List.take_of_length_le (by omega)]; simp
theorem madeI_len (xs : List Int) (k : Nat) (h : k ≤ xs.length) : (madeI xs k).length = xs.length := by simp [madeI]; omega
theorem madeI_get (xs : List Int) (k i : Nat) (h : k ≤ xs.length) : (madeI xs k)[i]? = if i < k then xs[i]? else if i < xs.length then some 0 else none := by
  unfold madeI
  simp only [List.getElem?_append, List.getElem?_take, List.getElem?_replicate, List.length_take]
  grind
theorem madeI_set (xs : List Int) (k : Nat) (h : k < xs.length) : (madeI xs k).set k (xs.getD k 0) = madeI xs (k+1) := by
  apply List.ext_getElem?
  intro i
  rw [List.getElem?_set, madeI_get _ _ _ (by omega), madeI_get _ _ _ (by omega)]
  have : (madeI xs k).length = xs.length := by simp [madeI]; omega
  rw [this]
  by_cases e : k = i
  · subst e; simp [h, List.getD]
  · simp only [e, if_false]
    by_cases h1 : i < k
    · simp [h1, show i < k + 1 from by omega]
    · simp [h1, show ¬ i < k + 1 from by omega]
theorem madeI_succ (xs : List Int) (k : Nat) (h : k < xs.length) : ((madeI xs k).map (Value.int .i64)).set k (.int .i64 (xs.getD k 0)) = (madeI xs (k+1)).map (Value.int .i64) := by
  rw [← List.map_set, madeI_set xs k h]

set_option maxRecDepth 100000 in
theorem toIntS_c (l h : Nat) (v : Value) (xs : List Int) (w : World) (hx : xs.length ≤ 1048576) (hv : SlI l h w v xs) :
    Calls Try.prog 10 #[v] w (RetI w xs) := by
  obtain ⟨ad, cap, rfl, -, -, hr⟩ := hv
  obtain ⟨i0, hi, hz0, hz1, hz2⟩ := info_parts Try.info3
  go_enter Try.func10, Try.ntmps10
  go_wp2_with (at_make; refine wpList_make_full _ rfl _ _ 22 rfl w.heap.size 3 i0 (.int .i64 0) 1 Try.underlying22 hi hz0 hz1 _ _ _ _ xs.length rfl rfl rfl rfl (by rw [hz2]; omega) (by unfold maxLen; omega) (Nat.le_refl _) ?_; intro w1 hown hg)
  rw [madeI_0] at hown
  have hb0 : Bel w w1 := (Bel.rfl' w).grown hg (by simp)
  clear hg
  go_loopw [4] (fun i wr => ∃ k : Nat, k ≤ xs.length ∧ i = .int .i64 k ∧ wr.ownsRow w.heap.size 3 1 (.slice (some ⟨w.heap.size, 0, none⟩) xs.length xs.length) xs.length ((madeI xs k).map (Value.int .i64)) ∧ Bel w wr) (fun i _ => xs.length - (intOf i).toNat)
  case atStart => exact ⟨0, Nat.zero_le _, rfl, hown, hb0⟩
  case round =>
    obtain ⟨k, hk, rfl, ho, hb⟩ := hrel
    by_cases hlt : k < xs.length
    · obtain ⟨b, off, rfl, hbs, hcell⟩ := rd hr hb k hlt
      obtain ⟨y, hc2⟩ := own_cell ho k (by rw [madeI_len xs k hk]; exact hlt)
      have hst := ho.stored k (.int .i64 (xs.getD k 0))
      rw [madeI_succ xs k hlt] at hst
      have hf2 := ho.frozenAt k
      have hb2 := hb.setCell (p := ⟨w.heap.size, k, none⟩) (Nat.le_refl _) (.int .i64 (xs.getD k 0))
      clear hr hown ho hb0
      generalize xs.getD k 0 = x at *
      go_wp2_with fail
      go_roundw
      case rel => exact ⟨k+1, by omega, by go_num, hst.1, hb2⟩
      case measure => simp [intOf]; omega
    · rw [madeI_all xs k hlt] at ho
      go_wp2_with fail
      go_ret
      exact ⟨_, _, _, rfl, OwnI.of_row ho, hb⟩


theorem toSign_c (l h : Nat) (v : Value) (xs : List Int) (w : World) (hx : xs.length ≤ 1048576) (hv : SlI l h w v xs) :
    Calls Try.prog 8 #[.agg #[v]] w (RetS w xs) := by
  go_enter Try.func8, Try.ntmps8
  go_wp2_with (go_at_call 10; refine (toIntS_c l h v xs _ hx (hv.below (Bel.alloc3 _ _ _ _))).mono ?_; rintro e w' ⟨ad', n', c', rfl, hv', hb⟩; have c1 := (hb.cell (p := ⟨w.heap.size+1+1, 0, none⟩) (by simp)).trans (by simp [go_sem]; rfl); have c2 := (hb.frozen (p := ⟨w.heap.size+1+1, 0, none⟩) (by simp)).trans (by simp [go_sem]; rfl); have c3 := (hb.cell (p := ⟨w.heap.size+1, 0, none⟩) (by simp)).trans (by simp [go_sem]; rfl); have c4 := (hb.frozen (p := ⟨w.heap.size+1, 0, none⟩) (by simp)).trans (by simp [go_sem]; rfl))
  have hs := hb.size
  simp only [World.size_alloc] at hs hv'
  refine bodyPost_ret (v := .agg #[.slice ad' n' c']) (by simp [results, Try.results8, go_sem, c3]) rfl ⟨_, _, _, rfl, ?_, ?_⟩
  · simp only [World.size_setCell]
    exact ((hv'.set (.inl (by simp)) _).set (.inl (by simp)) _).mono (by omega) (Nat.le_refl _)
  · exact (((Bel.alloc3 w _ _ _).step hb).set (by simp; omega) _).set (by simp) _

theorem take_ne (xs ys : List Int) (k : Nat) (_ : k < xs.length) (h2 : k < ys.length) (h : xs.getD k 0 ≠ ys.getD k 0) : xs ≠ ys := by rintro rfl; exact h rfl
theorem take_eq_succ (xs ys : List Int) (k : Nat) (h1 : k < xs.length) (h2 : k < ys.length) (h : xs.take k = ys.take k) (e : xs.getD k 0 = ys.getD k 0) : xs.take (k+1) = ys.take (k+1) := by
  rw [List.take_succ_eq_append_getElem h1, List.take_succ_eq_append_getElem h2, h]
  simp [List.getD, h1, h2] at e
  rw [e]

theorem eqIntS_c (l h l' h' : Nat) (v u : Value) (xs ys : List Int) (w : World) (hx : xs.length ≤ 1048576) (hy : ys.length ≤ 1048576) (hv : SlI l h w v xs) (hu : SlI l' h' w u ys) :
    Calls Try.prog 14 #[v, u] w (RetV w (.bool (decide (xs = ys)))) := by
  obtain ⟨ad, cap, rfl, -, -, hr⟩ := hv
  obtain ⟨ad', cap', rfl, -, -, hr'⟩ := hu
  by_cases hl : (xs.length : Int) = ys.length
  · have hl1 : xs.length = ys.length := by omega
    have hl' : ((xs.length : Int) != ys.length) = false := by simpa using hl
    have HL := Lib.hid hl1
    clear hl hl1
    go_enter Try.func14, Try.ntmps14
    go_wp2_with fail
    go_loopw [5] (fun i wr => ∃ k : Nat, k ≤ xs.length ∧ i = .int .i64 k ∧ xs.take k = ys.take k ∧ Bel w wr) (fun i _ => xs.length - (intOf i).toNat)
    case atStart => exact ⟨0, Nat.zero_le _, rfl, rfl, Bel.rfl' _⟩
    case round =>
      obtain ⟨k, hk, rfl, ha, hb⟩ := hrel
      by_cases hlt : k < xs.length
      · have hlt2 : k < ys.length := by rw [← HL.out]; exact hlt
        obtain ⟨b, off, rfl, -, hcell⟩ := rd hr hb k hlt
        obtain ⟨b', off', rfl, -, hcell'⟩ := rd hr' hb k hlt2
        have E1 := Lib.hid (take_eq_succ xs ys k hlt hlt2 ha)
        have E2 := Lib.hid (take_ne xs ys k)
        clear hr hr' ha
        generalize xs.getD k 0 = x at *
        generalize ys.getD k 0 = y at *
        by_cases hxy : x = y
        · have E3 := Lib.hid (E1.out hxy)
          clear E1 E2
          subst hxy
          go_wp2_with fail
          go_quiet (fail)
          go_wp2
          go_roundw
          case rel => exact ⟨k+1, by omega, by go_num, E3.out, hb.drewN _⟩
          case measure => simp [intOf]; omega
        · have e1 : Hid (decide (xs = ys) = false) := by show decide (xs = ys) = false; simpa using E2.out hlt hlt2 hxy
          have hxy' : (x != y) = true := by simpa using hxy
          clear hxy
          go_wp2_with fail
          go_quiet (fail)
          go_wp2
          go_ret
          exact ⟨by rw [e1.out]; rfl, hb.drewN _⟩
      · have HA := Lib.hid ha; clear ha
        have e1 : Hid (decide (xs = ys) = true) := by
          show decide (xs = ys) = true
          have h1 := HA.out
          rw [List.take_of_length_le (by omega), List.take_of_length_le (by rw [← HL.out]; omega)] at h1
          simpa using h1
        go_wp2_with fail
        go_ret
        exact ⟨by rw [e1.out]; rfl, hb⟩
  · have e1 : Hid (decide (xs = ys) = false) := by show decide (xs = ys) = false; simp; rintro rfl; exact hl rfl
    have hl' : ((xs.length : Int) != ys.length) = true := by simpa using hl
    clear hl
    go_enter Try.func14, Try.ntmps14
    go_wp2_with fail
    go_ret
    exact ⟨by rw [e1.out]; rfl, Bel.rfl' _⟩


theorem eqIntS_same (l h l' h' : Nat) (v u : Value) (xs : List Int) (w : World) (hx : xs.length ≤ 1048576) (hv : SlI l h w v xs) (hu : SlI l' h' w u xs) :
    Calls Try.prog 14 #[v, u] w (RetV w (.bool true)) := by
  have := eqIntS_c l h l' h' v u xs xs w hx hx hv hu
  simpa using this

theorem eqSign_c (l h l' h' : Nat) (v u : Value) (xs ys : List Int) (w : World) (hx : xs.length ≤ 1048576) (hy : ys.length ≤ 1048576) (hv : SlI l h w v xs) (hu : SlI l' h' w u ys) :
    Calls Try.prog 12 #[.agg #[v], .agg #[u]] w (RetV w (.bool (decide (xs = ys)))) := by
  have hc := eqIntS_c l h l' h' v u xs ys ((w.alloc (.cells #[v] 32)).alloc (.cells #[u] 32)) hx hy (hv.below (Bel.alloc2 _ _ _)) (hu.below (Bel.alloc2 _ _ _))
  generalize decide (xs = ys) = r at *
  cases r
  all_goals
    have HC := Lib.hid hc; clear hc
    go_enter Try.func12, Try.ntmps12
    go_wp2_with (go_at_call 14; refine HC.out.mono ?_; rintro e w' ⟨rfl, hb⟩)
    go_ret
    exact ⟨rfl, (Bel.alloc2 w _ _).step hb⟩

theorem eqSign_same (l h l' h' : Nat) (v u : Value) (xs : List Int) (w : World) (hx : xs.length ≤ 1048576) (hv : SlI l h w v xs) (hu : SlI l' h' w u xs) :
    Calls Try.prog 12 #[.agg #[v], .agg #[u]] w (RetV w (.bool true)) := by
  have := eqSign_c l h l' h' v u xs xs w hx hx hv hu
  simpa using this


/-- Marking: the returned count, and what may have turned. -/
def RetM (lo hi : Nat) (w : World) (v : Value) (xs : List Int) (k : Nat) (e : Ending) (w' : World) : Prop := e = .returned (.int .i64 ((k + xs.length : Nat) : Int)) ∧ Chg lo hi w w' ∧ OwnI lo hi w' v (marks k xs.length)

theorem markIntS_c (lo hi : Nat) (v : Value) (xs : List Int) (k : Nat) (w : World) (hx : xs.length ≤ 1099511627776) (hk : k ≤ 1099511627776) (hv : OwnI lo hi w v xs) :
    Calls Try.prog 37 #[v, .int .i64 k] w (RetM lo hi w v xs k) := by
  obtain ⟨ad, cap, rfl⟩ := hv.sl.form
  go_enter Try.func37, Try.ntmps37
  go_wp2_with fail
  go_loopw [1, 5] (fun m i wr => ∃ j : Nat, j ≤ xs.length ∧ i = .int .i64 j ∧ m = .int .i64 ((k + j : Nat) : Int) ∧ OwnI lo hi wr (.slice ad xs.length cap) (marked xs k j) ∧ Chg lo hi w wr) (fun _ i _ => xs.length - (intOf i).toNat)
  case atStart => exact ⟨0, Nat.zero_le _, rfl, rfl, by rw [marked_zero]; exact hv, Chg.refl _ _ _⟩
  case round =>
    obtain ⟨j, hj, rfl, rfl, ho, hb⟩ := hrel
    by_cases hlt : j < xs.length
    · have hl := marked_len xs k j hj
      have ho0 := ho
      obtain ⟨⟨ad', cap', e, hc, hm, hr⟩, hf⟩ := ho0
      obtain ⟨b, off, rfl, a1, a2, a3⟩ := hr (by omega)
      simp only [Value.slice.injEq] at e
      obtain ⟨rfl, -, rfl⟩ := e
      have hcell := a3 j (by omega)
      have hfr := hf b off _ _ rfl (by omega) j
      have hst := ho.stored j (by omega) ((k + j : Nat) : Int)
      rw [marked_succ xs k j hlt] at hst
      have hb2 := hb.trans (Chg.set wr (p := ⟨b, off + j, none⟩) a1 a2 (.int .i64 ((k + j : Nat) : Int)))
      generalize (marked xs k j).getD j 0 = x at hcell
      clear hr hf ho hb hv hc hm hl a3
      have hkj : ((k + j : Nat) : Int) ≤ 9223372036854775000 := by omega
      go_wp2_with fail
      go_roundw
      case rel => exact ⟨j+1, by omega, by go_num, by go_num, by simpa using hst, by simpa using hb2⟩
      case measure => simp [intOf]; omega
    · rw [marked_all xs k j hlt hj] at ho
      go_wp2_with fail
      go_ret
      obtain rfl : j = xs.length := by omega
      exact ⟨rfl, hb, ho⟩

theorem heldIntS_c (l h : Nat) (v : Value) (n k : Nat) (w : World) (hx : n ≤ 1099511627776) (hk : k ≤ 1099511627776) (hv : SlI l h w v (marks k n)) :
    Calls Try.prog 52 #[v, .int .i64 k] w (RetV w (.int .i64 ((k + n : Nat) : Int))) := by
  obtain ⟨ad, cap, rfl, -, -, hr⟩ := hv
  rw [marks_len] at hr ⊢
  go_enter Try.func52, Try.ntmps52
  go_wp2_with fail
  go_loop [1, 5] (fun m i => ∃ j : Nat, j ≤ n ∧ i = .int .i64 j ∧ m = .int .i64 ((k + j : Nat) : Int)) (fun _ i => n - (intOf i).toNat)
  case atStart => exact ⟨0, Nat.zero_le _, rfl, rfl⟩
  case round =>
    obtain ⟨j, hj, rfl, rfl⟩ := hrel
    by_cases hlt : j < n
    · obtain ⟨b, off, rfl, -, -, a3⟩ := hr (by omega)
      have hcell := a3 j (by omega)
      rw [marks_get k n j hlt] at hcell
      have hne : (((k + j : Nat) : Int) != ((k + j : Nat) : Int)) = false := by simp
      clear hr a3
      go_wp2_with fail
      go_round
      case rel => exact ⟨j+1, by omega, by go_num, by go_num⟩
      case measure => simp [intOf]; omega
    · go_wp2_with fail
      go_ret
      obtain rfl : j = n := by omega
      exact ⟨rfl, Bel.rfl' _⟩

theorem markSign_c (lo hi : Nat) (v : Value) (xs : List Int) (k : Nat) (w : World) (hx : xs.length ≤ 1048576) (hk : k ≤ 1073741824) (_ : hi ≤ w.heap.size) (hv : OwnI lo hi w v xs) :
    Calls Try.prog 17 #[.agg #[v], .int .i64 k] w (RetM lo hi w v xs k) := by
  go_enter Try.func17, Try.ntmps17
  go_wp2_with fail
  refine (markIntS_c lo hi v xs k _ (by omega) (by omega) (hv.alloc _)).mono ?_; rintro e w' ⟨rfl, hb, ho⟩
  go_wp2_with fail
  go_ret
  exact ⟨rfl, (Chg.of_bel (Bel.alloc0 w _)).trans hb, ho⟩
end Go.Proofs.Ytjgbeclafdhijaa
end
section
/- Copies and joins of slices of ints. -/
namespace Go.Proofs.Ytjgbeclafdhijaa
open Go.RowKit

theorem news_of_sl {lo hi : Nat} {w : World} {a : Addr} {n c : Nat} {xs : List Int} (h : SlI lo hi w (.slice (some a) n c) xs) : ∀ j u, (xs.map (Value.int .i64))[j]? = some u → w.cell? (a.add j) = some u := by
  intro j u hj
  obtain ⟨ad, cap, e, _, _, hr⟩ := h
  simp only [Value.slice.injEq] at e
  have hlt : j < xs.length := by
    have := List.getElem?_eq_some_iff.1 hj
    simpa using this.1
  obtain ⟨b, off, e2, _, _, hc⟩ := hr (by omega)
  rw [← e.1] at e2
  simp only [Option.some.injEq] at e2
  subst e2
  rw [addr_add, hc j hlt]
  simp [hlt] at hj
  simp [List.getD, hlt, hj]
theorem ones_int (xs : List Int) : ∀ u ∈ xs.map (Value.int .i64), u.oneCell' = true := by
  intro u hu; simp at hu; obtain ⟨n, _, rfl⟩ := hu; rfl

/-- A slice of ints that the call itself made, as a row that may grow. -/
def RetR (w : World) (xs : List Int) (e : Ending) (w' : World) : Prop := ∃ ad n c, e = .returned (.slice ad n c) ∧ w'.ownsRow w.heap.size 3 1 (.slice ad n c) xs.length (xs.map (Value.int .i64)) ∧ Bel w w'
theorem RetR.i {w : World} {xs : List Int} {e : Ending} {w' : World} (h : RetR w xs e w') : RetI w xs e w' := by
  obtain ⟨ad, n, c, h1, h2, h3⟩ := h
  exact ⟨ad, n, c, h1, OwnI.of_row h2, h3⟩

/-- A cut of a slice. -/
theorem SlI.cut {lo hi : Nat} {w : World} {b off n c : Nat} {xs : List Int} (h : SlI lo hi w (.slice (some ⟨b, off, none⟩) n c) xs) (i j : Nat) (hij : i ≤ j) (hj : j ≤ xs.length) :
    SlI lo hi w (.slice (some ⟨b, off + i, none⟩) (j - i) (c - i)) ((xs.drop i).take (j - i)) := by
  obtain ⟨ad, cap, e, hc, hm, hr⟩ := h
  simp only [Value.slice.injEq] at e
  obtain ⟨rfl, rfl, rfl⟩ := e
  have hl : ((xs.drop i).take (j - i)).length = j - i := by simp; omega
  refine ⟨_, c - i, by rw [hl], by rw [hl]; omega, ⟨by have := hm.1; omega, fun h => by simp at h⟩, fun hp => ?_⟩
  rw [hl] at hp
  obtain ⟨b', off', e2, a1, a2, a3⟩ := hr (by omega)
  simp only [Option.some.injEq, Addr.mk.injEq, and_true] at e2
  obtain ⟨rfl, rfl⟩ := e2
  refine ⟨b, off + i, rfl, a1, a2, fun k hk => ?_⟩
  rw [hl] at hk
  rw [show off + i + k = off + (i + k) from by omega, a3 (i + k) (by omega)]
  simp [List.getD, hk, List.getElem?_drop]

/-- The head of a slice that is not nil lies at a plain address. -/
theorem SlI.plain {lo hi : Nat} {w : World} {v : Value} {xs : List Int} (h : SlI lo hi w v xs) (hp : 0 < xs.length) : ∃ b off c, v = .slice (some ⟨b, off, none⟩) xs.length c ∧ xs.length ≤ c := by
  obtain ⟨ad, cap, rfl, hc, hm, hr⟩ := h
  obtain ⟨b, off, rfl, _⟩ := hr hp
  exact ⟨b, off, cap, rfl, hc⟩

/-- A slice of slices of ints, as Concat reads it. -/
def PartsAt (lo hi : Nat) (w : World) (B o : Nat) (L : List (List Int)) : Prop :=
  ∀ j, j < L.length → ∃ ad c, w.cell? ⟨B, o + j, none⟩ = some (.slice ad (L.getD j []).length c) ∧ SlI lo hi w (.slice ad (L.getD j []).length c) (L.getD j [])
theorem PartsAt.below {lo hi : Nat} {w w' : World} {B o : Nat} {L : List (List Int)} (h : PartsAt lo hi w B o L) (hb : Bel w w') : PartsAt lo hi w' B o L := fun j hj => by
  obtain ⟨ad, c, h1, h2⟩ := h j hj
  exact ⟨ad, c, hb.at (World.block_lt_of_cell? w ⟨B, o + j, none⟩ h1) h1, h2.below hb⟩
def sumLen (L : List (List Int)) : Nat := (L.map List.length).sum
theorem sumLen_take (L : List (List Int)) (j : Nat) (h : j < L.length) : sumLen (L.take (j+1)) = sumLen (L.take j) + (L.getD j []).length := by
  unfold sumLen
  rw [List.take_succ_eq_append_getElem h, List.map_append, List.sum_append]
  simp only [List.map_cons, List.map_nil, List.sum_cons, List.sum_nil, Nat.add_zero]
  simp [List.getD, h]
theorem sumLen_le (L : List (List Int)) (j : Nat) : sumLen (L.take j) ≤ sumLen L := by
  unfold sumLen
  conv => rhs; rw [← List.take_append_drop j L]
  rw [List.map_append, List.sum_append]
  exact Nat.le_add_right _ _
theorem flat_take (L : List (List Int)) (j : Nat) (h : j < L.length) : (L.take (j+1)).flatten = (L.take j).flatten ++ L.getD j [] := by
  rw [List.take_succ_eq_append_getElem h, List.flatten_append]
  simp only [List.flatten_cons, List.flatten_nil, List.append_nil]
  simp [List.getD, h]
theorem flat_len (L : List (List Int)) : L.flatten.length = sumLen L := by simp [sumLen, List.length_flatten]

end Go.Proofs.Ytjgbeclafdhijaa
end
