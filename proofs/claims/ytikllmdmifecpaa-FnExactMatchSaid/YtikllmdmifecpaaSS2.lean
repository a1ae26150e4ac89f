/- The laws' helpers over slices of slices of ints, by contracts. -/
import Derived.Test.YtikllmdmifecpaaSS
import Derived.Test.YtikllmdmifecpaaLaw1
namespace Go.Proofs.Ytikllmdmifecpaa
open Go.RowKit

theorem Try.info22 : (Try.prog.info? 22).map (fun i => (i.zero, i.size, i.bytes)) = some (some (.slice none 0 0), 1, 24) := by kernel_rfl

def szS (xss : List (List Int)) (left : Int) : Int := if left - (tot xss : Nat) < 0 then -1 else left - (tot xss : Nat)

set_option maxRecDepth 100000 in
set_option maxHeartbeats 400000 in
theorem szIntSS_c (l h : Nat) (v : Value) (xss : List (List Int)) (left : Int) (w : World) (h0 : 0 ≤ left) (h1 : left ≤ 1048576) (hv : SlS l h w v xss) :
    Calls Try.prog 34 #[v, .int .i64 left] w (RetV w (.int .i64 (szS xss left))) := by
  obtain ⟨ad, cap, rfl⟩ := hv.form
  obtain ⟨hx, hmax⟩ := hv.max
  by_cases hs : left - xss.length < 0
  · have E : Hid (szS xss left = -1) := by show szS _ _ = _; unfold szS tot; rw [if_pos (by omega)]
    go_enter Try.func34, Try.ntmps34
    go_wp2_with fail
    go_ret
    exact ⟨by rw [E.out]; rfl, Bel.rfl' _⟩
  · have hw1 := IntWalk.i64_in (left - xss.length) (by omega)
    go_enter Try.func34, Try.ntmps34
    go_wp2_with fail
    go_loopw [1, 5] (fun m i wr => ∃ (k : Nat) (z : Int), k ≤ xss.length ∧ i = .int .i64 k ∧ m = .int .i64 z ∧ 0 ≤ z ∧ z = left - xss.length - (sumL (xss.take k) : Nat) ∧ Bel w wr) (fun _ i _ => xss.length - (intOf i).toNat)
    case atStart => exact ⟨0, _, Nat.zero_le _, rfl, by go_num, by omega, by simp [sumL], Bel.rfl' _⟩
    case round =>
      obtain ⟨k, z, hk, rfl, rfl, hz0, hz, hb⟩ := hrel
      by_cases hlt : k < xss.length
      · obtain ⟨b, off, u, rfl, -, hc, hu⟩ := hv.at hb k hlt
        have hm := hmax k hlt
        have hst := sumL_take xss k hlt
        have hsl := sumL_get xss k hlt
        have hcall := szIntS_c l h u (xss.getD k []) z wr hm hz0 (by omega) hu
        by_cases hneg : z - (xss.getD k []).length < 0
        · have e1 : szI (xss.getD k []).length z = -1 := by unfold szI; rw [if_pos hneg]
          have E : Hid (szS xss left = -1) := by show szS _ _ = _; unfold szS tot; rw [if_pos (by omega)]
          rw [e1] at hcall
          have HC := Lib.hid hcall
          clear hcall hv hu hmax hst hsl e1 hneg hz
          go_wp2_with (go_at_call 70; refine HC.out.mono ?_; rintro e w' ⟨rfl, hb1⟩)
          go_ret
          exact ⟨by rw [E.out]; rfl, hb.step hb1⟩
        · have e1 : szI (xss.getD k []).length z = z - (xss.getD k []).length := by unfold szI; rw [if_neg hneg]
          have hz' : z - ((xss.getD k []).length : Int) = left - xss.length - (sumL (xss.take (k+1)) : Nat) := by omega
          rw [e1] at hcall
          have HC := Lib.hid hcall
          have HZ := Lib.hid hz'
          have hz2 : 0 ≤ z - ((xss.getD k []).length : Int) := by omega
          clear hcall hv hu hmax hst hsl e1 hneg hz hz'
          generalize z - ((xss.getD k []).length : Int) = z2 at *
          go_wp2_with (go_at_call 70; refine HC.out.mono ?_; rintro e w' ⟨rfl, hb1⟩)
          go_roundw
          case rel => exact ⟨k+1, z2, by omega, by go_num, rfl, hz2, HZ.out, hb.step hb1⟩
          case measure => simp [intOf]; omega
      · have E : Hid (szS xss left = z) := by
          show szS _ _ = _
          rw [sumL_all xss k hlt] at hz
          unfold szS tot; rw [if_neg (by omega)]; omega
        clear hz
        go_wp2_with fail
        go_ret
        exact ⟨by rw [E.out]; rfl, hb⟩

set_option maxRecDepth 100000 in
set_option maxHeartbeats 400000 in
theorem toIntSS_c (l h : Nat) (v : Value) (xss : List (List Int)) (w : World) (hx : short xss) (hv : SlS l h w v xss) :
    Calls Try.prog 37 #[v] w (RetSS w xss) := by
  obtain ⟨ad, cap, rfl⟩ := hv.form
  obtain ⟨hx, hmax⟩ := hx
  obtain ⟨i0, hi, hz0, hz1, hz2⟩ := info_parts Try.info22
  go_enter Try.func37, Try.ntmps37
  go_wp2_with (at_make; refine wpList_make_full _ rfl _ _ 26 rfl w.heap.size 22 i0 (.slice none 0 0) 1 Try.underlying26 hi hz0 hz1 _ _ _ _ xss.length rfl rfl rfl rfl (by rw [hz2]; omega) (by unfold maxLen; omega) (Nat.le_refl _) ?_; intro w1 hown hg)
  have hz3 : (madeCells (Value.slice none 0 0).cells (xss.length * 1)).toList = [] ++ List.replicate (xss.length - 0) (Value.slice none 0 0) := by
    rw [Nat.mul_one]; show (madeCells #[_] _).toList = _; rw [toList_madeCells_one]; simp
  rw [hz3] at hown
  have hb0 : Bel w w1 := (Bel.rfl' w).grown hg (by simp)
  have hs1 : w.heap.size + 1 ≤ w1.heap.size := by
    rcases hown.2 with ⟨e, _⟩ | ⟨g, c, cur, e, _, hh, _⟩
    · simp at e
    · simp at e; have := (Array.getElem?_eq_some_iff.1 hh).1; omega
  clear hg hz3
  go_loopw [4] (fun i wr => ∃ (k : Nat) (us : List Value) (bs : Nat → Nat), k ≤ xss.length ∧ i = .int .i64 k ∧ wr.ownsRow w.heap.size 22 1 (.slice (some ⟨w.heap.size, 0, none⟩) xss.length xss.length) xss.length (us ++ List.replicate (xss.length - k) (Value.slice none 0 0)) ∧
    Ins (w.heap.size + 1) wr.heap.size w.heap.size wr us (xss.take k) bs ∧ w.heap.size + 1 ≤ wr.heap.size ∧ Bel w wr) (fun i _ => xss.length - (intOf i).toNat)
  case atStart => exact ⟨0, [], _, Nat.zero_le _, rfl, hown, (Ins.none _ _ _ _), hs1, hb0⟩
  case round =>
    obtain ⟨k, us, bs, hk, rfl, ho, hin, hs, hb⟩ := hrel
    have hul : us.length = k := by have := hin.len; simp at this; omega
    by_cases hlt : k < xss.length
    · obtain ⟨b, off, u, rfl, hbs, hc, hu⟩ := hv.at hb k hlt
      have hm := hmax k hlt
      have hcall := toIntS_c l h u (xss.getD k []) wr hm hu
      have HC := Lib.hid hcall
      have HI := Lib.hid hin
      have HO := Lib.hid ho
      clear hv hcall hu hmax hown hin ho
      go_wp2_with (go_at_call 12; refine HC.out.mono ?_; rintro e w' ⟨ad2, n2, c2, rfl, ho2, hb2⟩; have ho3 := ownsRow_bel HO.out hb2; have hcell := ho3.cellAt k (by omega); have hf := ho3.frozenAt k; rw [List.getElem?_append_right (by omega), hul, Nat.sub_self, List.getElem?_replicate, if_pos (by omega)] at hcell)
      go_roundw
      case rel =>
        have hst := ho3.stored k (.slice ad2 n2 c2)
        rw [List.set_append_right _ _ (by omega), hul, Nat.sub_self, show xss.length - k = (xss.length - (k+1)) + 1 from by omega, List.replicate_succ, List.set_cons_zero] at hst
        have hsz := hb2.size
        obtain ⟨bs', hin'⟩ := (HI.out.below hb2).snoc ho2 (Nat.le_refl _) hs (.inl (by omega)) (hi2 := w'.heap.size) (Nat.le_refl _) hsz
        have hin2 := hin'.same (w' := w'.setCell ⟨w.heap.size, k, none⟩ (.slice ad2 n2 c2)) (fun b h1 h2 _ => Below.heap_setCell w' _ _ b (by simp; omega))
        rw [show xss.take k ++ [xss.getD k []] = xss.take (k+1) from by rw [List.take_succ_eq_append_getElem hlt]; simp [List.getD, hlt]] at hin2
        refine ⟨k+1, us ++ [.slice ad2 n2 c2], bs', by omega, by go_num, by simpa using hst.1, by simpa using hin2, by simpa using (by omega : w.heap.size + 1 ≤ w'.heap.size), (hb.step hb2).setCell (p := ⟨w.heap.size, k, none⟩) (Nat.le_refl _) _⟩
      case measure => simp [intOf]; omega
    · rw [show xss.length - k = 0 from by omega, List.replicate_zero, List.append_nil] at ho
      rw [List.take_of_length_le (by omega)] at hin
      have HI := Lib.hid hin
      have HO := Lib.hid ho
      clear hin ho hv hmax hown
      go_wp2_with fail
      go_ret
      exact ⟨_, _, _, rfl, OwnS.of_row HO.out (Nat.le_refl _) (fun g hg => by simp [Value.ownBlock] at hg; subst hg; exact HI.out.mono (by omega) (Nat.le_refl _)), hb⟩

set_option maxRecDepth 100000 in
set_option maxHeartbeats 400000 in
theorem eqIntSS_same (l h l' h' : Nat) (v u : Value) (xss : List (List Int)) (w : World) (hx : short xss) (hv : SlS l h w v xss) (hu : SlS l' h' w u xss) :
    Calls Try.prog 14 #[v, u] w (RetV w (.bool true)) := by
  obtain ⟨ad, cap, rfl⟩ := hv.form
  obtain ⟨ad', cap', rfl⟩ := hu.form
  obtain ⟨hx, hmax⟩ := hx
  have hl' : ((xss.length : Int) != xss.length) = false := by simp
  go_enter Try.func14, Try.ntmps14
  go_wp2_with fail
  go_loopw [5] (fun i wr => ∃ k : Nat, k ≤ xss.length ∧ i = .int .i64 k ∧ Bel w wr) (fun i _ => xss.length - (intOf i).toNat)
  case atStart => exact ⟨0, Nat.zero_le _, rfl, Bel.rfl' _⟩
  case round =>
    obtain ⟨k, hk, rfl, hb⟩ := hrel
    by_cases hlt : k < xss.length
    · obtain ⟨b, off, p, rfl, -, hc, hp⟩ := hv.at hb k hlt
      obtain ⟨b', off', q, rfl, -, hc', hq⟩ := hu.at hb k hlt
      have hm := hmax k hlt
      have hbp := World.block_lt_of_cell? wr ⟨b, off + k, none⟩ hc
      have hbq := World.block_lt_of_cell? wr ⟨b', off' + k, none⟩ hc'
      have HC := Lib.hid (fun w' (h1 : Bel wr w') => eqIntS_same _ _ _ _ p q (xss.getD k []) w' hm (hp.below h1) (hq.below h1))
      clear hv hu hmax hp hq
      have hin1 : (k : Int) < xss.length := by omega
      go_wp2_with fail
      go_region_held3 (fun w' => Bel wr w' ∧ w'.cell? ⟨b, off + k, none⟩ = some p ∧ w'.cell? ⟨b', off' + k, none⟩ = some q)
        (first | exact ⟨Bel.drew0 _, hc, hc'⟩ | exact ⟨hb2.of_drew, hb2.at hbp hc, hb2.at hbq hc'⟩)
        (first | (go_at_call 16; refine (HC.out _ (Bel.drew0 _)).mono ?_; rintro e w2 ⟨rfl, hb2⟩))
      go_wp2_with fail
      go_roundw
      case rel => exact ⟨k+1, by omega, by go_num, hb.step hb2.of_drew⟩
      case measure => simp [intOf]; omega
    · go_wp2_with fail
      go_ret
      exact ⟨rfl, hb⟩

def RetMS (lo hi : Nat) (w : World) (v : Value) (xss : List (List Int)) (k : Nat) (e : Ending) (w' : World) : Prop := e = .returned (.int .i64 ((k + sumL xss : Nat) : Int)) ∧ Chg lo hi w w' ∧ OwnS lo hi w' v (marksS k xss)

set_option maxRecDepth 100000 in
set_option maxHeartbeats 400000 in
theorem markIntSS_c (lo hi : Nat) (v : Value) (xss : List (List Int)) (k : Nat) (w : World) (hx : tot xss ≤ 1048576) (hk : k ≤ 1073741824) (hv : OwnS lo hi w v xss) :
    Calls Try.prog 19 #[v, .int .i64 k] w (RetMS lo hi w v xss k) := by
  obtain ⟨ad, cap, rfl⟩ := hv.sl.form
  unfold tot at hx
  go_enter Try.func19, Try.ntmps19
  go_wp2_with fail
  go_loopw [1, 5] (fun m i wr => ∃ j : Nat, j ≤ xss.length ∧ i = .int .i64 j ∧ m = .int .i64 ((k + sumL (xss.take j) : Nat) : Int) ∧ OwnS lo hi wr (.slice ad xss.length cap) (markedS xss k j) ∧ Chg lo hi w wr) (fun _ i _ => xss.length - (intOf i).toNat)
  case atStart => exact ⟨0, Nat.zero_le _, rfl, by simp [sumL], by rw [markedS_zero]; exact hv, Chg.refl _ _ _⟩
  case round =>
    obtain ⟨j, hj, rfl, rfl, ho, hb⟩ := hrel
    by_cases hlt : j < xss.length
    · have hl := markedS_len xss k j hj
      have hst := sumL_take xss j hlt
      have hsl := sumL_get xss j hlt
      obtain ⟨ad', cap', e, hc, hm, hr⟩ := ho
      obtain ⟨b, off, us, bs, rfl, a1, a2, a3, hin⟩ := hr (by omega)
      simp only [Value.slice.injEq] at e
      obtain ⟨rfl, -, rfl⟩ := e
      have hul := hin.len
      have hju : us[j]? = some us[j] := List.getElem?_eq_getElem (by omega)
      have hcell := a3 j _ hju
      have hown := hin.own j _ hju
      have hget := markedS_get xss k j hlt
      have hsucc := markedS_succ xss k j hlt
      generalize us[j] = u at hju hcell hown
      generalize hq : (if 0 < (xss.getD j []).length then bs j else 0) = q
      generalize hq2 : (if 0 < (xss.getD j []).length then bs j + 1 else 0) = q2
      have hown2 : OwnI q q2 wr u (xss.getD j []) := by
        rw [← hq, ← hq2]; rw [hget] at hown
        split
        · exact hown
        · rename_i h0; rw [len0 h0] at hown ⊢; exact hown.empty
      have hcall := markIntS_c q q2 u (xss.getD j []) (k + sumL (xss.take j)) wr (by omega) (by omega) hown2
      have HC := Lib.hid hcall
      have HF := Lib.hid (And.intro hin (And.intro a3 (And.intro hju (And.intro hc (And.intro hm (And.intro hget (And.intro hsucc (And.intro hq (And.intro hq2 (And.intro a1 (And.intro a2 (And.intro hst hl))))))))))))
      have HB := Lib.hid hb
      have hkj : k + sumL (xss.take j) ≤ 1073741824 + 1048576 := by have := sumL_le xss j; omega
      clear hr hb hv hcall hown hown2 hin a3 hju hc hm hget hsucc hq hq2 hst hl
      generalize hz : k + sumL (xss.take j) = z at *
      go_wp2_with (go_at_call 18; refine HC.out.mono ?_; rintro e w' ⟨rfl, hch, hom⟩)
      go_roundw
      case rel =>
        obtain ⟨hin, a3, hju, hc, hm, hget, hsucc, hq, hq2, a1, a2, hst, hl⟩ := HF.out
        have hpos : 0 < (xss.getD j []).length → lo ≤ bs j ∧ bs j < hi ∧ bs j ≠ b := fun hp => hin.rng j (by omega) (by rw [hget]; exact hp)
        have hch2 : Chg lo hi wr w' := by
          by_cases hp : 0 < (xss.getD j []).length
          · have := hpos hp
            rw [if_pos hp] at hq hq2
            exact hch.mono (by omega) (by omega)
          · rw [if_neg hp] at hq hq2
            subst hq hq2
            exact ⟨hch.os, hch.tape, hch.output, hch.size, fun b hb _ => hch.block b hb (by omega)⟩
        refine ⟨j+1, by omega, by go_num, by rw [hst, ← Nat.add_assoc, hz]; first | done | (simp [List.getD, hlt]), ?_, HB.out.trans hch2⟩
        rw [← hsucc]
        have hlm : (marks z (xss.getD j []).length).length = ((markedS xss k j).getD j []).length := by rw [marks_len, hget]
        have hom2 : OwnI (bs j) (bs j + 1) w' u (marks z (xss.getD j []).length) := by
          by_cases hp : 0 < (xss.getD j []).length
          · rw [if_pos hp] at hq hq2; rw [← hq, ← hq2] at hom; exact hom
          · rw [len0 hp] at hom ⊢; exact hom.empty
        have hin2 := hin.stored (w' := w') j (by omega) u hju (marks z (xss.getD j []).length) hlm
          (fun hp => by rw [marks_len] at hp; rw [if_pos hp] at hq hq2; rw [hq] at hq2; rw [hq, hq2]; exact hch)
          (fun hp => by rw [marks_len] at hp; rw [if_neg hp] at hq hq2; rw [← hq, ← hq2] at hch; exact hch) hom2
        refine ⟨_, cap, by rw [List.length_set, hl], by rw [List.length_set]; exact hc, hm, fun _ => ⟨b, off, us, bs, rfl, a1, a2, fun i x hix => ?_, hin2⟩⟩
        have hbx := a3 i x hix
        have hbl := World.block_lt_of_cell? wr ⟨b, off + i, none⟩ hbx
        refine hch.cell hbl ?_ hbx
        by_cases hp : 0 < (xss.getD j []).length
        · have := hpos hp
          rw [if_pos hp] at hq hq2
          omega
        · rw [if_neg hp] at hq hq2
          omega
      case measure => simp [intOf]; omega
    · rw [markedS_all xss k j hlt] at ho
      rw [sumL_all xss j hlt]
      go_wp2_with fail
      go_ret
      exact ⟨rfl, hb, ho⟩

set_option maxRecDepth 100000 in
set_option maxHeartbeats 400000 in
theorem heldIntSS_c (l h : Nat) (v : Value) (xss : List (List Int)) (k : Nat) (w : World) (hx : tot xss ≤ 1048576) (hk : k ≤ 1073741824) (hv : SlS l h w v (marksS k xss)) :
    Calls Try.prog 20 #[v, .int .i64 k] w (RetV w (.int .i64 ((k + sumL xss : Nat) : Int))) := by
  obtain ⟨ad, cap, rfl⟩ := hv.form
  unfold tot at hx
  have hml := marksS_len k xss
  rw [hml]
  go_enter Try.func20, Try.ntmps20
  go_wp2_with fail
  go_loopw [1, 5] (fun m i wr => ∃ j : Nat, j ≤ xss.length ∧ i = .int .i64 j ∧ m = .int .i64 ((k + sumL (xss.take j) : Nat) : Int) ∧ Bel w wr) (fun _ i _ => xss.length - (intOf i).toNat)
  case atStart => exact ⟨0, Nat.zero_le _, rfl, by simp [sumL], Bel.rfl' _⟩
  case round =>
    obtain ⟨j, hj, rfl, rfl, hb⟩ := hrel
    by_cases hlt : j < xss.length
    · have hst := sumL_take xss j hlt
      have hsl := sumL_get xss j hlt
      obtain ⟨b, off, u, rfl, -, hc, hu⟩ := hv.at hb j (by rw [hml]; exact hlt)
      rw [marksS_get k xss j hlt] at hu
      have hcall := heldIntS_c _ _ u (xss.getD j []).length (k + sumL (xss.take j)) wr (by omega) (by omega) hu
      rw [Nat.add_assoc, ← hst] at hcall
      have hnn : decide (((k + sumL (xss.take (j+1)) : Nat) : Int) < 0) = false := by simp; omega
      have hkj : k + sumL (xss.take j) ≤ 1073741824 + 1048576 := by omega
      have HC := Lib.hid hcall
      clear hcall hu hv hst hsl
      generalize hz2 : k + sumL (xss.take (j+1)) = z2 at *
      generalize k + sumL (xss.take j) = z at *
      go_wp2_with (go_at_call 77; refine HC.out.mono ?_; rintro e w' ⟨rfl, hb2⟩)
      go_roundw
      case rel => exact ⟨j+1, by omega, by go_num, by rw [hz2], hb.step hb2⟩
      case measure => simp [intOf]; omega
    · rw [sumL_all xss j hlt]
      go_wp2_with fail
      go_ret
      exact ⟨rfl, hb⟩
end Go.Proofs.Ytikllmdmifecpaa
