/- The laws' helpers over slices of slices of ints, by contracts. -/
import Derived.Test.YtnldienjkejfcaaSS
import Derived.Test.YtnldienjkejfcaaLaw1
namespace Go.Proofs.Ytnldienjkejfcaa
open Go.RowKit

theorem Try.info22 : (Try.prog.info? 22).map (fun i => (i.zero, i.size, i.bytes)) = some (some (.slice none 0 0), 1, 24) := by kernel_rfl

def szS (xss : List (List Int)) (left : Int) : Int := if left - (tot xss : Nat) < 0 then -1 else left - (tot xss : Nat)

set_option maxRecDepth 100000 in
set_option maxHeartbeats 400000 in
theorem szIntSS_c (l h : Nat) (v : Value) (xss : List (List Int)) (left : Int) (w : World) (h0 : 0 ≤ left) (h1 : left ≤ 1048576) (hv : SlS l h w v xss) :
    Calls Try.prog 38 #[v, .int .i64 left] w (RetV w (.int .i64 (szS xss left))) := by
  obtain ⟨ad, cap, rfl⟩ := hv.form
  obtain ⟨hx, hmax⟩ := hv.max
  by_cases hs : left - xss.length < 0
  · have E : Hid (szS xss left = -1) := by show szS _ _ = _; unfold szS tot; rw [if_pos (by omega)]
    go_enter Try.func38, Try.ntmps38
    go_wp2_with fail
    go_ret
    exact ⟨by rw [E.out]; rfl, Bel.rfl' _⟩
  · have hw1 := IntWalk.i64_in (left - xss.length) (by omega)
    go_enter Try.func38, Try.ntmps38
    go_wp2_with fail
    go_loopw [1, 5] (fun m i wr => ∃ (k : Nat) (z : Int), k ≤ xss.length ∧ i = .int .i64 k ∧ m = .int .i64 z ∧ 0 ≤ z ∧ z = left - xss.length - (sumL (xss.take k) : Nat) ∧ Bel w wr) (fun _ i _ => xss.length - (intOf i).toNat)
    case atStart => exact ⟨0, _, Nat.zero_le _, rfl, by go_num, by omega, by simp [sumL], Bel.rfl' _⟩
    case round =>
      obtain ⟨k, z, hk, rfl, rfl, hz0, hz, hb⟩ := hrel
      by_cases hlt : k < xss.length
      · obtain ⟨b, off, u, rfl, -, hc, hu⟩ := hv.at hb k hlt
        have hm := hmax k hlt
        have hst := sumL_take xss k hlt
        have hsl := sumL_get xss k hlt
        have hcall := szIntS_c l h u (xss.getD k []) z wr hm hz0 (by omega) hu
        by_cases hneg : z - (xss.getD k []).length < 0
        · have e1 : szI (xss.getD k []).length z = -1 := by unfold szI; rw [if_pos hneg]
          have E : Hid (szS xss left = -1) := by show szS _ _ = _; unfold szS tot; rw [if_pos (by omega)]
          rw [e1] at hcall
          have HC := Lib.hid hcall
          clear hcall hv hu hmax hst hsl e1 hneg hz
          go_wp2_with (go_at_call 29; refine HC.out.mono ?_; rintro e w' ⟨rfl, hb1⟩)
          go_ret
          exact ⟨by rw [E.out]; rfl, hb.step hb1⟩
        · have e1 : szI (xss.getD k []).length z = z - (xss.getD k []).length := by unfold szI; rw [if_neg hneg]
          have hz' : z - ((xss.getD k []).length : Int) = left - xss.length - (sumL (xss.take (k+1)) : Nat) := by omega
          rw [e1] at hcall
          have HC := Lib.hid hcall
          have HZ := Lib.hid hz'
          have hz2 : 0 ≤ z - ((xss.getD k []).length : Int) := by omega
          clear hcall hv hu hmax hst hsl e1 hneg hz hz'
          generalize z - ((xss.getD k []).length : Int) = z2 at *
          go_wp2_with (go_at_call 29; refine HC.out.mono ?_; rintro e w' ⟨rfl, hb1⟩)
          go_roundw
          case rel => exact ⟨k+1, z2, by omega, by go_num, rfl, hz2, HZ.out, hb.step hb1⟩
          case measure => simp [intOf]; omega
      · have E : Hid (szS xss left = z) := by
          show szS _ _ = _
          rw [sumL_all xss k hlt] at hz
          unfold szS tot; rw [if_neg (by omega)]; omega
        clear hz
        go_wp2_with fail
        go_ret
        exact ⟨by rw [E.out]; rfl, hb⟩

set_option maxRecDepth 100000 in
set_option maxHeartbeats 400000 in
theorem toIntSS_c (l h : Nat) (v : Value) (xss : List (List Int)) (w : World) (hx : short xss) (hv : SlS l h w v xss) :
    Calls Try.prog 41 #[v] w (RetSS w xss) := by
  obtain ⟨ad, cap, rfl⟩ := hv.form
  obtain ⟨hx, hmax⟩ := hx
  obtain ⟨i0, hi, hz0, hz1, hz2⟩ := info_parts Try.info22
  go_enter Try.func41, Try.ntmps41
  go_wp2_with (at_make; refine wpList_make_full _ rfl _ _ 39 rfl w.heap.size 22 i0 (.slice none 0 0) 1 Try.underlying39 hi hz0 hz1 _ _ _ _ xss.length rfl rfl rfl rfl (by rw [hz2]; omega) (by unfold maxLen; omega) (Nat.le_refl _) ?_; intro w1 hown hg)
  have hz3 : (madeCells (Value.slice none 0 0).cells (xss.length * 1)).toList = [] ++ List.replicate (xss.length - 0) (Value.slice none 0 0) := by
    rw [Nat.mul_one]; show (madeCells #[_] _).toList = _; rw [toList_madeCells_one]; simp
  rw [hz3] at hown
  have hb0 : Bel w w1 := (Bel.rfl' w).grown hg (by simp)
  have hs1 : w.heap.size + 1 ≤ w1.heap.size := by
    rcases hown.2 with ⟨e, _⟩ | ⟨g, c, cur, e, _, hh, _⟩
    · simp at e
    · simp at e; have := (Array.getElem?_eq_some_iff.1 hh).1; omega
  clear hg hz3
  go_loopw [4] (fun i wr => ∃ (k : Nat) (us : List Value) (bs : Nat → Nat), k ≤ xss.length ∧ i = .int .i64 k ∧ wr.ownsRow w.heap.size 22 1 (.slice (some ⟨w.heap.size, 0, none⟩) xss.length xss.length) xss.length (us ++ List.replicate (xss.length - k) (Value.slice none 0 0)) ∧
    Ins (w.heap.size + 1) wr.heap.size w.heap.size wr us (xss.take k) bs ∧ w.heap.size + 1 ≤ wr.heap.size ∧ Bel w wr) (fun i _ => xss.length - (intOf i).toNat)
  case atStart => exact ⟨0, [], _, Nat.zero_le _, rfl, hown, (Ins.none _ _ _ _), hs1, hb0⟩
  case round =>
    obtain ⟨k, us, bs, hk, rfl, ho, hin, hs, hb⟩ := hrel
    have hul : us.length = k := by have := hin.len; simp at this; omega
    by_cases hlt : k < xss.length
    · obtain ⟨b, off, u, rfl, hbs, hc, hu⟩ := hv.at hb k hlt
      have hm := hmax k hlt
      have hcall := toIntS_c l h u (xss.getD k []) wr hm hu
      have HC := Lib.hid hcall
      have HI := Lib.hid hin
      have HO := Lib.hid ho
      clear hv hcall hu hmax hown hin ho
      go_wp2_with (go_at_call 24; refine HC.out.mono ?_; rintro e w' ⟨ad2, n2, c2, rfl, ho2, hb2⟩; have ho3 := ownsRow_bel HO.out hb2; have hcell := ho3.cellAt k (by omega); have hf := ho3.frozenAt k; rw [List.getElem?_append_right (by omega), hul, Nat.sub_self, List.getElem?_replicate, if_pos (by omega)] at hcell)
      go_roundw
      case rel =>
        have hst := ho3.stored k (.slice ad2 n2 c2)
        rw [List.set_append_right _ _ (by omega), hul, Nat.sub_self, show xss.length - k = (xss.length - (k+1)) + 1 from by omega, List.replicate_succ, List.set_cons_zero] at hst
        have hsz := hb2.size
        obtain ⟨bs', hin'⟩ := (HI.out.below hb2).snoc ho2 (Nat.le_refl _) hs (.inl (by omega)) (hi2 := w'.heap.size) (Nat.le_refl _) hsz
        have hin2 := hin'.same (w' := w'.setCell ⟨w.heap.size, k, none⟩ (.slice ad2 n2 c2)) (fun b h1 h2 _ => Below.heap_setCell w' _ _ b (by simp; omega))
        rw [show xss.take k ++ [xss.getD k []] = xss.take (k+1) from by rw [List.take_succ_eq_append_getElem hlt]; simp [List.getD, hlt]] at hin2
        refine ⟨k+1, us ++ [.slice ad2 n2 c2], bs', by omega, by go_num, by simpa using hst.1, by simpa using hin2, by simpa using (by omega : w.heap.size + 1 ≤ w'.heap.size), (hb.step hb2).setCell (p := ⟨w.heap.size, k, none⟩) (Nat.le_refl _) _⟩
      case measure => simp [intOf]; omega
    · rw [show xss.length - k = 0 from by omega, List.replicate_zero, List.append_nil] at ho
      rw [List.take_of_length_le (by omega)] at hin
      have HI := Lib.hid hin
      have HO := Lib.hid ho
      clear hin ho hv hmax hown
      go_wp2_with fail
      go_ret
      exact ⟨_, _, _, rfl, OwnS.of_row HO.out (Nat.le_refl _) (fun g hg => by simp [Value.ownBlock] at hg; subst hg; exact HI.out.mono (by omega) (Nat.le_refl _)), hb⟩

set_option maxRecDepth 100000 in
set_option maxHeartbeats 400000 in
theorem eqIntSS_same (l h l' h' : Nat) (v u : Value) (xss : List (List Int)) (w : World) (hx : short xss) (hv : SlS l h w v xss) (hu : SlS l' h' w u xss) :
    Calls Try.prog 45 #[v, u] w (RetV w (.bool true)) := by
  obtain ⟨ad, cap, rfl⟩ := hv.form
  obtain ⟨ad', cap', rfl⟩ := hu.form
  obtain ⟨hx, hmax⟩ := hx
  have hl' : ((xss.length : Int) != xss.length) = false := by simp
  go_enter Try.func45, Try.ntmps45
  go_wp2_with fail
  go_loopw [5] (fun i wr => ∃ k : Nat, k ≤ xss.length ∧ i = .int .i64 k ∧ Bel w wr) (fun i _ => xss.length - (intOf i).toNat)
  case atStart => exact ⟨0, Nat.zero_le _, rfl, Bel.rfl' _⟩
  case round =>
    obtain ⟨k, hk, rfl, hb⟩ := hrel
    by_cases hlt : k < xss.length
    · obtain ⟨b, off, p, rfl, -, hc, hp⟩ := hv.at hb k hlt
      obtain ⟨b', off', q, rfl, -, hc', hq⟩ := hu.at hb k hlt
      have hm := hmax k hlt
      have hbp := World.block_lt_of_cell? wr ⟨b, off + k, none⟩ hc
      have hbq := World.block_lt_of_cell? wr ⟨b', off' + k, none⟩ hc'
      have HC := Lib.hid (fun w' (h1 : Bel wr w') => eqIntS_same _ _ _ _ p q (xss.getD k []) w' hm (hp.below h1) (hq.below h1))
      clear hv hu hmax hp hq
      have hin1 : (k : Int) < xss.length := by omega
      go_wp2_with fail
      go_region_held3 (fun w' => Bel wr w' ∧ w'.cell? ⟨b, off + k, none⟩ = some p ∧ w'.cell? ⟨b', off' + k, none⟩ = some q)
        (first | exact ⟨Bel.drew0 _, hc, hc'⟩ | exact ⟨hb2.of_drew, hb2.at hbp hc, hb2.at hbq hc'⟩)
        (first | (go_at_call 26; refine (HC.out _ (Bel.drew0 _)).mono ?_; rintro e w2 ⟨rfl, hb2⟩))
      go_wp2_with fail
      go_roundw
      case rel => exact ⟨k+1, by omega, by go_num, hb.step hb2.of_drew⟩
      case measure => simp [intOf]; omega
    · go_wp2_with fail
      go_ret
      exact ⟨rfl, hb⟩

def RetMS (lo hi : Nat) (w : World) (v : Value) (xss : List (List Int)) (k : Nat) (e : Ending) (w' : World) : Prop := e = .returned (.int .i64 ((k + sumL xss : Nat) : Int)) ∧ Chg lo hi w w' ∧ OwnS lo hi w' v (marksS k xss)

end Go.Proofs.Ytnldienjkejfcaa
