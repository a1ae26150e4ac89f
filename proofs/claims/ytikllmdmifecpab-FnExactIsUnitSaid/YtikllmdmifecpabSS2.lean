/- The laws' helpers over slices of slices of ints, by contracts. -/
import Derived.Test.YtikllmdmifecpabSS
import Derived.Test.YtikllmdmifecpabLaw1
namespace Go.Proofs.Ytikllmdmifecpab
open Go.RowKit

theorem Try.info24 : (Try.prog.info? 24).map (fun i => (i.zero, i.size, i.bytes)) = some (some (.slice none 0 0), 1, 24) := by kernel_rfl

def szS (xss : List (List Int)) (left : Int) : Int := if left - (tot xss : Nat) < 0 then -1 else left - (tot xss : Nat)

set_option maxRecDepth 100000 in
set_option maxHeartbeats 400000 in
theorem eqIntSS_same (l h l' h' : Nat) (v u : Value) (xss : List (List Int)) (w : World) (hx : short xss) (hv : SlS l h w v xss) (hu : SlS l' h' w u xss) :
    Calls Try.prog 48 #[v, u] w (RetV w (.bool true)) := by
  obtain ⟨ad, cap, rfl⟩ := hv.form
  obtain ⟨ad', cap', rfl⟩ := hu.form
  obtain ⟨hx, hmax⟩ := hx
  have hl' : ((xss.length : Int) != xss.length) = false := by simp
  go_enter Try.func48, Try.ntmps48
  go_wp2_with fail
  go_loopw [5] (fun i wr => ∃ k : Nat, k ≤ xss.length ∧ i = .int .i64 k ∧ Bel w wr) (fun i _ => xss.length - (intOf i).toNat)
  case atStart => exact ⟨0, Nat.zero_le _, rfl, Bel.rfl' _⟩
  case round =>
    obtain ⟨k, hk, rfl, hb⟩ := hrel
    by_cases hlt : k < xss.length
    · obtain ⟨b, off, p, rfl, -, hc, hp⟩ := hv.at hb k hlt
      obtain ⟨b', off', q, rfl, -, hc', hq⟩ := hu.at hb k hlt
      have hm := hmax k hlt
      have hbp := World.block_lt_of_cell? wr ⟨b, off + k, none⟩ hc
      have hbq := World.block_lt_of_cell? wr ⟨b', off' + k, none⟩ hc'
      have HC := Lib.hid (fun w' (h1 : Bel wr w') => eqIntS_same _ _ _ _ p q (xss.getD k []) w' hm (hp.below h1) (hq.below h1))
      clear hv hu hmax hp hq
      have hin1 : (k : Int) < xss.length := by omega
      go_wp2_with fail
      go_region_held3 (fun w' => Bel wr w' ∧ w'.cell? ⟨b, off + k, none⟩ = some p ∧ w'.cell? ⟨b', off' + k, none⟩ = some q)
        (first | exact ⟨Bel.drew0 _, hc, hc'⟩ | exact ⟨hb2.of_drew, hb2.at hbp hc, hb2.at hbq hc'⟩)
        (first | (go_at_call 100; refine (HC.out _ (Bel.drew0 _)).mono ?_; rintro e w2 ⟨rfl, hb2⟩))
      go_wp2_with fail
      go_roundw
      case rel => exact ⟨k+1, by omega, by go_num, hb.step hb2.of_drew⟩
      case measure => simp [intOf]; omega
    · go_wp2_with fail
      go_ret
      exact ⟨rfl, hb⟩

def RetMS (lo hi : Nat) (w : World) (v : Value) (xss : List (List Int)) (k : Nat) (e : Ending) (w' : World) : Prop := e = .returned (.int .i64 ((k + sumL xss : Nat) : Int)) ∧ Chg lo hi w w' ∧ OwnS lo hi w' v (marksS k xss)

set_option maxRecDepth 100000 in
set_option maxHeartbeats 400000 in
theorem markIntSS_c (lo hi : Nat) (v : Value) (xss : List (List Int)) (k : Nat) (w : World) (hx : tot xss ≤ 1048576) (hk : k ≤ 1073741824) (hv : OwnS lo hi w v xss) :
    Calls Try.prog 51 #[v, .int .i64 k] w (RetMS lo hi w v xss k) := by
  obtain ⟨ad, cap, rfl⟩ := hv.sl.form
  unfold tot at hx
  go_enter Try.func51, Try.ntmps51
  go_wp2_with fail
  go_loopw [1, 5] (fun m i wr => ∃ j : Nat, j ≤ xss.length ∧ i = .int .i64 j ∧ m = .int .i64 ((k + sumL (xss.take j) : Nat) : Int) ∧ OwnS lo hi wr (.slice ad xss.length cap) (markedS xss k j) ∧ Chg lo hi w wr) (fun _ i _ => xss.length - (intOf i).toNat)
  case atStart => exact ⟨0, Nat.zero_le _, rfl, by simp [sumL], by rw [markedS_zero]; exact hv, Chg.refl _ _ _⟩
  case round =>
    obtain ⟨j, hj, rfl, rfl, ho, hb⟩ := hrel
    by_cases hlt : j < xss.length
    · have hl := markedS_len xss k j hj
      have hst := sumL_take xss j hlt
      have hsl := sumL_get xss j hlt
      obtain ⟨ad', cap', e, hc, hm, hr⟩ := ho
      obtain ⟨b, off, us, bs, rfl, a1, a2, a3, hin⟩ := hr (by omega)
      simp only [Value.slice.injEq] at e
      obtain ⟨rfl, -, rfl⟩ := e
      have hul := hin.len
      have hju : us[j]? = some us[j] := List.getElem?_eq_getElem (by omega)
      have hcell := a3 j _ hju
      have hown := hin.own j _ hju
      have hget := markedS_get xss k j hlt
      have hsucc := markedS_succ xss k j hlt
      generalize us[j] = u at hju hcell hown
      generalize hq : (if 0 < (xss.getD j []).length then bs j else 0) = q
      generalize hq2 : (if 0 < (xss.getD j []).length then bs j + 1 else 0) = q2
      have hown2 : OwnI q q2 wr u (xss.getD j []) := by
        rw [← hq, ← hq2]; rw [hget] at hown
        split
        · exact hown
        · rename_i h0; rw [len0 h0] at hown ⊢; exact hown.empty
      have hcall := markIntS_c q q2 u (xss.getD j []) (k + sumL (xss.take j)) wr (by omega) (by omega) hown2
      have HC := Lib.hid hcall
      have HF := Lib.hid (And.intro hin (And.intro a3 (And.intro hju (And.intro hc (And.intro hm (And.intro hget (And.intro hsucc (And.intro hq (And.intro hq2 (And.intro a1 (And.intro a2 (And.intro hst hl))))))))))))
      have HB := Lib.hid hb
      have hkj : k + sumL (xss.take j) ≤ 1073741824 + 1048576 := by have := sumL_le xss j; omega
      clear hr hb hv hcall hown hown2 hin a3 hju hc hm hget hsucc hq hq2 hst hl
      generalize hz : k + sumL (xss.take j) = z at *
      go_wp2_with (go_at_call 105; refine HC.out.mono ?_; rintro e w' ⟨rfl, hch, hom⟩)
      go_roundw
      case rel =>
        obtain ⟨hin, a3, hju, hc, hm, hget, hsucc, hq, hq2, a1, a2, hst, hl⟩ := HF.out
        have hpos : 0 < (xss.getD j []).length → lo ≤ bs j ∧ bs j < hi ∧ bs j ≠ b := fun hp => hin.rng j (by omega) (by rw [hget]; exact hp)
        have hch2 : Chg lo hi wr w' := by
          by_cases hp : 0 < (xss.getD j []).length
          · have := hpos hp
            rw [if_pos hp] at hq hq2
            exact hch.mono (by omega) (by omega)
          · rw [if_neg hp] at hq hq2
            subst hq hq2
            exact ⟨hch.os, hch.tape, hch.output, hch.size, fun b hb _ => hch.block b hb (by omega)⟩
        refine ⟨j+1, by omega, by go_num, by rw [hst, ← Nat.add_assoc, hz]; first | done | (simp [List.getD, hlt]), ?_, HB.out.trans hch2⟩
        rw [← hsucc]
        have hlm : (marks z (xss.getD j []).length).length = ((markedS xss k j).getD j []).length := by rw [marks_len, hget]
        have hom2 : OwnI (bs j) (bs j + 1) w' u (marks z (xss.getD j []).length) := by
          by_cases hp : 0 < (xss.getD j []).length
          · rw [if_pos hp] at hq hq2; rw [← hq, ← hq2] at hom; exact hom
          · rw [len0 hp] at hom ⊢; exact hom.empty
        have hin2 := hin.stored (w' := w') j (by omega) u hju (marks z (xss.getD j []).length) hlm
          (fun hp => by rw [marks_len] at hp; rw [if_pos hp] at hq hq2; rw [hq] at hq2; rw [hq, hq2]; exact hch)
          (fun hp => by rw [marks_len] at hp; rw [if_neg hp] at hq hq2; rw [← hq, ← hq2] at hch; exact hch) hom2
        refine ⟨_, cap, by rw [List.length_set, hl], by rw [List.length_set]; exact hc, hm, fun _ => ⟨b, off, us, bs, rfl, a1, a2, fun i x hix => ?_, hin2⟩⟩
        have hbx := a3 i x hix
        have hbl := World.block_lt_of_cell? wr ⟨b, off + i, none⟩ hbx
        refine hch.cell hbl ?_ hbx
        by_cases hp : 0 < (xss.getD j []).length
        · have := hpos hp
          rw [if_pos hp] at hq hq2
          omega
        · rw [if_neg hp] at hq hq2
          omega
      case measure => simp [intOf]; omega
    · rw [markedS_all xss k j hlt] at ho
      rw [sumL_all xss j hlt]
      go_wp2_with fail
      go_ret
      exact ⟨rfl, hb, ho⟩

set_option maxRecDepth 100000 in
set_option maxHeartbeats 400000 in
theorem heldIntSS_c (l h : Nat) (v : Value) (xss : List (List Int)) (k : Nat) (w : World) (hx : tot xss ≤ 1048576) (hk : k ≤ 1073741824) (hv : SlS l h w v (marksS k xss)) :
    Calls Try.prog 52 #[v, .int .i64 k] w (RetV w (.int .i64 ((k + sumL xss : Nat) : Int))) := by
  obtain ⟨ad, cap, rfl⟩ := hv.form
  unfold tot at hx
  have hml := marksS_len k xss
  rw [hml]
  go_enter Try.func52, Try.ntmps52
  go_wp2_with fail
  go_loopw [1, 5] (fun m i wr => ∃ j : Nat, j ≤ xss.length ∧ i = .int .i64 j ∧ m = .int .i64 ((k + sumL (xss.take j) : Nat) : Int) ∧ Bel w wr) (fun _ i _ => xss.length - (intOf i).toNat)
  case atStart => exact ⟨0, Nat.zero_le _, rfl, by simp [sumL], Bel.rfl' _⟩
  case round =>
    obtain ⟨j, hj, rfl, rfl, hb⟩ := hrel
    by_cases hlt : j < xss.length
    · have hst := sumL_take xss j hlt
      have hsl := sumL_get xss j hlt
      obtain ⟨b, off, u, rfl, -, hc, hu⟩ := hv.at hb j (by rw [hml]; exact hlt)
      rw [marksS_get k xss j hlt] at hu
      have hcall := heldIntS_c _ _ u (xss.getD j []).length (k + sumL (xss.take j)) wr (by omega) (by omega) hu
      rw [Nat.add_assoc, ← hst] at hcall
      have hnn : decide (((k + sumL (xss.take (j+1)) : Nat) : Int) < 0) = false := by simp; omega
      have hkj : k + sumL (xss.take j) ≤ 1073741824 + 1048576 := by omega
      have HC := Lib.hid hcall
      clear hcall hu hv hst hsl
      generalize hz2 : k + sumL (xss.take (j+1)) = z2 at *
      generalize k + sumL (xss.take j) = z at *
      go_wp2_with (go_at_call 106; refine HC.out.mono ?_; rintro e w' ⟨rfl, hb2⟩)
      go_roundw
      case rel => exact ⟨j+1, by omega, by go_num, by rw [hz2], hb.step hb2⟩
      case measure => simp [intOf]; omega
    · rw [sumL_all xss j hlt]
      go_wp2_with fail
      go_ret
      exact ⟨rfl, hb⟩
end Go.Proofs.Ytikllmdmifecpab
