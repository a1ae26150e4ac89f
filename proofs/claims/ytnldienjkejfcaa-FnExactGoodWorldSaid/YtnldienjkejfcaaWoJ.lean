/- Chapter 5, the program: GoodWorld. -/
import Derived.Test.YtnldienjkejfcaaWoI
namespace Go.Proofs.Ytnldienjkejfcaa
open Go.RowKit

set_option maxRecDepth 100000 in
set_option maxHeartbeats 1000000 in
theorem iGoodWorld_t {l h l' h' : Nat} {v u : Value} {ar : List Int} {sz : Int} {tb : List (List Int)} {w : World} (ha : ar.length ≤ 1048576) (hv : SlI l h w v ar) (hx : short tb) (hu : SlS l' h' w u tb) :
    Calls Try.prog 21 #[.agg #[v], .agg #[.int .i64 sz, u]] w (RetV w (.bool (goodWorld ar sz tb))) := by
  have hv0 := hv
  obtain ⟨ad, cap, rfl, -, -, hr⟩ := hv
  obtain ⟨au, cu, rfl⟩ := hu.form
  by_cases h1 : (goodSign ar && inB sz 1 3) = true
  · have hg : goodSign ar = true := by revert h1; cases goodSign ar <;> simp
    have h1b : inB sz 1 3 = true := by revert h1; cases inB sz 1 3 <;> simp
    have hlen := (sign_len ar hg).2
    have HH := Lib.hid (fun (w' : World) (hb : Bel w w') => hasWorlds_v l h _ ar sz true w' h1 ha (hv0.below hb))
    by_cases h2 : tb.length = ar.length
    · have hn := Lib.hid (ne_len h2)
      have E0 : goodWorld ar sz tb = okTabs ar sz tb tb.length := by unfold goodWorld isWorld; rw [hg, h1b, decide_eq_true h2, Bool.true_and, Bool.true_and, Bool.true_and]
      obtain ⟨z1, z3⟩ : 1 ≤ sz ∧ sz ≤ 3 := by unfold inB at h1b; simpa using h1b
      obtain ⟨Z, rfl⟩ : ∃ Z : Nat, sz = (Z : Int) := ⟨sz.toNat, by omega⟩
      have H2 := Lib.hid h2
      rw [E0]
      have hnn := hn.out
      clear h1 h1b h2 E0 hn hv0
      go_enter Try.func21, Try.ntmps21
      go_wp2_with fail
      refine (HH.out _ (Bel.alloc2 _ _ _)).mono ?_; rintro e W ⟨rfl, hb0⟩
      have hB : Bel w W := (Bel.alloc2 w _ _).step hb0
      have zW : w.heap.size + 1 < W.heap.size := by have := hb0.size; simp at this; omega
      have k0 := hb0.at (b := w.heap.size) (off := 0) (by simp; omega) (show World.cell? _ _ = some (.slice ad ar.length cap) by simp [go_sem])
      have k1 := hb0.at (b := w.heap.size + 1) (off := 0) (by simp) (show World.cell? _ _ = some (.int .i64 (Z : Int)) by simp [go_sem])
      have k2 := hb0.at (b := w.heap.size + 1) (off := 1) (by simp) (show World.cell? _ _ = some (.slice au tb.length cu) by simp [go_sem])
      clear HH hb0
      go_wp2_with fail
      go_loopw [24] (fun j wr => ∃ k : Nat, k ≤ tb.length ∧ j = .int .i64 k ∧ okTabs ar Z tb k = true ∧ Bel W wr) (fun j _ => tb.length - (intOf j).toNat)
      case atStart => exact ⟨0, Nat.zero_le _, rfl, okTabs_zero _ _ _, Bel.rfl' _⟩
      case round =>
        obtain ⟨k, hk, rfl, hall, hb⟩ := hrel
        have q0 := hb.at (b := w.heap.size) (by omega) k0
        have q1 := hb.at zW k1
        have q2 := hb.at zW k2
        by_cases hlt : k < tb.length
        · obtain ⟨b, off, u1, rfl, hbs, c1, s1⟩ := hu.at (hB.step hb) k hlt
          obtain ⟨b2, off2, rfl, hb2l, hc2⟩ := rd hr (hB.step hb) k (by rw [← H2.out]; exact hlt)
          have h03 := ar_nonneg ar hg k
          obtain ⟨A, hA⟩ : ∃ A : Nat, ar.getD k 0 = (A : Int) := ⟨(ar.getD k 0).toNat, by omega⟩
          have hxl := hx.2 k hlt
          have zl1 : w.heap.size + 1 < wr.heap.size := Nat.lt_of_lt_of_le zW hb.size
          have zl0 : w.heap.size < wr.heap.size := by omega
          have zlc : b2 < wr.heap.size := World.block_lt_of_cell? _ ⟨_, _, none⟩ hc2
          have hkl : (k : Int) < ar.length := by rw [← H2.out]; omega
          have EO : okTab Z (ar.getD k 0) (tb.getD k []) = (decide ((tb.getD k []).length = Z ^ A) && (tb.getD k []).all (fun x => inB x 0 ((Z : Int) - 1))) := by rw [hA]; rfl
          have ES := okTabs_succ ar Z tb k
          have EF := fun (h : okTab Z (ar.getD k 0) (tb.getD k []) = false) => okTabs_false (tb := tb) (n := tb.length) h hlt
          rw [EO] at ES EF
          rw [hall, Bool.true_and] at ES
          rw [hA] at hc2 h03
          have hA3 : A ≤ 3 := by omega
          obtain ⟨d1, e1, rfl⟩ := s1.form
          have HL := Lib.hid (fun (w' : World) => tableLength_c Z A w' (by omega) hA3)
          clear hA EO hall h03
          generalize tb.getD k [] = x at *
          by_cases hxz : x.length = Z ^ A
          · have hne := ne_len hxz
            have HA := Lib.hid (fun (q : Bool) (w' : World) (hq : x.all (fun x => inB x 0 ((Z : Int) - 1)) = q) (hb' : Bel wr w') => areElements_v _ _ _ x Z q w' hq hxl (s1.below hb'))
            rw [decide_eq_true hxz, Bool.true_and] at ES EF
            clear s1 hxl hxz
            generalize hyy : Z ^ A = y at *
            clear hyy
            cases hq : x.all (fun x => inB x 0 ((Z : Int) - 1)) with
            | true =>
              have HQ := Lib.hid hq
              have ES2 := Lib.hid (ES.trans hq)
              clear hq ES EF
              go_wp2_with fail
              go_region_held3 (fun w' => Bel wr w' ∧ w'.cell? ⟨w.heap.size + 1, 0, none⟩ = some (.int .i64 (Z : Int)) ∧ w'.cell? ⟨w.heap.size, 0, none⟩ = some (.slice (some ⟨b2, off2, none⟩) ar.length cap) ∧ w'.cell? ⟨b2, off2 + k, none⟩ = some (.int .i64 (A : Int)))
                (first | exact ⟨Bel.drew0 _, q1, q0, hc2⟩ | exact ⟨HB8, p1, p0, pc⟩ | exact ⟨HB8.step hb9, hb9.at pl1 p1, hb9.at pl0 p0, hb9.at plc pc⟩ | fail)
                (first | (go_at_call 44; refine (HA.out _ _ HQ.out HB8).mono ?_; rintro e w9 ⟨rfl, hb9⟩) | (go_at_call 43; refine (HL.out _).mono ?_; rintro e w8 ⟨rfl, hb8⟩; have HB8 := hb8.of_drew; have hz8 := HB8.size; have p1 := HB8.at zl1 q1; have p0 := HB8.at zl0 q0; have pc := HB8.at zlc hc2; have pl1 : w.heap.size + 1 < w8.heap.size := Nat.lt_of_lt_of_le zl1 hz8; have pl0 : w.heap.size < w8.heap.size := Nat.lt_of_lt_of_le zl0 hz8; have plc : b2 < w8.heap.size := Nat.lt_of_lt_of_le zlc hz8) | fail)
              go_wp2_with fail
              go_roundw
              case rel => exact ⟨k+1, by omega, by go_num, ES2.out, (hb.step HB8).step hb9⟩
              case measure => simp [intOf]; omega
            | false =>
              have HQ := Lib.hid hq
              have EF2 := Lib.hid (EF hq)
              clear hq ES EF
              go_wp2_with fail
              go_region_held3 (fun w' => Bel wr w' ∧ w'.cell? ⟨w.heap.size + 1, 0, none⟩ = some (.int .i64 (Z : Int)) ∧ w'.cell? ⟨w.heap.size, 0, none⟩ = some (.slice (some ⟨b2, off2, none⟩) ar.length cap) ∧ w'.cell? ⟨b2, off2 + k, none⟩ = some (.int .i64 (A : Int)))
                (first | exact ⟨Bel.drew0 _, q1, q0, hc2⟩ | exact ⟨HB8, p1, p0, pc⟩ | exact ⟨HB8.step hb9, hb9.at pl1 p1, hb9.at pl0 p0, hb9.at plc pc⟩ | fail)
                (first | (go_at_call 44; refine (HA.out _ _ HQ.out HB8).mono ?_; rintro e w9 ⟨rfl, hb9⟩) | (go_at_call 43; refine (HL.out _).mono ?_; rintro e w8 ⟨rfl, hb8⟩; have HB8 := hb8.of_drew; have hz8 := HB8.size; have p1 := HB8.at zl1 q1; have p0 := HB8.at zl0 q0; have pc := HB8.at zlc hc2; have pl1 : w.heap.size + 1 < w8.heap.size := Nat.lt_of_lt_of_le zl1 hz8; have pl0 : w.heap.size < w8.heap.size := Nat.lt_of_lt_of_le zl0 hz8; have plc : b2 < w8.heap.size := Nat.lt_of_lt_of_le zlc hz8) | fail)
              go_wp2_with fail
              go_ret
              exact ⟨by rw [EF2.out]; rfl, (hB.step hb).step (HB8.step hb9)⟩
          · have hne := ne_len' hxz
            have EF2 := Lib.hid (EF (by rw [decide_eq_false hxz]; rfl))
            clear s1 hxl EF ES
            generalize hyy : Z ^ A = y at *
            clear hyy hxz
            go_wp2_with fail
            first | (go_region_with (first | (go_at_call 43; refine (HL.out _).mono ?_; rintro e w8 ⟨rfl, hb8⟩) | fail)) | fail
            all_goals
              have HB8 := hb8.of_drew
              go_wp2_with fail
              go_ret
              exact ⟨by rw [EF2.out]; rfl, (hB.step hb).step HB8⟩
        · obtain rfl : k = tb.length := by omega
          have HALL := Lib.hid hall
          clear hall hlt
          go_wp2_with fail
          go_ret
          exact ⟨by rw [HALL.out]; rfl, hB.step hb⟩
    · have E0 : Hid (goodWorld ar sz tb = false) := by show _ = _; unfold goodWorld isWorld; rw [decide_eq_false h2]; simp
      have hnn := ne_len' h2
      clear h1 h1b h2 hv0
      go_enter Try.func21, Try.ntmps21
      go_wp2_with fail
      refine (HH.out _ (Bel.alloc2 _ _ _)).mono ?_; rintro e W ⟨rfl, hb0⟩
      have k0 := hb0.at (b := w.heap.size) (off := 0) (by simp; omega) (show World.cell? _ _ = some (.slice ad ar.length cap) by simp [go_sem])
      have k2 := hb0.at (b := w.heap.size + 1) (off := 1) (by simp) (show World.cell? _ _ = some (.slice au tb.length cu) by simp [go_sem])
      go_wp2_with fail
      go_ret
      exact ⟨by rw [E0.out]; rfl, (Bel.alloc2 w _ _).step hb0⟩
  · have h1' : (goodSign ar && inB sz 1 3) = false := by simpa using h1
    have HH := Lib.hid (fun (w' : World) (hb : Bel w w') => hasWorlds_v l h _ ar sz false w' h1' ha (hv0.below hb))
    have E0 : Hid (goodWorld ar sz tb = false) := by show _ = _; unfold goodWorld isWorld; rw [← Bool.and_assoc, h1']; rfl
    clear h1 h1' hv0
    go_enter Try.func21, Try.ntmps21
    go_wp2_with fail
    refine (HH.out _ (Bel.alloc2 _ _ _)).mono ?_; rintro e W ⟨rfl, hb0⟩
    go_wp2_with fail
    go_ret
    exact ⟨by rw [E0.out]; rfl, (Bel.alloc2 w _ _).step hb0⟩
theorem iGoodWorld_v {l h l' h' : Nat} {v u : Value} {ar : List Int} {sz : Int} {tb : List (List Int)} {w : World} {q : Bool} (he : goodWorld ar sz tb = q) (ha : ar.length ≤ 1048576) (hv : SlI l h w v ar) (hx : short tb) (hu : SlS l' h' w u tb) :
    Calls Try.prog 21 #[.agg #[v], .agg #[.int .i64 sz, u]] w (RetV w (.bool q)) := by subst he; exact iGoodWorld_t ha hv hx hu
end Go.Proofs.Ytnldienjkejfcaa
