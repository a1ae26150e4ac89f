/- Texts merged, part 7. -/
import Derived.Deep.RegionWith
import Derived.Test.YtjgbeclafdhijaaMgWorldAt6
section
/- RenameOf: the inner functions. -/
namespace Go.Proofs.Ytjgbeclafdhijaa
open Go.RowKit

def rows40 (l : List (List Int)) : Prop := l.length ≤ 20 ∧ ∀ j, j < l.length → (l.getD j []).length ≤ 40 ∧ ∀ k, k < (l.getD j []).length → -12 ≤ (l.getD j []).getD k 0
theorem rows40.mem {l : List (List Int)} (h : rows40 l) : ∀ t ∈ l, t.length ≤ 40 := by
  intro t ht
  obtain ⟨j, hj, rfl⟩ := List.getElem_of_mem ht
  have := (h.2 j hj).1
  simpa [List.getD, hj] using this
theorem rows40.met {l : List (List Int)} (h : rows40 l) (k : Nat) : (metS [] (l.take k)).length ≤ 800 := by
  have h1 := metS_len (l := l.take k) [] (fun t ht => h.mem t (List.mem_of_mem_take ht))
  have h2 := h.1
  simp at h1
  omega
theorem news_oneV (w : World) (x : Value) (t : TypeId) : ∀ j u, [x][j]? = some u → (w.alloc (.cells #[x] t)).cell? ((⟨w.heap.size, 0, none⟩ : Addr).add j) = some u := news_one w x t
theorem one_slice (a : Option Addr) (n c : Nat) : ∀ u ∈ [Value.slice a n c], u.oneCell' = true := by intro u hu; simp at hu; subst hu; rfl

end Go.Proofs.Ytjgbeclafdhijaa
end
section
/- Chapter 5, the reference: GoodWorld. -/
namespace Go.Proofs.Ytjgbeclafdhijaa
open Go.RowKit

theorem pw_le {Z k : Nat} (h1 : Z ≤ 3) (h2 : k ≤ 3) : Z ^ k ≤ 27 :=
  Nat.le_trans (Nat.pow_le_pow_left h1 _) (Nat.pow_le_pow_right (n := 3) (by omega) h2)
theorem pw_succ (Z k : Nat) : ((Z ^ k : Nat) : Int) * (Z : Int) = ((Z ^ (k + 1) : Nat) : Int) := by rw [Nat.pow_succ]; simp

set_option maxRecDepth 100000 in
set_option maxHeartbeats 400000 in
theorem l5Long_c (Z A : Nat) (w : World) (h2 : Z ≤ 3) (h3 : A ≤ 3) :
    Calls Try.prog 51 #[.int .i64 (Z : Int), .int .i64 (A : Int)] w (RetV w (.int .i64 ((Z ^ A : Nat) : Int))) := by
  go_enter Try.func51, Try.ntmps51
  go_wp2_with fail
  go_loop [1, 5] (fun a n => ∃ k : Nat, k ≤ A ∧ a = .int .i64 ((A - k : Nat) : Int) ∧ n = .int .i64 ((Z ^ k : Nat) : Int)) (fun a _ => (intOf a).toNat)
  case atStart => exact ⟨0, Nat.zero_le _, rfl, rfl⟩
  case round =>
    obtain ⟨k, hk, rfl, rfl⟩ := hrel
    by_cases hlt : k < A
    · have E := Lib.hid (pw_succ Z k)
      have hb := pw_le h2 (show k + 1 ≤ 3 by omega)
      have hw : -9223372036854775808 ≤ ((Z ^ k : Nat) : Int) * (Z : Int) ∧ ((Z ^ k : Nat) : Int) * (Z : Int) ≤ 9223372036854775807 := by rw [E.out]; omega
      have hw1 := IntWalk.i64_in (((Z ^ k : Nat) : Int) * (Z : Int)) hw
      have hpos : (0 : Int) < ((A - k : Nat) : Int) := by omega
      have hg3 : ((A - k : Nat) : Int) ≤ 3 := by omega
      have hsub : ((A - k : Nat) : Int) - 1 = ((A - (k + 1) : Nat) : Int) := by omega
      have HS := Lib.hid hsub
      clear hw hb hsub
      generalize ((A - k : Nat) : Int) = g at *
      generalize ((Z ^ k : Nat) : Int) = y at *
      go_wp2_with fail
      go_round
      case rel => exact ⟨k+1, by omega, by rw [← HS.out], by rw [← E.out]⟩
      case measure => simp [intOf]; omega
    · obtain rfl : k = A := by omega
      have hz : ((k - k : Nat) : Int) = 0 := by simp
      rw [hz]
      generalize ((Z ^ k : Nat) : Int) = y at *
      go_wp2_with fail
      go_ret
      exact ⟨rfl, Bel.rfl' _⟩
end Go.Proofs.Ytjgbeclafdhijaa
end
section
/- Chapter 5, the reference: GoodWorld. -/
namespace Go.Proofs.Ytjgbeclafdhijaa
open Go.RowKit

/-- The length of the k-th table and its elements, as the loop asks. -/
theorem ne_len {a b : Nat} (h : a = b) : ((a : Int) != (b : Int)) = false := by subst h; simp
theorem ne_len' {a b : Nat} (h : a ≠ b) : ((a : Int) != (b : Int)) = true := by rw [bne, beq_eq_false_iff_ne.2 (by omega)]; rfl

set_option maxRecDepth 100000 in
set_option maxHeartbeats 1000000 in
theorem l5World_c (l h l' h' : Nat) (v u : Value) (ar : List Int) (sz : Int) (tb : List (List Int)) (w : World) (hg : goodSign ar = true) (hx : short tb) (hv : SlI l h w v ar) (hu : SlS l' h' w u tb) :
    Calls Try.prog 41 #[.agg #[v], .agg #[.int .i64 sz, u]] w (RetV w (.bool (isWorld ar sz tb))) := by
  obtain ⟨ad, cap, rfl, -, -, hr⟩ := hv
  obtain ⟨au, cu, rfl⟩ := hu.form
  have hlen := (sign_len ar hg).2
  by_cases h1 : inB sz 1 3 = true
  · by_cases h2 : tb.length = ar.length
    · have hn := Lib.hid (ne_len h2)
      have E0 : isWorld ar sz tb = okTabs ar sz tb tb.length := by unfold isWorld; rw [h1, decide_eq_true h2, Bool.true_and, Bool.true_and]
      obtain ⟨z1, z3⟩ : 1 ≤ sz ∧ sz ≤ 3 := by unfold inB at h1; simpa using h1
      obtain ⟨Z, rfl⟩ : ∃ Z : Nat, sz = (Z : Int) := ⟨sz.toNat, by omega⟩
      have HI := Lib.hid h1
      have H2 := Lib.hid h2
      rw [E0]
      have hnn := hn.out
      clear h1 h2 E0 hn
      go_enter Try.func41, Try.ntmps41
      go_wp2_with fail
      refine (l1In_qv _ _ _ _ HI.out _).mono ?_; rintro e w1 ⟨rfl, rfl⟩
      go_wp2_with fail
      obtain ⟨W, hW⟩ : ∃ W, W = (w.alloc (.cells #[.slice ad ar.length cap] 32)).alloc (.cells #[.int .i64 (Z : Int), .slice au tb.length cu] 34) := ⟨_, rfl⟩
      rw [← hW]
      have hB : Bel w W := by rw [hW]; exact Bel.alloc2 _ _ _
      have k0 : w.heap.size + 1 < W.heap.size ∧ W.cell? ⟨w.heap.size, 0, none⟩ = some (.slice ad ar.length cap) ∧ W.cell? ⟨w.heap.size + 1, 0, none⟩ = some (.int .i64 (Z : Int)) ∧ W.cell? ⟨w.heap.size + 1, 1, none⟩ = some (.slice au tb.length cu) := by rw [hW]; simp [go_sem]
      clear hW
      go_loopw [23] (fun j wr => ∃ k : Nat, k ≤ tb.length ∧ j = .int .i64 k ∧ okTabs ar Z tb k = true ∧ Bel W wr) (fun j _ => tb.length - (intOf j).toNat)
      case atStart => exact ⟨0, Nat.zero_le _, rfl, okTabs_zero _ _ _, Bel.rfl' _⟩
      case round =>
        obtain ⟨k, hk, rfl, hall, hb⟩ := hrel
        have q0 := hb.at (b := w.heap.size) (by omega) k0.2.1
        have q1 := hb.at k0.1 k0.2.2.1
        have q2 := hb.at k0.1 k0.2.2.2
        by_cases hlt : k < tb.length
        · obtain ⟨b, off, u1, rfl, hbs, c1, s1⟩ := hu.at (hB.step hb) k hlt
          obtain ⟨b2, off2, rfl, hb2l, hc2⟩ := rd hr (hB.step hb) k (by rw [← H2.out]; exact hlt)
          have h03 := ar_nonneg ar hg k
          obtain ⟨A, hA⟩ : ∃ A : Nat, ar.getD k 0 = (A : Int) := ⟨(ar.getD k 0).toNat, by omega⟩
          have hxl := hx.2 k hlt
          have zl1 : w.heap.size + 1 < wr.heap.size := Nat.lt_of_lt_of_le k0.1 hb.size
          have zl0 : w.heap.size < wr.heap.size := by omega
          have zlc : b2 < wr.heap.size := World.block_lt_of_cell? _ ⟨_, _, none⟩ hc2
          have hkl : (k : Int) < ar.length := by rw [← H2.out]; omega
          have EO : okTab Z (ar.getD k 0) (tb.getD k []) = (decide ((tb.getD k []).length = Z ^ A) && (tb.getD k []).all (fun x => inB x 0 ((Z : Int) - 1))) := by rw [hA]; rfl
          have ES := okTabs_succ ar Z tb k
          have EF := fun (h : okTab Z (ar.getD k 0) (tb.getD k []) = false) => okTabs_false (tb := tb) (n := tb.length) h hlt
          rw [EO] at ES EF
          rw [hall, Bool.true_and] at ES
          rw [hA] at hc2 h03
          have hA3 : A ≤ 3 := by omega
          obtain ⟨d1, e1, rfl⟩ := s1.form
          have HL := Lib.hid (fun (w' : World) => l5Long_c Z A w' (by omega) hA3)
          have hi1 := IntWalk.i64_in ((Z : Int) - 1) (by omega)
          clear hA EO hall h03
          generalize tb.getD k [] = x at *
          by_cases hxz : x.length = Z ^ A
          · have hne := ne_len hxz
            have HA := Lib.hid (fun (q : Bool) (w' : World) (hq : x.all (fun x => inB x 0 ((Z : Int) - 1)) = q) (hb' : Bel wr w') => l1All_v _ _ _ x 0 ((Z : Int) - 1) w' q hq hxl (s1.below hb'))
            rw [decide_eq_true hxz, Bool.true_and] at ES EF
            clear s1 hxl hxz
            generalize hyy : Z ^ A = y at *
            clear hyy
            cases hq : x.all (fun x => inB x 0 ((Z : Int) - 1)) with
            | true =>
              have HQ := Lib.hid hq
              have ES2 := Lib.hid (ES.trans hq)
              clear hq ES EF
              go_wp2_with fail
              go_region_held3 (fun w' => Bel wr w' ∧ w'.cell? ⟨w.heap.size + 1, 0, none⟩ = some (.int .i64 (Z : Int)) ∧ w'.cell? ⟨w.heap.size, 0, none⟩ = some (.slice (some ⟨b2, off2, none⟩) ar.length cap) ∧ w'.cell? ⟨b2, off2 + k, none⟩ = some (.int .i64 (A : Int)))
                (first | exact ⟨Bel.drew0 _, q1, q0, hc2⟩ | exact ⟨HB8, p1, p0, pc⟩ | exact ⟨HB8.step hb9, hb9.at pl1 p1, hb9.at pl0 p0, hb9.at plc pc⟩ | fail)
                (first | (go_at_call 43; refine (HA.out _ _ HQ.out HB8).mono ?_; rintro e w9 ⟨rfl, hb9⟩) | (go_at_call 51; refine (HL.out _).mono ?_; rintro e w8 ⟨rfl, hb8⟩; have HB8 := hb8.of_drew; have hz8 := HB8.size; have p1 := HB8.at zl1 q1; have p0 := HB8.at zl0 q0; have pc := HB8.at zlc hc2; have pl1 : w.heap.size + 1 < w8.heap.size := Nat.lt_of_lt_of_le zl1 hz8; have pl0 : w.heap.size < w8.heap.size := Nat.lt_of_lt_of_le zl0 hz8; have plc : b2 < w8.heap.size := Nat.lt_of_lt_of_le zlc hz8) | fail)
              go_wp2_with fail
              go_roundw
              case rel => exact ⟨k+1, by omega, by go_num, ES2.out, (hb.step HB8).step hb9⟩
              case measure => simp [intOf]; omega
            | false =>
              have HQ := Lib.hid hq
              have EF2 := Lib.hid (EF hq)
              clear hq ES EF
              go_wp2_with fail
              go_region_held3 (fun w' => Bel wr w' ∧ w'.cell? ⟨w.heap.size + 1, 0, none⟩ = some (.int .i64 (Z : Int)) ∧ w'.cell? ⟨w.heap.size, 0, none⟩ = some (.slice (some ⟨b2, off2, none⟩) ar.length cap) ∧ w'.cell? ⟨b2, off2 + k, none⟩ = some (.int .i64 (A : Int)))
                (first | exact ⟨Bel.drew0 _, q1, q0, hc2⟩ | exact ⟨HB8, p1, p0, pc⟩ | exact ⟨HB8.step hb9, hb9.at pl1 p1, hb9.at pl0 p0, hb9.at plc pc⟩ | fail)
                (first | (go_at_call 43; refine (HA.out _ _ HQ.out HB8).mono ?_; rintro e w9 ⟨rfl, hb9⟩) | (go_at_call 51; refine (HL.out _).mono ?_; rintro e w8 ⟨rfl, hb8⟩; have HB8 := hb8.of_drew; have hz8 := HB8.size; have p1 := HB8.at zl1 q1; have p0 := HB8.at zl0 q0; have pc := HB8.at zlc hc2; have pl1 : w.heap.size + 1 < w8.heap.size := Nat.lt_of_lt_of_le zl1 hz8; have pl0 : w.heap.size < w8.heap.size := Nat.lt_of_lt_of_le zl0 hz8; have plc : b2 < w8.heap.size := Nat.lt_of_lt_of_le zlc hz8) | fail)
              go_wp2_with fail
              go_ret
              exact ⟨by rw [EF2.out]; rfl, (hB.step hb).step (HB8.step hb9)⟩
          · have hne := ne_len' hxz
            have EF2 := Lib.hid (EF (by rw [decide_eq_false hxz]; rfl))
            clear s1 hxl EF ES
            generalize hyy : Z ^ A = y at *
            clear hyy hxz
            go_wp2_with fail
            first | (go_region_with (first | (go_at_call 51; refine (HL.out _).mono ?_; rintro e w8 ⟨rfl, hb8⟩) | fail)) | fail
            all_goals
              have HB8 := hb8.of_drew
              go_wp2_with fail
              go_ret
              exact ⟨by rw [EF2.out]; rfl, (hB.step hb).step HB8⟩
        · obtain rfl : k = tb.length := by omega
          have HALL := Lib.hid hall
          clear hall hlt
          go_wp2_with fail
          go_ret
          exact ⟨by rw [HALL.out]; rfl, hB.step hb⟩
    · have E0 : Hid (isWorld ar sz tb = false) := by show _ = _; unfold isWorld; rw [decide_eq_false h2]; simp
      have HI := Lib.hid h1
      have hnn := ne_len' h2
      clear h1 h2
      go_enter Try.func41, Try.ntmps41
      go_wp2_with fail
      refine (l1In_qv _ _ _ _ HI.out _).mono ?_; rintro e w1 ⟨rfl, rfl⟩
      go_wp2_with fail
      go_ret
      exact ⟨by rw [E0.out]; rfl, Bel.alloc2 _ _ _⟩
  · have h1' : inB sz 1 3 = false := by simpa using h1
    have E0 : Hid (isWorld ar sz tb = false) := by show _ = _; unfold isWorld; rw [h1']; rfl
    have HI := Lib.hid h1'
    clear h1 h1'
    go_enter Try.func41, Try.ntmps41
    go_wp2_with fail
    refine (l1In_qv _ _ _ _ HI.out _).mono ?_; rintro e w1 ⟨rfl, rfl⟩
    go_wp2_with fail
    go_ret
    exact ⟨by rw [E0.out]; rfl, Bel.alloc2 _ _ _⟩

theorem l5World_v (l h l' h' : Nat) (v u : Value) (ar : List Int) (sz : Int) (tb : List (List Int)) (q : Bool) (w : World) (he : isWorld ar sz tb = q) (hg : goodSign ar = true) (hx : short tb) (hv : SlI l h w v ar) (hu : SlS l' h' w u tb) :
    Calls Try.prog 41 #[.agg #[v], .agg #[.int .i64 sz, u]] w (RetV w (.bool q)) := by subst he; exact l5World_c l h l' h' v u ar sz tb w hg hx hv hu

set_option maxRecDepth 100000 in
set_option maxHeartbeats 400000 in
theorem sGoodWorld_t {l h l' h' : Nat} {v u : Value} {ar : List Int} {sz : Int} {tb : List (List Int)} {w : World} (ha : ar.length ≤ 1048576) (hv : SlI l h w v ar) (hx : short tb) (hu : SlS l' h' w u tb) :
    Calls Try.prog 22 #[.agg #[v], .agg #[.int .i64 sz, u]] w (RetV w (.bool (goodWorld ar sz tb))) := by
  unfold goodWorld
  have HB : Bel w ((w.alloc (.cells #[v] 32)).alloc (.cells #[.int .i64 sz, u] 34)) := Bel.alloc2 _ _ _
  cases hg : goodSign ar with
  | false =>
    rw [Bool.false_and]
    have HC := Lib.hid (fun (w' : World) (hb : Bel w w') => sGoodSign_v l h v ar false w' hg ha (hv.below hb)); clear hg
    go_enter Try.func22, Try.ntmps22
    go_wp2_with fail
    refine (HC.out _ HB).mono ?_; rintro e w1 ⟨rfl, hb1⟩
    go_wp2_with fail
    go_ret
    exact ⟨rfl, HB.step hb1⟩
  | true =>
    rw [Bool.true_and]
    have HC := Lib.hid (fun (w' : World) (hb : Bel w w') => sGoodSign_v l h v ar true w' hg ha (hv.below hb))
    have HD := Lib.hid (fun (w' : World) (hb : Bel w w') => l5World_c l h l' h' v u ar sz tb w' hg hx (hv.below hb) (hu.below hb)); clear hg hx
    go_enter Try.func22, Try.ntmps22
    go_wp2_with fail
    refine (HC.out _ HB).mono ?_; rintro e w1 ⟨rfl, hb1⟩
    have k0 := hb1.at (b := w.heap.size) (off := 0) (by simp; omega) (show World.cell? _ _ = some v by simp [go_sem])
    have k1 := hb1.at (b := w.heap.size + 1) (off := 0) (by simp) (show World.cell? _ _ = some (.int .i64 sz) by simp [go_sem])
    have k2 := hb1.at (b := w.heap.size + 1) (off := 1) (by simp) (show World.cell? _ _ = some u by simp [go_sem])
    go_wp2_with fail
    refine (HD.out _ (HB.step hb1)).mono ?_; rintro e w2 ⟨rfl, hb2⟩
    go_wp2_with fail
    go_ret
    exact ⟨rfl, (HB.step hb1).step hb2⟩
theorem sGoodWorld_v {l h l' h' : Nat} {v u : Value} {ar : List Int} {sz : Int} {tb : List (List Int)} {w : World} {q : Bool} (he : goodWorld ar sz tb = q) (ha : ar.length ≤ 1048576) (hv : SlI l h w v ar) (hx : short tb) (hu : SlS l' h' w u tb) :
    Calls Try.prog 22 #[.agg #[v], .agg #[.int .i64 sz, u]] w (RetV w (.bool q)) := by subst he; exact sGoodWorld_t ha hv hx hu
end Go.Proofs.Ytjgbeclafdhijaa
end
