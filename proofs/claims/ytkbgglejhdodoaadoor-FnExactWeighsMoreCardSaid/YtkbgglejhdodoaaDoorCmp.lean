/- The ordering of two terms: the program's and the reference's inner functions. -/
import Derived.Test.YtkbgglejhdodoaaDoorKbo
import Derived.Test.YtkbgglejhdodoaaDoorSame
namespace Go.Proofs.YtkbgglejhdodoaaDoor
open Go.RowKit

/-- The table of weights: both are one. -/
def Tab (w : World) : Prop := w.cell? ⟨0, 0, none⟩ = some (.int .i64 1) ∧ w.cell? ⟨0, 1, none⟩ = some (.int .i64 1)
theorem Tab.bel {w w' : World} (h : Tab w) (hb : Bel w w') : Tab w' := ⟨hb.at (World.block_lt_of_cell? _ ⟨_, _, none⟩ h.1) h.1, hb.at (World.block_lt_of_cell? _ ⟨_, _, none⟩ h.2) h.2⟩
theorem Tab.k {w : World} (h : Tab w) : K Tab w := fun _ hb => h.bel hb

theorem weightOf_c (l h : Nat) (v : Value) (t : List Int) (w : World) (hT : Tab w) (ht : t.length ≤ 1048576) (hv : SlI l h w v t) :
    Calls Tryd.prog 51 #[v] w (RetV w (.int .i64 (t.length : Int))) := by
  obtain ⟨ad, cap, rfl, -, -, hr⟩ := hv
  obtain ⟨hT0, hT1⟩ := hT
  go_enter Tryd.func51, Tryd.ntmps51
  go_wp2_with fail
  go_loop [3, 8] (fun m i => ∃ k : Nat, k ≤ t.length ∧ i = .int .i64 k ∧ m = .int .i64 k) (fun _ i => t.length - (intOf i).toNat)
  case atStart => exact ⟨0, Nat.zero_le _, rfl, rfl⟩
  case round =>
    obtain ⟨k, hk, rfl, rfl⟩ := hrel
    by_cases hlt : k < t.length
    · obtain ⟨b, off, rfl, -, hcell⟩ := rd hr (Bel.rfl' w) k hlt
      clear hr
      generalize t.getD k 0 = x at *
      by_cases hx : x < 0
      · have hx' : decide (x < 0) = true := by simpa using hx
        go_wp2_with fail
        go_round
        case rel => exact ⟨k+1, by omega, by go_num, by go_num⟩
        case measure => simp [intOf]; omega
      · have hx' : decide (x < 0) = false := by simpa using hx
        go_wp2_with fail
        go_round
        case rel => exact ⟨k+1, by omega, by go_num, by go_num⟩
        case measure => simp [intOf]; omega
    · obtain rfl : k = t.length := by omega
      go_wp2_with fail
      go_ret
      exact ⟨rfl, Bel.rfl' _⟩

/-- All variables have numbers up to eleven. -/
def lowT (t : List Int) : Prop := ∀ k, k < t.length → -12 ≤ t.getD k 0
theorem lowT.mem {t : List Int} (h : lowT t) {n : Int} (hn : n ∈ t) : -12 ≤ n := by
  obtain ⟨i, hi, e⟩ := List.getElem_of_mem hn
  have := h i hi
  simpa [List.getD, hi, e] using this
theorem cntf_neg {t : List Int} {k : Nat} (hk : k < t.length) (hx : t.getD k 0 < 0) :
    (fun i : Nat => if i = (-1 - t.getD k 0).toNat then (cntI (t.take k) (t.getD k 0) : Int) + 1 else (cntI (t.take k) (-1 - (i : Int)) : Int)) = fun i : Nat => (cntI (t.take (k+1)) (-1 - (i : Int)) : Int) := by
  funext i
  by_cases e : i = (-1 - t.getD k 0).toNat
  · have e2 : -1 - (i : Int) = t.getD k 0 := by omega
    rw [if_pos e, e2, cntI_yes t _ k hk rfl]; omega
  · have e2 : t.getD k 0 ≠ -1 - (i : Int) := by omega
    rw [if_neg e, cntI_no t _ k hk e2]
theorem cntf_sym {t : List Int} {k : Nat} (hk : k < t.length) (hx : ¬ t.getD k 0 < 0) (i : Nat) : cntI (t.take (k+1)) (-1 - (i : Int)) = cntI (t.take k) (-1 - (i : Int)) :=
  cntI_no t _ k hk (by omega)
theorem cntd_neg {t : List Int} {k : Nat} (g : Int → Int) (hk : k < t.length) (hx : t.getD k 0 < 0) :
    (fun i : Nat => if i = (-1 - t.getD k 0).toNat then g (t.getD k 0) - (cntI (t.take k) (t.getD k 0) : Int) - 1 else g (-1 - (i : Int)) - (cntI (t.take k) (-1 - (i : Int)) : Int)) = fun i : Nat => g (-1 - (i : Int)) - (cntI (t.take (k+1)) (-1 - (i : Int)) : Int) := by
  funext i
  by_cases e : i = (-1 - t.getD k 0).toNat
  · have e2 : -1 - (i : Int) = t.getD k 0 := by omega
    rw [if_pos e, e2, cntI_yes t _ k hk rfl]; omega
  · have e2 : t.getD k 0 ≠ -1 - (i : Int) := by omega
    rw [if_neg e, cntI_no t _ k hk e2]
theorem cntI_take (t : List Int) (k : Nat) (n : Int) : cntI (t.take k) n ≤ cntI t n := by
  rw [cntI_count, cntI_count]
  exact (List.take_sublist k t).count_le n
theorem covers_no {a b : List Int} {k : Nat} (hk : k < b.length) (hx : b.getD k 0 < 0) (h : cntI a (b.getD k 0) < cntI (b.take k) (b.getD k 0) + 1) : covers a b = false := by
  rw [Bool.eq_false_iff]; intro hc
  have h1 := covers_iff.1 hc _ hx
  have h2 := cntI_take b (k+1) (b.getD k 0)
  rw [cntI_yes b _ k hk rfl] at h2
  rw [← cntI_count, ← cntI_count] at h1
  omega
def SoFar (a b : List Int) (k : Nat) : Prop := ∀ n, n < 0 → cntI (b.take k) n ≤ cntI a n
theorem SoFar.neg {a b : List Int} {k : Nat} (h : SoFar a b k) (hk : k < b.length) (hx : ¬ cntI a (b.getD k 0) < cntI (b.take k) (b.getD k 0) + 1) : SoFar a b (k+1) := fun n hn => by
  by_cases e : b.getD k 0 = n
  · rw [cntI_yes b n k hk e]; rw [e] at hx; omega
  · rw [cntI_no b n k hk e]; exact h n hn
theorem SoFar.sym {a b : List Int} {k : Nat} (h : SoFar a b k) (hk : k < b.length) (hx : ¬ b.getD k 0 < 0) : SoFar a b (k+1) := fun n hn => by
  rw [cntI_no b n k hk (by omega)]; exact h n hn
theorem SoFar.done {a b : List Int} {k : Nat} (h : SoFar a b k) (hk : ¬ k < b.length) : covers a b = true := covers_iff.2 fun n hn => by
  have := h n hn
  rw [List.take_of_length_le (by omega), cntI_count, cntI_count] at this
  exact this

set_option maxRecDepth 100000 in
set_option maxHeartbeats 400000 in
theorem coversVars_c (l h l' h' : Nat) (v u : Value) (a b : List Int) (w : World) (ha : a.length ≤ 1048576) (hb : b.length ≤ 1048576) (hla : lowT a) (hlb : lowT b) (hv : SlI l h w v a) (hu : SlI l' h' w u b) :
    Calls Tryd.prog 50 #[v, u] w (RetV w (.bool (covers a b))) := by
  obtain ⟨ad, cap, rfl, -, -, hr⟩ := hv
  obtain ⟨ad', cap', rfl, -, -, hr'⟩ := hu
  go_enter Tryd.func50, Tryd.ntmps50
  go_wp2_with fail
  go_loopw [12] (fun i wr => ∃ k : Nat, k ≤ a.length ∧ i = .int .i64 k ∧ BlkN wr w.heap.size 93 (fun i : Nat => (cntI (a.take k) (-1 - (i : Int)) : Int)) ∧ Bel w wr) (fun i _ => a.length - (intOf i).toNat)
  case atStart => exact ⟨0, Nat.zero_le _, rfl, by exact heap_alloc_new w _, Bel.alloc0 _ _⟩
  case round =>
    obtain ⟨k, hk, rfl, hN, hb1⟩ := hrel
    by_cases hlt : k < a.length
    · obtain ⟨b0, off, rfl, -, hcell⟩ := rd hr hb1 k hlt
      have hlow := hla k hlt
      have E1 := Lib.hid (cntf_neg hlt)
      have E2 := Lib.hid (cntf_sym hlt)
      have hc0 : cntI (a.take k) (a.getD k 0) ≤ 1048576 := Nat.le_trans (cntI_take a k _) (Nat.le_trans (cntI_le a _) ha)
      clear hr hr'
      generalize a.getD k 0 = x at *
      by_cases hx : x < 0
      · have hx' : decide (x < 0) = true := by simpa using hx
        have hm12 : (-1 - x).toNat < 12 := by omega
        have hi0 : 0 ≤ -1 - x := by omega
        have hi1 : -1 - x < 12 := by omega
        have hcN := hN.cell _ hm12
        have hfN := hN.free (-1 - x).toNat
        have e3 : -1 - (((-1 - x).toNat : Nat) : Int) = x := by omega
        simp only [e3] at hcN
        have E := Lib.hid (E1.out hx)
        clear E1 E2
        generalize hq : cntI (a.take k) x = c at *
        have HN := Lib.hid (hN.set _ hm12 ((c : Int) + 1))
        clear hN
        go_wp2_with fail
        go_roundw
        case rel => exact ⟨k+1, by omega, by go_num, by rw [← E.out]; exact HN.out, hb1.setCell (p := ⟨w.heap.size, (-1 - x).toNat, none⟩) (Nat.le_refl _) _⟩
        case measure => simp [intOf]; omega
      · have hx' : decide (x < 0) = false := by simpa using hx
        have E := Lib.hid (E2.out hx)
        clear E1 E2
        go_wp2_with fail
        go_roundw
        case rel => exact ⟨k+1, by omega, by go_num, by simp only [E.out]; exact hN, hb1⟩
        case measure => simp [intOf]; omega
    · rw [List.take_of_length_le (show a.length ≤ k by omega)] at hN
      go_wp2_with fail
      go_loopw [27] (fun i wr => ∃ k : Nat, k ≤ b.length ∧ i = .int .i64 k ∧ SoFar a b k ∧ BlkN wr w.heap.size 93 (fun i : Nat => (cntI a (-1 - (i : Int)) : Int) - (cntI (b.take k) (-1 - (i : Int)) : Int)) ∧ Bel w wr) (fun i _ => b.length - (intOf i).toNat)
      case atStart => exact ⟨0, Nat.zero_le _, rfl, fun n _ => by simp [cntI], by simpa [cntI] using hN, hb1⟩
      case round =>
        clear hN hb1
        obtain ⟨j, hj, rfl, hS, hN, hb2⟩ := hrel
        by_cases hlt2 : j < b.length
        · obtain ⟨b0, off, rfl, -, hcell⟩ := rd hr' hb2 j hlt2
          have hlow := hlb j hlt2
          have E1 := Lib.hid (cntd_neg (t := b) (fun n => (cntI a n : Int)) hlt2)
          have E2 := Lib.hid (cntf_sym hlt2)
          have E3 := Lib.hid (covers_no (a := a) hlt2)
          have E4 := Lib.hid (hS.neg hlt2)
          have E5 := Lib.hid (hS.sym hlt2)
          have hc0 : cntI (b.take j) (b.getD j 0) ≤ 1048576 := Nat.le_trans (cntI_take b j _) (Nat.le_trans (cntI_le b _) hb)
          have hc1 : cntI a (b.getD j 0) ≤ 1048576 := by have := cntI_le a (b.getD j 0); omega
          clear hr hr' hS
          generalize b.getD j 0 = x at *
          by_cases hx : x < 0
          · have hx' : decide (x ≥ 0) = false := by simp; omega
            have hm12 : (-1 - x).toNat < 12 := by omega
            have hi0 : 0 ≤ -1 - x := by omega
            have hi1 : -1 - x < 12 := by omega
            have hcN := hN.cell _ hm12
            have hfN := hN.free (-1 - x).toNat
            have e3 : -1 - (((-1 - x).toNat : Nat) : Int) = x := by omega
            simp only [e3] at hcN
            have E := Lib.hid (E1.out hx)
            clear E1 E2 E5
            generalize hq : cntI (b.take j) x = c at *
            generalize hq2 : cntI a x = d at *
            have hw1 := IntWalk.i64_in ((d : Int) - c - 1) (by omega)
            have hN2 := hN.set _ hm12 ((d : Int) - c - 1)
            have hcN2 := hN2.cell _ hm12
            simp only [if_true] at hcN2
            have HN := Lib.hid hN2
            clear hN hN2
            by_cases hdc : d < c + 1
            · have e1 := Lib.hid (E3.out hx hdc)
              have hd : decide ((d : Int) - c - 1 < 0) = true := by simp; omega
              clear E3 E4 E
              go_wp2_with fail
              go_ret
              exact ⟨by rw [e1.out]; rfl, hb2.setCell (p := ⟨w.heap.size, (-1 - x).toNat, none⟩) (Nat.le_refl _) _⟩
            · have e1 := Lib.hid (E4.out hdc)
              have hd : decide ((d : Int) - c - 1 < 0) = false := by simp; omega
              clear E3 E4
              go_wp2_with fail
              go_roundw
              case rel => exact ⟨j+1, by omega, by go_num, e1.out, by rw [← E.out]; exact HN.out, hb2.setCell (p := ⟨w.heap.size, (-1 - x).toNat, none⟩) (Nat.le_refl _) _⟩
              case measure => simp [intOf]; omega
          · have hx' : decide (x ≥ 0) = true := by simp; omega
            have E := Lib.hid (E2.out hx)
            have e1 := Lib.hid (E5.out hx)
            clear E1 E2 E3 E4 E5
            go_wp2_with fail
            go_roundw
            case rel => exact ⟨j+1, by omega, by go_num, e1.out, by simp only [E.out]; exact hN, hb2⟩
            case measure => simp [intOf]; omega
        · have e1 := Lib.hid (hS.done hlt2)
          clear hS
          go_wp2_with fail
          go_ret
          exact ⟨by rw [e1.out]; rfl, hb2⟩
theorem coversVars_v (l h l' h' : Nat) (v u : Value) (a b : List Int) (q : Bool) (w : World) (he : covers a b = q) (ha : a.length ≤ 1048576) (hb : b.length ≤ 1048576) (hla : lowT a) (hlb : lowT b) (hv : SlI l h w v a) (hu : SlI l' h' w u b) :
    Calls Tryd.prog 50 #[v, u] w (RetV w (.bool q)) := he ▸ coversVars_c l h l' h' v u a b w ha hb hla hlb hv hu

theorem winF_at {a b : List Int} {k : Nat} (h : a.take k = b.take k) (ha : k < a.length) (hb : k < b.length) (hne : a.getD k 0 ≠ b.getD k 0) : winF a b = (decide (0 ≤ b.getD k 0) && decide (b.getD k 0 < a.getD k 0)) := by
  have e1 : a = a.take k ++ a.getD k 0 :: a.drop (k+1) := by simp [List.getD, ha]
  have e2 : b = b.take k ++ b.getD k 0 :: b.drop (k+1) := by simp [List.getD, hb]
  generalize a.getD k 0 = x at *
  generalize b.getD k 0 = y at *
  rw [e1, e2, h, winF_left]
  simp [winF, hne]

set_option maxRecDepth 100000 in
set_option maxHeartbeats 400000 in
theorem winsFirst_c (l h l' h' : Nat) (v u : Value) (xs ys : List Int) (w : World) (hl : xs.length = ys.length) (hx : xs.length ≤ 1048576) (hv : SlI l h w v xs) (hu : SlI l' h' w u ys) :
    Calls Tryd.prog 92 #[v, u] w (RetV w (.bool (winF xs ys))) := by
  obtain ⟨ad, cap, rfl, -, -, hr⟩ := hv
  obtain ⟨ad', cap', rfl, -, -, hr'⟩ := hu
  have HL := Lib.hid hl
  clear hl
  go_enter Tryd.func92, Tryd.ntmps92
  go_wp2_with fail
  go_loopw [8] (fun i wr => ∃ k : Nat, k ≤ xs.length ∧ i = .int .i64 k ∧ xs.take k = ys.take k ∧ Bel w wr) (fun i _ => xs.length - (intOf i).toNat)
  case atStart => exact ⟨0, Nat.zero_le _, rfl, rfl, Bel.rfl' _⟩
  case round =>
    obtain ⟨k, hk, rfl, ha, hb⟩ := hrel
    by_cases hlt : k < xs.length
    · have hlt2 : k < ys.length := by rw [← HL.out]; exact hlt
      obtain ⟨b, off, rfl, -, hcell⟩ := rd hr hb k hlt
      obtain ⟨b', off', rfl, -, hcell'⟩ := rd hr' hb k hlt2
      have E1 := Lib.hid (take_eq_succ xs ys k hlt hlt2 ha)
      have E2 := Lib.hid (winF_at ha hlt hlt2)
      clear hr hr' ha
      generalize xs.getD k 0 = x at *
      generalize ys.getD k 0 = y at *
      by_cases hxy : x = y
      · have E3 := Lib.hid (E1.out hxy)
        clear E1 E2
        subst hxy
        go_wp2_with fail
        go_quiet (fail)
        go_wp2
        go_roundw
        case rel => exact ⟨k+1, by omega, by go_num, E3.out, hb.drewN _⟩
        case measure => simp [intOf]; omega
      · have e1 := Lib.hid (E2.out hxy)
        have hxy' : (x != y) = true := by simpa using hxy
        clear hxy E1 E2
        by_cases h0 : 0 ≤ y
        · by_cases h1 : y < x
          · have d0 : decide (y ≥ 0) = true := by simpa using h0
            have d1 : decide (x > y) = true := by simpa using h1
            have e2 : Hid (winF xs ys = true) := by show _ = _; rw [e1.out]; simp [h0, h1]
            clear e1
            go_wp2_with fail
            go_quiet (fail)
            go_wp2
            go_quiet (fail)
            go_wp2
            go_ret
            exact ⟨by rw [e2.out]; rfl, (hb.drewN _).drewN _⟩
          · have d0 : decide (y ≥ 0) = true := by simpa using h0
            have d1 : decide (x > y) = false := by simp; omega
            have e2 : Hid (winF xs ys = false) := by show _ = _; rw [e1.out]; simp [h1]
            clear e1
            go_wp2_with fail
            go_quiet (fail)
            go_wp2
            go_quiet (fail)
            go_wp2
            go_ret
            exact ⟨by rw [e2.out]; rfl, (hb.drewN _).drewN _⟩
        · have d0 : decide (y ≥ 0) = false := by simp; omega
          have e2 : Hid (winF xs ys = false) := by show _ = _; rw [e1.out]; simp [h0]
          clear e1
          go_wp2_with fail
          go_quiet (fail)
          go_wp2
          go_quiet (fail)
          go_wp2
          go_ret
          exact ⟨by rw [e2.out]; rfl, (hb.drewN _).drewN _⟩
    · have e1 : Hid (winF xs ys = false) := by
        show _ = _
        rw [List.take_of_length_le (by omega), List.take_of_length_le (by rw [← HL.out]; omega)] at ha
        rw [ha, winF_irrefl]
      clear ha
      go_wp2_with fail
      go_ret
      exact ⟨by rw [e1.out]; rfl, hb⟩
end Go.Proofs.YtkbgglejhdodoaaDoor
