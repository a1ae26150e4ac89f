/- Texts merged, part 11. -/
import Derived.Test.YteegjnobmbcjiaaGreatDoorMgMaximal10
section
/- Contracts of chapter 4 with the answers named. -/
namespace Go.Proofs.YteegjnobmbcjiaaGreatDoor
open Go.RowKit

theorem slC_n {lo hi : Nat} {w : World} {ad : Option Addr} {n k : Nat} {c : List Lt} (h : SlC lo hi w (.slice ad n k) c) : n = c.length := h.len
theorem clH_val (ar : List Int) (Z : Int) (tb : List (List Int)) (env : List Int) (c : List Lt) : clH ar Z tb env c = holdsC (evT ar Z tb env) c := by
  unfold clH holdsC
  congr 1
/-- What a tidied, a renamed and an always true clause say. -/
theorem tidied_ok {ar : List Int} {c t r : List Lt} {ta : Bool} (hg : goodClause ar c = true) (hT : tidyAns ar c = t) (hR : renCAns ar c = r) (hTa : tautAns ar c = ta) :
    goodClause ar t = true ∧ tidyAns ar t = t ∧ ∀ Z tb env, 1 ≤ Z → Z ≤ 3 → (goodSign ar = true → isWorld ar Z tb = true) → okEnv Z env = true →
      holdsOk ar Z tb c env = true ∧ holdsOk ar Z tb t env = true ∧ holdsAns ar Z tb t env = holdsAns ar Z tb c env ∧ (ta && !(holdsAns ar Z tb c env)) = false ∧ falseOk ar Z tb r = falseOk ar Z tb c ∧ heldAns ar Z tb r = heldAns ar Z tb c := by
  obtain ⟨h1, h2, h3⟩ := goodClause_iff.1 hg
  have hok : okLits ar c = true := okLits_iff.2 ⟨h2, h3⟩
  have hgt := tidy_good hg
  unfold tidyAns at hT
  unfold renCAns at hR
  unfold tautAns at hTa
  rw [if_pos hg] at hT hR
  rw [hg, Bool.true_and] at hTa
  subst hT hR hTa
  obtain ⟨g1, g2, g3⟩ := goodClause_iff.1 hgt
  have hokt : okLits ar (tidyC c) = true := okLits_iff.2 ⟨g2, g3⟩
  refine ⟨hgt, ?_, fun Z tb env _ _ hw he => ?_⟩
  · unfold tidyAns
    rw [if_pos hgt]
    exact tidy_twice c
  · have hw' := hw h1
    have k1 : holdsOk ar Z tb c env = true := by unfold holdsOk goodWorld; rw [h1, hw', hok, he]; rfl
    have k2 : holdsOk ar Z tb (tidyC c) env = true := by unfold holdsOk goodWorld; rw [h1, hw', hokt, he]; rfl
    obtain ⟨k3, k4⟩ := heldAns_ren (sz := Z) (tb := tb) hok
    refine ⟨k1, k2, ?_, ?_, k3, k4⟩
    · unfold holdsAns
      rw [if_pos k1, if_pos k2, clH_val, clH_val]
      exact tidy_holds (v := evT ar Z tb env) c
    · unfold holdsAns
      rw [if_pos k1, clH_val]
      cases hta : tautC c
      · rfl
      · rw [taut_holds (v := evT ar Z tb env) hta]; rfl
theorem iVarsIn_vv {l h l' h' : Nat} {v u : Value} {ar : List Int} {c : List Lt} {w : World} (ha : ar.length ≤ 1048576) (hv : SlI l h w v ar) (hc : sumC c ≤ 1048576) (hu : SlC l' h' w u c) {y : List Int} {k : Bool} (e1 : varsInAns ar c = y) (e2 : goodClause ar c = k) :
    Calls Tryz.prog 134 #[.agg #[v], u] w (RetIB w y k) := by subst e1 e2; exact iVarsIn_t ha hv hc hu
theorem iHoldsIn_vv {l h l' h' l2 h2 : Nat} {v u vc : Value} {ar : List Int} {sz : Int} {tb : List (List Int)} {c : List Lt} {w : World} (ha : ar.length ≤ 1048576) (hv : SlI l h w v ar) (hx : short tb) (hu : SlS l' h' w u tb) (hcs : sumC c ≤ 1048576) (hc : SlC l2 h2 w vc c) {y k : Bool} (e1 : heldAns ar sz tb c = y) (e2 : falseOk ar sz tb c = k) :
    Calls Tryz.prog 30 #[.agg #[v], .agg #[.int .i64 sz, u], vc] w (RetV w (.tuple #[.bool y, .bool k])) := by subst e1 e2; exact iHoldsIn_t ha hv hx hu hcs hc
end Go.Proofs.YteegjnobmbcjiaaGreatDoor
end
section
/- Chapter 4: the lists that stand for literals, both sides. -/
namespace Go.Proofs.YteegjnobmbcjiaaGreatDoor
open Go.RowKit

theorem litRowL {base e size : Nat} (w : World) (cs : Array Value) (n g : Nat) (hg : g = w.heap.size) (hb : base ≤ w.heap.size) (hm : n ≤ maxLen) (hs : cs.size = n * size) : (w.alloc (.cells cs e)).ownsRow base e size (.slice (some ⟨g, 0, none⟩) n n) n cs.toList := by subst hg; exact World.ownsRow_lit w cs n hb hm hs
theorem els_two {W : World} {z1 z2 : SV} {a b : List Int} (h1 : SlI 0 W.heap.size W (encS z1) a) (h2 : SlI 0 W.heap.size W (encS z2) b) : Els W [z1, z2] [a, b] := (((Els.nil W).snoc h1).snoc h2)
theorem els_four {W : World} {z1 z2 : SV} {a b : List Int} (h1 : SlI 0 W.heap.size W (encS z1) a) (h2 : SlI 0 W.heap.size W (encS z2) b) : Els W [z1, z2, z1, z2] [a, b, a, b] := (((((Els.nil W).snoc h1).snoc h2).snoc h1).snoc h2)
theorem listL_low {ar : List Int} {x : Lt} (h : okLit ar x = true) : ∀ t ∈ listL x, okTerm ar t = true := by
  obtain ⟨h1, h2⟩ := okLit_iff.1 h
  intro t ht
  unfold listL at ht
  split at ht <;> simp at ht
  · rcases ht with rfl | rfl <;> assumption
  · rcases ht with rfl | rfl | rfl | rfl <;> assumption
theorem listL_len (x : Lt) : (listL x).length ≤ 4 := by unfold listL; split <;> simp

set_option maxRecDepth 100000 in
set_option maxHeartbeats 1000000 in
theorem countedTerms_c (l h : Nat) (x : Lt) (u1 u2 : Value) (w : World) (h1 : SlI l h w u1 x.2.1) (h2 : SlI l h w u2 x.2.2) :
    Calls Tryz.prog 85 #[.agg #[.bool x.1, u1, u2]] w (RetRow w (listL x)) := by
  obtain ⟨p, xl, xr⟩ := x
  simp only at *
  obtain ⟨a1, d1, rfl⟩ := h1.form
  obtain ⟨a2, d2, rfl⟩ := h2.form
  have s1 := Lib.hid h1.in'
  have s2 := Lib.hid h2.in'
  clear h1 h2
  cases p with
  | true =>
    show Calls _ _ _ _ (RetRow w [xl, xr])
    go_enter Tryz.func85, Tryz.ntmps85
    go_wp2_with fail
    go_ret
    exact ⟨_, _, _, rfl, ⟨[(a1, xl.length, d1), (a2, xr.length, d2)], litRowL _ #[.slice a1 xl.length d1, .slice a2 xr.length d2] 2 _ (by simp) (by simp) (by unfold maxLen; omega) rfl, els_two s1.out s2.out⟩, Bel.alloc2 _ _ _⟩
  | false =>
    show Calls _ _ _ _ (RetRow w [xl, xr, xl, xr])
    go_enter Tryz.func85, Tryz.ntmps85
    go_wp2_with fail
    go_ret
    exact ⟨_, _, _, rfl, ⟨[(a1, xl.length, d1), (a2, xr.length, d2), (a1, xl.length, d1), (a2, xr.length, d2)], litRowL _ #[.slice a1 xl.length d1, .slice a2 xr.length d2, .slice a1 xl.length d1, .slice a2 xr.length d2] 4 _ (by simp) (by simp) (by unfold maxLen; omega) rfl, els_four s1.out s2.out⟩, Bel.alloc2 _ _ _⟩

set_option maxRecDepth 100000 in
set_option maxHeartbeats 1000000 in
theorem l4List_c (l h : Nat) (x : Lt) (u1 u2 : Value) (w : World) (h1 : SlI l h w u1 x.2.1) (h2 : SlI l h w u2 x.2.2) :
    Calls Tryz.prog 54 #[.agg #[.bool x.1, u1, u2]] w (RetRow w (listL x)) := by
  obtain ⟨p, xl, xr⟩ := x
  simp only at *
  obtain ⟨a1, d1, rfl⟩ := h1.form
  obtain ⟨a2, d2, rfl⟩ := h2.form
  have s1 := Lib.hid h1.in'
  have s2 := Lib.hid h2.in'
  clear h1 h2
  cases p with
  | true =>
    show Calls _ _ _ _ (RetRow w [xl, xr])
    go_enter Tryz.func54, Tryz.ntmps54
    go_wp2_with fail
    go_ret
    exact ⟨_, _, _, rfl, ⟨[(a1, xl.length, d1), (a2, xr.length, d2)], litRowL _ #[.slice a1 xl.length d1, .slice a2 xr.length d2] 2 _ (by simp) (by simp) (by unfold maxLen; omega) rfl, els_two s1.out s2.out⟩, Bel.alloc2 _ _ _⟩
  | false =>
    show Calls _ _ _ _ (RetRow w [xl, xr, xl, xr])
    go_enter Tryz.func54, Tryz.ntmps54
    go_wp2_with fail
    go_ret
    exact ⟨_, _, _, rfl, ⟨[(a1, xl.length, d1), (a2, xr.length, d2), (a1, xl.length, d1), (a2, xr.length, d2)], litRowL _ #[.slice a1 xl.length d1, .slice a2 xr.length d2, .slice a1 xl.length d1, .slice a2 xr.length d2] 4 _ (by simp) (by simp) (by unfold maxLen; omega) rfl, els_four s1.out s2.out⟩, Bel.alloc2 _ _ _⟩
end Go.Proofs.YteegjnobmbcjiaaGreatDoor
end
section
/- The ordering of two terms: the program's and the reference's inner functions. -/
namespace Go.Proofs.YteegjnobmbcjiaaGreatDoor
open Go.RowKit

/-- The table of weights: both are one. -/
def Tab (w : World) : Prop := w.cell? ⟨0, 0, none⟩ = some (.int .i64 1) ∧ w.cell? ⟨0, 1, none⟩ = some (.int .i64 1)
theorem Tab.bel {w w' : World} (h : Tab w) (hb : Bel w w') : Tab w' := ⟨hb.at (World.block_lt_of_cell? _ ⟨_, _, none⟩ h.1) h.1, hb.at (World.block_lt_of_cell? _ ⟨_, _, none⟩ h.2) h.2⟩
theorem Tab.k {w : World} (h : Tab w) : K Tab w := fun _ hb => h.bel hb

theorem weightOf_c (l h : Nat) (v : Value) (t : List Int) (w : World) (hT : Tab w) (ht : t.length ≤ 1048576) (hv : SlI l h w v t) :
    Calls Tryz.prog 158 #[v] w (RetV w (.int .i64 (t.length : Int))) := by
  obtain ⟨ad, cap, rfl, -, -, hr⟩ := hv
  obtain ⟨hT0, hT1⟩ := hT
  go_enter Tryz.func158, Tryz.ntmps158
  go_wp2_with fail
  go_loop [3, 8] (fun m i => ∃ k : Nat, k ≤ t.length ∧ i = .int .i64 k ∧ m = .int .i64 k) (fun _ i => t.length - (intOf i).toNat)
  case atStart => exact ⟨0, Nat.zero_le _, rfl, rfl⟩
  case round =>
    obtain ⟨k, hk, rfl, rfl⟩ := hrel
    by_cases hlt : k < t.length
    · obtain ⟨b, off, rfl, -, hcell⟩ := rd hr (Bel.rfl' w) k hlt
      clear hr
      generalize t.getD k 0 = x at *
      by_cases hx : x < 0
      · have hx' : decide (x < 0) = true := by simpa using hx
        go_wp2_with fail
        go_round
        case rel => exact ⟨k+1, by omega, by go_num, by go_num⟩
        case measure => simp [intOf]; omega
      · have hx' : decide (x < 0) = false := by simpa using hx
        go_wp2_with fail
        go_round
        case rel => exact ⟨k+1, by omega, by go_num, by go_num⟩
        case measure => simp [intOf]; omega
    · obtain rfl : k = t.length := by omega
      go_wp2_with fail
      go_ret
      exact ⟨rfl, Bel.rfl' _⟩

/-- All variables have numbers up to eleven. -/
def lowT (t : List Int) : Prop := ∀ k, k < t.length → -12 ≤ t.getD k 0
theorem lowT.mem {t : List Int} (h : lowT t) {n : Int} (hn : n ∈ t) : -12 ≤ n := by
  obtain ⟨i, hi, e⟩ := List.getElem_of_mem hn
  have := h i hi
  simpa [List.getD, hi, e] using this
theorem cntf_neg {t : List Int} {k : Nat} (hk : k < t.length) (hx : t.getD k 0 < 0) :
    (fun i : Nat => if i = (-1 - t.getD k 0).toNat then (cntI (t.take k) (t.getD k 0) : Int) + 1 else (cntI (t.take k) (-1 - (i : Int)) : Int)) = fun i : Nat => (cntI (t.take (k+1)) (-1 - (i : Int)) : Int) := by
  funext i
  by_cases e : i = (-1 - t.getD k 0).toNat
  · have e2 : -1 - (i : Int) = t.getD k 0 := by omega
    rw [if_pos e, e2, cntI_yes t _ k hk rfl]; omega
  · have e2 : t.getD k 0 ≠ -1 - (i : Int) := by omega
    rw [if_neg e, cntI_no t _ k hk e2]
theorem cntf_sym {t : List Int} {k : Nat} (hk : k < t.length) (hx : ¬ t.getD k 0 < 0) (i : Nat) : cntI (t.take (k+1)) (-1 - (i : Int)) = cntI (t.take k) (-1 - (i : Int)) :=
  cntI_no t _ k hk (by omega)
theorem cntd_neg {t : List Int} {k : Nat} (g : Int → Int) (hk : k < t.length) (hx : t.getD k 0 < 0) :
    (fun i : Nat => if i = (-1 - t.getD k 0).toNat then g (t.getD k 0) - (cntI (t.take k) (t.getD k 0) : Int) - 1 else g (-1 - (i : Int)) - (cntI (t.take k) (-1 - (i : Int)) : Int)) = fun i : Nat => g (-1 - (i : Int)) - (cntI (t.take (k+1)) (-1 - (i : Int)) : Int) := by
  funext i
  by_cases e : i = (-1 - t.getD k 0).toNat
  · have e2 : -1 - (i : Int) = t.getD k 0 := by omega
    rw [if_pos e, e2, cntI_yes t _ k hk rfl]; omega
  · have e2 : t.getD k 0 ≠ -1 - (i : Int) := by omega
    rw [if_neg e, cntI_no t _ k hk e2]
theorem cntI_take (t : List Int) (k : Nat) (n : Int) : cntI (t.take k) n ≤ cntI t n := by
  rw [cntI_count, cntI_count]
  exact (List.take_sublist k t).count_le n
theorem covers_no {a b : List Int} {k : Nat} (hk : k < b.length) (hx : b.getD k 0 < 0) (h : cntI a (b.getD k 0) < cntI (b.take k) (b.getD k 0) + 1) : covers a b = false := by
  rw [Bool.eq_false_iff]; intro hc
  have h1 := covers_iff.1 hc _ hx
  have h2 := cntI_take b (k+1) (b.getD k 0)
  rw [cntI_yes b _ k hk rfl] at h2
  rw [← cntI_count, ← cntI_count] at h1
  omega
def SoFar (a b : List Int) (k : Nat) : Prop := ∀ n, n < 0 → cntI (b.take k) n ≤ cntI a n
theorem SoFar.neg {a b : List Int} {k : Nat} (h : SoFar a b k) (hk : k < b.length) (hx : ¬ cntI a (b.getD k 0) < cntI (b.take k) (b.getD k 0) + 1) : SoFar a b (k+1) := fun n hn => by
  by_cases e : b.getD k 0 = n
  · rw [cntI_yes b n k hk e]; rw [e] at hx; omega
  · rw [cntI_no b n k hk e]; exact h n hn
theorem SoFar.sym {a b : List Int} {k : Nat} (h : SoFar a b k) (hk : k < b.length) (hx : ¬ b.getD k 0 < 0) : SoFar a b (k+1) := fun n hn => by
  rw [cntI_no b n k hk (by omega)]; exact h n hn
theorem SoFar.done {a b : List Int} {k : Nat} (h : SoFar a b k) (hk : ¬ k < b.length) : covers a b = true := covers_iff.2 fun n hn => by
  have := h n hn
  rw [List.take_of_length_le (by omega), cntI_count, cntI_count] at this
  exact this

set_option maxRecDepth 100000 in
set_option maxHeartbeats 400000 in
theorem coversVars_c (l h l' h' : Nat) (v u : Value) (a b : List Int) (w : World) (ha : a.length ≤ 1048576) (hb : b.length ≤ 1048576) (hla : lowT a) (hlb : lowT b) (hv : SlI l h w v a) (hu : SlI l' h' w u b) :
    Calls Tryz.prog 157 #[v, u] w (RetV w (.bool (covers a b))) := by
  obtain ⟨ad, cap, rfl, -, -, hr⟩ := hv
  obtain ⟨ad', cap', rfl, -, -, hr'⟩ := hu
  go_enter Tryz.func157, Tryz.ntmps157
  go_wp2_with fail
  go_loopw [12] (fun i wr => ∃ k : Nat, k ≤ a.length ∧ i = .int .i64 k ∧ BlkN wr w.heap.size 153 (fun i : Nat => (cntI (a.take k) (-1 - (i : Int)) : Int)) ∧ Bel w wr) (fun i _ => a.length - (intOf i).toNat)
  case atStart => exact ⟨0, Nat.zero_le _, rfl, by exact heap_alloc_new w _, Bel.alloc0 _ _⟩
  case round =>
    obtain ⟨k, hk, rfl, hN, hb1⟩ := hrel
    by_cases hlt : k < a.length
    · obtain ⟨b0, off, rfl, -, hcell⟩ := rd hr hb1 k hlt
      have hlow := hla k hlt
      have E1 := Lib.hid (cntf_neg hlt)
      have E2 := Lib.hid (cntf_sym hlt)
      have hc0 : cntI (a.take k) (a.getD k 0) ≤ 1048576 := Nat.le_trans (cntI_take a k _) (Nat.le_trans (cntI_le a _) ha)
      clear hr hr'
      generalize a.getD k 0 = x at *
      by_cases hx : x < 0
      · have hx' : decide (x < 0) = true := by simpa using hx
        have hm12 : (-1 - x).toNat < 12 := by omega
        have hi0 : 0 ≤ -1 - x := by omega
        have hi1 : -1 - x < 12 := by omega
        have hcN := hN.cell _ hm12
        have hfN := hN.free (-1 - x).toNat
        have e3 : -1 - (((-1 - x).toNat : Nat) : Int) = x := by omega
        simp only [e3] at hcN
        have E := Lib.hid (E1.out hx)
        clear E1 E2
        generalize hq : cntI (a.take k) x = c at *
        have HN := Lib.hid (hN.set _ hm12 ((c : Int) + 1))
        clear hN
        go_wp2_with fail
        go_roundw
        case rel => exact ⟨k+1, by omega, by go_num, by rw [← E.out]; exact HN.out, hb1.setCell (p := ⟨w.heap.size, (-1 - x).toNat, none⟩) (Nat.le_refl _) _⟩
        case measure => simp [intOf]; omega
      · have hx' : decide (x < 0) = false := by simpa using hx
        have E := Lib.hid (E2.out hx)
        clear E1 E2
        go_wp2_with fail
        go_roundw
        case rel => exact ⟨k+1, by omega, by go_num, by simp only [E.out]; exact hN, hb1⟩
        case measure => simp [intOf]; omega
    · rw [List.take_of_length_le (show a.length ≤ k by omega)] at hN
      go_wp2_with fail
      go_loopw [27] (fun i wr => ∃ k : Nat, k ≤ b.length ∧ i = .int .i64 k ∧ SoFar a b k ∧ BlkN wr w.heap.size 153 (fun i : Nat => (cntI a (-1 - (i : Int)) : Int) - (cntI (b.take k) (-1 - (i : Int)) : Int)) ∧ Bel w wr) (fun i _ => b.length - (intOf i).toNat)
      case atStart => exact ⟨0, Nat.zero_le _, rfl, fun n _ => by simp [cntI], by simpa [cntI] using hN, hb1⟩
      case round =>
        clear hN hb1
        obtain ⟨j, hj, rfl, hS, hN, hb2⟩ := hrel
        by_cases hlt2 : j < b.length
        · obtain ⟨b0, off, rfl, -, hcell⟩ := rd hr' hb2 j hlt2
          have hlow := hlb j hlt2
          have E1 := Lib.hid (cntd_neg (t := b) (fun n => (cntI a n : Int)) hlt2)
          have E2 := Lib.hid (cntf_sym hlt2)
          have E3 := Lib.hid (covers_no (a := a) hlt2)
          have E4 := Lib.hid (hS.neg hlt2)
          have E5 := Lib.hid (hS.sym hlt2)
          have hc0 : cntI (b.take j) (b.getD j 0) ≤ 1048576 := Nat.le_trans (cntI_take b j _) (Nat.le_trans (cntI_le b _) hb)
          have hc1 : cntI a (b.getD j 0) ≤ 1048576 := by have := cntI_le a (b.getD j 0); omega
          clear hr hr' hS
          generalize b.getD j 0 = x at *
          by_cases hx : x < 0
          · have hx' : decide (x ≥ 0) = false := by simp; omega
            have hm12 : (-1 - x).toNat < 12 := by omega
            have hi0 : 0 ≤ -1 - x := by omega
            have hi1 : -1 - x < 12 := by omega
            have hcN := hN.cell _ hm12
            have hfN := hN.free (-1 - x).toNat
            have e3 : -1 - (((-1 - x).toNat : Nat) : Int) = x := by omega
            simp only [e3] at hcN
            have E := Lib.hid (E1.out hx)
            clear E1 E2 E5
            generalize hq : cntI (b.take j) x = c at *
            generalize hq2 : cntI a x = d at *
            have hw1 := IntWalk.i64_in ((d : Int) - c - 1) (by omega)
            have hN2 := hN.set _ hm12 ((d : Int) - c - 1)
            have hcN2 := hN2.cell _ hm12
            simp only [if_true] at hcN2
            have HN := Lib.hid hN2
            clear hN hN2
            by_cases hdc : d < c + 1
            · have e1 := Lib.hid (E3.out hx hdc)
              have hd : decide ((d : Int) - c - 1 < 0) = true := by simp; omega
              clear E3 E4 E
              go_wp2_with fail
              go_ret
              exact ⟨by rw [e1.out]; rfl, hb2.setCell (p := ⟨w.heap.size, (-1 - x).toNat, none⟩) (Nat.le_refl _) _⟩
            · have e1 := Lib.hid (E4.out hdc)
              have hd : decide ((d : Int) - c - 1 < 0) = false := by simp; omega
              clear E3 E4
              go_wp2_with fail
              go_roundw
              case rel => exact ⟨j+1, by omega, by go_num, e1.out, by rw [← E.out]; exact HN.out, hb2.setCell (p := ⟨w.heap.size, (-1 - x).toNat, none⟩) (Nat.le_refl _) _⟩
              case measure => simp [intOf]; omega
          · have hx' : decide (x ≥ 0) = true := by simp; omega
            have E := Lib.hid (E2.out hx)
            have e1 := Lib.hid (E5.out hx)
            clear E1 E2 E3 E4 E5
            go_wp2_with fail
            go_roundw
            case rel => exact ⟨j+1, by omega, by go_num, e1.out, by simp only [E.out]; exact hN, hb2⟩
            case measure => simp [intOf]; omega
        · have e1 := Lib.hid (hS.done hlt2)
          clear hS
          go_wp2_with fail
          go_ret
          exact ⟨by rw [e1.out]; rfl, hb2⟩
theorem coversVars_v (l h l' h' : Nat) (v u : Value) (a b : List Int) (q : Bool) (w : World) (he : covers a b = q) (ha : a.length ≤ 1048576) (hb : b.length ≤ 1048576) (hla : lowT a) (hlb : lowT b) (hv : SlI l h w v a) (hu : SlI l' h' w u b) :
    Calls Tryz.prog 157 #[v, u] w (RetV w (.bool q)) := he ▸ coversVars_c l h l' h' v u a b w ha hb hla hlb hv hu

theorem winF_at {a b : List Int} {k : Nat} (h : a.take k = b.take k) (ha : k < a.length) (hb : k < b.length) (hne : a.getD k 0 ≠ b.getD k 0) : winF a b = (decide (0 ≤ b.getD k 0) && decide (b.getD k 0 < a.getD k 0)) := by
  have e1 : a = a.take k ++ a.getD k 0 :: a.drop (k+1) := by simp [List.getD, ha]
  have e2 : b = b.take k ++ b.getD k 0 :: b.drop (k+1) := by simp [List.getD, hb]
  generalize a.getD k 0 = x at *
  generalize b.getD k 0 = y at *
  rw [e1, e2, h, winF_left]
  simp [winF, hne]

set_option maxRecDepth 100000 in
set_option maxHeartbeats 400000 in
theorem winsFirst_c (l h l' h' : Nat) (v u : Value) (xs ys : List Int) (w : World) (hl : xs.length = ys.length) (hx : xs.length ≤ 1048576) (hv : SlI l h w v xs) (hu : SlI l' h' w u ys) :
    Calls Tryz.prog 159 #[v, u] w (RetV w (.bool (winF xs ys))) := by
  obtain ⟨ad, cap, rfl, -, -, hr⟩ := hv
  obtain ⟨ad', cap', rfl, -, -, hr'⟩ := hu
  have HL := Lib.hid hl
  clear hl
  go_enter Tryz.func159, Tryz.ntmps159
  go_wp2_with fail
  go_loopw [8] (fun i wr => ∃ k : Nat, k ≤ xs.length ∧ i = .int .i64 k ∧ xs.take k = ys.take k ∧ Bel w wr) (fun i _ => xs.length - (intOf i).toNat)
  case atStart => exact ⟨0, Nat.zero_le _, rfl, rfl, Bel.rfl' _⟩
  case round =>
    obtain ⟨k, hk, rfl, ha, hb⟩ := hrel
    by_cases hlt : k < xs.length
    · have hlt2 : k < ys.length := by rw [← HL.out]; exact hlt
      obtain ⟨b, off, rfl, -, hcell⟩ := rd hr hb k hlt
      obtain ⟨b', off', rfl, -, hcell'⟩ := rd hr' hb k hlt2
      have E1 := Lib.hid (take_eq_succ xs ys k hlt hlt2 ha)
      have E2 := Lib.hid (winF_at ha hlt hlt2)
      clear hr hr' ha
      generalize xs.getD k 0 = x at *
      generalize ys.getD k 0 = y at *
      by_cases hxy : x = y
      · have E3 := Lib.hid (E1.out hxy)
        clear E1 E2
        subst hxy
        go_wp2_with fail
        go_quiet (fail)
        go_wp2
        go_roundw
        case rel => exact ⟨k+1, by omega, by go_num, E3.out, hb.drewN _⟩
        case measure => simp [intOf]; omega
      · have e1 := Lib.hid (E2.out hxy)
        have hxy' : (x != y) = true := by simpa using hxy
        clear hxy E1 E2
        by_cases h0 : 0 ≤ y
        · by_cases h1 : y < x
          · have d0 : decide (y ≥ 0) = true := by simpa using h0
            have d1 : decide (x > y) = true := by simpa using h1
            have e2 : Hid (winF xs ys = true) := by show _ = _; rw [e1.out]; simp [h0, h1]
            clear e1
            go_wp2_with fail
            go_quiet (fail)
            go_wp2
            go_quiet (fail)
            go_wp2
            go_ret
            exact ⟨by rw [e2.out]; rfl, (hb.drewN _).drewN _⟩
          · have d0 : decide (y ≥ 0) = true := by simpa using h0
            have d1 : decide (x > y) = false := by simp; omega
            have e2 : Hid (winF xs ys = false) := by show _ = _; rw [e1.out]; simp [h1]
            clear e1
            go_wp2_with fail
            go_quiet (fail)
            go_wp2
            go_quiet (fail)
            go_wp2
            go_ret
            exact ⟨by rw [e2.out]; rfl, (hb.drewN _).drewN _⟩
        · have d0 : decide (y ≥ 0) = false := by simp; omega
          have e2 : Hid (winF xs ys = false) := by show _ = _; rw [e1.out]; simp [h0]
          clear e1
          go_wp2_with fail
          go_quiet (fail)
          go_wp2
          go_quiet (fail)
          go_wp2
          go_ret
          exact ⟨by rw [e2.out]; rfl, (hb.drewN _).drewN _⟩
    · have e1 : Hid (winF xs ys = false) := by
        show _ = _
        rw [List.take_of_length_le (by omega), List.take_of_length_le (by rw [← HL.out]; omega)] at ha
        rw [ha, winF_irrefl]
      clear ha
      go_wp2_with fail
      go_ret
      exact ⟨by rw [e1.out]; rfl, hb⟩
end Go.Proofs.YteegjnobmbcjiaaGreatDoor
end
section
/- The ordering of two terms: comparing, both functions. -/
namespace Go.Proofs.YteegjnobmbcjiaaGreatDoor
open Go.RowKit

set_option maxRecDepth 100000 in
set_option maxHeartbeats 400000 in
theorem isAbove_c (l h l' h' : Nat) (v u : Value) (a b : List Int) (w : World) (hT : Tab w) (ha : a.length ≤ 1048576) (hb : b.length ≤ 1048576) (hla : lowT a) (hlb : lowT b) (hv : SlI l h w v a) (hu : SlI l' h' w u b) :
    Calls Tryz.prog 142 #[v, u] w (RetV w (.bool (above a b))) := by
  cases hc : covers a b with
  | false =>
    have E : Hid (above a b = false) := by show _ = _; simp [above, hc]
    have HC := Lib.hid (coversVars_v l h l' h' v u a b false w hc ha hb hla hlb hv hu)
    clear hc
    go_enter Tryz.func142, Tryz.ntmps142
    go_wp2_with fail
    refine HC.out.mono ?_; rintro e w1 ⟨rfl, hb1⟩
    go_wp2_with fail
    go_ret
    exact ⟨by rw [E.out]; rfl, hb1⟩
  | true =>
    have HC := Lib.hid (coversVars_v l h l' h' v u a b true w hc ha hb hla hlb hv hu)
    have HW := Lib.hid (fun (w' : World) (hq : Bel w w') => weightOf_c l h v a w' (hT.bel hq) ha (hv.below hq))
    have HX := Lib.hid (fun (w' : World) (hq : Bel w w') => weightOf_c l' h' u b w' (hT.bel hq) hb (hu.below hq))
    have hw0 := IntWalk.i64_in ((a.length : Int) - b.length) (by omega)
    rcases Nat.lt_trichotomy a.length b.length with hl | hl | hl
    · have E : Hid (above a b = false) := by show _ = _; rw [Bool.eq_false_iff, ne_eq, above_iff]; omega
      have d0 : decide (b.length < a.length) = false := by simp; omega
      have d1 : ((a.length : Int) - b.length == 0) = false := by simp; omega
      clear hc
      go_enter Tryz.func142, Tryz.ntmps142
      go_wp2_with fail
      refine HC.out.mono ?_; rintro e w1 ⟨rfl, hb1⟩
      go_wp2_with fail
      refine (HW.out _ hb1).mono ?_; rintro e w2 ⟨rfl, hb2⟩
      go_wp2_with fail
      refine (HX.out _ (hb1.step hb2)).mono ?_; rintro e w3 ⟨rfl, hb3⟩
      go_wp2_with fail
      go_ret
      exact ⟨by rw [E.out]; rfl, (hb1.step hb2).step hb3⟩
    · have E : Hid (above a b = winF a b) := by show _ = _; unfold above; simp [hc, hl]
      have HF := Lib.hid (fun (w' : World) (hq : Bel w w') => winsFirst_c l h l' h' v u a b w' hl ha (hv.below hq) (hu.below hq))
      have d0 : decide (b.length < a.length) = false := by simp; omega
      have d1 : ((a.length : Int) - b.length == 0) = true := by simp; omega
      clear hc
      generalize winF a b = q at *
      cases q
      all_goals
        go_enter Tryz.func142, Tryz.ntmps142
        go_wp2_with fail
        refine HC.out.mono ?_; rintro e w1 ⟨rfl, hb1⟩
        go_wp2_with fail
        refine (HW.out _ hb1).mono ?_; rintro e w2 ⟨rfl, hb2⟩
        go_wp2_with fail
        refine (HX.out _ (hb1.step hb2)).mono ?_; rintro e w3 ⟨rfl, hb3⟩
        go_wp2_with fail
        refine (HF.out _ ((hb1.step hb2).step hb3)).mono ?_; rintro e w4 ⟨rfl, hb4⟩
        go_wp2_with fail
        go_ret
        exact ⟨by rw [E.out]; rfl, ((hb1.step hb2).step hb3).step hb4⟩
    · have E : Hid (above a b = true) := by show _ = _; rw [above_iff]; exact ⟨covers_iff.1 hc, .inl hl⟩
      have d0 : decide (b.length < a.length) = true := by simp; omega
      clear hc
      go_enter Tryz.func142, Tryz.ntmps142
      go_wp2_with fail
      refine HC.out.mono ?_; rintro e w1 ⟨rfl, hb1⟩
      go_wp2_with fail
      refine (HW.out _ hb1).mono ?_; rintro e w2 ⟨rfl, hb2⟩
      go_wp2_with fail
      refine (HX.out _ (hb1.step hb2)).mono ?_; rintro e w3 ⟨rfl, hb3⟩
      go_wp2_with fail
      go_ret
      exact ⟨by rw [E.out]; rfl, (hb1.step hb2).step hb3⟩
theorem isAbove_v (l h l' h' : Nat) (v u : Value) (a b : List Int) (q : Bool) (w : World) (he : above a b = q) (hT : Tab w) (ha : a.length ≤ 1048576) (hb : b.length ≤ 1048576) (hla : lowT a) (hlb : lowT b) (hv : SlI l h w v a) (hu : SlI l' h' w u b) :
    Calls Tryz.prog 142 #[v, u] w (RetV w (.bool q)) := he ▸ isAbove_c l h l' h' v u a b w hT ha hb hla hlb hv hu

/-- The reference's. -/
def wt (a b : List Int) (v : Int) : Bool := decide (cntI b (-1 - v) ≤ cntI a (-1 - v))
theorem covers_vars {a b : List Int} (hb : lowT b) : covers a b = (natsI (varsTo (mk b) 12)).all (wt a b) := by
  rw [Bool.eq_iff_iff, covers_iff, List.all_eq_true]
  constructor
  · intro h v hv
    obtain ⟨n, hn, rfl⟩ := List.mem_map.1 hv
    have := h (-1 - (n : Int)) (by omega)
    rw [← cntI_count, ← cntI_count] at this
    simpa [wt] using this
  · intro h n hn
    by_cases hm : n ∈ b
    · have hl := hb.mem hm
      have hv : (((-1 - n).toNat : Nat) : Int) ∈ natsI (varsTo (mk b) 12) := by
        refine List.mem_map.2 ⟨(-1 - n).toNat, ?_, rfl⟩
        unfold varsTo
        rw [List.mem_filter, List.mem_range]
        refine ⟨by omega, ?_⟩
        unfold mk
        rw [show -1 - (((-1 - n).toNat : Nat) : Int) = n by omega]
        simpa using hm
      have := h _ hv
      unfold wt at this
      rw [show -1 - (((-1 - n).toNat : Nat) : Int) = n by omega] at this
      rw [← cntI_count, ← cntI_count]
      simpa using this
    · rw [List.count_eq_zero_of_not_mem hm]; omega
theorem vars_bound {b : List Int} {k : Nat} (hk : k < (natsI (varsTo (mk b) 12)).length) : 0 ≤ (natsI (varsTo (mk b) 12)).getD k 0 ∧ (natsI (varsTo (mk b) 12)).getD k 0 ≤ 11 := by
  have hm : (natsI (varsTo (mk b) 12)).getD k 0 ∈ natsI (varsTo (mk b) 12) := by simp [List.getD, hk]
  obtain ⟨n, hn, e⟩ := List.mem_map.1 hm
  unfold varsTo at hn
  rw [List.mem_filter, List.mem_range] at hn
  rw [← e]; omega

set_option maxRecDepth 100000 in
set_option maxHeartbeats 400000 in
theorem l3Weighs_c (l h l' h' : Nat) (v u : Value) (a b : List Int) (w : World) (ha : a.length ≤ 1048576) (hb : b.length ≤ 1048576) (hlb : lowT b) (hv : SlI l h w v a) (hu : SlI l' h' w u b) :
    Calls Tryz.prog 149 #[v, u] w (RetV w (.bool (covers a b))) := by
  have hcv := covers_vars (a := a) hlb
  have hvb := fun k => vars_bound (b := b) (k := k)
  have HV := Lib.hid (l1Vars_c l' h' u b w hb hlb hu)
  have hvl : (natsI (varsTo (mk b) 12)).length ≤ 12 := by rw [natsI_len]; exact varsTo_len _ _
  have HA := Lib.hid (fun (w' : World) (hq : Bel w w') (n : Int) => l1Count_c l h v a n w' ha (hv.below hq))
  have HB := Lib.hid (fun (w' : World) (hq : Bel w w') (n : Int) => l1Count_c l' h' u b n w' hb (hu.below hq))
  generalize natsI (varsTo (mk b) 12) = L at *
  go_enter Tryz.func149, Tryz.ntmps149
  go_wp2_with fail
  refine HV.out.mono ?_; rintro e w1 ⟨ad, n, c, rfl, ho, hb1⟩
  have hn := ho.sl
  obtain ⟨ad2, c2, e2, -, -, hr⟩ := hn
  simp only [Value.slice.injEq] at e2
  obtain ⟨rfl, rfl, rfl⟩ := e2
  go_wp2_with fail
  go_loopw [10] (fun i wr => ∃ k : Nat, k ≤ L.length ∧ i = .int .i64 k ∧ (L.take k).all (wt a b) = true ∧ Bel w1 wr) (fun i _ => L.length - (intOf i).toNat)
  case atStart => exact ⟨0, Nat.zero_le _, rfl, rfl, Bel.rfl' _⟩
  case round =>
    obtain ⟨k, hk, rfl, hall, hb2⟩ := hrel
    by_cases hlt : k < L.length
    · obtain ⟨b0, off, rfl, -, hcell⟩ := rd hr hb2 k hlt
      have hx := hvb k hlt
      have hsp := Lib.hid (all_split L (wt a b) k hlt hall)
      have hfs := Lib.hid (all_false L (wt a b) k hlt)
      clear hr hvb hall
      generalize L.getD k 0 = x at *
      have hw0 := IntWalk.i64_in (-1 - x) (by omega)
      by_cases hlt2 : cntI a (-1 - x) < cntI b (-1 - x)
      · have E : Hid (covers a b = false) := by show _ = _; rw [hcv]; refine hfs.out ?_; simp [wt]; omega
        have hd : decide ((cntI a (-1 - x) : Int) < cntI b (-1 - x)) = true := by simp; omega
        clear hcv
        go_wp2_with fail
        refine (HA.out _ (hb1.step hb2) _).mono ?_; rintro e w2 ⟨rfl, hb3⟩
        go_wp2_with fail
        refine (HB.out _ ((hb1.step hb2).step hb3) _).mono ?_; rintro e w3 ⟨rfl, hb4⟩
        go_wp2_with fail
        go_ret
        exact ⟨by rw [E.out]; rfl, ((hb1.step hb2).step hb3).step hb4⟩
      · have E : Hid ((L.take (k+1)).all (wt a b) = true) := by show _ = _; rw [hsp.out]; simp [wt]; omega
        have hd : decide ((cntI a (-1 - x) : Int) < cntI b (-1 - x)) = false := by simp; omega
        clear hcv
        go_wp2_with fail
        refine (HA.out _ (hb1.step hb2) _).mono ?_; rintro e w2 ⟨rfl, hb3⟩
        go_wp2_with fail
        refine (HB.out _ ((hb1.step hb2).step hb3) _).mono ?_; rintro e w3 ⟨rfl, hb4⟩
        go_wp2_with fail
        go_roundw
        case rel => exact ⟨k+1, by omega, by go_num, E.out, (hb2.step hb3).step hb4⟩
        case measure => simp [intOf]; omega
    · have E : Hid (covers a b = true) := by show _ = _; rw [hcv]; exact all_done L _ k hk hlt hall
      clear hall hcv
      go_wp2_with fail
      go_ret
      exact ⟨by rw [E.out]; rfl, hb1.step hb2⟩
theorem l3Weighs_v (l h l' h' : Nat) (v u : Value) (a b : List Int) (q : Bool) (w : World) (he : covers a b = q) (ha : a.length ≤ 1048576) (hb : b.length ≤ 1048576) (hlb : lowT b) (hv : SlI l h w v a) (hu : SlI l' h' w u b) :
    Calls Tryz.prog 149 #[v, u] w (RetV w (.bool q)) := he ▸ l3Weighs_c l h l' h' v u a b w ha hb hlb hv hu

set_option maxRecDepth 100000 in
set_option maxHeartbeats 400000 in
theorem l3Greater_c (l h l' h' : Nat) (v u : Value) (xs ys : List Int) (w : World) (ha : xs.length ≤ 1048576) (hb : ys.length ≤ 1048576) (hlb : lowT ys) (hv : SlI l h w v xs) (hu : SlI l' h' w u ys) :
    Calls Tryz.prog 129 #[v, u] w (RetV w (.bool (above xs ys))) := by
  have hv0 := hv
  have hu0 := hu
  obtain ⟨ad, cap, rfl, -, -, hr⟩ := hv
  obtain ⟨ad', cap', rfl, -, -, hr'⟩ := hu
  cases hc : covers xs ys with
  | false =>
    have E : Hid (above xs ys = false) := by show _ = _; simp [above, hc]
    have HC := Lib.hid (l3Weighs_v l h l' h' _ _ xs ys false w hc ha hb hlb hv0 hu0)
    clear hc hr hr'
    go_enter Tryz.func129, Tryz.ntmps129
    go_wp2_with fail
    refine HC.out.mono ?_; rintro e w1 ⟨rfl, hb1⟩
    go_wp2_with fail
    go_ret
    exact ⟨by rw [E.out]; rfl, hb1⟩
  | true =>
    have HC := Lib.hid (l3Weighs_v l h l' h' _ _ xs ys true w hc ha hb hlb hv0 hu0)
    rcases Nat.lt_trichotomy xs.length ys.length with hl | hl | hl
    · have E : Hid (above xs ys = false) := by show _ = _; rw [Bool.eq_false_iff, ne_eq, above_iff]; omega
      have d0 : decide (xs.length < ys.length) = true := by simp; omega
      clear hc hr hr'
      go_enter Tryz.func129, Tryz.ntmps129
      go_wp2_with fail
      refine HC.out.mono ?_; rintro e w1 ⟨rfl, hb1⟩
      go_wp2_with fail
      go_ret
      exact ⟨by rw [E.out]; rfl, hb1⟩
    · have E : Hid (above xs ys = winF xs ys) := by show _ = _; unfold above; simp [hc, hl]
      have d0 : decide (xs.length < ys.length) = false := by simp; omega
      have d1 : decide (ys.length < xs.length) = false := by simp; omega
      have HL := Lib.hid hl
      clear hc hl
      go_enter Tryz.func129, Tryz.ntmps129
      go_wp2_with fail
      refine HC.out.mono ?_; rintro e w1 ⟨rfl, hb1⟩
      go_wp2_with fail
      go_loopw [24] (fun i wr => ∃ k : Nat, k ≤ xs.length ∧ i = .int .i64 k ∧ xs.take k = ys.take k ∧ Bel w wr) (fun i _ => xs.length - (intOf i).toNat)
      case atStart => exact ⟨0, Nat.zero_le _, rfl, rfl, hb1⟩
      case round =>
        obtain ⟨k, hk, rfl, ha2, hb2⟩ := hrel
        by_cases hlt : k < xs.length
        · have hlt2 : k < ys.length := by rw [← HL.out]; exact hlt
          obtain ⟨b, off, rfl, -, hcell⟩ := rd hr hb2 k hlt
          obtain ⟨b', off', rfl, -, hcell'⟩ := rd hr' hb2 k hlt2
          have E1 := Lib.hid (take_eq_succ xs ys k hlt hlt2 ha2)
          have E2 := Lib.hid (winF_at ha2 hlt hlt2)
          clear hr hr' ha2 hv0 hu0
          generalize xs.getD k 0 = x at *
          generalize ys.getD k 0 = y at *
          by_cases hxy : x = y
          · have E3 := Lib.hid (E1.out hxy)
            clear E1 E2
            subst hxy
            go_wp2_with fail
            go_quiet (fail)
            go_wp2
            go_roundw
            case rel => exact ⟨k+1, by omega, by go_num, E3.out, hb2.drewN _⟩
            case measure => simp [intOf]; omega
          · have e1 := Lib.hid (E2.out hxy)
            have hxy' : (x != y) = true := by simpa using hxy
            clear hxy E1 E2
            by_cases hx0 : 0 ≤ x
            · have dx : decide (x ≥ 0) = true := by simpa using hx0
              by_cases h0 : 0 ≤ y
              · have d2 : decide (y ≥ 0) = true := by simpa using h0
                by_cases h1 : y < x
                · have d3 : decide (x > y) = true := by simpa using h1
                  have e2 : Hid (above xs ys = true) := by show _ = _; rw [E.out, e1.out]; simp [h0, h1]
                  clear e1
                  go_wp2_with fail
                  go_quiet (fail)
                  go_wp2
                  go_quiet (fail)
                  go_wp2
                  go_ret
                  exact ⟨by rw [e2.out]; rfl, (hb2.drewN _).drewN _⟩
                · have d3 : decide (x > y) = false := by simp; omega
                  have e2 : Hid (above xs ys = false) := by show _ = _; rw [E.out, e1.out]; simp [h1]
                  clear e1
                  go_wp2_with fail
                  go_quiet (fail)
                  go_wp2
                  go_quiet (fail)
                  go_wp2
                  go_ret
                  exact ⟨by rw [e2.out]; rfl, (hb2.drewN _).drewN _⟩
              · have d2 : decide (y ≥ 0) = false := by simp; omega
                have e2 : Hid (above xs ys = false) := by show _ = _; rw [E.out, e1.out]; simp [h0]
                clear e1
                go_wp2_with fail
                go_quiet (fail)
                go_wp2
                go_quiet (fail)
                go_wp2
                go_ret
                exact ⟨by rw [e2.out]; rfl, (hb2.drewN _).drewN _⟩
            · have dx : decide (x ≥ 0) = false := by simp; omega
              have e2 : Hid (above xs ys = false) := by show _ = _; rw [E.out, e1.out]; simp; omega
              clear e1
              go_wp2_with fail
              go_quiet (fail)
              go_wp2
              go_quiet (fail)
              go_wp2
              go_ret
              exact ⟨by rw [e2.out]; rfl, (hb2.drewN _).drewN _⟩
        · have e1 : Hid (above xs ys = false) := by
            show _ = _
            rw [List.take_of_length_le (by omega), List.take_of_length_le (by rw [← HL.out]; omega)] at ha2
            rw [E.out, ha2, winF_irrefl]
          clear ha2
          go_wp2_with fail
          go_ret
          exact ⟨by rw [e1.out]; rfl, hb2⟩
    · have E : Hid (above xs ys = true) := by show _ = _; rw [above_iff]; exact ⟨covers_iff.1 hc, .inl hl⟩
      have d0 : decide (xs.length < ys.length) = false := by simp; omega
      have d1 : decide (ys.length < xs.length) = true := by simp; omega
      clear hc hr hr'
      go_enter Tryz.func129, Tryz.ntmps129
      go_wp2_with fail
      refine HC.out.mono ?_; rintro e w1 ⟨rfl, hb1⟩
      go_wp2_with fail
      go_ret
      exact ⟨by rw [E.out]; rfl, hb1⟩
theorem l3Greater_v (l h l' h' : Nat) (v u : Value) (xs ys : List Int) (q : Bool) (w : World) (he : above xs ys = q) (ha : xs.length ≤ 1048576) (hb : ys.length ≤ 1048576) (hlb : lowT ys) (hv : SlI l h w v xs) (hu : SlI l' h' w u ys) :
    Calls Tryz.prog 129 #[v, u] w (RetV w (.bool q)) := he ▸ l3Greater_c l h l' h' v u xs ys w ha hb hlb hv hu
end Go.Proofs.YteegjnobmbcjiaaGreatDoor
end
section
/- CompareLists, IsFalling: the program's inner functions. -/
namespace Go.Proofs.YteegjnobmbcjiaaGreatDoor
open Go.RowKit

theorem RowV.at2 {W wr : World} {ad : Option Addr} {n c : Nat} {xss : List (List Int)} (h : RowV W wr (.slice ad n c) xss) (k : Nat) (hk : k < xss.length) :
    ∃ g ap cp, ad = some ⟨g, 0, none⟩ ∧ W.heap.size ≤ g ∧ wr.cell? ⟨g, k, none⟩ = some (.slice ap (xss.getD k []).length cp) ∧ SlI 0 W.heap.size W (.slice ap (xss.getD k []).length cp) (xss.getD k []) := by
  obtain ⟨g, z, h1, h2, h3, h4⟩ := h.at k hk
  obtain ⟨x, y, hf⟩ := h4.form
  rw [hf] at h3 h4
  exact ⟨g, x, y, h1, h2, h3, h4⟩
theorem minus_short {a b : List (List Int)} (h : short a) : short (minus a b) := by
  refine ⟨Nat.le_trans (minus_len a b) h.1, fun j hj => ?_⟩
  have hm : (minus a b).getD j [] ∈ a := minus_sub (b := b) (by simp [List.getD, hj])
  obtain ⟨i, hi, e⟩ := List.getElem_of_mem hm
  have := h.2 i hi
  rwa [show a.getD i [] = a[i] from by simp [List.getD, hi], e] at this
/-- All elements low. -/
def lowL (l : List (List Int)) : Prop := ∀ j, j < l.length → lowT (l.getD j [])
theorem minus_low {a b : List (List Int)} (h : lowL a) : lowL (minus a b) := fun j hj => by
  have hm : (minus a b).getD j [] ∈ a := minus_sub (b := b) (by simp [List.getD, hj])
  obtain ⟨i, hi, e⟩ := List.getElem_of_mem hm
  have := h i hi
  rwa [show a.getD i [] = a[i] from by simp [List.getD, hi], e] at this

set_option maxRecDepth 100000 in
set_option maxHeartbeats 400000 in
theorem without_c (l h l' h' : Nat) (v u : Value) (a b : List (List Int)) (w : World) (ha : short a) (hb : short b) (hv : SlS l h w v a) (hu : SlS l' h' w u b) :
    Calls Tryz.prog 124 #[v, u] w (RetRow w (minus a b)) := by
  obtain ⟨ad', cap', rfl⟩ := hu.form
  obtain ⟨hbl, hbm⟩ := hb
  have HA := Lib.hid ha
  have hal := ha.1
  clear ha
  go_enter Tryz.func124, Tryz.ntmps124
  go_wp2_with fail
  refine (cloneS_c _ _ _ a w hal hv).mono ?_; rintro e w1 ⟨g, n, c, rfl, hR, hb1⟩
  go_wp2_with fail
  go_loopw [5, 14] (fun lv i wr => ∃ k : Nat, k ≤ b.length ∧ i = .int .i64 k ∧ RowV w wr lv (minus a (b.take k)) ∧ Bel w wr) (fun _ i _ => b.length - (intOf i).toNat)
  case atStart => exact ⟨0, Nat.zero_le _, rfl, hR, hb1⟩
  case round =>
    clear hR hb1
    obtain ⟨k, hk, rfl, hR, hb1⟩ := hrel
    by_cases hlt : k < b.length
    · obtain ⟨bb, off, p, rfl, -, hc, hp⟩ := hu.at hb1 k hlt
      have hpm := hbm k hlt
      have HM := Lib.hid (minus_take a b k hlt)
      have HS := Lib.hid (minus_short (b := b.take k) HA.out)
      have hxl : (minus a (b.take k)).length ≤ 1048576 := HS.out.1
      clear hu hv hbm
      generalize b.getD k [] = t at *
      generalize minus a (b.take k) = X at *
      obtain ⟨ax, cx, rfl⟩ := hR.form
      obtain ⟨ap, cp, rfl⟩ := hp.form
      obtain ⟨wo, rfl⟩ : ∃ wo, wo = wr := ⟨wr, rfl⟩
      go_wp2_with fail
      go_loopw [5, 20] (fun lv i wr => ∃ j : Nat, lv = .slice ax X.length cx ∧ j ≤ X.length ∧ i = .int .i64 j ∧ t ∉ X.take j ∧ Bel wo wr) (fun _ i _ => X.length - (intOf i).toNat)
      case atStart => exact ⟨0, rfl, Nat.zero_le _, rfl, by simp, Bel.rfl' _⟩
      case round =>
        obtain ⟨j, rfl, hj, rfl, hn, hb2⟩ := hrel
        by_cases hjl : j < X.length
        · have hR2 := hR.bel hb2
          obtain ⟨gx, az, cz, rfl, hgx, hcell, hz⟩ := hR2.at2 j hjl
          have hzl := HS.out.2 j hjl
          have hz2 := hz.below (hb1.step hb2)
          have HN := Lib.hid (And.intro (fun h => erase_at (t := t) hjl hn h) (fun h => not_take (t := t) hjl hn h))
          have HR := Lib.hid (And.intro hR2 (hb1.step hb2))
          have hp2 := hp.below hb2
          clear hn hR hR2 hz hp hc
          generalize X.getD j [] = y at *
          by_cases he : y = t
          · have HE := Lib.hid (fun (w' : World) (hq : Bel wr w') => slEqual_v _ _ _ _ _ _ t y true w' (by simpa using he.symm) hpm hzl (hp2.below hq) (hz2.below hq))
            have E := Lib.hid (HN.out.1 he)
            clear HN he
            go_wp2_with fail
            refine (HE.out _ (Bel.rfl' _)).mono ?_; rintro e w3 ⟨rfl, hb3⟩
            go_wp2_with fail
            refine (deleteS_c w w3 _ _ _ j X hjl hxl (HR.out.2.step hb3) (HR.out.1.bel hb3)).mono ?_; rintro e w4 ⟨g4, n4, c4, rfl, hR4, hb4⟩
            go_wp2_with fail
            go_roundw
            case rel => exact ⟨k+1, by omega, by go_num, by rw [HM.out, E.out]; exact hR4, hb4⟩
            case measure => simp [intOf]; omega
          · have HE := Lib.hid (fun (w' : World) (hq : Bel wr w') => slEqual_v _ _ _ _ _ _ t y false w' (by simpa using fun h => he h.symm) hpm hzl (hp2.below hq) (hz2.below hq))
            have E := Lib.hid (HN.out.2 he)
            clear HN he
            go_wp2_with fail
            refine (HE.out _ (Bel.rfl' _)).mono ?_; rintro e w3 ⟨rfl, hb3⟩
            go_wp2_with fail
            go_roundw
            case rel => exact ⟨j+1, rfl, by omega, by go_num, E.out, hb2.step hb3⟩
            case measure => simp [intOf]; omega
        · have E := Lib.hid (erase_none (t := t) hjl hn)
          have hR2 := hR.bel hb2
          clear hn hR
          go_wp2_with fail
          go_roundw
          case rel => exact ⟨k+1, by omega, by go_num, by rw [HM.out, E.out]; exact hR2, hb1.step hb2⟩
          case measure => simp [intOf]; omega
    · rw [List.take_of_length_le (by omega)] at hR
      obtain ⟨ax, cx, rfl⟩ := hR.form
      go_wp2_with fail
      go_ret
      exact ⟨_, _, _, rfl, hR, hb1⟩

theorem domFn_c (l h l' h' g : Nat) (x p : Value) (u t : List Int) (q : Bool) (w : World) (he : above u t = q) (hT : Tab w) (hul : u.length ≤ 1048576) (htl : t.length ≤ 1048576) (hlu : lowT u) (hlt : lowT t) (hc : w.cell? ⟨g, 0, none⟩ = some p) (hx : SlI l h w x u) (hp : SlI l' h' w p t) :
    Calls Tryz.prog 147 #[x, .pointer (some ⟨g, 0, none⟩)] w (RetV w (.bool q)) := by
  obtain ⟨ax, cx, rfl⟩ := hx.form
  obtain ⟨ap, cp, rfl⟩ := hp.form
  go_enter Tryz.func147, Tryz.ntmps147
  go_wp2_with fail
  refine (isAbove_v l h l' h' _ _ u t q w he hT hul htl hlu hlt hx hp).mono ?_; rintro e w1 ⟨rfl, hb1⟩
  go_wp2_with fail
  go_ret
  exact ⟨rfl, hb1⟩

def RetIx (w : World) (q : Bool) (e : Ending) (w' : World) : Prop := ∃ x : Int, e = .returned (.int .i64 x) ∧ decide (0 ≤ x) = q ∧ Bel w w'
set_option maxRecDepth 100000 in
set_option maxHeartbeats 400000 in
theorem indexFn_c (l h l' h' g : Nat) (v p : Value) (a : List (List Int)) (t : List Int) (w : World) (hT : Tab w) (ha : short a) (hla : lowL a) (htl : t.length ≤ 1048576) (hlt : lowT t) (hc : w.cell? ⟨g, 0, none⟩ = some p) (hp : SlI l' h' w p t) (hv : SlS l h w v a) :
    Calls Tryz.prog 160 #[v, .func (.func 147) #[] #[.pointer (some ⟨g, 0, none⟩)]] w (RetIx w (a.any fun u => above u t)) := by
  have eg : ∀ args w, (callFunc 147 args).run Tryz.prog w = .ok (.enter 147 args) w := enters_of Tryz.func147 (by kernel_rfl) rfl
  obtain ⟨ad, cap, rfl⟩ := hv.form
  obtain ⟨hal, ham⟩ := ha
  have hgl := World.block_lt_of_cell? w ⟨g, 0, none⟩ hc
  go_enter Tryz.func160, Tryz.ntmps160
  go_wp2_with fail
  go_loopw [8] (fun i wr => ∃ k : Nat, k ≤ a.length ∧ i = .int .i64 k ∧ ((a.take k).any fun u => above u t) = false ∧ Bel w wr) (fun i _ => a.length - (intOf i).toNat)
  case atStart => exact ⟨0, Nat.zero_le _, rfl, rfl, Bel.rfl' _⟩
  case round =>
    obtain ⟨k, hk, rfl, hn, hb⟩ := hrel
    by_cases hkl : k < a.length
    · obtain ⟨bb, off, z, rfl, -, hcell, hz⟩ := hv.at hb k hkl
      have hzl := ham k hkl
      have hzlow := hla k hkl
      have hc2 := hb.at hgl hc
      have HN := Lib.hid (And.intro (any_take (t := t) hkl hn) (fun h => any_yes (t := t) hkl h))
      clear hn hv ham hla
      generalize a.getD k [] = y at *
      obtain ⟨az, cz, rfl⟩ := hz.form
      cases hab : above y t with
      | true =>
        have HD := Lib.hid (domFn_c _ _ _ _ g _ p y t true wr hab (hT.bel hb) hzl htl hzlow hlt hc2 hz (hp.below hb))
        have E := Lib.hid (HN.out.2 hab)
        clear HN hab
        go_wp2_with (go_at_fn 147; refine HD.out.mono ?_; rintro e w2 ⟨rfl, hb2⟩)
        go_ret
        exact ⟨_, rfl, by rw [E.out]; simp, hb.step hb2⟩
      | false =>
        have HD := Lib.hid (domFn_c _ _ _ _ g _ p y t false wr hab (hT.bel hb) hzl htl hzlow hlt hc2 hz (hp.below hb))
        have E := Lib.hid (HN.out.1.trans hab)
        clear HN hab
        go_wp2_with (go_at_fn 147; refine HD.out.mono ?_; rintro e w2 ⟨rfl, hb2⟩)
        go_roundw
        case rel => exact ⟨k+1, by omega, by go_num, E.out, hb.step hb2⟩
        case measure => simp [intOf]; omega
    · have E := Lib.hid (any_end (t := t) hkl hn)
      clear hn
      go_wp2_with fail
      go_ret
      exact ⟨_, rfl, by rw [E.out]; rfl, hb⟩
theorem containsFn_c (l h l' h' g : Nat) (v p : Value) (a : List (List Int)) (t : List Int) (q : Bool) (w : World) (he : (a.any fun u => above u t) = q) (hT : Tab w) (ha : short a) (hla : lowL a) (htl : t.length ≤ 1048576) (hlt : lowT t) (hc : w.cell? ⟨g, 0, none⟩ = some p) (hp : SlI l' h' w p t) (hv : SlS l h w v a) :
    Calls Tryz.prog 148 #[v, .func (.func 147) #[] #[.pointer (some ⟨g, 0, none⟩)]] w (RetV w (.bool q)) := by
  have HI := Lib.hid (indexFn_c l h l' h' g v p a t w hT ha hla htl hlt hc hp hv)
  rw [he] at HI
  obtain ⟨ad, cap, rfl⟩ := hv.form
  clear he
  go_enter Tryz.func148, Tryz.ntmps148
  go_wp2_with fail
  refine HI.out.mono ?_; rintro e w1 ⟨x, rfl, hx, hb1⟩
  go_wp2_with fail
  go_ret
  subst hx
  exact ⟨rfl, hb1⟩

set_option maxRecDepth 100000 in
set_option maxHeartbeats 400000 in
theorem dominates_v (l h l' h' : Nat) (v u : Value) (a b : List (List Int)) (q : Bool) (w : World) (hd : dom a b = q) (hT : Tab w) (ha : short a) (hla : lowL a) (hb : short b) (hlb : lowL b) (hv : SlS l h w v a) (hu : SlS l' h' w u b) :
    Calls Tryz.prog 125 #[v, u] w (RetV w (.bool q)) := by
  have hmf : ∀ (fn : Fn) (first cap : Array Value) (w : World), (Instr.makeFunc fn first cap).run Tryz.prog w = .ok (.func fn first cap) w := fun _ _ _ _ => rfl
  obtain ⟨ad, cap, rfl⟩ := hv.form
  obtain ⟨ad', cap', rfl⟩ := hu.form
  obtain ⟨hbl, hbm⟩ := hb
  have HD := Lib.hid hd
  clear hd
  go_enter Tryz.func125, Tryz.ntmps125
  go_wp2_with fail
  go_loopw [10] (fun i wr => ∃ k : Nat, k ≤ b.length ∧ i = .int .i64 k ∧ dom a (b.take k) = true ∧ Bel w wr) (fun i _ => b.length - (intOf i).toNat)
  case atStart => exact ⟨0, Nat.zero_le _, rfl, rfl, Bel.rfl' _⟩
  case round =>
    obtain ⟨k, hk, rfl, hn, hb1⟩ := hrel
    by_cases hlt : k < b.length
    · obtain ⟨bb, off, p, rfl, -, hc, hp⟩ := hu.at hb1 k hlt
      have hpl := hbm k hlt
      have hplow := hlb k hlt
      have HN := Lib.hid (And.intro (fun h => dom_no (a := a) hlt h) (fun h => dom_take hlt hn h))
      have hv1 := hv.below hb1
      have hT1 := hT.bel hb1
      clear hn hu hbm hlb hv
      generalize b.getD k [] = t at *
      obtain ⟨ap, cp, rfl⟩ := hp.form
      have hs := Bel.alloc0 wr (.cells #[.slice ap t.length cp] 22)
      have hcc : (wr.alloc (.cells #[.slice ap t.length cp] 22)).cell? ⟨wr.heap.size, 0, none⟩ = some (.slice ap t.length cp) := by rw [World.cell?_alloc_new wr]; rfl
      generalize hq : (a.any fun u => above u t) = r
      have HC := Lib.hid (fun (w' : World) (hq2 : Bel wr w') (hc2 : w'.cell? ⟨wr.heap.size, 0, none⟩ = some (.slice ap t.length cp)) => containsFn_c _ _ _ _ wr.heap.size _ _ a t r w' hq (hT1.bel hq2) ha hla hpl hplow hc2 (hp.below hq2) (hv1.below hq2))
      have HB := Lib.hid hb1
      cases r with
      | false =>
        have E : Hid (q = false) := HD.out.symm.trans (HN.out.1 hq)
        clear hq HN hv1 hp
        go_wp2_with fail
        refine (HC.out _ hs hcc).mono ?_; rintro e w2 ⟨rfl, hb2⟩
        go_wp2_with fail
        go_ret
        exact ⟨by rw [E.out]; rfl, HB.out.step (hs.step hb2)⟩
      | true =>
        have E := Lib.hid (HN.out.2 hq)
        clear hq HN hv1 hp
        go_wp2_with fail
        refine (HC.out _ hs hcc).mono ?_; rintro e w2 ⟨rfl, hb2⟩
        go_wp2_with fail
        go_roundw
        case rel => exact ⟨k+1, by omega, by go_num, E.out, HB.out.step (hs.step hb2)⟩
        case measure => simp [intOf]; omega
    · have E : Hid (q = true) := HD.out.symm.trans (dom_all hlt hn)
      clear hn
      go_wp2_with fail
      go_ret
      exact ⟨by rw [E.out]; rfl, hb1⟩
end Go.Proofs.YteegjnobmbcjiaaGreatDoor
end
section
/- CompareTerms, WeighsMore: both functions. -/
namespace Go.Proofs.YteegjnobmbcjiaaGreatDoor
open Go.RowKit

theorem lowT.good {ar t : List Int} (h : goodTerm ar t = true) : lowT t := low_of_good h

set_option maxRecDepth 100000 in
set_option maxHeartbeats 400000 in
theorem compared_c (l h l' h' : Nat) (v u : Value) (a b : List Int) (w : World) (hT : Tab w) (ha : a.length ≤ 1048576) (hb : b.length ≤ 1048576) (hla : lowT a) (hlb : lowT b) (hv : SlI l h w v a) (hu : SlI l' h' w u b) :
    Calls Tryz.prog 116 #[v, u] w (RetV w (.int .i64 (cmpT a b))) := by
  by_cases hab : a = b
  · have E := Lib.hid (cmpT_zero.2 hab)
    have HE := Lib.hid (slEqual_v l h l' h' v u a b true w (by simpa using hab) ha hb hv hu)
    clear hab
    go_enter Tryz.func116, Tryz.ntmps116
    go_wp2_with fail
    refine HE.out.mono ?_; rintro e w1 ⟨rfl, hb1⟩
    go_wp2_with fail
    go_ret
    exact ⟨by rw [E.out]; rfl, hb1⟩
  · have HE := Lib.hid (slEqual_v l h l' h' v u a b false w (by simpa using hab) ha hb hv hu)
    cases h1 : above a b with
    | true =>
      have E := Lib.hid (cmpT_one.2 h1)
      have HA := Lib.hid (fun (w' : World) (hq : Bel w w') => isAbove_v l h l' h' v u a b true w' h1 (hT.bel hq) ha hb hla hlb (hv.below hq) (hu.below hq))
      clear hab h1
      go_enter Tryz.func116, Tryz.ntmps116
      go_wp2_with fail
      refine HE.out.mono ?_; rintro e w1 ⟨rfl, hb1⟩
      go_wp2_with fail
      refine (HA.out _ hb1).mono ?_; rintro e w2 ⟨rfl, hb2⟩
      go_wp2_with fail
      go_ret
      exact ⟨by rw [E.out]; rfl, hb1.step hb2⟩
    | false =>
      have HA := Lib.hid (fun (w' : World) (hq : Bel w w') => isAbove_v l h l' h' v u a b false w' h1 (hT.bel hq) ha hb hla hlb (hv.below hq) (hu.below hq))
      generalize h2 : above b a = q
      have HB := Lib.hid (fun (w' : World) (hq : Bel w w') => isAbove_v l' h' l h u v b a q w' h2 (hT.bel hq) hb ha hlb hla (hu.below hq) (hv.below hq))
      have E : Hid (cmpT a b = if q then -1 else 2) := by show _ = _; unfold cmpT; rw [if_neg hab, h1, h2]; rfl
      clear hab h1 h2
      cases q
      all_goals
        go_enter Tryz.func116, Tryz.ntmps116
        go_wp2_with fail
        refine HE.out.mono ?_; rintro e w1 ⟨rfl, hb1⟩
        go_wp2_with fail
        refine (HA.out _ hb1).mono ?_; rintro e w2 ⟨rfl, hb2⟩
        go_wp2_with fail
        refine (HB.out _ (hb1.step hb2)).mono ?_; rintro e w3 ⟨rfl, hb3⟩
        go_wp2_with fail
        go_ret
        exact ⟨by rw [E.out]; rfl, (hb1.step hb2).step hb3⟩

set_option maxRecDepth 100000 in
set_option maxHeartbeats 400000 in
theorem l3Compare_c (l h l' h' : Nat) (v u : Value) (a b : List Int) (w : World) (ha : a.length ≤ 1048576) (hb : b.length ≤ 1048576) (hla : lowT a) (hlb : lowT b) (hv : SlI l h w v a) (hu : SlI l' h' w u b) :
    Calls Tryz.prog 107 #[v, u] w (RetV w (.int .i64 (cmpT a b))) := by
  by_cases hab : a = b
  · have E := Lib.hid (cmpT_zero.2 hab)
    have HE := Lib.hid (l1Same_v l h l' h' v u a b true w (by simpa using hab) ha hb hv hu)
    clear hab
    go_enter Tryz.func107, Tryz.ntmps107
    go_wp2_with fail
    refine HE.out.mono ?_; rintro e w1 ⟨rfl, hb1⟩
    go_wp2_with fail
    go_ret
    exact ⟨by rw [E.out]; rfl, hb1⟩
  · have HE := Lib.hid (l1Same_v l h l' h' v u a b false w (by simpa using hab) ha hb hv hu)
    cases h1 : above a b with
    | true =>
      have E := Lib.hid (cmpT_one.2 h1)
      have HA := Lib.hid (fun (w' : World) (hq : Bel w w') => l3Greater_v l h l' h' v u a b true w' h1 ha hb hlb (hv.below hq) (hu.below hq))
      clear hab h1
      go_enter Tryz.func107, Tryz.ntmps107
      go_wp2_with fail
      refine HE.out.mono ?_; rintro e w1 ⟨rfl, hb1⟩
      go_wp2_with fail
      refine (HA.out _ hb1).mono ?_; rintro e w2 ⟨rfl, hb2⟩
      go_wp2_with fail
      go_ret
      exact ⟨by rw [E.out]; rfl, hb1.step hb2⟩
    | false =>
      have HA := Lib.hid (fun (w' : World) (hq : Bel w w') => l3Greater_v l h l' h' v u a b false w' h1 ha hb hlb (hv.below hq) (hu.below hq))
      generalize h2 : above b a = q
      have HB := Lib.hid (fun (w' : World) (hq : Bel w w') => l3Greater_v l' h' l h u v b a q w' h2 hb ha hla (hu.below hq) (hv.below hq))
      have E : Hid (cmpT a b = if q then -1 else 2) := by show _ = _; unfold cmpT; rw [if_neg hab, h1, h2]; rfl
      clear hab h1 h2
      cases q
      all_goals
        go_enter Tryz.func107, Tryz.ntmps107
        go_wp2_with fail
        refine HE.out.mono ?_; rintro e w1 ⟨rfl, hb1⟩
        go_wp2_with fail
        refine (HA.out _ hb1).mono ?_; rintro e w2 ⟨rfl, hb2⟩
        go_wp2_with fail
        refine (HB.out _ (hb1.step hb2)).mono ?_; rintro e w3 ⟨rfl, hb3⟩
        go_wp2_with fail
        go_ret
        exact ⟨by rw [E.out]; rfl, (hb1.step hb2).step hb3⟩

def cmpOk (ar a b : List Int) : Bool := goodTerm ar a && goodTerm ar b
theorem cmpOk_iff {ar a b : List Int} : cmpOk ar a b = true ↔ goodTerm ar a = true ∧ goodTerm ar b = true := by simp [cmpOk]
theorem cmpOk_swap (ar a b : List Int) : cmpOk ar a b = cmpOk ar b a := Bool.and_comm _ _
def cmpAns (ar a b : List Int) : Int := if cmpOk ar a b then cmpT a b else 0
def weiAns (ar a b : List Int) : Bool := cmpOk ar a b && (covers a b && decide (b.length < a.length))
theorem cmp_no {ar a b : List Int} (h : cmpOk ar a b = false) : cmpAns ar a b = 0 := by simp [cmpAns, h]
theorem cmp_yes {ar a b : List Int} (h : cmpOk ar a b = true) : cmpAns ar a b = cmpT a b := by simp [cmpAns, h]
theorem wei_no {ar a b : List Int} (h : cmpOk ar a b = false) : weiAns ar a b = false := by simp [weiAns, h]
theorem wei_yes {ar a b : List Int} (h : cmpOk ar a b = true) : weiAns ar a b = (covers a b && decide (b.length < a.length)) := by simp [weiAns, h]

end Go.Proofs.YteegjnobmbcjiaaGreatDoor
end
section
/- CompareLists, IsFalling: the program's. -/
namespace Go.Proofs.YteegjnobmbcjiaaGreatDoor
open Go.RowKit

theorem goodTerms_low {ar : List Int} {b : List (List Int)} {m : Nat} (h : goodTerms ar b m = true) : lowL b := fun j hj => okTerm_low (goodTerms_get h j hj)

set_option maxRecDepth 100000 in
set_option maxHeartbeats 800000 in
theorem comparedLists_c (l h l' h' : Nat) (v u : Value) (a b : List (List Int)) (w : World) (hT : Tab w) (ha : short a) (hla : lowL a) (hb : short b) (hlb : lowL b) (hv : SlS l h w v a) (hu : SlS l' h' w u b) :
    Calls Tryz.prog 84 #[v, u] w (RetV w (.int .i64 (cmpL a b))) := by
  obtain ⟨ad, cap, rfl⟩ := hv.form
  obtain ⟨ad', cap', rfl⟩ := hu.form
  have H1 := Lib.hid (without_c l h l' h' _ _ a b w ha hb hv hu)
  have H2 := Lib.hid (fun (w' : World) (hq : Bel w w') => without_c l' h' l h _ _ b a w' hb ha (hu.below hq) (hv.below hq))
  have hsx := minus_short (b := b) ha
  have hsy := minus_short (b := a) hb
  have hlx := minus_low (b := b) hla
  have hly := minus_low (b := a) hlb
  have E0 := Lib.hid (fun h1 h2 => cmpL_0 (a := a) (b := b) h1 h2)
  have E1 := Lib.hid (fun h0 h1 => cmpL_1 (a := a) (b := b) h0 h1)
  have Em := Lib.hid (fun h0 h1 h2 => cmpL_m (a := a) (b := b) h0 h1 h2)
  have E2 := Lib.hid (fun h0 h1 h2 => cmpL_2 (a := a) (b := b) h0 h1 h2)
  generalize cmpL a b = z at *
  generalize minus a b = X at *
  generalize minus b a = Y at *
  by_cases hx0 : X.length = 0
  · have d1 : ((X.length : Int) == 0) = true := by simpa using hx0
    by_cases hy0 : Y.length = 0
    · have d2 : ((Y.length : Int) == 0) = true := by simpa using hy0
      have E : Hid (z = 0) := E0.out (List.length_eq_zero_iff.1 hx0) (List.length_eq_zero_iff.1 hy0)
      clear hx0 hy0 E0 E1 Em E2
      go_enter Tryz.func84, Tryz.ntmps84
      go_wp2_with fail
      refine H1.out.mono ?_; rintro e w1 ⟨g1, n1, c1, rfl, hX, hb1⟩
      obtain ⟨_, _, ef⟩ := hX.form
      simp only [Value.slice.injEq] at ef
      obtain ⟨rfl, rfl, rfl⟩ := ef
      go_wp2_with fail
      refine (H2.out _ hb1).mono ?_; rintro e w2 ⟨g2, n2, c2, rfl, hY, hb2⟩
      obtain ⟨_, _, ef⟩ := hY.form
      simp only [Value.slice.injEq] at ef
      obtain ⟨rfl, rfl, rfl⟩ := ef
      have hX2 := (hX.sls hb1).below hb2
      have hY2 := hY.sls hb2
      have hb12 := hb1.step hb2
      go_wp2_with fail
      go_ret
      exact ⟨by rw [E.out]; rfl, hb12⟩
    · have d2 : ((Y.length : Int) == 0) = false := by simp; exact fun h => hy0 (by rw [h]; rfl)
      have h0 : ¬ (X = [] ∧ Y = []) := fun h => hy0 (by rw [h.2]; rfl)
      clear hx0 hy0
      have h0b : ¬ (Y = [] ∧ X = []) := fun h => h0 ⟨h.2, h.1⟩
      cases hd1 : dom X Y with
      | true =>
        have E : Hid (z = 1) := E1.out h0 hd1
        clear E0 E1 Em E2
        go_enter Tryz.func84, Tryz.ntmps84
        go_wp2_with fail
        refine H1.out.mono ?_; rintro e w1 ⟨g1, n1, c1, rfl, hX, hb1⟩
        obtain ⟨_, _, ef⟩ := hX.form
        simp only [Value.slice.injEq] at ef
        obtain ⟨rfl, rfl, rfl⟩ := ef
        go_wp2_with fail
        refine (H2.out _ hb1).mono ?_; rintro e w2 ⟨g2, n2, c2, rfl, hY, hb2⟩
        obtain ⟨_, _, ef⟩ := hY.form
        simp only [Value.slice.injEq] at ef
        obtain ⟨rfl, rfl, rfl⟩ := ef
        have hX2 := (hX.sls hb1).below hb2
        have hY2 := hY.sls hb2
        have hb12 := hb1.step hb2
        go_wp2_with fail
        refine (dominates_v _ _ _ _ _ _ X Y true _ hd1 (hT.bel hb12) hsx hlx hsy hly hX2 hY2).mono ?_; rintro e w3 ⟨rfl, hb3⟩
        have hbs3 := hb12.step hb3
        replace hX2 := hX2.below hb3
        replace hY2 := hY2.below hb3
        go_wp2_with fail
        go_ret
        exact ⟨by rw [E.out]; rfl, hbs3⟩
      | false =>
        cases hd2 : dom Y X with
        | true =>
          have E : Hid (z = -1) := Em.out h0 hd1 hd2
          clear E0 E1 Em E2
          go_enter Tryz.func84, Tryz.ntmps84
          go_wp2_with fail
          refine H1.out.mono ?_; rintro e w1 ⟨g1, n1, c1, rfl, hX, hb1⟩
          obtain ⟨_, _, ef⟩ := hX.form
          simp only [Value.slice.injEq] at ef
          obtain ⟨rfl, rfl, rfl⟩ := ef
          go_wp2_with fail
          refine (H2.out _ hb1).mono ?_; rintro e w2 ⟨g2, n2, c2, rfl, hY, hb2⟩
          obtain ⟨_, _, ef⟩ := hY.form
          simp only [Value.slice.injEq] at ef
          obtain ⟨rfl, rfl, rfl⟩ := ef
          have hX2 := (hX.sls hb1).below hb2
          have hY2 := hY.sls hb2
          have hb12 := hb1.step hb2
          go_wp2_with fail
          refine (dominates_v _ _ _ _ _ _ X Y false _ hd1 (hT.bel hb12) hsx hlx hsy hly hX2 hY2).mono ?_; rintro e w3 ⟨rfl, hb3⟩
          have hbs3 := hb12.step hb3
          replace hX2 := hX2.below hb3
          replace hY2 := hY2.below hb3
          go_wp2_with fail
          refine (dominates_v _ _ _ _ _ _ Y X true _ hd2 (hT.bel hbs3) hsy hly hsx hlx hY2 hX2).mono ?_; rintro e w4 ⟨rfl, hb4⟩
          have hbs4 := hbs3.step hb4
          replace hX2 := hX2.below hb4
          replace hY2 := hY2.below hb4
          go_wp2_with fail
          go_ret
          exact ⟨by rw [E.out]; rfl, hbs4⟩
        | false =>
          have E : Hid (z = 2) := E2.out h0 hd1 hd2
          clear E0 E1 Em E2
          go_enter Tryz.func84, Tryz.ntmps84
          go_wp2_with fail
          refine H1.out.mono ?_; rintro e w1 ⟨g1, n1, c1, rfl, hX, hb1⟩
          obtain ⟨_, _, ef⟩ := hX.form
          simp only [Value.slice.injEq] at ef
          obtain ⟨rfl, rfl, rfl⟩ := ef
          go_wp2_with fail
          refine (H2.out _ hb1).mono ?_; rintro e w2 ⟨g2, n2, c2, rfl, hY, hb2⟩
          obtain ⟨_, _, ef⟩ := hY.form
          simp only [Value.slice.injEq] at ef
          obtain ⟨rfl, rfl, rfl⟩ := ef
          have hX2 := (hX.sls hb1).below hb2
          have hY2 := hY.sls hb2
          have hb12 := hb1.step hb2
          go_wp2_with fail
          refine (dominates_v _ _ _ _ _ _ X Y false _ hd1 (hT.bel hb12) hsx hlx hsy hly hX2 hY2).mono ?_; rintro e w3 ⟨rfl, hb3⟩
          have hbs3 := hb12.step hb3
          replace hX2 := hX2.below hb3
          replace hY2 := hY2.below hb3
          go_wp2_with fail
          refine (dominates_v _ _ _ _ _ _ Y X false _ hd2 (hT.bel hbs3) hsy hly hsx hlx hY2 hX2).mono ?_; rintro e w4 ⟨rfl, hb4⟩
          have hbs4 := hbs3.step hb4
          replace hX2 := hX2.below hb4
          replace hY2 := hY2.below hb4
          go_wp2_with fail
          go_ret
          exact ⟨by rw [E.out]; rfl, hbs4⟩
  · have d1 : ((X.length : Int) == 0) = false := by simp; exact fun h => hx0 (by rw [h]; rfl)
    have h0 : ¬ (X = [] ∧ Y = []) := fun h => hx0 (by rw [h.1]; rfl)
    clear hx0
    have h0b : ¬ (Y = [] ∧ X = []) := fun h => h0 ⟨h.2, h.1⟩
    cases hd1 : dom X Y with
    | true =>
      have E : Hid (z = 1) := E1.out h0 hd1
      clear E0 E1 Em E2
      go_enter Tryz.func84, Tryz.ntmps84
      go_wp2_with fail
      refine H1.out.mono ?_; rintro e w1 ⟨g1, n1, c1, rfl, hX, hb1⟩
      obtain ⟨_, _, ef⟩ := hX.form
      simp only [Value.slice.injEq] at ef
      obtain ⟨rfl, rfl, rfl⟩ := ef
      go_wp2_with fail
      refine (H2.out _ hb1).mono ?_; rintro e w2 ⟨g2, n2, c2, rfl, hY, hb2⟩
      obtain ⟨_, _, ef⟩ := hY.form
      simp only [Value.slice.injEq] at ef
      obtain ⟨rfl, rfl, rfl⟩ := ef
      have hX2 := (hX.sls hb1).below hb2
      have hY2 := hY.sls hb2
      have hb12 := hb1.step hb2
      go_wp2_with fail
      refine (dominates_v _ _ _ _ _ _ X Y true _ hd1 (hT.bel hb12) hsx hlx hsy hly hX2 hY2).mono ?_; rintro e w3 ⟨rfl, hb3⟩
      have hbs3 := hb12.step hb3
      replace hX2 := hX2.below hb3
      replace hY2 := hY2.below hb3
      go_wp2_with fail
      go_ret
      exact ⟨by rw [E.out]; rfl, hbs3⟩
    | false =>
      cases hd2 : dom Y X with
      | true =>
        have E : Hid (z = -1) := Em.out h0 hd1 hd2
        clear E0 E1 Em E2
        go_enter Tryz.func84, Tryz.ntmps84
        go_wp2_with fail
        refine H1.out.mono ?_; rintro e w1 ⟨g1, n1, c1, rfl, hX, hb1⟩
        obtain ⟨_, _, ef⟩ := hX.form
        simp only [Value.slice.injEq] at ef
        obtain ⟨rfl, rfl, rfl⟩ := ef
        go_wp2_with fail
        refine (H2.out _ hb1).mono ?_; rintro e w2 ⟨g2, n2, c2, rfl, hY, hb2⟩
        obtain ⟨_, _, ef⟩ := hY.form
        simp only [Value.slice.injEq] at ef
        obtain ⟨rfl, rfl, rfl⟩ := ef
        have hX2 := (hX.sls hb1).below hb2
        have hY2 := hY.sls hb2
        have hb12 := hb1.step hb2
        go_wp2_with fail
        refine (dominates_v _ _ _ _ _ _ X Y false _ hd1 (hT.bel hb12) hsx hlx hsy hly hX2 hY2).mono ?_; rintro e w3 ⟨rfl, hb3⟩
        have hbs3 := hb12.step hb3
        replace hX2 := hX2.below hb3
        replace hY2 := hY2.below hb3
        go_wp2_with fail
        refine (dominates_v _ _ _ _ _ _ Y X true _ hd2 (hT.bel hbs3) hsy hly hsx hlx hY2 hX2).mono ?_; rintro e w4 ⟨rfl, hb4⟩
        have hbs4 := hbs3.step hb4
        replace hX2 := hX2.below hb4
        replace hY2 := hY2.below hb4
        go_wp2_with fail
        go_ret
        exact ⟨by rw [E.out]; rfl, hbs4⟩
      | false =>
        have E : Hid (z = 2) := E2.out h0 hd1 hd2
        clear E0 E1 Em E2
        go_enter Tryz.func84, Tryz.ntmps84
        go_wp2_with fail
        refine H1.out.mono ?_; rintro e w1 ⟨g1, n1, c1, rfl, hX, hb1⟩
        obtain ⟨_, _, ef⟩ := hX.form
        simp only [Value.slice.injEq] at ef
        obtain ⟨rfl, rfl, rfl⟩ := ef
        go_wp2_with fail
        refine (H2.out _ hb1).mono ?_; rintro e w2 ⟨g2, n2, c2, rfl, hY, hb2⟩
        obtain ⟨_, _, ef⟩ := hY.form
        simp only [Value.slice.injEq] at ef
        obtain ⟨rfl, rfl, rfl⟩ := ef
        have hX2 := (hX.sls hb1).below hb2
        have hY2 := hY.sls hb2
        have hb12 := hb1.step hb2
        go_wp2_with fail
        refine (dominates_v _ _ _ _ _ _ X Y false _ hd1 (hT.bel hb12) hsx hlx hsy hly hX2 hY2).mono ?_; rintro e w3 ⟨rfl, hb3⟩
        have hbs3 := hb12.step hb3
        replace hX2 := hX2.below hb3
        replace hY2 := hY2.below hb3
        go_wp2_with fail
        refine (dominates_v _ _ _ _ _ _ Y X false _ hd2 (hT.bel hbs3) hsy hly hsx hlx hY2 hX2).mono ?_; rintro e w4 ⟨rfl, hb4⟩
        have hbs4 := hbs3.step hb4
        replace hX2 := hX2.below hb4
        replace hY2 := hY2.below hb4
        go_wp2_with fail
        go_ret
        exact ⟨by rw [E.out]; rfl, hbs4⟩

end Go.Proofs.YteegjnobmbcjiaaGreatDoor
end
section
/- CompareLists, IsFalling: the reference's. -/
namespace Go.Proofs.YteegjnobmbcjiaaGreatDoor
open Go.RowKit

theorem goodTermsS_low {ar : List Int} {b : List (List Int)} {m : Nat} (h : goodTerms ar b m = true) : lowL b := fun j hj => okTerm_low (goodTerms_get h j hj)
theorem OwnT.rowV {W wr : World} {tag : Nat → Nat} {t : Nat} {v : Value} {zs : List SV} {xss : List (List Int)} (h : OwnT W.heap.size tag t 22 wr v (zs.map encS)) (he : Els W zs xss) : RowV W wr v xss :=
  ⟨zs, by simpa using h.1, he⟩
theorem short_erase {l : List (List Int)} {i : Nat} (h : short l) (hi : i < l.length) : short (l.eraseIdx i) := by
  refine ⟨by rw [List.length_eraseIdx_of_lt hi]; have := h.1; omega, fun j hj => ?_⟩
  rw [List.length_eraseIdx_of_lt hi] at hj
  by_cases e : j < i
  · rw [show (l.eraseIdx i).getD j [] = l.getD j [] from by simp [List.getD, List.getElem?_eraseIdx, e]]; exact h.2 j (by omega)
  · rw [show (l.eraseIdx i).getD j [] = l.getD (j+1) [] from by simp [List.getD, List.getElem?_eraseIdx, e]]; exact h.2 (j+1) (by omega)
theorem RowV.capn {W wr : World} {ad : Option Addr} {n c : Nat} {xss : List (List Int)} (h : RowV W wr (.slice ad n c) xss) (hb : Bel W wr) : n = xss.length ∧ n ≤ c ∧ c ≤ 9223372036854775807 := by
  obtain ⟨ad', c', e, h1, h2, -⟩ := h.sls hb
  simp only [Value.slice.injEq] at e
  obtain ⟨rfl, rfl, rfl⟩ := e
  exact ⟨rfl, h1, h2.1⟩
/-- The cells of a row, from the k-th on. -/
theorem row_cells {W wr : World} {g n c : Nat} {zs : List SV} (h : wr.ownsRow W.heap.size 22 1 (.slice (some ⟨g, 0, none⟩) n c) zs.length (zs.map encS)) (k : Nat) :
    ∀ j u, ((zs.drop k).map encS)[j]? = some u → wr.cell? ((⟨g, k, none⟩ : Addr).add j) = some u := by
  intro j u hj
  have hlt := (List.getElem?_eq_some_iff.1 hj).1
  simp at hlt
  obtain rfl := row_len h
  rw [addr_add, h.cellAt (k + j) (by omega)]
  rw [List.getElem?_map, List.getElem?_drop] at hj
  rw [List.getElem?_map]; exact hj
theorem row_cells0 {W wr : World} {g n c : Nat} {zs : List SV} (h : wr.ownsRow W.heap.size 22 1 (.slice (some ⟨g, 0, none⟩) n c) zs.length (zs.map encS)) (i : Nat) :
    ∀ j u, ((zs.take i).map encS)[j]? = some u → wr.cell? ((⟨g, 0, none⟩ : Addr).add j) = some u := by
  intro j u hj
  refine row_cells h 0 j u ?_
  rw [List.drop_zero]
  rw [List.getElem?_map, List.getElem?_take] at hj
  rw [List.getElem?_map]
  split at hj
  · exact hj
  · simp at hj
/-- The reference's search from the front: none, or the last found. -/
def lastAt (left : List (List Int)) (t : List Int) (j : Nat) (av : Value) : Prop := (av = .int .i64 (-1) ∧ t ∉ left.take j) ∨ ∃ i : Nat, i < j ∧ av = .int .i64 i ∧ left.getD i [] = t
theorem lastAt.no {left : List (List Int)} {t : List Int} {j : Nat} {av : Value} (h : lastAt left t j av) (hj : j < left.length) (he : left.getD j [] ≠ t) : lastAt left t (j+1) av := by
  rcases h with ⟨h1, h2⟩ | ⟨i, h1, h2, h3⟩
  · exact .inl ⟨h1, not_take hj h2 he⟩
  · exact .inr ⟨i, by omega, h2, h3⟩
theorem lastAt.yes {left : List (List Int)} {t : List Int} {j : Nat} (he : left.getD j [] = t) : lastAt left t (j+1) (.int .i64 (j : Int)) := .inr ⟨j, by omega, rfl, he⟩
theorem lastAt.done {left : List (List Int)} {t : List Int} {j : Nat} {av : Value} (h : lastAt left t j av) (hj : ¬ j < left.length) (hj2 : j ≤ left.length) : (av = .int .i64 (-1) ∧ t ∉ left) ∨ ∃ i : Nat, i < left.length ∧ av = .int .i64 i ∧ left.getD i [] = t := by
  obtain rfl : j = left.length := by omega
  rcases h with ⟨h1, h2⟩ | h
  · rw [List.take_length] at h2; exact .inl ⟨h1, h2⟩
  · exact .inr h

set_option maxRecDepth 100000 in
set_option maxHeartbeats 1000000 in
theorem l3Left_c (l h l' h' : Nat) (v u : Value) (a b : List (List Int)) (w : World) (ha : short a) (hb : short b) (hv : SlS l h w v a) (hu : SlS l' h' w u b) :
    Calls Tryz.prog 91 #[v, u] w (RetRow w (minus a b)) := by
  obtain ⟨i1, hi1, hy0, hy1, hy2⟩ := info_parts Tryz.info22
  obtain ⟨av, cv, rfl⟩ := hv.form
  obtain ⟨hal, ham⟩ := ha
  have hbl := hb.1
  have hown : (w.alloc (.cells #[] 22)).ownsRow w.heap.size 22 1 (.slice (some ⟨w.heap.size, 0, none⟩) 0 0) ([] : List SV).length (([] : List SV).map encS) :=
    World.ownsRow_lit w #[] 0 (Nat.le_refl _) (Nat.zero_le _) rfl
  obtain ⟨ub, uc, rfl⟩ := hu.form
  have hu0 := hu
  obtain ⟨zb, hEb, hcell⟩ := hu.vals
  cases ub with
  | none =>
    obtain ⟨ad', cap', e, -, hm, hr⟩ := hu0
    simp only [Value.slice.injEq] at e
    obtain ⟨rfl, -, rfl⟩ := e
    obtain rfl : b = [] := by
      rcases Nat.eq_zero_or_pos b.length with h0 | h0
      · exact List.length_eq_zero_iff.1 h0
      · obtain ⟨_, _, e, _⟩ := hr h0; simp at e
    obtain rfl : uc = 0 := hm.2 rfl
    obtain rfl : zb = [] := List.length_eq_zero_iff.1 hEb.1
    clear hr hm hcell hu
    go_enter Tryz.func91, Tryz.ntmps91
    go_wp2_with (at_builtin; refine wpList_append_own_none rfl _ _ 56 rfl w.heap.size 22 i1 1 Tryz.underlying56 hi1 _ _ _ rfl hown rfl ?_)
    go_wp2_with fail
    have hb1 := Bel.alloc0 w (.cells #[] 22)
    have hL : OwnT w.heap.size (fun _ => 0) 0 22 (w.alloc (.cells #[] 22)) (.slice (some ⟨w.heap.size, 0, none⟩) 0 0) (([] : List SV).map encS) := ⟨hown, fun _ _ => rfl⟩
    go_loopw [5, 6, 18] (fun lv ov i wr => ∃ (k : Nat) (tag : Nat → Nat) (zl zo : List SV) (left out : List (List Int)), k ≤ a.length ∧ i = .int .i64 k ∧ OwnT w.heap.size tag 0 22 wr lv (zl.map encS) ∧ Els w zl left ∧ OwnT w.heap.size tag 1 22 wr ov (zo.map encS) ∧ Els w zo out ∧ minus a [] = out ++ minus (a.drop k) left ∧ short left ∧ out.length ≤ k ∧ Bel w wr) (fun _ _ i _ => a.length - (intOf i).toNat)
    case atStart => exact ⟨0, _, [], [], [], [], Nat.zero_le _, rfl, hL, (Els.nil w), OwnT.nil _ _ _ _ _, Els.nil _, by simp, hb, Nat.zero_le _, hb1⟩
    case round =>
      clear hL hb1
      obtain ⟨k, tag, zl, zo, left, out, hk, rfl, hL, hEl, hO, hEo, hmin, hsl, hol, hb1⟩ := hrel
      by_cases hlt : k < a.length
      · obtain ⟨bb, off, p, rfl, hbb, hc0, hp⟩ := hv.at (Bel.rfl' w) k hlt
        have hc := hb1.at hbb hc0
        have htl := ham k hlt
        have HLO := Lib.hid (And.intro (fun i hi he => left_in (i := i) hmin hlt hi he) (fun hn => left_out hmin hlt hn))
        clear hv ham hmin hc0
        generalize a.getD k [] = t at *
        obtain ⟨ap, cp, rfl⟩ := hp.form
        have hpW := hp.in'
        clear hp
        obtain ⟨ag, an, ac, rfl⟩ := own_form hL.1
        obtain ⟨hn1, hn2, hn3⟩ := (hL.rowV hEl).capn hb1
        subst hn1
        have hln := hsl.1
        have HV := Lib.hid (hL.rowV hEl)
        have HSL := Lib.hid hsl
        clear hsl
        have HE := Lib.hid (fun (w' : World) (hq : Bel wr w') (y : List Int) (q : Bool) (l2 h2 : Nat) (yv : Value) (he : decide (t = y) = q) (hyl : y.length ≤ 1048576) (hy : SlI l2 h2 w' yv y) => l1Same_v _ _ _ _ _ _ t y q w' he htl hyl ((hpW.below hb1).below hq) hy)
        obtain ⟨wo, rfl⟩ : ∃ wo, wo = wr := ⟨wr, rfl⟩
        go_wp2_with fail
        go_loopw [9, 24] (fun av i wr => ∃ j : Nat, j ≤ left.length ∧ i = .int .i64 j ∧ lastAt left t j av ∧ Bel wo wr) (fun _ i _ => left.length - (intOf i).toNat)
        case atStart => exact ⟨0, Nat.zero_le _, rfl, .inl ⟨rfl, by simp⟩, Bel.rfl' _⟩
        case round =>
          obtain ⟨j, hj, rfl, hla, hb2⟩ := hrel
          by_cases hjl : j < left.length
          · obtain ⟨gx, az, cz, rfl, hgx, hcell, hz⟩ := (HV.out.bel hb2).at2 j hjl
            have hzl := HSL.out.2 j hjl
            have hz2 := hz.below (hb1.step hb2)
            have HN := Lib.hid (And.intro (fun h => hla.no hjl h) (fun h => lastAt.yes (j := j) (left := left) (t := t) h))
            clear hla hz
            generalize left.getD j [] = y at *
            by_cases he : y = t
            · have HF := Lib.hid (HE.out wr hb2 y true _ _ _ (by simpa using he.symm) hzl hz2)
              have E := Lib.hid (HN.out.2 he)
              clear HN he hz2
              go_wp2_with fail
              refine HF.out.mono ?_; rintro e w3 ⟨rfl, hb3⟩
              go_wp2_with fail
              go_roundw
              case rel => exact ⟨j+1, by omega, by go_num, E.out, hb2.step hb3⟩
              case measure => simp [intOf]; omega
            · have HF := Lib.hid (HE.out wr hb2 y false _ _ _ (by simpa using fun h => he h.symm) hzl hz2)
              have E := Lib.hid (HN.out.1 he)
              clear HN he hz2
              go_wp2_with fail
              refine HF.out.mono ?_; rintro e w3 ⟨rfl, hb3⟩
              go_wp2_with fail
              go_roundw
              case rel => exact ⟨j+1, by omega, by go_num, E.out, hb2.step hb3⟩
              case measure => simp [intOf]; omega
          · have hbn := hb1.step hb2
            replace hL := hL.bel hb2
            replace hO := hO.bel hb2
            rcases hla.done hjl hj with ⟨rfl, hnot⟩ | ⟨i, hi, rfl, hit⟩
            · have E := Lib.hid (HLO.out.2 hnot)
              have hzo := hEo.1
              clear hnot hla HE HV
              go_wp2_with (at_builtin; refine wpList_append_own_at _ rfl _ _ 56 rfl w.heap.size 22 i1 (.slice none 0 0) 1 24 Tryz.underlying56 hi1 hy0 hy1 hy2 rfl (by decide) _ _ _ rfl (hO.alloc _).1 _ _ _ [.slice ap t.length cp] rfl rfl (news_oneV _ _ _) (one_slice _ _ _) (by unfold maxLen; simp <;> omega) (by simp <;> omega) (by have := hbn.size; simp; omega) ?_; intro v' w4 hown' hgrow _ hat)
              obtain ⟨tag3, hO3, hT3⟩ := tag_snocV (hO.alloc _) hown' hgrow hat
              have hL3 := hT3 _ _ _ _ (by omega) (hL.alloc _)
              have hb3 := hbn.grownT hO (Nat.le_refl _) hgrow
              go_roundw
              case rel => exact ⟨k+1, tag3, zl, zo ++ [(ap, t.length, cp)], left, out ++ [t], by omega, by go_num, hL3, hEl, by simpa [encS] using hO3, hEo.snoc hpW, E.out, HSL.out, by simp; omega, hb3⟩
              case measure => simp [intOf]; omega
            · obtain ⟨gx, az, cz, rfl, hgx, hcell, hz⟩ := (HV.out.bel hb2).at2 i hi
              have E := Lib.hid (HLO.out.1 i hi hit)
              have hzl := hEl.1
              have hE2 := hEl.erase i hi
              have HS2 := Lib.hid (short_erase HSL.out hi)
              have hown0 : (wr.alloc (.cells #[] 22)).ownsRow wr.heap.size 22 1 (.slice (some ⟨wr.heap.size, 0, none⟩) 0 0) ([] : List SV).length (([] : List SV).map encS) :=
                World.ownsRow_lit wr #[] 0 (Nat.le_refl _) (Nat.zero_le _) rfl
              have hLr : wr.ownsRow w.heap.size 22 1 (.slice (some ⟨gx, 0, none⟩) left.length ac) zl.length (zl.map encS) := by simpa using hL.1
              have hb0 := Bel.alloc0 wr (.cells #[] 22)
              have hn0 := row_cells0 (ownsRow_bel hLr hb0) i
              have hi1' : (i : Int) ≤ ac := by omega
              have hi0' : (0 : Int) ≤ i := by omega
              have hi2' : (i : Int) + 1 ≤ left.length := by omega
              have hi3' : (left.length : Int) ≤ ac := by omega
              have hi4' : (0 : Int) ≤ (i : Int) + 1 := by omega
              have hw9 := IntWalk.i64_in ((i : Int) + 1) (by omega)
              have hti : (zl.take i).length = i := by rw [List.length_take]; omega
              have hne : decide ((i : Int) < 0) = false := by simp
              have hey : zl.eraseIdx i = zl.take i ++ zl.drop (i+1) := List.eraseIdx_eq_take_drop_succ ..
              clear hla hcell hz hit HE HV
              by_cases hcap : i + 1 = ac
              · have hl1 : left.length = i + 1 := by omega
                have hzd : zl.drop (i+1) = [] := List.drop_eq_nil_of_le (by omega)
                have hcap' : (i : Int) + 1 = ac := by omega
                go_wp2_with (first | (at_builtin; refine wpList_append_own_at _ rfl (.tmp 45) (.tmp 49) 56 rfl wr.heap.size 22 i1 (.slice none 0 0) 1 24 Tryz.underlying56 hi1 hy0 hy1 hy2 rfl (by decide) _ _ _ rfl hown5 ⟨gx, 0, none⟩ _ _ [] rfl (by simp <;> omega) (by simp) (by simp) (by unfold maxLen; omega) (by omega) hb4.size ?_; intro v6 w6 hown6 hgrow6 _ hat6) | (at_builtin; refine wpList_append_own_at _ rfl (.tmp 40) (.tmp 43) 56 rfl wr.heap.size 22 i1 (.slice none 0 0) 1 24 Tryz.underlying56 hi1 hy0 hy1 hy2 rfl (by decide) _ _ _ rfl hown0 ⟨gx, 0, none⟩ i ac ((zl.take i).map encS) rfl (by rw [List.length_map, hti, Nat.mul_one]) hn0 (encS_one _) (by rw [List.length_nil]; unfold maxLen; omega) (by rw [List.length_nil]; omega) hb0.size ?_; intro v4 w4 hown4 hgrow4 _ hat4; have hb4 := hb0.grown hgrow4 (fun k hk => own_base hown0 k hk); have hown5 : w4.ownsRow wr.heap.size 22 1 v4 i ((zl.take i).map encS) := (by simpa using hown4); have hn4 := row_cells (ownsRow_bel hLr hb4) (i + 1)))
                clear hown4 hgrow4 hat4 hn0 hLr
                have hb6 := hb4.grown hgrow6 (fun k hk => own_base hown5 k hk)
                have hown7 : w6.ownsRow wr.heap.size 22 1 v6 ((zl.eraseIdx i).map encS).length ((zl.eraseIdx i).map encS) := by
                  rw [hey, hzd, List.append_nil, List.length_map, hti]; simpa using hown6
                obtain ⟨tag6, hL6, hT6⟩ := tag_new (tag := tag) 0 hown7 hb6 hbn.size
                have hO6 := hT6 _ _ _ _ hO
                go_roundw
                case rel => exact ⟨k+1, tag6, zl.eraseIdx i, zo, left.eraseIdx i, out, by omega, by go_num, hL6, hE2, hO6, hEo, E.out, HS2.out, by omega, hbn.step hb6⟩
                case measure => simp [intOf]; omega
              · have hcap' : (i : Int) + 1 < ac := by omega
                have hdl : (zl.drop (i+1)).length = left.length - (i+1) := by rw [List.length_drop, hzl]
                go_wp2_with (first | (at_builtin; refine wpList_append_own_at _ rfl (.tmp 45) (.tmp 49) 56 rfl wr.heap.size 22 i1 (.slice none 0 0) 1 24 Tryz.underlying56 hi1 hy0 hy1 hy2 rfl (by decide) _ _ _ rfl hown5 ⟨gx, i + 1, none⟩ _ _ ((zl.drop (i+1)).map encS) rfl (by simp <;> omega) hn4 (encS_one _) (by unfold maxLen; omega) (by omega) hb4.size ?_; intro v6 w6 hown6 hgrow6 _ hat6) | (at_builtin; refine wpList_append_own_at _ rfl (.tmp 40) (.tmp 43) 56 rfl wr.heap.size 22 i1 (.slice none 0 0) 1 24 Tryz.underlying56 hi1 hy0 hy1 hy2 rfl (by decide) _ _ _ rfl hown0 ⟨gx, 0, none⟩ i ac ((zl.take i).map encS) rfl (by rw [List.length_map, hti, Nat.mul_one]) hn0 (encS_one _) (by rw [List.length_nil]; unfold maxLen; omega) (by rw [List.length_nil]; omega) hb0.size ?_; intro v4 w4 hown4 hgrow4 _ hat4; have hb4 := hb0.grown hgrow4 (fun k hk => own_base hown0 k hk); have hown5 : w4.ownsRow wr.heap.size 22 1 v4 i ((zl.take i).map encS) := (by simpa using hown4); have hn4 := row_cells (ownsRow_bel hLr hb4) (i + 1)))
                clear hown4 hgrow4 hat4 hn0 hLr
                have hb6 := hb4.grown hgrow6 (fun k hk => own_base hown5 k hk)
                have hown7 : w6.ownsRow wr.heap.size 22 1 v6 ((zl.eraseIdx i).map encS).length ((zl.eraseIdx i).map encS) := by
                  rw [hey, List.length_map, List.length_append, hti, hdl]; simpa using hown6
                obtain ⟨tag6, hL6, hT6⟩ := tag_new (tag := tag) 0 hown7 hb6 hbn.size
                have hO6 := hT6 _ _ _ _ hO
                go_roundw
                case rel => exact ⟨k+1, tag6, zl.eraseIdx i, zo, left.eraseIdx i, out, by omega, by go_num, hL6, hE2, hO6, hEo, E.out, HS2.out, by omega, hbn.step hb6⟩
                case measure => simp [intOf]; omega
      · have E := Lib.hid (left_end hmin hlt)
        clear hmin
        obtain ⟨ao, no, co, rfl⟩ := own_form hO.1
        go_wp2_with fail
        go_ret
        exact ⟨_, _, _, rfl, by rw [E.out]; exact hO.rowV hEo, hb1⟩
  | some ad =>
    have hn : ∀ j u, (zb.map encS)[j]? = some u → (w.alloc (.cells #[] 22)).cell? (ad.add j) = some u := fun j u hj => by
      have h1 := hcell ad rfl j u hj
      have h2 := World.block_lt_of_cell? w (ad.add j) h1
      exact ((Bel.alloc0 w (.cells #[] 22)).cell h2).trans h1
    have hzl := hEb.1
    clear hcell hu hu0
    go_enter Tryz.func91, Tryz.ntmps91
    go_wp2_with (at_builtin; refine wpList_append_own _ rfl _ _ 56 rfl w.heap.size 22 i1 (.slice none 0 0) 1 24 Tryz.underlying56 hi1 hy0 hy1 hy2 rfl (by decide) _ _ _ rfl hown ad b.length uc (zb.map encS) rfl (by simp [hzl]) hn (encS_one _) (by unfold maxLen; simp; omega) (by simp; omega) (by simp) ?_; intro v' w1 hown' hgrow _)
    have hb1 := (Bel.alloc0 w (.cells #[] 22)).grown hgrow (fun k hk => own_base hown k hk)
    have hL : OwnT w.heap.size (fun _ => 0) 0 22 w1 v' (zb.map encS) := ⟨by simpa [hzl] using hown', fun _ _ => rfl⟩
    go_wp2_with fail
    go_loopw [5, 6, 18] (fun lv ov i wr => ∃ (k : Nat) (tag : Nat → Nat) (zl zo : List SV) (left out : List (List Int)), k ≤ a.length ∧ i = .int .i64 k ∧ OwnT w.heap.size tag 0 22 wr lv (zl.map encS) ∧ Els w zl left ∧ OwnT w.heap.size tag 1 22 wr ov (zo.map encS) ∧ Els w zo out ∧ minus a b = out ++ minus (a.drop k) left ∧ short left ∧ out.length ≤ k ∧ Bel w wr) (fun _ _ i _ => a.length - (intOf i).toNat)
    case atStart => exact ⟨0, _, zb, [], b, [], Nat.zero_le _, rfl, hL, hEb, OwnT.nil _ _ _ _ _, Els.nil _, by simp, hb, Nat.zero_le _, hb1⟩
    case round =>
      clear hL hEb hb1
      obtain ⟨k, tag, zl, zo, left, out, hk, rfl, hL, hEl, hO, hEo, hmin, hsl, hol, hb1⟩ := hrel
      by_cases hlt : k < a.length
      · obtain ⟨bb, off, p, rfl, hbb, hc0, hp⟩ := hv.at (Bel.rfl' w) k hlt
        have hc := hb1.at hbb hc0
        have htl := ham k hlt
        have HLO := Lib.hid (And.intro (fun i hi he => left_in (i := i) hmin hlt hi he) (fun hn => left_out hmin hlt hn))
        clear hv ham hmin hc0
        generalize a.getD k [] = t at *
        obtain ⟨ap, cp, rfl⟩ := hp.form
        have hpW := hp.in'
        clear hp
        obtain ⟨ag, an, ac, rfl⟩ := own_form hL.1
        obtain ⟨hn1, hn2, hn3⟩ := (hL.rowV hEl).capn hb1
        subst hn1
        have hln := hsl.1
        have HV := Lib.hid (hL.rowV hEl)
        have HSL := Lib.hid hsl
        clear hsl
        have HE := Lib.hid (fun (w' : World) (hq : Bel wr w') (y : List Int) (q : Bool) (l2 h2 : Nat) (yv : Value) (he : decide (t = y) = q) (hyl : y.length ≤ 1048576) (hy : SlI l2 h2 w' yv y) => l1Same_v _ _ _ _ _ _ t y q w' he htl hyl ((hpW.below hb1).below hq) hy)
        obtain ⟨wo, rfl⟩ : ∃ wo, wo = wr := ⟨wr, rfl⟩
        go_wp2_with fail
        go_loopw [9, 24] (fun av i wr => ∃ j : Nat, j ≤ left.length ∧ i = .int .i64 j ∧ lastAt left t j av ∧ Bel wo wr) (fun _ i _ => left.length - (intOf i).toNat)
        case atStart => exact ⟨0, Nat.zero_le _, rfl, .inl ⟨rfl, by simp⟩, Bel.rfl' _⟩
        case round =>
          obtain ⟨j, hj, rfl, hla, hb2⟩ := hrel
          by_cases hjl : j < left.length
          · obtain ⟨gx, az, cz, rfl, hgx, hcell, hz⟩ := (HV.out.bel hb2).at2 j hjl
            have hzl := HSL.out.2 j hjl
            have hz2 := hz.below (hb1.step hb2)
            have HN := Lib.hid (And.intro (fun h => hla.no hjl h) (fun h => lastAt.yes (j := j) (left := left) (t := t) h))
            clear hla hz
            generalize left.getD j [] = y at *
            by_cases he : y = t
            · have HF := Lib.hid (HE.out wr hb2 y true _ _ _ (by simpa using he.symm) hzl hz2)
              have E := Lib.hid (HN.out.2 he)
              clear HN he hz2
              go_wp2_with fail
              refine HF.out.mono ?_; rintro e w3 ⟨rfl, hb3⟩
              go_wp2_with fail
              go_roundw
              case rel => exact ⟨j+1, by omega, by go_num, E.out, hb2.step hb3⟩
              case measure => simp [intOf]; omega
            · have HF := Lib.hid (HE.out wr hb2 y false _ _ _ (by simpa using fun h => he h.symm) hzl hz2)
              have E := Lib.hid (HN.out.1 he)
              clear HN he hz2
              go_wp2_with fail
              refine HF.out.mono ?_; rintro e w3 ⟨rfl, hb3⟩
              go_wp2_with fail
              go_roundw
              case rel => exact ⟨j+1, by omega, by go_num, E.out, hb2.step hb3⟩
              case measure => simp [intOf]; omega
          · have hbn := hb1.step hb2
            replace hL := hL.bel hb2
            replace hO := hO.bel hb2
            rcases hla.done hjl hj with ⟨rfl, hnot⟩ | ⟨i, hi, rfl, hit⟩
            · have E := Lib.hid (HLO.out.2 hnot)
              have hzo := hEo.1
              clear hnot hla HE HV
              go_wp2_with (at_builtin; refine wpList_append_own_at _ rfl _ _ 56 rfl w.heap.size 22 i1 (.slice none 0 0) 1 24 Tryz.underlying56 hi1 hy0 hy1 hy2 rfl (by decide) _ _ _ rfl (hO.alloc _).1 _ _ _ [.slice ap t.length cp] rfl rfl (news_oneV _ _ _) (one_slice _ _ _) (by unfold maxLen; simp <;> omega) (by simp <;> omega) (by have := hbn.size; simp; omega) ?_; intro v' w4 hown' hgrow _ hat)
              obtain ⟨tag3, hO3, hT3⟩ := tag_snocV (hO.alloc _) hown' hgrow hat
              have hL3 := hT3 _ _ _ _ (by omega) (hL.alloc _)
              have hb3 := hbn.grownT hO (Nat.le_refl _) hgrow
              go_roundw
              case rel => exact ⟨k+1, tag3, zl, zo ++ [(ap, t.length, cp)], left, out ++ [t], by omega, by go_num, hL3, hEl, by simpa [encS] using hO3, hEo.snoc hpW, E.out, HSL.out, by simp; omega, hb3⟩
              case measure => simp [intOf]; omega
            · obtain ⟨gx, az, cz, rfl, hgx, hcell, hz⟩ := (HV.out.bel hb2).at2 i hi
              have E := Lib.hid (HLO.out.1 i hi hit)
              have hzl := hEl.1
              have hE2 := hEl.erase i hi
              have HS2 := Lib.hid (short_erase HSL.out hi)
              have hown0 : (wr.alloc (.cells #[] 22)).ownsRow wr.heap.size 22 1 (.slice (some ⟨wr.heap.size, 0, none⟩) 0 0) ([] : List SV).length (([] : List SV).map encS) :=
                World.ownsRow_lit wr #[] 0 (Nat.le_refl _) (Nat.zero_le _) rfl
              have hLr : wr.ownsRow w.heap.size 22 1 (.slice (some ⟨gx, 0, none⟩) left.length ac) zl.length (zl.map encS) := by simpa using hL.1
              have hb0 := Bel.alloc0 wr (.cells #[] 22)
              have hn0 := row_cells0 (ownsRow_bel hLr hb0) i
              have hi1' : (i : Int) ≤ ac := by omega
              have hi0' : (0 : Int) ≤ i := by omega
              have hi2' : (i : Int) + 1 ≤ left.length := by omega
              have hi3' : (left.length : Int) ≤ ac := by omega
              have hi4' : (0 : Int) ≤ (i : Int) + 1 := by omega
              have hw9 := IntWalk.i64_in ((i : Int) + 1) (by omega)
              have hti : (zl.take i).length = i := by rw [List.length_take]; omega
              have hne : decide ((i : Int) < 0) = false := by simp
              have hey : zl.eraseIdx i = zl.take i ++ zl.drop (i+1) := List.eraseIdx_eq_take_drop_succ ..
              clear hla hcell hz hit HE HV
              by_cases hcap : i + 1 = ac
              · have hl1 : left.length = i + 1 := by omega
                have hzd : zl.drop (i+1) = [] := List.drop_eq_nil_of_le (by omega)
                have hcap' : (i : Int) + 1 = ac := by omega
                go_wp2_with (first | (at_builtin; refine wpList_append_own_at _ rfl (.tmp 45) (.tmp 49) 56 rfl wr.heap.size 22 i1 (.slice none 0 0) 1 24 Tryz.underlying56 hi1 hy0 hy1 hy2 rfl (by decide) _ _ _ rfl hown5 ⟨gx, 0, none⟩ _ _ [] rfl (by simp <;> omega) (by simp) (by simp) (by unfold maxLen; omega) (by omega) hb4.size ?_; intro v6 w6 hown6 hgrow6 _ hat6) | (at_builtin; refine wpList_append_own_at _ rfl (.tmp 40) (.tmp 43) 56 rfl wr.heap.size 22 i1 (.slice none 0 0) 1 24 Tryz.underlying56 hi1 hy0 hy1 hy2 rfl (by decide) _ _ _ rfl hown0 ⟨gx, 0, none⟩ i ac ((zl.take i).map encS) rfl (by rw [List.length_map, hti, Nat.mul_one]) hn0 (encS_one _) (by rw [List.length_nil]; unfold maxLen; omega) (by rw [List.length_nil]; omega) hb0.size ?_; intro v4 w4 hown4 hgrow4 _ hat4; have hb4 := hb0.grown hgrow4 (fun k hk => own_base hown0 k hk); have hown5 : w4.ownsRow wr.heap.size 22 1 v4 i ((zl.take i).map encS) := (by simpa using hown4); have hn4 := row_cells (ownsRow_bel hLr hb4) (i + 1)))
                clear hown4 hgrow4 hat4 hn0 hLr
                have hb6 := hb4.grown hgrow6 (fun k hk => own_base hown5 k hk)
                have hown7 : w6.ownsRow wr.heap.size 22 1 v6 ((zl.eraseIdx i).map encS).length ((zl.eraseIdx i).map encS) := by
                  rw [hey, hzd, List.append_nil, List.length_map, hti]; simpa using hown6
                obtain ⟨tag6, hL6, hT6⟩ := tag_new (tag := tag) 0 hown7 hb6 hbn.size
                have hO6 := hT6 _ _ _ _ hO
                go_roundw
                case rel => exact ⟨k+1, tag6, zl.eraseIdx i, zo, left.eraseIdx i, out, by omega, by go_num, hL6, hE2, hO6, hEo, E.out, HS2.out, by omega, hbn.step hb6⟩
                case measure => simp [intOf]; omega
              · have hcap' : (i : Int) + 1 < ac := by omega
                have hdl : (zl.drop (i+1)).length = left.length - (i+1) := by rw [List.length_drop, hzl]
                go_wp2_with (first | (at_builtin; refine wpList_append_own_at _ rfl (.tmp 45) (.tmp 49) 56 rfl wr.heap.size 22 i1 (.slice none 0 0) 1 24 Tryz.underlying56 hi1 hy0 hy1 hy2 rfl (by decide) _ _ _ rfl hown5 ⟨gx, i + 1, none⟩ _ _ ((zl.drop (i+1)).map encS) rfl (by simp <;> omega) hn4 (encS_one _) (by unfold maxLen; omega) (by omega) hb4.size ?_; intro v6 w6 hown6 hgrow6 _ hat6) | (at_builtin; refine wpList_append_own_at _ rfl (.tmp 40) (.tmp 43) 56 rfl wr.heap.size 22 i1 (.slice none 0 0) 1 24 Tryz.underlying56 hi1 hy0 hy1 hy2 rfl (by decide) _ _ _ rfl hown0 ⟨gx, 0, none⟩ i ac ((zl.take i).map encS) rfl (by rw [List.length_map, hti, Nat.mul_one]) hn0 (encS_one _) (by rw [List.length_nil]; unfold maxLen; omega) (by rw [List.length_nil]; omega) hb0.size ?_; intro v4 w4 hown4 hgrow4 _ hat4; have hb4 := hb0.grown hgrow4 (fun k hk => own_base hown0 k hk); have hown5 : w4.ownsRow wr.heap.size 22 1 v4 i ((zl.take i).map encS) := (by simpa using hown4); have hn4 := row_cells (ownsRow_bel hLr hb4) (i + 1)))
                clear hown4 hgrow4 hat4 hn0 hLr
                have hb6 := hb4.grown hgrow6 (fun k hk => own_base hown5 k hk)
                have hown7 : w6.ownsRow wr.heap.size 22 1 v6 ((zl.eraseIdx i).map encS).length ((zl.eraseIdx i).map encS) := by
                  rw [hey, List.length_map, List.length_append, hti, hdl]; simpa using hown6
                obtain ⟨tag6, hL6, hT6⟩ := tag_new (tag := tag) 0 hown7 hb6 hbn.size
                have hO6 := hT6 _ _ _ _ hO
                go_roundw
                case rel => exact ⟨k+1, tag6, zl.eraseIdx i, zo, left.eraseIdx i, out, by omega, by go_num, hL6, hE2, hO6, hEo, E.out, HS2.out, by omega, hbn.step hb6⟩
                case measure => simp [intOf]; omega
      · have E := Lib.hid (left_end hmin hlt)
        clear hmin
        obtain ⟨ao, no, co, rfl⟩ := own_form hO.1
        go_wp2_with fail
        go_ret
        exact ⟨_, _, _, rfl, by rw [E.out]; exact hO.rowV hEo, hb1⟩
end Go.Proofs.YteegjnobmbcjiaaGreatDoor
end
section
/- CompareLists, IsFalling: the reference's. -/
namespace Go.Proofs.YteegjnobmbcjiaaGreatDoor
open Go.RowKit

theorem any_upto {a : List (List Int)} {t : List Int} {i : Nat} (hi : i < a.length) : ((a.take (i+1)).any fun u => above u t) = (((a.take i).any fun u => above u t) || above (a.getD i []) t) := by
  rw [take_snoc a i [] hi, List.any_append]; simp
set_option maxRecDepth 100000 in
set_option maxHeartbeats 400000 in
theorem l3Over_v (l h l' h' : Nat) (v u : Value) (a b : List (List Int)) (q : Bool) (w : World) (hd : dom a b = q) (hne : q = true → 0 < a.length) (ha : short a) (_ : lowL a) (hb : short b) (hlb : lowL b) (hv : SlS l h w v a) (hu : SlS l' h' w u b) :
    Calls Tryz.prog 92 #[v, u] w (RetV w (.bool q)) := by
  obtain ⟨ad, cap, rfl⟩ := hv.form
  obtain ⟨ad', cap', rfl⟩ := hu.form
  obtain ⟨hbl, hbm⟩ := hb
  obtain ⟨hal, ham⟩ := ha
  have HD := Lib.hid (And.intro hd hne)
  clear hd hne
  go_enter Tryz.func92, Tryz.ntmps92
  go_wp2_with fail
  go_loopw [12] (fun i wr => ∃ k : Nat, k ≤ b.length ∧ i = .int .i64 k ∧ dom a (b.take k) = true ∧ Bel w wr) (fun i _ => b.length - (intOf i).toNat)
  case atStart => exact ⟨0, Nat.zero_le _, rfl, rfl, Bel.rfl' _⟩
  case round =>
    obtain ⟨k, hk, rfl, hn, hb1⟩ := hrel
    by_cases hlt : k < b.length
    · obtain ⟨bb, off, p, rfl, -, hc, hp⟩ := hu.at hb1 k hlt
      have hpl := hbm k hlt
      have hplow := hlb k hlt
      have HN := Lib.hid (And.intro (fun h => dom_no (a := a) hlt h) (fun h => dom_take hlt hn h))
      have hv1 := hv.below hb1
      clear hn hu hbm hlb hv
      generalize b.getD k [] = t at *
      obtain ⟨ap, cp, rfl⟩ := hp.form
      obtain ⟨wo, rfl⟩ : ∃ wo, wo = wr := ⟨wr, rfl⟩
      go_wp2_with fail
      go_loopw [7, 18] (fun ov i wr => ∃ j : Nat, j ≤ a.length ∧ i = .int .i64 j ∧ ov = .bool ((a.take j).any fun u => above u t) ∧ Bel wo wr) (fun _ i _ => a.length - (intOf i).toNat)
      case atStart => exact ⟨0, Nat.zero_le _, rfl, rfl, Bel.rfl' _⟩
      case round =>
        obtain ⟨j, hj, rfl, rfl, hb2⟩ := hrel
        by_cases hjl : j < a.length
        · obtain ⟨bx, ox, z, rfl, -, hcell, hz⟩ := hv1.at hb2 j hjl
          have hzl := ham j hjl
          have HU := Lib.hid (any_upto (t := t) hjl)
          have hp2 := hp.below hb2
          clear hv1 ham hp
          generalize a.getD j [] = y at *
          obtain ⟨az, cz, rfl⟩ := hz.form
          cases ho : ((a.take j).any fun u => above u t) with
          | true =>
            have E : Hid (((a.take (j+1)).any fun u => above u t) = true) := by show _ = _; rw [HU.out, ho]; rfl
            clear HU ho
            go_wp2_with fail
            go_roundw
            case rel => exact ⟨j+1, by omega, by go_num, by rw [E.out], hb2⟩
            case measure => simp [intOf]; omega
          | false =>
            generalize hq : above y t = r
            have E : Hid (((a.take (j+1)).any fun u => above u t) = r) := by show _ = _; rw [HU.out, ho, hq]; rfl
            have HC := Lib.hid (l3Greater_v _ _ _ _ _ _ y t r wr hq hzl hpl hplow hz hp2)
            clear HU ho hq
            go_wp2_with fail
            refine HC.out.mono ?_; rintro e w3 ⟨rfl, hb3⟩
            go_wp2_with fail
            go_roundw
            case rel => exact ⟨j+1, by omega, by go_num, by rw [E.out], hb2.step hb3⟩
            case measure => simp [intOf]; omega
        · cases hq : ((a.take j).any fun u => above u t) with
          | false =>
            have E : Hid (q = false) := HD.out.1.symm.trans (HN.out.1 (any_end hjl hq))
            clear HN
            go_wp2_with fail
            go_ret
            exact ⟨by rw [E.out]; rfl, hb1.step hb2⟩
          | true =>
            have E := Lib.hid (HN.out.2 (any_end hjl hq))
            clear HN
            go_wp2_with fail
            go_roundw
            case rel => exact ⟨k+1, by omega, by go_num, E.out, hb1.step hb2⟩
            case measure => simp [intOf]; omega
    · have E : Hid (q = true) := HD.out.1.symm.trans (dom_all hlt hn)
      have hpos : decide (0 < a.length) = true := by have := HD.out.2 E.out; simpa using this
      clear hn
      go_wp2_with fail
      go_ret
      exact ⟨by rw [E.out]; first | rfl | exact congrArg (fun x => Ending.returned (Value.bool x)) hpos, hb1⟩

set_option maxRecDepth 100000 in
set_option maxHeartbeats 800000 in
theorem l3Lists_c (l h l' h' : Nat) (v u : Value) (a b : List (List Int)) (w : World) (ha : short a) (hla : lowL a) (hb : short b) (hlb : lowL b) (hv : SlS l h w v a) (hu : SlS l' h' w u b) :
    Calls Tryz.prog 53 #[v, u] w (RetV w (.int .i64 (cmpL a b))) := by
  obtain ⟨ad, cap, rfl⟩ := hv.form
  obtain ⟨ad', cap', rfl⟩ := hu.form
  have H1 := Lib.hid (l3Left_c l h l' h' _ _ a b w ha hb hv hu)
  have H2 := Lib.hid (fun (w' : World) (hq : Bel w w') => l3Left_c l' h' l h _ _ b a w' hb ha (hu.below hq) (hv.below hq))
  have hsx := minus_short (b := b) ha
  have hsy := minus_short (b := a) hb
  have hlx := minus_low (b := b) hla
  have hly := minus_low (b := a) hlb
  have E0 := Lib.hid (fun h1 h2 => cmpL_0 (a := a) (b := b) h1 h2)
  have E1 := Lib.hid (fun h0 h1 => cmpL_1 (a := a) (b := b) h0 h1)
  have Em := Lib.hid (fun h0 h1 h2 => cmpL_m (a := a) (b := b) h0 h1 h2)
  have E2 := Lib.hid (fun h0 h1 h2 => cmpL_2 (a := a) (b := b) h0 h1 h2)
  generalize cmpL a b = z at *
  generalize minus a b = X at *
  generalize minus b a = Y at *
  by_cases hx0 : X.length = 0
  · have d1 : ((X.length : Int) == 0) = true := by simpa using hx0
    by_cases hy0 : Y.length = 0
    · have d2 : ((Y.length : Int) == 0) = true := by simpa using hy0
      have E : Hid (z = 0) := E0.out (List.length_eq_zero_iff.1 hx0) (List.length_eq_zero_iff.1 hy0)
      clear hx0 hy0 E0 E1 Em E2
      go_enter Tryz.func53, Tryz.ntmps53
      go_wp2_with fail
      refine H1.out.mono ?_; rintro e w1 ⟨g1, n1, c1, rfl, hX, hb1⟩
      obtain ⟨_, _, ef⟩ := hX.form
      simp only [Value.slice.injEq] at ef
      obtain ⟨rfl, rfl, rfl⟩ := ef
      go_wp2_with fail
      refine (H2.out _ hb1).mono ?_; rintro e w2 ⟨g2, n2, c2, rfl, hY, hb2⟩
      obtain ⟨_, _, ef⟩ := hY.form
      simp only [Value.slice.injEq] at ef
      obtain ⟨rfl, rfl, rfl⟩ := ef
      have hX2 := (hX.sls hb1).below hb2
      have hY2 := hY.sls hb2
      have hb12 := hb1.step hb2
      go_wp2_with fail
      go_ret
      exact ⟨by rw [E.out]; rfl, hb12⟩
    · have d2 : ((Y.length : Int) == 0) = false := by simp; exact fun h => hy0 (by rw [h]; rfl)
      have h0 : ¬ (X = [] ∧ Y = []) := fun h => hy0 (by rw [h.2]; rfl)
      clear hx0 hy0
      have h0b : ¬ (Y = [] ∧ X = []) := fun h => h0 ⟨h.2, h.1⟩
      cases hd1 : dom X Y with
      | true =>
        have E : Hid (z = 1) := E1.out h0 hd1
        clear E0 E1 Em E2
        go_enter Tryz.func53, Tryz.ntmps53
        go_wp2_with fail
        refine H1.out.mono ?_; rintro e w1 ⟨g1, n1, c1, rfl, hX, hb1⟩
        obtain ⟨_, _, ef⟩ := hX.form
        simp only [Value.slice.injEq] at ef
        obtain ⟨rfl, rfl, rfl⟩ := ef
        go_wp2_with fail
        refine (H2.out _ hb1).mono ?_; rintro e w2 ⟨g2, n2, c2, rfl, hY, hb2⟩
        obtain ⟨_, _, ef⟩ := hY.form
        simp only [Value.slice.injEq] at ef
        obtain ⟨rfl, rfl, rfl⟩ := ef
        have hX2 := (hX.sls hb1).below hb2
        have hY2 := hY.sls hb2
        have hb12 := hb1.step hb2
        go_wp2_with fail
        refine (l3Over_v _ _ _ _ _ _ X Y true _ hd1 (fun _ => dom_some h0 hd1) hsx hlx hsy hly hX2 hY2).mono ?_; rintro e w3 ⟨rfl, hb3⟩
        have hbs3 := hb12.step hb3
        replace hX2 := hX2.below hb3
        replace hY2 := hY2.below hb3
        go_wp2_with fail
        go_ret
        exact ⟨by rw [E.out]; rfl, hbs3⟩
      | false =>
        cases hd2 : dom Y X with
        | true =>
          have E : Hid (z = -1) := Em.out h0 hd1 hd2
          clear E0 E1 Em E2
          go_enter Tryz.func53, Tryz.ntmps53
          go_wp2_with fail
          refine H1.out.mono ?_; rintro e w1 ⟨g1, n1, c1, rfl, hX, hb1⟩
          obtain ⟨_, _, ef⟩ := hX.form
          simp only [Value.slice.injEq] at ef
          obtain ⟨rfl, rfl, rfl⟩ := ef
          go_wp2_with fail
          refine (H2.out _ hb1).mono ?_; rintro e w2 ⟨g2, n2, c2, rfl, hY, hb2⟩
          obtain ⟨_, _, ef⟩ := hY.form
          simp only [Value.slice.injEq] at ef
          obtain ⟨rfl, rfl, rfl⟩ := ef
          have hX2 := (hX.sls hb1).below hb2
          have hY2 := hY.sls hb2
          have hb12 := hb1.step hb2
          go_wp2_with fail
          refine (l3Over_v _ _ _ _ _ _ X Y false _ hd1 ((by simp)) hsx hlx hsy hly hX2 hY2).mono ?_; rintro e w3 ⟨rfl, hb3⟩
          have hbs3 := hb12.step hb3
          replace hX2 := hX2.below hb3
          replace hY2 := hY2.below hb3
          go_wp2_with fail
          refine (l3Over_v _ _ _ _ _ _ Y X true _ hd2 (fun _ => dom_some h0b hd2) hsy hly hsx hlx hY2 hX2).mono ?_; rintro e w4 ⟨rfl, hb4⟩
          have hbs4 := hbs3.step hb4
          replace hX2 := hX2.below hb4
          replace hY2 := hY2.below hb4
          go_wp2_with fail
          go_ret
          exact ⟨by rw [E.out]; rfl, hbs4⟩
        | false =>
          have E : Hid (z = 2) := E2.out h0 hd1 hd2
          clear E0 E1 Em E2
          go_enter Tryz.func53, Tryz.ntmps53
          go_wp2_with fail
          refine H1.out.mono ?_; rintro e w1 ⟨g1, n1, c1, rfl, hX, hb1⟩
          obtain ⟨_, _, ef⟩ := hX.form
          simp only [Value.slice.injEq] at ef
          obtain ⟨rfl, rfl, rfl⟩ := ef
          go_wp2_with fail
          refine (H2.out _ hb1).mono ?_; rintro e w2 ⟨g2, n2, c2, rfl, hY, hb2⟩
          obtain ⟨_, _, ef⟩ := hY.form
          simp only [Value.slice.injEq] at ef
          obtain ⟨rfl, rfl, rfl⟩ := ef
          have hX2 := (hX.sls hb1).below hb2
          have hY2 := hY.sls hb2
          have hb12 := hb1.step hb2
          go_wp2_with fail
          refine (l3Over_v _ _ _ _ _ _ X Y false _ hd1 ((by simp)) hsx hlx hsy hly hX2 hY2).mono ?_; rintro e w3 ⟨rfl, hb3⟩
          have hbs3 := hb12.step hb3
          replace hX2 := hX2.below hb3
          replace hY2 := hY2.below hb3
          go_wp2_with fail
          refine (l3Over_v _ _ _ _ _ _ Y X false _ hd2 ((by simp)) hsy hly hsx hlx hY2 hX2).mono ?_; rintro e w4 ⟨rfl, hb4⟩
          have hbs4 := hbs3.step hb4
          replace hX2 := hX2.below hb4
          replace hY2 := hY2.below hb4
          go_wp2_with fail
          go_ret
          exact ⟨by rw [E.out]; rfl, hbs4⟩
  · have d1 : ((X.length : Int) == 0) = false := by simp; exact fun h => hx0 (by rw [h]; rfl)
    have h0 : ¬ (X = [] ∧ Y = []) := fun h => hx0 (by rw [h.1]; rfl)
    clear hx0
    have h0b : ¬ (Y = [] ∧ X = []) := fun h => h0 ⟨h.2, h.1⟩
    cases hd1 : dom X Y with
    | true =>
      have E : Hid (z = 1) := E1.out h0 hd1
      clear E0 E1 Em E2
      go_enter Tryz.func53, Tryz.ntmps53
      go_wp2_with fail
      refine H1.out.mono ?_; rintro e w1 ⟨g1, n1, c1, rfl, hX, hb1⟩
      obtain ⟨_, _, ef⟩ := hX.form
      simp only [Value.slice.injEq] at ef
      obtain ⟨rfl, rfl, rfl⟩ := ef
      go_wp2_with fail
      refine (H2.out _ hb1).mono ?_; rintro e w2 ⟨g2, n2, c2, rfl, hY, hb2⟩
      obtain ⟨_, _, ef⟩ := hY.form
      simp only [Value.slice.injEq] at ef
      obtain ⟨rfl, rfl, rfl⟩ := ef
      have hX2 := (hX.sls hb1).below hb2
      have hY2 := hY.sls hb2
      have hb12 := hb1.step hb2
      go_wp2_with fail
      refine (l3Over_v _ _ _ _ _ _ X Y true _ hd1 (fun _ => dom_some h0 hd1) hsx hlx hsy hly hX2 hY2).mono ?_; rintro e w3 ⟨rfl, hb3⟩
      have hbs3 := hb12.step hb3
      replace hX2 := hX2.below hb3
      replace hY2 := hY2.below hb3
      go_wp2_with fail
      go_ret
      exact ⟨by rw [E.out]; rfl, hbs3⟩
    | false =>
      cases hd2 : dom Y X with
      | true =>
        have E : Hid (z = -1) := Em.out h0 hd1 hd2
        clear E0 E1 Em E2
        go_enter Tryz.func53, Tryz.ntmps53
        go_wp2_with fail
        refine H1.out.mono ?_; rintro e w1 ⟨g1, n1, c1, rfl, hX, hb1⟩
        obtain ⟨_, _, ef⟩ := hX.form
        simp only [Value.slice.injEq] at ef
        obtain ⟨rfl, rfl, rfl⟩ := ef
        go_wp2_with fail
        refine (H2.out _ hb1).mono ?_; rintro e w2 ⟨g2, n2, c2, rfl, hY, hb2⟩
        obtain ⟨_, _, ef⟩ := hY.form
        simp only [Value.slice.injEq] at ef
        obtain ⟨rfl, rfl, rfl⟩ := ef
        have hX2 := (hX.sls hb1).below hb2
        have hY2 := hY.sls hb2
        have hb12 := hb1.step hb2
        go_wp2_with fail
        refine (l3Over_v _ _ _ _ _ _ X Y false _ hd1 ((by simp)) hsx hlx hsy hly hX2 hY2).mono ?_; rintro e w3 ⟨rfl, hb3⟩
        have hbs3 := hb12.step hb3
        replace hX2 := hX2.below hb3
        replace hY2 := hY2.below hb3
        go_wp2_with fail
        refine (l3Over_v _ _ _ _ _ _ Y X true _ hd2 (fun _ => dom_some h0b hd2) hsy hly hsx hlx hY2 hX2).mono ?_; rintro e w4 ⟨rfl, hb4⟩
        have hbs4 := hbs3.step hb4
        replace hX2 := hX2.below hb4
        replace hY2 := hY2.below hb4
        go_wp2_with fail
        go_ret
        exact ⟨by rw [E.out]; rfl, hbs4⟩
      | false =>
        have E : Hid (z = 2) := E2.out h0 hd1 hd2
        clear E0 E1 Em E2
        go_enter Tryz.func53, Tryz.ntmps53
        go_wp2_with fail
        refine H1.out.mono ?_; rintro e w1 ⟨g1, n1, c1, rfl, hX, hb1⟩
        obtain ⟨_, _, ef⟩ := hX.form
        simp only [Value.slice.injEq] at ef
        obtain ⟨rfl, rfl, rfl⟩ := ef
        go_wp2_with fail
        refine (H2.out _ hb1).mono ?_; rintro e w2 ⟨g2, n2, c2, rfl, hY, hb2⟩
        obtain ⟨_, _, ef⟩ := hY.form
        simp only [Value.slice.injEq] at ef
        obtain ⟨rfl, rfl, rfl⟩ := ef
        have hX2 := (hX.sls hb1).below hb2
        have hY2 := hY.sls hb2
        have hb12 := hb1.step hb2
        go_wp2_with fail
        refine (l3Over_v _ _ _ _ _ _ X Y false _ hd1 ((by simp)) hsx hlx hsy hly hX2 hY2).mono ?_; rintro e w3 ⟨rfl, hb3⟩
        have hbs3 := hb12.step hb3
        replace hX2 := hX2.below hb3
        replace hY2 := hY2.below hb3
        go_wp2_with fail
        refine (l3Over_v _ _ _ _ _ _ Y X false _ hd2 ((by simp)) hsy hly hsx hlx hY2 hX2).mono ?_; rintro e w4 ⟨rfl, hb4⟩
        have hbs4 := hbs3.step hb4
        replace hX2 := hX2.below hb4
        replace hY2 := hY2.below hb4
        go_wp2_with fail
        go_ret
        exact ⟨by rw [E.out]; rfl, hbs4⟩

end Go.Proofs.YteegjnobmbcjiaaGreatDoor
end
