/- Chapter 4, the program: GoodClause, WeightOf. -/
import Derived.Test.YtnldienjkejfcaaClTm
import Derived.Test.YtnldienjkejfcaaClA
import Derived.Test.YtnldienjkejfcaaLwC
namespace Go.Proofs.Ytnldienjkejfcaa
open Go.RowKit

theorem short_flat {c : List Lt} (h : sumC c ≤ 1048576) : sumL (flatC c) ≤ 1048576 ∧ ∀ j, j < (flatC c).length → ((flatC c).getD j []).length ≤ 1048576 := by
  have h1 : sumL (flatC c) ≤ 1048576 := by have := sumC_eq c; unfold lenC at this; omega
  exact ⟨h1, fun j hj => by have := sumL_get (flatC c) j hj; omega⟩
theorem short_flat8 {c : List Lt} (h : sumC c ≤ 1048576) (h8 : c.length ≤ 8) : short (flatC c) := ⟨by rw [flatC_len]; omega, (short_flat h).2⟩

theorem short_flat8s {c : List Lt} (h : shortC c) (h8 : c.length ≤ 8) : short (flatC c) := by
  refine ⟨by rw [flatC_len]; omega, fun j hj => ?_⟩
  obtain ⟨x, hx, e⟩ := flat_mem (mem_getD (flatC c) [] j hj)
  obtain ⟨i, hi, rfl⟩ := List.getElem_of_mem hx
  have := h.2 i hi
  rw [show c.getD i lt0 = c[i] from by simp [List.getD, hi]] at this
  rcases e with e | e <;> rw [e]
  · exact this.1
  · exact this.2

set_option maxRecDepth 100000 in
set_option maxHeartbeats 400000 in
theorem iGoodClause_sh {l h l' h' : Nat} {v u : Value} {ar : List Int} {c : List Lt} {w : World} (ha : ar.length ≤ 1048576) (hv : SlI l h w v ar) (hc : shortC c) (hu : SlC l' h' w u c) :
    Calls Try.prog 33 #[.agg #[v], u] w (RetV w (.bool (goodClause ar c))) := by
  obtain ⟨ad, cap, rfl⟩ := hu.form
  have hle := hc.1
  by_cases h8 : c.length ≤ 8
  · have hd : decide ((c.length : Int) ≤ 8) = true := by rw [decide_eq_true]; omega
    have HE := Lib.hid (goodTerms_flat ar h8)
    have hsh := short_flat8s hc h8
    have HT := Lib.hid (fun (w' : World) (hb : Bel w w') => termsIn_c l' h' _ c w' (by omega) (hu.below hb))
    have HD := Lib.hid (fun (w' : World) (x : Value) (hb : Bel w w') (hx : SlS 0 w'.heap.size w' x (flatC c)) => goodTerms_c l h _ _ v x ar (flatC c) 16 w' (by omega) ha (hv.below hb) hsh hx)
    rw [HE.out] at HD
    clear hsh hle hu hv HE h8
    have HB0 : Bel w (w.alloc (.cells #[v] 30)).drew := (Bel.alloc0 _ _).drew
    have hbox0 : (w.alloc (.cells #[v] 30)).drew.cell? ⟨w.heap.size, 0, none⟩ = some v := boxc ((Bel.rfl' _).drew) 0 _ rfl
    go_enter Try.func33, Try.ntmps33
    go_wp2_with fail
    go_region_held3 (fun w' => Bel w w' ∧ w'.cell? ⟨w.heap.size, 0, none⟩ = some v)
      (first | exact ⟨HB2, hbox2⟩ | exact ⟨HB1, hbox1⟩ | exact ⟨HB0, hbox0⟩ | fail)
      (first | (go_at_call 54; refine (HD.out _ _ HB1 hrow).mono ?_; rintro e w2 ⟨rfl, hb2⟩; have HB2 := HB1.step hb2; have hbox2 := hb2.at (World.block_lt_of_cell? _ ⟨_, _, none⟩ hbox1) hbox1) | (go_at_call 55; refine (HT.out _ HB0).mono ?_; rintro e w1 ⟨ad1, n1, c1, rfl, hrw, hb1⟩; have HB1 := HB0.step hb1; have hbox1 := hb1.at (World.block_lt_of_cell? _ ⟨_, _, none⟩ hbox0) hbox0; have hrow := hrw.sls hb1) | fail)
    go_wp2_with fail
    go_ret
    exact ⟨rfl, HB2⟩
  · have hd : decide ((c.length : Int) ≤ 8) = false := by rw [decide_eq_false]; omega
    have E := Lib.hid (goodClause_long ar h8)
    clear h8
    go_enter Try.func33, Try.ntmps33
    go_wp2_with fail
    have hbox0 : (w.alloc (.cells #[v] 30)).drew.cell? ⟨w.heap.size, 0, none⟩ = some v := boxc ((Bel.rfl' _).drew) 0 _ rfl
    go_region
    all_goals
      go_wp2_with fail
      go_ret
      exact ⟨by rw [E.out]; rfl, (Bel.alloc0 _ _).drew⟩
theorem iGoodClause_t {l h l' h' : Nat} {v u : Value} {ar : List Int} {c : List Lt} {w : World} (ha : ar.length ≤ 1048576) (hv : SlI l h w v ar) (hc : sumC c ≤ 1048576) (hu : SlC l' h' w u c) :
    Calls Try.prog 33 #[.agg #[v], u] w (RetV w (.bool (goodClause ar c))) := iGoodClause_sh ha hv (shortC_of_sum hc) hu
theorem iGoodClause_v {l h l' h' : Nat} {v u : Value} {ar : List Int} {c : List Lt} {w : World} {q : Bool} (he : goodClause ar c = q) (ha : ar.length ≤ 1048576) (hv : SlI l h w v ar) (hc : sumC c ≤ 1048576) (hu : SlC l' h' w u c) :
    Calls Try.prog 33 #[.agg #[v], u] w (RetV w (.bool q)) := by subst he; exact iGoodClause_t ha hv hc hu

set_option maxRecDepth 100000 in
set_option maxHeartbeats 400000 in
theorem clauseWeight_c (l' h' : Nat) (u : Value) (c : List Lt) (w : World) (hc : sumC c ≤ 1048576) (hu : SlC l' h' w u c) :
    Calls Try.prog 37 #[u] w (RetV w (.int .i64 (sumL (flatC c) : Nat))) := by
  have hle := sumC_len c
  have hsum := (short_flat hc).1
  have hfl := flatC_len c
  have HC := Lib.hid (fun (w' : World) (hb : Bel w w') => termsIn_c l' h' u c w' (by omega) (hu.below hb))
  have hcl : c.length ≤ 1048576 := by omega
  clear hc hu
  go_enter Try.func37, Try.ntmps37
  go_wp2_with fail
  refine (HC.out _ (Bel.rfl' _)).mono ?_; rintro e w2 ⟨a2, n2, c2, rfl, hrow, hb2⟩
  generalize flatC c = L at *
  have hs := hrow.sls hb2
  obtain ⟨ad, cap, e⟩ := hs.form
  simp only [Value.slice.injEq] at e
  obtain ⟨rfl, rfl, rfl⟩ := e
  go_wp2_with fail
  go_loopw [3, 9] (fun m i wr => ∃ k : Nat, k ≤ L.length ∧ i = .int .i64 k ∧ m = .int .i64 (sumL (L.take k) : Nat) ∧ Bel w2 wr) (fun _ i _ => L.length - (intOf i).toNat)
  case atStart => exact ⟨0, Nat.zero_le _, rfl, by simp [sumL], Bel.rfl' _⟩
  case round =>
    obtain ⟨k, hk, rfl, rfl, hb⟩ := hrel
    by_cases hlt : k < L.length
    · obtain ⟨b, off, u1, rfl, hbs, c1, s1⟩ := hs.at hb k hlt
      have hst := sumL_take L k hlt
      have hsl := sumL_get L k hlt
      have hin1 : (k : Int) < L.length := by omega
      have hin2 : (k : Int) < 2 * c.length := by omega
      clear hs hrow
      generalize L.getD k [] = x at *
      obtain ⟨a1, d1, rfl⟩ := s1.form
      have HE : Hid (((sumL (L.take k) : Nat) : Int) + (x.length : Int) = (sumL (L.take (k+1)) : Nat)) := by show _ = _; omega
      have i2 := IntWalk.i64_in (((sumL (L.take k) : Nat) : Int) + (x.length : Int)) (by omega)
      clear s1 hst hsl
      go_wp2_with fail
      go_roundw
      case rel => exact ⟨k+1, by omega, by go_num, by rw [← HE.out], hb⟩
      case measure => simp [intOf]; omega
    · have hin2 : ¬ (k : Int) < 2 * c.length := by omega
      rw [sumL_all L k hlt]
      go_wp2_with fail
      go_ret
      exact ⟨rfl, hb2.step hb⟩

set_option maxRecDepth 100000 in
set_option maxHeartbeats 400000 in
theorem iWeightOf_t {l h l' h' : Nat} {v u : Value} {ar : List Int} {c : List Lt} {w : World} (ha : ar.length ≤ 1048576) (hv : SlI l h w v ar) (hc : sumC c ≤ 1048576) (hu : SlC l' h' w u c) :
    Calls Try.prog 17 #[.agg #[v], u] w (RetV w (.tuple #[.int .i64 (weightAns ar c), .bool (goodClause ar c)])) := by
  unfold weightAns
  cases hg : goodClause ar c with
  | false =>
    rw [if_neg (by simp)]
    have HG := Lib.hid hg; clear hg
    go_enter Try.func17, Try.ntmps17
    go_wp2_with fail
    refine (iGoodClause_v HG.out ha (hv.alloc _) hc (hu.alloc _)).mono ?_; rintro e w1 ⟨rfl, hb1⟩
    go_wp2_with fail
    go_ret2
    exact ⟨rfl, hb1.of_alloc⟩
  | true =>
    rw [if_pos rfl]
    have HG := Lib.hid hg; clear hg
    go_enter Try.func17, Try.ntmps17
    go_wp2_with fail
    refine (iGoodClause_v HG.out ha (hv.alloc _) hc (hu.alloc _)).mono ?_; rintro e w1 ⟨rfl, hb1⟩
    have HC := Lib.hid (clauseWeight_c _ _ u c w1 hc ((hu.alloc _).below hb1))
    clear hu hv
    generalize sumL (flatC c) = q at *
    go_wp2_with fail
    refine HC.out.mono ?_; rintro e w2 ⟨rfl, hb2⟩
    go_wp2_with fail
    go_ret2
    exact ⟨rfl, (hb1.step hb2).of_alloc⟩
end Go.Proofs.Ytnldienjkejfcaa
