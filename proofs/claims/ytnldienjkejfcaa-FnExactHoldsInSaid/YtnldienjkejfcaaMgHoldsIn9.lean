/- Texts merged, part 9. -/
import Derived.Test.YtnldienjkejfcaaMgHoldsIn8
section
/- Chapter 4, the program: GoodClause, WeightOf. -/
namespace Go.Proofs.Ytnldienjkejfcaa
open Go.RowKit

theorem short_flat {c : List Lt} (h : sumC c ≤ 1048576) : sumL (flatC c) ≤ 1048576 ∧ ∀ j, j < (flatC c).length → ((flatC c).getD j []).length ≤ 1048576 := by
  have h1 : sumL (flatC c) ≤ 1048576 := by have := sumC_eq c; unfold lenC at this; omega
  exact ⟨h1, fun j hj => by have := sumL_get (flatC c) j hj; omega⟩
theorem short_flat8 {c : List Lt} (h : sumC c ≤ 1048576) (h8 : c.length ≤ 8) : short (flatC c) := ⟨by rw [flatC_len]; omega, (short_flat h).2⟩

theorem short_flat8s {c : List Lt} (h : shortC c) (h8 : c.length ≤ 8) : short (flatC c) := by
  refine ⟨by rw [flatC_len]; omega, fun j hj => ?_⟩
  obtain ⟨x, hx, e⟩ := flat_mem (mem_getD (flatC c) [] j hj)
  obtain ⟨i, hi, rfl⟩ := List.getElem_of_mem hx
  have := h.2 i hi
  rw [show c.getD i lt0 = c[i] from by simp [List.getD, hi]] at this
  rcases e with e | e <;> rw [e]
  · exact this.1
  · exact this.2

set_option maxRecDepth 100000 in
set_option maxHeartbeats 400000 in
theorem iGoodClause_sh {l h l' h' : Nat} {v u : Value} {ar : List Int} {c : List Lt} {w : World} (ha : ar.length ≤ 1048576) (hv : SlI l h w v ar) (hc : shortC c) (hu : SlC l' h' w u c) :
    Calls Try.prog 33 #[.agg #[v], u] w (RetV w (.bool (goodClause ar c))) := by
  obtain ⟨ad, cap, rfl⟩ := hu.form
  have hle := hc.1
  by_cases h8 : c.length ≤ 8
  · have hd : decide ((c.length : Int) ≤ 8) = true := by rw [decide_eq_true]; omega
    have HE := Lib.hid (goodTerms_flat ar h8)
    have hsh := short_flat8s hc h8
    have HT := Lib.hid (fun (w' : World) (hb : Bel w w') => termsIn_c l' h' _ c w' (by omega) (hu.below hb))
    have HD := Lib.hid (fun (w' : World) (x : Value) (hb : Bel w w') (hx : SlS 0 w'.heap.size w' x (flatC c)) => goodTerms_c l h _ _ v x ar (flatC c) 16 w' (by omega) ha (hv.below hb) hsh hx)
    rw [HE.out] at HD
    clear hsh hle hu hv HE h8
    have HB0 : Bel w (w.alloc (.cells #[v] 30)).drew := (Bel.alloc0 _ _).drew
    have hbox0 : (w.alloc (.cells #[v] 30)).drew.cell? ⟨w.heap.size, 0, none⟩ = some v := boxc ((Bel.rfl' _).drew) 0 _ rfl
    go_enter Try.func33, Try.ntmps33
    go_wp2_with fail
    go_region_held3 (fun w' => Bel w w' ∧ w'.cell? ⟨w.heap.size, 0, none⟩ = some v)
      (first | exact ⟨HB2, hbox2⟩ | exact ⟨HB1, hbox1⟩ | exact ⟨HB0, hbox0⟩ | fail)
      (first | (go_at_call 54; refine (HD.out _ _ HB1 hrow).mono ?_; rintro e w2 ⟨rfl, hb2⟩; have HB2 := HB1.step hb2; have hbox2 := hb2.at (World.block_lt_of_cell? _ ⟨_, _, none⟩ hbox1) hbox1) | (go_at_call 55; refine (HT.out _ HB0).mono ?_; rintro e w1 ⟨ad1, n1, c1, rfl, hrw, hb1⟩; have HB1 := HB0.step hb1; have hbox1 := hb1.at (World.block_lt_of_cell? _ ⟨_, _, none⟩ hbox0) hbox0; have hrow := hrw.sls hb1) | fail)
    go_wp2_with fail
    go_ret
    exact ⟨rfl, HB2⟩
  · have hd : decide ((c.length : Int) ≤ 8) = false := by rw [decide_eq_false]; omega
    have E := Lib.hid (goodClause_long ar h8)
    clear h8
    go_enter Try.func33, Try.ntmps33
    go_wp2_with fail
    have hbox0 : (w.alloc (.cells #[v] 30)).drew.cell? ⟨w.heap.size, 0, none⟩ = some v := boxc ((Bel.rfl' _).drew) 0 _ rfl
    go_region
    all_goals
      go_wp2_with fail
      go_ret
      exact ⟨by rw [E.out]; rfl, (Bel.alloc0 _ _).drew⟩
theorem iGoodClause_t {l h l' h' : Nat} {v u : Value} {ar : List Int} {c : List Lt} {w : World} (ha : ar.length ≤ 1048576) (hv : SlI l h w v ar) (hc : sumC c ≤ 1048576) (hu : SlC l' h' w u c) :
    Calls Try.prog 33 #[.agg #[v], u] w (RetV w (.bool (goodClause ar c))) := iGoodClause_sh ha hv (shortC_of_sum hc) hu
theorem iGoodClause_v {l h l' h' : Nat} {v u : Value} {ar : List Int} {c : List Lt} {w : World} {q : Bool} (he : goodClause ar c = q) (ha : ar.length ≤ 1048576) (hv : SlI l h w v ar) (hc : sumC c ≤ 1048576) (hu : SlC l' h' w u c) :
    Calls Try.prog 33 #[.agg #[v], u] w (RetV w (.bool q)) := by subst he; exact iGoodClause_t ha hv hc hu

set_option maxRecDepth 100000 in
set_option maxHeartbeats 400000 in
theorem clauseWeight_c (l' h' : Nat) (u : Value) (c : List Lt) (w : World) (hc : sumC c ≤ 1048576) (hu : SlC l' h' w u c) :
    Calls Try.prog 37 #[u] w (RetV w (.int .i64 (sumL (flatC c) : Nat))) := by
  have hle := sumC_len c
  have hsum := (short_flat hc).1
  have hfl := flatC_len c
  have HC := Lib.hid (fun (w' : World) (hb : Bel w w') => termsIn_c l' h' u c w' (by omega) (hu.below hb))
  have hcl : c.length ≤ 1048576 := by omega
  clear hc hu
  go_enter Try.func37, Try.ntmps37
  go_wp2_with fail
  refine (HC.out _ (Bel.rfl' _)).mono ?_; rintro e w2 ⟨a2, n2, c2, rfl, hrow, hb2⟩
  generalize flatC c = L at *
  have hs := hrow.sls hb2
  obtain ⟨ad, cap, e⟩ := hs.form
  simp only [Value.slice.injEq] at e
  obtain ⟨rfl, rfl, rfl⟩ := e
  go_wp2_with fail
  go_loopw [3, 9] (fun m i wr => ∃ k : Nat, k ≤ L.length ∧ i = .int .i64 k ∧ m = .int .i64 (sumL (L.take k) : Nat) ∧ Bel w2 wr) (fun _ i _ => L.length - (intOf i).toNat)
  case atStart => exact ⟨0, Nat.zero_le _, rfl, by simp [sumL], Bel.rfl' _⟩
  case round =>
    obtain ⟨k, hk, rfl, rfl, hb⟩ := hrel
    by_cases hlt : k < L.length
    · obtain ⟨b, off, u1, rfl, hbs, c1, s1⟩ := hs.at hb k hlt
      have hst := sumL_take L k hlt
      have hsl := sumL_get L k hlt
      have hin1 : (k : Int) < L.length := by omega
      have hin2 : (k : Int) < 2 * c.length := by omega
      clear hs hrow
      generalize L.getD k [] = x at *
      obtain ⟨a1, d1, rfl⟩ := s1.form
      have HE : Hid (((sumL (L.take k) : Nat) : Int) + (x.length : Int) = (sumL (L.take (k+1)) : Nat)) := by show _ = _; omega
      have i2 := IntWalk.i64_in (((sumL (L.take k) : Nat) : Int) + (x.length : Int)) (by omega)
      clear s1 hst hsl
      go_wp2_with fail
      go_roundw
      case rel => exact ⟨k+1, by omega, by go_num, by rw [← HE.out], hb⟩
      case measure => simp [intOf]; omega
    · have hin2 : ¬ (k : Int) < 2 * c.length := by omega
      rw [sumL_all L k hlt]
      go_wp2_with fail
      go_ret
      exact ⟨rfl, hb2.step hb⟩

set_option maxRecDepth 100000 in
set_option maxHeartbeats 400000 in
theorem iWeightOf_t {l h l' h' : Nat} {v u : Value} {ar : List Int} {c : List Lt} {w : World} (ha : ar.length ≤ 1048576) (hv : SlI l h w v ar) (hc : sumC c ≤ 1048576) (hu : SlC l' h' w u c) :
    Calls Try.prog 17 #[.agg #[v], u] w (RetV w (.tuple #[.int .i64 (weightAns ar c), .bool (goodClause ar c)])) := by
  unfold weightAns
  cases hg : goodClause ar c with
  | false =>
    rw [if_neg (by simp)]
    have HG := Lib.hid hg; clear hg
    go_enter Try.func17, Try.ntmps17
    go_wp2_with fail
    refine (iGoodClause_v HG.out ha (hv.alloc _) hc (hu.alloc _)).mono ?_; rintro e w1 ⟨rfl, hb1⟩
    go_wp2_with fail
    go_ret2
    exact ⟨rfl, hb1.of_alloc⟩
  | true =>
    rw [if_pos rfl]
    have HG := Lib.hid hg; clear hg
    go_enter Try.func17, Try.ntmps17
    go_wp2_with fail
    refine (iGoodClause_v HG.out ha (hv.alloc _) hc (hu.alloc _)).mono ?_; rintro e w1 ⟨rfl, hb1⟩
    have HC := Lib.hid (clauseWeight_c _ _ u c w1 hc ((hu.alloc _).below hb1))
    clear hu hv
    generalize sumL (flatC c) = q at *
    go_wp2_with fail
    refine HC.out.mono ?_; rintro e w2 ⟨rfl, hb2⟩
    go_wp2_with fail
    go_ret2
    exact ⟨rfl, (hb1.step hb2).of_alloc⟩
end Go.Proofs.Ytnldienjkejfcaa
end
section
/- Chapter 5, the program: HoldsAt. -/
namespace Go.Proofs.Ytnldienjkejfcaa
open Go.RowKit

set_option maxRecDepth 100000 in
set_option maxHeartbeats 2000000 in
theorem litHolds_c (l h l' h' l2 h2 l3 h3 : Nat) (v u u1 u2 ve : Value) (ar : List Int) (sz : Int) (tb : List (List Int)) (p : Bool) (xl xr : List Int) (env : List Int) (w : World) (hg : goodSign ar = true) (hw : isWorld ar sz tb = true) (he : okEnv sz env = true) (o1 : okTerm ar xl = true) (o2 : okTerm ar xr = true)
    (hv : SlI l h w v ar) (hu : SlS l' h' w u tb) (s1 : SlI l2 h2 w u1 xl) (s2 : SlI l2 h2 w u2 xr) (hve : SlI l3 h3 w ve env) :
    Calls Try.prog 50 #[.agg #[v], .agg #[.int .i64 sz, u], .agg #[.bool p, u1, u2], ve] w (RetV w (.bool (litH ar sz tb env (p, xl, xr)))) := by
  have HB : Bel w (((w.alloc (.cells #[v] 30)).alloc (.cells #[.int .i64 sz, u] 44)).alloc (.cells #[.bool p, u1, u2] 59)) := Bel.alloc3 _ _ _ _
  have HC1 := Lib.hid (fun (w' : World) (hq : Bel w w') => valueIn_c l h l' h' l2 h2 l3 h3 v u u1 ve ar sz tb xl env w' hg hw he o1 (hv.below hq) (hu.below hq) (s1.below hq) (hve.below hq))
  have HC2 := Lib.hid (fun (w' : World) (hq : Bel w w') => valueIn_c l h l' h' l2 h2 l3 h3 v u u2 ve ar sz tb xr env w' hg hw he o2 (hv.below hq) (hu.below hq) (s2.below hq) (hve.below hq))
  have KX : Hid (∀ w', Bel (((w.alloc (.cells #[v] 30)).alloc (.cells #[.int .i64 sz, u] 44)).alloc (.cells #[.bool p, u1, u2] 59)) w' → w'.cell? ⟨w.heap.size, 0, none⟩ = some v ∧ w'.cell? ⟨w.heap.size + 1, 0, none⟩ = some (.int .i64 sz) ∧ w'.cell? ⟨w.heap.size + 1, 1, none⟩ = some u ∧ w'.cell? ⟨w.heap.size + 1 + 1, 0, none⟩ = some (.bool p) ∧ w'.cell? ⟨w.heap.size + 1 + 1, 1, none⟩ = some u1 ∧ w'.cell? ⟨w.heap.size + 1 + 1, 2, none⟩ = some u2) := fun w' hq =>
    ⟨hq.at (by simp; omega) (by simp [go_sem]), hq.at (by simp) (by simp [go_sem]), hq.at (by simp) (by simp [go_sem]), hq.at (by simp) (by simp [go_sem]), hq.at (by simp) (by simp [go_sem]), hq.at (by simp) (by simp [go_sem])⟩
  clear hv hu s1 s2 hve hg hw he o1 o2
  unfold litH
  generalize evT ar sz tb env xl = e1 at *
  generalize evT ar sz tb env xr = e2 at *
  cases p with
  | false =>
    cases hq : ((e1 : Int) == e2)
    all_goals
      go_enter Try.func50, Try.ntmps50
      go_wp2_with fail
      go_region_held3 (fun w' => Bel w w' ∧ w'.cell? ⟨w.heap.size, 0, none⟩ = some v ∧ w'.cell? ⟨w.heap.size + 1, 0, none⟩ = some (.int .i64 sz) ∧ w'.cell? ⟨w.heap.size + 1, 1, none⟩ = some u ∧ w'.cell? ⟨w.heap.size + 1 + 1, 0, none⟩ = some (.bool false) ∧ w'.cell? ⟨w.heap.size + 1 + 1, 1, none⟩ = some u1 ∧ w'.cell? ⟨w.heap.size + 1 + 1, 2, none⟩ = some u2)
        (first | exact ⟨HB.drew, KX.out _ (Bel.drew0 _)⟩ | exact ⟨HB.step B8, KX.out _ B8⟩ | exact ⟨HB.step B9, KX.out _ B9⟩ | fail)
        (first | (go_at_call 62; refine (HC2.out _ (HB.step B8)).mono ?_; rintro e w9 ⟨rfl, hb9⟩; have B9 := B8.step hb9) | (go_at_call 62; refine (HC1.out _ HB.drew).mono ?_; rintro e w8 ⟨rfl, hb8⟩; have B8 := (Bel.drew0 _).step hb8) | fail)
      go_wp2_with fail
      go_ret
      exact ⟨rfl, HB.step B9⟩
  | true =>
    cases hq : ((e1 : Int) == e2)
    all_goals
      go_enter Try.func50, Try.ntmps50
      go_wp2_with fail
      go_region_held3 (fun w' => Bel w w' ∧ w'.cell? ⟨w.heap.size, 0, none⟩ = some v ∧ w'.cell? ⟨w.heap.size + 1, 0, none⟩ = some (.int .i64 sz) ∧ w'.cell? ⟨w.heap.size + 1, 1, none⟩ = some u ∧ w'.cell? ⟨w.heap.size + 1 + 1, 0, none⟩ = some (.bool true) ∧ w'.cell? ⟨w.heap.size + 1 + 1, 1, none⟩ = some u1 ∧ w'.cell? ⟨w.heap.size + 1 + 1, 2, none⟩ = some u2)
        (first | exact ⟨HB.drew, KX.out _ (Bel.drew0 _)⟩ | exact ⟨HB.step B8, KX.out _ B8⟩ | exact ⟨HB.step B9, KX.out _ B9⟩ | fail)
        (first | (go_at_call 62; refine (HC2.out _ (HB.step B8)).mono ?_; rintro e w9 ⟨rfl, hb9⟩; have B9 := B8.step hb9) | (go_at_call 62; refine (HC1.out _ HB.drew).mono ?_; rintro e w8 ⟨rfl, hb8⟩; have B8 := (Bel.drew0 _).step hb8) | fail)
      go_wp2_with fail
      go_ret
      exact ⟨rfl, HB.step B9⟩
end Go.Proofs.Ytnldienjkejfcaa
end
section
/- Chapter 5, the program: the test of a literal, which remembers. -/
namespace Go.Proofs.Ytnldienjkejfcaa
open Go.RowKit

theorem pw_le12 {Z k : Nat} (h1 : Z ≤ 3) (h2 : k ≤ 12) : Z ^ k ≤ 531441 :=
  Nat.le_trans (Nat.pow_le_pow_left h1 _) (Nat.pow_le_pow_right (n := 3) (by omega) h2)
set_option maxRecDepth 100000 in
set_option maxHeartbeats 400000 in
theorem tableLength_g (Z A : Nat) (w : World) (h2 : Z ≤ 3) (h3 : A ≤ 12) :
    Calls Try.prog 43 #[.int .i64 (A : Int), .int .i64 (Z : Int)] w (RetV w (.int .i64 ((Z ^ A : Nat) : Int))) := by
  go_enter Try.func43, Try.ntmps43
  go_wp2_with fail
  go_loop [5, 7] (fun n a => ∃ k : Nat, k ≤ A ∧ a = .int .i64 k ∧ n = .int .i64 ((Z ^ k : Nat) : Int)) (fun _ a => A - (intOf a).toNat)
  case atStart => exact ⟨0, Nat.zero_le _, rfl, rfl⟩
  case round =>
    obtain ⟨k, hk, rfl, rfl⟩ := hrel
    by_cases hlt : k < A
    · have E := Lib.hid (pw_succ Z k)
      have hb := pw_le12 h2 (show k + 1 ≤ 12 by omega)
      have hw : -9223372036854775808 ≤ ((Z ^ k : Nat) : Int) * (Z : Int) ∧ ((Z ^ k : Nat) : Int) * (Z : Int) ≤ 9223372036854775807 := by rw [E.out]; omega
      have hw1 := IntWalk.i64_in (((Z ^ k : Nat) : Int) * (Z : Int)) hw
      clear hw hb
      generalize ((Z ^ k : Nat) : Int) = y at *
      go_wp2_with fail
      go_round
      case rel => exact ⟨k+1, by omega, by go_num, by rw [← E.out]⟩
      case measure => simp [intOf]; omega
    · obtain rfl : k = A := by omega
      generalize ((Z ^ k : Nat) : Int) = y at *
      go_wp2_with fail
      go_ret
      exact ⟨rfl, Bel.rfl' _⟩

/-- The test of the literal x at these blocks. -/
structure Tst (ar : List Int) (sz : Int) (tb : List (List Int)) (L H lo hi : Nat) (x : Lt) (p7 p4 p8 p3 p5 bk : Nat) (a7 : Option Addr) (c7 : Nat) (v u u1 u2 : Value) (ks : List Int) (w : World) : Prop where
  b3 : lo ≤ p3 ∧ p3 < p7
  b4 : lo ≤ p4 ∧ p4 < p7
  b5 : lo ≤ p5 ∧ p5 < p7
  b7 : lo ≤ p7 ∧ p7 < bk
  b8 : bk < p8 ∧ p8 < hi
  old : H ≤ lo
  cur : hi ≤ w.heap.size
  s7 : w.cell? ⟨p7, 0, none⟩ = some (.slice a7 (varsC [x]).length c7)
  v7 : SlI lo p7 w (.slice a7 (varsC [x]).length c7) (natsI (varsC [x]))
  s40 : w.cell? ⟨p4, 0, none⟩ = some (.int .i64 sz)
  s41 : w.cell? ⟨p4, 1, none⟩ = some u
  v4 : SlS L H w u tb
  s3 : w.cell? ⟨p3, 0, none⟩ = some v
  v3 : SlI L H w v ar
  s50 : w.cell? ⟨p5, 0, none⟩ = some (.bool x.1)
  s51 : w.cell? ⟨p5, 1, none⟩ = some u1
  s52 : w.cell? ⟨p5, 2, none⟩ = some u2
  v51 : SlI L H w u1 x.2.1
  v52 : SlI L H w u2 x.2.2
  s8 : w.cell? ⟨p8, 0, none⟩ = some (.slice (some ⟨bk, 0, none⟩) ks.length ks.length)
  v8 : OwnI bk (bk + 1) w (.slice (some ⟨bk, 0, none⟩) ks.length ks.length) ks
  kn : Known ar sz tb x ks
theorem Tst.chg {ar : List Int} {sz : Int} {tb : List (List Int)} {L H lo hi : Nat} {x : Lt} {p7 p4 p8 p3 p5 bk : Nat} {a7 : Option Addr} {c7 : Nat} {v u u1 u2 : Value} {ks : List Int} {w w' : World} {l' h' : Nat}
    (t : Tst ar sz tb L H lo hi x p7 p4 p8 p3 p5 bk a7 c7 v u u1 u2 ks w) (k : Chg l' h' w w') (d1 : h' ≤ lo ∨ hi ≤ l') (d2 : h' ≤ L ∨ H ≤ l') : Tst ar sz tb L H lo hi x p7 p4 p8 p3 p5 bk a7 c7 v u u1 u2 ks w' := by
  obtain ⟨b3, b4, b5, b7, b8, old, cur, s7, v7, s40, s41, v4, s3, v3, s50, s51, s52, v51, v52, s8, v8, kn⟩ := t
  have hz := k.size
  exact ⟨b3, b4, b5, b7, b8, old, by omega, k.cell (by omega) (by omega) s7, v7.chg k (by omega), k.cell (by omega) (by omega) s40, k.cell (by omega) (by omega) s41, v4.chg k (by omega), k.cell (by omega) (by omega) s3, v3.chg k (by omega),
    k.cell (by omega) (by omega) s50, k.cell (by omega) (by omega) s51, k.cell (by omega) (by omega) s52, v51.chg k (by omega), v52.chg k (by omega), k.cell (by omega) (by omega) s8, v8.chg k (by omega), kn⟩
/-- What is remembered has turned, the rest not. -/
theorem Tst.put {ar : List Int} {sz : Int} {tb : List (List Int)} {L H lo hi : Nat} {x : Lt} {p7 p4 p8 p3 p5 bk : Nat} {a7 : Option Addr} {c7 : Nat} {v u u1 u2 : Value} {ks ks' : List Int} {w w' : World}
    (t : Tst ar sz tb L H lo hi x p7 p4 p8 p3 p5 bk a7 c7 v u u1 u2 ks w) (k : Chg bk (bk+1) w w') (hl : ks'.length = ks.length) (ho : OwnI bk (bk + 1) w' (.slice (some ⟨bk, 0, none⟩) ks.length ks.length) ks') (hk : Known ar sz tb x ks') : Tst ar sz tb L H lo hi x p7 p4 p8 p3 p5 bk a7 c7 v u u1 u2 ks' w' := by
  obtain ⟨b3, b4, b5, b7, b8, old, cur, s7, v7, s40, s41, v4, s3, v3, s50, s51, s52, v51, v52, s8, v8, kn⟩ := t
  have hz := k.size
  exact ⟨b3, b4, b5, b7, b8, old, by omega, k.cell (by omega) (by omega) s7, v7.chg k (by omega), k.cell (by omega) (by omega) s40, k.cell (by omega) (by omega) s41, v4.chg k (by omega), k.cell (by omega) (by omega) s3, v3.chg k (by omega),
    k.cell (by omega) (by omega) s50, k.cell (by omega) (by omega) s51, k.cell (by omega) (by omega) s52, v51.chg k (by omega), v52.chg k (by omega), by rw [hl]; exact k.cell (by omega) (by omega) s8, by rw [hl]; exact ho, hk⟩
end Go.Proofs.Ytnldienjkejfcaa
end
section
/- Chapter 5, the program: a literal's test, called. -/
namespace Go.Proofs.Ytnldienjkejfcaa
open Go.RowKit

def RetTst (ar : List Int) (sz : Int) (tb : List (List Int)) (L H lo hi : Nat) (x : Lt) (p7 p4 p8 p3 p5 bk : Nat) (a7 : Option Addr) (c7 : Nat) (v u u1 u2 : Value) (w : World) (b : Bool) (e : Ending) (w' : World) : Prop :=
  e = .returned (.bool b) ∧ ∃ ks, Tst ar sz tb L H lo hi x p7 p4 p8 p3 p5 bk a7 c7 v u u1 u2 ks w' ∧ Chg bk (bk+1) w w'

theorem idx_take {sz : Int} (vs : List Nat) (e : List Int) (q : Nat) (hq : q < vs.length) : noOf sz ((vs.map fun v => e.getD v 0).take (q+1)) = noOf sz ((vs.map fun v => e.getD v 0).take q) * sz + e.getD (vs.getD q 0) 0 := by
  rw [noOf_tk _ _ (by simpa using hq)]
  congr 1
  simp [List.getD, hq]

set_option maxRecDepth 100000 in
set_option maxHeartbeats 2000000 in
theorem litTest1_c {ar : List Int} {sz : Int} {tb : List (List Int)} {L H lo hi : Nat} {x : Lt} {p7 p4 p8 p3 p5 bk : Nat} {a7 : Option Addr} {c7 : Nat} {v u u1 u2 : Value} {ks : List Int} {w : World}
    (t : Tst ar sz tb L H lo hi x p7 p4 p8 p3 p5 bk a7 c7 v u u1 u2 ks w) (hg : goodSign ar = true) (hw : isWorld ar sz tb = true) (o1 : okTerm ar x.2.1 = true) (o2 : okTerm ar x.2.2 = true)
    (l3 h3 : Nat) (ve : Value) (env : List Int) (he : okEnv sz env = true) (hve : SlI l3 h3 w ve env) (hd : h3 ≤ bk ∨ bk + 1 ≤ l3) :
    Calls Try.prog 85 #[ve, .pointer (some ⟨p7, 0, none⟩), .pointer (some ⟨p4, 0, none⟩), .pointer (some ⟨p8, 0, none⟩), .pointer (some ⟨p3, 0, none⟩), .pointer (some ⟨p5, 0, none⟩)] w
      (RetTst ar sz tb L H lo hi x p7 p4 p8 p3 p5 bk a7 c7 v u u1 u2 w (litH ar sz tb env x)) := by
  obtain ⟨z1, z3, _, _⟩ := isWorld_iff.1 hw
  have hel := (okEnv_iff.1 he).1
  have hNB := idx_bd z1 (varsC_lt (c := [x])) he
  have hkl := t.kn.1
  have hvl : (varsC [x]).length ≤ 12 := varsTo_len _ _
  have hP := pw_le12 (Z := sz.toNat) (by omega) hvl
  have HK := Lib.hid (t.kn.2 env he)
  have HPUT : Hid (∀ y : Int, y = (if litH ar sz tb env x then 2 else 1) → Known ar sz tb x (ks.set (idxW sz (varsC [x]) env).toNat y)) := fun y hy => t.kn.put z1 o1 o2 he y hy
  have HT := Lib.hid t
  have HBD : Hid (∀ q, q ≤ (varsC [x]).length → 0 ≤ noOf sz (((varsC [x]).map fun v => env.getD v 0).take q) ∧ noOf sz (((varsC [x]).map fun v => env.getD v 0).take q) ≤ 531440) := fun q hq => by
    have h := noOf_bd z1 (((varsC [x]).map fun v => env.getD v 0).take q) (fun y hy => by
      obtain ⟨j, hj, rfl⟩ := List.mem_map.1 (List.mem_of_mem_take hy)
      exact (okEnv_iff.1 he).2 j (varsC_lt j hj))
    have h2 : longW sz (((varsC [x]).map fun v => env.getD v 0).take q).length ≤ 531441 := by
      unfold longW
      rw [Int.toNat_natCast]
      exact pw_le12 (by omega) (by rw [List.length_take]; omega)
    omega
  have HEV : Hid (∀ q, q < (varsC [x]).length → (varsC [x]).getD q 0 < 12 ∧ 0 ≤ env.getD ((varsC [x]).getD q 0) 0 ∧ env.getD ((varsC [x]).getD q 0) 0 ≤ sz - 1) := fun q hq => by
    have h := varsC_lt (c := [x]) ((varsC [x]).getD q 0) (mem_gd _ 0 q hq)
    exact ⟨h, (okEnv_iff.1 he).2 _ h⟩
  have HTK : Hid (∀ q, q < (varsC [x]).length → noOf sz (((varsC [x]).map fun v => env.getD v 0).take (q+1)) = noOf sz (((varsC [x]).map fun v => env.getD v 0).take q) * sz + env.getD ((varsC [x]).getD q 0) 0) := fun q hq => idx_take _ _ q hq
  have HIX : Hid (noOf sz (((varsC [x]).map fun v => env.getD v 0).take (varsC [x]).length) = idxW sz (varsC [x]) env) := by
    show _ = _
    unfold idxW; rw [List.take_of_length_le (by simp)]
  have HNT : Hid (∀ q, q < (varsC [x]).length → (natsI (varsC [x])).getD q 0 = (((varsC [x]).getD q 0 : Nat) : Int)) := fun q hq => by simp [natsI, List.getD, hq]
  have HLIT := Lib.hid (fun (w' : World) (s3 : SlI L H w' v ar) (s4 : SlS L H w' u tb) (s51 : SlI L H w' u1 x.2.1) (s52 : SlI L H w' u2 x.2.2) (se : SlI l3 h3 w' ve env) => litHolds_c L H L H L H l3 h3 v u u1 u2 ve ar sz tb x.1 x.2.1 x.2.2 env w' hg hw he o1 o2 s3 s4 s51 s52 se)
  have HLE : Hid (litH ar sz tb env (x.1, x.2.1, x.2.2) = litH ar sz tb env x) := rfl
  rw [HLE.out] at HLIT
  obtain ⟨b3, b4, b5, b7, b8, old, cur, s7, v7, s40, s41, v4, s3, v3, s50, s51, s52, v51, v52, s8, v8, -⟩ := t
  have HVE := Lib.hid hve
  obtain ⟨a7v, c7v, e7, -, -, hr7⟩ := v7
  have hnl : (natsI (varsC [x])).length = (varsC [x]).length := by simp [natsI]
  rw [hnl] at e7
  have HNL := Lib.hid hnl
  obtain ⟨ae, ce, rfl, -, -, hre⟩ := hve
  rw [hel] at HLIT HVE ⊢
  simp only [Value.slice.injEq] at e7
  obtain ⟨rfl, -, rfl⟩ := e7
  obtain ⟨N, hN⟩ : ∃ N : Nat, idxW sz (varsC [x]) env = (N : Int) := ⟨(idxW sz (varsC [x]) env).toNat, by omega⟩
  rw [hN, Int.toNat_natCast] at HK HPUT
  rw [hN] at HIX hNB
  have hNl : N < ks.length := by omega
  have hks : ks.length ≤ 531441 := by omega
  clear hN hNB hkl hP he hw hg o1 o2 hnl
  generalize hn : (varsC [x]).length = n at *
  generalize litH ar sz tb env x = B at *
  generalize hvs : varsC [x] = vs at *
  go_enter Try.func85, Try.ntmps85
  go_wp2_with fail
  go_loopw [8, 13] (fun no i wr => ∃ q : Nat, q ≤ n ∧ i = .int .i64 q ∧ no = .int .i64 (noOf sz ((vs.map fun v => env.getD v 0).take q)) ∧ Bel w wr) (fun _ i _ => n - (intOf i).toNat)
  case atStart => exact ⟨0, Nat.zero_le _, rfl, rfl, Bel.rfl' _⟩
  case round =>
    obtain ⟨q, hq, rfl, rfl, hb⟩ := hrel
    have hn0 := HBD.out q hq
    by_cases hqn : q < n
    · obtain ⟨hv12, hx0, hx1⟩ := HEV.out q hqn
      have HS := Lib.hid (HTK.out q hqn)
      obtain ⟨b7', off7, rfl, hbl7, hc7⟩ := rd hr7 hb q (by have := HNL.out; omega)
      rw [HNT.out q hqn] at hc7
      obtain ⟨be, offe, rfl, hble, hce⟩ := rd hre hb (vs.getD q 0) (by omega)
      have r40 := hb.at (by omega) s40
      have hmul : noOf sz ((vs.map fun v => env.getD v 0).take q) * sz ≤ noOf sz ((vs.map fun v => env.getD v 0).take q) * 3 := Int.mul_le_mul_of_nonneg_left z3 hn0.1
      have hmul0 := Int.mul_nonneg hn0.1 (show 0 ≤ sz by omega)
      generalize vs.getD q 0 = m at *
      generalize env.getD m 0 = y at *
      generalize noOf sz ((vs.map fun v => env.getD v 0).take q) = no at *
      have i1 := IntWalk.i64_in (no * sz) (by omega)
      have i2 := IntWalk.i64_in (no * sz + y) (by omega)
      have hm12 : (m : Int) < 12 := by omega
      clear hmul hmul0 HT HPUT HBD HEV HTK HIX HNT HLIT HVE HK
      go_wp2_with fail
      go_region_held3 (fun w' => Bel wr w' ∧ w'.cell? ⟨p4, 0, none⟩ = some (.int .i64 sz) ∧ w'.cell? ⟨be, offe + m, none⟩ = some (.int .i64 y))
        (first | exact ⟨Bel.drew0 _, r40, hce⟩ | fail)
        (first | fail)
      go_wp2_with fail
      go_roundw
      case rel => exact ⟨q+1, by omega, by go_num, by rw [HS.out], hb.step (Bel.drew0 _)⟩
      case measure => simp [intOf]; omega
    · obtain rfl : q = n := by omega
      rw [HIX.out] at hn0 ⊢
      have hT := Lib.hid (HT.out.chg (Chg.of_bel (lo := 0) (hi := 0) hb) (.inl (Nat.zero_le _)) (.inl (Nat.zero_le _)))
      have HP2 : Hid (∀ (w' : World) (y : Int), Chg bk (bk+1) wr w' → (y = if B then 2 else 1) → OwnI bk (bk + 1) w' (.slice (some ⟨bk, 0, none⟩) ks.length ks.length) (ks.set N y) → Tst ar sz tb L H lo hi x p7 p4 p8 p3 p5 bk a7 c7 v u u1 u2 (ks.set N y) w') := fun w' y k hy ho =>
        hT.out.put k (by simp) ho (HPUT.out y hy)
      obtain ⟨bb, oo, hbb, -, -, hcN, hfN, hst⟩ := (v8.below hb).at N hNl
      simp only [Option.some.injEq, Addr.mk.injEq, and_true] at hbb
      obtain ⟨rfl, rfl⟩ := hbb
      rw [Nat.zero_add] at hcN hfN hst
      have hNk : (N : Int) < ks.length := by omega
      have r8 := hb.at (by omega) s8
      have hSE := Lib.hid (HVE.out.below hb)
      have hLIT := Lib.hid (fun (w' : World) (k : Chg bk (bk+1) wr w') => HLIT.out w' ((v3.below hb).chg k (by omega)) ((v4.below hb).chg k (by omega)) ((v51.below hb).chg k (by omega)) ((v52.below hb).chg k (by omega)) (hSE.out.chg k hd))
      have r3 := hb.at (by omega) s3
      have r40 := hb.at (by omega) s40
      have r41 := hb.at (by omega) s41
      have r50 := hb.at (by omega) s50
      have r51 := hb.at (by omega) s51
      have r52 := hb.at (by omega) s52
      have hz := hb.size
      have hCH := Lib.hid (Chg.of_bel (lo := bk) (hi := bk+1) hb)
      clear HT HPUT HBD HEV HTK HIX HNT HLIT HVE hr7 hre s7 s40 s41 v4 s3 v3 s50 s51 s52 v51 v52 s8 v8 HNL
      generalize ks.getD N 0 = k0 at *
      rcases HK.out with rfl | hk0
      · have k3 := Chg.set (lo := bk) (hi := bk+1) wr (p := ⟨bk, N, none⟩) (Nat.le_refl _) (Nat.lt_succ_self _) (.int .i64 1)
        have g3 := k3.cell (by omega) (by omega) r3
        have g40 := k3.cell (by omega) (by omega) r40
        have g41 := k3.cell (by omega) (by omega) r41
        have g50 := k3.cell (by omega) (by omega) r50
        have g51 := k3.cell (by omega) (by omega) r51
        have g52 := k3.cell (by omega) (by omega) r52
        have g8 := k3.cell (by omega) (by omega) r8
        have gN := World.cell?_setCell_same wr ⟨bk, N, none⟩ (.int .i64 1) hcN
        have gf : (wr.setCell ⟨bk, N, none⟩ (.int .i64 1)).frozen? ⟨bk, N, none⟩ = false := by rw [World.frozen?_setCell]; exact hfN
        have HL := Lib.hid (hLIT.out _ k3)
        have HO := Lib.hid (hst 1)
        have hz3 := k3.size
        have K3 := Lib.hid k3
        clear hLIT hst k3
        go_wp2_with fail
        refine HL.out.mono ?_; rintro e w4 ⟨rfl, hb4⟩
        have d8 := hb4.at (by omega) g8
        have dN := hb4.at (World.block_lt_of_cell? _ ⟨_, _, none⟩ gN) gN
        have df := (hb4.frozen (p := ⟨bk, N, none⟩) (World.block_lt_of_cell? _ ⟨_, _, none⟩ gN)).trans gf
        have HO4 := HO.out.below hb4
        have K4 := K3.out.trans (Chg.of_bel hb4)
        cases B with
        | false =>
          have hT4 := HP2.out w4 1 K4 rfl HO4
          go_wp2_with fail
          go_ret
          exact ⟨rfl, _, hT4, hCH.out.trans K4⟩
        | true =>
          obtain ⟨b5', o5', e5, -, -, -, -, hst5⟩ := HO4.at N (by simpa using hNl)
          simp only [Option.some.injEq, Addr.mk.injEq, and_true] at e5
          obtain ⟨rfl, rfl⟩ := e5
          rw [Nat.zero_add] at hst5
          have HO5 := hst5 2
          rw [List.set_set] at HO5
          have k5 := Chg.set (lo := bk) (hi := bk+1) w4 (p := ⟨bk, N, none⟩) (Nat.le_refl _) (Nat.lt_succ_self _) (.int .i64 2)
          have hz4 := hb4.size
          have f8 := k5.cell (by omega) (by omega) d8
          have fN := World.cell?_setCell_same w4 ⟨bk, N, none⟩ (.int .i64 2) dN
          have hT5 := HP2.out _ 2 (K4.trans k5) rfl HO5
          have K5 := hCH.out.trans (K4.trans k5)
          go_wp2_with fail
          go_ret
          exact ⟨rfl, _, hT5, K5⟩
      · cases B with
        | false =>
          obtain rfl : k0 = 1 := hk0
          go_wp2_with fail
          go_ret
          exact ⟨rfl, _, hT.out, hCH.out⟩
        | true =>
          obtain rfl : k0 = 2 := hk0
          go_wp2_with fail
          go_ret
          exact ⟨rfl, _, hT.out, hCH.out⟩
end Go.Proofs.Ytnldienjkejfcaa
end
section
/- Chapter 4, the program: VarsIn. -/
namespace Go.Proofs.Ytnldienjkejfcaa
open Go.RowKit

set_option maxRecDepth 100000 in
set_option maxHeartbeats 400000 in
theorem concat_nil (w : World) : Calls Try.prog 83 #[.slice none 0 0] w (RetI w []) := by
  go_enter Try.func83, Try.ntmps83
  go_wp2_with fail
  go_loop [3, 11] (fun n i => n = .int .i64 0 ∧ i = .int .i64 0) (fun _ _ => 0)
  case atStart => exact ⟨rfl, rfl⟩
  case round =>
    obtain ⟨rfl, rfl⟩ := hrel
    go_wp2_with fail
    refine (grow_c 0 _ (by omega)).mono ?_; rintro e w1 ⟨ad, m, c1, rfl, hown, hb⟩
    go_wp2_with fail
    go_loopw [6, 27] (fun v i wr => i = .int .i64 0 ∧ v = .slice ad m c1 ∧ wr = w1) (fun _ _ _ => 0)
    case atStart => exact ⟨rfl, rfl, rfl⟩
    case round =>
      obtain ⟨rfl, rfl, rfl⟩ := hrel
      go_wp2_with fail
      go_ret
      exact ⟨_, _, _, rfl, OwnI.of_row hown, hb⟩
theorem concatV_c (W : World) (v : Value) (L : List (List Int)) (w : World) (hb : Bel W w) (hL : L.length ≤ 1048576) (hs : sumLen L ≤ 1099511627776) (hv : RowV W w v L) :
    Calls Try.prog 83 #[v] w (RetI w L.flatten) := by
  have hsl := hv.sls hb
  obtain ⟨zs, h1, h2⟩ := hv
  rcases h1.2 with ⟨rfl, hn⟩ | ⟨g, cap, cur, rfl, _⟩
  · have : L = [] := List.length_eq_zero_iff.1 (by rw [← h2.1]; exact hn)
    subst this
    exact concat_nil w
  · obtain ⟨ad, cap', e, hc, hm, hr⟩ := hsl
    simp only [Value.slice.injEq] at e
    obtain ⟨rfl, e2, rfl⟩ := e
    rw [e2]
    refine concat_c 0 w.heap.size g 0 cap L w hL hs (fun j hj => ?_)
    obtain ⟨b, off, e3, _, _, hx⟩ := hr (by omega)
    simp only [Option.some.injEq, Addr.mk.injEq, and_true] at e3
    obtain ⟨rfl, rfl⟩ := e3
    obtain ⟨u, h1, h2⟩ := hx j hj
    obtain ⟨y, z, rfl⟩ := h2.form
    exact ⟨y, z, h1, h2⟩

set_option maxRecDepth 100000 in
set_option maxHeartbeats 400000 in
theorem clauseVars_c {l' h' : Nat} {u : Value} {c : List Lt} {w : World} (hsum : sumL (flatC c) ≤ 1048576) (h8 : c.length ≤ 8) (hlow : ∀ k, k < (flatC c).flatten.length → -12 ≤ (flatC c).flatten.getD k 0) (hu : SlC l' h' w u c) :
    Calls Try.prog 78 #[u] w (RetI w (natsI (varsTo (mk (flatC c).flatten) 12))) := by
  have hfl := flatC_len c
  have HC := Lib.hid (termsIn_c l' h' u c w (by omega) hu)
  have hcl : c.length ≤ 1048576 := by omega
  clear hu
  go_enter Try.func78, Try.ntmps78
  go_wp2_with fail
  refine HC.out.mono ?_; rintro e w2 ⟨a2, n2, c2, rfl, hrow, hb2⟩
  have hsl : sumLen (flatC c) = sumL (flatC c) := rfl
  have hfn := flat_len (flatC c)
  generalize flatC c = L at *
  go_wp2_with fail
  refine (concatV_c w _ L w2 hb2 (by omega) (by omega) hrow).mono ?_; rintro e w3 ⟨a3, n3, c3, rfl, ho3, hb3⟩
  go_wp2_with fail
  refine (marksOf_c _ _ _ L.flatten w3 (by omega) hlow ho3.sl).mono ?_; rintro e w4 ⟨rfl, hb4⟩
  go_wp2_with fail
  refine (mvars_c _ w4).mono ?_; rintro e w5 ⟨a5, n5, c5, rfl, ho5, hb5⟩
  have HB4 := (hb2.step hb3).step hb4
  go_wp2_with fail
  go_ret
  exact ⟨_, _, _, rfl, ho5.mono HB4.size (Nat.le_refl _), HB4.step hb5⟩

set_option maxRecDepth 100000 in
set_option maxHeartbeats 400000 in
theorem iVarsIn_t {l h l' h' : Nat} {v u : Value} {ar : List Int} {c : List Lt} {w : World} (ha : ar.length ≤ 1048576) (hv : SlI l h w v ar) (hc : sumC c ≤ 1048576) (hu : SlC l' h' w u c) :
    Calls Try.prog 73 #[.agg #[v], u] w (RetIB w (varsInAns ar c) (goodClause ar c)) := by
  unfold varsInAns
  cases hg : goodClause ar c with
  | false =>
    rw [if_neg (by simp)]
    have HG := Lib.hid hg; clear hg
    go_enter Try.func73, Try.ntmps73
    go_wp2_with fail
    refine (iGoodClause_v HG.out ha (hv.alloc _) hc (hu.alloc _)).mono ?_; rintro e w1 ⟨rfl, hb1⟩
    go_wp2_with fail
    go_ret2
    exact ⟨_, _, _, rfl, OwnI.nil _ _ _, hb1.of_alloc⟩
  | true =>
    rw [if_pos rfl]
    have hsum := (short_flat hc).1
    have hlow := flat_low hg
    have h8 := (goodClause_iff.1 hg).2.1
    have HG := Lib.hid hg; clear hg
    have HC := Lib.hid (fun (w' : World) (hb : Bel w w') => clauseVars_c hsum h8 hlow (hu.below hb))
    go_enter Try.func73, Try.ntmps73
    go_wp2_with fail
    refine (iGoodClause_v HG.out ha (hv.alloc _) hc (hu.alloc _)).mono ?_; rintro e w1 ⟨rfl, hb1⟩
    clear hc hu hv hlow
    go_wp2_with fail
    refine (HC.out _ hb1.of_alloc).mono ?_; rintro e w5 ⟨a5, n5, c5, rfl, ho5, hb5⟩
    go_wp2_with fail
    go_ret2
    exact ⟨_, _, _, rfl, ho5.mono hb1.of_alloc.size (Nat.le_refl _), hb1.of_alloc.step hb5⟩
end Go.Proofs.Ytnldienjkejfcaa
end
section
/- Chapter 5, the program: a literal's test, made. -/
namespace Go.Proofs.Ytnldienjkejfcaa
open Go.RowKit

/-- The function that tests. -/
def tstF (p7 p4 p8 p3 p5 : Nat) : Value := .func (.func 85) #[] #[.pointer (some ⟨p7, 0, none⟩), .pointer (some ⟨p4, 0, none⟩), .pointer (some ⟨p8, 0, none⟩), .pointer (some ⟨p3, 0, none⟩), .pointer (some ⟨p5, 0, none⟩)]
def RetT1 (ar : List Int) (sz : Int) (tb : List (List Int)) (L H : Nat) (x : Lt) (v u u1 u2 : Value) (w : World) (e : Ending) (w' : World) : Prop :=
  ∃ (p7 p4 p8 p3 p5 bk : Nat) (a7 : Option Addr) (c7 : Nat) (ks : List Int), e = .returned (tstF p7 p4 p8 p3 p5) ∧ Tst ar sz tb L H w.heap.size w'.heap.size x p7 p4 p8 p3 p5 bk a7 c7 v u u1 u2 ks w' ∧ Bel w w'

/-- One literal in a block of its own. -/
theorem slc_one {w : World} {x : Lt} {u1 u2 : Value} {t : TypeId} (g : Nat) (hg : g = w.heap.size) (h1 : SlI 0 w.heap.size w u1 x.2.1) (h2 : SlI 0 w.heap.size w u2 x.2.2) :
    SlC 0 (w.alloc (.cells #[.bool x.1, u1, u2] t)).heap.size (w.alloc (.cells #[.bool x.1, u1, u2] t)) (.slice (some ⟨g, 0, none⟩) 1 1) [x] := by
  subst hg
  have hb := Bel.alloc0 w (.cells #[.bool x.1, u1, u2] t)
  have hc : ∀ i v, (#[Value.bool x.1, u1, u2])[i]? = some v → (w.alloc (.cells #[.bool x.1, u1, u2] t)).cell? ⟨w.heap.size, i, none⟩ = some v := fun i v h => by rw [World.cell?_alloc_new w]; exact h
  refine ⟨_, 1, rfl, Nat.le_refl _, ⟨by unfold maxLen; omega, fun h => by simp at h⟩, fun _ => ⟨w.heap.size, 0, rfl, Nat.zero_le _, by simp, fun j hj => ?_⟩⟩
  match j, hj with
  | 0, _ => exact ⟨u1, u2, hc 0 _ rfl, hc 1 _ rfl, hc 2 _ rfl, (h1.below hb).mono (Nat.le_refl _) hb.size, (h2.below hb).mono (Nat.le_refl _) hb.size⟩

set_option maxRecDepth 100000 in
set_option maxHeartbeats 2000000 in
theorem litTest_c (ar : List Int) (Z : Nat) (tb : List (List Int)) (L H : Nat) (x : Lt) (v u u1 u2 : Value) (w : World) (z1 : 1 ≤ Z) (z3 : Z ≤ 3) (hH : H ≤ w.heap.size)
    (o1 : okTerm ar x.2.1 = true) (o2 : okTerm ar x.2.2 = true)
    (hv : SlI L H w v ar) (hu : SlS L H w u tb) (s1 : SlI L H w u1 x.2.1) (s2 : SlI L H w u2 x.2.2) :
    Calls Try.prog 79 #[.agg #[v], .agg #[.int .i64 (Z : Int), u], .agg #[.bool x.1, u1, u2]] w (RetT1 ar Z tb L H x v u u1 u2 w) := by
  obtain ⟨i0, hi0, hz0, hz1, hz2⟩ := info_parts Try.info3
  have hx1 := ((okTerm_iff ar x.2.1).1 o1).2.1
  have hx2 := ((okTerm_iff ar x.2.2).1 o2).2.1
  have HB : Bel w ((((w.alloc (.cells #[v] 30)).alloc (.cells #[.int .i64 (Z : Int), u] 44)).alloc (.cells #[.bool x.1, u1, u2] 59)).alloc (.cells #[.bool x.1, u1, u2] 59)) := (Bel.alloc3 _ _ _ _).alloc _
  have hsl := slc_one (w := ((w.alloc (.cells #[v] 30)).alloc (.cells #[.int .i64 (Z : Int), u] 44)).alloc (.cells #[.bool x.1, u1, u2] 59)) (t := 59) (w.heap.size + 1 + 1 + 1) (by simp) (s1.below (Bel.alloc3 _ _ _ _)).in' (s2.below (Bel.alloc3 _ _ _ _)).in'
  have hfc : flatC [x] = [x.2.1, x.2.2] := rfl
  have HV := Lib.hid (clauseVars_c (by rw [hfc]; simp [sumL]; omega) (by simp) (fun k hk => by
    have hm := mem_gd _ 0 k hk
    rw [hfc] at hm ⊢
    simp only [List.flatten_cons, List.flatten_nil, List.append_nil, List.mem_append] at hm ⊢
    rcases hm with h | h
    · exact ok_low o1 h
    · exact ok_low o2 h) hsl)
  have KX : Hid (∀ w', Bel ((((w.alloc (.cells #[v] 30)).alloc (.cells #[.int .i64 (Z : Int), u] 44)).alloc (.cells #[.bool x.1, u1, u2] 59)).alloc (.cells #[.bool x.1, u1, u2] 59)) w' → (w'.cell? ⟨w.heap.size, 0, none⟩ = some v ∧ w'.cell? ⟨w.heap.size + 1, 0, none⟩ = some (.int .i64 (Z : Int)) ∧ w'.cell? ⟨w.heap.size + 1, 1, none⟩ = some u) ∧ w'.cell? ⟨w.heap.size + 1 + 1, 0, none⟩ = some (.bool x.1) ∧ w'.cell? ⟨w.heap.size + 1 + 1, 1, none⟩ = some u1 ∧ w'.cell? ⟨w.heap.size + 1 + 1, 2, none⟩ = some u2) := fun w' hq =>
    ⟨⟨hq.at (by simp; omega) (by simp [go_sem]), hq.at (by simp) (by simp [go_sem]), hq.at (by simp) (by simp [go_sem])⟩, hq.at (by simp) (by simp [go_sem]), hq.at (by simp) (by simp [go_sem]), hq.at (by simp) (by simp [go_sem])⟩
  have HL := Lib.hid (fun (w' : World) => tableLength_g Z (varsC [x]).length w' z3 (varsTo_len _ _))
  have hpw := pw_le12 z3 (varsTo_len (mk (flatC [x]).flatten) 12)
  have hpos : 0 < Z ^ (varsC [x]).length := Nat.pow_pos (by omega)
  have hvl : (varsC [x]).length ≤ 12 := varsTo_len _ _
  have HKN := Lib.hid (Known.new ar Z tb x)
  have HVC : Hid (varsTo (mk (flatC [x]).flatten) 12 = varsC [x]) := rfl
  rw [show varsTo (mk (flatC [x]).flatten) 12 = varsC [x] from rfl] at hpw HV
  go_enter Try.func79, Try.ntmps79
  go_wp2_with fail
  refine HV.out.mono ?_; rintro e w2 ⟨a2, n2, c2, rfl, o2', hb2⟩
  have hn2 : n2 = (varsC [x]).length := by
    obtain ⟨_, _, e, _⟩ := o2'.sl
    simp only [Value.slice.injEq] at e
    rw [e.2.1]; simp [natsI]
  subst hn2
  have k0 := (KX.out _ (hb2.alloc (.cells #[.slice a2 (varsC [x]).length c2] 22))).1.2.1
  generalize hLL : Z ^ (varsC [x]).length = LL at *
  have HVL := Lib.hid hLL
  clear hLL hsl
  go_wp2_with fail
  refine (HL.out _).mono ?_; rintro e w3 ⟨rfl, hb3⟩
  go_wp2_with (at_make; refine wpList_make_full _ rfl _ _ 22 rfl w3.heap.size 3 i0 (.int .i64 0) 1 Try.underlying22 hi0 hz0 hz1 _ _ _ _ LL rfl rfl rfl rfl (by rw [hz2]; omega) (by unfold maxLen; omega) (Nat.le_refl _) ?_; intro w4 hown hg4)
  go_ret
  have hbf : Bel w3 (w4.alloc (.cells #[.slice (some ⟨w3.heap.size, 0, none⟩) LL LL] 22)) := ((Bel.rfl' w3).grown hg4 (by simp)).alloc _
  have hb2f : Bel w2 (w4.alloc (.cells #[.slice (some ⟨w3.heap.size, 0, none⟩) LL LL] 22)) := ((Bel.alloc0 w2 (.cells #[.slice a2 (varsC [x]).length c2] 22)).step hb3).step hbf
  have hwf := HB.step (hb2.step hb2f)
  have hk := KX.out _ (hb2.step hb2f)
  have z2 := hb2.size
  have z3' := hb3.size
  have z4 := ((Bel.rfl' w3).grown hg4 (by simp)).size
  simp only [World.size_alloc] at z2 z3'
  have hown' : w4.ownsRow w3.heap.size 3 1 (.slice (some ⟨w3.heap.size, 0, none⟩) LL LL) (List.replicate LL (0 : Int)).length ((List.replicate LL (0 : Int)).map (Value.int .i64)) := by
    have h := madeI_0 (List.replicate LL (0 : Int))
    rw [List.length_replicate] at h ⊢
    have h2 : madeI (List.replicate LL (0 : Int)) 0 = List.replicate LL 0 := by simp [madeI]
    rw [h2] at h
    rw [← h]; exact hown
  have ho8 := row_oneCell hown' rfl (by rw [List.length_replicate]; exact hpos)
  have hk4 : w3.heap.size < w4.heap.size := by
    obtain ⟨b, off, e, -, -, hc, -, -⟩ := ho8.at 0 (by rw [List.length_replicate]; exact hpos)
    simp only [Option.some.injEq, Addr.mk.injEq, and_true] at e
    obtain ⟨rfl, rfl⟩ := e
    exact World.block_lt_of_cell? _ ⟨_, _, none⟩ hc
  refine ⟨w2.heap.size, w.heap.size + 1, w4.heap.size, w.heap.size, w.heap.size + 1 + 1, w3.heap.size, a2, c2, List.replicate LL 0, rfl, ?_, hwf⟩
  refine ⟨by omega, by omega, by omega, by omega, by simp; omega, hH, Nat.le_refl _, ?_, ?_, hk.1.2.1, hk.1.2.2, hu.below hwf, hk.1.1, hv.below hwf, hk.2.1, hk.2.2.1, hk.2.2.2, s1.below hwf, s2.below hwf, ?_, ?_, ?_⟩
  · exact (hb3.step hbf).at (by simp) (by simp [go_sem])
  · exact (o2'.sl.mono (by simp; omega) (Nat.le_refl _)).below hb2f
  · rw [List.length_replicate]; simp [go_sem]
  · rw [List.length_replicate]; exact ho8.alloc _
  · rw [← HVL.out] ; have h := HKN.out; rwa [Int.toNat_natCast] at h
end Go.Proofs.Ytnldienjkejfcaa
end
section
/- Chapter 5, the program: the tests of a clause's literals. -/
namespace Go.Proofs.Ytnldienjkejfcaa
open Go.RowKit

/-- Where a test lies. -/
structure TR where
  (lo hi p7 p4 p8 p3 p5 bk c7 : Nat)
  (a7 : Option Addr)
  (u1 u2 : Value)
def TR.f (r : TR) : Value := tstF r.p7 r.p4 r.p8 r.p3 r.p5
def TR.ok (ar : List Int) (sz : Int) (tb : List (List Int)) (L H : Nat) (v u : Value) (x : Lt) (r : TR) (w : World) : Prop :=
  ∃ ks, Tst ar sz tb L H r.lo r.hi x r.p7 r.p4 r.p8 r.p3 r.p5 r.bk r.a7 r.c7 v u r.u1 r.u2 ks w
theorem TR.ok.chg {ar : List Int} {sz : Int} {tb : List (List Int)} {L H : Nat} {v u : Value} {x : Lt} {r : TR} {w w' : World} {l' h' : Nat} (t : TR.ok ar sz tb L H v u x r w) (k : Chg l' h' w w') (d1 : h' ≤ r.lo ∨ r.hi ≤ l') (d2 : h' ≤ L ∨ H ≤ l') : TR.ok ar sz tb L H v u x r w' := by
  obtain ⟨ks, h⟩ := t
  exact ⟨ks, h.chg k d1 d2⟩
def Tests (ar : List Int) (sz : Int) (tb : List (List Int)) (L H : Nat) (v u : Value) (base : Nat) (c : List Lt) (rs : List TR) (w : World) : Prop :=
  rs.length = c.length ∧ ∀ (j : Nat) (x : Lt) (r : TR), c[j]? = some x → rs[j]? = some r → base ≤ r.lo ∧ TR.ok ar sz tb L H v u x r w ∧ ∀ (i : Nat) (r' : TR), i < j → rs[i]? = some r' → r'.hi ≤ r.lo
section
variable {ar : List Int} {sz : Int} {tb : List (List Int)} {L H : Nat} {v u : Value} {base : Nat} {c : List Lt} {rs : List TR} {w w' : World}
theorem Tests.nil : Tests ar sz tb L H v u base [] [] w := ⟨rfl, fun j x r h => by simp at h⟩
theorem Tests.get (t : Tests ar sz tb L H v u base c rs w) {r : TR} (hr : r ∈ rs) : ∃ (j : Nat) (x : Lt), c[j]? = some x ∧ rs[j]? = some r := by
  obtain ⟨j, hj, e⟩ := List.mem_iff_getElem.1 hr
  exact ⟨j, c[j]'(by have := t.1; omega), by rw [List.getElem?_eq_getElem (by have := t.1; omega)], by rw [List.getElem?_eq_getElem hj, e]⟩
theorem Tests.cur (t : Tests ar sz tb L H v u base c rs w) {r : TR} (hr : r ∈ rs) : base ≤ r.lo ∧ r.lo ≤ r.p7 ∧ r.p7 < r.bk ∧ r.bk < r.hi ∧ r.hi ≤ w.heap.size ∧ H ≤ r.lo := by
  obtain ⟨j, x, h1, h2⟩ := t.get hr
  obtain ⟨a, ⟨ks, k⟩, _⟩ := t.2 j x r h1 h2
  have := k.b7; have := k.b8; have := k.cur; have := k.old
  omega
theorem Tests.chg (t : Tests ar sz tb L H v u base c rs w) {l' h' : Nat} (k : Chg l' h' w w') (d1 : ∀ r ∈ rs, h' ≤ r.lo ∨ r.hi ≤ l') (d2 : h' ≤ L ∨ H ≤ l') : Tests ar sz tb L H v u base c rs w' :=
  ⟨t.1, fun j x r h1 h2 => by
    obtain ⟨a, b, d⟩ := t.2 j x r h1 h2
    exact ⟨a, b.chg k (d1 r (List.mem_of_getElem? h2)) d2, d⟩⟩
theorem Tests.bel (t : Tests ar sz tb L H v u base c rs w) (k : Bel w w') : Tests ar sz tb L H v u base c rs w' :=
  t.chg (Chg.of_bel (lo := 0) (hi := 0) k) (fun _ _ => .inl (Nat.zero_le _)) (.inl (Nat.zero_le _))
/-- One test remembers. -/
theorem Tests.put (t : Tests ar sz tb L H v u base c rs w) {j : Nat} {x : Lt} {r : TR} (h1 : c[j]? = some x) (h2 : rs[j]? = some r) (k : Chg r.bk (r.bk+1) w w') (ho : TR.ok ar sz tb L H v u x r w') : Tests ar sz tb L H v u base c rs w' :=
  ⟨t.1, fun i y s g1 g2 => by
    obtain ⟨a, b, d⟩ := t.2 i y s g1 g2
    refine ⟨a, ?_, d⟩
    have hc := t.cur (List.mem_of_getElem? h2)
    by_cases e : i = j
    · subst e
      rw [h1] at g1; rw [h2] at g2
      simp only [Option.some.injEq] at g1 g2
      subst g1; subst g2
      exact ho
    · refine b.chg k ?_ (.inr (by omega))
      rcases Nat.lt_or_gt_of_ne e with h | h
      · have := (t.2 j x r h1 h2).2.2 i s h g2
        right; omega
      · have := d j r h h2
        left; omega⟩
theorem Tests.snoc (t : Tests ar sz tb L H v u base c rs w) {x : Lt} {r : TR} (hb : base ≤ r.lo) (ho : TR.ok ar sz tb L H v u x r w) (hl : ∀ r' ∈ rs, r'.hi ≤ r.lo) : Tests ar sz tb L H v u base (c ++ [x]) (rs ++ [r]) w := by
  refine ⟨by simp [t.1], fun j y s h1 h2 => ?_⟩
  by_cases hj : j < rs.length
  · have hjc : j < c.length := by have := t.1; omega
    rw [List.getElem?_append_left hjc] at h1
    rw [List.getElem?_append_left hj] at h2
    obtain ⟨a, b, d⟩ := t.2 j y s h1 h2
    exact ⟨a, b, fun i r' hi h3 => d i r' hi (by rwa [List.getElem?_append_left (by omega)] at h3)⟩
  · have hjl : j = rs.length := by
      have := (List.getElem?_eq_some_iff.1 h2).1
      simp at this
      omega
    subst hjl
    rw [List.getElem?_append_right (Nat.le_refl _), Nat.sub_self] at h2
    rw [List.getElem?_append_right (by have := t.1; omega), show rs.length - c.length = 0 by have := t.1; omega] at h1
    simp only [List.getElem?_cons_zero, Option.some.injEq] at h1 h2
    subst h1; subst h2
    exact ⟨hb, ho, fun i r' hi h3 => hl r' (List.mem_of_getElem? (by rwa [List.getElem?_append_left hi] at h3))⟩
end
/-- The tests, the variable that holds them and their array. -/
structure TS (ar : List Int) (sz : Int) (tb : List (List Int)) (L H : Nat) (v u : Value) (base top pT : Nat) (ad : Option Addr) (cap : Nat) (c : List Lt) (rs : List TR) (w : World) : Prop where
  tests : Tests ar sz tb L H v u base c rs w
  pt : pT < base
  tops : ∀ r ∈ rs, r.hi ≤ top
  cur : base ≤ top ∧ top ≤ w.heap.size
  cell : w.cell? ⟨pT, 0, none⟩ = some (.slice ad rs.length cap)
  fn : 0 < rs.length → ∃ bT, ad = some ⟨bT, 0, none⟩ ∧ (∀ r ∈ rs, bT < r.lo ∨ r.hi ≤ bT) ∧ ∀ j r, rs[j]? = some r → w.cell? ⟨bT, j, none⟩ = some r.f
section
variable {ar : List Int} {sz : Int} {tb : List (List Int)} {L H : Nat} {v u : Value} {base top pT : Nat} {ad : Option Addr} {cap : Nat} {c : List Lt} {rs : List TR} {w w' : World}
theorem TS.put (t : TS ar sz tb L H v u base top pT ad cap c rs w) {j : Nat} {x : Lt} {r : TR} (h1 : c[j]? = some x) (h2 : rs[j]? = some r) (k : Chg r.bk (r.bk+1) w w') (ho : TR.ok ar sz tb L H v u x r w') : TS ar sz tb L H v u base top pT ad cap c rs w' := by
  have hm := List.mem_of_getElem? h2
  have hc := t.tests.cur hm
  refine ⟨t.tests.put h1 h2 k ho, t.pt, t.tops, ⟨t.cur.1, Nat.le_trans t.cur.2 k.size⟩, k.cell (World.block_lt_of_cell? _ ⟨_, _, none⟩ t.cell) (.inl (by have := t.pt; omega)) t.cell, fun hp => ?_⟩
  obtain ⟨bT, e, d, f⟩ := t.fn hp
  refine ⟨bT, e, d, fun i s hs => k.cell (World.block_lt_of_cell? _ ⟨_, _, none⟩ (f i s hs)) ?_ (f i s hs)⟩
  have := d r hm
  omega
theorem TS.chg (t : TS ar sz tb L H v u base top pT ad cap c rs w) {l' h' : Nat} (k : Chg l' h' w w') (d1 : top ≤ l') (d2 : H ≤ l') (hT : ∀ bT, ad = some ⟨bT, 0, none⟩ → bT < l' ∨ h' ≤ bT) : TS ar sz tb L H v u base top pT ad cap c rs w' := by
  refine ⟨t.tests.chg k (fun r hr => .inr (by have := t.tops r hr; omega)) (.inr d2), t.pt, t.tops, ⟨t.cur.1, Nat.le_trans t.cur.2 k.size⟩, k.cell (World.block_lt_of_cell? _ ⟨_, _, none⟩ t.cell) (.inl (by have := t.pt; have := t.cur.1; omega)) t.cell, fun hp => ?_⟩
  obtain ⟨bT, e, d, f⟩ := t.fn hp
  exact ⟨bT, e, d, fun i s hs => k.cell (World.block_lt_of_cell? _ ⟨_, _, none⟩ (f i s hs)) (hT bT e) (f i s hs)⟩
end
end Go.Proofs.Ytnldienjkejfcaa
end
section
/- Chapter 5, the program: what makes all literals false. -/
namespace Go.Proofs.Ytnldienjkejfcaa
open Go.RowKit

def RetTS (ar : List Int) (sz : Int) (tb : List (List Int)) (L H : Nat) (v u : Value) (base top pT : Nat) (ad : Option Addr) (cap : Nat) (c : List Lt) (rs : List TR) (w : World) (b : Bool) (e : Ending) (w' : World) : Prop :=
  e = .returned (.bool b) ∧ TS ar sz tb L H v u base top pT ad cap c rs w' ∧ Chg base top w w'

set_option maxRecDepth 100000 in
set_option maxHeartbeats 2000000 in
theorem falseAt1_c {ar : List Int} {sz : Int} {tb : List (List Int)} {L H : Nat} {v u : Value} {base top pT : Nat} {ad : Option Addr} {cap : Nat} {c : List Lt} {rs : List TR} {w : World}
    (t : TS ar sz tb L H v u base top pT ad cap c rs w) (hg : goodSign ar = true) (hw : isWorld ar sz tb = true) (hok : okLits ar c = true)
    (l3 h3 : Nat) (ve : Value) (env : List Int) (he : okEnv sz env = true) (hve : SlI l3 h3 w ve env) (hd : top ≤ l3 ∨ h3 ≤ base) :
    Calls Try.prog 80 #[ve, .pointer (some ⟨pT, 0, none⟩)] w (RetTS ar sz tb L H v u base top pT ad cap c rs w (!clH ar sz tb env c)) := by
  have hcl : rs.length = c.length := t.tests.1
  have h8 := (okLits_iff.1 hok).1
  have HOK := Lib.hid (fun k hk => okLits_get (okLits_iff.1 hok).2 k hk)
  have HT := Lib.hid t
  have hcell := t.cell
  have HS1 := Lib.hid (fun k hk h => any_split c (litH ar sz tb env) k hk h)
  have HS2 := Lib.hid (fun k hk h => any_true c (litH ar sz tb env) k hk h)
  have HCL := Lib.hid hcl
  rw [hcl] at hcell
  clear t hok hcl
  go_enter Try.func80, Try.ntmps80
  go_wp2_with fail
  go_loopw [8] (fun i wr => ∃ k : Nat, k ≤ c.length ∧ i = .int .i64 k ∧ (c.take k).any (litH ar sz tb env) = false ∧ TS ar sz tb L H v u base top pT ad cap c rs wr ∧ Chg base top w wr) (fun i _ => c.length - (intOf i).toNat)
  case atStart => exact ⟨0, Nat.zero_le _, rfl, rfl, HT.out, Chg.refl _ _ _⟩
  case round =>
    obtain ⟨k, hk, rfl, hf, ht, hc⟩ := hrel
    by_cases hlt : k < c.length
    · obtain ⟨bT, rfl, hbT, hfn⟩ := ht.fn (by have := HCL.out; omega)
      obtain ⟨r, hr⟩ : ∃ r, rs[k]? = some r := ⟨_, List.getElem?_eq_getElem (by have := HCL.out; omega)⟩
      have hx : c[k]? = some (c.getD k lt0) := by simp [List.getD, hlt]
      have hfk := hfn k r hr
      obtain ⟨hb0, ⟨ks, htst⟩, -⟩ := ht.tests.2 k _ r hx hr
      have hcu := ht.tests.cur (List.mem_of_getElem? hr)
      have htop := ht.tops r (List.mem_of_getElem? hr)
      have hox := HOK.out k hlt
      have HL := Lib.hid (litTest1_c htst hg hw hox.1 hox.2 l3 h3 ve env he (hve.chg hc (by omega)) (by omega))
      have hw0 : wr.cell? ⟨pT, 0, none⟩ = some (.slice (some ⟨bT, 0, none⟩) c.length cap) := by have := ht.cell; rwa [HCL.out] at this
      unfold TR.f tstF at hfk
      have HTS := Lib.hid (HS1.out k hlt hf)
      have HTR := Lib.hid (HS2.out k hlt)
      generalize litH ar sz tb env (c.getD k lt0) = B at *
      have HPUT : Hid (∀ w', TR.ok ar sz tb L H v u (c.getD k lt0) r w' → Chg r.bk (r.bk+1) wr w' → TS ar sz tb L H v u base top pT (some ⟨bT, 0, none⟩) cap c rs w' ∧ Chg base top w w') := fun w' o q => ⟨ht.put hx hr q o, hc.trans (q.mono (by omega) (by omega))⟩
      clear hfn hr hx hbT ht htst hcu htop hox hc hcell HT HOK HS1 HS2
      cases B with
      | false =>
        go_wp2_with fail
        refine HL.out.mono ?_; rintro e w4 ⟨rfl, ks', T, q⟩
        obtain ⟨P1, P2⟩ := HPUT.out w4 ⟨ks', T⟩ q
        go_wp2_with fail
        go_roundw
        case rel => exact ⟨k+1, by omega, by go_num, HTS.out, P1, P2⟩
        case measure => simp [intOf]; omega
      | true =>
        have hcf : clH ar sz tb env c = true := HTR.out rfl
        rw [hcf]
        go_wp2_with fail
        refine HL.out.mono ?_; rintro e w4 ⟨rfl, ks', T, q⟩
        obtain ⟨P1, P2⟩ := HPUT.out w4 ⟨ks', T⟩ q
        go_wp2_with fail
        go_ret
        exact ⟨rfl, P1, P2⟩
    · obtain rfl : k = c.length := by omega
      rw [List.take_length] at hf
      have hcf : clH ar sz tb env c = false := hf
      go_wp2_with fail
      go_ret
      exact ⟨by rw [hcf]; rfl, ht, hc⟩
end Go.Proofs.Ytnldienjkejfcaa
end
section
/- Chapter 5, the reference: the least assignment. -/
namespace Go.Proofs.Ytnldienjkejfcaa
open Go.RowKit

def RetFal (eb eh : Nat) (ve : Value) (vs : List Nat) (e : List Int) (sz : Int) (w : World) (R : Option (List Int)) (x : Ending) (w' : World) : Prop :=
  match R with
  | some r => ∃ ad n k, x = .returned (.tuple #[.slice ad n k, .bool true]) ∧ OwnI w.heap.size w'.heap.size w' (.slice ad n k) r ∧ Chg eb eh w w'
  | none => ∃ ad n k, x = .returned (.tuple #[.slice ad n k, .bool false]) ∧ Chg eb eh w w' ∧ ∃ e2, OwnI eb eh w' ve e2 ∧ Off vs e e2 ∧ okEnv sz e2 = true
/-- The rest of a slice behind its first. -/
theorem SlI.rest {lo hi : Nat} {w : World} {b off n c : Nat} {x : Int} {xs : List Int} (h : SlI lo hi w (.slice (some ⟨b, off, none⟩) n c) (x :: xs)) (q : Nat) (hq : xs = [] ∨ q = off + 1) : SlI lo hi w (.slice (some ⟨b, q, none⟩) xs.length (c - 1)) xs := by
  obtain ⟨ad, cap, e, hc, hm, hr⟩ := h
  simp only [Value.slice.injEq] at e
  obtain ⟨rfl, rfl, rfl⟩ := e
  simp only [List.length_cons] at hc hr
  refine ⟨some ⟨b, q, none⟩, c - 1, rfl, by omega, ⟨by omega, fun h => by simp at h⟩, fun hp => ?_⟩
  obtain ⟨b', off', e', a1, a2, a3⟩ := hr (by omega)
  simp only [Option.some.injEq, Addr.mk.injEq, and_true] at e'
  obtain ⟨rfl, rfl⟩ := e'
  rcases hq with rfl | rfl
  · simp at hp
  · refine ⟨b, off + 1, rfl, a1, a2, fun j hj => ?_⟩
    have := a3 (j + 1) (by omega)
    rw [show off + 1 + j = off + (j + 1) by omega]
    exact this

set_option maxRecDepth 100000 in
set_option maxHeartbeats 4000000 in
theorem l5False_c (l h : Nat) (v u vc : Value) (ar : List Int) (Z : Nat) (tb : List (List Int)) (c : List Lt) (eb eh : Nat) (hg : goodSign ar = true) (hw : isWorld ar Z tb = true) (hok : okLits ar c = true) (hd : h ≤ eb ∨ eh ≤ l) (hbe : eh ≤ eb + 1) :
    ∀ (vars : List Nat) (e : List Int) (w : World) (vv ve : Value) (a b : Nat), (∀ x ∈ vars, x < 12) → vars.length ≤ 12 → okEnv Z e = true → SlI l h w v ar → SlS l h w u tb → SlC l h w vc c → SlI a b w vv (natsI vars) → OwnI eb eh w ve e → (b ≤ eb ∨ eh ≤ a) → eh ≤ w.heap.size →
      Calls Try.prog 72 #[.agg #[v], .agg #[.int .i64 (Z : Int), u], vc, vv, ve] w (RetFal eb eh ve vars e Z w (lw Z (fun e => clH ar Z tb e c) vars e)) := by
  obtain ⟨z1, z3, _⟩ := isWorld_iff.1 hw
  intro vars
  induction vars with
  | nil =>
    intro e w vv ve a b hvr hvl he hv hu hc hvv hve hdv hew
    obtain ⟨av, cv, rfl⟩ := hvv.form
    have hel := (okEnv_iff.1 he).1
    have HB : Bel w ((w.alloc (.cells #[v] 30)).alloc (.cells #[.int .i64 (Z : Int), u] 44)) := Bel.alloc2 _ _ _
    have KX : Hid (∀ w', Bel ((w.alloc (.cells #[v] 30)).alloc (.cells #[.int .i64 (Z : Int), u] 44)) w' → w'.cell? ⟨w.heap.size, 0, none⟩ = some v ∧ w'.cell? ⟨w.heap.size + 1, 0, none⟩ = some (.int .i64 (Z : Int)) ∧ w'.cell? ⟨w.heap.size + 1, 1, none⟩ = some u) := fun w' hb =>
      ⟨hb.at (by simp; omega) (by simp [go_sem]), hb.at (by simp) (by simp [go_sem]), hb.at (by simp) (by simp [go_sem])⟩
    have HO := Lib.hid (fun (w' : World) (hb : Bel w w') => l1Own_c eb eh ve e w' (by omega) (hve.sl.below hb))
    have HA := Lib.hid (fun (w' : World) (hb : Bel w w') => l5At_c l h l h l h eb eh v u vc ve ar Z tb c e w' hg hw he hok (hv.below hb) (hu.below hb) (hc.below hb) (hve.sl.below hb))
    have HVE := Lib.hid (fun (w' : World) (hb : Bel w w') => hve.below hb)
    have hnil : natsI [] = [] := rfl
    unfold lw
    generalize clH ar Z tb e c = P at *
    clear hv hu hc hvv hve hok hw hg hel
    obtain ⟨ae, ce, rfl⟩ : ∃ ae ce, ve = .slice ae e.length ce := by
      have := (HVE.out w (Bel.rfl' _)).1
      exact this.form
    cases P with
    | true =>
      rw [if_pos rfl]
      go_enter Try.func72, Try.ntmps72
      go_wp2_with fail
      go_region_held3 (fun w' => Bel w w' ∧ w'.cell? ⟨w.heap.size, 0, none⟩ = some v ∧ w'.cell? ⟨w.heap.size + 1, 0, none⟩ = some (.int .i64 (Z : Int)) ∧ w'.cell? ⟨w.heap.size + 1, 1, none⟩ = some u)
        (first | exact ⟨HB.drew, KX.out _ (Bel.drew0 _)⟩ | exact ⟨HB.step B8, KX.out _ B8⟩ | exact ⟨HB.step B9, KX.out _ B9⟩ | fail)
        (first | (go_at_call 48; refine (HA.out _ (HB.step B8)).mono ?_; rintro e w9 ⟨rfl, hb9⟩; have B9 := B8.step hb9) | (go_at_call 77; refine (HO.out _ HB.drew).mono ?_; rintro e w8 ⟨a8, n8, c8, rfl, o8, hb8⟩; have B8 := (Bel.drew0 _).step hb8) | fail)
      go_wp2_with fail
      go_ret2
      exact ⟨_, _, _, rfl, Chg.of_bel (HB.step B9), _, HVE.out _ (HB.step B9), Off.refl _ _, he⟩
    | false =>
      rw [if_neg (by simp)]
      go_enter Try.func72, Try.ntmps72
      go_wp2_with fail
      go_region_held3 (fun w' => Bel w w' ∧ w'.cell? ⟨w.heap.size, 0, none⟩ = some v ∧ w'.cell? ⟨w.heap.size + 1, 0, none⟩ = some (.int .i64 (Z : Int)) ∧ w'.cell? ⟨w.heap.size + 1, 1, none⟩ = some u)
        (first | exact ⟨HB.drew, KX.out _ (Bel.drew0 _)⟩ | exact ⟨HB.step B8, KX.out _ B8⟩ | exact ⟨HB.step B9, KX.out _ B9⟩ | fail)
        (first | (go_at_call 48; refine (HA.out _ (HB.step B8)).mono ?_; rintro e w9 ⟨rfl, hb9⟩; have B9 := B8.step hb9) | (go_at_call 77; refine (HO.out _ HB.drew).mono ?_; rintro e w8 ⟨a8, n8, c8, rfl, o8, hb8⟩; have B8 := (Bel.drew0 _).step hb8) | fail)
      go_wp2_with fail
      go_ret2
      exact ⟨_, _, _, rfl, (o8.below hb9).mono (by have := HB.drew.size; omega) hb9.size, Chg.of_bel (HB.step B9)⟩
  | cons x r ih =>
    intro e w vv ve a b hvr hvl he hv hu hc hvv hve hdv hew
    have hx12 := hvr x (by simp)
    have hel := (okEnv_iff.1 he).1
    have hnc : natsI (x :: r) = (x : Int) :: natsI r := rfl
    rw [hnc] at hvv
    obtain ⟨avv, cvv, rfl⟩ := hvv.form
    have hvv0 := hvv
    obtain ⟨adv, capv, ev, hcapv, hmaxv, hrv⟩ := hvv
    simp only [Value.slice.injEq] at ev
    obtain ⟨rfl, -, rfl⟩ := ev
    obtain ⟨bv, offv, rfl, hav, hbv, hcv⟩ := hrv (by simp)
    have hcv0 := hcv 0 (by simp)
    simp only [List.getD_cons_zero, Nat.add_zero] at hcv0
    simp only [List.length_cons] at hcapv hvv0 ⊢
    have hlr := Lib.hid (natsI_len r)
    obtain ⟨m, hm⟩ : ∃ m, (natsI r).length = m := ⟨_, rfl⟩
    rw [hm] at hcapv hvv0
    simp only [hm]
    have HM := Lib.hid hm
    clear hm
    obtain ⟨ae, ce, rfl⟩ : ∃ ae ce, ve = .slice ae e.length ce := hve.1.form
    obtain ⟨be, offe, hae, hbe1, hbe2⟩ : ∃ b off, ae = some ⟨b, off, none⟩ ∧ eb ≤ b ∧ b < eh := by
      obtain ⟨ad', cap', e', -, -, hr'⟩ := hve.1
      simp only [Value.slice.injEq] at e'
      obtain ⟨rfl, -, -⟩ := e'
      obtain ⟨b', o', h1, h2, h3, _⟩ := hr' (by omega)
      exact ⟨b', o', h1, h2, h3⟩
    subst hae
    obtain ⟨R, hR⟩ : ∃ R, R = lw Z (fun e => clH ar Z tb e c) (x :: r) e := ⟨_, rfl⟩
    have hR0 : R = tryW (fun (n : Nat) => lw Z (fun e => clH ar Z tb e c) r (e.set x (n : Int))) 0 Z := hR
    rw [← hR]
    clear hR
    have IH := Lib.hid ih
    clear ih hnc hcv hrv
    have HL12 := Lib.hid hel
    generalize hEL : e.length = EL at *
    clear hel
    go_enter Try.func72, Try.ntmps72
    go_wp2_with fail
    obtain ⟨W, hW⟩ : ∃ W, W = (w.alloc (.cells #[v] 30)).alloc (.cells #[.int .i64 (Z : Int), u] 44) := ⟨_, rfl⟩
    have hB : Bel w W := by rw [hW]; exact Bel.alloc2 _ _ _
    have zW : w.heap.size + 1 < W.heap.size := by rw [hW]; simp
    have k0 : W.cell? ⟨w.heap.size, 0, none⟩ = some v := by rw [hW]; simp [go_sem]
    have k1 : W.cell? ⟨w.heap.size + 1, 0, none⟩ = some (.int .i64 (Z : Int)) := by rw [hW]; simp [go_sem]
    have k2 : W.cell? ⟨w.heap.size + 1, 1, none⟩ = some u := by rw [hW]; simp [go_sem]
    rw [← hW]
    clear hW
    have zbv : bv < w.heap.size := World.block_lt_of_cell? w ⟨bv, offv, none⟩ hcv0
    have kv := hB.at zbv hcv0
    obtain ⟨G, hG⟩ : ∃ G : Nat → Option (List Int), G = fun (n : Nat) => lw Z (fun e => clH ar Z tb e c) r (e.set x ((n : Nat) : Int)) := ⟨_, rfl⟩
    have HGG : Hid (∀ (k : Nat) (e2 : List Int), Off (x :: r) e e2 → lw Z (fun e => clH ar Z tb e c) r (e2.set x (k : Int)) = G k) := fun k e2 ho => by rw [hG]; exact lw_off Z _ r _ _ (ho.set _)
    rw [← hG] at hR0
    have HR0 := Lib.hid hR0.symm
    clear hG hR0
    have hxi : (x : Int) < EL := by have := HL12.out; omega
    go_loopw [12] (fun i wr => ∃ (k : Nat) (ek : List Int), k ≤ Z ∧ i = .int .i64 k ∧ tryW G k (Z - k) = R ∧ OwnI eb eh wr (.slice (some ⟨be, offe, none⟩) EL ce) ek ∧ Off (x :: r) e ek ∧ okEnv Z ek = true ∧ Chg eb eh W wr) (fun i _ => Z - (intOf i).toNat)
    case atStart => exact ⟨0, e, Nat.zero_le _, rfl, HR0.out, hve.below hB, Off.refl _ _, he, Chg.refl _ _ _⟩
    case round =>
      obtain ⟨k, ek, hk, rfl, hR, ho, hoff, hoke, hch⟩ := hrel
      have q0 := hch.cell (by omega) (.inr hew) k0
      have q1 := hch.cell zW (.inr (by omega)) k1
      have q2 := hch.cell zW (.inr (by omega)) k2
      have qv := hch.cell (Nat.lt_of_lt_of_le zbv hB.size) (by omega) kv
      have hekl : ek.length = EL := hoff.1.trans hEL
      obtain ⟨y, hcy⟩ : ∃ y : Int, wr.cell? ⟨be, offe + x, none⟩ = some (.int .i64 y) := by
        obtain ⟨ad', cap', e', -, -, hr'⟩ := ho.1
        simp only [Value.slice.injEq] at e'
        obtain ⟨rfl, -, -⟩ := e'
        obtain ⟨b', o', h1, h2, h3, h4⟩ := hr' (by omega)
        simp only [Option.some.injEq, Addr.mk.injEq, and_true] at h1
        obtain ⟨rfl, rfl⟩ := h1
        exact ⟨_, h4 x (by omega)⟩
      have hfy := ho.2 be offe EL ce rfl (by omega) x
      have hchw : Chg eb eh w wr := (Chg.of_bel hB).trans hch
      by_cases hlt : k < Z
      · have hst := ho.stored x (by omega) (k : Int)
        have hCS : Chg eb eh w (wr.setCell ⟨be, offe + x, none⟩ (.int .i64 (k : Int))) := hchw.trans (Chg.set (p := ⟨be, offe + x, none⟩) _ hbe1 hbe2 _)
        have hCW : Chg eb eh W (wr.setCell ⟨be, offe + x, none⟩ (.int .i64 (k : Int))) := hch.trans (Chg.set (p := ⟨be, offe + x, none⟩) _ hbe1 hbe2 _)
        have q0 := hCW.cell (by omega) (.inr hew) k0
        have q1' := hCW.cell zW (.inr (by omega)) k1
        have q2 := hCW.cell zW (.inr (by omega)) k2
        have hoke2 := okEnv_set hoke x (x := (k : Int)) (by omega) (by omega)
        have hsl : ∀ q : Nat, (natsI r = [] ∨ q = offv + 1) → SlI a b (wr.setCell ⟨be, offe + x, none⟩ (.int .i64 (k : Int))).drew (.slice (some ⟨bv, q, none⟩) m (cvv - 1)) (natsI r) := fun q hq => by have h9 := ((hvv0.chg hCS (by omega)).below (Bel.drew0 _)).rest q hq; rw [HM.out] at h9; exact h9
        have HC := Lib.hid (fun q hq => IH.out (ek.set x (k : Int)) _ _ _ a b (fun y hy => hvr y (by simp [hy])) (by simp at hvl; omega) hoke2 ((hv.chg hCS hd).below (Bel.drew0 _)) ((hu.chg hCS hd).below (Bel.drew0 _)) ((hc.chg hCS hd).below (Bel.drew0 _)) (hsl q hq) (hst.below (Bel.drew0 _)) hdv (Nat.le_trans hew hCS.size))
        have hge := HGG.out k ek hoff
        rw [hge] at HC
        have hR1 : tryW G k ((Z - k - 1) + 1) = R := by rw [show Z - k - 1 + 1 = Z - k by omega]; exact hR
        have hoff1 := hoff.trans (Off.one x r ek (k : Int))
        have hcap1 : (1 : Int) ≤ cvv := by omega
        have hml : (m : Int) + 1 ≤ cvv := by omega
        have hm1 : (1 : Int) ≤ (m : Int) + 1 := by omega
        have hDR : Chg eb eh w (wr.setCell ⟨be, offe + x, none⟩ (.int .i64 (k : Int))).drew := hCS.trans (Chg.of_bel (Bel.drew0 _))
        have hDW : Chg eb eh W (wr.setCell ⟨be, offe + x, none⟩ (.int .i64 (k : Int))).drew := hCW.trans (Chg.of_bel (Bel.drew0 _))
        have hzk : (k : Int) < (Z : Int) := by omega
        clear hst hoke2 hsl hge hR hoff hoke ho hCS hCW hchw IH hv hu hc HGG HR0 hekl
        cases hGk : G k with
        | some r1 =>
          rw [hGk] at HC
          have hRR := Lib.hid ((tryW_some hGk).symm.trans hR1)
          clear hR1
          by_cases hcap : cvv = 1
          · have hrn : natsI r = [] := List.length_eq_zero_iff.1 (by rw [HM.out]; omega)
            have HC1 := Lib.hid (HC.out offv (.inl hrn))
            obtain rfl : m = 0 := by omega
            subst hcap
            clear HC hrn
            go_wp2_with fail
            go_region_held3 (fun w' => Chg eb eh w w' ∧ w'.cell? ⟨w.heap.size, 0, none⟩ = some v ∧ w'.cell? ⟨w.heap.size + 1, 0, none⟩ = some (.int .i64 (Z : Int)) ∧ w'.cell? ⟨w.heap.size + 1, 1, none⟩ = some u)
              (first | exact ⟨hDR, q0, q1', q2⟩ | exact ⟨hDR.trans hg9, (hDW.trans hg9).cell (by omega) (.inr hew) k0, (hDW.trans hg9).cell zW (.inr (by omega)) k1, (hDW.trans hg9).cell zW (.inr (by omega)) k2⟩ | fail)
              (first | (go_at_call 72; refine HC1.out.mono ?_; rintro e w9 ⟨a9, n9, c9, rfl, o9, hg9⟩) | fail)
            go_wp2_with fail
            go_ret2
            rw [← hRR.out]
            exact ⟨_, _, _, rfl, o9.mono (by have := hDR.size; omega) (Nat.le_refl _), hDR.trans hg9⟩
          · have HC1 := Lib.hid (HC.out (offv + 1) (.inr rfl))
            have hcp : (1 : Int) < cvv := by omega
            clear HC
            go_wp2_with fail
            go_region_held3 (fun w' => Chg eb eh w w' ∧ w'.cell? ⟨w.heap.size, 0, none⟩ = some v ∧ w'.cell? ⟨w.heap.size + 1, 0, none⟩ = some (.int .i64 (Z : Int)) ∧ w'.cell? ⟨w.heap.size + 1, 1, none⟩ = some u)
              (first | exact ⟨hDR, q0, q1', q2⟩ | exact ⟨hDR.trans hg9, (hDW.trans hg9).cell (by omega) (.inr hew) k0, (hDW.trans hg9).cell zW (.inr (by omega)) k1, (hDW.trans hg9).cell zW (.inr (by omega)) k2⟩ | fail)
              (first | (go_at_call 72; refine HC1.out.mono ?_; rintro e w9 ⟨a9, n9, c9, rfl, o9, hg9⟩) | fail)
            go_wp2_with fail
            go_ret2
            rw [← hRR.out]
            exact ⟨_, _, _, rfl, o9.mono (by have := hDR.size; omega) (Nat.le_refl _), hDR.trans hg9⟩
        | none =>
          rw [hGk] at HC
          have hRR := Lib.hid ((tryW_none hGk).symm.trans hR1)
          clear hR1
          by_cases hcap : cvv = 1
          · have hrn : natsI r = [] := List.length_eq_zero_iff.1 (by rw [HM.out]; omega)
            have HC1 := Lib.hid (HC.out offv (.inl hrn))
            obtain rfl : m = 0 := by omega
            subst hcap
            clear HC hrn
            go_wp2_with fail
            go_region_held3 (fun w' => Chg eb eh w w' ∧ w'.cell? ⟨w.heap.size, 0, none⟩ = some v ∧ w'.cell? ⟨w.heap.size + 1, 0, none⟩ = some (.int .i64 (Z : Int)) ∧ w'.cell? ⟨w.heap.size + 1, 1, none⟩ = some u)
              (first | exact ⟨hDR, q0, q1', q2⟩ | exact ⟨hDR.trans hg9, (hDW.trans hg9).cell (by omega) (.inr hew) k0, (hDW.trans hg9).cell zW (.inr (by omega)) k1, (hDW.trans hg9).cell zW (.inr (by omega)) k2⟩ | fail)
              (first | (go_at_call 72; refine HC1.out.mono ?_; rintro e w9 ⟨a9, n9, c9, rfl, hg9, e9, o9, hf9, hk9⟩) | fail)
            go_wp2_with fail
            refine ⟨?_, ?measure⟩
            iterate 90 (try apply Exists.intro)
            refine ⟨?rel, rfl⟩
            case rel => exact ⟨k+1, e9, by omega, by go_num, by rw [← hRR.out, show Z - (k + 1) = Z - k - 1 by omega], o9, hoff1.trans (hf9.wider (by simp +contextual)), hk9, hDW.trans hg9⟩
            case measure => simp [intOf]; omega
          · have HC1 := Lib.hid (HC.out (offv + 1) (.inr rfl))
            have hcp : (1 : Int) < cvv := by omega
            clear HC
            go_wp2_with fail
            go_region_held3 (fun w' => Chg eb eh w w' ∧ w'.cell? ⟨w.heap.size, 0, none⟩ = some v ∧ w'.cell? ⟨w.heap.size + 1, 0, none⟩ = some (.int .i64 (Z : Int)) ∧ w'.cell? ⟨w.heap.size + 1, 1, none⟩ = some u)
              (first | exact ⟨hDR, q0, q1', q2⟩ | exact ⟨hDR.trans hg9, (hDW.trans hg9).cell (by omega) (.inr hew) k0, (hDW.trans hg9).cell zW (.inr (by omega)) k1, (hDW.trans hg9).cell zW (.inr (by omega)) k2⟩ | fail)
              (first | (go_at_call 72; refine HC1.out.mono ?_; rintro e w9 ⟨a9, n9, c9, rfl, hg9, e9, o9, hf9, hk9⟩) | fail)
            go_wp2_with fail
            refine ⟨?_, ?measure⟩
            iterate 90 (try apply Exists.intro)
            refine ⟨?rel, rfl⟩
            case rel => exact ⟨k+1, e9, by omega, by go_num, by rw [← hRR.out, show Z - (k + 1) = Z - k - 1 by omega], o9, hoff1.trans (hf9.wider (by simp +contextual)), hk9, hDW.trans hg9⟩
            case measure => simp [intOf]; omega
      · obtain rfl : k = Z := by omega
        have hR2 : Hid (R = none) := by show _ = _; rw [← hR, Nat.sub_self]; rfl
        have hst := ho.stored x (by omega) (0 : Int)
        have hCS : Chg eb eh w (wr.setCell ⟨be, offe + x, none⟩ (.int .i64 (0 : Int))) := hchw.trans (Chg.set (p := ⟨be, offe + x, none⟩) _ hbe1 hbe2 _)
        have hoke2 := okEnv_set hoke x (x := (0 : Int)) (Int.le_refl _) (by omega)
        have hoff1 := hoff.trans (Off.one x r ek (0 : Int))
        clear hekl IH
        go_wp2_with fail
        go_ret2
        rw [hR2.out]
        exact ⟨_, _, _, rfl, hCS, _, hst, hoff1, hoke2⟩
end Go.Proofs.Ytnldienjkejfcaa
end
section
/- Chapter 5, the program: the least assignment. -/
namespace Go.Proofs.Ytnldienjkejfcaa
open Go.RowKit

/-- The function that asks for all literals. -/
def allF (pT : Nat) : Value := .func (.func 80) #[] #[.pointer (some ⟨pT, 0, none⟩)]
def RetLW (ar : List Int) (Z : Nat) (tb : List (List Int)) (L H : Nat) (v u : Value) (base top pT : Nat) (ad : Option Addr) (cap : Nat) (c : List Lt) (rs : List TR) (eb : Nat) (ve : Value) (vs : List Nat) (e : List Int) (w : World) (R : Option (List Int)) (x : Ending) (w' : World) : Prop :=
  x = .returned (.bool R.isSome) ∧ TS ar Z tb L H v u base top pT ad cap c rs w' ∧ Chg base (eb+1) w w' ∧ ∃ e2, OwnI eb (eb+1) w' ve e2 ∧ Off vs e e2 ∧ okEnv Z e2 = true ∧ ∀ r, R = some r → e2 = r

set_option maxRecDepth 100000 in
set_option maxHeartbeats 4000000 in
theorem leastWhere_c {ar : List Int} {Z : Nat} {tb : List (List Int)} {L H : Nat} {v u : Value} {base top pT : Nat} {ad : Option Addr} {cap : Nat} {c : List Lt} {rs : List TR}
    (hg : goodSign ar = true) (hw : isWorld ar Z tb = true) (hok : okLits ar c = true) (eb : Nat) (htop : top ≤ eb) (hH : H ≤ eb) (hT : ∀ bT, ad = some ⟨bT, 0, none⟩ → bT < eb) :
    ∀ (vars : List Nat) (e : List Int) (w : World) (vv ve : Value) (a b : Nat), (∀ x ∈ vars, x < 12) → vars.length ≤ 12 → okEnv Z e = true → TS ar Z tb L H v u base top pT ad cap c rs w → SlI a b w vv (natsI vars) → OwnI eb (eb+1) w ve e → (b ≤ base ∨ eb + 1 ≤ a) →
      Calls Try.prog 81 #[allF pT, ve, vv, .int .i64 (Z : Int)] w (RetLW ar Z tb L H v u base top pT ad cap c rs eb ve vars e w (lw Z (fun e => clH ar Z tb e c) vars e)) := by
  obtain ⟨z1, z3, _⟩ := isWorld_iff.1 hw
  intro vars
  induction vars with
  | nil =>
    intro e w vv ve a b hvr hvl he ht hvv hve hdv
    obtain ⟨av, cv, rfl⟩ := hvv.form
    have HA := Lib.hid (falseAt1_c ht hg hw hok eb (eb+1) ve e he hve.sl (.inl htop))
    have hnil : natsI [] = [] := rfl
    have hbt : base ≤ eb := by have := ht.cur; omega
    have HP : Hid ((lw Z (fun e => clH ar Z tb e c) [] e) = if clH ar Z tb e c then none else some e) := rfl
    rw [HP.out]
    generalize clH ar Z tb e c = P at *
    have HR1 : Hid ((if P = true then none else some e : Option (List Int)).isSome = !P) := by show _ = _; cases P <;> rfl
    have HR2 : Hid (∀ r, (if P = true then none else some e : Option (List Int)) = some r → e = r) := fun r h => by cases P <;> simp at h; exact h
    clear HP
    generalize (if P = true then none else some e : Option (List Int)) = R at *
    unfold allF
    rw [hnil, List.length_nil]
    clear ht hvv hnil
    go_enter Try.func81, Try.ntmps81
    go_wp2_with fail
    refine HA.out.mono ?_; rintro x w2 ⟨rfl, T2, k2⟩
    go_wp2_with fail
    go_ret
    refine ⟨?_, T2, k2.mono (Nat.le_refl _) (by omega), e, hve.chg k2 (by omega), Off.refl _ _, he, ?_⟩
    · rw [HR1.out]; rfl
    · exact HR2.out
  | cons x r ih =>
    intro e w vv ve a b hvr hvl he ht hvv hve hdv
    have hx12 := hvr x (by simp)
    have hel := (okEnv_iff.1 he).1
    have hbt : base ≤ eb := by have := ht.cur; omega
    have hnc : natsI (x :: r) = (x : Int) :: natsI r := rfl
    rw [hnc] at hvv
    obtain ⟨avv, cvv, rfl⟩ := hvv.form
    have hvv0 := hvv
    obtain ⟨adv, capv, ev, hcapv, hmaxv, hrv⟩ := hvv
    simp only [Value.slice.injEq] at ev
    obtain ⟨rfl, -, rfl⟩ := ev
    obtain ⟨bv, offv, rfl, hav, hbv, hcv⟩ := hrv (by simp)
    have hcv0 := hcv 0 (by simp)
    simp only [List.getD_cons_zero, Nat.add_zero] at hcv0
    simp only [List.length_cons] at hcapv hvv0 ⊢
    obtain ⟨m, hm⟩ : ∃ m, (natsI r).length = m := ⟨_, rfl⟩
    rw [hm] at hcapv hvv0
    simp only [hm]
    have HM := Lib.hid hm
    clear hm
    obtain ⟨ae, ce, rfl⟩ : ∃ ae ce, ve = .slice ae e.length ce := hve.1.form
    obtain ⟨be, offe, hae, hbe1, hbe2⟩ : ∃ b off, ae = some ⟨b, off, none⟩ ∧ eb ≤ b ∧ b < eb + 1 := by
      obtain ⟨ad', cap', e', -, -, hr'⟩ := hve.1
      simp only [Value.slice.injEq] at e'
      obtain ⟨rfl, -, -⟩ := e'
      obtain ⟨b', o', h1, h2, h3, _⟩ := hr' (by omega)
      exact ⟨b', o', h1, h2, h3⟩
    subst hae
    obtain rfl : be = eb := by omega
    obtain ⟨R, hR⟩ : ∃ R, R = lw Z (fun e => clH ar Z tb e c) (x :: r) e := ⟨_, rfl⟩
    have hR0 : R = tryW (fun (n : Nat) => lw Z (fun e => clH ar Z tb e c) r (e.set x (n : Int))) 0 Z := hR
    rw [← hR]
    clear hR
    have IH := Lib.hid ih
    clear ih hnc hcv hrv
    have HL12 := Lib.hid hel
    generalize hEL : e.length = EL at *
    clear hel
    obtain ⟨G, hG⟩ : ∃ G : Nat → Option (List Int), G = fun (n : Nat) => lw Z (fun e => clH ar Z tb e c) r (e.set x ((n : Nat) : Int)) := ⟨_, rfl⟩
    have HGG : Hid (∀ (k : Nat) (e2 : List Int), Off (x :: r) e e2 → lw Z (fun e => clH ar Z tb e c) r (e2.set x (k : Int)) = G k) := fun k e2 ho => by rw [hG]; exact lw_off Z _ r _ _ (ho.set _)
    rw [← hG] at hR0
    have HR0 := Lib.hid hR0.symm
    clear hG hR0
    have hxi : (x : Int) < EL := by have := HL12.out; omega
    have zbv : bv < w.heap.size := World.block_lt_of_cell? w ⟨bv, offv, none⟩ hcv0
    have hne : (((m : Int) + 1) == 0) = false := beq_eq_false_iff_ne.2 (by omega)
    have htm1 : ((m + 1 : Nat) : Int) = (m : Int) + 1 := by omega
    have HT := Lib.hid ht
    have hALL : allF pT = .func (.func 80) #[] #[.pointer (some ⟨pT, 0, none⟩)] := rfl
    rw [hALL]
    clear ht
    go_enter Try.func81, Try.ntmps81
    go_wp2_with fail
    go_loopw [17] (fun i wr => ∃ (k : Nat) (ek : List Int), k ≤ Z ∧ i = .int .i64 k ∧ tryW G k (Z - k) = R ∧ OwnI be (be+1) wr (.slice (some ⟨be, offe, none⟩) EL ce) ek ∧ Off (x :: r) e ek ∧ okEnv Z ek = true ∧ Chg base (be+1) w wr ∧ TS ar Z tb L H v u base top pT ad cap c rs wr) (fun i _ => Z - (intOf i).toNat)
    case atStart => exact ⟨0, e, Nat.zero_le _, rfl, HR0.out, hve, Off.refl _ _, he, Chg.refl _ _ _, HT.out⟩
    case round =>
      obtain ⟨k, ek, hk, rfl, hR, ho, hoff, hoke, hch, hts⟩ := hrel
      have qv := hch.cell zbv (by omega) hcv0
      have hekl : ek.length = EL := hoff.1.trans hEL
      by_cases hlt : k < Z
      · obtain ⟨b1, o1, e1, -, -, hcy, hfy, hst⟩ := ho.at x (by omega)
        simp only [Option.some.injEq, Addr.mk.injEq, and_true] at e1
        obtain ⟨rfl, rfl⟩ := e1
        have hst := hst (k : Int)
        have hCS : Chg base (be+1) w (wr.setCell ⟨be, offe + x, none⟩ (.int .i64 (k : Int))) := hch.trans (Chg.set (p := ⟨be, offe + x, none⟩) _ hbt (Nat.lt_succ_self _) _)
        have hTS : TS ar Z tb L H v u base top pT ad cap c rs (wr.setCell ⟨be, offe + x, none⟩ (.int .i64 (k : Int))) := hts.chg (Chg.set (p := ⟨be, offe + x, none⟩) (lo := be) (hi := be+1) _ (Nat.le_refl _) (Nat.lt_succ_self _) _) htop hH (fun bT h => .inl (hT bT h))
        have hoke2 := okEnv_set hoke x (x := (k : Int)) (by omega) (by omega)
        have hsl : ∀ q : Nat, (natsI r = [] ∨ q = offv + 1) → SlI a b (wr.setCell ⟨be, offe + x, none⟩ (.int .i64 (k : Int))) (.slice (some ⟨bv, q, none⟩) m (cvv - 1)) (natsI r) := fun q hq => by have h9 := (hvv0.chg hCS (by omega)).rest q hq; rw [HM.out] at h9; exact h9
        have HC := Lib.hid (fun q hq => IH.out (ek.set x (k : Int)) _ _ _ a b (fun y hy => hvr y (by simp [hy])) (by simp at hvl; omega) hoke2 hTS (hsl q hq) hst hdv)
        have hge := HGG.out k ek hoff
        rw [hge] at HC
        have hR1 : tryW G k ((Z - k - 1) + 1) = R := by rw [show Z - k - 1 + 1 = Z - k by omega]; exact hR
        have hoff1 := hoff.trans (Off.one x r ek (k : Int))
        have hcap1 : (1 : Int) ≤ cvv := by omega
        have hml : (m : Int) + 1 ≤ cvv := by omega
        have hm1 : (1 : Int) ≤ (m : Int) + 1 := by omega
        have hzk : (k : Int) < (Z : Int) := by omega
        rw [hALL] at HC
        have HKW := Lib.hid hCS
        clear hst hoke2 hsl hge hR hoff hoke ho hCS hch IH HGG HR0 hekl hts hTS HT hve
        cases hGk : G k with
        | some r1 =>
          rw [hGk] at HC
          have hRR := Lib.hid ((tryW_some hGk).symm.trans hR1)
          clear hR1
          by_cases hcap : cvv = 1
          · have hrn : natsI r = [] := List.length_eq_zero_iff.1 (by rw [HM.out]; omega)
            have HC1 := Lib.hid (HC.out offv (.inl hrn))
            obtain rfl : m = 0 := by omega
            subst hcap
            clear HC hrn
            go_wp2_with fail
            refine HC1.out.mono ?_; rintro e' w9 ⟨rfl, t9, c9, e2, o9, f9, k9, r9⟩
            go_wp2_with fail
            go_ret
            rw [← hRR.out]
            exact ⟨rfl, t9, HKW.out.trans c9, e2, o9, hoff1.trans (f9.wider (by simp +contextual)), k9, r9⟩
          · have HC1 := Lib.hid (HC.out (offv + 1) (.inr rfl))
            have hcp : (1 : Int) < cvv := by omega
            clear HC
            go_wp2_with fail
            refine HC1.out.mono ?_; rintro e' w9 ⟨rfl, t9, c9, e2, o9, f9, k9, r9⟩
            go_wp2_with fail
            go_ret
            rw [← hRR.out]
            exact ⟨rfl, t9, HKW.out.trans c9, e2, o9, hoff1.trans (f9.wider (by simp +contextual)), k9, r9⟩
        | none =>
          rw [hGk] at HC
          have hRR := Lib.hid ((tryW_none hGk).symm.trans hR1)
          clear hR1
          by_cases hcap : cvv = 1
          · have hrn : natsI r = [] := List.length_eq_zero_iff.1 (by rw [HM.out]; omega)
            have HC1 := Lib.hid (HC.out offv (.inl hrn))
            obtain rfl : m = 0 := by omega
            subst hcap
            clear HC hrn
            go_wp2_with fail
            refine HC1.out.mono ?_; rintro e' w9 ⟨rfl, t9, c9, e2, o9, f9, k9, r9⟩
            go_wp2_with fail
            refine ⟨?_, ?measure⟩
            iterate 90 (try apply Exists.intro)
            refine ⟨?rel, rfl⟩
            case rel => exact ⟨k+1, e2, by omega, by go_num, by rw [← hRR.out, show Z - (k + 1) = Z - k - 1 by omega], o9, hoff1.trans (f9.wider (by simp +contextual)), k9, HKW.out.trans c9, t9⟩
            case measure => simp [intOf]; omega
          · have HC1 := Lib.hid (HC.out (offv + 1) (.inr rfl))
            have hcp : (1 : Int) < cvv := by omega
            clear HC
            go_wp2_with fail
            refine HC1.out.mono ?_; rintro e' w9 ⟨rfl, t9, c9, e2, o9, f9, k9, r9⟩
            go_wp2_with fail
            go_roundw
            case rel => exact ⟨k+1, e2, by omega, by go_num, by rw [← hRR.out, show Z - (k + 1) = Z - k - 1 by omega], o9, hoff1.trans (f9.wider (by simp +contextual)), k9, HKW.out.trans c9, t9⟩
            case measure => simp [intOf]; omega
      · obtain rfl : k = Z := by omega
        have hR2 : Hid (R = none) := by show _ = _; rw [← hR, Nat.sub_self]; rfl
        clear hekl IH
        go_wp2_with fail
        go_ret
        rw [hR2.out]
        exact ⟨rfl, hts, hch, _, ho, hoff, hoke, fun r h => by simp at h⟩
end Go.Proofs.Ytnldienjkejfcaa
end
