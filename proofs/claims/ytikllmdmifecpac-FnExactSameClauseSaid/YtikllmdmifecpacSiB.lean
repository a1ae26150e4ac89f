/- Chapter 7: SameClause, both sides. -/
import Derived.Test.YtikllmdmifecpacClRn
import Derived.Test.YtikllmdmifecpacClSm
import Derived.Test.YtikllmdmifecpacSame
import Derived.Test.YtikllmdmifecpacClI1
namespace Go.Proofs.Ytikllmdmifecpac
open Go.RowKit

theorem l4Clause_w (l h l' h' : Nat) (v u : Value) (ar : List Int) (c : List Lt) (q : Bool) (w : World) (he : okLits ar c = q) (hg : goodSign ar = true) (hx : shortC c) (hv : SlI l h w v ar) (hu : SlC l' h' w u c) :
    Calls Try.prog 15 #[.agg #[v], u] w (RetV w (.bool q)) := by subst he; exact l4Clause_c l h l' h' v u ar c w hg hx hv hu
theorem copy_dec (x y : Lt) : decide (x = y) = ((x.1 == y.1) && (decide (x.2.1 = y.2.1) && decide (x.2.2 = y.2.2))) := by
  obtain ⟨p, a, b⟩ := x
  obtain ⟨q, c, d⟩ := y
  rw [Bool.eq_iff_iff]
  simp [Prod.ext_iff]
theorem takeL_succ {c d : List Lt} {k : Nat} (h1 : k < c.length) (h2 : k < d.length) (h : c.take k = d.take k) (he : c.getD k lt0 = d.getD k lt0) : c.take (k+1) = d.take (k+1) := by
  rw [List.take_succ_eq_append_getElem h1, List.take_succ_eq_append_getElem h2, h]
  simp only [List.getD, h1, h2, List.getElem?_eq_getElem, Option.getD_some] at he
  rw [he]
theorem takeL_all {c d : List Lt} (h : c.length = d.length) (hk : c.take c.length = d.take c.length) : c = d := by
  rw [List.take_length, h, List.take_length] at hk; exact hk

set_option maxRecDepth 100000 in
set_option maxHeartbeats 1000000 in
theorem isCopy_c (l h l' h' : Nat) (x y : Lt) (u1 u2 q1 q2 : Value) (r : Bool) (w : World) (hr : decide (x = y) = r) (h1 : x.2.1.length ≤ 1048576) (h2 : x.2.2.length ≤ 1048576) (h3 : y.2.1.length ≤ 1048576) (h4 : y.2.2.length ≤ 1048576)
    (s1 : SlI l h w u1 x.2.1) (s2 : SlI l h w u2 x.2.2) (t1 : SlI l' h' w q1 y.2.1) (t2 : SlI l' h' w q2 y.2.2) :
    Calls Try.prog 22 #[.agg #[.bool x.1, u1, u2], .agg #[.bool y.1, q1, q2]] w (RetV w (.bool r)) := by
  rw [copy_dec] at hr
  obtain ⟨p, xl, xr⟩ := x
  obtain ⟨q, yl, yr⟩ := y
  simp only at *
  obtain ⟨a1, e1, f1⟩ := s1.form
  obtain ⟨a2, e2, f2⟩ := s2.form
  obtain ⟨a3, e3, f3⟩ := t1.form
  obtain ⟨a4, e4, f4⟩ := t2.form
  have HB : Bel w ((w.alloc (.cells #[.bool p, u1, u2] 43)).alloc (.cells #[.bool q, q1, q2] 43)) := Bel.alloc2 _ _ _
  have HK : Hid (∀ w', Bel ((w.alloc (.cells #[.bool p, u1, u2] 43)).alloc (.cells #[.bool q, q1, q2] 43)) w' → (w'.cell? ⟨w.heap.size, 1, none⟩ = some u1 ∧ w'.cell? ⟨w.heap.size, 2, none⟩ = some u2) ∧ w'.cell? ⟨w.heap.size + 1, 1, none⟩ = some q1 ∧ w'.cell? ⟨w.heap.size + 1, 2, none⟩ = some q2) := Lib.hid fun w' hb =>
    ⟨⟨hb.at (by simp; omega) (by simp [go_sem]), hb.at (by simp; omega) (by simp [go_sem])⟩, hb.at (by simp) (by simp [go_sem]), hb.at (by simp) (by simp [go_sem])⟩
  have H1 := fun (r : Bool) (hr : decide (xl = yl) = r) (w' : World) (hb : Bel w w') => slEqual_v _ _ _ _ _ _ xl yl r w' hr h1 h3 (s1.below hb) (t1.below hb)
  have H2 := fun (r : Bool) (hr : decide (xr = yr) = r) (w' : World) (hb : Bel w w') => slEqual_v _ _ _ _ _ _ xr yr r w' hr h2 h4 (s2.below hb) (t2.below hb)
  clear s1 s2 t1 t2 h1 h2 h3 h4
  generalize decide (xl = yl) = b1 at *
  generalize decide (xr = yr) = b2 at *
  generalize xl.length = n1 at *
  generalize xr.length = n2 at *
  generalize yl.length = n3 at *
  generalize yr.length = n4 at *
  subst f1 f2 f3 f4
  have H1 := Lib.hid (H1 b1 rfl)
  have H2 := Lib.hid (H2 b2 rfl)
  have HR := Lib.hid hr
  clear hr
  have hsame : ∀ p : Bool, (p == p) = true := fun p => by cases p <;> rfl
  by_cases hpq : p = q
  · subst hpq
    have hq := hsame p
    clear hsame
    cases b1 with
    | false =>
      have E : r = false := by rw [← HR.out, hq]; rfl
      subst E
      go_enter Try.func22, Try.ntmps22
      go_wp2_with fail
      refine (H1.out _ HB).mono ?_; rintro e w1 ⟨rfl, hb1⟩
      go_wp2_with fail
      go_ret
      exact ⟨rfl, HB.step hb1⟩
    | true =>
      have E : r = b2 := by rw [← HR.out, hq]; rfl
      subst E
      go_enter Try.func22, Try.ntmps22
      go_wp2_with fail
      refine (H1.out _ HB).mono ?_; rintro e w1 ⟨rfl, hb1⟩
      obtain ⟨⟨x11, x21⟩, y11, y21⟩ := HK.out _ hb1
      go_wp2_with fail
      refine (H2.out _ (HB.step hb1)).mono ?_; rintro e w2 ⟨rfl, hb2⟩
      go_wp2_with fail
      go_ret
      exact ⟨rfl, (HB.step hb1).step hb2⟩
  · have hq : (p == q) = false := by simpa using hpq
    have E : r = false := by rw [← HR.out, hq]; rfl
    subst E
    clear hsame hpq
    go_enter Try.func22, Try.ntmps22
    go_wp2_with fail
    go_ret
    exact ⟨rfl, HB⟩

set_option maxRecDepth 100000 in
set_option maxHeartbeats 1000000 in
theorem eqFunc_c (l h l' h' : Nat) (v u : Value) (c d : List Lt) (w : World) (hx : shortC c) (hy : shortC d) (hv : SlC l h w v c) (hu : SlC l' h' w u d) :
    Calls Try.prog 20 #[v, u, .func (.func 22) #[] #[]] w (RetV w (.bool (decide (c = d)))) := by
  have eg : ∀ args w, (callFunc 22 args).run Try.prog w = .ok (.enter 22 args) w := enters_of Try.func22 (by kernel_rfl) rfl
  obtain ⟨ad, cap, rfl⟩ := hv.form
  obtain ⟨ad2, cap2, rfl⟩ := hu.form
  obtain ⟨hx1, hx2⟩ := hx
  obtain ⟨hy1, hy2⟩ := hy
  by_cases hl : (c.length : Int) = d.length
  · have hl1 : c.length = d.length := by omega
    have hl' : ((c.length : Int) != d.length) = false := by simpa using hl
    have HL := Lib.hid hl1
    clear hl hl1
    go_enter Try.func20, Try.ntmps20
    go_wp2_with fail
    go_loopw [17] (fun i wr => ∃ k : Nat, k ≤ c.length ∧ i = .int .i64 k ∧ c.take k = d.take k ∧ Bel w wr) (fun i _ => c.length - (intOf i).toNat)
    case atStart => exact ⟨0, Nat.zero_le _, rfl, rfl, Bel.rfl' _⟩
    case round =>
      obtain ⟨k, hk, rfl, ha, hb⟩ := hrel
      by_cases hlt : k < c.length
      · have hlt2 : k < d.length := by rw [← HL.out]; exact hlt
        obtain ⟨bb, off, u1, u2, rfl, hbs, c1, c2, c3, s1, s2⟩ := hv.at hb k hlt
        obtain ⟨bd, offd, q1, q2, rfl, hbsd, d1, d2, d3, t1, t2⟩ := hu.at hb k hlt2
        obtain ⟨k1, k2⟩ := hx2 k hlt
        obtain ⟨k3, k4⟩ := hy2 k hlt2
        have HS := Lib.hid (fun he => takeL_succ hlt hlt2 ha he)
        have hin1 : (k : Int) < c.length := by omega
        have hin2 : (k : Int) < d.length := by omega
        have HNE : Hid (∀ q, decide (c.getD k lt0 = d.getD k lt0) = q → q = false → decide (c = d) = false) := Lib.hid (fun q hq hf => by
          subst hf
          refine decide_eq_false fun e => ?_
          subst e
          simp at hq)
        clear ha hv hu
        generalize c.getD k lt0 = x at *
        generalize d.getD k lt0 = y at *
        obtain ⟨a1, e1, f1⟩ := s1.form
        obtain ⟨a2, e2, f2⟩ := s2.form
        obtain ⟨a3, e3, f3⟩ := t1.form
        obtain ⟨a4, e4, f4⟩ := t2.form
        have HC := Lib.hid (fun (r : Bool) (hr : decide (x = y) = r) (w' : World) (hb' : Bel wr w') => isCopy_c l h l' h' x y u1 u2 q1 q2 r w' hr k1 k2 k3 k4 (s1.below hb') (s2.below hb') (t1.below hb') (t2.below hb'))
        clear s1 s2 t1 t2
        obtain ⟨p, xl, xr⟩ := x
        obtain ⟨q, yl, yr⟩ := y
        simp only at *
        generalize xl.length = n1 at *
        generalize xr.length = n2 at *
        generalize yl.length = n3 at *
        generalize yr.length = n4 at *
        subst f1 f2 f3 f4
        have m1 := (Bel.alloc0 wr (.cells #[.bool p, .slice a1 n1 e1, .slice a2 n2 e2] 43)).at (World.block_lt_of_cell? _ ⟨_, _, none⟩ d1) d1
        have m2 := (Bel.alloc0 wr (.cells #[.bool p, .slice a1 n1 e1, .slice a2 n2 e2] 43)).at (World.block_lt_of_cell? _ ⟨_, _, none⟩ d2) d2
        have m3 := (Bel.alloc0 wr (.cells #[.bool p, .slice a1 n1 e1, .slice a2 n2 e2] 43)).at (World.block_lt_of_cell? _ ⟨_, _, none⟩ d3) d3
        have hA := Bel.alloc2 wr (.cells #[.bool p, .slice a1 n1 e1, .slice a2 n2 e2] 43) (.cells #[.bool q, .slice a3 n3 e3, .slice a4 n4 e4] 43)
        have HA := Lib.hid hA
        cases hr : decide ((p, xl, xr) = (q, yl, yr)) with
        | true =>
          have HCC := Lib.hid (HC.out _ hr _ hA)
          have E := HS.out (by simpa using hr)
          have HE := Lib.hid E
          clear HC HS HNE hr E hA
          go_wp2_with fail
          refine HCC.out.mono ?_; rintro e w2 ⟨rfl, hb2⟩
          go_wp2_with fail
          go_roundw
          case rel => exact ⟨k+1, by omega, by go_num, HE.out, (hb.step HA.out).step hb2⟩
          case measure => simp [intOf]; omega
        | false =>
          have HCC := Lib.hid (HC.out _ hr _ hA)
          have HE := Lib.hid (HNE.out _ hr rfl)
          clear HC HS HNE hr hA
          go_wp2_with fail
          refine HCC.out.mono ?_; rintro e w2 ⟨rfl, hb2⟩
          go_wp2_with fail
          go_ret
          exact ⟨by rw [HE.out]; rfl, (hb.step HA.out).step hb2⟩
      · obtain rfl : k = c.length := by omega
        have HE := Lib.hid (decide_eq_true (takeL_all HL.out ha))
        clear ha
        go_wp2_with fail
        go_ret
        exact ⟨by rw [HE.out]; rfl, hb⟩
  · have hl' : ((c.length : Int) != d.length) = true := by simpa using hl
    have HE : Hid (decide (c = d) = false) := Lib.hid (decide_eq_false (fun e => hl (by rw [e])))
    go_enter Try.func20, Try.ntmps20
    go_wp2_with fail
    go_ret
    exact ⟨by rw [HE.out]; rfl, Bel.rfl' _⟩

def sameClOk (ar : List Int) (c d : List Lt) : Bool := goodClause ar c && okLits ar d
def sameClAns (ar : List Int) (c d : List Lt) : Bool := sameClOk ar c d && decide (renC c = renC d)
theorem good_shortR {ar : List Int} {c : List Lt} (h : okLits ar c = true) : shortC (renC c) := by
  obtain ⟨h8, hok⟩ := okLits_iff.1 h
  have hl := zipC_len c _ (renC_len c)
  have hf := zipC_flat c _ (renC_len c)
  have h40 := renS_lens [] (flatC c) (fun t ht => (okTerm_len (flat_ok hok ht)).2)
  refine ⟨by unfold renC; rw [hl]; omega, fun j hj => ?_⟩
  have e : flatC (renC c) = renS [] (flatC c) := hf
  have m : ∀ t ∈ flatC (renC c), t.length ≤ 1048576 := fun t ht => by have := h40 t (e ▸ ht); omega
  have hx := mem_getD (renC c) lt0 j hj
  exact ⟨m _ (List.mem_flatMap.2 ⟨_, hx, by simp⟩), m _ (List.mem_flatMap.2 ⟨_, hx, by simp⟩)⟩

set_option maxRecDepth 100000 in
set_option maxHeartbeats 1000000 in
theorem iSameClause_t {l h l' h' l2 h2 : Nat} {v u x : Value} {ar : List Int} {c d : List Lt} {w : World} (ha : ar.length ≤ 1048576) (hv : SlI l h w v ar) (hc : sumC c ≤ 1048576) (hu : SlC l' h' w u c) (hd : sumC d ≤ 1048576) (hx : SlC l2 h2 w x d) :
    Calls Try.prog 9 #[.agg #[v], u, x] w (RetV w (.tuple #[.bool (sameClAns ar c d), .bool (sameClOk ar c d)])) := by
  unfold sameClAns sameClOk
  cases hs : goodClause ar c with
  | false =>
    rw [Bool.false_and, Bool.false_and]
    have HS := Lib.hid hs; clear hs
    go_enter Try.func9, Try.ntmps9
    go_wp2_with fail
    refine (iGoodClause_v HS.out ha (hv.alloc _) hc (hu.alloc _)).mono ?_; rintro e w1 ⟨rfl, hb1⟩
    go_wp2_with fail
    go_ret2
    exact ⟨rfl, hb1.of_alloc⟩
  | true =>
    rw [Bool.true_and]
    have hg := (goodClause_iff.1 hs).1
    have hq1 : okLits ar c = true := by unfold goodClause at hs; exact (Bool.and_eq_true_iff.1 hs).2
    have hgd : goodClause ar d = okLits ar d := by unfold goodClause; rw [hg, Bool.true_and]
    have hrc := rows_flat hs
    have hc8 := (okLits_iff.1 hq1).1
    cases hq : okLits ar d with
    | false =>
      rw [Bool.false_and]
      have HQ := Lib.hid (hgd.trans hq)
      have HS := Lib.hid hs; clear hs hq hq1 hgd
      go_enter Try.func9, Try.ntmps9
      go_wp2_with fail
      refine (iGoodClause_v HS.out ha (hv.alloc _) hc (hu.alloc _)).mono ?_; rintro e w1 ⟨rfl, hb1⟩
      have hbox := boxc hb1 0 _ rfl
      go_wp2_with fail
      refine (iGoodClause_v HQ.out ha (hv.below hb1.of_alloc) hd (hx.below hb1.of_alloc)).mono ?_; rintro e w2 ⟨rfl, hb2⟩
      go_wp2_with fail
      go_ret2
      exact ⟨rfl, hb1.of_alloc.step hb2⟩
    | true =>
      rw [Bool.true_and]
      have hrd := rows_flat (hgd.trans hq)
      have hd8 := (okLits_iff.1 hq).1
      have hsc := good_shortR hq1
      have hsd := good_shortR hq
      have HQ := Lib.hid (hgd.trans hq)
      have HS := Lib.hid hs
      have HR1 := Lib.hid (fun (w' : World) (hb : Bel w w') => renamedClause_c l' h' u c w' (by omega) hrc (hu.below hb))
      have HR2 := Lib.hid (fun (w' : World) (hb : Bel w w') => renamedClause_c l2 h2 x d w' (by omega) hrd (hx.below hb))
      have HE := Lib.hid (fun (w' : World) (a b : Value) (l3 h3 l4 h4 : Nat) (hv : SlC l3 h3 w' a (renC c)) (hu : SlC l4 h4 w' b (renC d)) => eqFunc_c l3 h3 l4 h4 a b (renC c) (renC d) w' hsc hsd hv hu)
      clear hs hq hq1 hgd hrc hrd hsc hsd
      generalize renC c = rc at *
      generalize renC d = rd at *
      generalize decide (rc = rd) = q at *
      go_enter Try.func9, Try.ntmps9
      go_wp2_with fail
      refine (iGoodClause_v HS.out ha (hv.alloc _) hc (hu.alloc _)).mono ?_; rintro e w1 ⟨rfl, hb1⟩
      have hbox := boxc hb1 0 _ rfl
      go_wp2_with fail
      refine (iGoodClause_v HQ.out ha (hv.below hb1.of_alloc) hd (hx.below hb1.of_alloc)).mono ?_; rintro e w2 ⟨rfl, hb2⟩
      have B2 := hb1.of_alloc.step hb2
      go_wp2_with fail
      refine (HR1.out _ B2).mono ?_; rintro e w3 ⟨a3, n3, c3, rfl, ho3, hb3⟩
      go_wp2_with fail
      refine (HR2.out _ (B2.step hb3)).mono ?_; rintro e w4 ⟨a4, n4, c4, rfl, ho4, hb4⟩
      go_wp2_with fail
      refine (HE.out _ _ _ _ _ _ _ (ho3.below hb4).sl ho4.sl).mono ?_; rintro e w5 ⟨rfl, hb5⟩
      go_wp2_with fail
      go_ret2
      exact ⟨rfl, ((B2.step hb3).step hb4).step hb5⟩

set_option maxRecDepth 100000 in
set_option maxHeartbeats 4000000 in
theorem l7Same_c (l h l' h' : Nat) (v u : Value) (c d : List Lt) (w : World) (hc : c.length ≤ 1048576) (hd : d.length ≤ 1048576) (hrc : rows40 (flatC c)) (hrd : rows40 (flatC d)) (hsc : shortC (renC c)) (hsd : shortC (renC d)) (hv : SlC l h w v c) (hu : SlC l' h' w u d) :
    Calls Try.prog 16 #[v, u] w (RetV w (.bool (decide (renC c = renC d)))) := by
  obtain ⟨ad0, cap0, rfl⟩ := hv.form
  obtain ⟨ad1, cap1, rfl⟩ := hu.form
  have HR1 := Lib.hid (l4Rename_c l h (.slice ad0 c.length cap0) c w hc hrc hv)
  have HR2 := Lib.hid (fun (w' : World) (hb : Bel w w') => l4Rename_c l' h' (.slice ad1 d.length cap1) d w' hd hrd (hu.below hb))
  clear hrc hrd hv hu
  generalize renC c = rc at *
  generalize renC d = rd at *
  obtain ⟨hx1, hx2⟩ := hsc
  obtain ⟨hy1, hy2⟩ := hsd
  go_enter Try.func16, Try.ntmps16
  go_wp2_with fail
  refine HR1.out.mono ?_; rintro e w1 ⟨a3, n3, c3, rfl, ho3, hb1⟩
  go_wp2_with fail
  refine (HR2.out _ hb1).mono ?_; rintro e w2 ⟨a4, n4, c4, rfl, ho4, hb2⟩
  have hv := (ho3.below hb2).sl
  have hu := ho4.sl
  have B2 := hb1.step hb2
  obtain rfl := hv.len
  obtain rfl := hu.len
  clear HR1 HR2 ho3 ho4
  by_cases hl : (rc.length : Int) = rd.length
  · have hl1 : rc.length = rd.length := by omega
    have hl' : ((rc.length : Int) != rd.length) = false := by simpa using hl
    have HL := Lib.hid hl1
    clear hl hl1
    go_wp2_with fail
    go_loopw [19] (fun i wr => ∃ k : Nat, k ≤ rc.length ∧ i = .int .i64 k ∧ rc.take k = rd.take k ∧ Bel w2 wr) (fun i _ => rc.length - (intOf i).toNat)
    case atStart => exact ⟨0, Nat.zero_le _, rfl, rfl, Bel.rfl' _⟩
    case round =>
      obtain ⟨k, hk, rfl, ha, hb⟩ := hrel
      by_cases hlt : k < rc.length
      · have hlt2 : k < rd.length := by rw [← HL.out]; exact hlt
        obtain ⟨bb, off, u1, u2, rfl, hbs, c1, c2, c3, s1, s2⟩ := hv.at hb k hlt
        obtain ⟨bd, offd, q1, q2, rfl, hbsd, d1, d2, d3, t1, t2⟩ := hu.at hb k hlt2
        obtain ⟨k1, k2⟩ := hx2 k hlt
        obtain ⟨k3, k4⟩ := hy2 k hlt2
        have HS := Lib.hid (fun he => takeL_succ hlt hlt2 ha he)
        have hin1 : (k : Int) < rc.length := by omega
        have hin2 : (k : Int) < rd.length := by omega
        have HNE : Hid (∀ q, decide (rc.getD k lt0 = rd.getD k lt0) = q → q = false → decide (rc = rd) = false) := Lib.hid (fun q hq hf => by
          subst hf
          refine decide_eq_false fun e => ?_
          subst e
          simp at hq)
        clear ha hv hu
        rw [copy_dec] at HNE
        have HS2 : Hid (∀ q, ((rc.getD k lt0).1 == (rd.getD k lt0).1 && (decide ((rc.getD k lt0).2.1 = (rd.getD k lt0).2.1) && decide ((rc.getD k lt0).2.2 = (rd.getD k lt0).2.2))) = q → q = true → rc.take (k+1) = rd.take (k+1)) := Lib.hid (fun q hq ht => HS.out (by rw [← copy_dec] at hq; rw [ht] at hq; exact of_decide_eq_true hq))
        have H1 := fun (r : Bool) (hr : decide ((rc.getD k lt0).2.1 = (rd.getD k lt0).2.1) = r) (w' : World) (hb : Bel wr w') => l1Same_w _ _ _ _ _ _ (rc.getD k lt0).2.1 (rd.getD k lt0).2.1 r w' hr k1 k3 (s1.below hb) (t1.below hb)
        have H2 := fun (r : Bool) (hr : decide ((rc.getD k lt0).2.2 = (rd.getD k lt0).2.2) = r) (w' : World) (hb : Bel wr w') => l1Same_w _ _ _ _ _ _ (rc.getD k lt0).2.2 (rd.getD k lt0).2.2 r w' hr k2 k4 (s2.below hb) (t2.below hb)
        obtain ⟨a1, e1, f1⟩ := s1.form
        obtain ⟨a2, e2, f2⟩ := s2.form
        obtain ⟨a3, e3, f3⟩ := t1.form
        obtain ⟨a4, e4, f4⟩ := t2.form
        clear HS s1 s2 t1 t2 k1 k2 k3 k4
        generalize decide ((rc.getD k lt0).2.1 = (rd.getD k lt0).2.1) = b1 at *
        generalize decide ((rc.getD k lt0).2.2 = (rd.getD k lt0).2.2) = b2 at *
        generalize (rc.getD k lt0).1 = p at *
        generalize (rd.getD k lt0).1 = q at *
        generalize (rc.getD k lt0).2.1.length = n1 at *
        generalize (rc.getD k lt0).2.2.length = n2 at *
        generalize (rd.getD k lt0).2.1.length = n3 at *
        generalize (rd.getD k lt0).2.2.length = n4 at *
        subst f1 f2 f3 f4
        have H1 := Lib.hid (H1 b1 rfl)
        have H2 := Lib.hid (H2 b2 rfl)
        have B0 := Bel.drew0 wr
        have HB := Lib.hid hb
        have HF := Lib.hid (fun (w' : World) (hb' : Bel wr w') => (⟨hb'.at (World.block_lt_of_cell? _ ⟨_, _, none⟩ c1) c1, hb'.at (World.block_lt_of_cell? _ ⟨_, _, none⟩ c2) c2, hb'.at (World.block_lt_of_cell? _ ⟨_, _, none⟩ c3) c3, hb'.at (World.block_lt_of_cell? _ ⟨_, _, none⟩ d1) d1, hb'.at (World.block_lt_of_cell? _ ⟨_, _, none⟩ d2) d2, hb'.at (World.block_lt_of_cell? _ ⟨_, _, none⟩ d3) d3⟩ : (w'.cell? ⟨bb, off + k * 3, none⟩ = some (.bool p) ∧ w'.cell? ⟨bb, off + k * 3 + 1, none⟩ = some (.slice a1 n1 e1) ∧ w'.cell? ⟨bb, off + k * 3 + 2, none⟩ = some (.slice a2 n2 e2) ∧ w'.cell? ⟨bd, offd + k * 3, none⟩ = some (.bool q) ∧ w'.cell? ⟨bd, offd + k * 3 + 1, none⟩ = some (.slice a3 n3 e3) ∧ w'.cell? ⟨bd, offd + k * 3 + 2, none⟩ = some (.slice a4 n4 e4))))
        clear c1 c2 c3 d1 d2 d3
        by_cases hpq : p = q
        · subst hpq
          have hqq : (p == p) = true := by cases p <;> rfl
          cases b1 with
          | false =>
            have HE := Lib.hid (HNE.out _ (by rw [hqq]; rfl) rfl)
            clear HNE HS2 hqq
            cases p with
            | true =>
              go_wp2_with fail
              have HBD := HF.out _ B0
              refine wp_region_held_drew (S := (fun w' => (w'.cell? ⟨bb, off + k * 3, none⟩ = some (.bool true) ∧ w'.cell? ⟨bb, off + k * 3 + 1, none⟩ = some (.slice a1 n1 e1) ∧ w'.cell? ⟨bb, off + k * 3 + 2, none⟩ = some (.slice a2 n2 e2) ∧ w'.cell? ⟨bd, offd + k * 3, none⟩ = some (.bool true) ∧ w'.cell? ⟨bd, offd + k * 3 + 1, none⟩ = some (.slice a3 n3 e3) ∧ w'.cell? ⟨bd, offd + k * 3 + 2, none⟩ = some (.slice a4 n4 e4)))) (by kernel_rfl) HBD (fun _ => ?_)
              change wpAnyH _ _ _ _ _ 39 #[false, false, false, false, false, false, false, false, false, false, false, false, false, false, false, false, false, false, false, false, false, false, false, false, false, false, false, false, false, false, false, false, false, false, false, false, false, false, false] _ _
              refine wpAnyH_take (i := 0) (oi := ⟨_, _, _, _, _, _⟩) (v := ?va0) rfl (by kernel_rfl) (by kernel_rfl) (by kernel_rfl) (fun _ _ _ h => h) (Or.inl ⟨by rfl, ?hya0⟩) HBD ?resta0
              case hya0 =>
                intro w' hSw
                obtain ⟨y1, y2, y3, y4, y5, y6⟩ := hSw
                go_simp
                try with_reducible rfl
              try simp only [Act.put, List.setIfInBounds_toArray, List.set_cons_zero, List.set_cons_succ]
              refine wpAnyH_take (i := 1) (oi := ⟨_, _, _, _, _, _⟩) (v := ?va1) rfl (by kernel_rfl) (by kernel_rfl) (by kernel_rfl) (fun _ _ _ h => h) (Or.inl ⟨by rfl, ?hya1⟩) HBD ?resta1
              case hya1 =>
                intro w' hSw
                obtain ⟨y1, y2, y3, y4, y5, y6⟩ := hSw
                go_simp
                try with_reducible rfl
              try simp only [Act.put, List.setIfInBounds_toArray, List.set_cons_zero, List.set_cons_succ]
              refine wpAnyH_take (i := 2) (oi := ⟨_, _, _, _, _, _⟩) (v := ?va2) rfl (by kernel_rfl) (by kernel_rfl) (by kernel_rfl) (fun _ _ _ h => h) (Or.inl ⟨by rfl, ?hya2⟩) HBD ?resta2
              case hya2 =>
                intro w' hSw
                obtain ⟨y1, y2, y3, y4, y5, y6⟩ := hSw
                go_simp
                try with_reducible rfl
              try simp only [Act.put, List.setIfInBounds_toArray, List.set_cons_zero, List.set_cons_succ]
              refine wpAnyH_take (i := 3) (oi := ⟨_, _, _, _, _, _⟩) (v := ?va3) rfl (by kernel_rfl) (by kernel_rfl) (by kernel_rfl) (fun _ _ _ h => h) (Or.inl ⟨by rfl, ?hya3⟩) HBD ?resta3
              case hya3 =>
                intro w' hSw
                obtain ⟨y1, y2, y3, y4, y5, y6⟩ := hSw
                go_simp
                try with_reducible rfl
              try simp only [Act.put, List.setIfInBounds_toArray, List.set_cons_zero, List.set_cons_succ]
              refine wpAnyH_take (i := 4) (oi := ⟨_, _, _, _, _, _⟩) (v := ?va4) rfl (by kernel_rfl) (by kernel_rfl) (by kernel_rfl) (fun _ _ _ h => h) (Or.inl ⟨by rfl, ?hya4⟩) HBD ?resta4
              case hya4 =>
                intro w' hSw
                obtain ⟨y1, y2, y3, y4, y5, y6⟩ := hSw
                go_simp
                try with_reducible rfl
              try simp only [Act.put, List.setIfInBounds_toArray, List.set_cons_zero, List.set_cons_succ]
              refine wpAnyH_take (i := 5) (oi := ⟨_, _, _, _, _, _⟩) (v := ?va5) rfl (by kernel_rfl) (by kernel_rfl) (by kernel_rfl) (fun _ _ _ h => h) (Or.inl ⟨by rfl, ?hya5⟩) HBD ?resta5
              case hya5 =>
                intro w' hSw
                obtain ⟨y1, y2, y3, y4, y5, y6⟩ := hSw
                go_simp
                try with_reducible rfl
              try simp only [Act.put, List.setIfInBounds_toArray, List.set_cons_zero, List.set_cons_succ]
              refine wpAnyH_take (i := 6) (oi := ⟨_, _, _, _, _, _⟩) (v := ?va6) rfl (by kernel_rfl) (by kernel_rfl) (by kernel_rfl) (fun _ _ _ h => h) (Or.inl ⟨by rfl, ?hya6⟩) HBD ?resta6
              case hya6 =>
                intro w' hSw
                obtain ⟨y1, y2, y3, y4, y5, y6⟩ := hSw
                go_simp
                try with_reducible rfl
              try simp only [Act.put, List.setIfInBounds_toArray, List.set_cons_zero, List.set_cons_succ]
              refine wpAnyH_take (i := 7) (oi := ⟨_, _, _, _, _, _⟩) (v := ?va7) rfl (by kernel_rfl) (by kernel_rfl) (by kernel_rfl) (fun _ _ _ h => h) (Or.inl ⟨by rfl, ?hya7⟩) HBD ?resta7
              case hya7 =>
                intro w' hSw
                obtain ⟨y1, y2, y3, y4, y5, y6⟩ := hSw
                go_simp
                try with_reducible rfl
              try simp only [Act.put, List.setIfInBounds_toArray, List.set_cons_zero, List.set_cons_succ]
              refine wpAnyH_take (i := 8) (oi := ⟨_, _, _, _, _, _⟩) (v := ?va8) rfl (by kernel_rfl) (by kernel_rfl) (by kernel_rfl) (fun _ _ _ h => h) (Or.inl ⟨by rfl, ?hya8⟩) HBD ?resta8
              case hya8 =>
                intro w' hSw
                obtain ⟨y1, y2, y3, y4, y5, y6⟩ := hSw
                go_simp
                try with_reducible rfl
              try simp only [Act.put, List.setIfInBounds_toArray, List.set_cons_zero, List.set_cons_succ]
              refine wpAnyH_take (i := 9) (oi := ⟨_, _, _, _, _, _⟩) (v := ?va9) rfl (by kernel_rfl) (by kernel_rfl) (by kernel_rfl) (fun _ _ _ h => h) (Or.inl ⟨by rfl, ?hya9⟩) HBD ?resta9
              case hya9 =>
                intro w' hSw
                obtain ⟨y1, y2, y3, y4, y5, y6⟩ := hSw
                go_simp
                try with_reducible rfl
              try simp only [Act.put, List.setIfInBounds_toArray, List.set_cons_zero, List.set_cons_succ]
              refine wpAnyH_take (i := 10) (oi := ⟨_, _, _, _, _, _⟩) (v := ?va10) rfl (by kernel_rfl) (by kernel_rfl) (by kernel_rfl) (fun _ _ _ h => h) (Or.inl ⟨by rfl, ?hya10⟩) HBD ?resta10
              case hya10 =>
                intro w' hSw
                obtain ⟨y1, y2, y3, y4, y5, y6⟩ := hSw
                go_simp
                try with_reducible rfl
              try simp only [Act.put, List.setIfInBounds_toArray, List.set_cons_zero, List.set_cons_succ]
              refine wpAnyH_take (i := 11) (oi := ⟨_, _, _, _, _, _⟩) (v := ?va11) rfl (by kernel_rfl) (by kernel_rfl) (by kernel_rfl) (fun _ _ _ h => h) (Or.inl ⟨by rfl, ?hya11⟩) HBD ?resta11
              case hya11 =>
                intro w' hSw
                obtain ⟨y1, y2, y3, y4, y5, y6⟩ := hSw
                go_simp
                try with_reducible rfl
              try simp only [Act.put, List.setIfInBounds_toArray, List.set_cons_zero, List.set_cons_succ]
              refine wpAnyH_take (i := 12) (oi := ⟨_, _, _, _, _, _⟩) (v := ?va12) rfl (by kernel_rfl) (by kernel_rfl) (by kernel_rfl) (fun _ _ _ h => h) (Or.inl ⟨by rfl, ?hya12⟩) HBD ?resta12
              case hya12 =>
                intro w' hSw
                obtain ⟨y1, y2, y3, y4, y5, y6⟩ := hSw
                go_simp
                try with_reducible rfl
              try simp only [Act.put, List.setIfInBounds_toArray, List.set_cons_zero, List.set_cons_succ]
              refine wpAnyH_take (i := 13) (oi := ⟨_, _, _, _, _, _⟩) (v := ?va13) rfl (by kernel_rfl) (by kernel_rfl) (by kernel_rfl) (fun _ _ _ h => h) (Or.inl ⟨by rfl, ?hya13⟩) HBD ?resta13
              case hya13 =>
                intro w' hSw
                obtain ⟨y1, y2, y3, y4, y5, y6⟩ := hSw
                go_simp
                try with_reducible rfl
              try simp only [Act.put, List.setIfInBounds_toArray, List.set_cons_zero, List.set_cons_succ]
              refine wpAnyH_take (i := 14) (oi := ⟨_, _, _, _, _, _⟩) (v := ?va14) rfl (by kernel_rfl) (by kernel_rfl) (by kernel_rfl) (fun _ _ _ h => h) (Or.inl ⟨by rfl, ?hya14⟩) HBD ?resta14
              case hya14 =>
                intro w' hSw
                obtain ⟨y1, y2, y3, y4, y5, y6⟩ := hSw
                go_simp
                try with_reducible rfl
              try simp only [Act.put, List.setIfInBounds_toArray, List.set_cons_zero, List.set_cons_succ]
              refine wpAnyH_take (i := 15) (oi := ⟨_, _, _, _, _, _⟩) (v := ?va15) rfl (by kernel_rfl) (by kernel_rfl) (by kernel_rfl) (fun _ _ _ h => h) (Or.inl ⟨by rfl, ?hya15⟩) HBD ?resta15
              case hya15 =>
                intro w' hSw
                obtain ⟨y1, y2, y3, y4, y5, y6⟩ := hSw
                go_simp
                try with_reducible rfl
              try simp only [Act.put, List.setIfInBounds_toArray, List.set_cons_zero, List.set_cons_succ]
              refine wpAnyH_take (i := 16) (oi := ⟨_, _, _, _, _, _⟩) (v := ?va16) rfl (by kernel_rfl) (by kernel_rfl) (by kernel_rfl) (fun _ _ _ h => h) (Or.inl ⟨by rfl, ?hya16⟩) HBD ?resta16
              case hya16 =>
                intro w' hSw
                obtain ⟨y1, y2, y3, y4, y5, y6⟩ := hSw
                go_simp
                try with_reducible rfl
              try simp only [Act.put, List.setIfInBounds_toArray, List.set_cons_zero, List.set_cons_succ]
              refine wpAnyH_take (i := 17) (oi := ⟨_, _, _, _, _, _⟩) (v := ?va17) rfl (by kernel_rfl) (by kernel_rfl) (by kernel_rfl) (fun _ _ _ h => h) (Or.inl ⟨by rfl, ?hya17⟩) HBD ?resta17
              case hya17 =>
                intro w' hSw
                obtain ⟨y1, y2, y3, y4, y5, y6⟩ := hSw
                go_simp
                try with_reducible rfl
              try simp only [Act.put, List.setIfInBounds_toArray, List.set_cons_zero, List.set_cons_succ]
              refine wpAnyH_take (i := 18) (oi := ⟨_, _, _, _, _, _⟩) (v := ?va18) rfl (by kernel_rfl) (by kernel_rfl) (by kernel_rfl) (fun _ _ _ h => h) (Or.inl ⟨by rfl, ?hya18⟩) HBD ?resta18
              case hya18 =>
                intro w' hSw
                obtain ⟨y1, y2, y3, y4, y5, y6⟩ := hSw
                go_simp
                try with_reducible rfl
              try simp only [Act.put, List.setIfInBounds_toArray, List.set_cons_zero, List.set_cons_succ]
              refine wpAnyH_take (i := 19) (oi := ⟨_, _, _, _, _, _⟩) (v := ?va19) rfl (by kernel_rfl) (by kernel_rfl) (by kernel_rfl) (fun _ _ _ h => h) (Or.inl ⟨by rfl, ?hya19⟩) HBD ?resta19
              case hya19 =>
                intro w' hSw
                obtain ⟨y1, y2, y3, y4, y5, y6⟩ := hSw
                go_simp
                try with_reducible rfl
              try simp only [Act.put, List.setIfInBounds_toArray, List.set_cons_zero, List.set_cons_succ]
              refine wpAnyH_take (i := 20) (oi := ⟨_, _, _, _, _, _⟩) (v := ?va20) rfl (by kernel_rfl) (by kernel_rfl) (by kernel_rfl) (fun _ _ _ h => h) (Or.inl ⟨by rfl, ?hya20⟩) HBD ?resta20
              case hya20 =>
                intro w' hSw
                obtain ⟨y1, y2, y3, y4, y5, y6⟩ := hSw
                go_simp
                try with_reducible rfl
              try simp only [Act.put, List.setIfInBounds_toArray, List.set_cons_zero, List.set_cons_succ]
              refine wpAnyH_take (i := 21) (oi := ⟨_, _, _, _, _, _⟩) (v := ?va21) rfl (by kernel_rfl) (by kernel_rfl) (by kernel_rfl) (fun _ _ _ h => h) (Or.inl ⟨by rfl, ?hya21⟩) HBD ?resta21
              case hya21 =>
                intro w' hSw
                obtain ⟨y1, y2, y3, y4, y5, y6⟩ := hSw
                go_simp
                try with_reducible rfl
              try simp only [Act.put, List.setIfInBounds_toArray, List.set_cons_zero, List.set_cons_succ]
              refine wpAnyH_ready (rs := [22]) (by kernel_rfl) (by simp) ?_
              refine AllReadyH.cons rfl (fun K hK => ?_) AllReadyH.nil
              go_simp
              refine (H1.out _ B0).mono ?_; rintro e w5 ⟨rfl, hb5⟩
              have HB5 := HF.out _ (B0.step hb5)
              refine hK.out _ _ HB5 (fun _ => ?_)
              clear hK K
              try simp only [Act.put, List.setIfInBounds_toArray, List.set_cons_zero, List.set_cons_succ]
              refine wpAnyH_take (i := 23) (oi := ⟨_, _, _, _, _, _⟩) (v := ?va23) rfl (by kernel_rfl) (by kernel_rfl) (by kernel_rfl) (fun _ _ _ h => h) (Or.inl ⟨by rfl, ?hya23⟩) HB5 ?resta23
              case hya23 =>
                intro w' hSw
                obtain ⟨y1, y2, y3, y4, y5, y6⟩ := hSw
                go_simp
                try with_reducible rfl
              try simp only [Act.put, List.setIfInBounds_toArray, List.set_cons_zero, List.set_cons_succ]
              refine wpAnyH_take (i := 24) (oi := ⟨_, _, _, _, _, _⟩) (v := ?va24) rfl (by kernel_rfl) (by kernel_rfl) (by kernel_rfl) (fun _ _ _ h => h) (Or.inl ⟨by rfl, ?hya24⟩) HB5 ?resta24
              case hya24 =>
                intro w' hSw
                obtain ⟨y1, y2, y3, y4, y5, y6⟩ := hSw
                go_simp
                try with_reducible rfl
              try simp only [Act.put, List.setIfInBounds_toArray, List.set_cons_zero, List.set_cons_succ]
              refine wpAnyH_take (i := 25) (oi := ⟨_, _, _, _, _, _⟩) (v := ?va25) rfl (by kernel_rfl) (by kernel_rfl) (by kernel_rfl) (fun _ _ _ h => h) (Or.inl ⟨by rfl, ?hya25⟩) HB5 ?resta25
              case hya25 =>
                intro w' hSw
                obtain ⟨y1, y2, y3, y4, y5, y6⟩ := hSw
                go_simp
                try with_reducible rfl
              try simp only [Act.put, List.setIfInBounds_toArray, List.set_cons_zero, List.set_cons_succ]
              refine wpAnyH_take (i := 26) (oi := ⟨_, _, _, _, _, _⟩) (v := undef) rfl (by kernel_rfl) (by kernel_rfl) (by kernel_rfl) (fun _ _ _ h => h) (Or.inr ⟨by rfl, rfl⟩) HB5 ?resta26
              try simp only [Act.put, List.setIfInBounds_toArray, List.set_cons_zero, List.set_cons_succ]
              refine wpAnyH_take (i := 27) (oi := ⟨_, _, _, _, _, _⟩) (v := undef) rfl (by kernel_rfl) (by kernel_rfl) (by kernel_rfl) (fun _ _ _ h => h) (Or.inr ⟨by rfl, rfl⟩) HB5 ?resta27
              try simp only [Act.put, List.setIfInBounds_toArray, List.set_cons_zero, List.set_cons_succ]
              refine wpAnyH_take (i := 28) (oi := ⟨_, _, _, _, _, _⟩) (v := undef) rfl (by kernel_rfl) (by kernel_rfl) (by kernel_rfl) (fun _ _ _ h => h) (Or.inr ⟨by rfl, rfl⟩) HB5 ?resta28
              try simp only [Act.put, List.setIfInBounds_toArray, List.set_cons_zero, List.set_cons_succ]
              refine wpAnyH_take (i := 29) (oi := ⟨_, _, _, _, _, _⟩) (v := undef) rfl (by kernel_rfl) (by kernel_rfl) (by kernel_rfl) (fun _ _ _ h => h) (Or.inr ⟨by rfl, rfl⟩) HB5 ?resta29
              try simp only [Act.put, List.setIfInBounds_toArray, List.set_cons_zero, List.set_cons_succ]
              refine wpAnyH_take (i := 30) (oi := ⟨_, _, _, _, _, _⟩) (v := undef) rfl (by kernel_rfl) (by kernel_rfl) (by kernel_rfl) (fun _ _ _ h => h) (Or.inr ⟨by rfl, rfl⟩) HB5 ?resta30
              try simp only [Act.put, List.setIfInBounds_toArray, List.set_cons_zero, List.set_cons_succ]
              refine wpAnyH_take (i := 31) (oi := ⟨_, _, _, _, _, _⟩) (v := undef) rfl (by kernel_rfl) (by kernel_rfl) (by kernel_rfl) (fun _ _ _ h => h) (Or.inr ⟨by rfl, rfl⟩) HB5 ?resta31
              try simp only [Act.put, List.setIfInBounds_toArray, List.set_cons_zero, List.set_cons_succ]
              refine wpAnyH_take (i := 32) (oi := ⟨_, _, _, _, _, _⟩) (v := undef) rfl (by kernel_rfl) (by kernel_rfl) (by kernel_rfl) (fun _ _ _ h => h) (Or.inr ⟨by rfl, rfl⟩) HB5 ?resta32
              try simp only [Act.put, List.setIfInBounds_toArray, List.set_cons_zero, List.set_cons_succ]
              refine wpAnyH_take (i := 33) (oi := ⟨_, _, _, _, _, _⟩) (v := undef) rfl (by kernel_rfl) (by kernel_rfl) (by kernel_rfl) (fun _ _ _ h => h) (Or.inr ⟨by rfl, rfl⟩) HB5 ?resta33
              try simp only [Act.put, List.setIfInBounds_toArray, List.set_cons_zero, List.set_cons_succ]
              refine wpAnyH_take (i := 34) (oi := ⟨_, _, _, _, _, _⟩) (v := undef) rfl (by kernel_rfl) (by kernel_rfl) (by kernel_rfl) (fun _ _ _ h => h) (Or.inr ⟨by rfl, rfl⟩) HB5 ?resta34
              try simp only [Act.put, List.setIfInBounds_toArray, List.set_cons_zero, List.set_cons_succ]
              refine wpAnyH_take (i := 35) (oi := ⟨_, _, _, _, _, _⟩) (v := undef) rfl (by kernel_rfl) (by kernel_rfl) (by kernel_rfl) (fun _ _ _ h => h) (Or.inr ⟨by rfl, rfl⟩) HB5 ?resta35
              try simp only [Act.put, List.setIfInBounds_toArray, List.set_cons_zero, List.set_cons_succ]
              refine wpAnyH_take (i := 36) (oi := ⟨_, _, _, _, _, _⟩) (v := undef) rfl (by kernel_rfl) (by kernel_rfl) (by kernel_rfl) (fun _ _ _ h => h) (Or.inr ⟨by rfl, rfl⟩) HB5 ?resta36
              try simp only [Act.put, List.setIfInBounds_toArray, List.set_cons_zero, List.set_cons_succ]
              refine wpAnyH_take (i := 37) (oi := ⟨_, _, _, _, _, _⟩) (v := undef) rfl (by kernel_rfl) (by kernel_rfl) (by kernel_rfl) (fun _ _ _ h => h) (Or.inr ⟨by rfl, rfl⟩) HB5 ?resta37
              try simp only [Act.put, List.setIfInBounds_toArray, List.set_cons_zero, List.set_cons_succ]
              refine wpAnyH_take (i := 38) (oi := ⟨_, _, _, _, _, _⟩) (v := ?va38) rfl (by kernel_rfl) (by kernel_rfl) (by kernel_rfl) (fun _ _ _ h => h) (Or.inl ⟨by rfl, ?hya38⟩) HB5 ?resta38
              case hya38 =>
                intro w' hSw
                obtain ⟨y1, y2, y3, y4, y5, y6⟩ := hSw
                go_simp
                try with_reducible rfl
              try simp only [Act.put, List.setIfInBounds_toArray, List.set_cons_zero, List.set_cons_succ]
              refine wpAnyH_done (by kernel_rfl) ?_ _
              go_wp2_with fail
              go_ret
              exact ⟨by rw [HE.out]; rfl, (B2.step HB.out).step (B0.step hb5)⟩
            | false =>
              go_wp2_with fail
              have HBD := HF.out _ B0
              refine wp_region_held_drew (S := (fun w' => (w'.cell? ⟨bb, off + k * 3, none⟩ = some (.bool false) ∧ w'.cell? ⟨bb, off + k * 3 + 1, none⟩ = some (.slice a1 n1 e1) ∧ w'.cell? ⟨bb, off + k * 3 + 2, none⟩ = some (.slice a2 n2 e2) ∧ w'.cell? ⟨bd, offd + k * 3, none⟩ = some (.bool false) ∧ w'.cell? ⟨bd, offd + k * 3 + 1, none⟩ = some (.slice a3 n3 e3) ∧ w'.cell? ⟨bd, offd + k * 3 + 2, none⟩ = some (.slice a4 n4 e4)))) (by kernel_rfl) HBD (fun _ => ?_)
              change wpAnyH _ _ _ _ _ 39 #[false, false, false, false, false, false, false, false, false, false, false, false, false, false, false, false, false, false, false, false, false, false, false, false, false, false, false, false, false, false, false, false, false, false, false, false, false, false, false] _ _
              refine wpAnyH_take (i := 0) (oi := ⟨_, _, _, _, _, _⟩) (v := ?vb0) rfl (by kernel_rfl) (by kernel_rfl) (by kernel_rfl) (fun _ _ _ h => h) (Or.inl ⟨by rfl, ?hyb0⟩) HBD ?restb0
              case hyb0 =>
                intro w' hSw
                obtain ⟨y1, y2, y3, y4, y5, y6⟩ := hSw
                go_simp
                try with_reducible rfl
              try simp only [Act.put, List.setIfInBounds_toArray, List.set_cons_zero, List.set_cons_succ]
              refine wpAnyH_take (i := 1) (oi := ⟨_, _, _, _, _, _⟩) (v := ?vb1) rfl (by kernel_rfl) (by kernel_rfl) (by kernel_rfl) (fun _ _ _ h => h) (Or.inl ⟨by rfl, ?hyb1⟩) HBD ?restb1
              case hyb1 =>
                intro w' hSw
                obtain ⟨y1, y2, y3, y4, y5, y6⟩ := hSw
                go_simp
                try with_reducible rfl
              try simp only [Act.put, List.setIfInBounds_toArray, List.set_cons_zero, List.set_cons_succ]
              refine wpAnyH_take (i := 2) (oi := ⟨_, _, _, _, _, _⟩) (v := ?vb2) rfl (by kernel_rfl) (by kernel_rfl) (by kernel_rfl) (fun _ _ _ h => h) (Or.inl ⟨by rfl, ?hyb2⟩) HBD ?restb2
              case hyb2 =>
                intro w' hSw
                obtain ⟨y1, y2, y3, y4, y5, y6⟩ := hSw
                go_simp
                try with_reducible rfl
              try simp only [Act.put, List.setIfInBounds_toArray, List.set_cons_zero, List.set_cons_succ]
              refine wpAnyH_take (i := 3) (oi := ⟨_, _, _, _, _, _⟩) (v := ?vb3) rfl (by kernel_rfl) (by kernel_rfl) (by kernel_rfl) (fun _ _ _ h => h) (Or.inl ⟨by rfl, ?hyb3⟩) HBD ?restb3
              case hyb3 =>
                intro w' hSw
                obtain ⟨y1, y2, y3, y4, y5, y6⟩ := hSw
                go_simp
                try with_reducible rfl
              try simp only [Act.put, List.setIfInBounds_toArray, List.set_cons_zero, List.set_cons_succ]
              refine wpAnyH_take (i := 4) (oi := ⟨_, _, _, _, _, _⟩) (v := ?vb4) rfl (by kernel_rfl) (by kernel_rfl) (by kernel_rfl) (fun _ _ _ h => h) (Or.inl ⟨by rfl, ?hyb4⟩) HBD ?restb4
              case hyb4 =>
                intro w' hSw
                obtain ⟨y1, y2, y3, y4, y5, y6⟩ := hSw
                go_simp
                try with_reducible rfl
              try simp only [Act.put, List.setIfInBounds_toArray, List.set_cons_zero, List.set_cons_succ]
              refine wpAnyH_take (i := 5) (oi := ⟨_, _, _, _, _, _⟩) (v := ?vb5) rfl (by kernel_rfl) (by kernel_rfl) (by kernel_rfl) (fun _ _ _ h => h) (Or.inl ⟨by rfl, ?hyb5⟩) HBD ?restb5
              case hyb5 =>
                intro w' hSw
                obtain ⟨y1, y2, y3, y4, y5, y6⟩ := hSw
                go_simp
                try with_reducible rfl
              try simp only [Act.put, List.setIfInBounds_toArray, List.set_cons_zero, List.set_cons_succ]
              refine wpAnyH_take (i := 6) (oi := ⟨_, _, _, _, _, _⟩) (v := ?vb6) rfl (by kernel_rfl) (by kernel_rfl) (by kernel_rfl) (fun _ _ _ h => h) (Or.inl ⟨by rfl, ?hyb6⟩) HBD ?restb6
              case hyb6 =>
                intro w' hSw
                obtain ⟨y1, y2, y3, y4, y5, y6⟩ := hSw
                go_simp
                try with_reducible rfl
              try simp only [Act.put, List.setIfInBounds_toArray, List.set_cons_zero, List.set_cons_succ]
              refine wpAnyH_take (i := 7) (oi := ⟨_, _, _, _, _, _⟩) (v := ?vb7) rfl (by kernel_rfl) (by kernel_rfl) (by kernel_rfl) (fun _ _ _ h => h) (Or.inl ⟨by rfl, ?hyb7⟩) HBD ?restb7
              case hyb7 =>
                intro w' hSw
                obtain ⟨y1, y2, y3, y4, y5, y6⟩ := hSw
                go_simp
                try with_reducible rfl
              try simp only [Act.put, List.setIfInBounds_toArray, List.set_cons_zero, List.set_cons_succ]
              refine wpAnyH_take (i := 8) (oi := ⟨_, _, _, _, _, _⟩) (v := ?vb8) rfl (by kernel_rfl) (by kernel_rfl) (by kernel_rfl) (fun _ _ _ h => h) (Or.inl ⟨by rfl, ?hyb8⟩) HBD ?restb8
              case hyb8 =>
                intro w' hSw
                obtain ⟨y1, y2, y3, y4, y5, y6⟩ := hSw
                go_simp
                try with_reducible rfl
              try simp only [Act.put, List.setIfInBounds_toArray, List.set_cons_zero, List.set_cons_succ]
              refine wpAnyH_take (i := 9) (oi := ⟨_, _, _, _, _, _⟩) (v := ?vb9) rfl (by kernel_rfl) (by kernel_rfl) (by kernel_rfl) (fun _ _ _ h => h) (Or.inl ⟨by rfl, ?hyb9⟩) HBD ?restb9
              case hyb9 =>
                intro w' hSw
                obtain ⟨y1, y2, y3, y4, y5, y6⟩ := hSw
                go_simp
                try with_reducible rfl
              try simp only [Act.put, List.setIfInBounds_toArray, List.set_cons_zero, List.set_cons_succ]
              refine wpAnyH_take (i := 10) (oi := ⟨_, _, _, _, _, _⟩) (v := ?vb10) rfl (by kernel_rfl) (by kernel_rfl) (by kernel_rfl) (fun _ _ _ h => h) (Or.inl ⟨by rfl, ?hyb10⟩) HBD ?restb10
              case hyb10 =>
                intro w' hSw
                obtain ⟨y1, y2, y3, y4, y5, y6⟩ := hSw
                go_simp
                try with_reducible rfl
              try simp only [Act.put, List.setIfInBounds_toArray, List.set_cons_zero, List.set_cons_succ]
              refine wpAnyH_take (i := 11) (oi := ⟨_, _, _, _, _, _⟩) (v := ?vb11) rfl (by kernel_rfl) (by kernel_rfl) (by kernel_rfl) (fun _ _ _ h => h) (Or.inl ⟨by rfl, ?hyb11⟩) HBD ?restb11
              case hyb11 =>
                intro w' hSw
                obtain ⟨y1, y2, y3, y4, y5, y6⟩ := hSw
                go_simp
                try with_reducible rfl
              try simp only [Act.put, List.setIfInBounds_toArray, List.set_cons_zero, List.set_cons_succ]
              refine wpAnyH_take (i := 12) (oi := ⟨_, _, _, _, _, _⟩) (v := ?vb12) rfl (by kernel_rfl) (by kernel_rfl) (by kernel_rfl) (fun _ _ _ h => h) (Or.inl ⟨by rfl, ?hyb12⟩) HBD ?restb12
              case hyb12 =>
                intro w' hSw
                obtain ⟨y1, y2, y3, y4, y5, y6⟩ := hSw
                go_simp
                try with_reducible rfl
              try simp only [Act.put, List.setIfInBounds_toArray, List.set_cons_zero, List.set_cons_succ]
              refine wpAnyH_take (i := 13) (oi := ⟨_, _, _, _, _, _⟩) (v := ?vb13) rfl (by kernel_rfl) (by kernel_rfl) (by kernel_rfl) (fun _ _ _ h => h) (Or.inl ⟨by rfl, ?hyb13⟩) HBD ?restb13
              case hyb13 =>
                intro w' hSw
                obtain ⟨y1, y2, y3, y4, y5, y6⟩ := hSw
                go_simp
                try with_reducible rfl
              try simp only [Act.put, List.setIfInBounds_toArray, List.set_cons_zero, List.set_cons_succ]
              refine wpAnyH_take (i := 14) (oi := ⟨_, _, _, _, _, _⟩) (v := ?vb14) rfl (by kernel_rfl) (by kernel_rfl) (by kernel_rfl) (fun _ _ _ h => h) (Or.inl ⟨by rfl, ?hyb14⟩) HBD ?restb14
              case hyb14 =>
                intro w' hSw
                obtain ⟨y1, y2, y3, y4, y5, y6⟩ := hSw
                go_simp
                try with_reducible rfl
              try simp only [Act.put, List.setIfInBounds_toArray, List.set_cons_zero, List.set_cons_succ]
              refine wpAnyH_take (i := 15) (oi := ⟨_, _, _, _, _, _⟩) (v := ?vb15) rfl (by kernel_rfl) (by kernel_rfl) (by kernel_rfl) (fun _ _ _ h => h) (Or.inl ⟨by rfl, ?hyb15⟩) HBD ?restb15
              case hyb15 =>
                intro w' hSw
                obtain ⟨y1, y2, y3, y4, y5, y6⟩ := hSw
                go_simp
                try with_reducible rfl
              try simp only [Act.put, List.setIfInBounds_toArray, List.set_cons_zero, List.set_cons_succ]
              refine wpAnyH_take (i := 16) (oi := ⟨_, _, _, _, _, _⟩) (v := ?vb16) rfl (by kernel_rfl) (by kernel_rfl) (by kernel_rfl) (fun _ _ _ h => h) (Or.inl ⟨by rfl, ?hyb16⟩) HBD ?restb16
              case hyb16 =>
                intro w' hSw
                obtain ⟨y1, y2, y3, y4, y5, y6⟩ := hSw
                go_simp
                try with_reducible rfl
              try simp only [Act.put, List.setIfInBounds_toArray, List.set_cons_zero, List.set_cons_succ]
              refine wpAnyH_take (i := 17) (oi := ⟨_, _, _, _, _, _⟩) (v := ?vb17) rfl (by kernel_rfl) (by kernel_rfl) (by kernel_rfl) (fun _ _ _ h => h) (Or.inl ⟨by rfl, ?hyb17⟩) HBD ?restb17
              case hyb17 =>
                intro w' hSw
                obtain ⟨y1, y2, y3, y4, y5, y6⟩ := hSw
                go_simp
                try with_reducible rfl
              try simp only [Act.put, List.setIfInBounds_toArray, List.set_cons_zero, List.set_cons_succ]
              refine wpAnyH_take (i := 18) (oi := ⟨_, _, _, _, _, _⟩) (v := ?vb18) rfl (by kernel_rfl) (by kernel_rfl) (by kernel_rfl) (fun _ _ _ h => h) (Or.inl ⟨by rfl, ?hyb18⟩) HBD ?restb18
              case hyb18 =>
                intro w' hSw
                obtain ⟨y1, y2, y3, y4, y5, y6⟩ := hSw
                go_simp
                try with_reducible rfl
              try simp only [Act.put, List.setIfInBounds_toArray, List.set_cons_zero, List.set_cons_succ]
              refine wpAnyH_take (i := 19) (oi := ⟨_, _, _, _, _, _⟩) (v := ?vb19) rfl (by kernel_rfl) (by kernel_rfl) (by kernel_rfl) (fun _ _ _ h => h) (Or.inl ⟨by rfl, ?hyb19⟩) HBD ?restb19
              case hyb19 =>
                intro w' hSw
                obtain ⟨y1, y2, y3, y4, y5, y6⟩ := hSw
                go_simp
                try with_reducible rfl
              try simp only [Act.put, List.setIfInBounds_toArray, List.set_cons_zero, List.set_cons_succ]
              refine wpAnyH_take (i := 20) (oi := ⟨_, _, _, _, _, _⟩) (v := ?vb20) rfl (by kernel_rfl) (by kernel_rfl) (by kernel_rfl) (fun _ _ _ h => h) (Or.inl ⟨by rfl, ?hyb20⟩) HBD ?restb20
              case hyb20 =>
                intro w' hSw
                obtain ⟨y1, y2, y3, y4, y5, y6⟩ := hSw
                go_simp
                try with_reducible rfl
              try simp only [Act.put, List.setIfInBounds_toArray, List.set_cons_zero, List.set_cons_succ]
              refine wpAnyH_take (i := 21) (oi := ⟨_, _, _, _, _, _⟩) (v := ?vb21) rfl (by kernel_rfl) (by kernel_rfl) (by kernel_rfl) (fun _ _ _ h => h) (Or.inl ⟨by rfl, ?hyb21⟩) HBD ?restb21
              case hyb21 =>
                intro w' hSw
                obtain ⟨y1, y2, y3, y4, y5, y6⟩ := hSw
                go_simp
                try with_reducible rfl
              try simp only [Act.put, List.setIfInBounds_toArray, List.set_cons_zero, List.set_cons_succ]
              refine wpAnyH_ready (rs := [22]) (by kernel_rfl) (by simp) ?_
              refine AllReadyH.cons rfl (fun K hK => ?_) AllReadyH.nil
              go_simp
              refine (H1.out _ B0).mono ?_; rintro e w5 ⟨rfl, hb5⟩
              have HB5 := HF.out _ (B0.step hb5)
              refine hK.out _ _ HB5 (fun _ => ?_)
              clear hK K
              try simp only [Act.put, List.setIfInBounds_toArray, List.set_cons_zero, List.set_cons_succ]
              refine wpAnyH_take (i := 23) (oi := ⟨_, _, _, _, _, _⟩) (v := ?vb23) rfl (by kernel_rfl) (by kernel_rfl) (by kernel_rfl) (fun _ _ _ h => h) (Or.inl ⟨by rfl, ?hyb23⟩) HB5 ?restb23
              case hyb23 =>
                intro w' hSw
                obtain ⟨y1, y2, y3, y4, y5, y6⟩ := hSw
                go_simp
                try with_reducible rfl
              try simp only [Act.put, List.setIfInBounds_toArray, List.set_cons_zero, List.set_cons_succ]
              refine wpAnyH_take (i := 24) (oi := ⟨_, _, _, _, _, _⟩) (v := ?vb24) rfl (by kernel_rfl) (by kernel_rfl) (by kernel_rfl) (fun _ _ _ h => h) (Or.inl ⟨by rfl, ?hyb24⟩) HB5 ?restb24
              case hyb24 =>
                intro w' hSw
                obtain ⟨y1, y2, y3, y4, y5, y6⟩ := hSw
                go_simp
                try with_reducible rfl
              try simp only [Act.put, List.setIfInBounds_toArray, List.set_cons_zero, List.set_cons_succ]
              refine wpAnyH_take (i := 25) (oi := ⟨_, _, _, _, _, _⟩) (v := ?vb25) rfl (by kernel_rfl) (by kernel_rfl) (by kernel_rfl) (fun _ _ _ h => h) (Or.inl ⟨by rfl, ?hyb25⟩) HB5 ?restb25
              case hyb25 =>
                intro w' hSw
                obtain ⟨y1, y2, y3, y4, y5, y6⟩ := hSw
                go_simp
                try with_reducible rfl
              try simp only [Act.put, List.setIfInBounds_toArray, List.set_cons_zero, List.set_cons_succ]
              refine wpAnyH_take (i := 26) (oi := ⟨_, _, _, _, _, _⟩) (v := undef) rfl (by kernel_rfl) (by kernel_rfl) (by kernel_rfl) (fun _ _ _ h => h) (Or.inr ⟨by rfl, rfl⟩) HB5 ?restb26
              try simp only [Act.put, List.setIfInBounds_toArray, List.set_cons_zero, List.set_cons_succ]
              refine wpAnyH_take (i := 27) (oi := ⟨_, _, _, _, _, _⟩) (v := undef) rfl (by kernel_rfl) (by kernel_rfl) (by kernel_rfl) (fun _ _ _ h => h) (Or.inr ⟨by rfl, rfl⟩) HB5 ?restb27
              try simp only [Act.put, List.setIfInBounds_toArray, List.set_cons_zero, List.set_cons_succ]
              refine wpAnyH_take (i := 28) (oi := ⟨_, _, _, _, _, _⟩) (v := undef) rfl (by kernel_rfl) (by kernel_rfl) (by kernel_rfl) (fun _ _ _ h => h) (Or.inr ⟨by rfl, rfl⟩) HB5 ?restb28
              try simp only [Act.put, List.setIfInBounds_toArray, List.set_cons_zero, List.set_cons_succ]
              refine wpAnyH_take (i := 29) (oi := ⟨_, _, _, _, _, _⟩) (v := undef) rfl (by kernel_rfl) (by kernel_rfl) (by kernel_rfl) (fun _ _ _ h => h) (Or.inr ⟨by rfl, rfl⟩) HB5 ?restb29
              try simp only [Act.put, List.setIfInBounds_toArray, List.set_cons_zero, List.set_cons_succ]
              refine wpAnyH_take (i := 30) (oi := ⟨_, _, _, _, _, _⟩) (v := undef) rfl (by kernel_rfl) (by kernel_rfl) (by kernel_rfl) (fun _ _ _ h => h) (Or.inr ⟨by rfl, rfl⟩) HB5 ?restb30
              try simp only [Act.put, List.setIfInBounds_toArray, List.set_cons_zero, List.set_cons_succ]
              refine wpAnyH_take (i := 31) (oi := ⟨_, _, _, _, _, _⟩) (v := undef) rfl (by kernel_rfl) (by kernel_rfl) (by kernel_rfl) (fun _ _ _ h => h) (Or.inr ⟨by rfl, rfl⟩) HB5 ?restb31
              try simp only [Act.put, List.setIfInBounds_toArray, List.set_cons_zero, List.set_cons_succ]
              refine wpAnyH_take (i := 32) (oi := ⟨_, _, _, _, _, _⟩) (v := undef) rfl (by kernel_rfl) (by kernel_rfl) (by kernel_rfl) (fun _ _ _ h => h) (Or.inr ⟨by rfl, rfl⟩) HB5 ?restb32
              try simp only [Act.put, List.setIfInBounds_toArray, List.set_cons_zero, List.set_cons_succ]
              refine wpAnyH_take (i := 33) (oi := ⟨_, _, _, _, _, _⟩) (v := undef) rfl (by kernel_rfl) (by kernel_rfl) (by kernel_rfl) (fun _ _ _ h => h) (Or.inr ⟨by rfl, rfl⟩) HB5 ?restb33
              try simp only [Act.put, List.setIfInBounds_toArray, List.set_cons_zero, List.set_cons_succ]
              refine wpAnyH_take (i := 34) (oi := ⟨_, _, _, _, _, _⟩) (v := undef) rfl (by kernel_rfl) (by kernel_rfl) (by kernel_rfl) (fun _ _ _ h => h) (Or.inr ⟨by rfl, rfl⟩) HB5 ?restb34
              try simp only [Act.put, List.setIfInBounds_toArray, List.set_cons_zero, List.set_cons_succ]
              refine wpAnyH_take (i := 35) (oi := ⟨_, _, _, _, _, _⟩) (v := undef) rfl (by kernel_rfl) (by kernel_rfl) (by kernel_rfl) (fun _ _ _ h => h) (Or.inr ⟨by rfl, rfl⟩) HB5 ?restb35
              try simp only [Act.put, List.setIfInBounds_toArray, List.set_cons_zero, List.set_cons_succ]
              refine wpAnyH_take (i := 36) (oi := ⟨_, _, _, _, _, _⟩) (v := undef) rfl (by kernel_rfl) (by kernel_rfl) (by kernel_rfl) (fun _ _ _ h => h) (Or.inr ⟨by rfl, rfl⟩) HB5 ?restb36
              try simp only [Act.put, List.setIfInBounds_toArray, List.set_cons_zero, List.set_cons_succ]
              refine wpAnyH_take (i := 37) (oi := ⟨_, _, _, _, _, _⟩) (v := undef) rfl (by kernel_rfl) (by kernel_rfl) (by kernel_rfl) (fun _ _ _ h => h) (Or.inr ⟨by rfl, rfl⟩) HB5 ?restb37
              try simp only [Act.put, List.setIfInBounds_toArray, List.set_cons_zero, List.set_cons_succ]
              refine wpAnyH_take (i := 38) (oi := ⟨_, _, _, _, _, _⟩) (v := ?vb38) rfl (by kernel_rfl) (by kernel_rfl) (by kernel_rfl) (fun _ _ _ h => h) (Or.inl ⟨by rfl, ?hyb38⟩) HB5 ?restb38
              case hyb38 =>
                intro w' hSw
                obtain ⟨y1, y2, y3, y4, y5, y6⟩ := hSw
                go_simp
                try with_reducible rfl
              try simp only [Act.put, List.setIfInBounds_toArray, List.set_cons_zero, List.set_cons_succ]
              refine wpAnyH_done (by kernel_rfl) ?_ _
              go_wp2_with fail
              go_ret
              exact ⟨by rw [HE.out]; rfl, (B2.step HB.out).step (B0.step hb5)⟩
          | true =>
            cases b2 with
            | false =>
              have HE := Lib.hid (HNE.out _ (by rw [hqq]; rfl) rfl)
              clear HNE HS2 hqq
              cases p with
              | true =>
                go_wp2_with fail
                go_region_held3 (fun w' => (w'.cell? ⟨bb, off + k * 3, none⟩ = some (.bool true) ∧ w'.cell? ⟨bb, off + k * 3 + 1, none⟩ = some (.slice a1 n1 e1) ∧ w'.cell? ⟨bb, off + k * 3 + 2, none⟩ = some (.slice a2 n2 e2) ∧ w'.cell? ⟨bd, offd + k * 3, none⟩ = some (.bool true) ∧ w'.cell? ⟨bd, offd + k * 3 + 1, none⟩ = some (.slice a3 n3 e3) ∧ w'.cell? ⟨bd, offd + k * 3 + 2, none⟩ = some (.slice a4 n4 e4)))
                  (first | exact HF.out _ ((B0.step hb5).step hb6) | exact HF.out _ (B0.step hb5) | exact HF.out _ B0 | fail)
                  (first | (go_at_call 28; refine (H2.out _ (B0.step hb5)).mono ?_; rintro e w6 ⟨rfl, hb6⟩) | (go_at_call 28; refine (H1.out _ B0).mono ?_; rintro e w5 ⟨rfl, hb5⟩) | fail)
                all_goals
                  go_wp2_with fail
                  go_ret
                  exact ⟨by rw [HE.out]; rfl, (B2.step HB.out).step ((B0.step hb5).step hb6)⟩
              | false =>
                go_wp2_with fail
                go_region_held3 (fun w' => (w'.cell? ⟨bb, off + k * 3, none⟩ = some (.bool false) ∧ w'.cell? ⟨bb, off + k * 3 + 1, none⟩ = some (.slice a1 n1 e1) ∧ w'.cell? ⟨bb, off + k * 3 + 2, none⟩ = some (.slice a2 n2 e2) ∧ w'.cell? ⟨bd, offd + k * 3, none⟩ = some (.bool false) ∧ w'.cell? ⟨bd, offd + k * 3 + 1, none⟩ = some (.slice a3 n3 e3) ∧ w'.cell? ⟨bd, offd + k * 3 + 2, none⟩ = some (.slice a4 n4 e4)))
                  (first | exact HF.out _ ((B0.step hb5).step hb6) | exact HF.out _ (B0.step hb5) | exact HF.out _ B0 | fail)
                  (first | (go_at_call 28; refine (H2.out _ (B0.step hb5)).mono ?_; rintro e w6 ⟨rfl, hb6⟩) | (go_at_call 28; refine (H1.out _ B0).mono ?_; rintro e w5 ⟨rfl, hb5⟩) | fail)
                all_goals
                  go_wp2_with fail
                  go_ret
                  exact ⟨by rw [HE.out]; rfl, (B2.step HB.out).step ((B0.step hb5).step hb6)⟩
            | true =>
              have HE := Lib.hid (HS2.out _ (by rw [hqq]; rfl) rfl)
              clear HNE HS2 hqq
              cases p with
              | true =>
                go_wp2_with fail
                go_region_held3 (fun w' => (w'.cell? ⟨bb, off + k * 3, none⟩ = some (.bool true) ∧ w'.cell? ⟨bb, off + k * 3 + 1, none⟩ = some (.slice a1 n1 e1) ∧ w'.cell? ⟨bb, off + k * 3 + 2, none⟩ = some (.slice a2 n2 e2) ∧ w'.cell? ⟨bd, offd + k * 3, none⟩ = some (.bool true) ∧ w'.cell? ⟨bd, offd + k * 3 + 1, none⟩ = some (.slice a3 n3 e3) ∧ w'.cell? ⟨bd, offd + k * 3 + 2, none⟩ = some (.slice a4 n4 e4)))
                  (first | exact HF.out _ ((B0.step hb5).step hb6) | exact HF.out _ (B0.step hb5) | exact HF.out _ B0 | fail)
                  (first | (go_at_call 28; refine (H2.out _ (B0.step hb5)).mono ?_; rintro e w6 ⟨rfl, hb6⟩) | (go_at_call 28; refine (H1.out _ B0).mono ?_; rintro e w5 ⟨rfl, hb5⟩) | fail)
                all_goals
                  go_wp2_with fail
                  go_roundw
                  case rel => exact ⟨k+1, by omega, by go_num, HE.out, HB.out.step ((B0.step hb5).step hb6)⟩
                  case measure => simp [intOf]; omega
              | false =>
                go_wp2_with fail
                go_region_held3 (fun w' => (w'.cell? ⟨bb, off + k * 3, none⟩ = some (.bool false) ∧ w'.cell? ⟨bb, off + k * 3 + 1, none⟩ = some (.slice a1 n1 e1) ∧ w'.cell? ⟨bb, off + k * 3 + 2, none⟩ = some (.slice a2 n2 e2) ∧ w'.cell? ⟨bd, offd + k * 3, none⟩ = some (.bool false) ∧ w'.cell? ⟨bd, offd + k * 3 + 1, none⟩ = some (.slice a3 n3 e3) ∧ w'.cell? ⟨bd, offd + k * 3 + 2, none⟩ = some (.slice a4 n4 e4)))
                  (first | exact HF.out _ ((B0.step hb5).step hb6) | exact HF.out _ (B0.step hb5) | exact HF.out _ B0 | fail)
                  (first | (go_at_call 28; refine (H2.out _ (B0.step hb5)).mono ?_; rintro e w6 ⟨rfl, hb6⟩) | (go_at_call 28; refine (H1.out _ B0).mono ?_; rintro e w5 ⟨rfl, hb5⟩) | fail)
                all_goals
                  go_wp2_with fail
                  go_roundw
                  case rel => exact ⟨k+1, by omega, by go_num, HE.out, HB.out.step ((B0.step hb5).step hb6)⟩
                  case measure => simp [intOf]; omega
        · have HE := Lib.hid (HNE.out _ (by rw [show (p == q) = false from by simpa using hpq]; rfl) rfl)
          clear HNE HS2
          obtain ⟨c1, c2, c3, d1, d2, d3⟩ := HF.out _ B0
          cases p with
          | true =>
            cases q with
            | true => exact absurd rfl hpq
            | false =>
              clear hpq
              go_wp2_with fail
              go_region
              all_goals
                go_wp2_with fail
                go_ret
                exact ⟨by rw [HE.out]; rfl, (B2.step HB.out).step B0⟩
          | false =>
            cases q with
            | false => exact absurd rfl hpq
            | true =>
              clear hpq
              go_wp2_with fail
              go_region
              all_goals
                go_wp2_with fail
                go_ret
                exact ⟨by rw [HE.out]; rfl, (B2.step HB.out).step B0⟩
      · obtain rfl : k = rc.length := by omega
        have HE := Lib.hid (decide_eq_true (takeL_all HL.out ha))
        clear ha
        go_wp2_with fail
        go_ret
        exact ⟨by rw [HE.out]; rfl, B2.step hb⟩
  · have hl' : ((rc.length : Int) != rd.length) = true := by simpa using hl
    have HE : Hid (decide (rc = rd) = false) := Lib.hid (decide_eq_false (fun e => hl (by rw [e])))
    go_wp2_with fail
    go_ret
    exact ⟨by rw [HE.out]; rfl, B2⟩

set_option maxRecDepth 100000 in
set_option maxHeartbeats 1000000 in
theorem sSameClause_t {l h l' h' l2 h2 : Nat} {v u x : Value} {ar : List Int} {c d : List Lt} {w : World} (ha : ar.length ≤ 1048576) (hv : SlI l h w v ar) (hc : sumC c ≤ 1048576) (hu : SlC l' h' w u c) (hd : sumC d ≤ 1048576) (hx : SlC l2 h2 w x d) :
    Calls Try.prog 6 #[.agg #[v], u, x] w (RetV w (.tuple #[.bool (sameClAns ar c d), .bool (sameClOk ar c d)])) := by
  unfold sameClAns sameClOk
  cases hs : goodClause ar c with
  | false =>
    rw [Bool.false_and, Bool.false_and]
    have HS := Lib.hid hs; clear hs
    go_enter Try.func6, Try.ntmps6
    go_wp2_with fail
    refine (sGoodClause_v HS.out ha (hv.alloc _) hc (hu.alloc _)).mono ?_; rintro e w1 ⟨rfl, hb1⟩
    go_wp2_with fail
    go_ret2
    exact ⟨rfl, hb1.of_alloc⟩
  | true =>
    rw [Bool.true_and]
    have hg := (goodClause_iff.1 hs).1
    have hq1 : okLits ar c = true := by unfold goodClause at hs; exact (Bool.and_eq_true_iff.1 hs).2
    have hrc := rows_flat hs
    have hc8 := (okLits_iff.1 hq1).1
    have hshd := shortC_of_sum hd
    cases hq : okLits ar d with
    | false =>
      rw [Bool.false_and]
      have HQ := Lib.hid hq
      have HS := Lib.hid hs; clear hs hq hq1
      go_enter Try.func6, Try.ntmps6
      go_wp2_with fail
      refine (sGoodClause_v HS.out ha (hv.alloc _) hc (hu.alloc _)).mono ?_; rintro e w1 ⟨rfl, hb1⟩
      have hbox := boxc hb1 0 _ rfl
      go_wp2_with fail
      refine (l4Clause_w _ _ _ _ _ _ ar d false _ HQ.out hg hshd (hv.below hb1.of_alloc) (hx.below hb1.of_alloc)).mono ?_; rintro e w2 ⟨rfl, hb2⟩
      go_wp2_with fail
      go_ret2
      exact ⟨rfl, hb1.of_alloc.step hb2⟩
    | true =>
      rw [Bool.true_and]
      have hgd : goodClause ar d = true := by unfold goodClause; rw [hg, hq]; rfl
      have hrd := rows_flat hgd
      have hd8 := (okLits_iff.1 hq).1
      have hsc := good_shortR hq1
      have hsd := good_shortR hq
      have HQ := Lib.hid hq
      have HS := Lib.hid hs
      have HR1 := Lib.hid (fun (w' : World) (hb : Bel w w') => l7Same_c l' h' l2 h2 u x c d w' (by omega) (by omega) hrc hrd hsc hsd (hu.below hb) (hx.below hb))
      clear hs hq hq1 hgd hrc hrd hsc hsd
      generalize decide (renC c = renC d) = q at *
      go_enter Try.func6, Try.ntmps6
      go_wp2_with fail
      refine (sGoodClause_v HS.out ha (hv.alloc _) hc (hu.alloc _)).mono ?_; rintro e w1 ⟨rfl, hb1⟩
      have hbox := boxc hb1 0 _ rfl
      go_wp2_with fail
      refine (l4Clause_w _ _ _ _ _ _ ar d true _ HQ.out hg hshd (hv.below hb1.of_alloc) (hx.below hb1.of_alloc)).mono ?_; rintro e w2 ⟨rfl, hb2⟩
      have B2 := hb1.of_alloc.step hb2
      go_wp2_with fail
      refine (HR1.out _ B2).mono ?_; rintro e w3 ⟨rfl, hb3⟩
      go_wp2_with fail
      go_ret2
      exact ⟨rfl, B2.step hb3⟩
end Go.Proofs.Ytikllmdmifecpac
