/- Texts merged, part 9. -/
import Derived.Maps.AppendAt
import Derived.Deep.AppendLies
import Derived.Deep.RegionHeldLaw
import Derived.Test.YtajmjjandkdhiaaMgTidyClause8
section
/- Chapter 4, the reference: valid clauses, weights. -/
namespace Go.Proofs.Ytajmjjandkdhiaa
open Go.RowKit

theorem okTerm_len {ar t : List Int} (h : okTerm ar t = true) : 1 ≤ t.length ∧ t.length ≤ 40 := ⟨((okTerm_iff ar t).1 h).1, ((okTerm_iff ar t).1 h).2.1⟩
theorem l4Lit_v (l h l' h' : Nat) (v u1 u2 : Value) (ar xl xr : List Int) (p q : Bool) (w : World) (hq : (okTerm ar xl && okTerm ar xr) = q) (hg : goodSign ar = true) (hl : xl.length ≤ 1048576) (hr : xr.length ≤ 1048576) (hv : SlI l h w v ar) (h1 : SlI l' h' w u1 xl) (h2 : SlI l' h' w u2 xr) :
    Calls Try.prog 99 #[.agg #[v], .agg #[.bool p, u1, u2]] w (RetV w (.bool q)) := by subst hq; exact l4Lit_c l h l' h' v u1 u2 ar xl xr p w hg hl hr hv h1 h2

set_option maxRecDepth 100000 in
set_option maxHeartbeats 400000 in
theorem l4Clause_c (l h l' h' : Nat) (v u : Value) (ar : List Int) (c : List Lt) (w : World) (hg : goodSign ar = true) (hx : shortC c) (hv : SlI l h w v ar) (hu : SlC l' h' w u c) :
    Calls Try.prog 63 #[.agg #[v], u] w (RetV w (.bool (okLits ar c))) := by
  obtain ⟨ad, cap, rfl⟩ := hu.form
  obtain ⟨hxl, hxj⟩ := hx
  go_enter Try.func63, Try.ntmps63
  go_wp2_with fail
  go_loopw [9] (fun i wr => ∃ k : Nat, k ≤ c.length ∧ i = .int .i64 k ∧ okTo ar c k ∧ Bel (w.alloc (.cells #[v] 26)) wr) (fun i _ => c.length - (intOf i).toNat)
  case atStart => exact ⟨0, Nat.zero_le _, rfl, fun j hj => absurd hj (by omega), Bel.rfl' _⟩
  case round =>
    obtain ⟨k, hk, rfl, hto, hb⟩ := hrel
    have hbox := boxc hb 0 _ rfl
    by_cases hlt : k < c.length
    · obtain ⟨b, off, u1, u2, rfl, hbs, c1, c2, c3, s1, s2⟩ := hu.at hb.of_alloc k hlt
      obtain ⟨hm1, hm2⟩ := hxj k hlt
      have hstep := hto.step (k := k)
      have hbad := okLits_bad (ar := ar) hlt
      have hin1 : (k : Int) < c.length := by omega
      have hvr := hv.below hb.of_alloc
      clear hu hv hxj hto
      unfold okLit at hstep hbad
      generalize c.getD k lt0 = x at *
      obtain ⟨p, xl, xr⟩ := x
      simp only at *
      obtain ⟨a1, d1, rfl⟩ := s1.form
      obtain ⟨a2, d2, rfl⟩ := s2.form
      have hbox2 := boxc (hb.alloc (.cells #[.bool p, .slice a1 xl.length d1, .slice a2 xr.length d2] 68)) 0 _ rfl
      cases hq : (okTerm ar xl && okTerm ar xr) with
      | false =>
        have E := Lib.hid (hbad hq)
        have HQ := Lib.hid hq
        clear hstep hbad hq
        go_wp2_with fail
        refine (l4Lit_v l h l' h' v _ _ ar xl xr p false _ HQ.out hg hm1 hm2 (hvr.alloc _) (s1.alloc _) (s2.alloc _)).mono ?_; rintro e w1 ⟨rfl, hb1⟩
        go_wp2_with fail
        go_ret
        exact ⟨by rw [E.out]; rfl, hb.of_alloc.step ((Bel.alloc0 _ _).step hb1)⟩
      | true =>
        have E := Lib.hid (hstep hq)
        have HQ := Lib.hid hq
        clear hstep hbad hq
        go_wp2_with fail
        refine (l4Lit_v l h l' h' v _ _ ar xl xr p true _ HQ.out hg hm1 hm2 (hvr.alloc _) (s1.alloc _) (s2.alloc _)).mono ?_; rintro e w1 ⟨rfl, hb1⟩
        go_wp2_with fail
        go_roundw
        case rel => exact ⟨k+1, by omega, by go_num, E.out, hb.step ((Bel.alloc0 _ _).step hb1)⟩
        case measure => simp [intOf]; omega
    · obtain rfl : k = c.length := by omega
      have E := Lib.hid hto.done
      have hd : decide ((c.length : Int) ≤ 8) = decide (c.length ≤ 8) := by rw [decide_eq_decide]; omega
      go_wp2_with fail
      go_ret
      exact ⟨by rw [E.out, ← hd]; rfl, hb.of_alloc⟩

set_option maxRecDepth 100000 in
set_option maxHeartbeats 400000 in
theorem l4Weight_c (l h : Nat) (v : Value) (c : List Lt) (w : World) (hx : sumC c ≤ 1048576) (hv : SlC l h w v c) :
    Calls Try.prog 86 #[v] w (RetV w (.int .i64 (lenC c : Nat))) := by
  obtain ⟨ad, cap, rfl⟩ := hv.form
  have hse := sumC_eq c
  go_enter Try.func86, Try.ntmps86
  go_wp2_with fail
  go_loopw [3, 8] (fun m i wr => ∃ k : Nat, k ≤ c.length ∧ i = .int .i64 k ∧ m = .int .i64 (lenC (c.take k) : Nat) ∧ Bel w wr) (fun _ i _ => c.length - (intOf i).toNat)
  case atStart => exact ⟨0, Nat.zero_le _, rfl, by simp [lenC, flatC, sumL], Bel.rfl' _⟩
  case round =>
    obtain ⟨k, hk, rfl, rfl, hb⟩ := hrel
    by_cases hlt : k < c.length
    · obtain ⟨b, off, u1, u2, rfl, hbs, c1, c2, c3, s1, s2⟩ := hv.at hb k hlt
      have hst := lenC_take c k hlt
      have hsl := lenC_get c k hlt
      have hin1 : (k : Int) < c.length := by omega
      clear hv
      generalize c.getD k lt0 = x at *
      obtain ⟨p, xl, xr⟩ := x
      simp only at *
      obtain ⟨a1, d1, rfl⟩ := s1.form
      obtain ⟨a2, d2, rfl⟩ := s2.form
      have HE : Hid (((lenC (c.take k) : Nat) : Int) + ((xl.length : Int) + xr.length) = (lenC (c.take (k+1)) : Nat)) := by show _ = _; omega
      have i1 := IntWalk.i64_in ((xl.length : Int) + xr.length) (by omega)
      have i2 := IntWalk.i64_in (((lenC (c.take k) : Nat) : Int) + ((xl.length : Int) + xr.length)) (by omega)
      clear s1 s2 hst hsl
      go_wp2_with fail
      go_roundw
      case rel => exact ⟨k+1, by omega, by go_num, by rw [← HE.out], hb.alloc _⟩
      case measure => simp [intOf]; omega
    · rw [lenC_all c k hlt]
      go_wp2_with fail
      go_ret
      exact ⟨rfl, hb⟩
end Go.Proofs.Ytajmjjandkdhiaa
end
section
/- Chapter 4, the reference: GoodClause, WeightOf. -/
namespace Go.Proofs.Ytajmjjandkdhiaa
open Go.RowKit

set_option maxRecDepth 100000 in
set_option maxHeartbeats 400000 in
theorem sGoodClause_t {l h l' h' : Nat} {v u : Value} {ar : List Int} {c : List Lt} {w : World} (ha : ar.length ≤ 1048576) (hv : SlI l h w v ar) (hc : sumC c ≤ 1048576) (hu : SlC l' h' w u c) :
    Calls Try.prog 23 #[.agg #[v], u] w (RetV w (.bool (goodClause ar c))) := by
  unfold goodClause
  cases hg : goodSign ar with
  | false =>
    rw [Bool.false_and]
    have HG := Lib.hid hg; clear hg
    go_enter Try.func23, Try.ntmps23
    go_wp2_with fail
    refine (sGoodSign_v _ _ _ _ _ _ HG.out ha (hv.alloc _)).mono ?_; rintro e w1 ⟨rfl, hb1⟩
    go_wp2_with fail
    go_ret
    exact ⟨rfl, hb1.of_alloc⟩
  | true =>
    rw [Bool.true_and]
    have HG := Lib.hid hg
    have HC := Lib.hid (fun (w' : World) (hb : Bel w w') => l4Clause_c l h l' h' v u ar c w' hg (shortC_of_sum hc) (hv.below hb) (hu.below hb))
    clear hg hc
    go_enter Try.func23, Try.ntmps23
    go_wp2_with fail
    refine (sGoodSign_v _ _ _ _ _ _ HG.out ha (hv.alloc _)).mono ?_; rintro e w1 ⟨rfl, hb1⟩
    have hbox := boxc hb1 0 _ rfl
    go_wp2_with fail
    refine (HC.out _ hb1.of_alloc).mono ?_; rintro e w2 ⟨rfl, hb2⟩
    go_wp2_with fail
    go_ret
    exact ⟨rfl, hb1.of_alloc.step hb2⟩
theorem sGoodClause_v {l h l' h' : Nat} {v u : Value} {ar : List Int} {c : List Lt} {w : World} {q : Bool} (he : goodClause ar c = q) (ha : ar.length ≤ 1048576) (hv : SlI l h w v ar) (hc : sumC c ≤ 1048576) (hu : SlC l' h' w u c) :
    Calls Try.prog 23 #[.agg #[v], u] w (RetV w (.bool q)) := by subst he; exact sGoodClause_t ha hv hc hu

set_option maxRecDepth 100000 in
set_option maxHeartbeats 400000 in
theorem sWeightOf_t {l h l' h' : Nat} {v u : Value} {ar : List Int} {c : List Lt} {w : World} (ha : ar.length ≤ 1048576) (hv : SlI l h w v ar) (hc : sumC c ≤ 1048576) (hu : SlC l' h' w u c) :
    Calls Try.prog 49 #[.agg #[v], u] w (RetV w (.tuple #[.int .i64 (weightAns ar c), .bool (goodClause ar c)])) := by
  unfold weightAns
  cases hg : goodClause ar c with
  | false =>
    rw [if_neg (by simp)]
    have HG := Lib.hid hg; clear hg
    go_enter Try.func49, Try.ntmps49
    go_wp2_with fail
    refine (sGoodClause_v HG.out ha (hv.alloc _) hc (hu.alloc _)).mono ?_; rintro e w1 ⟨rfl, hb1⟩
    go_wp2_with fail
    go_ret2
    exact ⟨rfl, hb1.of_alloc⟩
  | true =>
    rw [if_pos rfl]
    have HG := Lib.hid hg; clear hg
    have HC := Lib.hid (fun (w' : World) (hb : Bel w w') => l4Weight_c l' h' u c w' hc (hu.below hb))
    go_enter Try.func49, Try.ntmps49
    go_wp2_with fail
    refine (sGoodClause_v HG.out ha (hv.alloc _) hc (hu.alloc _)).mono ?_; rintro e w1 ⟨rfl, hb1⟩
    clear hc
    go_wp2_with fail
    refine (HC.out _ hb1.of_alloc).mono ?_; rintro e w2 ⟨rfl, hb2⟩
    go_wp2_with fail
    go_ret2
    exact ⟨rfl, hb1.of_alloc.step hb2⟩
end Go.Proofs.Ytajmjjandkdhiaa
end
section
/- Chapter 4, the program: keys among keys, tautologies. -/
namespace Go.Proofs.Ytajmjjandkdhiaa
open Go.RowKit

set_option maxRecDepth 100000 in
set_option maxHeartbeats 1000000 in
theorem containsK_c (lo : Nat) (v : Value) (ks : List Ky) (key : Ky) (w : World) (hl : ks.length ≤ 1048576) (hv : RowK lo w v ks) :
    Calls Try.prog 116 #[v, .agg #[.bool key.1, .string key.2.1, .string key.2.2]] w (RetV w (.bool (ks.any fun y => decide (key = y)))) := by
  have HC := Lib.hid (fun (w' : World) (hb : Bel w w') => indexK_c lo v ks key w' hl (ownsRow_bel hv hb))
  obtain ⟨ad, cap, rfl⟩ := hv.form
  clear hv
  generalize (ks.any fun y => decide (key = y)) = q at *
  go_enter Try.func116, Try.ntmps116
  go_wp2_with fail
  refine (HC.out _ (Bel.alloc0 _ _)).mono ?_; rintro e w1 ⟨⟨z, rfl, hz, hz1, hz2⟩, hb1⟩
  go_wp2_with fail
  go_ret
  exact ⟨by rw [← hz]; rfl, hb1.of_alloc⟩

set_option maxRecDepth 100000 in
set_option maxHeartbeats 1000000 in
theorem news_key (w : World) (k : Ky) (t : TypeId) (g : Nat) (hg : g = w.heap.size) : ∀ j u, [Value.bool k.1, .string k.2.1, .string k.2.2][j]? = some u → (w.alloc (.cells #[.bool k.1, .string k.2.1, .string k.2.2] t)).cell? ((⟨g, 0, none⟩ : Addr).add j) = some u := by
  subst hg
  intro j u hj
  match j, hj with
  | 0, hj => simp at hj; subst hj; rw [show (⟨w.heap.size, 0, none⟩ : Addr).add 0 = ⟨w.heap.size, 0, none⟩ from rfl, World.cell?_alloc_new w]; rfl
  | 1, hj => simp at hj; subst hj; rw [addr_add, World.cell?_alloc_new w]; rfl
  | 2, hj => simp at hj; subst hj; rw [addr_add, World.cell?_alloc_new w]; rfl
theorem one_key (k : Ky) : ∀ u ∈ [Value.bool k.1, .string k.2.1, .string k.2.2], u.oneCell' = true := by
  intro u hu; simp at hu; rcases hu with rfl | rfl | rfl <;> rfl
theorem Try.info117 : (Try.prog.info? 117).map (fun i => (i.zero, i.size, i.bytes)) = some (some (.agg #[.bool false, .string ⟨#[]⟩, .string ⟨#[]⟩]), 3, 40) := by kernel_rfl
theorem keyOf_k (l h : Nat) (x : Lt) (u1 u2 : Value) (w : World) (hl : x.2.1.length ≤ 40) (hr : x.2.2.length ≤ 40) (hk : inKeyL x) (h1 : SlI l h w u1 x.2.1) (h2 : SlI l h w u2 x.2.2) :
    Calls Try.prog 114 #[.agg #[.bool x.1, u1, u2]] w (RetV w (.agg #[.bool (keyL x).1, .string (keyL x).2.1, .string (keyL x).2.2])) :=
  keyOf_c l h x.1 u1 u2 x.2.1 x.2.2 w hl hr (inKey_get hk.1) (inKey_get hk.2) h1 h2
/-- A tautology, told by the keys. -/
def tautK (ks : List Ky) : Bool := ks.any fun k => (k.1 && decide (k.2.1 = k.2.2)) || ks.any fun y => decide ((!k.1, k.2) = y)

set_option maxRecDepth 100000 in
set_option maxHeartbeats 1000000 in
theorem isTaut_c (l h : Nat) (v : Value) (c : List Lt) (w : World) (hx : c.length ≤ 8) (hok : ∀ x ∈ c, inKeyL x ∧ x.2.1.length ≤ 40 ∧ x.2.2.length ≤ 40) (hv : SlC l h w v c) :
    Calls Try.prog 85 #[v] w (RetV w (.bool (tautK (c.map keyL)))) := by
  obtain ⟨i1, hi1, hy0, hy1, hy2⟩ := info_parts Try.info117
  obtain ⟨ad, cap, rfl⟩ := hv.form
  go_enter Try.func85, Try.ntmps85
  go_wp2_with fail
  go_loopw [3, 11] (fun o i wr => ∃ k : Nat, k ≤ c.length ∧ i = .int .i64 k ∧ RowK w.heap.size wr o ((c.take k).map keyL) ∧ Bel w wr) (fun _ i _ => c.length - (intOf i).toNat)
  case atStart => exact ⟨0, Nat.zero_le _, rfl, RowK.nil _ _, Bel.rfl' _⟩
  case round =>
    obtain ⟨k, hk, rfl, hrow, hb⟩ := hrel
    by_cases hlt : k < c.length
    · obtain ⟨b, off, u1, u2, rfl, hbs, c1, c2, c3, s1, s2⟩ := hv.at hb k hlt
      have hin1 : (k : Int) < c.length := by omega
      obtain ⟨ok1, ok2, ok3⟩ := hok _ (mem_getD c lt0 k hlt)
      have HTK : Hid ((c.take (k+1)).map keyL = (c.take k).map keyL ++ [keyL (c.getD k lt0)]) := by show _ = _; rw [List.take_succ_eq_append_getElem hlt, List.map_append]; simp [List.getD, hlt]
      have hkl : ((c.take k).map keyL).length = k := by simp; omega
      generalize (c.take k).map keyL = ks at *
      generalize c.getD k lt0 = x at *
      obtain ⟨p, xl, xr⟩ := x
      simp only at c1 c2 c3 s1 s2 ok2 ok3
      have hkey := fun (w' : World) (hq : Bel wr w') => keyOf_k l h (p, xl, xr) u1 u2 w' ok2 ok3 ok1 (s1.below hq) (s2.below hq)
      generalize keyL (p, xl, xr) = key at *
      simp only at hkey
      obtain ⟨a1, d1, rfl⟩ := s1.form
      obtain ⟨a2, d2, rfl⟩ := s2.form
      have HK := Lib.hid hkey
      have hbz := hb.size
      clear hv s1 s2 hkey ok1 ok2 ok3 hok
      go_wp2_with fail
      refine (HK.out _ (Bel.alloc0 _ _)).mono ?_; rintro e w1 ⟨rfl, hb1⟩
      have hb2 := hb1.of_alloc
      have hr1 : RowK w.heap.size (w1.alloc (.cells #[.bool key.1, .string key.2.1, .string key.2.2] 117)) _ ks := ownsRow_bel hrow (hb2.step (Bel.alloc0 _ _))
      have hz1 := hb2.size
      go_wp2_with (at_builtin; refine wpList_append_own_at _ rfl _ _ 115 rfl w.heap.size 117 i1 (.agg #[.bool false, .string ⟨#[]⟩, .string ⟨#[]⟩]) 3 40 Try.underlying115 hi1 hy0 hy1 hy2 rfl (by decide) _ _ _ rfl hr1 _ _ _ [.bool key.1, .string key.2.1, .string key.2.2] rfl rfl (news_key _ _ _ _ rfl) (one_key _) (by unfold maxLen; omega) (by omega) (by simp; omega) ?_; intro v' w4 hown' hgrow _ _)
      go_roundw
      case rel =>
        refine ⟨k+1, by omega, by go_num, ?_, ((hb.step hb2).alloc _).grown hgrow (fun q hq => own_base hrow q hq)⟩
        rw [HTK.out]
        show World.ownsRow _ _ _ _ _ _ _
        rw [cellsK_app, List.length_append]
        exact hown'
      case measure => simp [intOf]; omega
    · rw [List.take_of_length_le (by omega)] at hrow
      have hkl : (c.map keyL).length ≤ 8 := by simpa using hx
      generalize c.map keyL = ks at *
      have hrow0 := hrow
      obtain ⟨a5, c5, rfl⟩ := hrow.form
      have HR := Lib.hid (fun (w' : World) (hq : Bel wr w') => (ownsRow_bel hrow0 hq : RowK w.heap.size w' (.slice a5 ks.length c5) ks))
      clear hv hrow hrow0 hok
      go_wp2_with fail
      go_loopw [23] (fun i wr2 => ∃ j : Nat, j ≤ ks.length ∧ i = .int .i64 j ∧ (ks.take j).any (fun k => (k.1 && decide (k.2.1 = k.2.2)) || ks.any fun y => decide ((!k.1, k.2) = y)) = false ∧ Bel wr wr2) (fun i _ => ks.length - (intOf i).toNat)
      case atStart => exact ⟨0, Nat.zero_le _, rfl, by simp, Bel.rfl' _⟩
      case round =>
        obtain ⟨j, hj, rfl, hno, hb2⟩ := hrel
        by_cases hlj : j < ks.length
        · obtain ⟨g, rfl, c0, c1, c2⟩ := RowK.at (HR.out _ hb2) j hlj
          have HTK : Hid (ks.take (j+1) = ks.take j ++ [ks.getD j (false, ByteArray.empty, ByteArray.empty)]) := by show _ = _; rw [List.take_succ_eq_append_getElem hlj]; simp [List.getD, hlj]
          have hmem := mem_getD ks (false, ByteArray.empty, ByteArray.empty) j hlj
          have hin2 : (j : Int) < ks.length := by omega
          generalize ks.getD j (false, ByteArray.empty, ByteArray.empty) = key at *
          obtain ⟨p, lo, hi⟩ := key
          simp only at c0 c1 c2
          have HC := Lib.hid (fun (w' : World) (p : Bool) (hq : Bel wr w') => containsK_c w.heap.size _ ks (p, lo, hi) w' (by omega) (HR.out _ (hb2.step hq)))
          have HYES : Hid (((p && decide (lo = hi)) || ks.any fun y => decide ((!p, lo, hi) = y)) = true → tautK ks = true) := fun h => List.any_eq_true.2 ⟨(p, lo, hi), hmem, h⟩
          have HNO : Hid (((p && decide (lo = hi)) || ks.any fun y => decide ((!p, lo, hi) = y)) = false → (ks.take (j+1)).any (fun k => (k.1 && decide (k.2.1 = k.2.2)) || ks.any fun y => decide ((!k.1, k.2) = y)) = false) := fun h => by rw [HTK.out, List.any_append, hno]; simpa using h
          clear hmem hno HTK
          have hbz := hb2.size
          cases p with
          | false =>
            simp only [Bool.not_false, Bool.false_and, Bool.false_or] at HYES HNO
            have hcon := fun (w' : World) (hq : Bel wr w') => HC.out w' true hq
            simp only at hcon
            generalize hq : (ks.any fun y => decide ((true, lo, hi) = y)) = q at *
            have HCC := Lib.hid hcon
            have HQ := Lib.hid hq
            clear hcon hq HC
            have HB3 : Bel wr ((wr.alloc (.cells #[.bool false, .string lo, .string hi] 117)).alloc (.cells #[.bool true, .string lo, .string hi] 117)) := Bel.alloc2 _ _ _
            cases q with
            | true =>
              have E := Lib.hid (HYES.out rfl)
              clear HYES HNO
              go_wp2_with fail
              refine (HCC.out _ HB3).mono ?_; rintro e w3 ⟨rfl, hb3⟩
              go_wp2_with fail
              go_ret
              exact ⟨by rw [E.out]; rfl, (hb.step hb2).step (HB3.step hb3)⟩
            | false =>
              have E := Lib.hid (HNO.out rfl)
              clear HYES HNO
              go_wp2_with fail
              refine (HCC.out _ HB3).mono ?_; rintro e w3 ⟨rfl, hb3⟩
              go_wp2_with fail
              go_roundw
              case rel => exact ⟨j+1, by omega, by go_num, E.out, hb2.step (HB3.step hb3)⟩
              case measure => simp [intOf]; omega
          | true =>
            simp only [Bool.not_true, Bool.true_and] at HYES HNO
            have hcon := fun (w' : World) (hq : Bel wr w') => HC.out w' false hq
            simp only at hcon
            generalize hq : (ks.any fun y => decide ((false, lo, hi) = y)) = q at *
            have HCC := Lib.hid hcon
            have HS := Lib.hid (fun (w' : World) => isSame_c true lo hi w')
            have HB3 : Bel wr ((wr.alloc (.cells #[.bool true, .string lo, .string hi] 117)).alloc (.cells #[.bool false, .string lo, .string hi] 117)) := Bel.alloc2 _ _ _
            generalize decide (lo = hi) = r at *
            clear hcon hq HC
            cases r with
            | true =>
              have E := Lib.hid (HYES.out rfl)
              clear HYES HNO
              go_wp2_with fail
              refine (HS.out _).mono ?_; rintro e w3 ⟨rfl, hb3⟩
              go_wp2_with fail
              go_ret
              exact ⟨by rw [E.out]; rfl, (hb.step hb2).step (HB3.step hb3)⟩
            | false =>
              go_wp2_with fail
              refine (HS.out _).mono ?_; rintro e w3 ⟨rfl, hb3⟩
              have m0 := hb3.at (b := wr.heap.size + 1) (off := 0) (by simp) (v := .bool false) (by simp [go_sem])
              have m1 := hb3.at (b := wr.heap.size + 1) (off := 1) (by simp) (v := .string lo) (by simp [go_sem])
              have m2 := hb3.at (b := wr.heap.size + 1) (off := 2) (by simp) (v := .string hi) (by simp [go_sem])
              cases q with
              | true =>
                have E := Lib.hid (HYES.out rfl)
                clear HYES HNO
                go_wp2_with fail
                refine (HCC.out _ (HB3.step hb3)).mono ?_; rintro e w4 ⟨rfl, hb4⟩
                go_wp2_with fail
                go_ret
                exact ⟨by rw [E.out]; rfl, (hb.step hb2).step ((HB3.step hb3).step hb4)⟩
              | false =>
                have E := Lib.hid (HNO.out rfl)
                clear HYES HNO
                go_wp2_with fail
                refine (HCC.out _ (HB3.step hb3)).mono ?_; rintro e w4 ⟨rfl, hb4⟩
                go_wp2_with fail
                go_roundw
                case rel => exact ⟨j+1, by omega, by go_num, E.out, hb2.step ((HB3.step hb3).step hb4)⟩
                case measure => simp [intOf]; omega
        · rw [List.take_of_length_le (by omega)] at hno
          have E : Hid (tautK ks = false) := hno
          have hin2 : ¬ (j : Int) < ks.length := by omega
          clear hno
          go_wp2_with fail
          go_ret
          exact ⟨by rw [E.out]; rfl, hb.step hb2⟩

end Go.Proofs.Ytajmjjandkdhiaa
end
section
/- The laws' helpers over slices of literals: comparisons, marks. -/
namespace Go.Proofs.Ytajmjjandkdhiaa
open Go.RowKit

set_option maxRecDepth 100000 in
set_option maxHeartbeats 400000 in
theorem eqLitS_same (l h l' h' : Nat) (v u : Value) (c : List Lt) (w : World) (hx : sumC c ≤ 1048576) (hv : SlC l h w v c) (hu : SlC l' h' w u c) :
    Calls Try.prog 28 #[v, u] w (RetV w (.bool true)) := by
  obtain ⟨ad, cap, rfl⟩ := hv.form
  obtain ⟨ad', cap', rfl⟩ := hu.form
  obtain ⟨hxl, hmax⟩ := shortC_of_sum hx
  have hl' : ((c.length : Int) != c.length) = false := by simp
  go_enter Try.func28, Try.ntmps28
  go_wp2_with fail
  go_loopw [5] (fun i wr => ∃ k : Nat, k ≤ c.length ∧ i = .int .i64 k ∧ Bel w wr) (fun i _ => c.length - (intOf i).toNat)
  case atStart => exact ⟨0, Nat.zero_le _, rfl, Bel.rfl' _⟩
  case round =>
    obtain ⟨k, hk, rfl, hb⟩ := hrel
    by_cases hlt : k < c.length
    · obtain ⟨b, off, u1, u2, rfl, -, c1, c2, c3, s1, s2⟩ := hv.at hb k hlt
      obtain ⟨b', off', q1, q2, rfl, -, d1, d2, d3, t1, t2⟩ := hu.at hb k hlt
      obtain ⟨hm1, hm2⟩ := hmax k hlt
      have hin1 : (k : Int) < c.length := by omega
      clear hv hu hmax
      generalize c.getD k lt0 = x at *
      obtain ⟨p, xl, xr⟩ := x
      simp only at *
      have B1 := World.block_lt_of_cell? wr ⟨b, _, none⟩ c1
      have B2 := World.block_lt_of_cell? wr ⟨b', _, none⟩ d1
      have HC := Lib.hid (fun w' (h1 : Bel wr w') => eqLit_same _ _ _ _ p u1 u2 q1 q2 xl xr w' hm1 hm2 (s1.below h1) (s2.below h1) (t1.below h1) (t2.below h1))
      clear s1 s2 t1 t2
      go_wp2_with fail
      go_region_held3 (fun w' => Bel wr w' ∧ (w'.cell? ⟨b, off + k * 3, none⟩ = some (.bool p) ∧ w'.cell? ⟨b, off + k * 3 + 1, none⟩ = some u1 ∧ w'.cell? ⟨b, off + k * 3 + 2, none⟩ = some u2) ∧ (w'.cell? ⟨b', off' + k * 3, none⟩ = some (.bool p) ∧ w'.cell? ⟨b', off' + k * 3 + 1, none⟩ = some q1 ∧ w'.cell? ⟨b', off' + k * 3 + 2, none⟩ = some q2))
        (first | exact ⟨Bel.drew0 _, ⟨c1, c2, c3⟩, d1, d2, d3⟩ | exact ⟨hb2.of_drew, ⟨hb2.at B1 c1, hb2.at B1 c2, hb2.at B1 c3⟩, hb2.at B2 d1, hb2.at B2 d2, hb2.at B2 d3⟩ | fail)
        (first | (go_at_call 70; refine (HC.out _ (Bel.drew0 _)).mono ?_; rintro e w2 ⟨rfl, hb2⟩) | fail)
      go_wp2_with fail
      go_roundw
      case rel => exact ⟨k+1, by omega, by go_num, hb.step hb2.of_drew⟩
      case measure => simp [intOf]; omega
    · go_wp2_with fail
      go_ret
      exact ⟨rfl, hb⟩

theorem Ins.but {lo hi b w w' us xss bs} (h : Ins lo hi b w us xss bs) (hs : ∀ x, x ≠ b → lo ≤ x → x < hi → x < w.heap.size → w'.heap[x]? = w.heap[x]?) : Ins lo hi b w' us xss bs := by
  refine ⟨h.len, h.rng, h.inj, fun j u hj => ?_⟩
  have ho := h.own j u hj
  have hlt : j < xss.length := by rw [← h.len]; exact (List.getElem?_eq_some_iff.1 hj).1
  by_cases hp : 0 < (xss.getD j []).length
  · obtain ⟨a1, a2, a3⟩ := h.rng j hlt hp
    exact ho.same fun x h1 h2 h3 => hs x (by omega) (by omega) (by omega) h3
  · rw [len0 hp] at ho ⊢
    exact ho.empty
structure CRow (lo hi b off : Nat) (w : World) (zs : List LV) (c : List Lt) (bs : Nat → Nat) : Prop where
  hlo : lo ≤ b
  hhi : b < hi
  len : zs.length = c.length
  cell : ∀ j z, zs[j]? = some z → z.1 = (c.getD j lt0).1 ∧ w.cell? ⟨b, off + j * 3, none⟩ = some (.bool z.1) ∧ w.cell? ⟨b, off + j * 3 + 1, none⟩ = some z.2.1 ∧ w.cell? ⟨b, off + j * 3 + 2, none⟩ = some z.2.2
  free : ∀ i, w.frozen? ⟨b, i, none⟩ = false
  ins : Ins lo hi b w (rowsC zs) (flatC c) bs
theorem rowsC_set (zs : List LV) (j : Nat) (z : LV) (p : Bool) (h : zs[j]? = some z) : rowsC (zs.set j (p, z.2)) = rowsC zs := by
  induction zs generalizing j with
  | nil => simp
  | cons x r ih =>
    cases j with
    | zero => simp at h; subst h; rfl
    | succ j => simp only [List.set_cons_succ]; show _ :: _ :: rowsC _ = _ :: _ :: rowsC _; rw [ih j (by simpa using h)]
theorem flatC_set (c : List Lt) (j : Nat) (y : Lt) (h : j < c.length) : flatC (c.set j y) = ((flatC c).set (2 * j) y.2.1).set (2 * j + 1) y.2.2 := by
  induction c generalizing j with
  | nil => simp at h
  | cons x r ih =>
    cases j with
    | zero => rfl
    | succ j =>
      rw [List.set_cons_succ, flatC_cons, flatC_cons, ih j (by simpa using h), show 2 * (j + 1) = (2 * j) + 1 + 1 from by omega]
      simp
theorem CRow.sign {lo hi b off : Nat} {w : World} {zs : List LV} {c : List Lt} {bs : Nat → Nat} (h : CRow lo hi b off w zs c bs) (j : Nat) (z : LV) (hz : zs[j]? = some z) (p : Bool) :
    CRow lo hi b off (w.setCell ⟨b, off + j * 3, none⟩ (.bool p)) (zs.set j (p, z.2)) (c.set j (p, (c.getD j lt0).2)) bs := by
  have hj : j < zs.length := (List.getElem?_eq_some_iff.1 hz).1
  have hjc : j < c.length := by rw [← h.len]; exact hj
  have hflat : flatC (c.set j (p, (c.getD j lt0).2)) = flatC c := by
    rw [flatC_set c j _ hjc]
    have := flatC_get c j
    have hl := flatC_len c
    show ((flatC c).set (2 * j) (c.getD j lt0).2.1).set (2 * j + 1) (c.getD j lt0).2.2 = flatC c
    rw [← this.1, ← this.2]
    apply List.ext_getElem?
    intro i
    simp only [List.getElem?_set]
    split
    · rename_i e; subst e; simp [List.getD, show 2 * j + 1 < (flatC c).length by omega]
    · split
      · rename_i e; subst e; simp [List.getD, show 2 * j < (flatC c).length by omega]
      · rfl
  refine ⟨h.hlo, h.hhi, by simp [h.len], fun i y hy => ?_, fun i => by rw [World.frozen?_setCell]; exact h.free i, ?_⟩
  · rw [List.getElem?_set] at hy
    by_cases e : j = i
    · subst e
      rw [if_pos rfl, if_pos hj] at hy
      obtain rfl : (p, z.2) = y := by simpa using hy
      obtain ⟨_, c1, c2, c3⟩ := h.cell j z hz
      refine ⟨by simp [List.getD, hjc], World.cell?_setCell_same w _ _ c1, ?_, ?_⟩
      · rw [World.cell?_setCell_other (h := by intro h; simp at h <;> omega)]; exact c2
      · rw [World.cell?_setCell_other (h := by intro h; simp at h <;> omega)]; exact c3
    · rw [if_neg e] at hy
      obtain ⟨e1, c1, c2, c3⟩ := h.cell i y hy
      refine ⟨by rw [e1]; simp [List.getD, List.getElem?_set, e], ?_, ?_, ?_⟩
      · rw [World.cell?_setCell_other (h := by intro h; simp at h <;> omega)]; exact c1
      · rw [World.cell?_setCell_other (h := by intro h; simp at h <;> omega)]; exact c2
      · rw [World.cell?_setCell_other (h := by intro h; simp at h <;> omega)]; exact c3
  · rw [rowsC_set zs j z p hz, hflat]
    exact h.ins.but fun x hx _ _ _ => Below.heap_setCell w _ _ x (by simpa using hx)
theorem CRow.terms {lo hi b off : Nat} {w w' : World} {zs : List LV} {c c' : List Lt} {bs : Nat → Nat} (h : CRow lo hi b off w zs c bs) (hb : w'.heap[b]? = w.heap[b]?) (hl : c'.length = c.length) (hp : ∀ j, (c'.getD j lt0).1 = (c.getD j lt0).1) (hi' : Ins lo hi b w' (rowsC zs) (flatC c') bs) :
    CRow lo hi b off w' zs c' bs :=
  ⟨h.hlo, h.hhi, by rw [h.len, hl], fun j z hz => by
    obtain ⟨e1, c1, c2, c3⟩ := h.cell j z hz
    exact ⟨by rw [hp]; exact e1, cell_same (fun _ => hb) c1, cell_same (fun _ => hb) c2, cell_same (fun _ => hb) c3⟩,
   fun i => by rw [World.frozen?_of_block (w := w) (a := ⟨b, i, none⟩) hb]; exact h.free i, hi'⟩
end Go.Proofs.Ytajmjjandkdhiaa
end
section
/- A row of slices of ints, all of the call's own, grown by append. -/
namespace Go.Proofs.Ytajmjjandkdhiaa
open Go.RowKit

def rowBlk (w : World) (v : Value) : Nat := v.ownBlock.getD w.heap.size
def RowO (base : Nat) (w : World) (v : Value) (xss : List (List Int)) : Prop :=
  ∃ (us : List Value) (bs : Nat → Nat), w.ownsRow base 24 1 v us.length us ∧ Ins base w.heap.size (rowBlk w v) w us xss bs
theorem RowO.nil (base : Nat) (w : World) : RowO base w (.slice none 0 0) [] := ⟨[], _, World.ownsRow_nil _ _ _ _, (Ins.none _ _ _ _).mono (Nat.le_refl _) (Nat.le_refl _)⟩
theorem Ins.blk {lo hi b b' w us xss bs} (h : Ins lo hi b w us xss bs) (hb : ∀ j, j < xss.length → 0 < (xss.getD j []).length → bs j ≠ b') : Ins lo hi b' w us xss bs :=
  ⟨h.len, fun j hj hp => ⟨(h.rng j hj hp).1, (h.rng j hj hp).2.1, hb j hj hp⟩, h.inj, h.own⟩
theorem RowO.form {base : Nat} {w : World} {v : Value} {xss : List (List Int)} (h : RowO base w v xss) : ∃ ad c, v = .slice ad xss.length c := by
  obtain ⟨us, bs, ho, hi⟩ := h
  obtain ⟨ad, n, c, rfl⟩ := own_form ho
  have := row_len ho
  exact ⟨ad, c, by rw [this, hi.len]⟩
theorem RowO.bel {base : Nat} {w w' : World} {v : Value} {xss : List (List Int)} (h : RowO base w v xss) (hb : Bel w w') : RowO base w' v xss := by
  obtain ⟨us, bs, ho, hi⟩ := h
  refine ⟨us, bs, ownsRow_bel ho hb, ((hi.below hb).mono (Nat.le_refl _) hb.size).blk fun j hj hp => ?_⟩
  have hr := hi.rng j hj hp
  unfold rowBlk at hr ⊢
  cases hv : v.ownBlock with
  | none => have := hb.size; simp only [Option.getD_none]; omega
  | some g => rw [hv] at hr; simp only [Option.getD_some] at hr ⊢; exact hr.2.2
theorem RowO.own {base : Nat} {w : World} {v : Value} {xss : List (List Int)} (h : RowO base w v xss) : OwnS base w.heap.size w v xss := by
  obtain ⟨us, bs, ho, hi⟩ := h
  refine OwnS.of_row (us := us) (bs := bs) (e := 24) (by rw [← hi.len]; exact ho) (Nat.le_refl _) (fun g hg => ?_)
  unfold rowBlk at hi
  rw [hg] at hi
  exact hi
theorem RowO.step {base : Nat} {w0 w1 w2 : World} {v u : Value} {xss : List (List Int)} {t : List Int} (h : RowO base w0 v xss) (h1 : Bel w0 w1) (h2 : Bel w1 w2) (ho : OwnI w0.heap.size w1.heap.size w1 u t) (hbase : base ≤ w0.heap.size) :
    ∃ us : List Value, w2.ownsRow base 24 1 v us.length us ∧ us.length = xss.length ∧ ∀ w3 v', w3.ownsRow base 24 1 v' (us.length + 1) (us ++ [u]) → w2.grownBy w3 v.ownBlock → (v'.ownBlock = v.ownBlock ∨ v'.ownBlock = some w2.heap.size) → RowO base w3 v' (xss ++ [t]) := by
  obtain ⟨us, bs, hw, hi⟩ := h
  have hlt := hw.lt
  have hz1 := h1.size
  have hz2 := h2.size
  refine ⟨us, ownsRow_bel hw (h1.step h2), hi.len, fun w3 v' hown hg hat => ?_⟩
  have hz3 := hg.size
  obtain ⟨b', hb'⟩ : ∃ b', v'.ownBlock = some b' := by
    rcases hown.2 with ⟨_, hn⟩ | ⟨g, cap, cur, rfl, _⟩
    · omega
    · exact ⟨g, by simp [Value.ownBlock]⟩
  have hrb : rowBlk w3 v' = b' := by unfold rowBlk; rw [hb']; rfl
  -- the elements, in the new world
  have hi2 := hi.below (h1.step h2)
  have hi3 : Ins base w0.heap.size (rowBlk w0 v) w3 us xss bs := by
    refine hi2.but fun x hx _ hxl hx2 => hg.block x hx2 fun e => hx ?_
    unfold rowBlk; rw [← e]; rfl
  have hbb : b' < w0.heap.size ∨ w2.heap.size ≤ b' := by
    rcases hat with e | e
    · rw [hb'] at e; exact .inl (hlt b' e.symm).2
    · rw [hb'] at e; simp at e; exact .inr (by omega)
  have hne : ∀ j, j < xss.length → 0 < (xss.getD j []).length → bs j ≠ b' := by
    intro j hj hp
    have hr := hi.rng j hj hp
    rcases hat with e | e
    · unfold rowBlk at hr; rw [← e, hb'] at hr; exact hr.2.2
    · rw [hb'] at e; simp at e; omega
  have ho3 : OwnI w0.heap.size w1.heap.size w3 u t := (ho.below h2).same fun x hx1 hx2 hx3 => hg.block x hx3 fun e => by have := (hlt x e.symm).2; omega
  obtain ⟨bs', hf⟩ := (hi3.blk hne).snoc ho3 (Nat.le_refl _) hbase (by omega) (hi2 := w3.heap.size) (by omega) (by omega)
  refine ⟨us ++ [u], bs', by simpa using hown, ?_⟩
  rw [hrb]
  exact hf
end Go.Proofs.Ytajmjjandkdhiaa
end
section
/- append of one literal to a row of literals of the call's own: at a plain region, and at a step of a region that draws. -/
namespace Go.Proofs.Ytajmjjandkdhiaa
open Go.RowKit

/-- A row of literals of the call's own. -/
abbrev RowC (lo : Nat) (w : World) (v : Value) (zs : List LV) : Prop := w.ownsRow lo 68 3 v zs.length (cellsC zs)
theorem RowC.nil (lo : Nat) (w : World) : RowC lo w (.slice none 0 0) [] := World.ownsRow_nil _ _ _ _
theorem news_lit (w : World) (x y z : Value) (t : TypeId) (g : Nat) (hg : g = w.heap.size) : ∀ j u, [x, y, z][j]? = some u → (w.alloc (.cells #[x, y, z] t)).cell? ((⟨g, 0, none⟩ : Addr).add j) = some u := by
  subst hg
  intro j u hj
  match j, hj with
  | 0, hj => simp at hj; subst hj; rw [show (⟨w.heap.size, 0, none⟩ : Addr).add 0 = ⟨w.heap.size, 0, none⟩ from rfl, World.cell?_alloc_new w]; rfl
  | 1, hj => simp at hj; subst hj; rw [addr_add, World.cell?_alloc_new w]; rfl
  | 2, hj => simp at hj; subst hj; rw [addr_add, World.cell?_alloc_new w]; rfl
theorem one_lit (p : Bool) (a b : Option Addr) (n m c d : Nat) : ∀ u ∈ [Value.bool p, Value.slice a n c, Value.slice b m d], u.oneCell' = true := by
  intro u hu; simp at hu; rcases hu with rfl | rfl | rfl <;> rfl

theorem step_append_lit {w : World} {ops : Array Oper} {o : Oper} {a : Act} {K : Act → World → Prop} {Q : Exit → Act → World → Prop} {E : Prop} (hgd : o.guard = none) (s x : Operand) (d : Nat) (hd : o.dst = some d)
    (ho : o.op = .call { callee := .builtin .append, args := #[s, x], argTypes := #[27, 27] })
    (base : Nat) (v : Value) (zs : List LV) (hs : a.eval s = v) (hown : RowC base w v zs) (g : Nat) (p : Bool) (z1 z2 : SV) (hx : a.eval x = .slice (some ⟨g, 0, none⟩) 1 1)
    (hnews : ∀ j u, [Value.bool p, encS z1, encS z2][j]? = some u → w.cell? ((⟨g, 0, none⟩ : Addr).add j) = some u)
    (hl : zs.length ≤ 1048576) (hbase : base ≤ w.heap.size)
    (h : ∀ ad n c w', RowC base w' (.slice ad n c) (zs ++ [(p, encS z1, encS z2)]) → w.grownBy w' v.ownBlock → K (a.put (some d) (.slice ad n c)) w') :
    if Region.wanted o (yielded ops a.tmps) = true then Oper.wp Try.prog o a w K Q else E := by
  obtain ⟨i0, hi0, hz0, hz1, hz2⟩ := info_parts Try.info68
  have hw : Region.wanted o (yielded ops a.tmps) = true := by simp [Region.wanted, hgd]
  rw [if_pos hw]
  rw [← hd] at h
  refine wp_append_own w s x 27 ho base 68 i0 (.agg #[.bool false, .slice none 0 0, .slice none 0 0]) 3 56 Try.underlying27 hi0 hz0 hz1 hz2 rfl (by decide) v zs.length (cellsC zs) hs hown
    ⟨g, 0, none⟩ 1 1 [.bool p, encS z1, encS z2] hx (by simp) hnews (one_lit _ _ _ _ _ _ _) (by unfold maxLen; omega) (by omega) hbase (fun v' w' h1 h2 _ => ?_)
  obtain ⟨ad, n, c, rfl⟩ := own_form h1
  refine h ad n c w' ?_ h2
  have e : cellsC (zs ++ [(p, encS z1, encS z2)]) = cellsC zs ++ [.bool p, encS z1, encS z2] := by rw [cellsC_app]; rfl
  show World.ownsRow _ _ _ _ _ _ _
  rw [e]
  simpa using h1
end Go.Proofs.Ytajmjjandkdhiaa
end
section
/- A row of literals of the call's own, whose terms are the call's own too, grown by append. -/
namespace Go.Proofs.Ytajmjjandkdhiaa
open Go.RowKit

/-- One more, in a block that none of the others has. -/
theorem Ins.snocG {lo hi b : Nat} {w : World} {us : List Value} {xss : List (List Int)} {bs : Nat → Nat} (h : Ins lo hi b w us xss bs) {l2 h2 : Nat} {u : Value} {xs : List Int} (ho : OwnI l2 h2 w u xs)
    (hne : ∀ j, j < xss.length → 0 < (xss.getD j []).length → bs j < l2 ∨ h2 ≤ bs j) (hlo : lo ≤ l2) (hbl : b < l2 ∨ h2 ≤ b) {hi2 : Nat} (h1 : h2 ≤ hi2) (h3 : hi ≤ hi2) :
    ∃ bs', Ins lo hi2 b w (us ++ [u]) (xss ++ [xs]) bs' ∧ (∀ j, j < xss.length → bs' j = bs j) ∧ (0 < xs.length → l2 ≤ bs' xss.length ∧ bs' xss.length < h2) := by
  obtain ⟨c, hc, hr⟩ := ho.block
  have hn := h.len
  refine ⟨fun j => if j = xss.length then c else bs j, ⟨by simp [hn], fun j hj hp => ?_, fun i j hij hj hpi hpj => ?_, fun j v hj => ?_⟩, fun j hj => by simp; omega, fun hp => by simpa using hr hp⟩
  · by_cases e : j = xss.length
    · subst e
      simp only [List.getD, List.getElem?_append_right (Nat.le_refl _), Nat.sub_self, List.getElem?_cons_zero, Option.getD_some] at hp
      have := hr hp
      simp only [if_true]
      omega
    · have hlt : j < xss.length := by simp at hj; omega
      simp only [List.getD, List.getElem?_append_left hlt] at hp
      have := h.rng j hlt hp
      simp only [e, if_false]
      omega
  · have hilt : i < xss.length := by simp at hj; omega
    simp only [List.getD, List.getElem?_append_left hilt] at hpi
    by_cases e : j = xss.length
    · subst e
      simp only [List.getD, List.getElem?_append_right (Nat.le_refl _), Nat.sub_self, List.getElem?_cons_zero, Option.getD_some] at hpj
      have h5 := hr hpj
      have h6 := hne i hilt hpi
      simp only [if_true]
      rw [if_neg (by omega)]
      omega
    · have hlt : j < xss.length := by simp at hj; omega
      simp only [List.getD, List.getElem?_append_left hlt] at hpj
      simp only [e, if_false]
      rw [if_neg (by omega)]
      exact h.inj i j hij hlt hpi hpj
  · by_cases e : j = xss.length
    · subst e
      rw [List.getElem?_append_right (by omega), hn, Nat.sub_self] at hj
      simp only [List.getElem?_cons_zero, Option.some.injEq] at hj
      subst hj
      simpa [List.getD] using hc
    · have hlt : j < us.length := by
        have := (List.getElem?_eq_some_iff.1 hj).1
        simp at this; omega
      rw [List.getElem?_append_left hlt] at hj
      have := h.own j v hj
      simp only [e, if_false]
      simpa [List.getD, List.getElem?_append_left (show j < xss.length by omega)] using this

def RowCO (base : Nat) (w : World) (v : Value) (c : List Lt) : Prop :=
  ∃ (zs : List LV) (bs : Nat → Nat), RowC base w v zs ∧ zs.map (·.1) = c.map (·.1) ∧ Ins base w.heap.size (rowBlk w v) w (rowsC zs) (flatC c) bs
theorem RowCO.nil (base : Nat) (w : World) : RowCO base w (.slice none 0 0) [] := ⟨[], _, RowC.nil _ _, rfl, (Ins.none _ _ _ _).mono (Nat.le_refl _) (Nat.le_refl _)⟩
theorem RowCO.len {base : Nat} {w : World} {v : Value} {c : List Lt} (h : RowCO base w v c) : ∃ zs : List LV, RowC base w v zs ∧ zs.length = c.length := by
  obtain ⟨zs, bs, h1, h2, _⟩ := h
  exact ⟨zs, h1, by simpa using congrArg List.length h2⟩
theorem RowCO.bel {base : Nat} {w w' : World} {v : Value} {c : List Lt} (h : RowCO base w v c) (hb : Bel w w') : RowCO base w' v c := by
  obtain ⟨zs, bs, ho, hp, hi⟩ := h
  refine ⟨zs, bs, ownsRow_bel ho hb, hp, ((hi.below hb).mono (Nat.le_refl _) hb.size).blk fun j hj hpos => ?_⟩
  have hr := hi.rng j hj hpos
  unfold rowBlk at hr ⊢
  cases hv : v.ownBlock with
  | none => have := hb.size; simp only [Option.getD_none]; omega
  | some g => rw [hv] at hr; simp only [Option.getD_some] at hr ⊢; exact hr.2.2
theorem RowCO.own {base : Nat} {w : World} {v : Value} {c : List Lt} (h : RowCO base w v c) : OwnC base w.heap.size w v c := by
  obtain ⟨zs, bs, ho, hp, hi⟩ := h
  have hzl : zs.length = c.length := by simpa using congrArg List.length hp
  refine OwnC.of_row (zs := zs) (bs := bs) (e := 68) (by rw [← hzl]; exact ho) (Nat.le_refl _) hp (fun g hg => ?_)
  unfold rowBlk at hi
  rw [hg] at hi
  exact hi
theorem RowCO.blk {base : Nat} {w : World} {v : Value} {c : List Lt} (h : RowCO base w v c) : ∀ g, v.ownBlock = some g → base ≤ g ∧ g < w.heap.size := by
  obtain ⟨zs, bs, ho, _⟩ := h
  exact ho.lt
theorem row_len3 {w : World} {base e n m c : Nat} {ad : Option Addr} {xs : List Value} (h : w.ownsRow base e 3 (.slice ad n c) m xs) : n = m := by
  rcases h.2 with ⟨e1, h2⟩ | ⟨g, cap, cur, e1, _⟩
  · simp only [Value.slice.injEq] at e1; omega
  · simp only [Value.slice.injEq] at e1; omega
theorem RowCO.form {base : Nat} {w : World} {v : Value} {c : List Lt} (h : RowCO base w v c) : ∃ ad k, v = .slice ad c.length k := h.own.sl.form
theorem RowCO.step {base l1 h1 l2 h2 : Nat} {w0 w1 w2 : World} {v u1 u2 : Value} {c : List Lt} {t1 t2 : List Int} (h : RowCO base w0 v c) (hb1 : Bel w0 w1) (hb2 : Bel w1 w2) (o1 : OwnI l1 h1 w1 u1 t1) (o2 : OwnI l2 h2 w1 u2 t2)
    (r1 : w0.heap.size ≤ l1) (r2 : w0.heap.size ≤ l2) (q1 : h1 ≤ w1.heap.size) (q2 : h2 ≤ w1.heap.size) (hd : h1 ≤ l2 ∨ h2 ≤ l1) (hbase : base ≤ w0.heap.size) (p : Bool) :
    ∃ zs : List LV, RowC base w2 v zs ∧ zs.length = c.length ∧ ∀ w3 v', RowC base w3 v' (zs ++ [(p, u1, u2)]) → w2.grownBy w3 v.ownBlock → (v'.ownBlock = v.ownBlock ∨ v'.ownBlock = some w2.heap.size) → RowCO base w3 v' (c ++ [(p, t1, t2)]) := by
  obtain ⟨zs, bs, hw, hp, hi⟩ := h
  have hlt := hw.lt
  have hz1 := hb1.size
  have hz2 := hb2.size
  have hzl : zs.length = c.length := by simpa using congrArg List.length hp
  refine ⟨zs, ownsRow_bel hw (hb1.step hb2), hzl, fun w3 v' hown hg hat => ?_⟩
  have hz3 := hg.size
  obtain ⟨b', hb'⟩ : ∃ b', v'.ownBlock = some b' := by
    rcases hown.2 with ⟨_, hn⟩ | ⟨g, cap, cur, rfl, _⟩
    · simp at hn
    · exact ⟨g, by simp [Value.ownBlock]⟩
  have hrb : rowBlk w3 v' = b' := by unfold rowBlk; rw [hb']; rfl
  have hi2 := hi.below (hb1.step hb2)
  have hi3 : Ins base w0.heap.size (rowBlk w0 v) w3 (rowsC zs) (flatC c) bs := by
    refine hi2.but fun x hx _ hxl hx2 => hg.block x hx2 fun e => hx ?_
    unfold rowBlk; rw [← e]; rfl
  have hbb : b' < w0.heap.size ∨ w2.heap.size ≤ b' := by
    rcases hat with e | e
    · rw [hb'] at e; exact .inl (hlt b' e.symm).2
    · rw [hb'] at e; simp at e; exact .inr (by omega)
  have hne : ∀ j, j < (flatC c).length → 0 < ((flatC c).getD j []).length → bs j ≠ b' := by
    intro j hj hpos
    have hr := hi.rng j hj hpos
    rcases hat with e | e
    · unfold rowBlk at hr; rw [← e, hb'] at hr; exact hr.2.2
    · rw [hb'] at e; simp at e; omega
  have ho1 : OwnI l1 h1 w3 u1 t1 := (o1.below hb2).same fun x hx1 hx2 hx3 => hg.block x hx3 fun e => by have := (hlt x e.symm).2; omega
  have ho2 : OwnI l2 h2 w3 u2 t2 := (o2.below hb2).same fun x hx1 hx2 hx3 => hg.block x hx3 fun e => by have := (hlt x e.symm).2; omega
  have hi4 := hi3.blk hne
  obtain ⟨bs1, hf1, hsame, hnew⟩ := hi4.snocG ho1 (fun j hj hpos => by have := hi4.rng j hj hpos; omega) (by omega) (by omega) (hi2 := w1.heap.size) (by omega) (by omega)
  obtain ⟨bs2, hf2, _, _⟩ := hf1.snocG ho2 (fun j hj hpos => by
    by_cases e : j = (flatC c).length
    · subst e
      have : 0 < t1.length := by simpa [List.getD] using hpos
      have := hnew this
      omega
    · have hjl : j < (flatC c).length := by simp at hj; omega
      have hp' : 0 < ((flatC c).getD j []).length := by simpa [List.getD, List.getElem?_append_left hjl] using hpos
      have := hi4.rng j hjl hp'
      rw [hsame j hjl]
      omega) (by omega) (by omega) (hi2 := w3.heap.size) (by omega) (by omega)
  refine ⟨zs ++ [(p, u1, u2)], bs2, hown, by rw [List.map_append, List.map_append, hp]; rfl, ?_⟩
  rw [hrb, rowsC_app, flatC_app]
  simpa [rowsC, flatC] using hf2

theorem step_append_litO {w : World} {ops : Array Oper} {o : Oper} {a : Act} {K : Act → World → Prop} {Q : Exit → Act → World → Prop} {E : Prop} (hgd : o.guard = none) (s x : Operand) (d : Nat) (hd : o.dst = some d)
    (ho : o.op = .call { callee := .builtin .append, args := #[s, x], argTypes := #[27, 27] })
    (base : Nat) (v : Value) (zs : List LV) (hs : a.eval s = v) (hown : RowC base w v zs) (g : Nat) (p : Bool) (z1 z2 : SV) (hx : a.eval x = .slice (some ⟨g, 0, none⟩) 1 1)
    (hnews : ∀ j u, [Value.bool p, encS z1, encS z2][j]? = some u → w.cell? ((⟨g, 0, none⟩ : Addr).add j) = some u)
    (hl : zs.length ≤ 1048576) (hbase : base ≤ w.heap.size)
    (h : ∀ b k w', RowC base w' (.slice (some ⟨b, 0, none⟩) (zs.length + 1) k) (zs ++ [(p, encS z1, encS z2)]) → w.grownBy w' v.ownBlock → ((Value.slice (some ⟨b, 0, none⟩) (zs.length + 1) k).ownBlock = v.ownBlock ∨ (Value.slice (some ⟨b, 0, none⟩) (zs.length + 1) k).ownBlock = some w.heap.size) → K (a.put (some d) (.slice (some ⟨b, 0, none⟩) (zs.length + 1) k)) w') :
    if Region.wanted o (yielded ops a.tmps) = true then Oper.wp Try.prog o a w K Q else E := by
  obtain ⟨i0, hi0, hz0, hz1, hz2⟩ := info_parts Try.info68
  rw [← hd] at h
  refine step_append_lies w hgd s x 27 ho base 68 i0 (.agg #[.bool false, .slice none 0 0, .slice none 0 0]) 3 56 Try.underlying27 hi0 hz0 hz1 hz2 rfl (by decide) v zs.length (cellsC zs) hs hown
    ⟨g, 0, none⟩ 1 1 [.bool p, encS z1, encS z2] hx (by simp) hnews (one_lit _ _ _ _ _ _ _) (by decide) (by unfold maxLen; omega) (by omega) hbase w.heap.size rfl (fun b k w' h1 h2 h3 _ => ?_)
  refine h b k w' ?_ h2 ?_
  · have e : cellsC (zs ++ [(p, encS z1, encS z2)]) = cellsC zs ++ [.bool p, encS z1, encS z2] := by rw [cellsC_app]; rfl
    show World.ownsRow _ _ _ _ _ _ _
    rw [e]
    simpa using h1
  · rcases h3 with h3 | h3
    · exact .inl (by rw [h3]; simp [Value.ownBlock])
    · exact .inr (by subst h3; simp [Value.ownBlock])
end Go.Proofs.Ytajmjjandkdhiaa
end
section
/- A row of literals of the call's own beside another row that grows too. -/
namespace Go.Proofs.Ytajmjjandkdhiaa
open Go.RowKit

def RowCA (base : Nat) (w : World) (v : Value) (c : List Lt) (a : Option Nat) : Prop :=
  ∃ (zs : List LV) (bs : Nat → Nat), RowC base w v zs ∧ zs.map (·.1) = c.map (·.1) ∧ Ins base w.heap.size (rowBlk w v) w (rowsC zs) (flatC c) bs ∧
    ∀ g, a = some g → v.ownBlock ≠ some g ∧ ∀ j, j < (flatC c).length → 0 < ((flatC c).getD j []).length → bs j ≠ g
theorem RowCA.nil (base : Nat) (w : World) (a : Option Nat) : RowCA base w (.slice none 0 0) [] a :=
  ⟨[], _, RowC.nil _ _, rfl, (Ins.none _ _ _ _).mono (Nat.le_refl _) (Nat.le_refl _), fun g _ => ⟨by simp [Value.ownBlock], fun j hj => absurd hj (by simp [flatC])⟩⟩
theorem RowCA.co {base : Nat} {w : World} {v : Value} {c : List Lt} {a : Option Nat} (h : RowCA base w v c a) : RowCO base w v c := by
  obtain ⟨zs, bs, h1, h2, h3, _⟩ := h
  exact ⟨zs, bs, h1, h2, h3⟩
theorem RowCA.ne {base : Nat} {w : World} {v : Value} {c : List Lt} {a : Option Nat} (h : RowCA base w v c a) : a = none ∨ a ≠ v.ownBlock := by
  obtain ⟨_, _, _, _, _, h4⟩ := h
  cases a with
  | none => exact .inl rfl
  | some g => exact .inr (fun e => (h4 g rfl).1 e.symm)
theorem RowCA.bel {base : Nat} {w w' : World} {v : Value} {c : List Lt} {a : Option Nat} (h : RowCA base w v c a) (hb : Bel w w') : RowCA base w' v c a := by
  obtain ⟨zs, bs, ho, hp, hi, ha⟩ := h
  refine ⟨zs, bs, ownsRow_bel ho hb, hp, ((hi.below hb).mono (Nat.le_refl _) hb.size).blk fun j hj hpos => ?_, ha⟩
  have hr := hi.rng j hj hpos
  unfold rowBlk at hr ⊢
  cases hv : v.ownBlock with
  | none => have := hb.size; simp only [Option.getD_none]; omega
  | some g => rw [hv] at hr; simp only [Option.getD_some] at hr ⊢; exact hr.2.2
/-- The other row grows. -/
theorem RowCA.seen {base : Nat} {w w' : World} {v : Value} {c : List Lt} {a a' : Option Nat} (h : RowCA base w v c a) (hg : w.grownBy w' a) (ha' : a' = a ∨ a' = some w.heap.size) : RowCA base w' v c a' := by
  obtain ⟨zs, bs, ho, hp, hi, ha⟩ := h
  have hlt := ho.lt
  have hne : v.ownBlock = none ∨ v.ownBlock ≠ a := by
    cases a with
    | none => cases hv : v.ownBlock with
      | none => exact .inl rfl
      | some g => exact .inr (by simp)
    | some g => exact .inr (ha g rfl).1
  have hi2 : Ins base w.heap.size (rowBlk w v) w' (rowsC zs) (flatC c) bs := by
    refine ⟨hi.len, hi.rng, hi.inj, fun j u hj => ?_⟩
    have hoj := hi.own j u hj
    have hjl : j < (flatC c).length := by rw [← hi.len]; exact (List.getElem?_eq_some_iff.1 hj).1
    by_cases hpos : 0 < ((flatC c).getD j []).length
    · have hr := hi.rng j hjl hpos
      refine hoj.same fun x h1 h2 h3 => hg.block x h3 fun e => ?_
      have := (ha x e.symm).2 j hjl hpos
      omega
    · rw [len0 hpos] at hoj ⊢; exact hoj.empty
  refine ⟨zs, bs, ho.kept hg hne, hp, (hi2.mono (Nat.le_refl _) hg.size).blk fun j hj hpos => ?_, fun g hga => ?_⟩
  · have hr := hi.rng j hj hpos
    unfold rowBlk at hr ⊢
    cases hv : v.ownBlock with
    | none => have := hg.size; simp only [Option.getD_none]; omega
    | some g => rw [hv] at hr; simp only [Option.getD_some] at hr ⊢; exact hr.2.2
  · rcases ha' with e | e
    · exact ha g (by rw [← e]; exact hga)
    · rw [e] at hga
      simp only [Option.some.injEq] at hga
      subst hga
      exact ⟨fun e2 => Nat.lt_irrefl _ (hlt _ e2).2, fun j hj hpos => by have := hi.rng j hj hpos; omega⟩
theorem RowCA.blk {base : Nat} {w : World} {v : Value} {c : List Lt} {a : Option Nat} (h : RowCA base w v c a) : ∀ g, v.ownBlock = some g → base ≤ g ∧ g < w.heap.size := h.co.blk
theorem RowCA.step {base l1 h1 l2 h2 : Nat} {w0 w1 w2 : World} {v u1 u2 : Value} {c : List Lt} {t1 t2 : List Int} {a : Option Nat} (h : RowCA base w0 v c a) (hal : ∀ g, a = some g → g < w0.heap.size) (hb1 : Bel w0 w1) (hb2 : Bel w1 w2) (o1 : OwnI l1 h1 w1 u1 t1) (o2 : OwnI l2 h2 w1 u2 t2)
    (r1 : w0.heap.size ≤ l1) (r2 : w0.heap.size ≤ l2) (q1 : h1 ≤ w1.heap.size) (q2 : h2 ≤ w1.heap.size) (hd : h1 ≤ l2 ∨ h2 ≤ l1) (hbase : base ≤ w0.heap.size) (p : Bool) :
    ∃ zs : List LV, RowC base w2 v zs ∧ zs.length = c.length ∧ ∀ w3 v', RowC base w3 v' (zs ++ [(p, u1, u2)]) → w2.grownBy w3 v.ownBlock → (v'.ownBlock = v.ownBlock ∨ v'.ownBlock = some w2.heap.size) → RowCA base w3 v' (c ++ [(p, t1, t2)]) a := by
  obtain ⟨zs, bs, hw, hp, hi, ha⟩ := h
  have hlt := hw.lt
  have hz1 := hb1.size
  have hz2 := hb2.size
  have hzl : zs.length = c.length := by simpa using congrArg List.length hp
  refine ⟨zs, ownsRow_bel hw (hb1.step hb2), hzl, fun w3 v' hown hg hat => ?_⟩
  have hz3 := hg.size
  obtain ⟨b', hb'⟩ : ∃ b', v'.ownBlock = some b' := by
    rcases hown.2 with ⟨_, hn⟩ | ⟨g, cap, cur, rfl, _⟩
    · simp at hn
    · exact ⟨g, by simp [Value.ownBlock]⟩
  have hrb : rowBlk w3 v' = b' := by unfold rowBlk; rw [hb']; rfl
  have hi2 := hi.below (hb1.step hb2)
  have hi3 : Ins base w0.heap.size (rowBlk w0 v) w3 (rowsC zs) (flatC c) bs := by
    refine hi2.but fun x hx _ hxl hx2 => hg.block x hx2 fun e => hx ?_
    unfold rowBlk; rw [← e]; rfl
  have hbb : b' < w0.heap.size ∨ w2.heap.size ≤ b' := by
    rcases hat with e | e
    · rw [hb'] at e; exact .inl (hlt b' e.symm).2
    · rw [hb'] at e; simp at e; exact .inr (by omega)
  have hne : ∀ j, j < (flatC c).length → 0 < ((flatC c).getD j []).length → bs j ≠ b' := by
    intro j hj hpos
    have hr := hi.rng j hj hpos
    rcases hat with e | e
    · unfold rowBlk at hr; rw [← e, hb'] at hr; exact hr.2.2
    · rw [hb'] at e; simp at e; omega
  have ho1 : OwnI l1 h1 w3 u1 t1 := (o1.below hb2).same fun x hx1 hx2 hx3 => hg.block x hx3 fun e => by have := (hlt x e.symm).2; omega
  have ho2 : OwnI l2 h2 w3 u2 t2 := (o2.below hb2).same fun x hx1 hx2 hx3 => hg.block x hx3 fun e => by have := (hlt x e.symm).2; omega
  have hi4 := hi3.blk hne
  obtain ⟨bs1, hf1, hsame, hnew⟩ := hi4.snocG ho1 (fun j hj hpos => by have := hi4.rng j hj hpos; omega) (by omega) (by omega) (hi2 := w1.heap.size) (by omega) (by omega)
  obtain ⟨bs2, hf2, hsame2, hnew2⟩ := hf1.snocG ho2 (fun j hj hpos => by
    by_cases e : j = (flatC c).length
    · subst e
      have : 0 < t1.length := by simpa [List.getD] using hpos
      have := hnew this
      omega
    · have hjl : j < (flatC c).length := by simp at hj; omega
      have hp' : 0 < ((flatC c).getD j []).length := by simpa [List.getD, List.getElem?_append_left hjl] using hpos
      have := hi4.rng j hjl hp'
      rw [hsame j hjl]
      omega) (by omega) (by omega) (hi2 := w3.heap.size) (by omega) (by omega)
  have hff : flatC (c ++ [(p, t1, t2)]) = flatC c ++ [t1] ++ [t2] := by rw [flatC_app]; simp [flatC]
  refine ⟨zs ++ [(p, u1, u2)], bs2, hown, by rw [List.map_append, List.map_append, hp]; rfl, ?_, fun g hga => ⟨fun e => ?_, fun j hj hpos => ?_⟩⟩
  · rw [hrb, rowsC_app, hff]
    simpa [rowsC] using hf2
  · rcases hat with e2 | e2
    · exact (ha g hga).1 (by rw [← e2]; exact e)
    · rw [e2] at e; simp at e; have := hal g hga; omega
  · rw [hff] at hj hpos
    have hg0 := hal g hga
    by_cases e1 : j = (flatC c ++ [t1]).length
    · subst e1
      have hpos2 : 0 < t2.length := by simpa [List.getD] using hpos
      have := hnew2 hpos2
      omega
    · have hj1 : j < (flatC c ++ [t1]).length := by simp at hj ⊢; simp at e1; omega
      rw [hsame2 j hj1]
      by_cases e2 : j = (flatC c).length
      · subst e2
        have hpos2 : 0 < t1.length := by simpa [List.getD] using hpos
        have := hnew hpos2
        omega
      · have hjl : j < (flatC c).length := by simp at hj1; omega
        rw [hsame j hjl]
        have hp' : 0 < ((flatC c).getD j []).length := by simpa [List.getD, List.getElem?_append_left hjl, List.getElem?_append_left hj1] using hpos
        exact (ha g hga).2 j hjl hp'
end Go.Proofs.Ytajmjjandkdhiaa
end
section
/- Chapter 4, the reference: literals of the same terms. -/
namespace Go.Proofs.Ytajmjjandkdhiaa
open Go.RowKit

theorem l1Same_w (l h l' h' : Nat) (v u : Value) (xs ys : List Int) (q : Bool) (w : World) (hq : decide (xs = ys) = q) (hx : xs.length ≤ 1048576) (hy : ys.length ≤ 1048576) (hv : SlI l h w v xs) (hu : SlI l' h' w u ys) :
    Calls Try.prog 111 #[v, u] w (RetV w (.bool q)) := by subst hq; exact l1Same_c l h l' h' v u xs ys w hx hy hv hu

set_option maxRecDepth 100000 in
set_option maxHeartbeats 2000000 in
theorem l4SameTerms_c (l h l' h' : Nat) (x y : Lt) (u1 u2 q1 q2 : Value) (w : World) (h1 : x.2.1.length ≤ 1048576) (h2 : x.2.2.length ≤ 1048576) (h3 : y.2.1.length ≤ 1048576) (h4 : y.2.2.length ≤ 1048576)
    (s1 : SlI l h w u1 x.2.1) (s2 : SlI l h w u2 x.2.2) (t1 : SlI l' h' w q1 y.2.1) (t2 : SlI l' h' w q2 y.2.2) :
    Calls Try.prog 112 #[.agg #[.bool x.1, u1, u2], .agg #[.bool y.1, q1, q2]] w (RetV w (.bool (sameTs x y))) := by
  obtain ⟨p, xl, xr⟩ := x
  obtain ⟨q, yl, yr⟩ := y
  simp only at *
  unfold sameTs
  simp only
  have HB : Bel w ((w.alloc (.cells #[.bool p, u1, u2] 68)).alloc (.cells #[.bool q, q1, q2] 68)) := Bel.alloc2 _ _ _
  have HK : Hid (∀ w', Bel ((w.alloc (.cells #[.bool p, u1, u2] 68)).alloc (.cells #[.bool q, q1, q2] 68)) w' → (w'.cell? ⟨w.heap.size, 1, none⟩ = some u1 ∧ w'.cell? ⟨w.heap.size, 2, none⟩ = some u2) ∧ w'.cell? ⟨w.heap.size + 1, 1, none⟩ = some q1 ∧ w'.cell? ⟨w.heap.size + 1, 2, none⟩ = some q2) := fun w' hb =>
    ⟨⟨hb.at (by simp; omega) (by simp [go_sem]), hb.at (by simp; omega) (by simp [go_sem])⟩, hb.at (by simp) (by simp [go_sem]), hb.at (by simp) (by simp [go_sem])⟩
  have H1 := fun (r : Bool) (hr : decide (xl = yl) = r) (w' : World) (hb : Bel w w') => l1Same_w _ _ _ _ _ _ xl yl r w' hr h1 h3 (s1.below hb) (t1.below hb)
  have H2 := fun (r : Bool) (hr : decide (xr = yr) = r) (w' : World) (hb : Bel w w') => l1Same_w _ _ _ _ _ _ xr yr r w' hr h2 h4 (s2.below hb) (t2.below hb)
  have H3 := fun (r : Bool) (hr : decide (xl = yr) = r) (w' : World) (hb : Bel w w') => l1Same_w _ _ _ _ _ _ xl yr r w' hr h1 h4 (s1.below hb) (t2.below hb)
  have H4 := fun (r : Bool) (hr : decide (xr = yl) = r) (w' : World) (hb : Bel w w') => l1Same_w _ _ _ _ _ _ xr yl r w' hr h2 h3 (s2.below hb) (t1.below hb)
  clear s1 s2 t1 t2
  generalize decide (xl = yl) = e1 at *
  generalize decide (xr = yr) = e2 at *
  generalize decide (xl = yr) = e3 at *
  generalize decide (xr = yl) = e4 at *
  have H1 := Lib.hid (H1 e1 rfl)
  have H2 := Lib.hid (H2 e2 rfl)
  have H3 := Lib.hid (H3 e3 rfl)
  have H4 := Lib.hid (H4 e4 rfl)
  cases e1 with
  | false =>
    cases e3 with
    | false =>
      go_enter Try.func112, Try.ntmps112
      go_wp2_with fail
      refine (H1.out _ HB).mono ?_; rintro e w1 ⟨rfl, hb1⟩
      have B1 := HB.step hb1
      have G1 := hb1
      obtain ⟨⟨x11, x21⟩, y11, y21⟩ := HK.out _ G1
      go_wp2_with fail
      refine (H3.out _ B1).mono ?_; rintro e w2 ⟨rfl, hb2⟩
      have B2 := B1.step hb2
      have G2 := G1.step hb2
      obtain ⟨⟨x12, x22⟩, y12, y22⟩ := HK.out _ G2
      go_wp2_with fail
      go_ret
      exact ⟨rfl, B2⟩
    | true =>
      cases e4 with
      | false =>
        go_enter Try.func112, Try.ntmps112
        go_wp2_with fail
        refine (H1.out _ HB).mono ?_; rintro e w1 ⟨rfl, hb1⟩
        have B1 := HB.step hb1
        have G1 := hb1
        obtain ⟨⟨x11, x21⟩, y11, y21⟩ := HK.out _ G1
        go_wp2_with fail
        refine (H3.out _ B1).mono ?_; rintro e w2 ⟨rfl, hb2⟩
        have B2 := B1.step hb2
        have G2 := G1.step hb2
        obtain ⟨⟨x12, x22⟩, y12, y22⟩ := HK.out _ G2
        go_wp2_with fail
        refine (H4.out _ B2).mono ?_; rintro e w3 ⟨rfl, hb3⟩
        have B3 := B2.step hb3
        have G3 := G2.step hb3
        obtain ⟨⟨x13, x23⟩, y13, y23⟩ := HK.out _ G3
        go_wp2_with fail
        go_ret
        exact ⟨rfl, B3⟩
      | true =>
        go_enter Try.func112, Try.ntmps112
        go_wp2_with fail
        refine (H1.out _ HB).mono ?_; rintro e w1 ⟨rfl, hb1⟩
        have B1 := HB.step hb1
        have G1 := hb1
        obtain ⟨⟨x11, x21⟩, y11, y21⟩ := HK.out _ G1
        go_wp2_with fail
        refine (H3.out _ B1).mono ?_; rintro e w2 ⟨rfl, hb2⟩
        have B2 := B1.step hb2
        have G2 := G1.step hb2
        obtain ⟨⟨x12, x22⟩, y12, y22⟩ := HK.out _ G2
        go_wp2_with fail
        refine (H4.out _ B2).mono ?_; rintro e w3 ⟨rfl, hb3⟩
        have B3 := B2.step hb3
        have G3 := G2.step hb3
        obtain ⟨⟨x13, x23⟩, y13, y23⟩ := HK.out _ G3
        go_wp2_with fail
        go_ret
        exact ⟨rfl, B3⟩
  | true =>
    cases e2 with
    | false =>
      cases e3 with
      | false =>
        go_enter Try.func112, Try.ntmps112
        go_wp2_with fail
        refine (H1.out _ HB).mono ?_; rintro e w1 ⟨rfl, hb1⟩
        have B1 := HB.step hb1
        have G1 := hb1
        obtain ⟨⟨x11, x21⟩, y11, y21⟩ := HK.out _ G1
        go_wp2_with fail
        refine (H2.out _ B1).mono ?_; rintro e w2 ⟨rfl, hb2⟩
        have B2 := B1.step hb2
        have G2 := G1.step hb2
        obtain ⟨⟨x12, x22⟩, y12, y22⟩ := HK.out _ G2
        go_wp2_with fail
        refine (H3.out _ B2).mono ?_; rintro e w3 ⟨rfl, hb3⟩
        have B3 := B2.step hb3
        have G3 := G2.step hb3
        obtain ⟨⟨x13, x23⟩, y13, y23⟩ := HK.out _ G3
        go_wp2_with fail
        go_ret
        exact ⟨rfl, B3⟩
      | true =>
        cases e4 with
        | false =>
          go_enter Try.func112, Try.ntmps112
          go_wp2_with fail
          refine (H1.out _ HB).mono ?_; rintro e w1 ⟨rfl, hb1⟩
          have B1 := HB.step hb1
          have G1 := hb1
          obtain ⟨⟨x11, x21⟩, y11, y21⟩ := HK.out _ G1
          go_wp2_with fail
          refine (H2.out _ B1).mono ?_; rintro e w2 ⟨rfl, hb2⟩
          have B2 := B1.step hb2
          have G2 := G1.step hb2
          obtain ⟨⟨x12, x22⟩, y12, y22⟩ := HK.out _ G2
          go_wp2_with fail
          refine (H3.out _ B2).mono ?_; rintro e w3 ⟨rfl, hb3⟩
          have B3 := B2.step hb3
          have G3 := G2.step hb3
          obtain ⟨⟨x13, x23⟩, y13, y23⟩ := HK.out _ G3
          go_wp2_with fail
          refine (H4.out _ B3).mono ?_; rintro e w4 ⟨rfl, hb4⟩
          have B4 := B3.step hb4
          have G4 := G3.step hb4
          obtain ⟨⟨x14, x24⟩, y14, y24⟩ := HK.out _ G4
          go_wp2_with fail
          go_ret
          exact ⟨rfl, B4⟩
        | true =>
          go_enter Try.func112, Try.ntmps112
          go_wp2_with fail
          refine (H1.out _ HB).mono ?_; rintro e w1 ⟨rfl, hb1⟩
          have B1 := HB.step hb1
          have G1 := hb1
          obtain ⟨⟨x11, x21⟩, y11, y21⟩ := HK.out _ G1
          go_wp2_with fail
          refine (H2.out _ B1).mono ?_; rintro e w2 ⟨rfl, hb2⟩
          have B2 := B1.step hb2
          have G2 := G1.step hb2
          obtain ⟨⟨x12, x22⟩, y12, y22⟩ := HK.out _ G2
          go_wp2_with fail
          refine (H3.out _ B2).mono ?_; rintro e w3 ⟨rfl, hb3⟩
          have B3 := B2.step hb3
          have G3 := G2.step hb3
          obtain ⟨⟨x13, x23⟩, y13, y23⟩ := HK.out _ G3
          go_wp2_with fail
          refine (H4.out _ B3).mono ?_; rintro e w4 ⟨rfl, hb4⟩
          have B4 := B3.step hb4
          have G4 := G3.step hb4
          obtain ⟨⟨x14, x24⟩, y14, y24⟩ := HK.out _ G4
          go_wp2_with fail
          go_ret
          exact ⟨rfl, B4⟩
    | true =>
      go_enter Try.func112, Try.ntmps112
      go_wp2_with fail
      refine (H1.out _ HB).mono ?_; rintro e w1 ⟨rfl, hb1⟩
      have B1 := HB.step hb1
      have G1 := hb1
      obtain ⟨⟨x11, x21⟩, y11, y21⟩ := HK.out _ G1
      go_wp2_with fail
      refine (H2.out _ B1).mono ?_; rintro e w2 ⟨rfl, hb2⟩
      have B2 := B1.step hb2
      have G2 := G1.step hb2
      obtain ⟨⟨x12, x22⟩, y12, y22⟩ := HK.out _ G2
      go_wp2_with fail
      go_ret
      exact ⟨rfl, B2⟩
end Go.Proofs.Ytajmjjandkdhiaa
end
