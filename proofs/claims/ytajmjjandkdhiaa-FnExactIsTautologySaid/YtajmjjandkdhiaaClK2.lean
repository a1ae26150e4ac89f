/- Chapter 4, the program: keys among keys, tautologies. -/
import Derived.Test.YtajmjjandkdhiaaClK
import Derived.Test.YtajmjjandkdhiaaClS3
import Derived.Maps.AppendAt
namespace Go.Proofs.Ytajmjjandkdhiaa
open Go.RowKit

set_option maxRecDepth 100000 in
set_option maxHeartbeats 1000000 in
theorem containsK_c (lo : Nat) (v : Value) (ks : List Ky) (key : Ky) (w : World) (hl : ks.length ≤ 1048576) (hv : RowK lo w v ks) :
    Calls Try.prog 116 #[v, .agg #[.bool key.1, .string key.2.1, .string key.2.2]] w (RetV w (.bool (ks.any fun y => decide (key = y)))) := by
  have HC := Lib.hid (fun (w' : World) (hb : Bel w w') => indexK_c lo v ks key w' hl (ownsRow_bel hv hb))
  obtain ⟨ad, cap, rfl⟩ := hv.form
  clear hv
  generalize (ks.any fun y => decide (key = y)) = q at *
  go_enter Try.func116, Try.ntmps116
  go_wp2_with fail
  refine (HC.out _ (Bel.alloc0 _ _)).mono ?_; rintro e w1 ⟨⟨z, rfl, hz, hz1, hz2⟩, hb1⟩
  go_wp2_with fail
  go_ret
  exact ⟨by rw [← hz]; rfl, hb1.of_alloc⟩

set_option maxRecDepth 100000 in
set_option maxHeartbeats 1000000 in
theorem news_key (w : World) (k : Ky) (t : TypeId) (g : Nat) (hg : g = w.heap.size) : ∀ j u, [Value.bool k.1, .string k.2.1, .string k.2.2][j]? = some u → (w.alloc (.cells #[.bool k.1, .string k.2.1, .string k.2.2] t)).cell? ((⟨g, 0, none⟩ : Addr).add j) = some u := by
  subst hg
  intro j u hj
  match j, hj with
  | 0, hj => simp at hj; subst hj; rw [show (⟨w.heap.size, 0, none⟩ : Addr).add 0 = ⟨w.heap.size, 0, none⟩ from rfl, World.cell?_alloc_new w]; rfl
  | 1, hj => simp at hj; subst hj; rw [addr_add, World.cell?_alloc_new w]; rfl
  | 2, hj => simp at hj; subst hj; rw [addr_add, World.cell?_alloc_new w]; rfl
theorem one_key (k : Ky) : ∀ u ∈ [Value.bool k.1, .string k.2.1, .string k.2.2], u.oneCell' = true := by
  intro u hu; simp at hu; rcases hu with rfl | rfl | rfl <;> rfl
theorem Try.info117 : (Try.prog.info? 117).map (fun i => (i.zero, i.size, i.bytes)) = some (some (.agg #[.bool false, .string ⟨#[]⟩, .string ⟨#[]⟩]), 3, 40) := by kernel_rfl
theorem keyOf_k (l h : Nat) (x : Lt) (u1 u2 : Value) (w : World) (hl : x.2.1.length ≤ 40) (hr : x.2.2.length ≤ 40) (hk : inKeyL x) (h1 : SlI l h w u1 x.2.1) (h2 : SlI l h w u2 x.2.2) :
    Calls Try.prog 114 #[.agg #[.bool x.1, u1, u2]] w (RetV w (.agg #[.bool (keyL x).1, .string (keyL x).2.1, .string (keyL x).2.2])) :=
  keyOf_c l h x.1 u1 u2 x.2.1 x.2.2 w hl hr (inKey_get hk.1) (inKey_get hk.2) h1 h2
/-- A tautology, told by the keys. -/
def tautK (ks : List Ky) : Bool := ks.any fun k => (k.1 && decide (k.2.1 = k.2.2)) || ks.any fun y => decide ((!k.1, k.2) = y)

set_option maxRecDepth 100000 in
set_option maxHeartbeats 1000000 in
theorem isTaut_c (l h : Nat) (v : Value) (c : List Lt) (w : World) (hx : c.length ≤ 8) (hok : ∀ x ∈ c, inKeyL x ∧ x.2.1.length ≤ 40 ∧ x.2.2.length ≤ 40) (hv : SlC l h w v c) :
    Calls Try.prog 85 #[v] w (RetV w (.bool (tautK (c.map keyL)))) := by
  obtain ⟨i1, hi1, hy0, hy1, hy2⟩ := info_parts Try.info117
  obtain ⟨ad, cap, rfl⟩ := hv.form
  go_enter Try.func85, Try.ntmps85
  go_wp2_with fail
  go_loopw [3, 11] (fun o i wr => ∃ k : Nat, k ≤ c.length ∧ i = .int .i64 k ∧ RowK w.heap.size wr o ((c.take k).map keyL) ∧ Bel w wr) (fun _ i _ => c.length - (intOf i).toNat)
  case atStart => exact ⟨0, Nat.zero_le _, rfl, RowK.nil _ _, Bel.rfl' _⟩
  case round =>
    obtain ⟨k, hk, rfl, hrow, hb⟩ := hrel
    by_cases hlt : k < c.length
    · obtain ⟨b, off, u1, u2, rfl, hbs, c1, c2, c3, s1, s2⟩ := hv.at hb k hlt
      have hin1 : (k : Int) < c.length := by omega
      obtain ⟨ok1, ok2, ok3⟩ := hok _ (getD_mem c lt0 k hlt)
      have HTK : Hid ((c.take (k+1)).map keyL = (c.take k).map keyL ++ [keyL (c.getD k lt0)]) := by show _ = _; rw [List.take_succ_eq_append_getElem hlt, List.map_append]; simp [List.getD, hlt]
      have hkl : ((c.take k).map keyL).length = k := by simp; omega
      generalize (c.take k).map keyL = ks at *
      generalize c.getD k lt0 = x at *
      obtain ⟨p, xl, xr⟩ := x
      simp only at c1 c2 c3 s1 s2 ok2 ok3
      have hkey := fun (w' : World) (hq : Bel wr w') => keyOf_k l h (p, xl, xr) u1 u2 w' ok2 ok3 ok1 (s1.below hq) (s2.below hq)
      generalize keyL (p, xl, xr) = key at *
      simp only at hkey
      obtain ⟨a1, d1, rfl⟩ := s1.form
      obtain ⟨a2, d2, rfl⟩ := s2.form
      have HK := Lib.hid hkey
      have hbz := hb.size
      clear hv s1 s2 hkey ok1 ok2 ok3 hok
      go_wp2_with fail
      refine (HK.out _ (Bel.alloc0 _ _)).mono ?_; rintro e w1 ⟨rfl, hb1⟩
      have hb2 := hb1.of_alloc
      have hr1 : RowK w.heap.size (w1.alloc (.cells #[.bool key.1, .string key.2.1, .string key.2.2] 117)) _ ks := ownsRow_bel hrow (hb2.step (Bel.alloc0 _ _))
      have hz1 := hb2.size
      go_wp2_with (at_builtin; refine wpList_append_own_at _ rfl _ _ 115 rfl w.heap.size 117 i1 (.agg #[.bool false, .string ⟨#[]⟩, .string ⟨#[]⟩]) 3 40 Try.underlying115 hi1 hy0 hy1 hy2 rfl (by decide) _ _ _ rfl hr1 _ _ _ [.bool key.1, .string key.2.1, .string key.2.2] rfl rfl (news_key _ _ _ _ rfl) (one_key _) (by unfold maxLen; omega) (by omega) (by simp; omega) ?_; intro v' w4 hown' hgrow _ _)
      go_roundw
      case rel =>
        refine ⟨k+1, by omega, by go_num, ?_, ((hb.step hb2).alloc _).grown hgrow (fun q hq => own_base hrow q hq)⟩
        rw [HTK.out]
        show World.ownsRow _ _ _ _ _ _ _
        rw [cellsK_app, List.length_append]
        exact hown'
      case measure => simp [intOf]; omega
    · rw [List.take_of_length_le (by omega)] at hrow
      have hkl : (c.map keyL).length ≤ 8 := by simpa using hx
      generalize c.map keyL = ks at *
      have hrow0 := hrow
      obtain ⟨a5, c5, rfl⟩ := hrow.form
      have HR := Lib.hid (fun (w' : World) (hq : Bel wr w') => (ownsRow_bel hrow0 hq : RowK w.heap.size w' (.slice a5 ks.length c5) ks))
      clear hv hrow hrow0 hok
      go_wp2_with fail
      go_loopw [23] (fun i wr2 => ∃ j : Nat, j ≤ ks.length ∧ i = .int .i64 j ∧ (ks.take j).any (fun k => (k.1 && decide (k.2.1 = k.2.2)) || ks.any fun y => decide ((!k.1, k.2) = y)) = false ∧ Bel wr wr2) (fun i _ => ks.length - (intOf i).toNat)
      case atStart => exact ⟨0, Nat.zero_le _, rfl, by simp, Bel.rfl' _⟩
      case round =>
        obtain ⟨j, hj, rfl, hno, hb2⟩ := hrel
        by_cases hlj : j < ks.length
        · obtain ⟨g, rfl, c0, c1, c2⟩ := RowK.at (HR.out _ hb2) j hlj
          have HTK : Hid (ks.take (j+1) = ks.take j ++ [ks.getD j (false, ByteArray.empty, ByteArray.empty)]) := by show _ = _; rw [List.take_succ_eq_append_getElem hlj]; simp [List.getD, hlj]
          have hmem := getD_mem ks (false, ByteArray.empty, ByteArray.empty) j hlj
          have hin2 : (j : Int) < ks.length := by omega
          generalize ks.getD j (false, ByteArray.empty, ByteArray.empty) = key at *
          obtain ⟨p, lo, hi⟩ := key
          simp only at c0 c1 c2
          have HC := Lib.hid (fun (w' : World) (p : Bool) (hq : Bel wr w') => containsK_c w.heap.size _ ks (p, lo, hi) w' (by omega) (HR.out _ (hb2.step hq)))
          have HYES : Hid (((p && decide (lo = hi)) || ks.any fun y => decide ((!p, lo, hi) = y)) = true → tautK ks = true) := fun h => List.any_eq_true.2 ⟨(p, lo, hi), hmem, h⟩
          have HNO : Hid (((p && decide (lo = hi)) || ks.any fun y => decide ((!p, lo, hi) = y)) = false → (ks.take (j+1)).any (fun k => (k.1 && decide (k.2.1 = k.2.2)) || ks.any fun y => decide ((!k.1, k.2) = y)) = false) := fun h => by rw [HTK.out, List.any_append, hno]; simpa using h
          clear hmem hno HTK
          have hbz := hb2.size
          cases p with
          | false =>
            simp only [Bool.not_false, Bool.false_and, Bool.false_or] at HYES HNO
            have hcon := fun (w' : World) (hq : Bel wr w') => HC.out w' true hq
            simp only at hcon
            generalize hq : (ks.any fun y => decide ((true, lo, hi) = y)) = q at *
            have HCC := Lib.hid hcon
            have HQ := Lib.hid hq
            clear hcon hq HC
            have HB3 : Bel wr ((wr.alloc (.cells #[.bool false, .string lo, .string hi] 117)).alloc (.cells #[.bool true, .string lo, .string hi] 117)) := Bel.alloc2 _ _ _
            cases q with
            | true =>
              have E := Lib.hid (HYES.out rfl)
              clear HYES HNO
              go_wp2_with fail
              refine (HCC.out _ HB3).mono ?_; rintro e w3 ⟨rfl, hb3⟩
              go_wp2_with fail
              go_ret
              exact ⟨by rw [E.out]; rfl, (hb.step hb2).step (HB3.step hb3)⟩
            | false =>
              have E := Lib.hid (HNO.out rfl)
              clear HYES HNO
              go_wp2_with fail
              refine (HCC.out _ HB3).mono ?_; rintro e w3 ⟨rfl, hb3⟩
              go_wp2_with fail
              go_roundw
              case rel => exact ⟨j+1, by omega, by go_num, E.out, hb2.step (HB3.step hb3)⟩
              case measure => simp [intOf]; omega
          | true =>
            simp only [Bool.not_true, Bool.true_and] at HYES HNO
            have hcon := fun (w' : World) (hq : Bel wr w') => HC.out w' false hq
            simp only at hcon
            generalize hq : (ks.any fun y => decide ((false, lo, hi) = y)) = q at *
            have HCC := Lib.hid hcon
            have HS := Lib.hid (fun (w' : World) => isSame_c true lo hi w')
            have HB3 : Bel wr ((wr.alloc (.cells #[.bool true, .string lo, .string hi] 117)).alloc (.cells #[.bool false, .string lo, .string hi] 117)) := Bel.alloc2 _ _ _
            generalize decide (lo = hi) = r at *
            clear hcon hq HC
            cases r with
            | true =>
              have E := Lib.hid (HYES.out rfl)
              clear HYES HNO
              go_wp2_with fail
              refine (HS.out _).mono ?_; rintro e w3 ⟨rfl, hb3⟩
              go_wp2_with fail
              go_ret
              exact ⟨by rw [E.out]; rfl, (hb.step hb2).step (HB3.step hb3)⟩
            | false =>
              go_wp2_with fail
              refine (HS.out _).mono ?_; rintro e w3 ⟨rfl, hb3⟩
              have m0 := hb3.at (b := wr.heap.size + 1) (off := 0) (by simp) (v := .bool false) (by simp [go_sem])
              have m1 := hb3.at (b := wr.heap.size + 1) (off := 1) (by simp) (v := .string lo) (by simp [go_sem])
              have m2 := hb3.at (b := wr.heap.size + 1) (off := 2) (by simp) (v := .string hi) (by simp [go_sem])
              cases q with
              | true =>
                have E := Lib.hid (HYES.out rfl)
                clear HYES HNO
                go_wp2_with fail
                refine (HCC.out _ (HB3.step hb3)).mono ?_; rintro e w4 ⟨rfl, hb4⟩
                go_wp2_with fail
                go_ret
                exact ⟨by rw [E.out]; rfl, (hb.step hb2).step ((HB3.step hb3).step hb4)⟩
              | false =>
                have E := Lib.hid (HNO.out rfl)
                clear HYES HNO
                go_wp2_with fail
                refine (HCC.out _ (HB3.step hb3)).mono ?_; rintro e w4 ⟨rfl, hb4⟩
                go_wp2_with fail
                go_roundw
                case rel => exact ⟨j+1, by omega, by go_num, E.out, hb2.step ((HB3.step hb3).step hb4)⟩
                case measure => simp [intOf]; omega
        · rw [List.take_of_length_le (by omega)] at hno
          have E : Hid (tautK ks = false) := hno
          have hin2 : ¬ (j : Int) < ks.length := by omega
          clear hno
          go_wp2_with fail
          go_ret
          exact ⟨by rw [E.out]; rfl, hb.step hb2⟩

end Go.Proofs.Ytajmjjandkdhiaa
