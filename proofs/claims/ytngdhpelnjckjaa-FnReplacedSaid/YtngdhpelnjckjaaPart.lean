/- PartAt, ReplaceAt: both functions. -/
import Derived.Test.YtngdhpelnjckjaaSlice
import Derived.Test.YtngdhpelnjckjaaGood2
import Derived.Test.YtngdhpelnjckjaaTerm2
namespace Go.Proofs.Ytngdhpelnjckjaa
open Go.RowKit

theorem l1End_v (l h l' h' : Nat) (v u : Value) (ar t : List Int) (i q : Nat) (w : World) (he : endOf ar t i = some q) (hg : goodSign ar = true) (ht : t.length ≤ 1048576) (hi : i ≤ t.length) (hv : SlI l h w v ar) (hu : SlI l' h' w u t) :
    Calls Try.prog 97 #[.agg #[v], u, .int .i64 i] w (RetV w (.int .i64 q)) := endI_some he ▸ l1End_c l h l' h' v u ar t i w hg ht hi hv hu
theorem termEnd_v (l h l' h' : Nat) (v u : Value) (ar t : List Int) (i q : Nat) (w : World) (he : endOf ar t i = some q) (hg : goodSign ar = true) (ht : t.length ≤ 1048576) (hi : i ≤ t.length) (hv : SlI l h w v ar) (hu : SlI l' h' w u t) :
    Calls Try.prog 90 #[.agg #[v], u, .int .i64 i] w (RetV w (.tuple #[.int .i64 q, .bool true])) := endP_some he ▸ termEnd_c l h l' h' v u ar t i w hg ht hi hv hu

theorem l1Part_c (l h l' h' : Nat) (v u : Value) (ar t : List Int) (i q : Nat) (w : World) (hg : goodSign ar = true) (ht : t.length ≤ 1048576) (hi : i < t.length) (he : endOf ar t i = some q) (hq1 : i < q) (hq2 : q ≤ t.length) (hv : SlI l h w v ar) (hu : SlI l' h' w u t) :
    Calls Try.prog 96 #[.agg #[v], u, .int .i64 i] w (RetI w (partOf t i q)) := by
  obtain ⟨b, off, cap, rfl, hcap⟩ := hu.plain (by omega)
  have HE := Lib.hid he
  clear he
  have hpl : (partOf t i q).length ≤ 1048576 := by rw [partOf_len t i q hq2]; omega
  have hq3 : (i : Int) < q := by omega
  have hq4 : (q : Int) ≤ t.length := by omega
  go_enter Try.func96, Try.ntmps96
  go_wp2_with fail
  refine (l1End_v _ _ _ _ _ _ ar t i q _ HE.out hg ht (by omega) (hv.alloc _) (hu.alloc _)).mono ?_; rintro e w1 ⟨rfl, hb1⟩
  go_wp2_with fail
  refine (l1Own_c _ _ _ (partOf t i q) _ hpl ((hu.below hb1.of_alloc).cut i q (by omega) hq2)).mono ?_; rintro e w2 ⟨ad, n, c, rfl, ho, hb2⟩
  go_wp2_with fail
  go_ret
  exact ⟨_, _, _, rfl, ho.mono (by have := hb1.size; simp at this; omega) (Nat.le_refl _), hb1.of_alloc.step hb2⟩

/-- What PartAt answers. -/
def partAns (ar t : List Int) (i : Int) : List Int := if askOk ar t i then partOf t i.toNat ((endOf ar t i.toNat).getD 0) else []
theorem partAns_yes {ar t : List Int} {k q : Nat} (h : askOk ar t k = true) (he : endOf ar t k = some q) : partAns ar t k = partOf t k q := by simp [partAns, h, he]
theorem partAns_len (ar t : List Int) (i : Int) : (partAns ar t i).length ≤ 1048576 := by
  unfold partAns
  split
  · rename_i h
    obtain ⟨k, e, rfl, hk, he, _, hle, hl, _, _⟩ := ask_yes h
    simp only [Int.toNat_natCast, he, Option.getD_some]
    rw [partOf_len t k e hle]
    omega
  · exact Nat.zero_le _

theorem sPartAt_t {l h l' h' : Nat} {v u : Value} {ar t : List Int} {w : World} (ha : ar.length ≤ 1048576) (hv : SlI l h w v ar) (ht : t.length ≤ 1048576) (hu : SlI l' h' w u t) {i : Int} (_ : -9223372036854775808 ≤ i) (_ : i ≤ 9223372036854775807) :
    Calls Try.prog 21 #[.agg #[v], u, .int .i64 i] w (RetIB w (partAns ar t i) (askOk ar t i)) := by
  cases hs : askOk ar t i with
  | false =>
    have E : Hid (partAns ar t i = []) := by show partAns ar t i = []; simp [partAns, hs]
    have HS := Lib.hid hs; clear hs
    go_enter Try.func21, Try.ntmps21
    go_wp2_with fail
    refine (l1Asked_v _ _ _ _ _ _ _ _ _ _ _ HS.out ha ht (hv.alloc _) (hu.alloc _)).mono ?_; rintro e w' ⟨rfl, hb1⟩
    go_wp2_with fail
    go_ret2
    exact ⟨_, _, _, rfl, by rw [E.out]; exact OwnI.nil _ _ _, hb1.of_alloc⟩
  | true =>
    obtain ⟨k, q, rfl, hk, he, hq1, hq2, hlen, hg, hok⟩ := ask_yes hs
    have E := Lib.hid (partAns_yes hs he)
    have HS := Lib.hid hs; have HE := Lib.hid he; clear hs he
    go_enter Try.func21, Try.ntmps21
    go_wp2_with fail
    refine (l1Asked_v _ _ _ _ _ _ _ _ _ _ _ HS.out ha ht (hv.alloc _) (hu.alloc _)).mono ?_; rintro e w' ⟨rfl, hb1⟩
    have hx1 := boxc hb1 0 _ rfl
    go_wp2_with fail
    refine (l1Part_c _ _ _ _ _ _ ar t k q _ hg ht hk HE.out hq1 hq2 (hv.below hb1.of_alloc) (hu.below hb1.of_alloc)).mono ?_; rintro e w2 ⟨ad, n, c, rfl, ho, hb2⟩
    go_wp2_with fail
    go_ret2
    exact ⟨_, _, _, rfl, by rw [E.out]; exact ho.mono (by have := hb1.size; simp at this; omega) (Nat.le_refl _), hb1.of_alloc.step hb2⟩

theorem iPartAt_t {l h l' h' : Nat} {v u : Value} {ar t : List Int} {w : World} (ha : ar.length ≤ 1048576) (hv : SlI l h w v ar) (ht : t.length ≤ 1048576) (hu : SlI l' h' w u t) {i : Int} (_ : -9223372036854775808 ≤ i) (_ : i ≤ 9223372036854775807) :
    Calls Try.prog 20 #[.agg #[v], u, .int .i64 i] w (RetIB w (partAns ar t i) (askOk ar t i)) := by
  cases hs : askOk ar t i with
  | false =>
    have E : Hid (partAns ar t i = []) := by show partAns ar t i = []; simp [partAns, hs]
    have HS := Lib.hid hs; clear hs
    go_enter Try.func20, Try.ntmps20
    go_wp2_with fail
    refine (hasIndex_v _ _ _ _ _ _ _ _ _ _ _ HS.out ha ht (hv.alloc _) (hu.alloc _)).mono ?_; rintro e w' ⟨rfl, hb1⟩
    go_wp2_with fail
    go_ret2
    exact ⟨_, _, _, rfl, by rw [E.out]; exact OwnI.nil _ _ _, hb1.of_alloc⟩
  | true =>
    obtain ⟨k, q, rfl, hk, he, hq1, hq2, hlen, hg, hok⟩ := ask_yes hs
    obtain ⟨b, off, cap, rfl, hcap⟩ := hu.plain (by omega)
    have E := Lib.hid (partAns_yes hs he)
    have hpl : (partOf t k q).length ≤ 1048576 := by rw [partOf_len t k q hq2]; omega
    have hq3 : (k : Int) < q := by omega
    have hq4 : (q : Int) ≤ t.length := by omega
    have HS := Lib.hid hs; have HE := Lib.hid he; clear hs he
    go_enter Try.func20, Try.ntmps20
    go_wp2_with fail
    refine (hasIndex_v _ _ _ _ _ _ _ _ _ _ _ HS.out ha ht (hv.alloc _) (hu.alloc _)).mono ?_; rintro e w' ⟨rfl, hb1⟩
    have hx1 := boxc hb1 0 _ rfl
    go_wp2_with fail
    refine (termEnd_v _ _ _ _ _ _ ar t k q _ HE.out hg ht (by omega) (hv.below hb1.of_alloc) (hu.below hb1.of_alloc)).mono ?_; rintro e w2 ⟨rfl, hb2⟩
    go_wp2_with fail
    refine (clone_c _ _ _ (partOf t k q) _ hpl ((hu.below (hb1.of_alloc.step hb2)).cut k q (by omega) hq2)).mono ?_; rintro e w3 ⟨ad, n, c, rfl, ho, hb3⟩
    go_wp2_with fail
    go_ret2
    exact ⟨_, _, _, rfl, by rw [E.out]; exact ho.mono (by have := hb1.size; have := hb2.size; simp at *; omega) (Nat.le_refl _), (hb1.of_alloc.step hb2).step hb3⟩

theorem replaced_len_le (t r : List Int) (i q : Nat) (ht : t.length ≤ 1048576) (hr : r.length ≤ 1048576) : (replaced t i q r).length ≤ 1099511627776 := by
  simp [replaced]; omega

set_option maxHeartbeats 1000000 in
theorem l1Replace_c (l h l' h' l2 h2 : Nat) (v u x : Value) (ar t r : List Int) (i q : Nat) (w : World) (hg : goodSign ar = true) (ht : t.length ≤ 1048576) (hr : r.length ≤ 1048576) (hrp : 0 < r.length) (hi : i < t.length) (he : endOf ar t i = some q) (hq1 : i < q) (hq2 : q ≤ t.length) (hv : SlI l h w v ar) (hu : SlI l' h' w u t) (hx : SlI l2 h2 w x r) :
    Calls Try.prog 94 #[.agg #[v], u, .int .i64 i, x] w (RetI w (replaced t i q r)) := by
  obtain ⟨i0, hi0, hz0, hz1, hz2⟩ := info_parts Try.info3
  obtain ⟨b, off, cap, rfl, hcap⟩ := hu.plain (by omega)
  obtain ⟨xb, xo, xc, rfl, hxc⟩ := hx.plain hrp
  have HE := Lib.hid he
  clear he
  have hpl : (t.take i).length ≤ 1048576 := by simp; omega
  have hcut : Hid (∀ w', Bel w w' → SlI l' h' w' (.slice (some ⟨b, off, none⟩) i cap) (t.take i)) := fun w' hb => by
    have := (hu.below hb).cut 0 i (by omega) (by omega); simpa using this
  have hq3 : (i : Int) < q := by omega
  have hq4 : (q : Int) ≤ t.length := by omega
  have hq5 : (t.length : Int) ≤ cap := by omega
  have hrl : Hid (t.take i ++ r ++ t.drop q = replaced t i q r) := rfl
  have hdl : (t.drop q).length = t.length - q := by simp
  by_cases hqc : q = cap
  · obtain rfl : t.length = q := by omega
    have hd : t.drop t.length = [] := List.drop_length
    have E : Hid (t.take i ++ r = replaced t i t.length r) := by show _ = _; rw [← hrl.out, hd, List.append_nil]
    clear hd hdl hrl
    subst hqc
    go_enter Try.func94, Try.ntmps94
    go_wp2_with fail
    refine (l1Own_r _ _ _ (t.take i) _ hpl (hcut.out _ (Bel.alloc0 _ _))).mono ?_; rintro e w1 ⟨a1, n1, c1, rfl, ho, hb1⟩
    have hx1 := boxc hb1 0 _ rfl
    have hxs := hx.below hb1.of_alloc
    go_wp2_with (at_builtin; refine wpList_append_own _ rfl (.tmp 13) (.tmp 14) 24 rfl _ 3 i0 (.int .i64 0) 1 8 Try.underlying24 hi0 hz0 hz1 hz2 rfl (by decide) _ _ _ rfl ho ⟨xb, xo, none⟩ r.length xc (r.map (Value.int .i64)) rfl (by simp) (news_of_sl hxs) (ones_int _) (by unfold maxLen; omega) (by omega) hb1.size ?_; intro v' w2 hown' hgrow _; have hb2 := hb1.grown hgrow (fun k hk => own_base ho k hk); have hx2 := boxc hb2 0 _ rfl)
    have hown2 : w2.ownsRow (w.alloc (.cells #[v] 26)).heap.size 3 1 v' (t.take i ++ r).length ((t.take i ++ r).map (Value.int .i64)) := by simpa using hown'
    refine (l1End_v _ _ _ _ _ _ ar t i _ _ HE.out hg ht (by omega) (hv.below hb2.of_alloc) (hu.below hb2.of_alloc)).mono ?_; rintro e w3 ⟨rfl, hb3⟩
    have hown3 := ownsRow_bel hown2 hb3
    go_wp2_with (at_builtin; refine wpList_append_own _ rfl (.tmp 16) (.tmp 22) 24 rfl _ 3 i0 (.int .i64 0) 1 8 Try.underlying24 hi0 hz0 hz1 hz2 rfl (by decide) _ _ _ rfl hown3 ⟨b, off, none⟩ 0 0 [] rfl (by simp) (by simp) (by simp) (by simp; unfold maxLen; omega) (by simp; omega) (by have := hb1.size; have := hb2.size; have := hb3.size; omega) ?_; intro v4 w4 hown4 hgrow4 _)
    have hown5 : w4.ownsRow (w.alloc (.cells #[v] 26)).heap.size 3 1 v4 (t.take i ++ r).length ((t.take i ++ r).map (Value.int .i64)) := by simpa using hown4
    have hb4 := (hb2.step hb3).grown hgrow4 (fun k hk => own_base hown3 k hk)
    obtain ⟨g, n, c, hv4⟩ := own_form hown5
    subst hv4
    go_ret
    exact ⟨_, _, _, rfl, by rw [← E.out]; exact (OwnI.of_row hown5).mono (by simp) (Nat.le_refl _), hb4.of_alloc⟩
  · have hq6 : (q : Int) < cap := by omega
    have hcut2 : Hid (∀ w', Bel w w' → SlI l' h' w' (.slice (some ⟨b, off + q, none⟩) (t.length - q) (cap - q)) (t.drop q)) := fun w' hb => by
      have := (hu.below hb).cut q t.length (by omega) (by omega)
      rwa [List.take_of_length_le (by simp)] at this
    clear hqc
    go_enter Try.func94, Try.ntmps94
    go_wp2_with fail
    refine (l1Own_r _ _ _ (t.take i) _ hpl (hcut.out _ (Bel.alloc0 _ _))).mono ?_; rintro e w1 ⟨a1, n1, c1, rfl, ho, hb1⟩
    have hx1 := boxc hb1 0 _ rfl
    have hxs := hx.below hb1.of_alloc
    go_wp2_with (at_builtin; refine wpList_append_own _ rfl (.tmp 13) (.tmp 14) 24 rfl _ 3 i0 (.int .i64 0) 1 8 Try.underlying24 hi0 hz0 hz1 hz2 rfl (by decide) _ _ _ rfl ho ⟨xb, xo, none⟩ r.length xc (r.map (Value.int .i64)) rfl (by simp) (news_of_sl hxs) (ones_int _) (by unfold maxLen; omega) (by omega) hb1.size ?_; intro v' w2 hown' hgrow _; have hb2 := hb1.grown hgrow (fun k hk => own_base ho k hk); have hx2 := boxc hb2 0 _ rfl)
    have hown2 : w2.ownsRow (w.alloc (.cells #[v] 26)).heap.size 3 1 v' (t.take i ++ r).length ((t.take i ++ r).map (Value.int .i64)) := by simpa using hown'
    refine (l1End_v _ _ _ _ _ _ ar t i _ _ HE.out hg ht (by omega) (hv.below hb2.of_alloc) (hu.below hb2.of_alloc)).mono ?_; rintro e w3 ⟨rfl, hb3⟩
    have hown3 := ownsRow_bel hown2 hb3
    have hsl3 := hcut2.out _ (hb2.of_alloc.step hb3)
    go_wp2_with (at_builtin; refine wpList_append_own _ rfl (.tmp 16) (.tmp 22) 24 rfl _ 3 i0 (.int .i64 0) 1 8 Try.underlying24 hi0 hz0 hz1 hz2 rfl (by decide) _ _ _ rfl hown3 ⟨b, off + q, none⟩ (t.length - q) (cap - q) ((t.drop q).map (Value.int .i64)) rfl (by simp) (news_of_sl hsl3) (ones_int _) (by simp; unfold maxLen; omega) (by simp; omega) (by have := hb1.size; have := hb2.size; have := hb3.size; omega) ?_; intro v4 w4 hown4 hgrow4 _)
    have hown5 : w4.ownsRow (w.alloc (.cells #[v] 26)).heap.size 3 1 v4 (replaced t i q r).length ((replaced t i q r).map (Value.int .i64)) := by
      rw [← hrl.out]; simpa [List.length_append, hdl, Nat.add_assoc] using hown4
    have hb4 := (hb2.step hb3).grown hgrow4 (fun k hk => own_base hown3 k hk)
    obtain ⟨g, n, c, hv4⟩ := own_form hown5
    subst hv4
    go_ret
    exact ⟨_, _, _, rfl, (OwnI.of_row hown5).mono (by simp) (Nat.le_refl _), hb4.of_alloc⟩
end Go.Proofs.Ytngdhpelnjckjaa
