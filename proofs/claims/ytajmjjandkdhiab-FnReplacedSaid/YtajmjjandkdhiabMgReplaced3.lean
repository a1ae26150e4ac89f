/- Texts merged, part 3. -/
import Derived.Test.YtajmjjandkdhiabMgReplaced2
section
/- Replacing a subterm in a valid term. No program. -/
namespace Go.Proofs.Ytajmjjandkdhiab

theorem endGo_shift (ar : List Int) : ∀ (r : List Int) (n p d : Nat), endGo ar r n (p + d) = (endGo ar r n p).map (· + d) := by
  intro r
  induction r with
  | nil => intro n p d; cases n <;> simp [endGo]
  | cons x r ih =>
    intro n p d
    cases n with
    | zero => simp [endGo_zero]
    | succ n =>
      rw [endGo_cons, endGo_cons]
      split
      · rw [show p + d + 1 = (p + 1) + d from by omega, ih]
      · rfl

theorem endGo_ext (ar : List Int) : ∀ (r s : List Int) (n p e : Nat), endGo ar r n p = some e → endGo ar (r ++ s) n p = some e := by
  intro r
  induction r with
  | nil =>
    intro s n p e h
    cases n with
    | zero => rw [endGo_zero] at h ⊢; exact h
    | succ n => simp [endGo_nil] at h
  | cons x r ih =>
    intro s n p e h
    cases n with
    | zero => rw [endGo_zero] at h ⊢; exact h
    | succ n =>
      rw [endGo_cons] at h
      rw [List.cons_append, endGo_cons]
      split at h
      · rw [if_pos ‹_›]; exact ih _ _ _ _ h
      · simp at h

/-- What is cut off behind the end does not matter. -/
theorem endGo_cut (ar : List Int) : ∀ (r s : List Int) (n p e : Nat), endGo ar (r ++ s) n p = some e → e ≤ p + r.length → endGo ar r n p = some e := by
  intro r
  induction r with
  | nil =>
    intro s n p e h he
    cases n with
    | zero => rw [endGo_zero] at h ⊢; exact h
    | succ n => have := endGo_gt _ _ _ _ _ h; simp at he; omega
  | cons x r ih =>
    intro s n p e h he
    cases n with
    | zero => rw [endGo_zero] at h ⊢; exact h
    | succ n =>
      rw [List.cons_append, endGo_cons] at h
      rw [endGo_cons]
      split at h
      · rw [if_pos ‹_›]; exact ih s _ _ _ h (by simp at he; omega)
      · simp at h

/-- Behind a head that does not come to the end. -/
theorem endGo_head (ar : List Int) : ∀ (a : List Int) (n p : Nat) (r : List Int) (e : Nat), endGo ar (a ++ r) n p = some e → p + a.length < e → ∃ m, ∀ s, endGo ar (a ++ s) n p = endGo ar s (m + 1) (p + a.length) := by
  intro a
  induction a with
  | nil =>
    intro n p r e h he
    cases n with
    | zero => rw [endGo_zero] at h; simp at h he; omega
    | succ n => exact ⟨n, fun s => by simp⟩
  | cons x a ih =>
    intro n p r e h he
    cases n with
    | zero => rw [endGo_zero] at h; simp at h he; omega
    | succ n =>
      rw [List.cons_append, endGo_cons] at h
      split at h
      · rename_i hx
        obtain ⟨m, hm⟩ := ih _ _ _ _ h (by simp at he; omega)
        exact ⟨m, fun s => by rw [List.cons_append, endGo_cons, if_pos hx, hm, List.length_cons]; congr 1; omega⟩
      · simp at h

/-- The term with the subterm at i, which ends at e, replaced by u. -/
def replaced (t : List Int) (i e : Nat) (u : List Int) : List Int := t.take i ++ u ++ t.drop e
theorem replaced_len (t u : List Int) (i e : Nat) (h1 : i ≤ e) (h2 : e ≤ t.length) : (replaced t i e u).length = i + u.length + (t.length - e) := by
  simp [replaced]; omega

theorem replaced_end (ar t u : List Int) (i e : Nat) (ht : okTerm ar t = true) (hu : okTerm ar u = true) (hi : i < t.length) (he : endOf ar t i = some e) :
    endOf ar (replaced t i e u) 0 = some (replaced t i e u).length := by
  obtain ⟨_, _, h3⟩ := (okTerm_iff ar t).1 ht
  obtain ⟨hu1, _, h4⟩ := (okTerm_iff ar u).1 hu
  unfold endOf at h3 h4 he ⊢
  rw [List.drop_zero] at h3 h4 ⊢
  have hge := endGo_ge _ _ _ _ _ he
  have hgt := endGo_gt _ _ _ _ _ he
  simp at hge
  have hcut : t = t.take i ++ t.drop i := (List.take_append_drop i t).symm
  rw [hcut] at h3
  have hl : (t.take i).length = i := by simp; omega
  obtain ⟨m, hm⟩ := endGo_head ar (t.take i) 1 0 (t.drop i) _ h3 (by rw [hl]; simp; omega)
  rw [hm, hl, Nat.zero_add, show m + 1 = 1 + m from by omega, endGo_add, he] at h3
  simp only [Option.bind_some, List.drop_drop, show i + (e - i) = e from by omega] at h3
  unfold replaced
  rw [List.append_assoc, hm, hl, Nat.zero_add, show m + 1 = 1 + m from by omega, endGo_add]
  have h5 : endGo ar (u ++ t.drop e) 1 i = some (u.length + i) := by
    have := endGo_shift ar (u ++ t.drop e) 1 0 i
    rw [Nat.zero_add] at this
    rw [this, endGo_ext ar u _ _ _ _ h4]; rfl
  rw [h5]
  simp only [Option.bind_some, show u.length + i - i = u.length from by omega, List.drop_left']
  have h6 := endGo_shift ar (t.drop e) m 0 e
  rw [Nat.zero_add, h3] at h6
  have h7 := endGo_shift ar (t.drop e) m 0 (u.length + i)
  rw [Nat.zero_add] at h7
  rw [h7]
  cases h8 : endGo ar (t.drop e) m 0 with
  | none => rw [h8] at h6; simp at h6
  | some z =>
    rw [h8] at h6
    simp only [Option.map_some, Option.some.injEq] at h6 ⊢
    simp at h6 ⊢
    omega

theorem replaced_ok (ar t u : List Int) (i e : Nat) (ht : okTerm ar t = true) (hu : okTerm ar u = true) (hi : i < t.length) (he : endOf ar t i = some e) :
    okTerm ar (replaced t i e u) = decide ((replaced t i e u).length ≤ 40) := by
  have h1 := replaced_end ar t u i e ht hu hi he
  have h2 := ((okTerm_iff ar u).1 hu).1
  have hge := endGo_ge _ _ _ _ _ he
  simp at hge
  have h3 := replaced_len t u i e (by omega) (by omega)
  rw [Bool.eq_iff_iff, okTerm_iff, decide_eq_true_eq]
  constructor
  · exact fun h => h.2.1
  · exact fun h => ⟨by omega, h, h1⟩

/-- A subterm is a term. -/
def partOf (t : List Int) (i e : Nat) : List Int := (t.drop i).take (e - i)
theorem partOf_len (t : List Int) (i e : Nat) (h : e ≤ t.length) : (partOf t i e).length = e - i := by simp [partOf]; omega
theorem partOf_ok (ar t : List Int) (i e : Nat) (ht : okTerm ar t = true) (hi : i < t.length) (he : endOf ar t i = some e) : okTerm ar (partOf t i e) = true := by
  have h1 := ((okTerm_iff ar t).1 ht).2.1
  have hge := endGo_ge _ _ _ _ _ he
  have hgt := endGo_gt _ _ _ _ _ he
  simp at hge
  have hl := partOf_len t i e (by omega)
  rw [okTerm_iff]
  refine ⟨by omega, by omega, ?_⟩
  unfold endOf at he ⊢
  rw [List.drop_zero, hl]
  have h2 : t.drop i = partOf t i e ++ (t.drop i).drop (e - i) := by unfold partOf; rw [List.take_append_drop]
  rw [h2] at he
  have h3 := endGo_cut ar _ _ _ _ _ he (by omega)
  have h4 := endGo_shift ar (partOf t i e) 1 0 i
  rw [Nat.zero_add, h3] at h4
  cases h5 : endGo ar (partOf t i e) 1 0 with
  | none => rw [h5] at h4; simp at h4
  | some z => rw [h5] at h4; simp at h4 ⊢; omega
theorem replaced_self (t : List Int) (i e : Nat) (h1 : i ≤ e) : replaced t i e (partOf t i e) = t := by
  unfold replaced partOf
  rw [List.append_assoc]
  have : List.take (e - i) (List.drop i t) ++ List.drop e t = List.drop i t := by
    have h := List.take_append_drop (e - i) (List.drop i t)
    rw [List.drop_drop, show i + (e - i) = e from by omega] at h
    exact h
  rw [this, List.take_append_drop]
end Go.Proofs.Ytajmjjandkdhiab
end
section
/- PartAt, ReplaceAt: both functions. -/
namespace Go.Proofs.Ytajmjjandkdhiab
open Go.RowKit

theorem l1End_v (l h l' h' : Nat) (v u : Value) (ar t : List Int) (i q : Nat) (w : World) (he : endOf ar t i = some q) (hg : goodSign ar = true) (ht : t.length ≤ 1048576) (hi : i ≤ t.length) (hv : SlI l h w v ar) (hu : SlI l' h' w u t) :
    Calls Try.prog 52 #[.agg #[v], u, .int .i64 i] w (RetV w (.int .i64 q)) := endI_some he ▸ l1End_c l h l' h' v u ar t i w hg ht hi hv hu
theorem termEnd_v (l h l' h' : Nat) (v u : Value) (ar t : List Int) (i q : Nat) (w : World) (he : endOf ar t i = some q) (hg : goodSign ar = true) (ht : t.length ≤ 1048576) (hi : i ≤ t.length) (hv : SlI l h w v ar) (hu : SlI l' h' w u t) :
    Calls Try.prog 45 #[.agg #[v], u, .int .i64 i] w (RetV w (.tuple #[.int .i64 q, .bool true])) := endP_some he ▸ termEnd_c l h l' h' v u ar t i w hg ht hi hv hu

theorem l1Part_c (l h l' h' : Nat) (v u : Value) (ar t : List Int) (i q : Nat) (w : World) (hg : goodSign ar = true) (ht : t.length ≤ 1048576) (hi : i < t.length) (he : endOf ar t i = some q) (hq1 : i < q) (hq2 : q ≤ t.length) (hv : SlI l h w v ar) (hu : SlI l' h' w u t) :
    Calls Try.prog 51 #[.agg #[v], u, .int .i64 i] w (RetI w (partOf t i q)) := by
  obtain ⟨b, off, cap, rfl, hcap⟩ := hu.plain (by omega)
  have HE := Lib.hid he
  clear he
  have hpl : (partOf t i q).length ≤ 1048576 := by rw [partOf_len t i q hq2]; omega
  have hq3 : (i : Int) < q := by omega
  have hq4 : (q : Int) ≤ t.length := by omega
  go_enter Try.func51, Try.ntmps51
  go_wp2_with fail
  refine (l1End_v _ _ _ _ _ _ ar t i q _ HE.out hg ht (by omega) (hv.alloc _) (hu.alloc _)).mono ?_; rintro e w1 ⟨rfl, hb1⟩
  go_wp2_with fail
  refine (l1Own_c _ _ _ (partOf t i q) _ hpl ((hu.below hb1.of_alloc).cut i q (by omega) hq2)).mono ?_; rintro e w2 ⟨ad, n, c, rfl, ho, hb2⟩
  go_wp2_with fail
  go_ret
  exact ⟨_, _, _, rfl, ho.mono (by have := hb1.size; simp at this; omega) (Nat.le_refl _), hb1.of_alloc.step hb2⟩

/-- What PartAt answers. -/
def partAns (ar t : List Int) (i : Int) : List Int := if askOk ar t i then partOf t i.toNat ((endOf ar t i.toNat).getD 0) else []
theorem partAns_yes {ar t : List Int} {k q : Nat} (h : askOk ar t k = true) (he : endOf ar t k = some q) : partAns ar t k = partOf t k q := by simp [partAns, h, he]
theorem partAns_len (ar t : List Int) (i : Int) : (partAns ar t i).length ≤ 1048576 := by
  unfold partAns
  split
  · rename_i h
    obtain ⟨k, e, rfl, hk, he, _, hle, hl, _, _⟩ := ask_yes h
    simp only [Int.toNat_natCast, he, Option.getD_some]
    rw [partOf_len t k e hle]
    omega
  · exact Nat.zero_le _

theorem sPartAt_t {l h l' h' : Nat} {v u : Value} {ar t : List Int} {w : World} (ha : ar.length ≤ 1048576) (hv : SlI l h w v ar) (ht : t.length ≤ 1048576) (hu : SlI l' h' w u t) {i : Int} (_ : -9223372036854775808 ≤ i) (_ : i ≤ 9223372036854775807) :
    Calls Try.prog 20 #[.agg #[v], u, .int .i64 i] w (RetIB w (partAns ar t i) (askOk ar t i)) := by
  cases hs : askOk ar t i with
  | false =>
    have E : Hid (partAns ar t i = []) := by show partAns ar t i = []; simp [partAns, hs]
    have HS := Lib.hid hs; clear hs
    go_enter Try.func20, Try.ntmps20
    go_wp2_with fail
    refine (l1Asked_v _ _ _ _ _ _ _ _ _ _ _ HS.out ha ht (hv.alloc _) (hu.alloc _)).mono ?_; rintro e w' ⟨rfl, hb1⟩
    go_wp2_with fail
    go_ret2
    exact ⟨_, _, _, rfl, by rw [E.out]; exact OwnI.nil _ _ _, hb1.of_alloc⟩
  | true =>
    obtain ⟨k, q, rfl, hk, he, hq1, hq2, hlen, hg, hok⟩ := ask_yes hs
    have E := Lib.hid (partAns_yes hs he)
    have HS := Lib.hid hs; have HE := Lib.hid he; clear hs he
    go_enter Try.func20, Try.ntmps20
    go_wp2_with fail
    refine (l1Asked_v _ _ _ _ _ _ _ _ _ _ _ HS.out ha ht (hv.alloc _) (hu.alloc _)).mono ?_; rintro e w' ⟨rfl, hb1⟩
    have hx1 := boxc hb1 0 _ rfl
    go_wp2_with fail
    refine (l1Part_c _ _ _ _ _ _ ar t k q _ hg ht hk HE.out hq1 hq2 (hv.below hb1.of_alloc) (hu.below hb1.of_alloc)).mono ?_; rintro e w2 ⟨ad, n, c, rfl, ho, hb2⟩
    go_wp2_with fail
    go_ret2
    exact ⟨_, _, _, rfl, by rw [E.out]; exact ho.mono (by have := hb1.size; simp at this; omega) (Nat.le_refl _), hb1.of_alloc.step hb2⟩

theorem iPartAt_t {l h l' h' : Nat} {v u : Value} {ar t : List Int} {w : World} (ha : ar.length ≤ 1048576) (hv : SlI l h w v ar) (ht : t.length ≤ 1048576) (hu : SlI l' h' w u t) {i : Int} (_ : -9223372036854775808 ≤ i) (_ : i ≤ 9223372036854775807) :
    Calls Try.prog 19 #[.agg #[v], u, .int .i64 i] w (RetIB w (partAns ar t i) (askOk ar t i)) := by
  cases hs : askOk ar t i with
  | false =>
    have E : Hid (partAns ar t i = []) := by show partAns ar t i = []; simp [partAns, hs]
    have HS := Lib.hid hs; clear hs
    go_enter Try.func19, Try.ntmps19
    go_wp2_with fail
    refine (hasIndex_v _ _ _ _ _ _ _ _ _ _ _ HS.out ha ht (hv.alloc _) (hu.alloc _)).mono ?_; rintro e w' ⟨rfl, hb1⟩
    go_wp2_with fail
    go_ret2
    exact ⟨_, _, _, rfl, by rw [E.out]; exact OwnI.nil _ _ _, hb1.of_alloc⟩
  | true =>
    obtain ⟨k, q, rfl, hk, he, hq1, hq2, hlen, hg, hok⟩ := ask_yes hs
    obtain ⟨b, off, cap, rfl, hcap⟩ := hu.plain (by omega)
    have E := Lib.hid (partAns_yes hs he)
    have hpl : (partOf t k q).length ≤ 1048576 := by rw [partOf_len t k q hq2]; omega
    have hq3 : (k : Int) < q := by omega
    have hq4 : (q : Int) ≤ t.length := by omega
    have HS := Lib.hid hs; have HE := Lib.hid he; clear hs he
    go_enter Try.func19, Try.ntmps19
    go_wp2_with fail
    refine (hasIndex_v _ _ _ _ _ _ _ _ _ _ _ HS.out ha ht (hv.alloc _) (hu.alloc _)).mono ?_; rintro e w' ⟨rfl, hb1⟩
    have hx1 := boxc hb1 0 _ rfl
    go_wp2_with fail
    refine (termEnd_v _ _ _ _ _ _ ar t k q _ HE.out hg ht (by omega) (hv.below hb1.of_alloc) (hu.below hb1.of_alloc)).mono ?_; rintro e w2 ⟨rfl, hb2⟩
    go_wp2_with fail
    refine (clone_c _ _ _ (partOf t k q) _ hpl ((hu.below (hb1.of_alloc.step hb2)).cut k q (by omega) hq2)).mono ?_; rintro e w3 ⟨ad, n, c, rfl, ho, hb3⟩
    go_wp2_with fail
    go_ret2
    exact ⟨_, _, _, rfl, by rw [E.out]; exact ho.mono (by have := hb1.size; have := hb2.size; simp at *; omega) (Nat.le_refl _), (hb1.of_alloc.step hb2).step hb3⟩

theorem replaced_len_le (t r : List Int) (i q : Nat) (ht : t.length ≤ 1048576) (hr : r.length ≤ 1048576) : (replaced t i q r).length ≤ 1099511627776 := by
  simp [replaced]; omega

set_option maxHeartbeats 1000000 in
theorem l1Replace_c (l h l' h' l2 h2 : Nat) (v u x : Value) (ar t r : List Int) (i q : Nat) (w : World) (hg : goodSign ar = true) (ht : t.length ≤ 1048576) (hr : r.length ≤ 1048576) (hrp : 0 < r.length) (hi : i < t.length) (he : endOf ar t i = some q) (hq1 : i < q) (hq2 : q ≤ t.length) (hv : SlI l h w v ar) (hu : SlI l' h' w u t) (hx : SlI l2 h2 w x r) :
    Calls Try.prog 49 #[.agg #[v], u, .int .i64 i, x] w (RetI w (replaced t i q r)) := by
  obtain ⟨i0, hi0, hz0, hz1, hz2⟩ := info_parts Try.info3
  obtain ⟨b, off, cap, rfl, hcap⟩ := hu.plain (by omega)
  obtain ⟨xb, xo, xc, rfl, hxc⟩ := hx.plain hrp
  have HE := Lib.hid he
  clear he
  have hpl : (t.take i).length ≤ 1048576 := by simp; omega
  have hcut : Hid (∀ w', Bel w w' → SlI l' h' w' (.slice (some ⟨b, off, none⟩) i cap) (t.take i)) := fun w' hb => by
    have := (hu.below hb).cut 0 i (by omega) (by omega); simpa using this
  have hq3 : (i : Int) < q := by omega
  have hq4 : (q : Int) ≤ t.length := by omega
  have hq5 : (t.length : Int) ≤ cap := by omega
  have hrl : Hid (t.take i ++ r ++ t.drop q = replaced t i q r) := rfl
  have hdl : (t.drop q).length = t.length - q := by simp
  by_cases hqc : q = cap
  · obtain rfl : t.length = q := by omega
    have hd : t.drop t.length = [] := List.drop_length
    have E : Hid (t.take i ++ r = replaced t i t.length r) := by show _ = _; rw [← hrl.out, hd, List.append_nil]
    clear hd hdl hrl
    subst hqc
    go_enter Try.func49, Try.ntmps49
    go_wp2_with fail
    refine (l1Own_r _ _ _ (t.take i) _ hpl (hcut.out _ (Bel.alloc0 _ _))).mono ?_; rintro e w1 ⟨a1, n1, c1, rfl, ho, hb1⟩
    have hx1 := boxc hb1 0 _ rfl
    have hxs := hx.below hb1.of_alloc
    go_wp2_with (at_builtin; refine wpList_append_own _ rfl (.tmp 13) (.tmp 14) 22 rfl _ 3 i0 (.int .i64 0) 1 8 Try.underlying22 hi0 hz0 hz1 hz2 rfl (by decide) _ _ _ rfl ho ⟨xb, xo, none⟩ r.length xc (r.map (Value.int .i64)) rfl (by simp) (news_of_sl hxs) (ones_int _) (by unfold maxLen; omega) (by omega) hb1.size ?_; intro v' w2 hown' hgrow _; have hb2 := hb1.grown hgrow (fun k hk => own_base ho k hk); have hx2 := boxc hb2 0 _ rfl)
    have hown2 : w2.ownsRow (w.alloc (.cells #[v] 28)).heap.size 3 1 v' (t.take i ++ r).length ((t.take i ++ r).map (Value.int .i64)) := by simpa using hown'
    refine (l1End_v _ _ _ _ _ _ ar t i _ _ HE.out hg ht (by omega) (hv.below hb2.of_alloc) (hu.below hb2.of_alloc)).mono ?_; rintro e w3 ⟨rfl, hb3⟩
    have hown3 := ownsRow_bel hown2 hb3
    go_wp2_with (at_builtin; refine wpList_append_own _ rfl (.tmp 16) (.tmp 22) 22 rfl _ 3 i0 (.int .i64 0) 1 8 Try.underlying22 hi0 hz0 hz1 hz2 rfl (by decide) _ _ _ rfl hown3 ⟨b, off, none⟩ 0 0 [] rfl (by simp) (by simp) (by simp) (by simp; unfold maxLen; omega) (by simp; omega) (by have := hb1.size; have := hb2.size; have := hb3.size; omega) ?_; intro v4 w4 hown4 hgrow4 _)
    have hown5 : w4.ownsRow (w.alloc (.cells #[v] 28)).heap.size 3 1 v4 (t.take i ++ r).length ((t.take i ++ r).map (Value.int .i64)) := by simpa using hown4
    have hb4 := (hb2.step hb3).grown hgrow4 (fun k hk => own_base hown3 k hk)
    obtain ⟨g, n, c, hv4⟩ := own_form hown5
    subst hv4
    go_ret
    exact ⟨_, _, _, rfl, by rw [← E.out]; exact (OwnI.of_row hown5).mono (by simp) (Nat.le_refl _), hb4.of_alloc⟩
  · have hq6 : (q : Int) < cap := by omega
    have hcut2 : Hid (∀ w', Bel w w' → SlI l' h' w' (.slice (some ⟨b, off + q, none⟩) (t.length - q) (cap - q)) (t.drop q)) := fun w' hb => by
      have := (hu.below hb).cut q t.length (by omega) (by omega)
      rwa [List.take_of_length_le (by simp)] at this
    clear hqc
    go_enter Try.func49, Try.ntmps49
    go_wp2_with fail
    refine (l1Own_r _ _ _ (t.take i) _ hpl (hcut.out _ (Bel.alloc0 _ _))).mono ?_; rintro e w1 ⟨a1, n1, c1, rfl, ho, hb1⟩
    have hx1 := boxc hb1 0 _ rfl
    have hxs := hx.below hb1.of_alloc
    go_wp2_with (at_builtin; refine wpList_append_own _ rfl (.tmp 13) (.tmp 14) 22 rfl _ 3 i0 (.int .i64 0) 1 8 Try.underlying22 hi0 hz0 hz1 hz2 rfl (by decide) _ _ _ rfl ho ⟨xb, xo, none⟩ r.length xc (r.map (Value.int .i64)) rfl (by simp) (news_of_sl hxs) (ones_int _) (by unfold maxLen; omega) (by omega) hb1.size ?_; intro v' w2 hown' hgrow _; have hb2 := hb1.grown hgrow (fun k hk => own_base ho k hk); have hx2 := boxc hb2 0 _ rfl)
    have hown2 : w2.ownsRow (w.alloc (.cells #[v] 28)).heap.size 3 1 v' (t.take i ++ r).length ((t.take i ++ r).map (Value.int .i64)) := by simpa using hown'
    refine (l1End_v _ _ _ _ _ _ ar t i _ _ HE.out hg ht (by omega) (hv.below hb2.of_alloc) (hu.below hb2.of_alloc)).mono ?_; rintro e w3 ⟨rfl, hb3⟩
    have hown3 := ownsRow_bel hown2 hb3
    have hsl3 := hcut2.out _ (hb2.of_alloc.step hb3)
    go_wp2_with (at_builtin; refine wpList_append_own _ rfl (.tmp 16) (.tmp 22) 22 rfl _ 3 i0 (.int .i64 0) 1 8 Try.underlying22 hi0 hz0 hz1 hz2 rfl (by decide) _ _ _ rfl hown3 ⟨b, off + q, none⟩ (t.length - q) (cap - q) ((t.drop q).map (Value.int .i64)) rfl (by simp) (news_of_sl hsl3) (ones_int _) (by simp; unfold maxLen; omega) (by simp; omega) (by have := hb1.size; have := hb2.size; have := hb3.size; omega) ?_; intro v4 w4 hown4 hgrow4 _)
    have hown5 : w4.ownsRow (w.alloc (.cells #[v] 28)).heap.size 3 1 v4 (replaced t i q r).length ((replaced t i q r).map (Value.int .i64)) := by
      rw [← hrl.out]; simpa [List.length_append, hdl, Nat.add_assoc] using hown4
    have hb4 := (hb2.step hb3).grown hgrow4 (fun k hk => own_base hown3 k hk)
    obtain ⟨g, n, c, hv4⟩ := own_form hown5
    subst hv4
    go_ret
    exact ⟨_, _, _, rfl, (OwnI.of_row hown5).mono (by simp) (Nat.le_refl _), hb4.of_alloc⟩
end Go.Proofs.Ytajmjjandkdhiab
end
section
/- ReplaceAt: both functions. -/
namespace Go.Proofs.Ytajmjjandkdhiab
open Go.RowKit

def replIn (ar t : List Int) (i : Int) (u : List Int) : List Int := replaced t i.toNat ((endOf ar t i.toNat).getD 0) u
def replOk (ar t : List Int) (i : Int) (u : List Int) : Bool := askOk ar t i && okTerm ar u && okTerm ar (replIn ar t i u)
def replAns (ar t : List Int) (i : Int) (u : List Int) : List Int := if replOk ar t i u then replIn ar t i u else []
theorem replAns_len (ar t : List Int) (i : Int) (u : List Int) : (replAns ar t i u).length ≤ 1048576 := by
  unfold replAns
  split
  · rename_i h
    simp only [replOk, Bool.and_eq_true] at h
    have := ((okTerm_iff _ _).1 h.2).2.1
    omega
  · exact Nat.zero_le _
theorem replIn_eq {ar t u : List Int} {k q : Nat} (he : endOf ar t k = some q) : replIn ar t k u = replaced t k q u := by simp [replIn, he]
theorem repl_no {ar t u : List Int} {i : Int} (h : replOk ar t i u = false) : replAns ar t i u = [] := by simp [replAns, h]
theorem repl_yes {ar t u : List Int} {i : Int} (h : replOk ar t i u = true) : replAns ar t i u = replIn ar t i u := by simp [replAns, h]

theorem sReplaceAt_t {l h l' h' l2 h2 : Nat} {v u x : Value} {ar t r : List Int} {w : World} (ha : ar.length ≤ 1048576) (hv : SlI l h w v ar) (ht : t.length ≤ 1048576) (hu : SlI l' h' w u t) {i : Int} (_ : -9223372036854775808 ≤ i) (_ : i ≤ 9223372036854775807) (hr : r.length ≤ 1048576) (hx : SlI l2 h2 w x r) :
    Calls Try.prog 18 #[.agg #[v], u, .int .i64 i, x] w (RetIB w (replAns ar t i r) (replOk ar t i r)) := by
  cases hs : askOk ar t i with
  | false =>
    have h0 : replOk ar t i r = false := by simp [replOk, hs]
    have E := Lib.hid (repl_no h0)
    have E2 := Lib.hid h0
    have HS := Lib.hid hs; clear hs h0
    go_enter Try.func18, Try.ntmps18
    go_wp2_with fail
    refine (l1Asked_v _ _ _ _ _ _ _ _ _ _ _ HS.out ha ht (hv.alloc _) (hu.alloc _)).mono ?_; rintro e w' ⟨rfl, hb1⟩
    go_wp2_with fail
    go_ret2
    exact ⟨_, _, _, by rw [E2.out]; rfl, by rw [E.out]; exact OwnI.nil _ _ _, hb1.of_alloc⟩
  | true =>
    obtain ⟨k, q, rfl, hk, he, hq1, hq2, hlen, hg, hok⟩ := ask_yes hs
    have HS := Lib.hid hs
    cases hur : okTerm ar r with
    | false =>
      have h0 : replOk ar t k r = false := by simp [replOk, hur]
      have E := Lib.hid (repl_no h0)
      have E2 := Lib.hid h0
      have HU := Lib.hid hur; clear hur h0 hs he
      go_enter Try.func18, Try.ntmps18
      go_wp2_with fail
      refine (l1Asked_v _ _ _ _ _ _ _ _ _ _ _ HS.out ha ht (hv.alloc _) (hu.alloc _)).mono ?_; rintro e w' ⟨rfl, hb1⟩
      have hx1 := boxc hb1 0 _ rfl
      go_wp2_with fail
      refine (l1Term_v _ _ _ _ _ _ _ _ _ _ HU.out hg hr (hv.below hb1.of_alloc) (hx.below hb1.of_alloc)).mono ?_; rintro e w2 ⟨rfl, hb2⟩
      go_wp2_with fail
      go_ret2
      exact ⟨_, _, _, by rw [E2.out]; rfl, by rw [E.out]; exact OwnI.nil _ _ _, hb1.of_alloc.step hb2⟩
    | true =>
      have hrp := ((okTerm_iff ar r).1 hur).1
      have hor := replaced_ok ar t r k q hok hur hk he
      have hle := replaced_len_le t r k q ht hr
      have hlq := replaced_len t r k q (by omega) hq2
      have hrl : (replaced t k q r).length ≤ 1048576 := by have := ((okTerm_iff ar r).1 hur).2.1; omega
      have hi2 := replIn_eq (u := r) he
      have HU := Lib.hid hur; have HE := Lib.hid he
      cases ho : okTerm ar (replaced t k q r) with
      | false =>
        have h0 : replOk ar t k r = false := by simp [replOk, hi2, ho]
        have E := Lib.hid (repl_no h0)
        have E2 := Lib.hid h0
        have HO := Lib.hid ho; clear ho h0 hs he hi2 hor hur hlq
        go_enter Try.func18, Try.ntmps18
        go_wp2_with fail
        refine (l1Asked_v _ _ _ _ _ _ _ _ _ _ _ HS.out ha ht (hv.alloc _) (hu.alloc _)).mono ?_; rintro e w' ⟨rfl, hb1⟩
        have hx1 := boxc hb1 0 _ rfl
        go_wp2_with fail
        refine (l1Term_v _ _ _ _ _ _ _ _ _ _ HU.out hg hr (hv.below hb1.of_alloc) (hx.below hb1.of_alloc)).mono ?_; rintro e w2 ⟨rfl, hb2⟩
        have hx2 := boxc (hb1.step hb2) 0 _ rfl
        have hb12 := hb1.of_alloc.step hb2
        go_wp2_with fail
        refine (l1Replace_c _ _ _ _ _ _ _ _ _ ar t r k q _ hg ht hr hrp hk HE.out hq1 hq2 (hv.below hb12) (hu.below hb12) (hx.below hb12)).mono ?_; rintro e w3 ⟨ad, n, c, rfl, how, hb3⟩
        have hx3 := boxc ((hb1.step hb2).step hb3) 0 _ rfl
        go_wp2_with fail
        refine (l1Term_v _ _ _ _ _ _ ar (replaced t k q r) _ _ HO.out hg hrl (hv.below (hb12.step hb3)) how.sl).mono ?_; rintro e w4 ⟨rfl, hb4⟩
        go_wp2_with fail
        go_ret2
        exact ⟨_, _, _, by rw [E2.out]; rfl, by rw [E.out]; exact OwnI.nil _ _ _, (hb12.step hb3).step hb4⟩
      | true =>
        have h0 : replOk ar t k r = true := by simp [replOk, hi2, ho, hs, hur]
        have E := Lib.hid (show replAns ar t k r = replaced t k q r by rw [repl_yes h0, hi2])
        have E2 := Lib.hid h0
        have HO := Lib.hid ho; clear ho h0 hs he hi2 hor hur hlq
        go_enter Try.func18, Try.ntmps18
        go_wp2_with fail
        refine (l1Asked_v _ _ _ _ _ _ _ _ _ _ _ HS.out ha ht (hv.alloc _) (hu.alloc _)).mono ?_; rintro e w' ⟨rfl, hb1⟩
        have hx1 := boxc hb1 0 _ rfl
        go_wp2_with fail
        refine (l1Term_v _ _ _ _ _ _ _ _ _ _ HU.out hg hr (hv.below hb1.of_alloc) (hx.below hb1.of_alloc)).mono ?_; rintro e w2 ⟨rfl, hb2⟩
        have hx2 := boxc (hb1.step hb2) 0 _ rfl
        have hb12 := hb1.of_alloc.step hb2
        go_wp2_with fail
        refine (l1Replace_c _ _ _ _ _ _ _ _ _ ar t r k q _ hg ht hr hrp hk HE.out hq1 hq2 (hv.below hb12) (hu.below hb12) (hx.below hb12)).mono ?_; rintro e w3 ⟨ad, n, c, rfl, how, hb3⟩
        have hx3 := boxc ((hb1.step hb2).step hb3) 0 _ rfl
        go_wp2_with fail
        refine (l1Term_v _ _ _ _ _ _ ar (replaced t k q r) _ _ HO.out hg hrl (hv.below (hb12.step hb3)) how.sl).mono ?_; rintro e w4 ⟨rfl, hb4⟩
        go_wp2_with fail
        go_ret2
        exact ⟨_, _, _, by rw [E2.out]; rfl, by rw [E.out]; exact (how.mono (by have := hb12.size; omega) hb4.size).below hb4, (hb12.step hb3).step hb4⟩

set_option maxRecDepth 100000 in
set_option maxHeartbeats 2000000 in
theorem iReplaceAt_t {l h l' h' l2 h2 : Nat} {v u x : Value} {ar t r : List Int} {w : World} (ha : ar.length ≤ 1048576) (hv : SlI l h w v ar) (ht : t.length ≤ 1048576) (hu : SlI l' h' w u t) {i : Int} (_ : -9223372036854775808 ≤ i) (_ : i ≤ 9223372036854775807) (hr : r.length ≤ 1048576) (hx : SlI l2 h2 w x r) :
    Calls Try.prog 17 #[.agg #[v], u, .int .i64 i, x] w (RetIB w (replAns ar t i r) (replOk ar t i r)) := by
  cases hs : askOk ar t i with
  | false =>
    have h0 : replOk ar t i r = false := by simp [replOk, hs]
    have E := Lib.hid (repl_no h0)
    have E2 := Lib.hid h0
    have HS := Lib.hid hs; clear hs h0
    go_enter Try.func17, Try.ntmps17
    go_wp2_with fail
    refine (hasIndex_v _ _ _ _ _ _ _ _ _ _ _ HS.out ha ht (hv.alloc _) (hu.alloc _)).mono ?_; rintro e w' ⟨rfl, hb1⟩
    go_wp2_with fail
    go_ret2
    exact ⟨_, _, _, by rw [E2.out]; rfl, by rw [E.out]; exact OwnI.nil _ _ _, hb1.of_alloc⟩
  | true =>
    obtain ⟨k, q, rfl, hk, he, hq1, hq2, hlen, hg, hok⟩ := ask_yes hs
    have HS := Lib.hid hs
    cases hur : okTerm ar r with
    | false =>
      have h0 : replOk ar t k r = false := by simp [replOk, hur]
      have E := Lib.hid (repl_no h0)
      have E2 := Lib.hid h0
      have HU := Lib.hid (show goodTerm ar r = false by simp [goodTerm, hur]); clear hur h0 hs he
      go_enter Try.func17, Try.ntmps17
      go_wp2_with fail
      refine (hasIndex_v _ _ _ _ _ _ _ _ _ _ _ HS.out ha ht (hv.alloc _) (hu.alloc _)).mono ?_; rintro e w' ⟨rfl, hb1⟩
      have hx1 := boxc hb1 0 _ rfl
      go_wp2_with fail
      refine (iGoodTerm_v _ _ _ _ _ _ _ _ _ _ HU.out ha hr (hv.below hb1.of_alloc) (hx.below hb1.of_alloc)).mono ?_; rintro e w2 ⟨rfl, hb2⟩
      go_wp2_with fail
      go_ret2
      exact ⟨_, _, _, by rw [E2.out]; rfl, by rw [E.out]; exact OwnI.nil _ _ _, hb1.of_alloc.step hb2⟩
    | true =>
      have hrp := ((okTerm_iff ar r).1 hur).1
      have hor := replaced_ok ar t r k q hok hur hk he
      have hlq := replaced_len t r k q (by omega) hq2
      have hi2 := replIn_eq (u := r) he
      have hr40 := ((okTerm_iff ar r).1 hur).2.1
      have HU := Lib.hid (show goodTerm ar r = true by simp [goodTerm, hur, hg]); have HE := Lib.hid he
      have h0 : replOk ar t k r = decide ((replaced t k q r).length ≤ 40) := by simp only [replOk, hi2, hor, hs, hur, Bool.true_and]
      have E := Lib.hid (show (replaced t k q r).length ≤ 40 → replAns ar t k r = replaced t k q r from fun h => by rw [repl_yes (by rw [h0]; simpa using h), hi2])
      have E3 := Lib.hid (show ¬ (replaced t k q r).length ≤ 40 → replAns ar t k r = [] from fun h => repl_no (by rw [h0]; simpa using h))
      have E2 := Lib.hid h0
      clear h0 hs he hi2 hor hur
      obtain ⟨b, off, cap, rfl, hcap⟩ := hu.plain (by omega)
      obtain ⟨xb, xo, xc, rfl, hxc⟩ := hx.plain hrp
      have hcut : Hid (∀ w', Bel w w' → SlI l' h' w' (.slice (some ⟨b, off, none⟩) k cap) (t.take k)) := fun w' hb => by
        have := (hu.below hb).cut 0 k (by omega) (by omega); simpa using this
      have hq3 : (k : Int) < q := by omega
      have hq4 : (q : Int) ≤ t.length := by omega
      have hq5 : (t.length : Int) ≤ cap := by omega
      have hk0 : (0 : Int) ≤ k := by omega
      have hk5 : (k : Int) ≤ cap := by omega
      have hq7 : (q : Int) ≤ cap := by omega
      have hdl : (t.drop q).length = t.length - q := by simp
      have htl : (t.take k).length = k := by simp; omega
      have hfl : Hid (t.take k ++ r ++ t.drop q = replaced t k q r) := rfl
      have hsum : (t.take k).length + r.length + (t.drop q).length ≤ 1099511627776 := by omega
      have hsl : Hid (∀ w', Bel w w' → SlI 0 w'.heap.size w' (.slice (some ⟨b, off, none⟩) k cap) (t.take k)) := fun w' hb => (hcut.out w' hb).in'
      have hsl3 : Hid (∀ w', Bel w w' → SlI 0 w'.heap.size w' (.slice (some ⟨xb, xo, none⟩) r.length xc) r) := fun w' hb => (hx.below hb).in'
      clear hcut
      have hsl2 : (cap = q ∧ Hid (∀ w', Bel w w' → SlI 0 w'.heap.size w' (.slice (some ⟨b, off, none⟩) 0 0) (t.drop q))) ∨ (q < cap ∧ Hid (∀ w', Bel w w' → SlI 0 w'.heap.size w' (.slice (some ⟨b, off + q, none⟩) (t.length - q) (cap - q)) (t.drop q))) := by
        rcases Nat.lt_or_ge q cap with h | h
        · refine .inr ⟨h, fun w' hb => ?_⟩
          have := (hu.below hb).cut q t.length (by omega) (by omega)
          rw [List.take_of_length_le (by simp)] at this
          exact this.in'
        · refine .inl ⟨by omega, fun w' hb => ?_⟩
          obtain rfl : t.length = q := by omega
          rw [List.drop_length]
          exact ⟨_, 0, rfl, Nat.le_refl _, ⟨Nat.zero_le _, fun h => by simp at h⟩, fun h => absurd h (by simp)⟩
      rcases hsl2 with ⟨hqc, hsl2⟩ | ⟨hqc, hsl2⟩
      · obtain rfl : cap = q := hqc
        by_cases hfit : (replaced t k cap r).length ≤ 40
        · have E4 := Lib.hid (E.out hfit); have E5 : Hid (replOk ar t k r = true) := by show _ = _; rw [E2.out]; simpa using hfit
          clear E E3 E2
          go_enter Try.func17, Try.ntmps17
          go_wp2_with fail
          refine (hasIndex_v _ _ _ _ _ _ _ _ _ _ _ HS.out ha ht (hv.alloc _) (hu.alloc _)).mono ?_; rintro e w1 ⟨rfl, hb1⟩
          have hx1 := boxc hb1 0 _ rfl
          go_wp2_with fail
          refine (iGoodTerm_v _ _ _ _ _ _ _ _ _ _ HU.out ha hr (hv.below hb1.of_alloc) (hx.below hb1.of_alloc)).mono ?_; rintro e w2 ⟨rfl, hb2⟩
          have hx2 := boxc (hb1.step hb2) 0 _ rfl
          have hb12 := hb1.of_alloc.step hb2
          go_wp2_with fail
          refine (termEnd_v _ _ _ _ _ _ ar t k cap _ HE.out hg ht (by omega) (hv.below hb12) (hu.below hb12)).mono ?_; rintro e w3 ⟨rfl, hb3⟩
          have hb13 := hb12.step hb3
          go_wp2_with fail
          go_region_held3 (fun w' => Bel w3 w') (first | exact Bel.drew0 _ | exact Bel.alloc (Bel.drew0 _) _ | exact hb4.of_drew.of_alloc | exact hb4.of_alloc)
            (first | (go_at_call 46; refine (concat3_c 0 w3.heap.size _ _ _ _ _ _ _ _ _ (t.take k) r (t.drop cap) w3 hsum (hsl.out _ hb13) (hsl3.out _ hb13) (hsl2.out _ hb13) _).mono ?_; rintro e w4 ⟨a4, n4, c4, rfl, ho4, hb4⟩))
          have hn4 : (n4 : Int) ≤ 40 := by
            obtain ⟨ad, c, e, _⟩ := ho4.1
            simp only [Value.slice.injEq] at e
            rw [e.2.1, hfl.out]; omega
          go_wp2_with fail
          go_ret2
          refine ⟨_, _, _, by rw [E5.out]; rfl, ?_, hb13.step (hb4.of_drew.of_alloc)⟩
          rw [E4.out, ← hfl.out]
          have z := hb13.size
          exact ho4.mono (by show w.heap.size ≤ (w3.alloc _).heap.size; simp; omega) (Nat.le_refl _)
        · have E4 := Lib.hid (E3.out hfit); have E5 : Hid (replOk ar t k r = false) := by show _ = _; rw [E2.out]; simpa using hfit
          clear E E3 E2
          go_enter Try.func17, Try.ntmps17
          go_wp2_with fail
          refine (hasIndex_v _ _ _ _ _ _ _ _ _ _ _ HS.out ha ht (hv.alloc _) (hu.alloc _)).mono ?_; rintro e w1 ⟨rfl, hb1⟩
          have hx1 := boxc hb1 0 _ rfl
          go_wp2_with fail
          refine (iGoodTerm_v _ _ _ _ _ _ _ _ _ _ HU.out ha hr (hv.below hb1.of_alloc) (hx.below hb1.of_alloc)).mono ?_; rintro e w2 ⟨rfl, hb2⟩
          have hx2 := boxc (hb1.step hb2) 0 _ rfl
          have hb12 := hb1.of_alloc.step hb2
          go_wp2_with fail
          refine (termEnd_v _ _ _ _ _ _ ar t k cap _ HE.out hg ht (by omega) (hv.below hb12) (hu.below hb12)).mono ?_; rintro e w3 ⟨rfl, hb3⟩
          have hb13 := hb12.step hb3
          go_wp2_with fail
          go_region_held3 (fun w' => Bel w3 w') (first | exact Bel.drew0 _ | exact Bel.alloc (Bel.drew0 _) _ | exact hb4.of_drew.of_alloc | exact hb4.of_alloc)
            (first | (go_at_call 46; refine (concat3_c 0 w3.heap.size _ _ _ _ _ _ _ _ _ (t.take k) r (t.drop cap) w3 hsum (hsl.out _ hb13) (hsl3.out _ hb13) (hsl2.out _ hb13) _).mono ?_; rintro e w4 ⟨a4, n4, c4, rfl, ho4, hb4⟩))
          have hn4 : (40 : Int) < n4 := by
            obtain ⟨ad, c, e, _⟩ := ho4.1
            simp only [Value.slice.injEq] at e
            rw [e.2.1, hfl.out]; omega
          go_wp2_with fail
          go_ret2
          refine ⟨_, _, _, by rw [E5.out]; rfl, ?_, hb13.step (hb4.of_drew.of_alloc)⟩
          rw [E4.out]; exact OwnI.nil _ _ _
      · have hne : ¬ cap = q := by omega
        by_cases hfit : (replaced t k q r).length ≤ 40
        · have E4 := Lib.hid (E.out hfit); have E5 : Hid (replOk ar t k r = true) := by show _ = _; rw [E2.out]; simpa using hfit
          clear E E3 E2
          go_enter Try.func17, Try.ntmps17
          go_wp2_with fail
          refine (hasIndex_v _ _ _ _ _ _ _ _ _ _ _ HS.out ha ht (hv.alloc _) (hu.alloc _)).mono ?_; rintro e w1 ⟨rfl, hb1⟩
          have hx1 := boxc hb1 0 _ rfl
          go_wp2_with fail
          refine (iGoodTerm_v _ _ _ _ _ _ _ _ _ _ HU.out ha hr (hv.below hb1.of_alloc) (hx.below hb1.of_alloc)).mono ?_; rintro e w2 ⟨rfl, hb2⟩
          have hx2 := boxc (hb1.step hb2) 0 _ rfl
          have hb12 := hb1.of_alloc.step hb2
          go_wp2_with fail
          refine (termEnd_v _ _ _ _ _ _ ar t k q _ HE.out hg ht (by omega) (hv.below hb12) (hu.below hb12)).mono ?_; rintro e w3 ⟨rfl, hb3⟩
          have hb13 := hb12.step hb3
          go_wp2_with fail
          go_region_held3 (fun w' => Bel w3 w') (first | exact Bel.drew0 _ | exact Bel.alloc (Bel.drew0 _) _ | exact hb4.of_drew.of_alloc | exact hb4.of_alloc)
            (first | (go_at_call 46; refine (concat3_c 0 w3.heap.size _ _ _ _ _ _ _ _ _ (t.take k) r (t.drop q) w3 hsum (hsl.out _ hb13) (hsl3.out _ hb13) (hsl2.out _ hb13) _).mono ?_; rintro e w4 ⟨a4, n4, c4, rfl, ho4, hb4⟩))
          have hn4 : (n4 : Int) ≤ 40 := by
            obtain ⟨ad, c, e, _⟩ := ho4.1
            simp only [Value.slice.injEq] at e
            rw [e.2.1, hfl.out]; omega
          go_wp2_with fail
          go_ret2
          refine ⟨_, _, _, by rw [E5.out]; rfl, ?_, hb13.step (hb4.of_drew.of_alloc)⟩
          rw [E4.out, ← hfl.out]
          have z := hb13.size
          exact ho4.mono (by show w.heap.size ≤ (w3.alloc _).heap.size; simp; omega) (Nat.le_refl _)
        · have E4 := Lib.hid (E3.out hfit); have E5 : Hid (replOk ar t k r = false) := by show _ = _; rw [E2.out]; simpa using hfit
          clear E E3 E2
          go_enter Try.func17, Try.ntmps17
          go_wp2_with fail
          refine (hasIndex_v _ _ _ _ _ _ _ _ _ _ _ HS.out ha ht (hv.alloc _) (hu.alloc _)).mono ?_; rintro e w1 ⟨rfl, hb1⟩
          have hx1 := boxc hb1 0 _ rfl
          go_wp2_with fail
          refine (iGoodTerm_v _ _ _ _ _ _ _ _ _ _ HU.out ha hr (hv.below hb1.of_alloc) (hx.below hb1.of_alloc)).mono ?_; rintro e w2 ⟨rfl, hb2⟩
          have hx2 := boxc (hb1.step hb2) 0 _ rfl
          have hb12 := hb1.of_alloc.step hb2
          go_wp2_with fail
          refine (termEnd_v _ _ _ _ _ _ ar t k q _ HE.out hg ht (by omega) (hv.below hb12) (hu.below hb12)).mono ?_; rintro e w3 ⟨rfl, hb3⟩
          have hb13 := hb12.step hb3
          go_wp2_with fail
          go_region_held3 (fun w' => Bel w3 w') (first | exact Bel.drew0 _ | exact Bel.alloc (Bel.drew0 _) _ | exact hb4.of_drew.of_alloc | exact hb4.of_alloc)
            (first | (go_at_call 46; refine (concat3_c 0 w3.heap.size _ _ _ _ _ _ _ _ _ (t.take k) r (t.drop q) w3 hsum (hsl.out _ hb13) (hsl3.out _ hb13) (hsl2.out _ hb13) _).mono ?_; rintro e w4 ⟨a4, n4, c4, rfl, ho4, hb4⟩))
          have hn4 : (40 : Int) < n4 := by
            obtain ⟨ad, c, e, _⟩ := ho4.1
            simp only [Value.slice.injEq] at e
            rw [e.2.1, hfl.out]; omega
          go_wp2_with fail
          go_ret2
          refine ⟨_, _, _, by rw [E5.out]; rfl, ?_, hb13.step (hb4.of_drew.of_alloc)⟩
          rw [E4.out]; exact OwnI.nil _ _ _
end Go.Proofs.Ytajmjjandkdhiab
end
section
/- The places of a symbol's arguments: both functions' inner ones, and ArgsAt. -/
namespace Go.Proofs.Ytajmjjandkdhiab
open Go.RowKit

def natsI (l : List Nat) : List Int := l.map fun (n : Nat) => (n : Int)
theorem natsI_len (l : List Nat) : (natsI l).length = l.length := by simp [natsI]
theorem argsGo_succ {ar t : List Int} {k p q : Nat} (h : endOf ar t p = some q) : argsGo ar t (k + 1) p = p :: argsGo ar t k q := by simp [argsGo, h]

/-- Somewhere in the loop over the arguments: acc is done, k are still to come, from p on. -/
def ArgSt (ar t : List Int) (all : List Nat) (acc : List Nat) (k p : Nat) : Prop := all = acc ++ argsGo ar t k p ∧ ∃ e, endGo ar (t.drop p) k p = some e ∧ e ≤ t.length
theorem ArgSt.start {ar t : List Int} {i : Nat} (h : okTerm ar t = true) (hi : i < t.length) : ArgSt ar t (argsOf ar t i) [] (arOf ar (t.getD i 0)) (i + 1) := by
  obtain ⟨e, h1, h2⟩ := good_args ar t h i hi
  exact ⟨rfl, e, h1, h2⟩
theorem ArgSt.next {ar t : List Int} {all acc : List Nat} {k p : Nat} (h : ArgSt ar t all acc (k + 1) p) : ∃ q, endOf ar t p = some q ∧ p < t.length ∧ p < q ∧ q ≤ t.length ∧ ArgSt ar t all (acc ++ [p]) k q := by
  obtain ⟨h1, e, h2, h3⟩ := h
  obtain ⟨q, hq, hr, hpq, hqe⟩ := ends_step ar t p k e h2
  exact ⟨q, hq, by omega, hpq, by omega, by rw [h1, argsGo_succ hq]; simp, e, hr, h3⟩
theorem ArgSt.done {ar t : List Int} {all acc : List Nat} {p : Nat} (h : ArgSt ar t all acc 0 p) : all = acc := by rw [h.1]; simp [argsGo]
theorem argsOf_neg {ar t : List Int} {i : Nat} (h : t.getD i 0 < 0) : argsOf ar t i = [] := by unfold argsOf; rw [arOf_neg h]; rfl
theorem argsOf_len {ar t : List Int} {i : Nat} : (argsOf ar t i).length = arOf ar (t.getD i 0) := argsGo_len _ _ _ _

theorem natsI_snoc (l : List Nat) (p : Nat) : natsI (l ++ [p]) = natsI l ++ [(p : Int)] := by simp [natsI]

set_option maxRecDepth 100000 in
set_option maxHeartbeats 2000000 in
theorem argStarts_c (l h l' h' : Nat) (v u : Value) (ar t : List Int) (i : Nat) (w : World) (hg : goodSign ar = true) (hok : okTerm ar t = true) (hi : i < t.length) (hv : SlI l h w v ar) (hu : SlI l' h' w u t) :
    Calls Try.prog 53 #[.agg #[v], u, .int .i64 i] w (RetI w (natsI (argsOf ar t i))) := by
  have hv0 := hv; have hu0 := hu
  obtain ⟨ad, cap, rfl, -, -, hr⟩ := hv
  obtain ⟨ad', cap', rfl, -, -, hr'⟩ := hu
  have hlen := sign_len ar hg
  have htl := ((okTerm_iff ar t).1 hok).2.1
  have hst := ArgSt.start hok hi
  have hsym := good_sym ar t hok i hi
  have htc := fun (p : Nat) => termEnd_c l h l' h' (.slice ad ar.length cap) (.slice ad' t.length cap') ar t p
  obtain ⟨i0, hi0, hz0, hz1, hz2⟩ := info_parts Try.info3
  obtain ⟨b', off', rfl, hbl, hcell'⟩ := rd hr' (Bel.rfl' w) i hi
  have hE := fun h => argsOf_neg (ar := ar) (t := t) (i := i) h
  clear hr'
  have hn3 := arOf_le ar hg (t.getD i 0)
  generalize t.getD i 0 = x at *
  by_cases hx : x < 0
  · have E := Lib.hid (hE hx)
    clear hst hE htc
    go_enter Try.func53, Try.ntmps53
    go_wp2_with fail
    go_ret
    refine ⟨none, 0, 0, rfl, ?_, Bel.alloc0 _ _⟩
    rw [E.out]; exact OwnI.nil _ _ _
  · obtain ⟨k, rfl⟩ : ∃ k : Nat, x = k := ⟨x.toNat, by omega⟩
    have hk := okSym_lt hsym
    obtain ⟨b, off, rfl, hbl2, hcell⟩ := rd hr (Bel.rfl' w) k hk
    have hn := ar_nonneg ar hg k
    rw [arOf_nat] at hst hn3
    clear hr hsym
    obtain ⟨q, hq⟩ : ∃ q : Nat, ar.getD k 0 = q := ⟨(ar.getD k 0).toNat, by omega⟩
    rw [hq] at hcell hst hn hn3
    rw [show ((q : Int)).toNat = q from by omega] at hst hn3
    clear hq
    have hk2 : (k : Int) < ar.length := by omega
    have hi2 : (i : Int) < t.length := by omega
    have HST := Lib.hid hst
    have HTC := Lib.hid htc
    clear hst htc hE
    generalize argsOf ar t i = all at *
    go_enter Try.func53, Try.ntmps53
    go_wp2_with fail
    go_quiet (fail)
    go_wp2_with fail
    go_loopw [7, 8, 24] (fun vs a c wr => ∃ (acc : List Nat) (p j : Nat), j ≤ q ∧ acc.length = j ∧ a = .int .i64 p ∧ c = .int .i64 j ∧ ArgSt ar t all acc (q - j) p ∧
        wr.ownsRow (w.heap.size + 1) 3 1 vs (natsI acc).length ((natsI acc).map (Value.int .i64)) ∧ Bel (w.alloc (.cells #[.slice (some ⟨b, off, none⟩) ar.length cap] 28)) wr) (fun _ _ c _ => q - (intOf c).toNat)
    case atStart => exact ⟨[], i + 1, 0, Nat.zero_le _, rfl, by go_num, rfl, HST.out, World.ownsRow_nil _ _ _ _, (Bel.rfl' _).drewN _⟩
    case round =>
      obtain ⟨acc, p, j, hj, hacc, rfl, rfl, hst, hown, hb⟩ := hrel
      have hbox := boxc hb 0 _ rfl
      by_cases hlt : j < q
      · obtain ⟨q', hq', hpt, hpq, hqt, hst'⟩ := ArgSt.next (show ArgSt ar t all acc ((q - (j + 1)) + 1) p by rw [show q - (j + 1) + 1 = q - j from by omega]; exact hst)
        have HC := Lib.hid (fun w a b c d e => endP_some hq' ▸ HTC.out p w a b c d e)
        have HS2 := Lib.hid hst'
        have hal : (natsI acc).length ≤ 3 := by rw [natsI_len]; omega
        have HA := Lib.hid hacc
        clear hst hst' hq' hacc
        go_wp2_with (at_builtin; refine wpList_append_own _ rfl _ _ 22 rfl (w.heap.size + 1) 3 i0 (.int .i64 0) 1 8 Try.underlying22 hi0 hz0 hz1 hz2 rfl (by decide) _ _ _ rfl (hown.alloc _) ⟨wr.heap.size, 0, none⟩ 1 1 [.int .i64 p] rfl rfl (news_one _ _ _) (one_int _) (by unfold maxLen; omega) (by omega) (by have := hb.size; simp at *; omega) ?_; intro v' w1 hown' hgrow _; have hb1 := (hb.alloc (.cells #[.int .i64 p] 3)).grown hgrow (fun k hk => by have := own_base hown k hk; simp; omega); have hbox1 := boxc hb1 0 _ rfl)
        refine (HC.out _ hg (by omega) (by omega) (hv0.below hb1.of_alloc) (hu0.below hb1.of_alloc)).mono ?_; rintro e w2 ⟨rfl, hb2⟩
        have hown2 := ownsRow_bel (row_snoc hown') hb2
        rw [← natsI_snoc] at hown2
        go_wp2_with fail
        go_roundw
        case rel => exact ⟨acc ++ [p], q', j + 1, by omega, by simp [HA.out], rfl, by go_num, by rw [show q - (j + 1) = q - (j + 1) from rfl]; exact HS2.out, hown2, hb1.step hb2⟩
        case measure => simp [intOf]; omega
      · rw [show q - j = 0 from by omega] at hst
        have HS2 := Lib.hid hst.done
        clear hst
        go_wp2_with fail
        obtain ⟨g, n, c, hv'⟩ := own_form hown
        subst hv'
        go_ret
        exact ⟨_, _, _, rfl, by rw [HS2.out]; exact (OwnI.of_row hown).mono (by omega) (Nat.le_refl _), hb.of_alloc⟩
set_option maxRecDepth 100000 in
set_option maxHeartbeats 2000000 in
theorem l1Args_c (l h l' h' : Nat) (v u : Value) (ar t : List Int) (i : Nat) (w : World) (hg : goodSign ar = true) (hok : okTerm ar t = true) (hi : i < t.length) (hv : SlI l h w v ar) (hu : SlI l' h' w u t) :
    Calls Try.prog 54 #[.agg #[v], u, .int .i64 i] w (RetI w (natsI (argsOf ar t i))) := by
  have hv0 := hv; have hu0 := hu
  obtain ⟨ad, cap, rfl, -, -, hr⟩ := hv
  obtain ⟨ad', cap', rfl, -, -, hr'⟩ := hu
  have hlen := sign_len ar hg
  have htl := ((okTerm_iff ar t).1 hok).2.1
  have hst := ArgSt.start hok hi
  have hsym := good_sym ar t hok i hi
  have htc := fun (p : Nat) => l1End_c l h l' h' (.slice ad ar.length cap) (.slice ad' t.length cap') ar t p
  obtain ⟨i0, hi0, hz0, hz1, hz2⟩ := info_parts Try.info3
  obtain ⟨b', off', rfl, hbl, hcell'⟩ := rd hr' (Bel.rfl' w) i hi
  have hE := fun h => argsOf_neg (ar := ar) (t := t) (i := i) h
  clear hr'
  have hn3 := arOf_le ar hg (t.getD i 0)
  generalize t.getD i 0 = x at *
  by_cases hx : x < 0
  · have E := Lib.hid (hE hx)
    clear hst hE htc
    go_enter Try.func54, Try.ntmps54
    go_wp2_with fail
    go_ret
    refine ⟨none, 0, 0, rfl, ?_, Bel.alloc0 _ _⟩
    rw [E.out]; exact OwnI.nil _ _ _
  · obtain ⟨k, rfl⟩ : ∃ k : Nat, x = k := ⟨x.toNat, by omega⟩
    have hk := okSym_lt hsym
    obtain ⟨b, off, rfl, hbl2, hcell⟩ := rd hr (Bel.rfl' w) k hk
    have hn := ar_nonneg ar hg k
    rw [arOf_nat] at hst hn3
    clear hr hsym
    obtain ⟨q, hq⟩ : ∃ q : Nat, ar.getD k 0 = q := ⟨(ar.getD k 0).toNat, by omega⟩
    rw [hq] at hcell hst hn hn3
    rw [show ((q : Int)).toNat = q from by omega] at hst hn3
    clear hq
    have hk2 : (k : Int) < ar.length := by omega
    have hi2 : (i : Int) < t.length := by omega
    have HST := Lib.hid hst
    have HTC := Lib.hid htc
    clear hst htc hE
    generalize argsOf ar t i = all at *
    go_enter Try.func54, Try.ntmps54
    go_wp2_with fail
    go_quiet (fail)
    go_wp2_with fail
    go_loopw [7, 8, 9] (fun vs a c wr => ∃ (acc : List Nat) (p j : Nat), j ≤ q ∧ acc.length + j = q ∧ a = .int .i64 p ∧ c = .int .i64 j ∧ ArgSt ar t all acc j p ∧
        wr.ownsRow (w.heap.size + 1) 3 1 vs (natsI acc).length ((natsI acc).map (Value.int .i64)) ∧ Bel (w.alloc (.cells #[.slice (some ⟨b, off, none⟩) ar.length cap] 28)) wr) (fun _ _ c _ => (intOf c).toNat)
    case atStart => exact ⟨[], i + 1, q, Nat.le_refl _, by simp, by go_num, rfl, HST.out, World.ownsRow_nil _ _ _ _, (Bel.rfl' _).drewN _⟩
    case round =>
      obtain ⟨acc, p, j, hj, hacc, rfl, rfl, hst, hown, hb⟩ := hrel
      have hbox := boxc hb 0 _ rfl
      cases j with
      | succ j =>
        obtain ⟨q', hq', hpt, hpq, hqt, hst'⟩ := ArgSt.next hst
        have HC := Lib.hid (fun w a b c d e => endI_some hq' ▸ HTC.out p w a b c d e)
        have HS2 := Lib.hid hst'
        have hal : (natsI acc).length ≤ 3 := by rw [natsI_len]; omega
        have HA := Lib.hid hacc
        clear hst hst' hq' hacc
        rw [show ((j + 1 : Nat) : Int) = (j : Int) + 1 from by omega]
        go_wp2_with (at_builtin; refine wpList_append_own _ rfl _ _ 22 rfl (w.heap.size + 1) 3 i0 (.int .i64 0) 1 8 Try.underlying22 hi0 hz0 hz1 hz2 rfl (by decide) _ _ _ rfl (hown.alloc _) ⟨wr.heap.size, 0, none⟩ 1 1 [.int .i64 p] rfl rfl (news_one _ _ _) (one_int _) (by unfold maxLen; omega) (by omega) (by have := hb.size; simp at *; omega) ?_; intro v' w1 hown' hgrow _; have hb1 := (hb.alloc (.cells #[.int .i64 p] 3)).grown hgrow (fun k hk => by have := own_base hown k hk; simp; omega); have hbox1 := boxc hb1 0 _ rfl)
        refine (HC.out _ hg (by omega) (by omega) (hv0.below hb1.of_alloc) (hu0.below hb1.of_alloc)).mono ?_; rintro e w2 ⟨rfl, hb2⟩
        have hown2 := ownsRow_bel (row_snoc hown') hb2
        rw [← natsI_snoc] at hown2
        go_wp2_with fail
        go_roundw
        case rel => exact ⟨acc ++ [p], q', j, by omega, by have := HA.out; simp; omega, rfl, by go_num, HS2.out, hown2, hb1.step hb2⟩
        case measure => simp [intOf]
      | zero =>
        have HS2 := Lib.hid hst.done
        clear hst
        go_wp2_with fail
        obtain ⟨g, n, c, hv'⟩ := own_form hown
        subst hv'
        go_ret
        exact ⟨_, _, _, rfl, by rw [HS2.out]; exact (OwnI.of_row hown).mono (by omega) (Nat.le_refl _), hb.of_alloc⟩

/-- What ArgsAt answers. -/
def argsAns (ar t : List Int) (i : Int) : List Int := if askOk ar t i then natsI (argsOf ar t i.toNat) else []
theorem argsAns_len (ar t : List Int) (i : Int) : (argsAns ar t i).length ≤ 1048576 := by
  unfold argsAns
  split
  · rename_i h
    obtain ⟨k, e, rfl, _, _, _, _, _, hg, _⟩ := ask_yes h
    rw [natsI_len, argsOf_len]
    exact Nat.le_trans (arOf_le ar hg _) (by omega)
  · exact Nat.zero_le _

theorem sArgsAt_t {l h l' h' : Nat} {v u : Value} {ar t : List Int} {w : World} (ha : ar.length ≤ 1048576) (hv : SlI l h w v ar) (ht : t.length ≤ 1048576) (hu : SlI l' h' w u t) {i : Int} (_ : -9223372036854775808 ≤ i) (_ : i ≤ 9223372036854775807) :
    Calls Try.prog 24 #[.agg #[v], u, .int .i64 i] w (RetIB w (argsAns ar t i) (askOk ar t i)) := by
  cases hs : askOk ar t i with
  | false =>
    have E : Hid (argsAns ar t i = []) := by show argsAns ar t i = []; simp [argsAns, hs]
    have HS := Lib.hid hs; clear hs
    go_enter Try.func24, Try.ntmps24
    go_wp2_with fail
    refine (l1Asked_v _ _ _ _ _ _ _ _ _ _ _ HS.out ha ht (hv.alloc _) (hu.alloc _)).mono ?_; rintro e w' ⟨rfl, hb1⟩
    go_wp2_with fail
    go_ret2
    exact ⟨_, _, _, rfl, by rw [E.out]; exact OwnI.nil _ _ _, hb1.of_alloc⟩
  | true =>
    have E : Hid (argsAns ar t i = natsI (argsOf ar t i.toNat)) := by show argsAns ar t i = _; simp [argsAns, hs]
    obtain ⟨k, q, rfl, hk, he, hq1, hq2, hlen, hg, hok⟩ := ask_yes hs
    have HS := Lib.hid hs; clear hs he
    go_enter Try.func24, Try.ntmps24
    go_wp2_with fail
    refine (l1Asked_v _ _ _ _ _ _ _ _ _ _ _ HS.out ha ht (hv.alloc _) (hu.alloc _)).mono ?_; rintro e w' ⟨rfl, hb1⟩
    have hx1 := boxc hb1 0 _ rfl
    go_wp2_with fail
    refine (l1Args_c _ _ _ _ _ _ ar t k _ hg hok hk (hv.below hb1.of_alloc) (hu.below hb1.of_alloc)).mono ?_; rintro e w2 ⟨ad, n, c, rfl, ho, hb2⟩
    go_wp2_with fail
    go_ret2
    exact ⟨_, _, _, rfl, by rw [E.out]; exact ho.mono (by have := hb1.size; simp at this; omega) (Nat.le_refl _), hb1.of_alloc.step hb2⟩

theorem iArgsAt_t {l h l' h' : Nat} {v u : Value} {ar t : List Int} {w : World} (ha : ar.length ≤ 1048576) (hv : SlI l h w v ar) (ht : t.length ≤ 1048576) (hu : SlI l' h' w u t) {i : Int} (_ : -9223372036854775808 ≤ i) (_ : i ≤ 9223372036854775807) :
    Calls Try.prog 23 #[.agg #[v], u, .int .i64 i] w (RetIB w (argsAns ar t i) (askOk ar t i)) := by
  cases hs : askOk ar t i with
  | false =>
    have E : Hid (argsAns ar t i = []) := by show argsAns ar t i = []; simp [argsAns, hs]
    have HS := Lib.hid hs; clear hs
    go_enter Try.func23, Try.ntmps23
    go_wp2_with fail
    refine (hasIndex_v _ _ _ _ _ _ _ _ _ _ _ HS.out ha ht (hv.alloc _) (hu.alloc _)).mono ?_; rintro e w' ⟨rfl, hb1⟩
    go_wp2_with fail
    go_ret2
    exact ⟨_, _, _, rfl, by rw [E.out]; exact OwnI.nil _ _ _, hb1.of_alloc⟩
  | true =>
    have E : Hid (argsAns ar t i = natsI (argsOf ar t i.toNat)) := by show argsAns ar t i = _; simp [argsAns, hs]
    obtain ⟨k, q, rfl, hk, he, hq1, hq2, hlen, hg, hok⟩ := ask_yes hs
    have HS := Lib.hid hs; clear hs he
    go_enter Try.func23, Try.ntmps23
    go_wp2_with fail
    refine (hasIndex_v _ _ _ _ _ _ _ _ _ _ _ HS.out ha ht (hv.alloc _) (hu.alloc _)).mono ?_; rintro e w' ⟨rfl, hb1⟩
    have hx1 := boxc hb1 0 _ rfl
    go_wp2_with fail
    refine (argStarts_c _ _ _ _ _ _ ar t k _ hg hok hk (hv.below hb1.of_alloc) (hu.below hb1.of_alloc)).mono ?_; rintro e w2 ⟨ad, n, c, rfl, ho, hb2⟩
    go_wp2_with fail
    go_ret2
    exact ⟨_, _, _, rfl, by rw [E.out]; exact ho.mono (by have := hb1.size; simp at this; omega) (Nat.le_refl _), hb1.of_alloc.step hb2⟩
end Go.Proofs.Ytajmjjandkdhiab
end
