/- Texts merged, part 4. -/
import Derived.Test.YtngdhpelnjckjaaMgUnified3
section
/- VarsOf: the reference's side. -/
namespace Go.Proofs.Ytngdhpelnjckjaa
open Go.RowKit

def setF (f : Nat → Bool) (m : Nat) (i : Nat) : Bool := if i = m then true else f i
def tailF (f : Nat → Bool) (m : Nat) : List Nat := ((List.range 12).drop (m + 1)).filter f
theorem tail_gt {f : Nat → Bool} {m x : Nat} (h : x ∈ tailF f m) : m < x := by
  unfold tailF at h
  have h1 := (List.mem_filter.1 h).1
  rw [List.mem_iff_getElem?] at h1
  obtain ⟨i, hi⟩ := h1
  rw [List.getElem?_drop] at hi
  have h2 := (List.getElem?_eq_some_iff.1 hi)
  obtain ⟨h3, h4⟩ := h2
  simp at h4
  omega
theorem vars_split (f : Nat → Bool) (m : Nat) (h : m < 12) : varsTo f 12 = varsTo f m ++ (if f m then m :: tailF f m else tailF f m) := by
  unfold varsTo tailF
  conv => lhs; rw [← List.take_append_drop m (List.range 12)]
  rw [List.filter_append, List.take_range, Nat.min_eq_left (by omega), List.drop_eq_getElem_cons (by simpa using h), List.filter_cons]
  simp
theorem vars_lt {f : Nat → Bool} {m x : Nat} (h : x ∈ varsTo f m) : x < m := by
  unfold varsTo at h
  have := (List.mem_filter.1 h).1
  simpa using this
theorem set_to (f : Nat → Bool) (m : Nat) : varsTo (setF f m) m = varsTo f m := by
  unfold varsTo
  apply List.filter_congr
  intro x hx
  have : x < m := by simpa using hx
  unfold setF; rw [if_neg (by omega)]
theorem set_tail (f : Nat → Bool) (m : Nat) : tailF (setF f m) m = tailF f m := by
  unfold tailF
  apply List.filter_congr
  intro x hx
  have : m < x := by
    rw [List.mem_iff_getElem?] at hx
    obtain ⟨i, hi⟩ := hx
    rw [List.getElem?_drop] at hi
    obtain ⟨h3, h4⟩ := (List.getElem?_eq_some_iff.1 hi)
    simp at h4
    omega
  unfold setF; rw [if_neg (by omega)]
theorem set_vars (f : Nat → Bool) (m : Nat) (h : m < 12) : varsTo (setF f m) 12 = varsTo f m ++ m :: tailF f m := by
  rw [vars_split _ m h, set_to, set_tail, if_pos (by simp [setF])]
theorem set_same (f : Nat → Bool) (m : Nat) (h : f m = true) : setF f m = f := by
  funext i
  unfold setF
  by_cases e : i = m
  · subst e; rw [if_pos rfl, h]
  · rw [if_neg e]

theorem own_fix {w : World} {base e n n' : Nat} {v : Value} {vs : List Value} {xs : List Int} (hn : n' = n) (hx : vs = xs.map (Value.int .i64)) (h : w.ownsRow base e 1 v n' vs) : w.ownsRow base e 1 v n (xs.map (Value.int .i64)) := by subst hn hx; exact h
/-- A slice of ints: one's own from lo on. -/
def RetO (lo : Nat) (w : World) (xs : List Int) (e : Ending) (w' : World) : Prop := ∃ ad n c, e = .returned (.slice ad n c) ∧ OwnI lo w'.heap.size w' (.slice ad n c) xs ∧ Bel w w'

theorem nget (l : List Nat) (k : Nat) (h : k < l.length) : (natsI l).getD k 0 = (l.getD k 0 : Nat) := by simp [natsI, List.getD, h]

set_option maxRecDepth 100000 in
theorem l1Put_nil (m : Nat) (w : World) : Calls Try.prog 137 #[.slice none 0 0, .int .i64 m] w (RetR w [(m : Int)]) := by
  obtain ⟨i0, hi0, hz0, hz1, hz2⟩ := info_parts Try.info3
  have hown0 : (w.alloc (.cells #[] 3)).ownsRow w.heap.size 3 1 (.slice (some ⟨w.heap.size, 0, none⟩) 0 0) ([] : List Int).length (([] : List Int).map (Value.int .i64)) :=
    World.ownsRow_lit w #[] 0 (Nat.le_refl _) (Nat.zero_le _) rfl
  go_enter Try.func137, Try.ntmps137
  go_wp2_with fail
  refine wp_loop_rounds 1 ?_
  rw [rounds_succ]
  go_wp2_with (first | (at_builtin; refine wpList_append_own_none rfl (.tmp 34) (.tmp 37) 24 rfl w.heap.size 3 i0 1 Try.underlying24 hi0 _ _ _ rfl hown0 rfl ?_) | (at_builtin; refine wpList_append_own _ rfl (.tmp 39) (.tmp 41) 24 rfl w.heap.size 3 i0 (.int .i64 0) 1 8 Try.underlying24 hi0 hz0 hz1 hz2 rfl (by decide) _ _ _ rfl (hown0.alloc _) ⟨w.heap.size + 1, 0, none⟩ 1 1 [.int .i64 m] rfl rfl (by have := news_one (w.alloc (.cells #[] 3)) (.int .i64 m) 3; simpa using this) (one_int _) (by unfold maxLen; simp) (by simp) (by simp; omega) ?_; intro v' w1 hown' hgrow _) | (at_builtin; refine wpList_append_own_none rfl (.tmp 43) (.tmp 46) 24 rfl w.heap.size 3 i0 1 Try.underlying24 hi0 _ _ _ rfl hown' rfl ?_))
  have hown2 : w1.ownsRow w.heap.size 3 1 v' [(m : Int)].length ([(m : Int)].map (Value.int .i64)) := by simpa using hown'
  obtain ⟨g, n, c, hv'⟩ := own_form hown2
  subst hv'
  go_ret
  exact ⟨_, _, _, rfl, hown2, (Bel.alloc2 w _ _).grown hgrow (fun k hk => own_base hown0 k hk)⟩

set_option maxRecDepth 100000 in
set_option maxHeartbeats 1000000 in
theorem l1Put_c (lo : Nat) (v : Value) (f : Nat → Bool) (m : Nat) (w : World) (hm : m < 12) (hlo : lo ≤ w.heap.size) (hnz : 0 < (varsTo f 12).length) (hv : OwnI lo w.heap.size w v (natsI (varsTo f 12))) :
    Calls Try.prog 137 #[v, .int .i64 m] w (RetO lo w (natsI (varsTo (setF f m) 12))) := by
  obtain ⟨i0, hi0, hz0, hz1, hz2⟩ := info_parts Try.info3
  have hv0 := hv
  have hlen := varsTo_len f 12
  have hsp := vars_split f m hm
  have hset := set_vars f m hm
  have hlt0 : ∀ k, k < (varsTo f m).length → ((varsTo f 12).getD k 0) < m := by
    intro k hk
    rw [hsp]
    have : (varsTo f m)[k] ∈ varsTo f m := List.getElem_mem hk
    have := vars_lt this
    simpa [List.getD, List.getElem?_append_left hk, hk] using this
  have hA : (varsTo f m).length ≤ (varsTo f 12).length := by rw [hsp]; simp
  obtain ⟨ad, cap, rfl, -, -, hr⟩ := hv.1
  rw [natsI_len] at hr ⊢
  have HLT := Lib.hid hlt0
  cases hf : f m with
  | true =>
    rw [hf, if_pos rfl] at hsp
    have E : Hid (varsTo (setF f m) 12 = varsTo f 12) := by show _ = _; rw [set_same f m hf]
    have hal : (varsTo f m).length < (varsTo f 12).length := by rw [hsp]; simp
    have hat : (varsTo f 12).getD (varsTo f m).length 0 = m := by rw [hsp]; simp [List.getD]
    have HAT := Lib.hid hat
    clear hsp hset hat hlt0
    generalize varsTo f 12 = L at *
    generalize (varsTo f m).length = A at *
    go_enter Try.func137, Try.ntmps137
    go_wp2_with fail
    go_loop [5] (fun i => ∃ k : Nat, k ≤ A ∧ i = .int .i64 k) (fun i => A - (intOf i).toNat)
    case atStart => exact ⟨0, Nat.zero_le _, rfl⟩
    case round =>
      obtain ⟨k, hk, rfl⟩ := hrel
      have hkl : k < L.length := by omega
      obtain ⟨b, off, rfl, -, -, hc⟩ := hr (by omega)
      have hcell := hc k hkl
      rw [nget _ _ hkl] at hcell
      have hkl2 : (k : Int) < L.length := by omega
      have hdl : decide ((k : Int) < L.length) = true := by simpa using hkl2
      clear hc hr
      by_cases hka : k < A
      · have hx := HLT.out k hka
        generalize L.getD k 0 = x at *
        have hx2 : (x : Int) < m := by omega
        go_wp2_with fail
        go_round
        case rel => exact ⟨k + 1, by omega, by go_num⟩
        case measure => simp [intOf]; omega
      · have hx : Hid (L.getD k 0 = m) := by show _ = _; rw [← HAT.out]; congr 1; omega
        rw [hx.out] at hcell
        have hmm : ((m : Int) == (m : Int)) = true := by simp
        go_wp2_with fail
        go_ret
        exact ⟨_, _, _, rfl, by rw [E.out]; simpa [natsI_len] using hv0, Bel.rfl' _⟩
  | false =>
    rw [hf, if_neg (by simp)] at hsp
    have E : Hid (natsI (varsTo (setF f m) 12) = natsI (varsTo f m) ++ [(m : Int)] ++ natsI (tailF f m)) := by show _ = _; rw [hset]; simp [natsI]
    have htk : (natsI (varsTo f 12)).take (varsTo f m).length = natsI (varsTo f m) := by rw [hsp]; simp [natsI]
    have hdr : (natsI (varsTo f 12)).drop (varsTo f m).length = natsI (tailF f m) := by rw [hsp]; simp [natsI]
    have hgt : ∀ k, (varsTo f m).length ≤ k → k < (varsTo f 12).length → m < (varsTo f 12).getD k 0 := by
      intro k h1 h2
      rw [hsp] at h2 ⊢
      have h3 : k - (varsTo f m).length < (tailF f m).length := by simp at h2; omega
      have h4 := tail_gt (List.getElem_mem h3)
      simpa [List.getD, List.getElem?_append_right h1, h3] using h4
    have hll : (varsTo f 12).length = (varsTo f m).length + (tailF f m).length := by rw [hsp]; simp
    have HGT := Lib.hid hgt
    have HTK := Lib.hid htk
    have HDR := Lib.hid hdr
    have hown0 : (w.alloc (.cells #[] 3)).ownsRow w.heap.size 3 1 (.slice (some ⟨w.heap.size, 0, none⟩) 0 0) ([] : List Int).length (([] : List Int).map (Value.int .i64)) :=
      World.ownsRow_lit w #[] 0 (Nat.le_refl _) (Nat.zero_le _) rfl
    clear hsp hset hgt htk hdr hlt0
    have hSL := hv0.1
    generalize hLd : varsTo f 12 = L at *
    generalize hAd : varsTo f m = LA at *
    generalize hBd : tailF f m = LB at *
    clear hLd hAd hBd
    have hll1 : L.length ≤ LA.length + LB.length := by omega
    have hll2 : LA.length + LB.length ≤ L.length := by omega
    clear hll
    have hpos : 0 < L.length := hnz
    obtain ⟨b, off, rfl, -, -, hc⟩ := hr hpos
    have hcapl : L.length ≤ cap := by obtain ⟨_, _, e, h, _⟩ := hSL; simp only [Value.slice.injEq] at e; obtain ⟨-, -, rfl⟩ := e; rwa [natsI_len] at h
    have hlA : LA.length ≤ 12 := by omega
    have hlB : LB.length ≤ 12 := by omega
    have hc1 : ∀ w', Bel w w' → SlI lo w.heap.size w' (.slice (some ⟨b, off, none⟩) LA.length cap) (natsI LA) := fun w' hb => by
      have := (hSL.below hb).cut 0 LA.length (by omega) (by rw [natsI_len]; omega)
      simp only [Nat.add_zero, Nat.sub_zero, List.drop_zero] at this
      rwa [HTK.out] at this
    have HC1 := Lib.hid hc1
    have hcell0 : ∀ k, k < L.length → w.cell? ⟨b, off + k, none⟩ = some (.int .i64 ((L.getD k 0 : Nat) : Int)) := fun k hk => by rw [hc k hk, nget _ _ hk]
    have HCELL := Lib.hid hcell0
    have hparts : (LA.length < L.length ∧ LA.length < cap ∧ Hid (∀ w', Bel w w' → SlI lo w.heap.size w' (.slice (some ⟨b, off + LA.length, none⟩) (L.length - LA.length) (cap - LA.length)) (natsI LB))) ∨ (LA.length = L.length ∧ LB.length = 0) := by
      rcases Nat.lt_or_ge LA.length L.length with h1 | h1
      · refine .inl ⟨h1, by omega, fun w' hb => ?_⟩
        have := (hSL.below hb).cut LA.length L.length (by omega) (by rw [natsI_len]; omega)
        rw [HDR.out, List.take_of_length_le (by rw [natsI_len]; omega)] at this
        exact this
      · exact .inr ⟨by omega, by omega⟩
    clear hc hc1 hcell0 hr hSL
    rcases hparts with ⟨hAl, hAc, HC2⟩ | ⟨hAl, hB0⟩
    · have hAl2 : (LA.length : Int) < L.length := by omega
      have hAc2 : (LA.length : Int) < cap := by omega
      go_enter Try.func137, Try.ntmps137
      go_wp2_with fail
      go_loop [5] (fun i => ∃ k : Nat, k ≤ LA.length ∧ i = .int .i64 k) (fun i => LA.length - (intOf i).toNat)
      case atStart => exact ⟨0, Nat.zero_le _, rfl⟩
      case round =>
        obtain ⟨k, hk, rfl⟩ := hrel
        have hcell := HCELL.out k (by omega)
        have hdl : decide ((k : Int) < L.length) = true := by simp; omega
        by_cases hka : k < LA.length
        · have hx := HLT.out k hka
          generalize L.getD k 0 = x at *
          have hx2 : (x : Int) < m := by omega
          go_wp2_with fail
          go_round
          case rel => exact ⟨k + 1, by omega, by go_num⟩
          case measure => simp [intOf]; omega
        · obtain rfl : k = LA.length := by omega
          have hx := HGT.out _ (Nat.le_refl _) hAl
          generalize L.getD LA.length 0 = x at *
          have hx2 : (m : Int) < x := by omega
          have hxm : ((x : Int) == (m : Int)) = false := by rw [beq_eq_false_iff_ne]; omega
          have hxm2 : decide ((x : Int) < (m : Int)) = false := by simp; omega
          go_wp2_with (first | (at_builtin; refine wpList_append_own _ rfl (.tmp 34) (.tmp 37) 24 rfl w.heap.size 3 i0 (.int .i64 0) 1 8 Try.underlying24 hi0 hz0 hz1 hz2 rfl (by decide) _ _ _ rfl hown0 ⟨b, off, none⟩ LA.length cap ((natsI LA).map (Value.int .i64)) rfl (by simp [natsI_len]) (news_of_sl (HC1.out _ (Bel.alloc0 w _))) (ones_int _) (by simp; unfold maxLen; omega) (by simp; omega) (by simp) ?_; intro v1 w1 hown1 hgrow1 _; have hown1b := own_fix (n := LA.length) (xs := natsI LA) (by simp) (by simp) hown1; have hbw1 := (Bel.alloc0 w _).grown hgrow1 (fun k hk => own_base hown0 k hk)) | (at_builtin; refine wpList_append_own _ rfl (.tmp 39) (.tmp 41) 24 rfl w.heap.size 3 i0 (.int .i64 0) 1 8 Try.underlying24 hi0 hz0 hz1 hz2 rfl (by decide) _ _ _ rfl (hown1b.alloc _) ⟨w1.heap.size, 0, none⟩ 1 1 [.int .i64 m] rfl rfl (news_one _ _ _) (one_int _) (by unfold maxLen; omega) (by omega) (by have := hbw1.size; simp; omega) ?_; intro v2 w2 hown2 hgrow2 _; have hbw2 := (hbw1.alloc _).grown hgrow2 (fun k hk => own_base hown1b k hk)) | (at_builtin; refine wpList_append_own _ rfl (.tmp 43) (.tmp 46) 24 rfl w.heap.size 3 i0 (.int .i64 0) 1 8 Try.underlying24 hi0 hz0 hz1 hz2 rfl (by decide) _ _ _ rfl hown2 ⟨b, off + LA.length, none⟩ (L.length - LA.length) (cap - LA.length) ((natsI LB).map (Value.int .i64)) rfl (by simp [natsI_len]; omega) (news_of_sl (HC2.out _ hbw2)) (ones_int _) (by unfold maxLen; omega) (by omega) hbw2.size ?_; intro v3 w3 hown3 hgrow3 _; have hbw3 := hbw2.grown hgrow3 (fun k hk => own_base hown2 k hk)))
          have hown4 : w3.ownsRow w.heap.size 3 1 v3 (natsI LA ++ [(m : Int)] ++ natsI LB).length ((natsI LA ++ [(m : Int)] ++ natsI LB).map (Value.int .i64)) := own_fix (by simp [natsI_len]; omega) (by simp) hown3
          obtain ⟨g, n, c, hv'⟩ := own_form hown4
          subst hv'
          go_ret
          exact ⟨_, _, _, rfl, by rw [E.out]; exact (OwnI.of_row hown4).mono hlo (Nat.le_refl _), hbw3⟩
    · have hAl1 : LA.length ≤ L.length := by omega
      have hAl2 : L.length ≤ LA.length := by omega
      have HB0 := Lib.hid (show LB = [] from List.length_eq_zero_iff.1 hB0)
      clear hAl hB0
      by_cases hqc : cap = LA.length
      · subst hqc
        go_enter Try.func137, Try.ntmps137
        go_wp2_with fail
        go_loop [5] (fun i => ∃ k : Nat, k ≤ LA.length ∧ i = .int .i64 k) (fun i => LA.length - (intOf i).toNat)
        case atStart => exact ⟨0, Nat.zero_le _, rfl⟩
        case round =>
          obtain ⟨k, hk, rfl⟩ := hrel
          by_cases hka : k < LA.length
          · have hcell := HCELL.out k (by omega)
            have hdl : decide ((k : Int) < L.length) = true := by simp; omega
            have hx := HLT.out k hka
            generalize L.getD k 0 = x at *
            have hx2 : (x : Int) < m := by omega
            go_wp2_with fail
            go_round
            case rel => exact ⟨k + 1, by omega, by go_num⟩
            case measure => simp [intOf]; omega
          · obtain rfl : k = LA.length := by omega
            have hdl : decide ((LA.length : Int) < L.length) = false := by simp; omega
            go_wp2_with (first | (at_builtin; refine wpList_append_own _ rfl (.tmp 34) (.tmp 37) 24 rfl w.heap.size 3 i0 (.int .i64 0) 1 8 Try.underlying24 hi0 hz0 hz1 hz2 rfl (by decide) _ _ _ rfl hown0 ⟨b, off, none⟩ LA.length _ ((natsI LA).map (Value.int .i64)) rfl (by simp [natsI_len]) (news_of_sl (HC1.out _ (Bel.alloc0 w _))) (ones_int _) (by simp; unfold maxLen; omega) (by simp; omega) (by simp) ?_; intro v1 w1 hown1 hgrow1 _; have hown1b := own_fix (n := LA.length) (xs := natsI LA) (by simp) (by simp) hown1; have hbw1 := (Bel.alloc0 w _).grown hgrow1 (fun k hk => own_base hown0 k hk)) | (at_builtin; refine wpList_append_own _ rfl (.tmp 39) (.tmp 41) 24 rfl w.heap.size 3 i0 (.int .i64 0) 1 8 Try.underlying24 hi0 hz0 hz1 hz2 rfl (by decide) _ _ _ rfl (hown1b.alloc _) ⟨w1.heap.size, 0, none⟩ 1 1 [.int .i64 m] rfl rfl (news_one _ _ _) (one_int _) (by unfold maxLen; omega) (by omega) (by have := hbw1.size; simp; omega) ?_; intro v2 w2 hown2 hgrow2 _; have hbw2 := (hbw1.alloc _).grown hgrow2 (fun k hk => own_base hown1b k hk)) | (at_builtin; refine wpList_append_own _ rfl (.tmp 43) (.tmp 46) 24 rfl w.heap.size 3 i0 (.int .i64 0) 1 8 Try.underlying24 hi0 hz0 hz1 hz2 rfl (by decide) _ _ _ rfl hown2 _ _ _ [] rfl (by simp; try omega) (by simp) (by simp) (by unfold maxLen; omega) (by omega) hbw2.size ?_; intro v3 w3 hown3 hgrow3 _; have hbw3 := hbw2.grown hgrow3 (fun k hk => own_base hown2 k hk)))
            have hown4 : w3.ownsRow w.heap.size 3 1 v3 (natsI LA ++ [(m : Int)] ++ natsI LB).length ((natsI LA ++ [(m : Int)] ++ natsI LB).map (Value.int .i64)) := own_fix (by rw [HB0.out]; simp [natsI]) (by rw [HB0.out]; simp [natsI]) hown3
            obtain ⟨g, n, c, hv'⟩ := own_form hown4
            subst hv'
            go_ret
            exact ⟨_, _, _, rfl, by rw [E.out]; exact (OwnI.of_row hown4).mono hlo (Nat.le_refl _), hbw3⟩
      · have hAc2 : (LA.length : Int) < cap := by omega
        go_enter Try.func137, Try.ntmps137
        go_wp2_with fail
        go_loop [5] (fun i => ∃ k : Nat, k ≤ LA.length ∧ i = .int .i64 k) (fun i => LA.length - (intOf i).toNat)
        case atStart => exact ⟨0, Nat.zero_le _, rfl⟩
        case round =>
          obtain ⟨k, hk, rfl⟩ := hrel
          by_cases hka : k < LA.length
          · have hcell := HCELL.out k (by omega)
            have hdl : decide ((k : Int) < L.length) = true := by simp; omega
            have hx := HLT.out k hka
            generalize L.getD k 0 = x at *
            have hx2 : (x : Int) < m := by omega
            go_wp2_with fail
            go_round
            case rel => exact ⟨k + 1, by omega, by go_num⟩
            case measure => simp [intOf]; omega
          · obtain rfl : k = LA.length := by omega
            have hdl : decide ((LA.length : Int) < L.length) = false := by simp; omega
            go_wp2_with (first | (at_builtin; refine wpList_append_own _ rfl (.tmp 34) (.tmp 37) 24 rfl w.heap.size 3 i0 (.int .i64 0) 1 8 Try.underlying24 hi0 hz0 hz1 hz2 rfl (by decide) _ _ _ rfl hown0 ⟨b, off, none⟩ LA.length _ ((natsI LA).map (Value.int .i64)) rfl (by simp [natsI_len]) (news_of_sl (HC1.out _ (Bel.alloc0 w _))) (ones_int _) (by simp; unfold maxLen; omega) (by simp; omega) (by simp) ?_; intro v1 w1 hown1 hgrow1 _; have hown1b := own_fix (n := LA.length) (xs := natsI LA) (by simp) (by simp) hown1; have hbw1 := (Bel.alloc0 w _).grown hgrow1 (fun k hk => own_base hown0 k hk)) | (at_builtin; refine wpList_append_own _ rfl (.tmp 39) (.tmp 41) 24 rfl w.heap.size 3 i0 (.int .i64 0) 1 8 Try.underlying24 hi0 hz0 hz1 hz2 rfl (by decide) _ _ _ rfl (hown1b.alloc _) ⟨w1.heap.size, 0, none⟩ 1 1 [.int .i64 m] rfl rfl (news_one _ _ _) (one_int _) (by unfold maxLen; omega) (by omega) (by have := hbw1.size; simp; omega) ?_; intro v2 w2 hown2 hgrow2 _; have hbw2 := (hbw1.alloc _).grown hgrow2 (fun k hk => own_base hown1b k hk)) | (at_builtin; refine wpList_append_own _ rfl (.tmp 43) (.tmp 46) 24 rfl w.heap.size 3 i0 (.int .i64 0) 1 8 Try.underlying24 hi0 hz0 hz1 hz2 rfl (by decide) _ _ _ rfl hown2 _ _ _ [] rfl (by simp; try omega) (by simp) (by simp) (by unfold maxLen; omega) (by omega) hbw2.size ?_; intro v3 w3 hown3 hgrow3 _; have hbw3 := hbw2.grown hgrow3 (fun k hk => own_base hown2 k hk)))
            have hown4 : w3.ownsRow w.heap.size 3 1 v3 (natsI LA ++ [(m : Int)] ++ natsI LB).length ((natsI LA ++ [(m : Int)] ++ natsI LB).map (Value.int .i64)) := own_fix (by rw [HB0.out]; simp [natsI]) (by rw [HB0.out]; simp [natsI]) hown3
            obtain ⟨g, n, c, hv'⟩ := own_form hown4
            subst hv'
            go_ret
            exact ⟨_, _, _, rfl, by rw [E.out]; exact (OwnI.of_row hown4).mono hlo (Nat.le_refl _), hbw3⟩
end Go.Proofs.Ytngdhpelnjckjaa
end
section
namespace Go.Proofs.Ytngdhpelnjckjaa
open Go.RowKit

theorem put_empty {f : Nat → Bool} {m : Nat} (hm : m < 12) (h : varsTo f 12 = []) : natsI (varsTo (setF f m) 12) = [(m : Int)] := by
  have h1 := vars_split f m hm
  rw [h] at h1
  have h2 := List.append_eq_nil_iff.1 h1.symm
  have h3 : tailF f m = [] := by
    have := h2.2
    split at this
    · simp at this
    · exact this
  rw [set_vars f m hm, h2.1, h3]; rfl
theorem put_some (f : Nat → Bool) (m : Nat) (hm : m < 12) : 0 < (varsTo (setF f m) 12).length := by rw [set_vars f m hm]; simp; omega

theorem l1Put_z (z : Int) (lo : Nat) (v : Value) (f : Nat → Bool) (m : Nat) (w : World) (hz : z = m) (hm : m < 12) (hlo : lo ≤ w.heap.size) (hnz : 0 < (varsTo f 12).length) (hv : OwnI lo w.heap.size w v (natsI (varsTo f 12))) :
    Calls Try.prog 137 #[v, .int .i64 z] w (RetO lo w (natsI (varsTo (setF f m) 12))) := by subst hz; exact l1Put_c lo v f m w hm hlo hnz hv
theorem l1Put_nz (z : Int) (m : Nat) (w : World) (hz : z = m) : Calls Try.prog 137 #[.slice none 0 0, .int .i64 z] w (RetR w [(m : Int)]) := by subst hz; exact l1Put_nil m w

set_option maxRecDepth 100000 in
set_option maxHeartbeats 300000 in
theorem l1Vars_c (l h : Nat) (v : Value) (t : List Int) (w : World) (ht : t.length ≤ 1048576) (hlow : ∀ k, k < t.length → -12 ≤ t.getD k 0) (hv : SlI l h w v t) :
    Calls Try.prog 106 #[v] w (RetI w (natsI (varsTo (mk t) 12))) := by
  obtain ⟨ad, cap, rfl, -, -, hr⟩ := hv
  go_enter Try.func106, Try.ntmps106
  go_wp2_with fail
  go_loopw [3, 8] (fun o i wr => ∃ k : Nat, k ≤ t.length ∧ i = .int .i64 k ∧ OwnI w.heap.size wr.heap.size wr o (natsI (varsTo (mk (t.take k)) 12)) ∧ (varsTo (mk (t.take k)) 12 = [] → o = .slice none 0 0) ∧ Bel w wr) (fun _ i _ => t.length - (intOf i).toNat)
  case atStart =>
    have e : varsTo (mk (t.take 0)) 12 = [] := by
      unfold varsTo; rw [List.filter_eq_nil_iff]; intro a _; simp [mk]
    exact ⟨0, Nat.zero_le _, rfl, by rw [e]; exact OwnI.nil _ _ _, fun _ => rfl, Bel.rfl' _⟩
  case round =>
    obtain ⟨k, hk, rfl, hown, hnil, hb⟩ := hrel
    by_cases hlt : k < t.length
    · obtain ⟨b, off, rfl, -, hcell⟩ := rd hr hb k hlt
      have hx12 := hlow k hlt
      have E1 := Lib.hid (fun m => mk_step t k m hlt)
      have E2 := Lib.hid (mk_skip t k hlt)
      clear hr hlow
      generalize t.getD k 0 = x at *
      by_cases hx : x < 0
      · obtain ⟨m, hm⟩ : ∃ m : Nat, -1 - x = m := ⟨(-1 - x).toNat, by omega⟩
        have hm12 : m < 12 := by omega
        have E3 : Hid (mk (t.take (k+1)) = setF (mk (t.take k)) m) := by show _ = _; rw [← E1.out m (by omega)]; rfl
        have HM := Lib.hid hm; clear hm
        cases hl : varsTo (mk (t.take k)) 12 with
        | nil =>
          have ho := hnil hl
          have E4 := Lib.hid (put_empty hm12 hl)
          have E5 := Lib.hid (put_some (mk (t.take k)) m hm12)
          subst ho
          clear hown hnil hl
          go_wp2_with fail
          refine (l1Put_nz (-1 - x) m _ HM.out).mono ?_; rintro e w1 ⟨a1, n1, c1, rfl, ho1, hb1⟩
          go_wp2_with fail
          go_roundw
          case rel => exact ⟨k+1, by omega, by go_num, by rw [E3.out, E4.out]; exact (OwnI.of_row ho1).mono hb.size (Nat.le_refl _), fun h => by rw [E3.out] at h; have := E5.out; rw [h] at this; simp at this, hb.step hb1⟩
          case measure => simp [intOf]; omega
        | cons y ys =>
          have hpos : 0 < (varsTo (mk (t.take k)) 12).length := by rw [hl]; simp
          have E5 := Lib.hid (put_some (mk (t.take k)) m hm12)
          have HO := Lib.hid hown
          clear hown hnil hl
          go_wp2_with fail
          refine (l1Put_z (-1 - x) w.heap.size _ (mk (t.take k)) m _ HM.out hm12 hb.size hpos HO.out).mono ?_; rintro e w1 ⟨a1, n1, c1, rfl, ho1, hb1⟩
          go_wp2_with fail
          go_roundw
          case rel => exact ⟨k+1, by omega, by go_num, by rw [E3.out]; exact ho1, fun h => by rw [E3.out] at h; have := E5.out; rw [h] at this; simp at this, hb.step hb1⟩
          case measure => simp [intOf]; omega
      · have HO := Lib.hid hown
        have HN := Lib.hid hnil
        clear hown hnil
        go_wp2_with fail
        go_roundw
        case rel => exact ⟨k+1, by omega, by go_num, by rw [← E2.out (by omega)]; exact HO.out, by rw [← E2.out (by omega)]; exact HN.out, hb⟩
        case measure => simp [intOf]; omega
    · rw [show t.take k = t from List.take_of_length_le (by omega)] at hown
      obtain ⟨g, n, hv'⟩ := hown.1.form
      subst hv'
      have HO := Lib.hid hown
      clear hown hnil
      go_wp2_with fail
      go_ret
      exact ⟨_, _, _, rfl, HO.out, hb⟩

theorem sVarsOf_t {l h l' h' : Nat} {v u : Value} {ar t : List Int} {w : World} (ha : ar.length ≤ 1048576) (hv : SlI l h w v ar) (ht : t.length ≤ 1048576) (hu : SlI l' h' w u t) :
    Calls Try.prog 38 #[.agg #[v], u] w (RetIB w (varsAns ar t) (goodTerm ar t)) := by
  cases hs : goodTerm ar t with
  | false =>
    have E := Lib.hid (vars_no hs)
    have HS := Lib.hid hs; clear hs
    go_enter Try.func38, Try.ntmps38
    go_wp2_with fail
    refine (sGoodTerm_v _ _ _ _ _ _ _ _ _ _ HS.out ha ht (hv.alloc _) (hu.alloc _)).mono ?_; rintro e w' ⟨rfl, hb1⟩
    go_wp2_with fail
    go_ret2
    exact ⟨_, _, _, rfl, by rw [E.out]; exact OwnI.nil _ _ _, hb1.of_alloc⟩
  | true =>
    have E := Lib.hid (vars_yes hs)
    have HLOW := Lib.hid (low_of_good hs)
    have HS := Lib.hid hs; clear hs
    go_enter Try.func38, Try.ntmps38
    go_wp2_with fail
    refine (sGoodTerm_v _ _ _ _ _ _ _ _ _ _ HS.out ha ht (hv.alloc _) (hu.alloc _)).mono ?_; rintro e w' ⟨rfl, hb1⟩
    go_wp2_with fail
    refine (l1Vars_c _ _ _ t _ ht HLOW.out (hu.below hb1.of_alloc)).mono ?_; rintro e w2 ⟨ad, n, c, rfl, ho, hb2⟩
    go_wp2_with fail
    go_ret2
    exact ⟨_, _, _, rfl, by rw [E.out]; exact ho.mono (by have := hb1.size; simp at this; omega) (Nat.le_refl _), hb1.of_alloc.step hb2⟩
end Go.Proofs.Ytngdhpelnjckjaa
end
section
/- Slices of ints compared: three functions of one shape. -/
namespace Go.Proofs.Ytngdhpelnjckjaa
open Go.RowKit

set_option maxRecDepth 100000 in
set_option maxHeartbeats 400000 in
theorem l1Same_c (l h l' h' : Nat) (v u : Value) (xs ys : List Int) (w : World) (hx : xs.length ≤ 1048576) (hy : ys.length ≤ 1048576) (hv : SlI l h w v xs) (hu : SlI l' h' w u ys) :
    Calls Try.prog 125 #[v, u] w (RetV w (.bool (decide (xs = ys)))) := by
  obtain ⟨ad, cap, rfl, -, -, hr⟩ := hv
  obtain ⟨ad', cap', rfl, -, -, hr'⟩ := hu
  by_cases hl : (xs.length : Int) = ys.length
  · have hl1 : xs.length = ys.length := by omega
    have hl' : ((xs.length : Int) != ys.length) = false := by simpa using hl
    have HL := Lib.hid hl1
    clear hl hl1
    go_enter Try.func125, Try.ntmps125
    go_wp2_with fail
    go_loopw [13] (fun i wr => ∃ k : Nat, k ≤ xs.length ∧ i = .int .i64 k ∧ xs.take k = ys.take k ∧ Bel w wr) (fun i _ => xs.length - (intOf i).toNat)
    case atStart => exact ⟨0, Nat.zero_le _, rfl, rfl, Bel.rfl' _⟩
    case round =>
      obtain ⟨k, hk, rfl, ha, hb⟩ := hrel
      by_cases hlt : k < xs.length
      · have hlt2 : k < ys.length := by rw [← HL.out]; exact hlt
        obtain ⟨b, off, rfl, -, hcell⟩ := rd hr hb k hlt
        obtain ⟨b', off', rfl, -, hcell'⟩ := rd hr' hb k hlt2
        have E1 := Lib.hid (take_eq_succ xs ys k hlt hlt2 ha)
        have E2 := Lib.hid (take_ne xs ys k)
        clear hr hr' ha
        generalize xs.getD k 0 = x at *
        generalize ys.getD k 0 = y at *
        by_cases hxy : x = y
        · have E3 := Lib.hid (E1.out hxy)
          clear E1 E2
          subst hxy
          go_wp2_with fail
          go_quiet (fail)
          go_wp2
          go_roundw
          case rel => exact ⟨k+1, by omega, by go_num, E3.out, hb.drewN _⟩
          case measure => simp [intOf]; omega
        · have e1 : Hid (decide (xs = ys) = false) := by show decide (xs = ys) = false; simpa using E2.out hlt hlt2 hxy
          have hxy' : (x != y) = true := by simpa using hxy
          clear hxy
          go_wp2_with fail
          go_quiet (fail)
          go_wp2
          go_ret
          exact ⟨by rw [e1.out]; rfl, hb.drewN _⟩
      · have HA := Lib.hid ha; clear ha
        have e1 : Hid (decide (xs = ys) = true) := by
          show decide (xs = ys) = true
          have h1 := HA.out
          rw [List.take_of_length_le (by omega), List.take_of_length_le (by rw [← HL.out]; omega)] at h1
          simpa using h1
        go_wp2_with fail
        go_ret
        exact ⟨by rw [e1.out]; rfl, hb⟩
  · have e1 : Hid (decide (xs = ys) = false) := by show decide (xs = ys) = false; simp; rintro rfl; exact hl rfl
    have hl' : ((xs.length : Int) != ys.length) = true := by simpa using hl
    clear hl
    go_enter Try.func125, Try.ntmps125
    go_wp2_with fail
    go_ret
    exact ⟨by rw [e1.out]; rfl, Bel.rfl' _⟩
theorem l1Same_v (l h l' h' : Nat) (v u : Value) (xs ys : List Int) (q : Bool) (w : World) (he : decide (xs = ys) = q) (hx : xs.length ≤ 1048576) (hy : ys.length ≤ 1048576) (hv : SlI l h w v xs) (hu : SlI l' h' w u ys) :
    Calls Try.prog 125 #[v, u] w (RetV w (.bool q)) := he ▸ l1Same_c l h l' h' v u xs ys w hx hy hv hu
theorem l1Same_same (l h l' h' : Nat) (v u : Value) (xs : List Int) (w : World) (hx : xs.length ≤ 1048576) (hv : SlI l h w v xs) (hu : SlI l' h' w u xs) :
    Calls Try.prog 125 #[v, u] w (RetV w (.bool true)) := l1Same_v l h l' h' v u xs xs true w (by simp) hx hx hv hu

set_option maxRecDepth 100000 in
set_option maxHeartbeats 400000 in
theorem slEqual_c (l h l' h' : Nat) (v u : Value) (xs ys : List Int) (w : World) (hx : xs.length ≤ 1048576) (hy : ys.length ≤ 1048576) (hv : SlI l h w v xs) (hu : SlI l' h' w u ys) :
    Calls Try.prog 116 #[v, u] w (RetV w (.bool (decide (xs = ys)))) := by
  obtain ⟨ad, cap, rfl, -, -, hr⟩ := hv
  obtain ⟨ad', cap', rfl, -, -, hr'⟩ := hu
  by_cases hl : (xs.length : Int) = ys.length
  · have hl1 : xs.length = ys.length := by omega
    have hl' : ((xs.length : Int) != ys.length) = false := by simpa using hl
    have HL := Lib.hid hl1
    clear hl hl1
    go_enter Try.func116, Try.ntmps116
    go_wp2_with fail
    go_loopw [13] (fun i wr => ∃ k : Nat, k ≤ xs.length ∧ i = .int .i64 k ∧ xs.take k = ys.take k ∧ Bel w wr) (fun i _ => xs.length - (intOf i).toNat)
    case atStart => exact ⟨0, Nat.zero_le _, rfl, rfl, Bel.rfl' _⟩
    case round =>
      obtain ⟨k, hk, rfl, ha, hb⟩ := hrel
      by_cases hlt : k < xs.length
      · have hlt2 : k < ys.length := by rw [← HL.out]; exact hlt
        obtain ⟨b, off, rfl, -, hcell⟩ := rd hr hb k hlt
        obtain ⟨b', off', rfl, -, hcell'⟩ := rd hr' hb k hlt2
        have E1 := Lib.hid (take_eq_succ xs ys k hlt hlt2 ha)
        have E2 := Lib.hid (take_ne xs ys k)
        clear hr hr' ha
        generalize xs.getD k 0 = x at *
        generalize ys.getD k 0 = y at *
        by_cases hxy : x = y
        · have E3 := Lib.hid (E1.out hxy)
          clear E1 E2
          subst hxy
          go_wp2_with fail
          go_quiet (fail)
          go_wp2
          go_roundw
          case rel => exact ⟨k+1, by omega, by go_num, E3.out, hb.drewN _⟩
          case measure => simp [intOf]; omega
        · have e1 : Hid (decide (xs = ys) = false) := by show decide (xs = ys) = false; simpa using E2.out hlt hlt2 hxy
          have hxy' : (x != y) = true := by simpa using hxy
          clear hxy
          go_wp2_with fail
          go_quiet (fail)
          go_wp2
          go_ret
          exact ⟨by rw [e1.out]; rfl, hb.drewN _⟩
      · have HA := Lib.hid ha; clear ha
        have e1 : Hid (decide (xs = ys) = true) := by
          show decide (xs = ys) = true
          have h1 := HA.out
          rw [List.take_of_length_le (by omega), List.take_of_length_le (by rw [← HL.out]; omega)] at h1
          simpa using h1
        go_wp2_with fail
        go_ret
        exact ⟨by rw [e1.out]; rfl, hb⟩
  · have e1 : Hid (decide (xs = ys) = false) := by show decide (xs = ys) = false; simp; rintro rfl; exact hl rfl
    have hl' : ((xs.length : Int) != ys.length) = true := by simpa using hl
    clear hl
    go_enter Try.func116, Try.ntmps116
    go_wp2_with fail
    go_ret
    exact ⟨by rw [e1.out]; rfl, Bel.rfl' _⟩
theorem slEqual_v (l h l' h' : Nat) (v u : Value) (xs ys : List Int) (q : Bool) (w : World) (he : decide (xs = ys) = q) (hx : xs.length ≤ 1048576) (hy : ys.length ≤ 1048576) (hv : SlI l h w v xs) (hu : SlI l' h' w u ys) :
    Calls Try.prog 116 #[v, u] w (RetV w (.bool q)) := he ▸ slEqual_c l h l' h' v u xs ys w hx hy hv hu
theorem slEqual_same (l h l' h' : Nat) (v u : Value) (xs : List Int) (w : World) (hx : xs.length ≤ 1048576) (hv : SlI l h w v xs) (hu : SlI l' h' w u xs) :
    Calls Try.prog 116 #[v, u] w (RetV w (.bool true)) := slEqual_v l h l' h' v u xs xs true w (by simp) hx hx hv hu

set_option maxRecDepth 100000 in
set_option maxHeartbeats 400000 in
theorem sameInts_c (l h l' h' : Nat) (v u : Value) (xs ys : List Int) (w : World) (hx : xs.length ≤ 1048576) (hy : ys.length ≤ 1048576) (hv : SlI l h w v xs) (hu : SlI l' h' w u ys) :
    Calls Try.prog 27 #[v, u] w (RetV w (.bool (decide (xs = ys)))) := by
  obtain ⟨ad, cap, rfl, -, -, hr⟩ := hv
  obtain ⟨ad', cap', rfl, -, -, hr'⟩ := hu
  by_cases hl : (xs.length : Int) = ys.length
  · have hl1 : xs.length = ys.length := by omega
    have hl' : ((xs.length : Int) != ys.length) = false := by simpa using hl
    have HL := Lib.hid hl1
    clear hl hl1
    go_enter Try.func27, Try.ntmps27
    go_wp2_with fail
    go_loopw [13] (fun i wr => ∃ k : Nat, k ≤ xs.length ∧ i = .int .i64 k ∧ xs.take k = ys.take k ∧ Bel w wr) (fun i _ => xs.length - (intOf i).toNat)
    case atStart => exact ⟨0, Nat.zero_le _, rfl, rfl, Bel.rfl' _⟩
    case round =>
      obtain ⟨k, hk, rfl, ha, hb⟩ := hrel
      by_cases hlt : k < xs.length
      · have hlt2 : k < ys.length := by rw [← HL.out]; exact hlt
        obtain ⟨b, off, rfl, -, hcell⟩ := rd hr hb k hlt
        obtain ⟨b', off', rfl, -, hcell'⟩ := rd hr' hb k hlt2
        have E1 := Lib.hid (take_eq_succ xs ys k hlt hlt2 ha)
        have E2 := Lib.hid (take_ne xs ys k)
        clear hr hr' ha
        generalize xs.getD k 0 = x at *
        generalize ys.getD k 0 = y at *
        by_cases hxy : x = y
        · have E3 := Lib.hid (E1.out hxy)
          clear E1 E2
          subst hxy
          go_wp2_with fail
          go_quiet (fail)
          go_wp2
          go_roundw
          case rel => exact ⟨k+1, by omega, by go_num, E3.out, hb.drewN _⟩
          case measure => simp [intOf]; omega
        · have e1 : Hid (decide (xs = ys) = false) := by show decide (xs = ys) = false; simpa using E2.out hlt hlt2 hxy
          have hxy' : (x != y) = true := by simpa using hxy
          clear hxy
          go_wp2_with fail
          go_quiet (fail)
          go_wp2
          go_ret
          exact ⟨by rw [e1.out]; rfl, hb.drewN _⟩
      · have HA := Lib.hid ha; clear ha
        have e1 : Hid (decide (xs = ys) = true) := by
          show decide (xs = ys) = true
          have h1 := HA.out
          rw [List.take_of_length_le (by omega), List.take_of_length_le (by rw [← HL.out]; omega)] at h1
          simpa using h1
        go_wp2_with fail
        go_ret
        exact ⟨by rw [e1.out]; rfl, hb⟩
  · have e1 : Hid (decide (xs = ys) = false) := by show decide (xs = ys) = false; simp; rintro rfl; exact hl rfl
    have hl' : ((xs.length : Int) != ys.length) = true := by simpa using hl
    clear hl
    go_enter Try.func27, Try.ntmps27
    go_wp2_with fail
    go_ret
    exact ⟨by rw [e1.out]; rfl, Bel.rfl' _⟩
theorem sameInts_v (l h l' h' : Nat) (v u : Value) (xs ys : List Int) (q : Bool) (w : World) (he : decide (xs = ys) = q) (hx : xs.length ≤ 1048576) (hy : ys.length ≤ 1048576) (hv : SlI l h w v xs) (hu : SlI l' h' w u ys) :
    Calls Try.prog 27 #[v, u] w (RetV w (.bool q)) := he ▸ sameInts_c l h l' h' v u xs ys w hx hy hv hu
theorem sameInts_same (l h l' h' : Nat) (v u : Value) (xs : List Int) (w : World) (hx : xs.length ≤ 1048576) (hv : SlI l h w v xs) (hu : SlI l' h' w u xs) :
    Calls Try.prog 27 #[v, u] w (RetV w (.bool true)) := sameInts_v l h l' h' v u xs xs true w (by simp) hx hx hv hu

theorem sameTerm_same (l h l' h' : Nat) (v u : Value) (xs : List Int) (w : World) (hx : xs.length ≤ 1048576) (hv : SlI l h w v xs) (hu : SlI l' h' w u xs) :
    Calls Try.prog 26 #[v, u] w (RetV w (.bool true)) := by
  have HC := Lib.hid (sameInts_same l h l' h' v u xs w hx hv hu)
  clear hv hu
  go_enter Try.func26, Try.ntmps26
  go_wp2_with (go_at_call 27; refine HC.out.mono ?_; rintro e w' ⟨rfl, hb1⟩)
  go_ret
  exact ⟨rfl, hb1⟩
end Go.Proofs.Ytngdhpelnjckjaa
end
section
/- Slices of slices of ints: read (SlS), or of the call's own, each in blocks of its own (OwnS); marks. No program. -/
namespace Go.Proofs.Ytngdhpelnjckjaa
open Go.RowKit

/-- The slice value v holds slices of ints. -/
def SlS (lo hi : Nat) (w : World) (v : Value) (xss : List (List Int)) : Prop :=
  ∃ ad cap, v = .slice ad xss.length cap ∧ xss.length ≤ cap ∧ (cap ≤ maxLen ∧ (ad = none → cap = 0)) ∧
    (0 < xss.length → ∃ b off, ad = some ⟨b, off, none⟩ ∧ lo ≤ b ∧ b < hi ∧ ∀ j, j < xss.length → ∃ u, w.cell? ⟨b, off + j, none⟩ = some u ∧ SlI lo hi w u (xss.getD j []))

theorem SlI.empty {lo hi lo' hi' w w' v} (h : SlI lo hi w v []) : SlI lo' hi' w' v [] := by
  obtain ⟨ad, cap, e, hc, hm, _⟩ := h
  exact ⟨ad, cap, e, hc, hm, fun h => absurd h (by simp)⟩
theorem OwnI.empty {lo hi lo' hi' w w' v} (h : OwnI lo hi w v []) : OwnI lo' hi' w' v [] := by
  refine ⟨h.1.empty, fun b off n c hv hn => ?_⟩
  obtain ⟨ad, cap, e, _⟩ := h.1
  rw [e] at hv; simp at hv; omega
theorem len0 {xs : List Int} (h : ¬ 0 < xs.length) : xs = [] := List.length_eq_zero_iff.1 (by omega)
theorem SlS.form {lo hi w v xss} (h : SlS lo hi w v xss) : ∃ ad c, v = .slice ad xss.length c := by obtain ⟨ad, c, h, _⟩ := h; exact ⟨ad, c, h⟩
theorem SlS.mono {lo hi lo' hi' w v xss} (h : SlS lo hi w v xss) (h1 : lo' ≤ lo) (h2 : hi ≤ hi') : SlS lo' hi' w v xss := by
  obtain ⟨ad, cap, rfl, hc, hm, hr⟩ := h
  refine ⟨ad, cap, rfl, hc, hm, fun hp => ?_⟩
  obtain ⟨b, off, e, a1, a2, a3⟩ := hr hp
  refine ⟨b, off, e, by omega, by omega, fun j hj => ?_⟩
  obtain ⟨u, hu, hs⟩ := a3 j hj
  exact ⟨u, hu, hs.mono h1 h2⟩
theorem SlS.same {lo hi w w' v xss} (h : SlS lo hi w v xss) (hs : ∀ b, lo ≤ b → b < hi → b < w.heap.size → w'.heap[b]? = w.heap[b]?) : SlS lo hi w' v xss := by
  obtain ⟨ad, cap, rfl, hc, hm, hr⟩ := h
  refine ⟨ad, cap, rfl, hc, hm, fun hp => ?_⟩
  obtain ⟨b, off, e, a1, a2, a3⟩ := hr hp
  refine ⟨b, off, e, a1, a2, fun j hj => ?_⟩
  obtain ⟨u, hu, hq⟩ := a3 j hj
  have hb : b < w.heap.size := World.block_lt_of_cell? w ⟨b, off + j, none⟩ hu
  refine ⟨u, ?_, hq.same hs⟩
  rw [World.cell?_of_block (w := w) (a := ⟨b, off + j, none⟩) (hs b a1 a2 hb)]
  exact hu
theorem SlS.below {lo hi w w' v xss} (h : SlS lo hi w v xss) (hb : Bel w w') : SlS lo hi w' v xss := h.same fun b _ _ h3 => hb.block b h3
theorem SlS.alloc {lo hi w v xss} (h : SlS lo hi w v xss) (o : Obj) : SlS lo hi (w.alloc o) v xss := h.below (Bel.alloc0 w o)
theorem SlS.k {lo hi w v xss} (h : SlS lo hi w v xss) : K (fun w => SlS lo hi w v xss) w := fun _ hb => h.below hb
theorem SlS.chg {lo hi lo' hi' w w' v xss} (h : SlS lo hi w v xss) (k : Chg lo' hi' w w') (hd : hi ≤ lo' ∨ hi' ≤ lo) : SlS lo hi w' v xss :=
  h.same fun b h1 h2 h3 => k.block b h3 (by omega)
theorem SlS.nil (lo hi : Nat) (w : World) : SlS lo hi w (.slice none 0 0) [] := ⟨none, 0, rfl, Nat.le_refl _, ⟨Nat.zero_le _, fun _ => rfl⟩, fun h => absurd h (by simp)⟩
/-- Reading the k-th. -/
theorem SlS.at {lo hi : Nat} {w wr : World} {ad : Option Addr} {c n : Nat} {xss : List (List Int)} (h : SlS lo hi w (.slice ad n c) xss) (hb : Bel w wr) (k : Nat) (hk : k < xss.length) :
    ∃ b off u, ad = some ⟨b, off, none⟩ ∧ b < w.heap.size ∧ wr.cell? ⟨b, off + k, none⟩ = some u ∧ SlI lo hi wr u (xss.getD k []) := by
  obtain ⟨ad', cap, e, _, _, hr⟩ := h
  obtain ⟨b, off, e2, _, _, hc⟩ := hr (by omega)
  obtain ⟨u, hu, hs⟩ := hc k hk
  have h1 := World.block_lt_of_cell? w ⟨b, off + k, none⟩ hu
  simp only [Value.slice.injEq] at e
  exact ⟨b, off, u, e.1.trans e2, h1, (hb.cell (p := ⟨b, off + k, none⟩) h1).trans hu, hs.below hb⟩
theorem SlS.len {lo hi : Nat} {w : World} {ad : Option Addr} {c n : Nat} {xss : List (List Int)} (h : SlS lo hi w (.slice ad n c) xss) : n = xss.length := by
  obtain ⟨ad', cap, e, _⟩ := h
  simp only [Value.slice.injEq] at e
  exact e.2.1
theorem SlS.max {lo hi w v xss} (h : SlS lo hi w v xss) : xss.length ≤ 9223372036854775807 ∧ ∀ j, j < xss.length → (xss.getD j []).length ≤ 9223372036854775807 := by
  obtain ⟨ad, cap, e, hc, hm, hr⟩ := h
  have hml : maxLen = 9223372036854775807 := rfl
  refine ⟨by omega, fun j hj => ?_⟩
  obtain ⟨b, off, _, _, _, hx⟩ := hr (by omega)
  obtain ⟨u, _, ad2, cap2, _, hc2, hm2, _⟩ := hx j hj
  omega

/-- The elements us of a row in block b: slices of the call's own, each in a block of its own. -/
structure Ins (lo hi b : Nat) (w : World) (us : List Value) (xss : List (List Int)) (bs : Nat → Nat) : Prop where
  len : us.length = xss.length
  rng : ∀ j, j < xss.length → 0 < (xss.getD j []).length → lo ≤ bs j ∧ bs j < hi ∧ bs j ≠ b
  inj : ∀ i j, i < j → j < xss.length → 0 < (xss.getD i []).length → 0 < (xss.getD j []).length → bs i ≠ bs j
  own : ∀ j u, us[j]? = some u → OwnI (bs j) (bs j + 1) w u (xss.getD j [])
def OwnS (lo hi : Nat) (w : World) (v : Value) (xss : List (List Int)) : Prop :=
  ∃ ad cap, v = .slice ad xss.length cap ∧ xss.length ≤ cap ∧ (cap ≤ maxLen ∧ (ad = none → cap = 0)) ∧
    (0 < xss.length → ∃ b off us bs, ad = some ⟨b, off, none⟩ ∧ lo ≤ b ∧ b < hi ∧ (∀ j u, us[j]? = some u → w.cell? ⟨b, off + j, none⟩ = some u) ∧ Ins lo hi b w us xss bs)

theorem OwnI.block {lo hi w v xs} (h : OwnI lo hi w v xs) : ∃ c, OwnI c (c + 1) w v xs ∧ (0 < xs.length → lo ≤ c ∧ c < hi) := by
  obtain ⟨⟨ad, cap, rfl, hc, hm, hr⟩, hf⟩ := h
  by_cases hp : 0 < xs.length
  · obtain ⟨b, off, e, a1, a2, a3⟩ := hr hp
    exact ⟨b, ⟨⟨ad, cap, rfl, hc, hm, fun _ => ⟨b, off, e, Nat.le_refl _, Nat.lt_succ_self _, a3⟩⟩, hf⟩, fun _ => ⟨a1, a2⟩⟩
  · exact ⟨0, ⟨⟨ad, cap, rfl, hc, hm, fun h => absurd h hp⟩, hf⟩, fun h => absurd h hp⟩
theorem Ins.sl {lo hi b w us xss bs} (h : Ins lo hi b w us xss bs) (j : Nat) (u : Value) (hj : us[j]? = some u) : SlI lo hi w u (xss.getD j []) := by
  have ho := h.own j u hj
  have hlt : j < xss.length := by rw [← h.len]; exact (List.getElem?_eq_some_iff.1 hj).1
  by_cases hp : 0 < (xss.getD j []).length
  · obtain ⟨a1, a2, _⟩ := h.rng j hlt hp
    exact ho.1.mono a1 (by omega)
  · rw [len0 hp] at ho ⊢
    exact ho.1.empty
theorem OwnS.sl {lo hi w v xss} (h : OwnS lo hi w v xss) : SlS lo hi w v xss := by
  obtain ⟨ad, cap, rfl, hc, hm, hr⟩ := h
  refine ⟨ad, cap, rfl, hc, hm, fun hp => ?_⟩
  obtain ⟨b, off, us, bs, e, a1, a2, a3, hi⟩ := hr hp
  refine ⟨b, off, e, a1, a2, fun j hj => ?_⟩
  have hl := hi.len
  have hj2 : us[j]? = some us[j] := List.getElem?_eq_getElem (by omega)
  exact ⟨us[j], a3 j _ hj2, hi.sl j _ hj2⟩
theorem Ins.same {lo hi b w w' us xss bs} (h : Ins lo hi b w us xss bs) (hs : ∀ b, lo ≤ b → b < hi → b < w.heap.size → w'.heap[b]? = w.heap[b]?) : Ins lo hi b w' us xss bs := by
  refine ⟨h.len, h.rng, h.inj, fun j u hj => ?_⟩
  have ho := h.own j u hj
  have hlt : j < xss.length := by rw [← h.len]; exact (List.getElem?_eq_some_iff.1 hj).1
  by_cases hp : 0 < (xss.getD j []).length
  · obtain ⟨a1, a2, _⟩ := h.rng j hlt hp
    exact ho.same fun b h1 h2 h3 => hs b (by omega) (by omega) h3
  · rw [len0 hp] at ho ⊢
    exact ho.empty
theorem Ins.below {lo hi b w w' us xss bs} (h : Ins lo hi b w us xss bs) (hb : Bel w w') : Ins lo hi b w' us xss bs := h.same fun b _ _ h3 => hb.block b h3
theorem Ins.mono {lo hi lo' hi' b w us xss bs} (h : Ins lo hi b w us xss bs) (h1 : lo' ≤ lo) (h2 : hi ≤ hi') : Ins lo' hi' b w us xss bs :=
  ⟨h.len, fun j hj hp => by have := h.rng j hj hp; omega, h.inj, h.own⟩
theorem OwnS.same {lo hi w w' v xss} (h : OwnS lo hi w v xss) (hs : ∀ b, lo ≤ b → b < hi → b < w.heap.size → w'.heap[b]? = w.heap[b]?) : OwnS lo hi w' v xss := by
  obtain ⟨ad, cap, rfl, hc, hm, hr⟩ := h
  refine ⟨ad, cap, rfl, hc, hm, fun hp => ?_⟩
  obtain ⟨b, off, us, bs, e, a1, a2, a3, hi⟩ := hr hp
  refine ⟨b, off, us, bs, e, a1, a2, fun j u hj => ?_, hi.same hs⟩
  have hb : b < w.heap.size := World.block_lt_of_cell? w ⟨b, off + j, none⟩ (a3 j u hj)
  rw [World.cell?_of_block (w := w) (a := ⟨b, off + j, none⟩) (hs b a1 a2 hb)]
  exact a3 j u hj
theorem OwnS.below {lo hi w w' v xss} (h : OwnS lo hi w v xss) (hb : Bel w w') : OwnS lo hi w' v xss := h.same fun b _ _ h3 => hb.block b h3
theorem OwnS.alloc {lo hi w v xss} (h : OwnS lo hi w v xss) (o : Obj) : OwnS lo hi (w.alloc o) v xss := h.below (Bel.alloc0 w o)
theorem OwnS.k {lo hi w v xss} (h : OwnS lo hi w v xss) : K (fun w => OwnS lo hi w v xss) w := fun _ hb => h.below hb
theorem OwnS.chg {lo hi lo' hi' w w' v xss} (h : OwnS lo hi w v xss) (k : Chg lo' hi' w w') (hd : hi ≤ lo' ∨ hi' ≤ lo) : OwnS lo hi w' v xss :=
  h.same fun b h1 h2 h3 => k.block b h3 (by omega)
theorem OwnS.mono {lo hi lo' hi' w v xss} (h : OwnS lo hi w v xss) (h1 : lo' ≤ lo) (h2 : hi ≤ hi') : OwnS lo' hi' w v xss := by
  obtain ⟨ad, cap, rfl, hc, hm, hr⟩ := h
  refine ⟨ad, cap, rfl, hc, hm, fun hp => ?_⟩
  obtain ⟨b, off, us, bs, e, a1, a2, a3, hi⟩ := hr hp
  exact ⟨b, off, us, bs, e, by omega, by omega, a3, hi.mono h1 h2⟩
theorem OwnS.nil (lo hi : Nat) (w : World) : OwnS lo hi w (.slice none 0 0) [] := ⟨none, 0, rfl, Nat.le_refl _, ⟨Nat.zero_le _, fun _ => rfl⟩, fun h => absurd h (by simp)⟩

theorem Ins.none (lo hi b : Nat) (w : World) : Ins lo hi b w [] [] (fun _ => 0) := ⟨rfl, fun j h => absurd h (by simp), fun i j _ h => absurd h (by simp), fun j u h => by simp at h⟩
/-- One more, in a newer block. -/
theorem Ins.snoc {lo hi b : Nat} {w : World} {us : List Value} {xss : List (List Int)} {bs : Nat → Nat} (h : Ins lo hi b w us xss bs) {l2 h2 : Nat} {u : Value} {xs : List Int} (ho : OwnI l2 h2 w u xs)
    (hl : hi ≤ l2) (hlo : lo ≤ l2) (hbl : b < l2 ∨ h2 ≤ b) {hi2 : Nat} (h1 : h2 ≤ hi2) (h3 : hi ≤ hi2) : ∃ bs', Ins lo hi2 b w (us ++ [u]) (xss ++ [xs]) bs' := by
  obtain ⟨c, hc, hr⟩ := ho.block
  have hn := h.len
  refine ⟨fun j => if j = xss.length then c else bs j, by simp [hn], fun j hj hp => ?_, fun i j hij hj hpi hpj => ?_, fun j v hj => ?_⟩
  · by_cases e : j = xss.length
    · subst e
      simp only [List.getD, List.getElem?_append_right (Nat.le_refl _), Nat.sub_self, List.getElem?_cons_zero, Option.getD_some] at hp
      have := hr hp
      simp only [if_true]
      omega
    · have hlt : j < xss.length := by simp at hj; omega
      simp only [List.getD, List.getElem?_append_left hlt] at hp
      have := h.rng j hlt hp
      simp only [e, if_false]
      omega
  · have hilt : i < xss.length := by simp at hj; omega
    simp only [List.getD, List.getElem?_append_left hilt] at hpi
    by_cases e : j = xss.length
    · subst e
      simp only [List.getD, List.getElem?_append_right (Nat.le_refl _), Nat.sub_self, List.getElem?_cons_zero, Option.getD_some] at hpj
      have h5 := hr hpj
      have h6 := h.rng i hilt hpi
      simp only [if_true]
      rw [if_neg (by omega)]
      omega
    · have hlt : j < xss.length := by simp at hj; omega
      simp only [List.getD, List.getElem?_append_left hlt] at hpj
      simp only [e, if_false]
      rw [if_neg (by omega)]
      exact h.inj i j hij hlt hpi hpj
  · by_cases e : j = xss.length
    · subst e
      rw [List.getElem?_append_right (by omega), hn, Nat.sub_self] at hj
      simp only [List.getElem?_cons_zero, Option.some.injEq] at hj
      subst hj
      simpa [List.getD] using hc
    · have hlt : j < us.length := by
        have := (List.getElem?_eq_some_iff.1 hj).1
        simp at this; omega
      rw [List.getElem?_append_left hlt] at hj
      have := h.own j v hj
      simp only [e, if_false]
      simpa [List.getD, List.getElem?_append_left (show j < xss.length by omega)] using this

/-- A row that the call itself made, as a slice of slices. -/
theorem OwnS.of_row {w : World} {base e hi : Nat} {v : Value} {us : List Value} {xss : List (List Int)} {bs : Nat → Nat} (h : w.ownsRow base e 1 v xss.length us) (hi' : w.heap.size ≤ hi)
    (hin : ∀ g, v.ownBlock = some g → Ins base hi g w us xss bs) : OwnS base hi w v xss := by
  have h0 := h
  obtain ⟨h1, h2⟩ := h
  rcases h2 with ⟨rfl, hn⟩ | ⟨g, cap, cur, rfl, hg, hh, hn, hc, hs, ht⟩
  · obtain rfl : xss = [] := List.length_eq_zero_iff.1 hn
    exact OwnS.nil _ _ _
  · have hgs : g < w.heap.size := (Array.getElem?_eq_some_iff.1 hh).1
    refine ⟨_, cap, rfl, hn, ⟨hc, fun h => by simp at h⟩, fun hp => ⟨g, 0, us, bs, rfl, hg, by omega, fun j u hj => ?_, hin g rfl⟩⟩
    rw [Nat.zero_add, h0.cellAt j (by have := (List.getElem?_eq_some_iff.1 hj).1; omega)]
    exact hj

def sumL (xss : List (List Int)) : Nat := (xss.map List.length).sum
theorem sumL_take (xss : List (List Int)) (k : Nat) (h : k < xss.length) : sumL (xss.take (k+1)) = sumL (xss.take k) + (xss.getD k []).length := by
  unfold sumL
  rw [List.take_succ_eq_append_getElem h, List.map_append, List.sum_append]
  simp [List.getD, h]
theorem sumL_all (xss : List (List Int)) (k : Nat) (h : ¬ k < xss.length) : sumL (xss.take k) = sumL xss := by rw [List.take_of_length_le (by omega)]
theorem sumL_le (xss : List (List Int)) (k : Nat) : sumL (xss.take k) ≤ sumL xss := by
  conv => rhs; rw [← List.take_append_drop k xss]
  unfold sumL
  rw [List.map_append, List.sum_append]
  omega
theorem sumL_get (xss : List (List Int)) (k : Nat) (h : k < xss.length) : sumL (xss.take k) + (xss.getD k []).length ≤ sumL xss := by
  rw [← sumL_take xss k h]; exact sumL_le _ _
def tot (xss : List (List Int)) : Nat := xss.length + sumL xss
def short (xss : List (List Int)) : Prop := xss.length ≤ 1048576 ∧ ∀ j, j < xss.length → (xss.getD j []).length ≤ 1048576
theorem short_of_tot {xss : List (List Int)} (h : tot xss ≤ 1048576) : short xss := by
  unfold tot at h
  refine ⟨by omega, fun j hj => ?_⟩
  have := sumL_get xss j hj
  omega

def marksS (k : Nat) : List (List Int) → List (List Int)
  | [] => []
  | x :: r => marks k x.length :: marksS (k + x.length) r
theorem marksS_len (k : Nat) (xss : List (List Int)) : (marksS k xss).length = xss.length := by
  induction xss generalizing k with
  | nil => rfl
  | cons x r ih => simp [marksS, ih]
theorem marksS_app (k : Nat) (xss yss : List (List Int)) : marksS k (xss ++ yss) = marksS k xss ++ marksS (k + sumL xss) yss := by
  induction xss generalizing k with
  | nil => simp [marksS, sumL]
  | cons x r ih => simp [marksS, ih, sumL, Nat.add_assoc]
theorem marksS_get (k : Nat) (xss : List (List Int)) (j : Nat) (h : j < xss.length) : (marksS k xss).getD j [] = marks (k + sumL (xss.take j)) (xss.getD j []).length := by
  conv => lhs; rw [← List.take_append_drop j xss, marksS_app, List.drop_eq_getElem_cons h]
  have hl : (marksS k (xss.take j)).length = j := by rw [marksS_len, List.length_take]; omega
  simp only [List.getD]
  rw [List.getElem?_append_right (by omega), hl, Nat.sub_self]
  simp [marksS, h]
/-- The first j are marked. -/
def markedS (xss : List (List Int)) (k j : Nat) : List (List Int) := marksS k (xss.take j) ++ xss.drop j
theorem markedS_zero (xss : List (List Int)) (k : Nat) : markedS xss k 0 = xss := by simp [markedS, marksS]
theorem markedS_len (xss : List (List Int)) (k j : Nat) (h : j ≤ xss.length) : (markedS xss k j).length = xss.length := by simp [markedS, marksS_len]; omega
theorem markedS_all (xss : List (List Int)) (k j : Nat) (h : ¬ j < xss.length) : markedS xss k j = marksS k xss := by
  unfold markedS
  rw [List.take_of_length_le (by omega), List.drop_eq_nil_of_le (by omega), List.append_nil]
theorem markedS_get (xss : List (List Int)) (k j : Nat) (h : j < xss.length) : (markedS xss k j).getD j [] = xss.getD j [] := by
  have hl : (marksS k (xss.take j)).length = j := by rw [marksS_len, List.length_take]; omega
  unfold markedS
  simp only [List.getD]
  rw [List.getElem?_append_right (by omega), hl, Nat.sub_self]
  simp
theorem markedS_succ (xss : List (List Int)) (k j : Nat) (h : j < xss.length) : (markedS xss k j).set j (marks (k + sumL (xss.take j)) (xss.getD j []).length) = markedS xss k (j+1) := by
  have hl : (marksS k (xss.take j)).length = j := by rw [marksS_len, List.length_take]; omega
  unfold markedS
  rw [List.set_append_right _ _ (by omega), hl, Nat.sub_self, List.drop_eq_getElem_cons h, List.set_cons_zero, List.take_succ_eq_append_getElem h, marksS_app]
  simp [marksS, List.getD, h]

/-- The j-th is written anew, at the same length. -/
theorem Ins.stored {lo hi b : Nat} {w w' : World} {us : List Value} {xss : List (List Int)} {bs : Nat → Nat} (h : Ins lo hi b w us xss bs) (j : Nat) (hj : j < xss.length) (u : Value) (hu : us[j]? = some u) (ys : List Int)
    (hl : ys.length = (xss.getD j []).length) (hg : 0 < ys.length → Chg (bs j) (bs j + 1) w w') (hg0 : ¬ 0 < ys.length → Chg 0 0 w w') (ho : OwnI (bs j) (bs j + 1) w' u ys) : Ins lo hi b w' us (xss.set j ys) bs := by
  have hget : ∀ i, ((xss.set j ys).getD i []) = if i = j then ys else xss.getD i [] := by
    intro i
    by_cases e : i = j
    · subst e; simp [List.getD, hj]
    · simp [List.getD, List.getElem?_set, Ne.symm e, e]
  have hgl : ∀ i, ((xss.set j ys).getD i []).length = (xss.getD i []).length := by
    intro i; rw [hget i]; split
    · rename_i e; rw [e, hl]
    · rfl
  refine ⟨by simpa using h.len, fun i hi hp => ?_, fun i k hik hk h1 h2 => ?_, fun i v hv => ?_⟩
  · rw [hgl] at hp; exact h.rng i (by simpa using hi) hp
  · rw [hgl] at h1 h2; exact h.inj i k hik (by simpa using hk) h1 h2
  · rw [hget i]
    have hilt : i < xss.length := by rw [← h.len]; exact (List.getElem?_eq_some_iff.1 hv).1
    by_cases e : i = j
    · subst e
      rw [hu] at hv
      obtain rfl : u = v := by simpa using hv
      simpa using ho
    · simp only [e, if_false]
      have hio := h.own i v hv
      by_cases hp : 0 < (xss.getD i []).length
      · by_cases hpj : 0 < ys.length
        · have hne : bs i ≠ bs j := by
            rcases Nat.lt_or_gt_of_ne e with h1 | h1
            · exact h.inj i j h1 hj hp (by omega)
            · exact (h.inj j i h1 hilt (by omega) hp).symm
          exact hio.chg (hg hpj) (by omega)
        · exact hio.chg (hg0 hpj) (by omega)
      · rw [len0 hp] at hio ⊢
        exact hio.empty
def RetSS (w : World) (xss : List (List Int)) (e : Ending) (w' : World) : Prop := ∃ ad n c, e = .returned (.slice ad n c) ∧ OwnS w.heap.size w'.heap.size w' (.slice ad n c) xss ∧ Bel w w'
def RetSSB (w : World) (xss : List (List Int)) (ok : Bool) (e : Ending) (w' : World) : Prop := ∃ ad n c, e = .returned (.tuple #[.slice ad n c, .bool ok]) ∧ OwnS w.heap.size w'.heap.size w' (.slice ad n c) xss ∧ Bel w w'
end Go.Proofs.Ytngdhpelnjckjaa
end
section
/- The laws' helpers over slices of slices of ints, by contracts. -/
namespace Go.Proofs.Ytngdhpelnjckjaa
open Go.RowKit

theorem Try.info24 : (Try.prog.info? 24).map (fun i => (i.zero, i.size, i.bytes)) = some (some (.slice none 0 0), 1, 24) := by kernel_rfl

def szS (xss : List (List Int)) (left : Int) : Int := if left - (tot xss : Nat) < 0 then -1 else left - (tot xss : Nat)

set_option maxRecDepth 100000 in
set_option maxHeartbeats 400000 in
theorem szIntSS_c (l h : Nat) (v : Value) (xss : List (List Int)) (left : Int) (w : World) (h0 : 0 ≤ left) (h1 : left ≤ 1048576) (hv : SlS l h w v xss) :
    Calls Try.prog 73 #[v, .int .i64 left] w (RetV w (.int .i64 (szS xss left))) := by
  obtain ⟨ad, cap, rfl⟩ := hv.form
  obtain ⟨hx, hmax⟩ := hv.max
  by_cases hs : left - xss.length < 0
  · have E : Hid (szS xss left = -1) := by show szS _ _ = _; unfold szS tot; rw [if_pos (by omega)]
    go_enter Try.func73, Try.ntmps73
    go_wp2_with fail
    go_ret
    exact ⟨by rw [E.out]; rfl, Bel.rfl' _⟩
  · have hw1 := IntWalk.i64_in (left - xss.length) (by omega)
    go_enter Try.func73, Try.ntmps73
    go_wp2_with fail
    go_loopw [1, 5] (fun m i wr => ∃ (k : Nat) (z : Int), k ≤ xss.length ∧ i = .int .i64 k ∧ m = .int .i64 z ∧ 0 ≤ z ∧ z = left - xss.length - (sumL (xss.take k) : Nat) ∧ Bel w wr) (fun _ i _ => xss.length - (intOf i).toNat)
    case atStart => exact ⟨0, _, Nat.zero_le _, rfl, by go_num, by omega, by simp [sumL], Bel.rfl' _⟩
    case round =>
      obtain ⟨k, z, hk, rfl, rfl, hz0, hz, hb⟩ := hrel
      by_cases hlt : k < xss.length
      · obtain ⟨b, off, u, rfl, -, hc, hu⟩ := hv.at hb k hlt
        have hm := hmax k hlt
        have hst := sumL_take xss k hlt
        have hsl := sumL_get xss k hlt
        have hcall := szIntS_c l h u (xss.getD k []) z wr hm hz0 (by omega) hu
        by_cases hneg : z - (xss.getD k []).length < 0
        · have e1 : szI (xss.getD k []).length z = -1 := by unfold szI; rw [if_pos hneg]
          have E : Hid (szS xss left = -1) := by show szS _ _ = _; unfold szS tot; rw [if_pos (by omega)]
          rw [e1] at hcall
          have HC := Lib.hid hcall
          clear hcall hv hu hmax hst hsl e1 hneg hz
          go_wp2_with (go_at_call 132; refine HC.out.mono ?_; rintro e w' ⟨rfl, hb1⟩)
          go_ret
          exact ⟨by rw [E.out]; rfl, hb.step hb1⟩
        · have e1 : szI (xss.getD k []).length z = z - (xss.getD k []).length := by unfold szI; rw [if_neg hneg]
          have hz' : z - ((xss.getD k []).length : Int) = left - xss.length - (sumL (xss.take (k+1)) : Nat) := by omega
          rw [e1] at hcall
          have HC := Lib.hid hcall
          have HZ := Lib.hid hz'
          have hz2 : 0 ≤ z - ((xss.getD k []).length : Int) := by omega
          clear hcall hv hu hmax hst hsl e1 hneg hz hz'
          generalize z - ((xss.getD k []).length : Int) = z2 at *
          go_wp2_with (go_at_call 132; refine HC.out.mono ?_; rintro e w' ⟨rfl, hb1⟩)
          go_roundw
          case rel => exact ⟨k+1, z2, by omega, by go_num, rfl, hz2, HZ.out, hb.step hb1⟩
          case measure => simp [intOf]; omega
      · have E : Hid (szS xss left = z) := by
          show szS _ _ = _
          rw [sumL_all xss k hlt] at hz
          unfold szS tot; rw [if_neg (by omega)]; omega
        clear hz
        go_wp2_with fail
        go_ret
        exact ⟨by rw [E.out]; rfl, hb⟩

set_option maxRecDepth 100000 in
set_option maxHeartbeats 400000 in
theorem toIntSS_c (l h : Nat) (v : Value) (xss : List (List Int)) (w : World) (hx : short xss) (hv : SlS l h w v xss) :
    Calls Try.prog 75 #[v] w (RetSS w xss) := by
  obtain ⟨ad, cap, rfl⟩ := hv.form
  obtain ⟨hx, hmax⟩ := hx
  obtain ⟨i0, hi, hz0, hz1, hz2⟩ := info_parts Try.info24
  go_enter Try.func75, Try.ntmps75
  go_wp2_with (at_make; refine wpList_make_full _ rfl _ _ 53 rfl w.heap.size 24 i0 (.slice none 0 0) 1 Try.underlying53 hi hz0 hz1 _ _ _ _ xss.length rfl rfl rfl rfl (by rw [hz2]; omega) (by unfold maxLen; omega) (Nat.le_refl _) ?_; intro w1 hown hg)
  have hz3 : (madeCells (Value.slice none 0 0).cells (xss.length * 1)).toList = [] ++ List.replicate (xss.length - 0) (Value.slice none 0 0) := by
    rw [Nat.mul_one]; show (madeCells #[_] _).toList = _; rw [toList_madeCells_one]; simp
  rw [hz3] at hown
  have hb0 : Bel w w1 := (Bel.rfl' w).grown hg (by simp)
  have hs1 : w.heap.size + 1 ≤ w1.heap.size := by
    rcases hown.2 with ⟨e, _⟩ | ⟨g, c, cur, e, _, hh, _⟩
    · simp at e
    · simp at e; have := (Array.getElem?_eq_some_iff.1 hh).1; omega
  clear hg hz3
  go_loopw [4] (fun i wr => ∃ (k : Nat) (us : List Value) (bs : Nat → Nat), k ≤ xss.length ∧ i = .int .i64 k ∧ wr.ownsRow w.heap.size 24 1 (.slice (some ⟨w.heap.size, 0, none⟩) xss.length xss.length) xss.length (us ++ List.replicate (xss.length - k) (Value.slice none 0 0)) ∧
    Ins (w.heap.size + 1) wr.heap.size w.heap.size wr us (xss.take k) bs ∧ w.heap.size + 1 ≤ wr.heap.size ∧ Bel w wr) (fun i _ => xss.length - (intOf i).toNat)
  case atStart => exact ⟨0, [], _, Nat.zero_le _, rfl, hown, (Ins.none _ _ _ _), hs1, hb0⟩
  case round =>
    obtain ⟨k, us, bs, hk, rfl, ho, hin, hs, hb⟩ := hrel
    have hul : us.length = k := by have := hin.len; simp at this; omega
    by_cases hlt : k < xss.length
    · obtain ⟨b, off, u, rfl, hbs, hc, hu⟩ := hv.at hb k hlt
      have hm := hmax k hlt
      have hcall := toIntS_c l h u (xss.getD k []) wr hm hu
      have HC := Lib.hid hcall
      have HI := Lib.hid hin
      have HO := Lib.hid ho
      clear hv hcall hu hmax hown hin ho
      go_wp2_with (go_at_call 78; refine HC.out.mono ?_; rintro e w' ⟨ad2, n2, c2, rfl, ho2, hb2⟩; have ho3 := ownsRow_bel HO.out hb2; have hcell := ho3.cellAt k (by omega); have hf := ho3.frozenAt k; rw [List.getElem?_append_right (by omega), hul, Nat.sub_self, List.getElem?_replicate, if_pos (by omega)] at hcell)
      go_roundw
      case rel =>
        have hst := ho3.stored k (.slice ad2 n2 c2)
        rw [List.set_append_right _ _ (by omega), hul, Nat.sub_self, show xss.length - k = (xss.length - (k+1)) + 1 from by omega, List.replicate_succ, List.set_cons_zero] at hst
        have hsz := hb2.size
        obtain ⟨bs', hin'⟩ := (HI.out.below hb2).snoc ho2 (Nat.le_refl _) hs (.inl (by omega)) (hi2 := w'.heap.size) (Nat.le_refl _) hsz
        have hin2 := hin'.same (w' := w'.setCell ⟨w.heap.size, k, none⟩ (.slice ad2 n2 c2)) (fun b h1 h2 _ => Below.heap_setCell w' _ _ b (by simp; omega))
        rw [show xss.take k ++ [xss.getD k []] = xss.take (k+1) from by rw [List.take_succ_eq_append_getElem hlt]; simp [List.getD, hlt]] at hin2
        refine ⟨k+1, us ++ [.slice ad2 n2 c2], bs', by omega, by go_num, by simpa using hst.1, by simpa using hin2, by simpa using (by omega : w.heap.size + 1 ≤ w'.heap.size), (hb.step hb2).setCell (p := ⟨w.heap.size, k, none⟩) (Nat.le_refl _) _⟩
      case measure => simp [intOf]; omega
    · rw [show xss.length - k = 0 from by omega, List.replicate_zero, List.append_nil] at ho
      rw [List.take_of_length_le (by omega)] at hin
      have HI := Lib.hid hin
      have HO := Lib.hid ho
      clear hin ho hv hmax hown
      go_wp2_with fail
      go_ret
      exact ⟨_, _, _, rfl, OwnS.of_row HO.out (Nat.le_refl _) (fun g hg => by simp [Value.ownBlock] at hg; subst hg; exact HI.out.mono (by omega) (Nat.le_refl _)), hb⟩

set_option maxRecDepth 100000 in
set_option maxHeartbeats 400000 in
theorem eqIntSS_same (l h l' h' : Nat) (v u : Value) (xss : List (List Int)) (w : World) (hx : short xss) (hv : SlS l h w v xss) (hu : SlS l' h' w u xss) :
    Calls Try.prog 77 #[v, u] w (RetV w (.bool true)) := by
  obtain ⟨ad, cap, rfl⟩ := hv.form
  obtain ⟨ad', cap', rfl⟩ := hu.form
  obtain ⟨hx, hmax⟩ := hx
  have hl' : ((xss.length : Int) != xss.length) = false := by simp
  go_enter Try.func77, Try.ntmps77
  go_wp2_with fail
  go_loopw [5] (fun i wr => ∃ k : Nat, k ≤ xss.length ∧ i = .int .i64 k ∧ Bel w wr) (fun i _ => xss.length - (intOf i).toNat)
  case atStart => exact ⟨0, Nat.zero_le _, rfl, Bel.rfl' _⟩
  case round =>
    obtain ⟨k, hk, rfl, hb⟩ := hrel
    by_cases hlt : k < xss.length
    · obtain ⟨b, off, p, rfl, -, hc, hp⟩ := hv.at hb k hlt
      obtain ⟨b', off', q, rfl, -, hc', hq⟩ := hu.at hb k hlt
      have hm := hmax k hlt
      have hbp := World.block_lt_of_cell? wr ⟨b, off + k, none⟩ hc
      have hbq := World.block_lt_of_cell? wr ⟨b', off' + k, none⟩ hc'
      have HC := Lib.hid (fun w' (h1 : Bel wr w') => eqIntS_same _ _ _ _ p q (xss.getD k []) w' hm (hp.below h1) (hq.below h1))
      clear hv hu hmax hp hq
      have hin1 : (k : Int) < xss.length := by omega
      go_wp2_with fail
      go_region_held3 (fun w' => Bel wr w' ∧ w'.cell? ⟨b, off + k, none⟩ = some p ∧ w'.cell? ⟨b', off' + k, none⟩ = some q)
        (first | exact ⟨Bel.drew0 _, hc, hc'⟩ | exact ⟨hb2.of_drew, hb2.at hbp hc, hb2.at hbq hc'⟩)
        (first | (go_at_call 79; refine (HC.out _ (Bel.drew0 _)).mono ?_; rintro e w2 ⟨rfl, hb2⟩))
      go_wp2_with fail
      go_roundw
      case rel => exact ⟨k+1, by omega, by go_num, hb.step hb2.of_drew⟩
      case measure => simp [intOf]; omega
    · go_wp2_with fail
      go_ret
      exact ⟨rfl, hb⟩

def RetMS (lo hi : Nat) (w : World) (v : Value) (xss : List (List Int)) (k : Nat) (e : Ending) (w' : World) : Prop := e = .returned (.int .i64 ((k + sumL xss : Nat) : Int)) ∧ Chg lo hi w w' ∧ OwnS lo hi w' v (marksS k xss)

set_option maxRecDepth 100000 in
set_option maxHeartbeats 400000 in
theorem markIntSS_c (lo hi : Nat) (v : Value) (xss : List (List Int)) (k : Nat) (w : World) (hx : tot xss ≤ 1048576) (hk : k ≤ 1073741824) (hv : OwnS lo hi w v xss) :
    Calls Try.prog 81 #[v, .int .i64 k] w (RetMS lo hi w v xss k) := by
  obtain ⟨ad, cap, rfl⟩ := hv.sl.form
  unfold tot at hx
  go_enter Try.func81, Try.ntmps81
  go_wp2_with fail
  go_loopw [1, 5] (fun m i wr => ∃ j : Nat, j ≤ xss.length ∧ i = .int .i64 j ∧ m = .int .i64 ((k + sumL (xss.take j) : Nat) : Int) ∧ OwnS lo hi wr (.slice ad xss.length cap) (markedS xss k j) ∧ Chg lo hi w wr) (fun _ i _ => xss.length - (intOf i).toNat)
  case atStart => exact ⟨0, Nat.zero_le _, rfl, by simp [sumL], by rw [markedS_zero]; exact hv, Chg.refl _ _ _⟩
  case round =>
    obtain ⟨j, hj, rfl, rfl, ho, hb⟩ := hrel
    by_cases hlt : j < xss.length
    · have hl := markedS_len xss k j hj
      have hst := sumL_take xss j hlt
      have hsl := sumL_get xss j hlt
      obtain ⟨ad', cap', e, hc, hm, hr⟩ := ho
      obtain ⟨b, off, us, bs, rfl, a1, a2, a3, hin⟩ := hr (by omega)
      simp only [Value.slice.injEq] at e
      obtain ⟨rfl, -, rfl⟩ := e
      have hul := hin.len
      have hju : us[j]? = some us[j] := List.getElem?_eq_getElem (by omega)
      have hcell := a3 j _ hju
      have hown := hin.own j _ hju
      have hget := markedS_get xss k j hlt
      have hsucc := markedS_succ xss k j hlt
      generalize us[j] = u at hju hcell hown
      generalize hq : (if 0 < (xss.getD j []).length then bs j else 0) = q
      generalize hq2 : (if 0 < (xss.getD j []).length then bs j + 1 else 0) = q2
      have hown2 : OwnI q q2 wr u (xss.getD j []) := by
        rw [← hq, ← hq2]; rw [hget] at hown
        split
        · exact hown
        · rename_i h0; rw [len0 h0] at hown ⊢; exact hown.empty
      have hcall := markIntS_c q q2 u (xss.getD j []) (k + sumL (xss.take j)) wr (by omega) (by omega) hown2
      have HC := Lib.hid hcall
      have HF := Lib.hid (And.intro hin (And.intro a3 (And.intro hju (And.intro hc (And.intro hm (And.intro hget (And.intro hsucc (And.intro hq (And.intro hq2 (And.intro a1 (And.intro a2 (And.intro hst hl))))))))))))
      have HB := Lib.hid hb
      have hkj : k + sumL (xss.take j) ≤ 1073741824 + 1048576 := by have := sumL_le xss j; omega
      clear hr hb hv hcall hown hown2 hin a3 hju hc hm hget hsucc hq hq2 hst hl
      generalize hz : k + sumL (xss.take j) = z at *
      go_wp2_with (go_at_call 82; refine HC.out.mono ?_; rintro e w' ⟨rfl, hch, hom⟩)
      go_roundw
      case rel =>
        obtain ⟨hin, a3, hju, hc, hm, hget, hsucc, hq, hq2, a1, a2, hst, hl⟩ := HF.out
        have hpos : 0 < (xss.getD j []).length → lo ≤ bs j ∧ bs j < hi ∧ bs j ≠ b := fun hp => hin.rng j (by omega) (by rw [hget]; exact hp)
        have hch2 : Chg lo hi wr w' := by
          by_cases hp : 0 < (xss.getD j []).length
          · have := hpos hp
            rw [if_pos hp] at hq hq2
            exact hch.mono (by omega) (by omega)
          · rw [if_neg hp] at hq hq2
            subst hq hq2
            exact ⟨hch.os, hch.tape, hch.output, hch.size, fun b hb _ => hch.block b hb (by omega)⟩
        refine ⟨j+1, by omega, by go_num, by rw [hst, ← Nat.add_assoc, hz]; first | done | (simp [List.getD, hlt]), ?_, HB.out.trans hch2⟩
        rw [← hsucc]
        have hlm : (marks z (xss.getD j []).length).length = ((markedS xss k j).getD j []).length := by rw [marks_len, hget]
        have hom2 : OwnI (bs j) (bs j + 1) w' u (marks z (xss.getD j []).length) := by
          by_cases hp : 0 < (xss.getD j []).length
          · rw [if_pos hp] at hq hq2; rw [← hq, ← hq2] at hom; exact hom
          · rw [len0 hp] at hom ⊢; exact hom.empty
        have hin2 := hin.stored (w' := w') j (by omega) u hju (marks z (xss.getD j []).length) hlm
          (fun hp => by rw [marks_len] at hp; rw [if_pos hp] at hq hq2; rw [hq] at hq2; rw [hq, hq2]; exact hch)
          (fun hp => by rw [marks_len] at hp; rw [if_neg hp] at hq hq2; rw [← hq, ← hq2] at hch; exact hch) hom2
        refine ⟨_, cap, by rw [List.length_set, hl], by rw [List.length_set]; exact hc, hm, fun _ => ⟨b, off, us, bs, rfl, a1, a2, fun i x hix => ?_, hin2⟩⟩
        have hbx := a3 i x hix
        have hbl := World.block_lt_of_cell? wr ⟨b, off + i, none⟩ hbx
        refine hch.cell hbl ?_ hbx
        by_cases hp : 0 < (xss.getD j []).length
        · have := hpos hp
          rw [if_pos hp] at hq hq2
          omega
        · rw [if_neg hp] at hq hq2
          omega
      case measure => simp [intOf]; omega
    · rw [markedS_all xss k j hlt] at ho
      rw [sumL_all xss j hlt]
      go_wp2_with fail
      go_ret
      exact ⟨rfl, hb, ho⟩

set_option maxRecDepth 100000 in
set_option maxHeartbeats 400000 in
theorem heldIntSS_c (l h : Nat) (v : Value) (xss : List (List Int)) (k : Nat) (w : World) (hx : tot xss ≤ 1048576) (hk : k ≤ 1073741824) (hv : SlS l h w v (marksS k xss)) :
    Calls Try.prog 84 #[v, .int .i64 k] w (RetV w (.int .i64 ((k + sumL xss : Nat) : Int))) := by
  obtain ⟨ad, cap, rfl⟩ := hv.form
  unfold tot at hx
  have hml := marksS_len k xss
  rw [hml]
  go_enter Try.func84, Try.ntmps84
  go_wp2_with fail
  go_loopw [1, 5] (fun m i wr => ∃ j : Nat, j ≤ xss.length ∧ i = .int .i64 j ∧ m = .int .i64 ((k + sumL (xss.take j) : Nat) : Int) ∧ Bel w wr) (fun _ i _ => xss.length - (intOf i).toNat)
  case atStart => exact ⟨0, Nat.zero_le _, rfl, by simp [sumL], Bel.rfl' _⟩
  case round =>
    obtain ⟨j, hj, rfl, rfl, hb⟩ := hrel
    by_cases hlt : j < xss.length
    · have hst := sumL_take xss j hlt
      have hsl := sumL_get xss j hlt
      obtain ⟨b, off, u, rfl, -, hc, hu⟩ := hv.at hb j (by rw [hml]; exact hlt)
      rw [marksS_get k xss j hlt] at hu
      have hcall := heldIntS_c _ _ u (xss.getD j []).length (k + sumL (xss.take j)) wr (by omega) (by omega) hu
      rw [Nat.add_assoc, ← hst] at hcall
      have hnn : decide (((k + sumL (xss.take (j+1)) : Nat) : Int) < 0) = false := by simp; omega
      have hkj : k + sumL (xss.take j) ≤ 1073741824 + 1048576 := by omega
      have HC := Lib.hid hcall
      clear hcall hu hv hst hsl
      generalize hz2 : k + sumL (xss.take (j+1)) = z2 at *
      generalize k + sumL (xss.take j) = z at *
      go_wp2_with (go_at_call 83; refine HC.out.mono ?_; rintro e w' ⟨rfl, hb2⟩)
      go_roundw
      case rel => exact ⟨j+1, by omega, by go_num, by rw [hz2], hb.step hb2⟩
      case measure => simp [intOf]; omega
    · rw [sumL_all xss j hlt]
      go_wp2_with fail
      go_ret
      exact ⟨rfl, hb⟩
end Go.Proofs.Ytngdhpelnjckjaa
end
