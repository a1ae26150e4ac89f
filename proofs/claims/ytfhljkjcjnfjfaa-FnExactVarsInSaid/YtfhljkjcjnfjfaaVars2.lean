/- VarsOf: the reference's side. -/
import Derived.Test.YtfhljkjcjnfjfaaVars
namespace Go.Proofs.Ytfhljkjcjnfjfaa
open Go.RowKit

def setF (f : Nat → Bool) (m : Nat) (i : Nat) : Bool := if i = m then true else f i
def tailF (f : Nat → Bool) (m : Nat) : List Nat := ((List.range 12).drop (m + 1)).filter f
theorem tail_gt {f : Nat → Bool} {m x : Nat} (h : x ∈ tailF f m) : m < x := by
  unfold tailF at h
  have h1 := (List.mem_filter.1 h).1
  rw [List.mem_iff_getElem?] at h1
  obtain ⟨i, hi⟩ := h1
  rw [List.getElem?_drop] at hi
  have h2 := (List.getElem?_eq_some_iff.1 hi)
  obtain ⟨h3, h4⟩ := h2
  simp at h4
  omega
theorem vars_split (f : Nat → Bool) (m : Nat) (h : m < 12) : varsTo f 12 = varsTo f m ++ (if f m then m :: tailF f m else tailF f m) := by
  unfold varsTo tailF
  conv => lhs; rw [← List.take_append_drop m (List.range 12)]
  rw [List.filter_append, List.take_range, Nat.min_eq_left (by omega), List.drop_eq_getElem_cons (by simpa using h), List.filter_cons]
  simp
theorem vars_lt {f : Nat → Bool} {m x : Nat} (h : x ∈ varsTo f m) : x < m := by
  unfold varsTo at h
  have := (List.mem_filter.1 h).1
  simpa using this
theorem set_to (f : Nat → Bool) (m : Nat) : varsTo (setF f m) m = varsTo f m := by
  unfold varsTo
  apply List.filter_congr
  intro x hx
  have : x < m := by simpa using hx
  unfold setF; rw [if_neg (by omega)]
theorem set_tail (f : Nat → Bool) (m : Nat) : tailF (setF f m) m = tailF f m := by
  unfold tailF
  apply List.filter_congr
  intro x hx
  have : m < x := by
    rw [List.mem_iff_getElem?] at hx
    obtain ⟨i, hi⟩ := hx
    rw [List.getElem?_drop] at hi
    obtain ⟨h3, h4⟩ := (List.getElem?_eq_some_iff.1 hi)
    simp at h4
    omega
  unfold setF; rw [if_neg (by omega)]
theorem set_vars (f : Nat → Bool) (m : Nat) (h : m < 12) : varsTo (setF f m) 12 = varsTo f m ++ m :: tailF f m := by
  rw [vars_split _ m h, set_to, set_tail, if_pos (by simp [setF])]
theorem set_same (f : Nat → Bool) (m : Nat) (h : f m = true) : setF f m = f := by
  funext i
  unfold setF
  by_cases e : i = m
  · subst e; rw [if_pos rfl, h]
  · rw [if_neg e]

theorem own_fix {w : World} {base e n n' : Nat} {v : Value} {vs : List Value} {xs : List Int} (hn : n' = n) (hx : vs = xs.map (Value.int .i64)) (h : w.ownsRow base e 1 v n' vs) : w.ownsRow base e 1 v n (xs.map (Value.int .i64)) := by subst hn hx; exact h
/-- A slice of ints: one's own from lo on. -/
def RetO (lo : Nat) (w : World) (xs : List Int) (e : Ending) (w' : World) : Prop := ∃ ad n c, e = .returned (.slice ad n c) ∧ OwnI lo w'.heap.size w' (.slice ad n c) xs ∧ Bel w w'

/-- The slice itself, or a new one. -/
def RetPut (w : World) (v : Value) (f : Nat → Bool) (m : Nat) (e : Ending) (w' : World) : Prop :=
  ∃ ad n c, e = .returned (.slice ad n c) ∧ ((.slice ad n c = v ∧ varsTo (setF f m) 12 = varsTo f 12) ∨ w'.ownsRow w.heap.size 3 1 (.slice ad n c) (natsI (varsTo (setF f m) 12)).length ((natsI (varsTo (setF f m) 12)).map (Value.int .i64))) ∧ Bel w w'
theorem nget (l : List Nat) (k : Nat) (h : k < l.length) : (natsI l).getD k 0 = (l.getD k 0 : Nat) := by simp [natsI, List.getD, h]

set_option maxRecDepth 100000 in
theorem l1Put_nil (m : Nat) (w : World) : Calls Try.prog 118 #[.slice none 0 0, .int .i64 m] w (RetR w [(m : Int)]) := by
  obtain ⟨i0, hi0, hz0, hz1, hz2⟩ := info_parts Try.info3
  have hown0 : (w.alloc (.cells #[] 3)).ownsRow w.heap.size 3 1 (.slice (some ⟨w.heap.size, 0, none⟩) 0 0) ([] : List Int).length (([] : List Int).map (Value.int .i64)) :=
    World.ownsRow_lit w #[] 0 (Nat.le_refl _) (Nat.zero_le _) rfl
  go_enter Try.func118, Try.ntmps118
  go_wp2_with fail
  refine wp_loop_rounds 1 ?_
  rw [rounds_succ]
  go_wp2_with (first | (at_builtin; refine wpList_append_own_none rfl (.tmp 34) (.tmp 37) 22 rfl w.heap.size 3 i0 1 Try.underlying22 hi0 _ _ _ rfl hown0 rfl ?_) | (at_builtin; refine wpList_append_own _ rfl (.tmp 39) (.tmp 41) 22 rfl w.heap.size 3 i0 (.int .i64 0) 1 8 Try.underlying22 hi0 hz0 hz1 hz2 rfl (by decide) _ _ _ rfl (hown0.alloc _) ⟨w.heap.size + 1, 0, none⟩ 1 1 [.int .i64 m] rfl rfl (by have := news_one (w.alloc (.cells #[] 3)) (.int .i64 m) 3; simpa using this) (one_int _) (by unfold maxLen; simp) (by simp) (by simp; omega) ?_; intro v' w1 hown' hgrow _) | (at_builtin; refine wpList_append_own_none rfl (.tmp 43) (.tmp 46) 22 rfl w.heap.size 3 i0 1 Try.underlying22 hi0 _ _ _ rfl hown' rfl ?_))
  have hown2 : w1.ownsRow w.heap.size 3 1 v' [(m : Int)].length ([(m : Int)].map (Value.int .i64)) := by simpa using hown'
  obtain ⟨g, n, c, hv'⟩ := own_form hown2
  subst hv'
  go_ret
  exact ⟨_, _, _, rfl, hown2, (Bel.alloc2 w _ _).grown hgrow (fun k hk => own_base hown0 k hk)⟩

set_option maxRecDepth 100000 in
set_option maxHeartbeats 1000000 in
theorem l1Put_p (lo : Nat) (v : Value) (f : Nat → Bool) (m : Nat) (w : World) (hm : m < 12) (hlo : lo ≤ w.heap.size) (hnz : 0 < (varsTo f 12).length) (hv : OwnI lo w.heap.size w v (natsI (varsTo f 12))) :
    Calls Try.prog 118 #[v, .int .i64 m] w (RetPut w v f m) := by
  obtain ⟨i0, hi0, hz0, hz1, hz2⟩ := info_parts Try.info3
  have hv0 := hv
  have hlen := varsTo_len f 12
  have hsp := vars_split f m hm
  have hset := set_vars f m hm
  have hlt0 : ∀ k, k < (varsTo f m).length → ((varsTo f 12).getD k 0) < m := by
    intro k hk
    rw [hsp]
    have : (varsTo f m)[k] ∈ varsTo f m := List.getElem_mem hk
    have := vars_lt this
    simpa [List.getD, List.getElem?_append_left hk, hk] using this
  have hA : (varsTo f m).length ≤ (varsTo f 12).length := by rw [hsp]; simp
  obtain ⟨ad, cap, rfl, -, -, hr⟩ := hv.1
  rw [natsI_len] at hr ⊢
  have HLT := Lib.hid hlt0
  cases hf : f m with
  | true =>
    rw [hf, if_pos rfl] at hsp
    have E : Hid (varsTo (setF f m) 12 = varsTo f 12) := by show _ = _; rw [set_same f m hf]
    have hal : (varsTo f m).length < (varsTo f 12).length := by rw [hsp]; simp
    have hat : (varsTo f 12).getD (varsTo f m).length 0 = m := by rw [hsp]; simp [List.getD]
    have HAT := Lib.hid hat
    clear hsp hset hat hlt0
    generalize hLx : varsTo f 12 = L at *
    generalize (varsTo f m).length = A at *
    have HLX := Lib.hid hLx
    clear hLx
    go_enter Try.func118, Try.ntmps118
    go_wp2_with fail
    go_loop [5] (fun i => ∃ k : Nat, k ≤ A ∧ i = .int .i64 k) (fun i => A - (intOf i).toNat)
    case atStart => exact ⟨0, Nat.zero_le _, rfl⟩
    case round =>
      obtain ⟨k, hk, rfl⟩ := hrel
      have hkl : k < L.length := by omega
      obtain ⟨b, off, rfl, -, -, hc⟩ := hr (by omega)
      have hcell := hc k hkl
      rw [nget _ _ hkl] at hcell
      have hkl2 : (k : Int) < L.length := by omega
      have hdl : decide ((k : Int) < L.length) = true := by simpa using hkl2
      clear hc hr
      by_cases hka : k < A
      · have hx := HLT.out k hka
        generalize L.getD k 0 = x at *
        have hx2 : (x : Int) < m := by omega
        go_wp2_with fail
        go_round
        case rel => exact ⟨k + 1, by omega, by go_num⟩
        case measure => simp [intOf]; omega
      · have hx : Hid (L.getD k 0 = m) := by show _ = _; rw [← HAT.out]; congr 1; omega
        rw [hx.out] at hcell
        have hmm : ((m : Int) == (m : Int)) = true := by simp
        go_wp2_with fail
        go_ret
        exact ⟨_, _, _, rfl, .inl ⟨rfl, by rw [HLX.out]; exact E.out⟩, Bel.rfl' _⟩
  | false =>
    rw [hf, if_neg (by simp)] at hsp
    have E : Hid (natsI (varsTo (setF f m) 12) = natsI (varsTo f m) ++ [(m : Int)] ++ natsI (tailF f m)) := by show _ = _; rw [hset]; simp [natsI]
    have htk : (natsI (varsTo f 12)).take (varsTo f m).length = natsI (varsTo f m) := by rw [hsp]; simp [natsI]
    have hdr : (natsI (varsTo f 12)).drop (varsTo f m).length = natsI (tailF f m) := by rw [hsp]; simp [natsI]
    have hgt : ∀ k, (varsTo f m).length ≤ k → k < (varsTo f 12).length → m < (varsTo f 12).getD k 0 := by
      intro k h1 h2
      rw [hsp] at h2 ⊢
      have h3 : k - (varsTo f m).length < (tailF f m).length := by simp at h2; omega
      have h4 := tail_gt (List.getElem_mem h3)
      simpa [List.getD, List.getElem?_append_right h1, h3] using h4
    have hll : (varsTo f 12).length = (varsTo f m).length + (tailF f m).length := by rw [hsp]; simp
    have HGT := Lib.hid hgt
    have HTK := Lib.hid htk
    have HDR := Lib.hid hdr
    have hown0 : (w.alloc (.cells #[] 3)).ownsRow w.heap.size 3 1 (.slice (some ⟨w.heap.size, 0, none⟩) 0 0) ([] : List Int).length (([] : List Int).map (Value.int .i64)) :=
      World.ownsRow_lit w #[] 0 (Nat.le_refl _) (Nat.zero_le _) rfl
    clear hsp hset hgt htk hdr hlt0
    have hSL := hv0.1
    generalize hLd : varsTo f 12 = L at *
    generalize hAd : varsTo f m = LA at *
    generalize hBd : tailF f m = LB at *
    clear hLd hAd hBd
    have hll1 : L.length ≤ LA.length + LB.length := by omega
    have hll2 : LA.length + LB.length ≤ L.length := by omega
    clear hll
    have hpos : 0 < L.length := hnz
    obtain ⟨b, off, rfl, -, -, hc⟩ := hr hpos
    have hcapl : L.length ≤ cap := by obtain ⟨_, _, e, h, _⟩ := hSL; simp only [Value.slice.injEq] at e; obtain ⟨-, -, rfl⟩ := e; rwa [natsI_len] at h
    have hlA : LA.length ≤ 12 := by omega
    have hlB : LB.length ≤ 12 := by omega
    have hc1 : ∀ w', Bel w w' → SlI lo w.heap.size w' (.slice (some ⟨b, off, none⟩) LA.length cap) (natsI LA) := fun w' hb => by
      have := (hSL.below hb).cut 0 LA.length (by omega) (by rw [natsI_len]; omega)
      simp only [Nat.add_zero, Nat.sub_zero, List.drop_zero] at this
      rwa [HTK.out] at this
    have HC1 := Lib.hid hc1
    have hcell0 : ∀ k, k < L.length → w.cell? ⟨b, off + k, none⟩ = some (.int .i64 ((L.getD k 0 : Nat) : Int)) := fun k hk => by rw [hc k hk, nget _ _ hk]
    have HCELL := Lib.hid hcell0
    have hparts : (LA.length < L.length ∧ LA.length < cap ∧ Hid (∀ w', Bel w w' → SlI lo w.heap.size w' (.slice (some ⟨b, off + LA.length, none⟩) (L.length - LA.length) (cap - LA.length)) (natsI LB))) ∨ (LA.length = L.length ∧ LB.length = 0) := by
      rcases Nat.lt_or_ge LA.length L.length with h1 | h1
      · refine .inl ⟨h1, by omega, fun w' hb => ?_⟩
        have := (hSL.below hb).cut LA.length L.length (by omega) (by rw [natsI_len]; omega)
        rw [HDR.out, List.take_of_length_le (by rw [natsI_len]; omega)] at this
        exact this
      · exact .inr ⟨by omega, by omega⟩
    clear hc hc1 hcell0 hr hSL
    rcases hparts with ⟨hAl, hAc, HC2⟩ | ⟨hAl, hB0⟩
    · have hAl2 : (LA.length : Int) < L.length := by omega
      have hAc2 : (LA.length : Int) < cap := by omega
      go_enter Try.func118, Try.ntmps118
      go_wp2_with fail
      go_loop [5] (fun i => ∃ k : Nat, k ≤ LA.length ∧ i = .int .i64 k) (fun i => LA.length - (intOf i).toNat)
      case atStart => exact ⟨0, Nat.zero_le _, rfl⟩
      case round =>
        obtain ⟨k, hk, rfl⟩ := hrel
        have hcell := HCELL.out k (by omega)
        have hdl : decide ((k : Int) < L.length) = true := by simp; omega
        by_cases hka : k < LA.length
        · have hx := HLT.out k hka
          generalize L.getD k 0 = x at *
          have hx2 : (x : Int) < m := by omega
          go_wp2_with fail
          go_round
          case rel => exact ⟨k + 1, by omega, by go_num⟩
          case measure => simp [intOf]; omega
        · obtain rfl : k = LA.length := by omega
          have hx := HGT.out _ (Nat.le_refl _) hAl
          generalize L.getD LA.length 0 = x at *
          have hx2 : (m : Int) < x := by omega
          have hxm : ((x : Int) == (m : Int)) = false := by rw [beq_eq_false_iff_ne]; omega
          have hxm2 : decide ((x : Int) < (m : Int)) = false := by simp; omega
          go_wp2_with (first | (at_builtin; refine wpList_append_own _ rfl (.tmp 34) (.tmp 37) 22 rfl w.heap.size 3 i0 (.int .i64 0) 1 8 Try.underlying22 hi0 hz0 hz1 hz2 rfl (by decide) _ _ _ rfl hown0 ⟨b, off, none⟩ LA.length cap ((natsI LA).map (Value.int .i64)) rfl (by simp [natsI_len]) (news_of_sl (HC1.out _ (Bel.alloc0 w _))) (ones_int _) (by simp; unfold maxLen; omega) (by simp; omega) (by simp) ?_; intro v1 w1 hown1 hgrow1 _; have hown1b := own_fix (n := LA.length) (xs := natsI LA) (by simp) (by simp) hown1; have hbw1 := (Bel.alloc0 w _).grown hgrow1 (fun k hk => own_base hown0 k hk)) | (at_builtin; refine wpList_append_own _ rfl (.tmp 39) (.tmp 41) 22 rfl w.heap.size 3 i0 (.int .i64 0) 1 8 Try.underlying22 hi0 hz0 hz1 hz2 rfl (by decide) _ _ _ rfl (hown1b.alloc _) ⟨w1.heap.size, 0, none⟩ 1 1 [.int .i64 m] rfl rfl (news_one _ _ _) (one_int _) (by unfold maxLen; omega) (by omega) (by have := hbw1.size; simp; omega) ?_; intro v2 w2 hown2 hgrow2 _; have hbw2 := (hbw1.alloc _).grown hgrow2 (fun k hk => own_base hown1b k hk)) | (at_builtin; refine wpList_append_own _ rfl (.tmp 43) (.tmp 46) 22 rfl w.heap.size 3 i0 (.int .i64 0) 1 8 Try.underlying22 hi0 hz0 hz1 hz2 rfl (by decide) _ _ _ rfl hown2 ⟨b, off + LA.length, none⟩ (L.length - LA.length) (cap - LA.length) ((natsI LB).map (Value.int .i64)) rfl (by simp [natsI_len]; omega) (news_of_sl (HC2.out _ hbw2)) (ones_int _) (by unfold maxLen; omega) (by omega) hbw2.size ?_; intro v3 w3 hown3 hgrow3 _; have hbw3 := hbw2.grown hgrow3 (fun k hk => own_base hown2 k hk)))
          have hown4 : w3.ownsRow w.heap.size 3 1 v3 (natsI LA ++ [(m : Int)] ++ natsI LB).length ((natsI LA ++ [(m : Int)] ++ natsI LB).map (Value.int .i64)) := own_fix (by simp [natsI_len]; omega) (by simp) hown3
          obtain ⟨g, n, c, hv'⟩ := own_form hown4
          subst hv'
          go_ret
          exact ⟨_, _, _, rfl, .inr (by rw [E.out]; exact hown4), hbw3⟩
    · have hAl1 : LA.length ≤ L.length := by omega
      have hAl2 : L.length ≤ LA.length := by omega
      have HB0 := Lib.hid (show LB = [] from List.length_eq_zero_iff.1 hB0)
      clear hAl hB0
      by_cases hqc : cap = LA.length
      · subst hqc
        go_enter Try.func118, Try.ntmps118
        go_wp2_with fail
        go_loop [5] (fun i => ∃ k : Nat, k ≤ LA.length ∧ i = .int .i64 k) (fun i => LA.length - (intOf i).toNat)
        case atStart => exact ⟨0, Nat.zero_le _, rfl⟩
        case round =>
          obtain ⟨k, hk, rfl⟩ := hrel
          by_cases hka : k < LA.length
          · have hcell := HCELL.out k (by omega)
            have hdl : decide ((k : Int) < L.length) = true := by simp; omega
            have hx := HLT.out k hka
            generalize L.getD k 0 = x at *
            have hx2 : (x : Int) < m := by omega
            go_wp2_with fail
            go_round
            case rel => exact ⟨k + 1, by omega, by go_num⟩
            case measure => simp [intOf]; omega
          · obtain rfl : k = LA.length := by omega
            have hdl : decide ((LA.length : Int) < L.length) = false := by simp; omega
            go_wp2_with (first | (at_builtin; refine wpList_append_own _ rfl (.tmp 34) (.tmp 37) 22 rfl w.heap.size 3 i0 (.int .i64 0) 1 8 Try.underlying22 hi0 hz0 hz1 hz2 rfl (by decide) _ _ _ rfl hown0 ⟨b, off, none⟩ LA.length _ ((natsI LA).map (Value.int .i64)) rfl (by simp [natsI_len]) (news_of_sl (HC1.out _ (Bel.alloc0 w _))) (ones_int _) (by simp; unfold maxLen; omega) (by simp; omega) (by simp) ?_; intro v1 w1 hown1 hgrow1 _; have hown1b := own_fix (n := LA.length) (xs := natsI LA) (by simp) (by simp) hown1; have hbw1 := (Bel.alloc0 w _).grown hgrow1 (fun k hk => own_base hown0 k hk)) | (at_builtin; refine wpList_append_own _ rfl (.tmp 39) (.tmp 41) 22 rfl w.heap.size 3 i0 (.int .i64 0) 1 8 Try.underlying22 hi0 hz0 hz1 hz2 rfl (by decide) _ _ _ rfl (hown1b.alloc _) ⟨w1.heap.size, 0, none⟩ 1 1 [.int .i64 m] rfl rfl (news_one _ _ _) (one_int _) (by unfold maxLen; omega) (by omega) (by have := hbw1.size; simp; omega) ?_; intro v2 w2 hown2 hgrow2 _; have hbw2 := (hbw1.alloc _).grown hgrow2 (fun k hk => own_base hown1b k hk)) | (at_builtin; refine wpList_append_own _ rfl (.tmp 43) (.tmp 46) 22 rfl w.heap.size 3 i0 (.int .i64 0) 1 8 Try.underlying22 hi0 hz0 hz1 hz2 rfl (by decide) _ _ _ rfl hown2 _ _ _ [] rfl (by simp; try omega) (by simp) (by simp) (by unfold maxLen; omega) (by omega) hbw2.size ?_; intro v3 w3 hown3 hgrow3 _; have hbw3 := hbw2.grown hgrow3 (fun k hk => own_base hown2 k hk)))
            have hown4 : w3.ownsRow w.heap.size 3 1 v3 (natsI LA ++ [(m : Int)] ++ natsI LB).length ((natsI LA ++ [(m : Int)] ++ natsI LB).map (Value.int .i64)) := own_fix (by rw [HB0.out]; simp [natsI]) (by rw [HB0.out]; simp [natsI]) hown3
            obtain ⟨g, n, c, hv'⟩ := own_form hown4
            subst hv'
            go_ret
            exact ⟨_, _, _, rfl, .inr (by rw [E.out]; exact hown4), hbw3⟩
      · have hAc2 : (LA.length : Int) < cap := by omega
        go_enter Try.func118, Try.ntmps118
        go_wp2_with fail
        go_loop [5] (fun i => ∃ k : Nat, k ≤ LA.length ∧ i = .int .i64 k) (fun i => LA.length - (intOf i).toNat)
        case atStart => exact ⟨0, Nat.zero_le _, rfl⟩
        case round =>
          obtain ⟨k, hk, rfl⟩ := hrel
          by_cases hka : k < LA.length
          · have hcell := HCELL.out k (by omega)
            have hdl : decide ((k : Int) < L.length) = true := by simp; omega
            have hx := HLT.out k hka
            generalize L.getD k 0 = x at *
            have hx2 : (x : Int) < m := by omega
            go_wp2_with fail
            go_round
            case rel => exact ⟨k + 1, by omega, by go_num⟩
            case measure => simp [intOf]; omega
          · obtain rfl : k = LA.length := by omega
            have hdl : decide ((LA.length : Int) < L.length) = false := by simp; omega
            go_wp2_with (first | (at_builtin; refine wpList_append_own _ rfl (.tmp 34) (.tmp 37) 22 rfl w.heap.size 3 i0 (.int .i64 0) 1 8 Try.underlying22 hi0 hz0 hz1 hz2 rfl (by decide) _ _ _ rfl hown0 ⟨b, off, none⟩ LA.length _ ((natsI LA).map (Value.int .i64)) rfl (by simp [natsI_len]) (news_of_sl (HC1.out _ (Bel.alloc0 w _))) (ones_int _) (by simp; unfold maxLen; omega) (by simp; omega) (by simp) ?_; intro v1 w1 hown1 hgrow1 _; have hown1b := own_fix (n := LA.length) (xs := natsI LA) (by simp) (by simp) hown1; have hbw1 := (Bel.alloc0 w _).grown hgrow1 (fun k hk => own_base hown0 k hk)) | (at_builtin; refine wpList_append_own _ rfl (.tmp 39) (.tmp 41) 22 rfl w.heap.size 3 i0 (.int .i64 0) 1 8 Try.underlying22 hi0 hz0 hz1 hz2 rfl (by decide) _ _ _ rfl (hown1b.alloc _) ⟨w1.heap.size, 0, none⟩ 1 1 [.int .i64 m] rfl rfl (news_one _ _ _) (one_int _) (by unfold maxLen; omega) (by omega) (by have := hbw1.size; simp; omega) ?_; intro v2 w2 hown2 hgrow2 _; have hbw2 := (hbw1.alloc _).grown hgrow2 (fun k hk => own_base hown1b k hk)) | (at_builtin; refine wpList_append_own _ rfl (.tmp 43) (.tmp 46) 22 rfl w.heap.size 3 i0 (.int .i64 0) 1 8 Try.underlying22 hi0 hz0 hz1 hz2 rfl (by decide) _ _ _ rfl hown2 _ _ _ [] rfl (by simp; try omega) (by simp) (by simp) (by unfold maxLen; omega) (by omega) hbw2.size ?_; intro v3 w3 hown3 hgrow3 _; have hbw3 := hbw2.grown hgrow3 (fun k hk => own_base hown2 k hk)))
            have hown4 : w3.ownsRow w.heap.size 3 1 v3 (natsI LA ++ [(m : Int)] ++ natsI LB).length ((natsI LA ++ [(m : Int)] ++ natsI LB).map (Value.int .i64)) := own_fix (by rw [HB0.out]; simp [natsI]) (by rw [HB0.out]; simp [natsI]) hown3
            obtain ⟨g, n, c, hv'⟩ := own_form hown4
            subst hv'
            go_ret
            exact ⟨_, _, _, rfl, .inr (by rw [E.out]; exact hown4), hbw3⟩
theorem l1Put_c (lo : Nat) (v : Value) (f : Nat → Bool) (m : Nat) (w : World) (hm : m < 12) (hlo : lo ≤ w.heap.size) (hnz : 0 < (varsTo f 12).length) (hv : OwnI lo w.heap.size w v (natsI (varsTo f 12))) :
    Calls Try.prog 118 #[v, .int .i64 m] w (RetO lo w (natsI (varsTo (setF f m) 12))) := by
  refine (l1Put_p lo v f m w hm hlo hnz hv).mono ?_
  rintro e w' ⟨ad, n, c, rfl, h, hb⟩
  refine ⟨ad, n, c, rfl, ?_, hb⟩
  rcases h with ⟨rfl, h2⟩ | h
  · rw [h2]; exact (hv.below hb).mono (Nat.le_refl _) hb.size
  · exact (OwnI.of_row h).mono hlo (Nat.le_refl _)
end Go.Proofs.Ytfhljkjcjnfjfaa
