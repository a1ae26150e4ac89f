/- Texts merged, part 10. -/
import Derived.Deep.AppendLies
import Derived.Laws.AppendOwnNone
import Derived.Deep.RegionHeldLaw
import Derived.Deep.RegionWith
import Derived.Test.YtnldienjkejfcaaMgHoldsIn9
section
/- VarsOf: the reference's side. -/
namespace Go.Proofs.Ytnldienjkejfcaa
open Go.RowKit

def setF (f : Nat → Bool) (m : Nat) (i : Nat) : Bool := if i = m then true else f i
def tailF (f : Nat → Bool) (m : Nat) : List Nat := ((List.range 12).drop (m + 1)).filter f
theorem tail_gt {f : Nat → Bool} {m x : Nat} (h : x ∈ tailF f m) : m < x := by
  unfold tailF at h
  have h1 := (List.mem_filter.1 h).1
  rw [List.mem_iff_getElem?] at h1
  obtain ⟨i, hi⟩ := h1
  rw [List.getElem?_drop] at hi
  have h2 := (List.getElem?_eq_some_iff.1 hi)
  obtain ⟨h3, h4⟩ := h2
  simp at h4
  omega
theorem vars_split (f : Nat → Bool) (m : Nat) (h : m < 12) : varsTo f 12 = varsTo f m ++ (if f m then m :: tailF f m else tailF f m) := by
  unfold varsTo tailF
  conv => lhs; rw [← List.take_append_drop m (List.range 12)]
  rw [List.filter_append, List.take_range, Nat.min_eq_left (by omega), List.drop_eq_getElem_cons (by simpa using h), List.filter_cons]
  simp
theorem vars_lt {f : Nat → Bool} {m x : Nat} (h : x ∈ varsTo f m) : x < m := by
  unfold varsTo at h
  have := (List.mem_filter.1 h).1
  simpa using this
theorem set_to (f : Nat → Bool) (m : Nat) : varsTo (setF f m) m = varsTo f m := by
  unfold varsTo
  apply List.filter_congr
  intro x hx
  have : x < m := by simpa using hx
  unfold setF; rw [if_neg (by omega)]
theorem set_tail (f : Nat → Bool) (m : Nat) : tailF (setF f m) m = tailF f m := by
  unfold tailF
  apply List.filter_congr
  intro x hx
  have : m < x := by
    rw [List.mem_iff_getElem?] at hx
    obtain ⟨i, hi⟩ := hx
    rw [List.getElem?_drop] at hi
    obtain ⟨h3, h4⟩ := (List.getElem?_eq_some_iff.1 hi)
    simp at h4
    omega
  unfold setF; rw [if_neg (by omega)]
theorem set_vars (f : Nat → Bool) (m : Nat) (h : m < 12) : varsTo (setF f m) 12 = varsTo f m ++ m :: tailF f m := by
  rw [vars_split _ m h, set_to, set_tail, if_pos (by simp [setF])]
theorem set_same (f : Nat → Bool) (m : Nat) (h : f m = true) : setF f m = f := by
  funext i
  unfold setF
  by_cases e : i = m
  · subst e; rw [if_pos rfl, h]
  · rw [if_neg e]

theorem own_fix {w : World} {base e n n' : Nat} {v : Value} {vs : List Value} {xs : List Int} (hn : n' = n) (hx : vs = xs.map (Value.int .i64)) (h : w.ownsRow base e 1 v n' vs) : w.ownsRow base e 1 v n (xs.map (Value.int .i64)) := by subst hn hx; exact h
/-- A slice of ints: one's own from lo on. -/
def RetO (lo : Nat) (w : World) (xs : List Int) (e : Ending) (w' : World) : Prop := ∃ ad n c, e = .returned (.slice ad n c) ∧ OwnI lo w'.heap.size w' (.slice ad n c) xs ∧ Bel w w'

/-- The slice itself, or a new one. -/
def RetPut (w : World) (v : Value) (f : Nat → Bool) (m : Nat) (e : Ending) (w' : World) : Prop :=
  ∃ ad n c, e = .returned (.slice ad n c) ∧ ((.slice ad n c = v ∧ varsTo (setF f m) 12 = varsTo f 12) ∨ w'.ownsRow w.heap.size 3 1 (.slice ad n c) (natsI (varsTo (setF f m) 12)).length ((natsI (varsTo (setF f m) 12)).map (Value.int .i64))) ∧ Bel w w'
theorem nget (l : List Nat) (k : Nat) (h : k < l.length) : (natsI l).getD k 0 = (l.getD k 0 : Nat) := by simp [natsI, List.getD, h]

set_option maxRecDepth 100000 in
theorem l1Put_nil (m : Nat) (w : World) : Calls Try.prog 71 #[.slice none 0 0, .int .i64 m] w (RetR w [(m : Int)]) := by
  obtain ⟨i0, hi0, hz0, hz1, hz2⟩ := info_parts Try.info3
  have hown0 : (w.alloc (.cells #[] 3)).ownsRow w.heap.size 3 1 (.slice (some ⟨w.heap.size, 0, none⟩) 0 0) ([] : List Int).length (([] : List Int).map (Value.int .i64)) :=
    World.ownsRow_lit w #[] 0 (Nat.le_refl _) (Nat.zero_le _) rfl
  go_enter Try.func71, Try.ntmps71
  go_wp2_with fail
  refine wp_loop_rounds 1 ?_
  rw [rounds_succ]
  go_wp2_with (first | (at_builtin; refine wpList_append_own_none rfl (.tmp 34) (.tmp 37) 22 rfl w.heap.size 3 i0 1 Try.underlying22 hi0 _ _ _ rfl hown0 rfl ?_) | (at_builtin; refine wpList_append_own _ rfl (.tmp 39) (.tmp 41) 22 rfl w.heap.size 3 i0 (.int .i64 0) 1 8 Try.underlying22 hi0 hz0 hz1 hz2 rfl (by decide) _ _ _ rfl (hown0.alloc _) ⟨w.heap.size + 1, 0, none⟩ 1 1 [.int .i64 m] rfl rfl (by have := news_one (w.alloc (.cells #[] 3)) (.int .i64 m) 3; simpa using this) (one_int _) (by unfold maxLen; simp) (by simp) (by simp; omega) ?_; intro v' w1 hown' hgrow _) | (at_builtin; refine wpList_append_own_none rfl (.tmp 43) (.tmp 46) 22 rfl w.heap.size 3 i0 1 Try.underlying22 hi0 _ _ _ rfl hown' rfl ?_))
  have hown2 : w1.ownsRow w.heap.size 3 1 v' [(m : Int)].length ([(m : Int)].map (Value.int .i64)) := by simpa using hown'
  obtain ⟨g, n, c, hv'⟩ := own_form hown2
  subst hv'
  go_ret
  exact ⟨_, _, _, rfl, hown2, (Bel.alloc2 w _ _).grown hgrow (fun k hk => own_base hown0 k hk)⟩

set_option maxRecDepth 100000 in
set_option maxHeartbeats 1000000 in
theorem l1Put_p (lo : Nat) (v : Value) (f : Nat → Bool) (m : Nat) (w : World) (hm : m < 12) (_ : lo ≤ w.heap.size) (hnz : 0 < (varsTo f 12).length) (hv : OwnI lo w.heap.size w v (natsI (varsTo f 12))) :
    Calls Try.prog 71 #[v, .int .i64 m] w (RetPut w v f m) := by
  obtain ⟨i0, hi0, hz0, hz1, hz2⟩ := info_parts Try.info3
  have hv0 := hv
  have hlen := varsTo_len f 12
  have hsp := vars_split f m hm
  have hset := set_vars f m hm
  have hlt0 : ∀ k, k < (varsTo f m).length → ((varsTo f 12).getD k 0) < m := by
    intro k hk
    rw [hsp]
    have : (varsTo f m)[k] ∈ varsTo f m := List.getElem_mem hk
    have := vars_lt this
    simpa [List.getD, List.getElem?_append_left hk, hk] using this
  have hA : (varsTo f m).length ≤ (varsTo f 12).length := by rw [hsp]; simp
  obtain ⟨ad, cap, rfl, -, -, hr⟩ := hv.1
  rw [natsI_len] at hr ⊢
  have HLT := Lib.hid hlt0
  cases hf : f m with
  | true =>
    rw [hf, if_pos rfl] at hsp
    have E : Hid (varsTo (setF f m) 12 = varsTo f 12) := by show _ = _; rw [set_same f m hf]
    have hal : (varsTo f m).length < (varsTo f 12).length := by rw [hsp]; simp
    have hat : (varsTo f 12).getD (varsTo f m).length 0 = m := by rw [hsp]; simp [List.getD]
    have HAT := Lib.hid hat
    clear hsp hset hat hlt0
    generalize hLx : varsTo f 12 = L at *
    generalize (varsTo f m).length = A at *
    have HLX := Lib.hid hLx
    clear hLx
    go_enter Try.func71, Try.ntmps71
    go_wp2_with fail
    go_loop [5] (fun i => ∃ k : Nat, k ≤ A ∧ i = .int .i64 k) (fun i => A - (intOf i).toNat)
    case atStart => exact ⟨0, Nat.zero_le _, rfl⟩
    case round =>
      obtain ⟨k, hk, rfl⟩ := hrel
      have hkl : k < L.length := by omega
      obtain ⟨b, off, rfl, -, -, hc⟩ := hr (by omega)
      have hcell := hc k hkl
      rw [nget _ _ hkl] at hcell
      have hkl2 : (k : Int) < L.length := by omega
      have hdl : decide ((k : Int) < L.length) = true := by simpa using hkl2
      clear hc hr
      by_cases hka : k < A
      · have hx := HLT.out k hka
        generalize L.getD k 0 = x at *
        have hx2 : (x : Int) < m := by omega
        go_wp2_with fail
        go_round
        case rel => exact ⟨k + 1, by omega, by go_num⟩
        case measure => simp [intOf]; omega
      · have hx : Hid (L.getD k 0 = m) := by show _ = _; rw [← HAT.out]; congr 1; omega
        rw [hx.out] at hcell
        have hmm : ((m : Int) == (m : Int)) = true := by simp
        go_wp2_with fail
        go_ret
        exact ⟨_, _, _, rfl, .inl ⟨rfl, by rw [HLX.out]; exact E.out⟩, Bel.rfl' _⟩
  | false =>
    rw [hf, if_neg (by simp)] at hsp
    have E : Hid (natsI (varsTo (setF f m) 12) = natsI (varsTo f m) ++ [(m : Int)] ++ natsI (tailF f m)) := by show _ = _; rw [hset]; simp [natsI]
    have htk : (natsI (varsTo f 12)).take (varsTo f m).length = natsI (varsTo f m) := by rw [hsp]; simp [natsI]
    have hdr : (natsI (varsTo f 12)).drop (varsTo f m).length = natsI (tailF f m) := by rw [hsp]; simp [natsI]
    have hgt : ∀ k, (varsTo f m).length ≤ k → k < (varsTo f 12).length → m < (varsTo f 12).getD k 0 := by
      intro k h1 h2
      rw [hsp] at h2 ⊢
      have h3 : k - (varsTo f m).length < (tailF f m).length := by simp at h2; omega
      have h4 := tail_gt (List.getElem_mem h3)
      simpa [List.getD, List.getElem?_append_right h1, h3] using h4
    have hll : (varsTo f 12).length = (varsTo f m).length + (tailF f m).length := by rw [hsp]; simp
    have HGT := Lib.hid hgt
    have HTK := Lib.hid htk
    have HDR := Lib.hid hdr
    have hown0 : (w.alloc (.cells #[] 3)).ownsRow w.heap.size 3 1 (.slice (some ⟨w.heap.size, 0, none⟩) 0 0) ([] : List Int).length (([] : List Int).map (Value.int .i64)) :=
      World.ownsRow_lit w #[] 0 (Nat.le_refl _) (Nat.zero_le _) rfl
    clear hsp hset hgt htk hdr hlt0
    have hSL := hv0.1
    generalize hLd : varsTo f 12 = L at *
    generalize hAd : varsTo f m = LA at *
    generalize hBd : tailF f m = LB at *
    clear hLd hAd hBd
    have hll1 : L.length ≤ LA.length + LB.length := by omega
    have hll2 : LA.length + LB.length ≤ L.length := by omega
    clear hll
    have hpos : 0 < L.length := hnz
    obtain ⟨b, off, rfl, -, -, hc⟩ := hr hpos
    have hcapl : L.length ≤ cap := by obtain ⟨_, _, e, h, _⟩ := hSL; simp only [Value.slice.injEq] at e; obtain ⟨-, -, rfl⟩ := e; rwa [natsI_len] at h
    have hlA : LA.length ≤ 12 := by omega
    have hlB : LB.length ≤ 12 := by omega
    have hc1 : ∀ w', Bel w w' → SlI lo w.heap.size w' (.slice (some ⟨b, off, none⟩) LA.length cap) (natsI LA) := fun w' hb => by
      have := (hSL.below hb).cut 0 LA.length (by omega) (by rw [natsI_len]; omega)
      simp only [Nat.add_zero, Nat.sub_zero, List.drop_zero] at this
      rwa [HTK.out] at this
    have HC1 := Lib.hid hc1
    have hcell0 : ∀ k, k < L.length → w.cell? ⟨b, off + k, none⟩ = some (.int .i64 ((L.getD k 0 : Nat) : Int)) := fun k hk => by rw [hc k hk, nget _ _ hk]
    have HCELL := Lib.hid hcell0
    have hparts : (LA.length < L.length ∧ LA.length < cap ∧ Hid (∀ w', Bel w w' → SlI lo w.heap.size w' (.slice (some ⟨b, off + LA.length, none⟩) (L.length - LA.length) (cap - LA.length)) (natsI LB))) ∨ (LA.length = L.length ∧ LB.length = 0) := by
      rcases Nat.lt_or_ge LA.length L.length with h1 | h1
      · refine .inl ⟨h1, by omega, fun w' hb => ?_⟩
        have := (hSL.below hb).cut LA.length L.length (by omega) (by rw [natsI_len]; omega)
        rw [HDR.out, List.take_of_length_le (by rw [natsI_len]; omega)] at this
        exact this
      · exact .inr ⟨by omega, by omega⟩
    clear hc hc1 hcell0 hr hSL
    rcases hparts with ⟨hAl, hAc, HC2⟩ | ⟨hAl, hB0⟩
    · have hAl2 : (LA.length : Int) < L.length := by omega
      have hAc2 : (LA.length : Int) < cap := by omega
      go_enter Try.func71, Try.ntmps71
      go_wp2_with fail
      go_loop [5] (fun i => ∃ k : Nat, k ≤ LA.length ∧ i = .int .i64 k) (fun i => LA.length - (intOf i).toNat)
      case atStart => exact ⟨0, Nat.zero_le _, rfl⟩
      case round =>
        obtain ⟨k, hk, rfl⟩ := hrel
        have hcell := HCELL.out k (by omega)
        have hdl : decide ((k : Int) < L.length) = true := by simp; omega
        by_cases hka : k < LA.length
        · have hx := HLT.out k hka
          generalize L.getD k 0 = x at *
          have hx2 : (x : Int) < m := by omega
          go_wp2_with fail
          go_round
          case rel => exact ⟨k + 1, by omega, by go_num⟩
          case measure => simp [intOf]; omega
        · obtain rfl : k = LA.length := by omega
          have hx := HGT.out _ (Nat.le_refl _) hAl
          generalize L.getD LA.length 0 = x at *
          have hx2 : (m : Int) < x := by omega
          have hxm : ((x : Int) == (m : Int)) = false := by rw [beq_eq_false_iff_ne]; omega
          have hxm2 : decide ((x : Int) < (m : Int)) = false := by simp; omega
          go_wp2_with (first | (at_builtin; refine wpList_append_own _ rfl (.tmp 34) (.tmp 37) 22 rfl w.heap.size 3 i0 (.int .i64 0) 1 8 Try.underlying22 hi0 hz0 hz1 hz2 rfl (by decide) _ _ _ rfl hown0 ⟨b, off, none⟩ LA.length cap ((natsI LA).map (Value.int .i64)) rfl (by simp [natsI_len]) (news_of_sl (HC1.out _ (Bel.alloc0 w _))) (ones_int _) (by simp; unfold maxLen; omega) (by simp; omega) (by simp) ?_; intro v1 w1 hown1 hgrow1 _; have hown1b := own_fix (n := LA.length) (xs := natsI LA) (by simp) (by simp) hown1; have hbw1 := (Bel.alloc0 w _).grown hgrow1 (fun k hk => own_base hown0 k hk)) | (at_builtin; refine wpList_append_own _ rfl (.tmp 39) (.tmp 41) 22 rfl w.heap.size 3 i0 (.int .i64 0) 1 8 Try.underlying22 hi0 hz0 hz1 hz2 rfl (by decide) _ _ _ rfl (hown1b.alloc _) ⟨w1.heap.size, 0, none⟩ 1 1 [.int .i64 m] rfl rfl (news_one _ _ _) (one_int _) (by unfold maxLen; omega) (by omega) (by have := hbw1.size; simp; omega) ?_; intro v2 w2 hown2 hgrow2 _; have hbw2 := (hbw1.alloc _).grown hgrow2 (fun k hk => own_base hown1b k hk)) | (at_builtin; refine wpList_append_own _ rfl (.tmp 43) (.tmp 46) 22 rfl w.heap.size 3 i0 (.int .i64 0) 1 8 Try.underlying22 hi0 hz0 hz1 hz2 rfl (by decide) _ _ _ rfl hown2 ⟨b, off + LA.length, none⟩ (L.length - LA.length) (cap - LA.length) ((natsI LB).map (Value.int .i64)) rfl (by simp [natsI_len]; omega) (news_of_sl (HC2.out _ hbw2)) (ones_int _) (by unfold maxLen; omega) (by omega) hbw2.size ?_; intro v3 w3 hown3 hgrow3 _; have hbw3 := hbw2.grown hgrow3 (fun k hk => own_base hown2 k hk)))
          have hown4 : w3.ownsRow w.heap.size 3 1 v3 (natsI LA ++ [(m : Int)] ++ natsI LB).length ((natsI LA ++ [(m : Int)] ++ natsI LB).map (Value.int .i64)) := own_fix (by simp [natsI_len]; omega) (by simp) hown3
          obtain ⟨g, n, c, hv'⟩ := own_form hown4
          subst hv'
          go_ret
          exact ⟨_, _, _, rfl, .inr (by rw [E.out]; exact hown4), hbw3⟩
    · have hAl1 : LA.length ≤ L.length := by omega
      have hAl2 : L.length ≤ LA.length := by omega
      have HB0 := Lib.hid (show LB = [] from List.length_eq_zero_iff.1 hB0)
      clear hAl hB0
      by_cases hqc : cap = LA.length
      · subst hqc
        go_enter Try.func71, Try.ntmps71
        go_wp2_with fail
        go_loop [5] (fun i => ∃ k : Nat, k ≤ LA.length ∧ i = .int .i64 k) (fun i => LA.length - (intOf i).toNat)
        case atStart => exact ⟨0, Nat.zero_le _, rfl⟩
        case round =>
          obtain ⟨k, hk, rfl⟩ := hrel
          by_cases hka : k < LA.length
          · have hcell := HCELL.out k (by omega)
            have hdl : decide ((k : Int) < L.length) = true := by simp; omega
            have hx := HLT.out k hka
            generalize L.getD k 0 = x at *
            have hx2 : (x : Int) < m := by omega
            go_wp2_with fail
            go_round
            case rel => exact ⟨k + 1, by omega, by go_num⟩
            case measure => simp [intOf]; omega
          · obtain rfl : k = LA.length := by omega
            have hdl : decide ((LA.length : Int) < L.length) = false := by simp; omega
            go_wp2_with (first | (at_builtin; refine wpList_append_own _ rfl (.tmp 34) (.tmp 37) 22 rfl w.heap.size 3 i0 (.int .i64 0) 1 8 Try.underlying22 hi0 hz0 hz1 hz2 rfl (by decide) _ _ _ rfl hown0 ⟨b, off, none⟩ LA.length _ ((natsI LA).map (Value.int .i64)) rfl (by simp [natsI_len]) (news_of_sl (HC1.out _ (Bel.alloc0 w _))) (ones_int _) (by simp; unfold maxLen; omega) (by simp; omega) (by simp) ?_; intro v1 w1 hown1 hgrow1 _; have hown1b := own_fix (n := LA.length) (xs := natsI LA) (by simp) (by simp) hown1; have hbw1 := (Bel.alloc0 w _).grown hgrow1 (fun k hk => own_base hown0 k hk)) | (at_builtin; refine wpList_append_own _ rfl (.tmp 39) (.tmp 41) 22 rfl w.heap.size 3 i0 (.int .i64 0) 1 8 Try.underlying22 hi0 hz0 hz1 hz2 rfl (by decide) _ _ _ rfl (hown1b.alloc _) ⟨w1.heap.size, 0, none⟩ 1 1 [.int .i64 m] rfl rfl (news_one _ _ _) (one_int _) (by unfold maxLen; omega) (by omega) (by have := hbw1.size; simp; omega) ?_; intro v2 w2 hown2 hgrow2 _; have hbw2 := (hbw1.alloc _).grown hgrow2 (fun k hk => own_base hown1b k hk)) | (at_builtin; refine wpList_append_own _ rfl (.tmp 43) (.tmp 46) 22 rfl w.heap.size 3 i0 (.int .i64 0) 1 8 Try.underlying22 hi0 hz0 hz1 hz2 rfl (by decide) _ _ _ rfl hown2 _ _ _ [] rfl (by simp; try omega) (by simp) (by simp) (by unfold maxLen; omega) (by omega) hbw2.size ?_; intro v3 w3 hown3 hgrow3 _; have hbw3 := hbw2.grown hgrow3 (fun k hk => own_base hown2 k hk)))
            have hown4 : w3.ownsRow w.heap.size 3 1 v3 (natsI LA ++ [(m : Int)] ++ natsI LB).length ((natsI LA ++ [(m : Int)] ++ natsI LB).map (Value.int .i64)) := own_fix (by rw [HB0.out]; simp [natsI]) (by rw [HB0.out]; simp [natsI]) hown3
            obtain ⟨g, n, c, hv'⟩ := own_form hown4
            subst hv'
            go_ret
            exact ⟨_, _, _, rfl, .inr (by rw [E.out]; exact hown4), hbw3⟩
      · have hAc2 : (LA.length : Int) < cap := by omega
        go_enter Try.func71, Try.ntmps71
        go_wp2_with fail
        go_loop [5] (fun i => ∃ k : Nat, k ≤ LA.length ∧ i = .int .i64 k) (fun i => LA.length - (intOf i).toNat)
        case atStart => exact ⟨0, Nat.zero_le _, rfl⟩
        case round =>
          obtain ⟨k, hk, rfl⟩ := hrel
          by_cases hka : k < LA.length
          · have hcell := HCELL.out k (by omega)
            have hdl : decide ((k : Int) < L.length) = true := by simp; omega
            have hx := HLT.out k hka
            generalize L.getD k 0 = x at *
            have hx2 : (x : Int) < m := by omega
            go_wp2_with fail
            go_round
            case rel => exact ⟨k + 1, by omega, by go_num⟩
            case measure => simp [intOf]; omega
          · obtain rfl : k = LA.length := by omega
            have hdl : decide ((LA.length : Int) < L.length) = false := by simp; omega
            go_wp2_with (first | (at_builtin; refine wpList_append_own _ rfl (.tmp 34) (.tmp 37) 22 rfl w.heap.size 3 i0 (.int .i64 0) 1 8 Try.underlying22 hi0 hz0 hz1 hz2 rfl (by decide) _ _ _ rfl hown0 ⟨b, off, none⟩ LA.length _ ((natsI LA).map (Value.int .i64)) rfl (by simp [natsI_len]) (news_of_sl (HC1.out _ (Bel.alloc0 w _))) (ones_int _) (by simp; unfold maxLen; omega) (by simp; omega) (by simp) ?_; intro v1 w1 hown1 hgrow1 _; have hown1b := own_fix (n := LA.length) (xs := natsI LA) (by simp) (by simp) hown1; have hbw1 := (Bel.alloc0 w _).grown hgrow1 (fun k hk => own_base hown0 k hk)) | (at_builtin; refine wpList_append_own _ rfl (.tmp 39) (.tmp 41) 22 rfl w.heap.size 3 i0 (.int .i64 0) 1 8 Try.underlying22 hi0 hz0 hz1 hz2 rfl (by decide) _ _ _ rfl (hown1b.alloc _) ⟨w1.heap.size, 0, none⟩ 1 1 [.int .i64 m] rfl rfl (news_one _ _ _) (one_int _) (by unfold maxLen; omega) (by omega) (by have := hbw1.size; simp; omega) ?_; intro v2 w2 hown2 hgrow2 _; have hbw2 := (hbw1.alloc _).grown hgrow2 (fun k hk => own_base hown1b k hk)) | (at_builtin; refine wpList_append_own _ rfl (.tmp 43) (.tmp 46) 22 rfl w.heap.size 3 i0 (.int .i64 0) 1 8 Try.underlying22 hi0 hz0 hz1 hz2 rfl (by decide) _ _ _ rfl hown2 _ _ _ [] rfl (by simp; try omega) (by simp) (by simp) (by unfold maxLen; omega) (by omega) hbw2.size ?_; intro v3 w3 hown3 hgrow3 _; have hbw3 := hbw2.grown hgrow3 (fun k hk => own_base hown2 k hk)))
            have hown4 : w3.ownsRow w.heap.size 3 1 v3 (natsI LA ++ [(m : Int)] ++ natsI LB).length ((natsI LA ++ [(m : Int)] ++ natsI LB).map (Value.int .i64)) := own_fix (by rw [HB0.out]; simp [natsI]) (by rw [HB0.out]; simp [natsI]) hown3
            obtain ⟨g, n, c, hv'⟩ := own_form hown4
            subst hv'
            go_ret
            exact ⟨_, _, _, rfl, .inr (by rw [E.out]; exact hown4), hbw3⟩
theorem l1Put_c (lo : Nat) (v : Value) (f : Nat → Bool) (m : Nat) (w : World) (hm : m < 12) (hlo : lo ≤ w.heap.size) (hnz : 0 < (varsTo f 12).length) (hv : OwnI lo w.heap.size w v (natsI (varsTo f 12))) :
    Calls Try.prog 71 #[v, .int .i64 m] w (RetO lo w (natsI (varsTo (setF f m) 12))) := by
  refine (l1Put_p lo v f m w hm hlo hnz hv).mono ?_
  rintro e w' ⟨ad, n, c, rfl, h, hb⟩
  refine ⟨ad, n, c, rfl, ?_, hb⟩
  rcases h with ⟨rfl, h2⟩ | h
  · rw [h2]; exact (hv.below hb).mono (Nat.le_refl _) hb.size
  · exact (OwnI.of_row h).mono hlo (Nat.le_refl _)
end Go.Proofs.Ytnldienjkejfcaa
end
section
namespace Go.Proofs.Ytnldienjkejfcaa
open Go.RowKit

theorem put_empty {f : Nat → Bool} {m : Nat} (hm : m < 12) (h : varsTo f 12 = []) : natsI (varsTo (setF f m) 12) = [(m : Int)] := by
  have h1 := vars_split f m hm
  rw [h] at h1
  have h2 := List.append_eq_nil_iff.1 h1.symm
  have h3 : tailF f m = [] := by
    have := h2.2
    split at this
    · simp at this
    · exact this
  rw [set_vars f m hm, h2.1, h3]; rfl
theorem put_some (f : Nat → Bool) (m : Nat) (hm : m < 12) : 0 < (varsTo (setF f m) 12).length := by rw [set_vars f m hm]; simp; omega

theorem l1Put_z (z : Int) (lo : Nat) (v : Value) (f : Nat → Bool) (m : Nat) (w : World) (hz : z = m) (hm : m < 12) (hlo : lo ≤ w.heap.size) (hnz : 0 < (varsTo f 12).length) (hv : OwnI lo w.heap.size w v (natsI (varsTo f 12))) :
    Calls Try.prog 71 #[v, .int .i64 z] w (RetO lo w (natsI (varsTo (setF f m) 12))) := by subst hz; exact l1Put_c lo v f m w hm hlo hnz hv
theorem l1Put_nz (z : Int) (m : Nat) (w : World) (hz : z = m) : Calls Try.prog 71 #[.slice none 0 0, .int .i64 z] w (RetR w [(m : Int)]) := by subst hz; exact l1Put_nil m w

/-- A row of ints of the call's own. -/
abbrev RowI (lo : Nat) (w : World) (v : Value) (xs : List Int) : Prop := w.ownsRow lo 3 1 v xs.length (xs.map (Value.int .i64))
theorem RowI.mono {lo lo' : Nat} {w : World} {v : Value} {xs : List Int} (h : RowI lo w v xs) (hl : lo' ≤ lo) : RowI lo' w v xs := by
  refine ⟨h.1, ?_⟩
  rcases h.2 with h0 | ⟨g, cap, cur, e1, e2, r⟩
  · exact .inl h0
  · exact .inr ⟨g, cap, cur, e1, Nat.le_trans hl e2, r⟩
theorem l1Put_q (z : Int) (lo : Nat) (v : Value) (f : Nat → Bool) (m : Nat) (w : World) (hz : z = m) (hm : m < 12) (hlo : lo ≤ w.heap.size) (hnz : 0 < (varsTo f 12).length) (hv : RowI lo w v (natsI (varsTo f 12))) :
    Calls Try.prog 71 #[v, .int .i64 z] w (fun e w' => ∃ ad n c, e = .returned (.slice ad n c) ∧ RowI lo w' (.slice ad n c) (natsI (varsTo (setF f m) 12)) ∧ Bel w w') := by
  subst hz
  refine (l1Put_p lo v f m w hm hlo hnz (OwnI.of_row hv)).mono ?_
  rintro e w' ⟨ad, n, c, rfl, h, hb⟩
  refine ⟨ad, n, c, rfl, ?_, hb⟩
  rcases h with ⟨rfl, h2⟩ | h
  · rw [h2]; exact ownsRow_bel hv hb
  · exact RowI.mono h hlo

set_option maxRecDepth 100000 in
set_option maxHeartbeats 300000 in
theorem l1Vars_r (l h : Nat) (v : Value) (t : List Int) (w : World) (ht : t.length ≤ 1048576) (hlow : ∀ k, k < t.length → -12 ≤ t.getD k 0) (hv : SlI l h w v t) :
    Calls Try.prog 70 #[v] w (RetR w (natsI (varsTo (mk t) 12))) := by
  obtain ⟨ad, cap, rfl, -, -, hr⟩ := hv
  go_enter Try.func70, Try.ntmps70
  go_wp2_with fail
  go_loopw [3, 8] (fun o i wr => ∃ k : Nat, k ≤ t.length ∧ i = .int .i64 k ∧ RowI w.heap.size wr o (natsI (varsTo (mk (t.take k)) 12)) ∧ (varsTo (mk (t.take k)) 12 = [] → o = .slice none 0 0) ∧ Bel w wr) (fun _ i _ => t.length - (intOf i).toNat)
  case atStart =>
    have e : varsTo (mk (t.take 0)) 12 = [] := by
      unfold varsTo; rw [List.filter_eq_nil_iff]; intro a _; simp [mk]
    exact ⟨0, Nat.zero_le _, rfl, by rw [e]; exact World.ownsRow_nil _ _ _ _, fun _ => rfl, Bel.rfl' _⟩
  case round =>
    obtain ⟨k, hk, rfl, hown, hnil, hb⟩ := hrel
    by_cases hlt : k < t.length
    · obtain ⟨b, off, rfl, -, hcell⟩ := rd hr hb k hlt
      have hx12 := hlow k hlt
      have E1 := Lib.hid (fun m => mk_step t k m hlt)
      have E2 := Lib.hid (mk_skip t k hlt)
      clear hr hlow
      generalize t.getD k 0 = x at *
      by_cases hx : x < 0
      · obtain ⟨m, hm⟩ : ∃ m : Nat, -1 - x = m := ⟨(-1 - x).toNat, by omega⟩
        have hm12 : m < 12 := by omega
        have E3 : Hid (mk (t.take (k+1)) = setF (mk (t.take k)) m) := by show _ = _; rw [← E1.out m (by omega)]; rfl
        have HM := Lib.hid hm; clear hm
        cases hl : varsTo (mk (t.take k)) 12 with
        | nil =>
          have ho := hnil hl
          have E4 := Lib.hid (put_empty hm12 hl)
          have E5 := Lib.hid (put_some (mk (t.take k)) m hm12)
          subst ho
          clear hown hnil hl
          go_wp2_with fail
          refine (l1Put_nz (-1 - x) m _ HM.out).mono ?_; rintro e w1 ⟨a1, n1, c1, rfl, ho1, hb1⟩
          go_wp2_with fail
          go_roundw
          case rel => exact ⟨k+1, by omega, by go_num, by rw [E3.out, E4.out]; exact RowI.mono ho1 hb.size, fun h => by rw [E3.out] at h; have := E5.out; rw [h] at this; simp at this, hb.step hb1⟩
          case measure => simp [intOf]; omega
        | cons y ys =>
          have hpos : 0 < (varsTo (mk (t.take k)) 12).length := by rw [hl]; simp
          have E5 := Lib.hid (put_some (mk (t.take k)) m hm12)
          have HO := Lib.hid hown
          clear hown hnil hl
          go_wp2_with fail
          refine (l1Put_q (-1 - x) w.heap.size _ (mk (t.take k)) m _ HM.out hm12 hb.size hpos HO.out).mono ?_; rintro e w1 ⟨a1, n1, c1, rfl, ho1, hb1⟩
          go_wp2_with fail
          go_roundw
          case rel => exact ⟨k+1, by omega, by go_num, by rw [E3.out]; exact ho1, fun h => by rw [E3.out] at h; have := E5.out; rw [h] at this; simp at this, hb.step hb1⟩
          case measure => simp [intOf]; omega
      · have HO := Lib.hid hown
        have HN := Lib.hid hnil
        clear hown hnil
        go_wp2_with fail
        go_roundw
        case rel => exact ⟨k+1, by omega, by go_num, by rw [← E2.out (by omega)]; exact HO.out, by rw [← E2.out (by omega)]; exact HN.out, hb⟩
        case measure => simp [intOf]; omega
    · rw [show t.take k = t from List.take_of_length_le (by omega)] at hown
      obtain ⟨g, n, c2, hv'⟩ := own_form hown
      subst hv'
      have HO := Lib.hid hown
      clear hown hnil
      go_wp2_with fail
      go_ret
      exact ⟨_, _, _, rfl, HO.out, hb⟩
theorem l1Vars_c (l h : Nat) (v : Value) (t : List Int) (w : World) (ht : t.length ≤ 1048576) (hlow : ∀ k, k < t.length → -12 ≤ t.getD k 0) (hv : SlI l h w v t) :
    Calls Try.prog 70 #[v] w (RetI w (natsI (varsTo (mk t) 12))) := (l1Vars_r l h v t w ht hlow hv).mono fun _ _ h => h.i
end Go.Proofs.Ytnldienjkejfcaa
end
section
/- append of a row of ints to a row of ints, at a step of a region that draws. -/
namespace Go.Proofs.Ytnldienjkejfcaa
open Go.RowKit

theorem step_append_row {w : World} {ops : Array Oper} {o : Oper} {a : Act} {K : Act → World → Prop} {Q : Exit → Act → World → Prop} {E : Prop} (hgd : o.guard = none) (s x : Operand) (d : Nat) (hd : o.dst = some d)
    (ho : o.op = .call { callee := .builtin .append, args := #[s, x], argTypes := #[22, 22] })
    (base base2 : Nat) (v y : Value) (xs ys : List Int) (hs : a.eval s = v) (hown : RowI base w v xs) (hx : a.eval x = y) (hy : RowI base2 w y ys)
    (hl : xs.length + ys.length ≤ 1099511627776) (hbase : base ≤ w.heap.size)
    (h : ∀ ad n c w', RowI base w' (.slice ad n c) (xs ++ ys) → w.grownBy w' v.ownBlock → K (a.put (some d) (.slice ad n c)) w') :
    if Region.wanted o (yielded ops a.tmps) = true then Oper.wp Try.prog o a w K Q else E := by
  obtain ⟨i0, hi0, hz0, hz1, hz2⟩ := info_parts Try.info3
  have hw : Region.wanted o (yielded ops a.tmps) = true := by simp [Region.wanted, hgd]
  rw [if_pos hw]
  rw [← hd] at h
  rcases hy.2 with ⟨rfl, hn⟩ | ⟨g, cap, cur, rfl, hg, hh, hn, hc, hsz, ht⟩
  · have he : ys = [] := List.length_eq_zero_iff.1 hn
    subst he
    obtain ⟨ad, n, c, rfl⟩ := own_form hown
    have hrun := run_append_owned_none (P := Try.prog) (w := w) base 22 o.type 3 i0 1 Try.underlying22 hi0 (.slice ad n c) xs.length (xs.map (Value.int .i64)) hown
    unfold Oper.wp
    simp [execOp, ho, resolve, invoke, builtin, hs, hx, hrun, Result.andThen]
    exact h ad n c w (by simpa using hown) (World.grownBy.refl _ _)
  · refine wp_append_own w s x 22 ho base 3 i0 (.int .i64 0) 1 8 Try.underlying22 hi0 hz0 hz1 hz2 rfl (by decide) v xs.length (xs.map (Value.int .i64)) hs hown
      ⟨g, 0, none⟩ ys.length cap (ys.map (Value.int .i64)) hx (by simp) (hy.cells rfl) (ones_int _) (by unfold maxLen; omega) (by omega) hbase (fun v' w' h1 h2 _ => ?_)
    obtain ⟨ad, n, c, rfl⟩ := own_form h1
    exact h ad n c w' (by simpa [RowI] using h1) h2
end Go.Proofs.Ytnldienjkejfcaa
end
section
/- Chapter 4, the reference: VarsIn. -/
namespace Go.Proofs.Ytnldienjkejfcaa
open Go.RowKit

theorem varsTo_congr {f g : Nat → Bool} (n : Nat) (h : ∀ j, j < n → f j = g j) : varsTo f n = varsTo g n := by
  unfold varsTo
  refine List.filter_congr fun j hj => h j (by simpa using hj)
theorem varsTo_mem {f : Nat → Bool} {n j : Nat} : j ∈ varsTo f n ↔ j < n ∧ f j = true := by simp [varsTo]
theorem mk_app (a b : List Int) (j : Nat) : mk (a ++ b) j = (mk a j || mk b j) := by
  unfold mk; rw [Bool.eq_iff_iff]; simp
/-- The numbers of two terms' variables. -/
def two12 (xl xr : List Int) : List Nat := varsTo (mk xl) 12 ++ varsTo (mk xr) 12
theorem two12_lt {xl xr : List Int} : ∀ m ∈ two12 xl xr, m < 12 := by
  intro m hm
  unfold two12 at hm
  rcases List.mem_append.1 hm with h | h <;> exact (varsTo_mem.1 h).1
theorem two12_len (xl xr : List Int) : (two12 xl xr).length ≤ 24 := by
  have h1 := varsTo_len (mk xl) 12
  have h2 := varsTo_len (mk xr) 12
  unfold two12; simp; omega
theorem two12_nats (xl xr : List Int) : natsI (varsTo (mk xl) 12) ++ natsI (varsTo (mk xr) 12) = natsI (two12 xl xr) := by simp [two12, natsI]
theorem two12_mem {A xl xr : List Int} {F G : Nat → Bool} (hF : ∀ j, j < 12 → F j = mk A j) (hG : ∀ j, j < 12 → G j = (F j || decide (j ∈ two12 xl xr))) : ∀ j, j < 12 → G j = mk (A ++ xl ++ xr) j := by
  intro j hj
  rw [hG j hj, hF j hj, mk_app, mk_app, Bool.or_assoc]
  congr 1
  rw [Bool.eq_iff_iff]
  simp [two12, varsTo_mem, hj]
theorem put_take {N : List Nat} {i : Nat} (hi : i < N.length) {F F0 : Nat → Bool} (h : ∀ j, j < 12 → F j = (F0 j || decide (j ∈ N.take i))) : ∀ j, j < 12 → setF F (N.getD i 0) j = (F0 j || decide (j ∈ N.take (i+1))) := by
  intro j hj
  have e : N.take (i+1) = N.take i ++ [N.getD i 0] := by rw [List.take_succ_eq_append_getElem hi]; simp [List.getD, hi]
  rw [e]
  unfold setF
  by_cases hq : j = N.getD i 0
  · rw [if_pos hq]; simp [hq]
  · rw [if_neg hq, h j hj]; simp [List.mem_append]; simp [List.getD] at hq; simp [hq]

set_option maxRecDepth 100000 in
set_option maxHeartbeats 1000000 in
theorem l4Vars_c (l h : Nat) (v : Value) (c : List Lt) (w : World) (hx : shortC c) (hlow : ∀ t ∈ flatC c, ∀ k, k < t.length → -12 ≤ t.getD k 0) (hv : SlC l h w v c) :
    Calls Try.prog 63 #[v] w (RetI w (natsI (varsTo (mk (flatC c).flatten) 12))) := by
  obtain ⟨ad, cap, rfl⟩ := hv.form
  obtain ⟨hxl, hxj⟩ := hx
  go_enter Try.func63, Try.ntmps63
  go_wp2_with fail
  go_loopw [3, 10] (fun o i wr => ∃ (k : Nat) (F : Nat → Bool), k ≤ c.length ∧ i = .int .i64 k ∧ RowI w.heap.size wr o (natsI (varsTo F 12)) ∧ (varsTo F 12 = [] → o = .slice none 0 0) ∧ (∀ j, j < 12 → F j = mk (flatC (c.take k)).flatten j) ∧ Bel w wr) (fun _ i _ => c.length - (intOf i).toNat)
  case atStart =>
    have e : varsTo (fun _ => false) 12 = [] := rfl
    exact ⟨0, fun _ => false, Nat.zero_le _, rfl, by rw [e]; exact World.ownsRow_nil _ _ _ _, fun _ => rfl, fun j _ => by simp [mk, flatC], Bel.rfl' _⟩
  case round =>
    obtain ⟨k, F, hk, rfl, hrow, hnil, hF, hb⟩ := hrel
    by_cases hlt : k < c.length
    · obtain ⟨b, off, u1, u2, rfl, hbs, c1, c2, c3, s1, s2⟩ := hv.at hb k hlt
      obtain ⟨hm1, hm2⟩ := hxj k hlt
      have HFT : Hid ((flatC (c.take (k+1))).flatten = (flatC (c.take k)).flatten ++ (c.getD k lt0).2.1 ++ (c.getD k lt0).2.2) := by show _ = _; rw [flatC_take c k hlt]; simp
      have hlo1 := hlow _ (show (c.getD k lt0).2.1 ∈ flatC c from List.mem_flatMap.2 ⟨_, mem_getD c lt0 k hlt, by simp⟩)
      have hlo2 := hlow _ (show (c.getD k lt0).2.2 ∈ flatC c from List.mem_flatMap.2 ⟨_, mem_getD c lt0 k hlt, by simp⟩)
      have hin1 : (k : Int) < c.length := by omega
      generalize c.getD k lt0 = x at *
      obtain ⟨p, xl, xr⟩ := x
      simp only at *
      obtain ⟨a1, d1, rfl⟩ := s1.form
      obtain ⟨a2, d2, rfl⟩ := s2.form
      have HL := Lib.hid (fun (w' : World) (hq : Bel wr w') => l1Vars_r l h _ xl w' (by omega) hlo1 (s1.below hq))
      have HR := Lib.hid (fun (w' : World) (hq : Bel wr w') => l1Vars_r l h _ xr w' (by omega) hlo2 (s2.below hq))
      have hvl1 : (natsI (varsTo (mk xl) 12)).length ≤ 12 := by rw [natsI_len]; exact varsTo_len _ _
      have hvl2 : (natsI (varsTo (mk xr) 12)).length ≤ 12 := by rw [natsI_len]; exact varsTo_len _ _
      have HT := Lib.hid (two12_nats xl xr)
      have HTL := Lib.hid (two12_lt (xl := xl) (xr := xr))
      have htl := two12_len xl xr
      have HM := Lib.hid (fun G => two12_mem (A := (flatC (c.take k)).flatten) (xl := xl) (xr := xr) (F := F) (G := G) hF)
      have HROW := Lib.hid hrow
      have HNIL := Lib.hid hnil
      generalize hA1 : natsI (varsTo (mk xl) 12) = A1 at *
      generalize hA2 : natsI (varsTo (mk xr) 12) = A2 at *
      generalize hN : two12 xl xr = N at *
      clear hv s1 s2 hlow hlo1 hlo2 hF hA1 hA2 hN hrow hnil hxj
      have HB0 : Bel wr (wr.alloc (.cells #[.bool p, .slice a1 xl.length d1, .slice a2 xr.length d2] 59)).drew := (Bel.alloc0 _ _).drew
      have HZ0 : wr.heap.size + 1 ≤ (wr.alloc (.cells #[.bool p, .slice a1 xl.length d1, .slice a2 xr.length d2] 59)).drew.heap.size := by simp [World.drew]
      have k1 : (wr.alloc (.cells #[.bool p, .slice a1 xl.length d1, .slice a2 xr.length d2] 59)).drew.cell? ⟨wr.heap.size, 1, none⟩ = some (.slice a1 xl.length d1) := boxc ((Bel.rfl' _).drew) 1 _ rfl
      have k2 : (wr.alloc (.cells #[.bool p, .slice a1 xl.length d1, .slice a2 xr.length d2] 59)).drew.cell? ⟨wr.heap.size, 2, none⟩ = some (.slice a2 xr.length d2) := boxc ((Bel.rfl' _).drew) 2 _ rfl
      go_wp2_with fail
      go_region_held_law (fun w' => w'.cell? ⟨wr.heap.size, 1, none⟩ = some (.slice a1 xl.length d1) ∧ w'.cell? ⟨wr.heap.size, 2, none⟩ = some (.slice a2 xr.length d2))
        (first | exact ⟨k15, k25⟩ | exact ⟨k14, k24⟩ | exact ⟨k13, k23⟩ | exact ⟨k1, k2⟩ | fail)
        (first
          | (refine step_append_row ?a1 (.tmp 16) (.tmp 19) 20 ?a6 ?a2 (wr.heap.size + 1) (wr.heap.size + 1) _ _ A1 A2 ?a3 R1 ?a4 R2 (by omega) HZ4 ?a5; (case a1 => rfl); (case a6 => rfl); (case a2 => rfl); (case a3 => first | rfl | (simp [Act.eval, Act.put]; done)); (case a4 => first | rfl | (simp [Act.eval, Act.put]; done)); intro a5 n5 c5 w5 R5 hg5; have HB5 := HB4.grown hg5 (fun q hq => Nat.le_of_succ_le (own_base R1 q hq)); have k15 := hg5.cell k14 (fun e => Nat.lt_irrefl _ (own_base R1 _ e.symm)); have k25 := hg5.cell k24 (fun e => Nat.lt_irrefl _ (own_base R1 _ e.symm)))
          | (go_at_call 70; refine (HR.out _ HB3).mono ?_; rintro e w4 ⟨p2, m2, q2, rfl, r2, g4⟩; have HB4 := HB3.step g4; have HZ4 := Nat.le_trans HZ3 g4.size; have R1 : RowI (wr.heap.size + 1) w4 _ A1 := RowI.mono (ownsRow_bel r1 g4) HZ0; have R2 : RowI (wr.heap.size + 1) w4 _ A2 := RowI.mono r2 HZ3; have k14 := g4.at (World.block_lt_of_cell? _ ⟨_, _, none⟩ k13) k13; have k24 := g4.at (World.block_lt_of_cell? _ ⟨_, _, none⟩ k23) k23)
          | (go_at_call 70; refine (HL.out _ HB3).mono ?_; rintro e w4 ⟨p1, m1, q1, rfl, r1, g4⟩; have HB4 := HB3.step g4; have HZ4 := Nat.le_trans HZ3 g4.size; have R2 : RowI (wr.heap.size + 1) w4 _ A2 := RowI.mono (ownsRow_bel r2 g4) HZ0; have R1 : RowI (wr.heap.size + 1) w4 _ A1 := RowI.mono r1 HZ3; have k14 := g4.at (World.block_lt_of_cell? _ ⟨_, _, none⟩ k13) k13; have k24 := g4.at (World.block_lt_of_cell? _ ⟨_, _, none⟩ k23) k23)
          | (go_at_call 70; refine (HL.out _ HB0).mono ?_; rintro e w3 ⟨p1, m1, q1, rfl, r1, g3⟩; have HB3 := HB0.step g3; have HZ3 := Nat.le_trans HZ0 g3.size; have k13 := g3.at (World.block_lt_of_cell? _ ⟨_, _, none⟩ k1) k1; have k23 := g3.at (World.block_lt_of_cell? _ ⟨_, _, none⟩ k2) k2)
          | (go_at_call 70; refine (HR.out _ HB0).mono ?_; rintro e w3 ⟨p2, m2, q2, rfl, r2, g3⟩; have HB3 := HB0.step g3; have HZ3 := Nat.le_trans HZ0 g3.size; have k13 := g3.at (World.block_lt_of_cell? _ ⟨_, _, none⟩ k1) k1; have k23 := g3.at (World.block_lt_of_cell? _ ⟨_, _, none⟩ k2) k2)
          | fail)
      all_goals
        have hm5 := row_len R5
        subst hm5
        have hsl5 := (OwnI.of_row R5).sl
        have hal : (A1 ++ A2).length = N.length := by rw [HT.out, natsI_len]
        have HSL : Hid (SlI (wr.heap.size + 1) w5.heap.size w5 (.slice a5 (A1 ++ A2).length c5) (natsI N)) := by show SlI _ _ _ _ _; rw [← HT.out]; exact hsl5
        have hO5 : Hid (RowI w.heap.size w5 u3 (natsI (varsTo F 12))) := by show RowI _ _ _ _; exact ownsRow_bel HROW.out HB5
        have HNIL2 := Lib.hid HNIL.out
        have hB5 := hb.step HB5
        clear r1 r2 R1 R2 R5 hg5 hsl5 k1 k2 k13 k23 k14 k24 k15 k25 g3 g4 HT HB4 HB3 HB0 HZ0 HZ3 HZ4 HL HR c1 c2 c3
        rw [hal] at *
        go_wp2_with fail
        go_loopw [3, 22] (fun o i w6 => ∃ (q : Nat) (G : Nat → Bool), q ≤ N.length ∧ i = .int .i64 q ∧ RowI w.heap.size w6 o (natsI (varsTo G 12)) ∧ (varsTo G 12 = [] → o = .slice none 0 0) ∧ (∀ j, j < 12 → G j = (F j || decide (j ∈ N.take q))) ∧ Bel w5 w6) (fun _ i _ => N.length - (intOf i).toNat)
        case atStart => exact ⟨0, F, Nat.zero_le _, rfl, hO5.out, HNIL2.out, fun j _ => by simp, Bel.rfl' _⟩
        case round =>
          obtain ⟨q, G, hq, rfl, hrG, hnG, hG, hb6⟩ := hrel
          by_cases hlq : q < N.length
          · obtain ⟨ad5, cap5, e5, _, _, hr5⟩ := HSL.out
            simp only [Value.slice.injEq] at e5
            obtain ⟨rfl, -, rfl⟩ := e5
            obtain ⟨b5, o5, rfl, -, hcell⟩ := rd hr5 hb6 q (by rw [natsI_len]; exact hlq)
            rw [nget _ _ hlq] at hcell
            have hm12 := HTL.out _ (mem_getD N 0 q hlq)
            have HP := Lib.hid (put_take hlq hG)
            have hq1 : (q : Int) < N.length := by omega
            have hps := put_some G (N.getD q 0) hm12
            clear hr5 hG HSL
            generalize N.getD q 0 = m at *
            cases hl : varsTo G 12 with
            | nil =>
              have ho := hnG hl
              have E4 := Lib.hid (put_empty hm12 hl)
              have HPS := Lib.hid hps
              subst ho
              clear hrG hnG hl hps
              go_wp2_with fail
              refine (l1Put_nz _ m _ rfl).mono ?_; rintro e w7 ⟨a7, n7, c7, rfl, ho7, hb7⟩
              go_wp2_with fail
              go_roundw
              case rel => exact ⟨q+1, setF G m, by omega, by go_num, by rw [E4.out]; exact RowI.mono ho7 (hB5.step hb6).size, fun h => by have := HPS.out; rw [h] at this; simp at this, HP.out, hb6.step hb7⟩
              case measure => simp [intOf]; omega
            | cons y ys =>
              have hpos : 0 < (varsTo G 12).length := by rw [hl]; simp
              have HPS := Lib.hid hps
              have HO := Lib.hid hrG
              clear hrG hnG hl hps
              go_wp2_with fail
              refine (l1Put_q _ w.heap.size _ G m _ rfl hm12 (hB5.step hb6).size hpos HO.out).mono ?_; rintro e w7 ⟨a7, n7, c7, rfl, ho7, hb7⟩
              go_wp2_with fail
              go_roundw
              case rel => exact ⟨q+1, setF G m, by omega, by go_num, ho7, fun h => by have := HPS.out; rw [h] at this; simp at this, HP.out, hb6.step hb7⟩
              case measure => simp [intOf]; omega
          · rw [List.take_of_length_le (by omega)] at hG
            have hGG := HM.out G hG
            rw [← HFT.out] at hGG
            have HGG := Lib.hid hGG
            have HO := Lib.hid hrG
            have HNG := Lib.hid hnG
            clear hG hGG hrG hnG HSL
            have hq1 : ¬ (q : Int) < N.length := by omega
            go_wp2_with fail
            go_roundw
            case rel => exact ⟨k+1, G, by omega, by go_num, HO.out, HNG.out, HGG.out, hB5.step hb6⟩
            case measure => simp [intOf]; omega
    · rw [List.take_of_length_le (by omega)] at hF
      obtain ⟨g, n, c2, hv'⟩ := own_form hrow
      subst hv'
      have E := Lib.hid (varsTo_congr 12 hF)
      have HO := Lib.hid hrow
      clear hrow hnil hF
      go_wp2_with fail
      go_ret
      exact ⟨_, _, _, rfl, by rw [← E.out]; exact OwnI.of_row HO.out, hb⟩
theorem flat_low1 {ar : List Int} {c : List Lt} (h : goodClause ar c = true) : ∀ t ∈ flatC c, ∀ k, k < t.length → -12 ≤ t.getD k 0 :=
  fun _ ht => low_memC fun _ hn => ok_low (flat_ok (goodClause_iff.1 h).2.2 ht) hn

end Go.Proofs.Ytnldienjkejfcaa
end
section
/- Chapter 5, the reference: FalseAt. -/
namespace Go.Proofs.Ytnldienjkejfcaa
open Go.RowKit

theorem make12 (w : World) : (Instr.makeSlice 22 (.int .i64 12) (.int .i64 12)).run Try.prog w = .ok (.slice (some ⟨w.heap.size, 0, none⟩) 12 12) (w.alloc (.cells #[.int .i64 0, .int .i64 0, .int .i64 0, .int .i64 0, .int .i64 0, .int .i64 0, .int .i64 0, .int .i64 0, .int .i64 0, .int .i64 0, .int .i64 0, .int .i64 0] 3)) := by kernel_rfl
theorem zeros_own (w : World) : OwnI w.heap.size (w.heap.size + 1) (w.alloc (.cells #[.int .i64 0, .int .i64 0, .int .i64 0, .int .i64 0, .int .i64 0, .int .i64 0, .int .i64 0, .int .i64 0, .int .i64 0, .int .i64 0, .int .i64 0, .int .i64 0] 3)) (.slice (some ⟨w.heap.size, 0, none⟩) 12 12) zeros12 := by
  refine ⟨⟨_, 12, rfl, Nat.le_refl _, ⟨by decide, fun h => by simp at h⟩, fun _ => ⟨w.heap.size, 0, rfl, Nat.le_refl _, Nat.lt_succ_self _, fun j hj => ?_⟩⟩, fun b off n c hv hn j => ?_⟩
  · rw [Nat.zero_add, World.cell?_alloc_new w]
    have : j < 12 := hj
    unfold zeros12
    match j, this with
    | 0, _ | 1, _ | 2, _ | 3, _ | 4, _ | 5, _ | 6, _ | 7, _ | 8, _ | 9, _ | 10, _ | 11, _ => rfl
  · simp only [Value.slice.injEq, Option.some.injEq, Addr.mk.injEq] at hv
    obtain ⟨⟨rfl, rfl, -⟩, rfl, rfl⟩ := hv
    exact World.frozen?_alloc_at _ _ _ _ rfl

def RetFA (w : World) (R : Option (List Int)) (x : Ending) (w' : World) : Prop := RetIB w (R.getD []) R.isSome x w'
set_option maxRecDepth 100000 in
set_option maxHeartbeats 1000000 in
theorem l5FalseAt_c (l h : Nat) (v u vc : Value) (ar : List Int) (Z : Nat) (tb : List (List Int)) (c : List Lt) (w : World) (hg : goodSign ar = true) (hw : isWorld ar Z tb = true) (hok : okLits ar c = true) (hsh : shortC c) (hh : h ≤ w.heap.size)
    (hv : SlI l h w v ar) (hu : SlS l h w u tb) (hc : SlC l h w vc c) :
    Calls Try.prog 64 #[.agg #[v], .agg #[.int .i64 (Z : Int), u], vc] w (RetFA w (lwC ar Z tb c)) := by
  obtain ⟨i0, hi0, hz0, hz1, hz2⟩ := info_parts Try.info3
  have HB : Bel w ((w.alloc (.cells #[v] 30)).alloc (.cells #[.int .i64 (Z : Int), u] 44)) := Bel.alloc2 _ _ _
  have KX : Hid (∀ w', Bel ((w.alloc (.cells #[v] 30)).alloc (.cells #[.int .i64 (Z : Int), u] 44)) w' → w'.cell? ⟨w.heap.size, 0, none⟩ = some v ∧ w'.cell? ⟨w.heap.size + 1, 0, none⟩ = some (.int .i64 (Z : Int)) ∧ w'.cell? ⟨w.heap.size + 1, 1, none⟩ = some u) := fun w' hb =>
    ⟨hb.at (by simp; omega) (by simp [go_sem]), hb.at (by simp) (by simp [go_sem]), hb.at (by simp) (by simp [go_sem])⟩
  have hlow : ∀ t ∈ flatC c, ∀ k, k < t.length → -12 ≤ t.getD k 0 := fun t ht => low_memC (fun n hn => ok_low (flat_ok (okLits_iff.1 hok).2 ht) hn)
  have HV := Lib.hid (fun (w' : World) (hb : Bel w w') => l4Vars_c l h vc c w' hsh hlow (hc.below hb))
  have hmk := make12
  have hvr : ∀ x ∈ varsC c, x < 12 := fun x hx => by
    unfold varsC varsTo at hx
    rw [List.mem_filter, List.mem_range] at hx
    exact hx.1
  have hvl : (varsC c).length ≤ 12 := varsTo_len _ _
  obtain ⟨z1, z3, _⟩ := isWorld_iff.1 hw
  have hzo : okEnv Z zeros12 = true := zeros_ok (by omega)
  have HF := Lib.hid (fun (eb : Nat) (w' : World) (vv ve : Value) (a b : Nat) (he1 : h ≤ eb) (hb : Bel w w') (s1 : SlI a b w' vv (natsI (varsC c))) (s2 : OwnI eb (eb + 1) w' ve zeros12) (hd : b ≤ eb ∨ eb + 1 ≤ a) (hs : eb + 1 ≤ w'.heap.size) => l5False_c l h v u vc ar Z tb c eb (eb + 1) hg hw hok (.inl he1) (Nat.le_refl _) (varsC c) zeros12 w' vv ve a b hvr hvl hzo (hv.below hb) (hu.below hb) (hc.below hb) s1 s2 hd hs)
  have HF : Hid (∀ (eb : Nat) (w' : World) (vv ve : Value) (a b : Nat), h ≤ eb → Bel w w' → SlI a b w' vv (natsI (varsC c)) → OwnI eb (eb + 1) w' ve zeros12 → (b ≤ eb ∨ eb + 1 ≤ a) → eb + 1 ≤ w'.heap.size → Calls Try.prog 72 #[.agg #[v], .agg #[.int .i64 (Z : Int), u], vc, vv, ve] w' (RetFal eb (eb + 1) ve (varsC c) zeros12 Z w' (lwC ar Z tb c))) := HF
  clear hv hu hc hw hg hok hvr hvl hzo hlow hsh
  unfold RetFA
  generalize lwC ar Z tb c = R at *
  cases R with
  | none =>
    go_enter Try.func64, Try.ntmps64
    go_wp2_with fail
    go_region_held3 (fun w' => Bel w w' ∧ w'.cell? ⟨w.heap.size, 0, none⟩ = some v ∧ w'.cell? ⟨w.heap.size + 1, 0, none⟩ = some (.int .i64 (Z : Int)) ∧ w'.cell? ⟨w.heap.size + 1, 1, none⟩ = some u)
      (first | exact ⟨HB.drew, KX.out _ (Bel.drew0 _)⟩ | exact ⟨HB.drew.alloc _, KX.out _ ((Bel.drew0 _).alloc _)⟩ | exact ⟨HB.step B8, KX.out _ B8⟩ | exact ⟨(HB.step B8).alloc _, KX.out _ (B8.alloc _)⟩ | exact ⟨HB.step BL, KX.out _ BL⟩ | fail)
      (first
        | (go_at_call 72; have q8 := hb8; refine (HF.out w8.heap.size _ _ _ _ _ (Nat.le_trans hh (HB.step B8).size) ((HB.step B8).alloc _) (o8.sl.alloc _) (zeros_own w8) (.inl (Nat.le_refl _)) (by simp)).mono ?_; rintro e w9 ⟨a9, n9, c9, rfl, hg9, e9, o9, hf9, hk9⟩; have BL : Bel ((w.alloc (.cells #[v] 30)).alloc (.cells #[.int .i64 (Z : Int), u] 44)) w9 := hg9.bel (B8.alloc _) B8.size)
        | (go_at_call 72; have q8 := hb8a; refine (HF.out (w.heap.size + 1 + 1) _ _ _ _ _ (by omega) (HB.step B8) o8.sl (by have h9 := (zeros_own ((w.alloc (.cells #[v] 30)).alloc (.cells #[.int .i64 (Z : Int), u] 44)).drew).below hb8a; simpa using h9) (.inr (by simp)) (by have h9 := hb8a.size; simp at h9; omega)).mono ?_; rintro e w9 ⟨a9, n9, c9, rfl, hg9, e9, o9, hf9, hk9⟩; have BL : Bel ((w.alloc (.cells #[v] 30)).alloc (.cells #[.int .i64 (Z : Int), u] 44)) w9 := hg9.bel B8 (by simp))
        | (go_at_call 63; refine (HV.out _ HB.drew).mono ?_; rintro e w8 ⟨a8, n8, c8, rfl, o8, hb8⟩; have B8 := (Bel.drew0 _).step hb8)
        | (go_at_call 63; refine (HV.out _ (HB.drew.alloc _)).mono ?_; rintro e w8 ⟨a8, n8, c8, rfl, o8, hb8a⟩; have B8 := ((Bel.drew0 _).alloc _).step hb8a)
        | fail)
    all_goals
      go_wp2_with fail
      go_ret2
      exact ⟨_, _, _, rfl, OwnI.nil _ _ _, HB.step BL⟩
  | some r =>
    go_enter Try.func64, Try.ntmps64
    go_wp2_with fail
    go_region_held3 (fun w' => Bel w w' ∧ w'.cell? ⟨w.heap.size, 0, none⟩ = some v ∧ w'.cell? ⟨w.heap.size + 1, 0, none⟩ = some (.int .i64 (Z : Int)) ∧ w'.cell? ⟨w.heap.size + 1, 1, none⟩ = some u)
      (first | exact ⟨HB.drew, KX.out _ (Bel.drew0 _)⟩ | exact ⟨HB.drew.alloc _, KX.out _ ((Bel.drew0 _).alloc _)⟩ | exact ⟨HB.step B8, KX.out _ B8⟩ | exact ⟨(HB.step B8).alloc _, KX.out _ (B8.alloc _)⟩ | exact ⟨HB.step BL, KX.out _ BL⟩ | fail)
      (first
        | (go_at_call 72; have q8 := hb8; refine (HF.out w8.heap.size _ _ _ _ _ (Nat.le_trans hh (HB.step B8).size) ((HB.step B8).alloc _) (o8.sl.alloc _) (zeros_own w8) (.inl (Nat.le_refl _)) (by simp)).mono ?_; rintro e w9 ⟨a9, n9, c9, rfl, o9, hg9⟩; have BL : Bel ((w.alloc (.cells #[v] 30)).alloc (.cells #[.int .i64 (Z : Int), u] 44)) w9 := hg9.bel (B8.alloc _) B8.size)
        | (go_at_call 72; have q8 := hb8a; refine (HF.out (w.heap.size + 1 + 1) _ _ _ _ _ (by omega) (HB.step B8) o8.sl (by have h9 := (zeros_own ((w.alloc (.cells #[v] 30)).alloc (.cells #[.int .i64 (Z : Int), u] 44)).drew).below hb8a; simpa using h9) (.inr (by simp)) (by have h9 := hb8a.size; simp at h9; omega)).mono ?_; rintro e w9 ⟨a9, n9, c9, rfl, o9, hg9⟩; have BL : Bel ((w.alloc (.cells #[v] 30)).alloc (.cells #[.int .i64 (Z : Int), u] 44)) w9 := hg9.bel B8 (by simp))
        | (go_at_call 63; refine (HV.out _ HB.drew).mono ?_; rintro e w8 ⟨a8, n8, c8, rfl, o8, hb8⟩; have B8 := (Bel.drew0 _).step hb8)
        | (go_at_call 63; refine (HV.out _ (HB.drew.alloc _)).mono ?_; rintro e w8 ⟨a8, n8, c8, rfl, o8, hb8a⟩; have B8 := ((Bel.drew0 _).alloc _).step hb8a)
        | fail)
    all_goals
      go_wp2_with fail
      go_ret2
      exact ⟨_, _, _, rfl, o9.mono (Nat.le_trans (HB.step B8).size (by simp)) (Nat.le_refl _), HB.step BL⟩
end Go.Proofs.Ytnldienjkejfcaa
end
section
/- Chapter 5, the program: falseAt. -/
namespace Go.Proofs.Ytnldienjkejfcaa
open Go.RowKit

theorem fInfo : (Try.prog.info? 98).map (fun i => (i.zero, i.size, i.bytes)) = some (some .nilFunc, 1, 8) := by kernel_rfl
abbrev RowF (lo : Nat) (w : World) (v : Value) (rs : List TR) : Prop := w.ownsRow lo 98 1 v rs.length (rs.map TR.f)
theorem step_append_fn {w : World} {ops : Array Oper} {o : Oper} {a : Act} {K : Act → World → Prop} {Q : Exit → Act → World → Prop} {E : Prop} (hgd : o.guard = none) (s x : Operand) (d : Nat) (hd : o.dst = some d)
    (ho : o.op = .call { callee := .builtin .append, args := #[s, x], argTypes := #[97, 97] })
    (base : Nat) (v : Value) (rs : List TR) (hs : a.eval s = v) (hown : RowF base w v rs) (g : Nat) (r : TR) (hx : a.eval x = .slice (some ⟨g, 0, none⟩) 1 1)
    (hnews : ∀ j u, [r.f][j]? = some u → w.cell? ((⟨g, 0, none⟩ : Addr).add j) = some u)
    (hl : rs.length ≤ 1048576) (hbase : base ≤ w.heap.size)
    (h : ∀ b k w', RowF base w' (.slice (some ⟨b, 0, none⟩) (rs.length + 1) k) (rs ++ [r]) → w.grownBy w' v.ownBlock → (v.ownBlock = some b ∨ b = w.heap.size) → K (a.put (some d) (.slice (some ⟨b, 0, none⟩) (rs.length + 1) k)) w') :
    if Region.wanted o (yielded ops a.tmps) = true then Oper.wp Try.prog o a w K Q else E := by
  obtain ⟨i0, hi0, hz0, hz1, hz2⟩ := info_parts fInfo
  rw [← hd] at h
  refine step_append_lies w hgd s x 97 ho base 98 i0 .nilFunc 1 8 (by kernel_rfl) hi0 hz0 hz1 hz2 rfl (by decide) v rs.length (rs.map TR.f) hs hown
    ⟨g, 0, none⟩ 1 1 [r.f] hx (by simp) hnews (fun u hu => by simp at hu; subst hu; rfl) (by decide) (by unfold maxLen; omega) (by omega) hbase w.heap.size rfl (fun b k w' h1 h2 h3 _ => ?_)
  refine h b k w' ?_ h2 h3
  show World.ownsRow _ _ _ _ _ _ _
  rw [List.map_append, List.length_append]
  exact h1

/-- The tests as they are collected. -/
structure Col (ar : List Int) (Z : Nat) (tb : List (List Int)) (H : Nat) (v u tv : Value) (c : List Lt) (rs : List TR) (w : World) : Prop where
  tests : Tests ar Z tb 0 H v u (H + 3) c rs w
  row : RowF (H + 3) w tv rs
  off : ∀ g, tv.ownBlock = some g → ∀ r ∈ rs, g < r.lo ∨ r.hi ≤ g
theorem Col.nil {ar : List Int} {Z : Nat} {tb : List (List Int)} {H : Nat} {v u : Value} {w : World} : Col ar Z tb H v u (.slice none 0 0) [] [] w := ⟨Tests.nil, World.ownsRow_nil _ _ _ _, fun g h => by simp [Value.ownBlock] at h⟩
theorem Col.bel {ar : List Int} {Z : Nat} {tb : List (List Int)} {H : Nat} {v u tv : Value} {c : List Lt} {rs : List TR} {w w' : World} (h : Col ar Z tb H v u tv c rs w) (k : Bel w w') : Col ar Z tb H v u tv c rs w' := ⟨h.tests.bel k, ownsRow_bel h.row k, h.off⟩
theorem own_lt {w : World} {base e s n : Nat} {v : Value} {xs : List Value} (h : w.ownsRow base e s v n xs) {g : Nat} (hg : v.ownBlock = some g) : base ≤ g ∧ g < w.heap.size := by
  obtain ⟨_, h0 | ⟨g', cap, cur, rfl, h2, h3, _⟩⟩ := h
  · rw [h0.1] at hg; simp [Value.ownBlock] at hg
  · simp only [Value.ownBlock, Option.some.injEq] at hg
    subst hg
    refine ⟨h2, ?_⟩
    rcases Nat.lt_or_ge g' w.heap.size with h | h
    · exact h
    · rw [Array.getElem?_eq_none (by omega)] at h3; simp at h3
/-- A store below. -/
theorem Col.low {ar : List Int} {Z : Nat} {tb : List (List Int)} {H : Nat} {v u tv : Value} {c : List Lt} {rs : List TR} {w : World} (h : Col ar Z tb H v u tv c rs w) {p : Addr} (hp : H ≤ p.block) (hp2 : p.block < H + 3) (x : Value) : Col ar Z tb H v u tv c rs (w.setCell p x) := by
  refine ⟨h.tests.chg (Chg.set (lo := p.block) (hi := p.block + 1) w (Nat.le_refl _) (Nat.lt_succ_self _) x) (fun r hr => .inl (by have := h.tests.cur hr; omega)) (.inr hp), ?_, h.off⟩
  obtain ⟨h1, h0 | ⟨g, cap, cur, e1, e2, hh, r⟩⟩ := h.row
  · exact ⟨h1, .inl h0⟩
  · exact ⟨h1, .inr ⟨g, cap, cur, e1, e2, by rw [Below.heap_setCell w p x g (by omega)]; exact hh, r⟩⟩
/-- One more. -/
theorem Col.snoc {ar : List Int} {Z : Nat} {tb : List (List Int)} {H : Nat} {v u tv : Value} {c : List Lt} {rs : List TR} {w w' : World} {x : Lt} {r : TR} {b k : Nat} (h : Col ar Z tb H v u tv c rs w)
    (ho : TR.ok ar Z tb 0 H v u x r w) (hlo : H + 3 ≤ r.lo) (h1 : ∀ s ∈ rs, s.hi ≤ r.lo) (h2 : ∀ g, tv.ownBlock = some g → g < r.lo)
    (hrow : RowF (H + 3) w' (.slice (some ⟨b, 0, none⟩) (rs.length + 1) k) (rs ++ [r])) (hg : w.grownBy w' tv.ownBlock) (hb : tv.ownBlock = some b ∨ b = w.heap.size) :
    Col ar Z tb H v u (.slice (some ⟨b, 0, none⟩) (rs.length + 1) k) (c ++ [x]) (rs ++ [r]) w' := by
  have hT := h.tests.snoc hlo ho h1
  have hall : ∀ s ∈ rs ++ [r], s.hi ≤ w.heap.size := fun s hs => by have := hT.cur hs; omega
  have hoff : ∀ g, tv.ownBlock = some g → ∀ s ∈ rs ++ [r], g < s.lo ∨ s.hi ≤ g := fun g hg s hs => by
    rcases List.mem_append.1 hs with h' | h'
    · exact h.off g hg s h'
    · simp at h'; subst h'; exact .inl (h2 g hg)
  refine ⟨?_, hrow, fun g hg' s hs => ?_⟩
  · cases e : tv.ownBlock with
    | none =>
      rw [e] at hg
      exact hT.bel ((Bel.rfl' w).grown hg (fun k hk => by simp at hk))
    | some g =>
      rw [e] at hg
      have hlt := own_lt h.row e
      have hk : Chg g (g+1) w w' := ⟨hg.os, hg.tape, hg.output, hg.size, fun k hk ho => hg.block k hk (by simp; omega)⟩
      exact hT.chg hk (fun s hs => by have := hoff g e s hs; omega) (.inr (by omega))
  · simp only [Value.ownBlock, Option.some.injEq] at hg'
    subst hg'
    rcases hb with hb | rfl
    · exact hoff b hb s hs
    · exact .inr (hall s hs)

theorem Col.ts {ar : List Int} {Z : Nat} {tb : List (List Int)} {H : Nat} {v u tv : Value} {c : List Lt} {rs : List TR} {w : World} (h : Col ar Z tb H v u tv c rs w) (hc : w.cell? ⟨H + 2, 0, none⟩ = some tv) (hz : H + 3 ≤ w.heap.size) :
    ∃ ad cap, TS ar Z tb 0 H v u (H + 3) w.heap.size (H + 2) ad cap c rs w ∧ ∀ bT, ad = some ⟨bT, 0, none⟩ → bT < w.heap.size := by
  have hcur : ∀ r ∈ rs, r.hi ≤ w.heap.size := fun r hr => by have := h.tests.cur hr; omega
  have hrow := h.row
  obtain ⟨h1, h0 | ⟨g, cap, cur, e1, e2, hh, r⟩⟩ := hrow
  · have hr0 : rs = [] := List.length_eq_zero_iff.1 h0.2
    refine ⟨none, 0, ⟨h.tests, Nat.lt_succ_self _, hcur, ⟨hz, Nat.le_refl _⟩, by rw [hc, h0.1, hr0]; rfl, fun hp => by rw [hr0] at hp; simp at hp⟩, fun bT hb => by simp at hb⟩
  · subst e1
    have hl := own_lt h.row (g := g) rfl
    refine ⟨some ⟨g, 0, none⟩, cap, ⟨h.tests, Nat.lt_succ_self _, hcur, ⟨hz, Nat.le_refl _⟩, hc, fun _ => ⟨g, rfl, h.off g rfl, fun j s hs => ?_⟩⟩, fun bT hb => ?_⟩
    · have hj : j < rs.length := (List.getElem?_eq_some_iff.1 hs).1
      rw [h.row.cellAt j (by omega), List.getElem?_map, hs]
      rfl
    · simp only [Option.some.injEq, Addr.mk.injEq, and_true] at hb
      subst hb
      exact hl.2

def RetTR (ar : List Int) (Z : Nat) (tb : List (List Int)) (H : Nat) (v u : Value) (x : Lt) (w : World) (e : Ending) (w' : World) : Prop :=
  ∃ r : TR, e = .returned (.func (.func 85) #[] #[.pointer (some ⟨r.p7, 0, none⟩), .pointer (some ⟨r.p4, 0, none⟩), .pointer (some ⟨r.p8, 0, none⟩), .pointer (some ⟨r.p3, 0, none⟩), .pointer (some ⟨r.p5, 0, none⟩)]) ∧ TR.ok ar Z tb 0 H v u x r w' ∧ r.lo = w.heap.size ∧ r.hi = w'.heap.size ∧ Bel w w'
theorem litTest_r (ar : List Int) (Z : Nat) (tb : List (List Int)) (H : Nat) (x : Lt) (v u u1 u2 : Value) (w : World) (z1 : 1 ≤ Z) (z3 : Z ≤ 3) (hH : H ≤ w.heap.size)
    (o1 : okTerm ar x.2.1 = true) (o2 : okTerm ar x.2.2 = true)
    (hv : SlI 0 H w v ar) (hu : SlS 0 H w u tb) (s1 : SlI 0 H w u1 x.2.1) (s2 : SlI 0 H w u2 x.2.2) :
    Calls Try.prog 79 #[.agg #[v], .agg #[.int .i64 (Z : Int), u], .agg #[.bool x.1, u1, u2]] w (RetTR ar Z tb H v u x w) := by
  refine (litTest_c ar Z tb 0 H x v u u1 u2 w z1 z3 hH o1 o2 hv hu s1 s2).mono ?_
  rintro e w' ⟨p7, p4, p8, p3, p5, bk, a7, c7, ks, rfl, T, hb⟩
  exact ⟨⟨w.heap.size, w'.heap.size, p7, p4, p8, p3, p5, bk, c7, a7, u1, u2⟩, rfl, ⟨ks, T⟩, rfl, rfl, hb⟩
end Go.Proofs.Ytnldienjkejfcaa
end
section
/- Chapter 5, the program: falseAt. -/
namespace Go.Proofs.Ytnldienjkejfcaa
open Go.RowKit

set_option maxRecDepth 100000 in
set_option maxHeartbeats 4000000 in
theorem falseAt_c (v u vc : Value) (ar : List Int) (Z : Nat) (tb : List (List Int)) (c : List Lt) (w : World) (hg : goodSign ar = true) (hw : isWorld ar Z tb = true) (hok : okLits ar c = true) (hsh : sumL (flatC c) ≤ 1048576)
    (hv : SlI 0 w.heap.size w v ar) (hu : SlS 0 w.heap.size w u tb) (hc : SlC 0 w.heap.size w vc c) :
    Calls Try.prog 74 #[.agg #[v], .agg #[.int .i64 (Z : Int), u], vc] w (RetFA w (lwC ar Z tb c)) := by
  obtain ⟨z1, z3, _⟩ := isWorld_iff.1 hw
  have h8 := (okLits_iff.1 hok).1
  have HOK := Lib.hid (fun k hk => okLits_get (okLits_iff.1 hok).2 k hk)
  obtain ⟨ac, kc, rfl⟩ := hc.form
  have hmk := make12
  have HT := Lib.hid (fun (x : Lt) (u1 u2 : Value) (w' : World) (hs : w.heap.size ≤ w'.heap.size) (o1 : okTerm ar x.2.1 = true) (o2 : okTerm ar x.2.2 = true) (hv' : SlI 0 w.heap.size w' v ar) (hu' : SlS 0 w.heap.size w' u tb) (s1 : SlI 0 w.heap.size w' u1 x.2.1) (s2 : SlI 0 w.heap.size w' u2 x.2.2) =>
    litTest_r ar Z tb w.heap.size x v u u1 u2 w' (by omega) (by omega) hs o1 o2 hv' hu' s1 s2)
  go_enter Try.func74, Try.ntmps74
  go_wp2_with fail
  obtain ⟨W, hW⟩ : ∃ W, W = ((w.alloc (.cells #[v] 30)).alloc (.cells #[.int .i64 (Z : Int), u] 44)).alloc (.cells #[.slice none 0 0] 97) := ⟨_, rfl⟩
  have hB : Bel w W := by rw [hW]; exact Bel.alloc3 _ _ _ _
  have zW : W.heap.size = w.heap.size + 1 + 1 + 1 := by rw [hW]; simp
  have k0 : W.cell? ⟨w.heap.size, 0, none⟩ = some v := by rw [hW]; simp [go_sem]
  have k1 : W.cell? ⟨w.heap.size + 1, 0, none⟩ = some (.int .i64 (Z : Int)) := by rw [hW]; simp [go_sem]
  have k2 : W.cell? ⟨w.heap.size + 1, 1, none⟩ = some u := by rw [hW]; simp [go_sem]
  have k3 : W.cell? ⟨w.heap.size + 1 + 1, 0, none⟩ = some (.slice none 0 0) := by rw [hW]; simp [go_sem]
  have k4 : W.frozen? ⟨w.heap.size + 1 + 1, 0, none⟩ = false := by rw [hW]; simp [go_sem]
  rw [← hW]
  clear hW
  have HZW := Lib.hid zW
  clear zW
  go_loopw [15] (fun i wr => ∃ (k : Nat) (tv : Value) (rs : List TR), k ≤ c.length ∧ i = .int .i64 k ∧ wr.cell? ⟨w.heap.size + 1 + 1, 0, none⟩ = some tv ∧ wr.frozen? ⟨w.heap.size + 1 + 1, 0, none⟩ = false ∧ Col ar Z tb w.heap.size v u tv (c.take k) rs wr ∧ Below (w.heap.size + 1 + 1) W wr) (fun i _ => c.length - (intOf i).toNat)
  case atStart => exact ⟨0, _, [], Nat.zero_le _, rfl, k3, k4, Col.nil, Below.refl _ _⟩
  case round =>
    obtain ⟨k, tv, rs, hk, rfl, hc3, hf3, hcol, hbl⟩ := hrel
    have hbw : Bel w wr := hB.trans (hbl.mono (by omega))
    have zr : w.heap.size + 1 + 1 < wr.heap.size := Nat.lt_of_lt_of_le (by have := HZW.out; omega) hbl.size
    have q0 := (hbl.cell (p := ⟨w.heap.size, 0, none⟩) (by show w.heap.size < _; omega)).trans k0
    have q1 := (hbl.cell (p := ⟨w.heap.size + 1, 0, none⟩) (Nat.lt_succ_self _)).trans k1
    have q2 := (hbl.cell (p := ⟨w.heap.size + 1, 1, none⟩) (Nat.lt_succ_self _)).trans k2
    by_cases hlt : k < c.length
    · obtain ⟨bc, offc, u1, u2, rfl, hbc, c1, c2, c3, s1, s2⟩ := hc.at hbw k hlt
      have hox := HOK.out k hlt
      have htk : Hid (c.take (k+1) = c.take k ++ [c.getD k lt0]) := by
        show _ = _
        rw [List.take_succ_eq_append_getElem hlt]; simp [List.getD, hlt]
      generalize c.getD k lt0 = x at *
      obtain ⟨a1, d1, rfl⟩ := s1.form
      obtain ⟨a2, d2, rfl⟩ := s2.form
      have HA1 : Bel wr (wr.alloc (.cells #[.bool x.1, (.slice a1 x.2.1.length d1), (.slice a2 x.2.2.length d2)] 59)).drew := (Bel.alloc0 _ _).drew
      have HZ1 : Hid ((wr.alloc (.cells #[.bool x.1, (.slice a1 x.2.1.length d1), (.slice a2 x.2.2.length d2)] 59)).drew.heap.size = wr.heap.size + 1) := by show _ = _; simp
      have KX : Hid (∀ w', Bel (wr.alloc (.cells #[.bool x.1, (.slice a1 x.2.1.length d1), (.slice a2 x.2.2.length d2)] 59)).drew w' → (w'.cell? ⟨w.heap.size, 0, none⟩ = some v ∧ w'.cell? ⟨w.heap.size + 1, 0, none⟩ = some (.int .i64 (Z : Int)) ∧ w'.cell? ⟨w.heap.size + 1, 1, none⟩ = some u) ∧ w'.cell? ⟨w.heap.size + 1 + 1, 0, none⟩ = some tv ∧ w'.cell? ⟨wr.heap.size, 0, none⟩ = some (.bool x.1) ∧ w'.cell? ⟨wr.heap.size, 1, none⟩ = some (.slice a1 x.2.1.length d1) ∧ w'.cell? ⟨wr.heap.size, 2, none⟩ = some (.slice a2 x.2.2.length d2)) := fun w' hq =>
        ⟨⟨(HA1.step hq).at (by omega) q0, (HA1.step hq).at (by omega) q1, (HA1.step hq).at (by omega) q2⟩, (HA1.step hq).at zr hc3, hq.at (by simp) (by simp [go_sem]), hq.at (by simp) (by simp [go_sem]), hq.at (by simp) (by simp [go_sem])⟩
      have HC1 := Lib.hid (HT.out x _ _ (wr.alloc (.cells #[.bool x.1, (.slice a1 x.2.1.length d1), (.slice a2 x.2.2.length d2)] 59)).drew (hbw.step HA1).size hox.1 hox.2 (hv.below (hbw.step HA1)) (hu.below (hbw.step HA1)) (s1.below HA1) (s2.below HA1))
      have HCOL := Lib.hid hcol
      have hrl : rs.length ≤ 1048576 := by have := hcol.tests.1; rw [List.length_take] at this; omega
      have hfz := hf3
      clear hcol hox s1 s2 hv hu hc HT HOK
      go_wp2_with fail
      have m0 := KX.out _ (Bel.rfl' _)
      obtain ⟨⟨m00, m01, m02⟩, m03, m04, m05, m06⟩ := m0
      go_region_law
        (first
          | (refine step_append_fn rfl (.tmp 19) (.tmp 24) 25 rfl rfl (w.heap.size + 3) _ rs rfl R5 w4.heap.size r rfl HN hrl HZ5 ?_; intro b6 k6 w6 R6 hg6 hb6; have B6 := ((Below.refl (w.heap.size + 3) wr).trans (hBW5.mono (Nat.succ_le_of_lt zr))).grown hg6 HZ5 (fun q hq => (own_lt R5 hq).1); have t3 := (B6.cell (p := ⟨w.heap.size + 1 + 1, 0, none⟩) (Nat.lt_succ_self _)).trans hc3; have f3 := (B6.frozen (p := ⟨w.heap.size + 1 + 1, 0, none⟩) (Nat.lt_succ_self _)).trans hf3)
          | (go_simp; go_at_call 79; refine HC1.out.mono ?_; rintro e w4 ⟨r, rfl, hr4, hlo, hhi, hb4⟩; have hBW5 := HA1.step (hb4.alloc (.cells #[.func (.func 85) #[] #[.pointer (some ⟨r.p7, 0, none⟩), .pointer (some ⟨r.p4, 0, none⟩), .pointer (some ⟨r.p8, 0, none⟩), .pointer (some ⟨r.p3, 0, none⟩), .pointer (some ⟨r.p5, 0, none⟩)]] 98)); have R5 : RowF (w.heap.size + 3) (w4.alloc (.cells #[.func (.func 85) #[] #[.pointer (some ⟨r.p7, 0, none⟩), .pointer (some ⟨r.p4, 0, none⟩), .pointer (some ⟨r.p8, 0, none⟩), .pointer (some ⟨r.p3, 0, none⟩), .pointer (some ⟨r.p5, 0, none⟩)]] 98)) tv rs := ownsRow_bel HCOL.out.row hBW5; have HN := news_one w4 r.f 98; have l4 := (KX.out _ hb4).2.1; have l5 := (KX.out _ (hb4.alloc (.cells #[.func (.func 85) #[] #[.pointer (some ⟨r.p7, 0, none⟩), .pointer (some ⟨r.p4, 0, none⟩), .pointer (some ⟨r.p8, 0, none⟩), .pointer (some ⟨r.p3, 0, none⟩), .pointer (some ⟨r.p5, 0, none⟩)]] 98))).2.1; have HZ5 : w.heap.size + 3 ≤ (w4.alloc (.cells #[.func (.func 85) #[] #[.pointer (some ⟨r.p7, 0, none⟩), .pointer (some ⟨r.p4, 0, none⟩), .pointer (some ⟨r.p8, 0, none⟩), .pointer (some ⟨r.p3, 0, none⟩), .pointer (some ⟨r.p5, 0, none⟩)]] 98)).heap.size := Nat.le_trans (Nat.succ_le_of_lt zr) hBW5.size)
          | fail)
      all_goals
        go_wp2_with fail
        go_roundw
        case rel =>
          have hA := HCOL.out.bel hBW5
          have hc6 := hA.snoc (x := x) (hr4.chg (Chg.of_bel (lo := 0) (hi := 0) (Bel.alloc0 w4 (.cells #[.func (.func 85) #[] #[.pointer (some ⟨r.p7, 0, none⟩), .pointer (some ⟨r.p4, 0, none⟩), .pointer (some ⟨r.p8, 0, none⟩), .pointer (some ⟨r.p3, 0, none⟩), .pointer (some ⟨r.p5, 0, none⟩)]] 98))) (.inl (Nat.zero_le _)) (.inl (Nat.zero_le _))) (by rw [hlo]; have := HZ1.out; omega) (fun s hs => by have := HCOL.out.tests.cur hs; rw [hlo]; have := HZ1.out; omega) (fun g hg => by have := own_lt HCOL.out.row hg; rw [hlo]; have := HZ1.out; omega) R6 hg6 hb6
          refine ⟨k+1, _, rs ++ [r], by omega, by go_num, World.cell?_setCell_same _ _ _ t3, by rw [World.frozen?_setCell]; exact f3, ?_, Below.setCell (hbl.trans (B6.mono (Nat.le_succ _))) (Nat.le_refl _) _⟩
          rw [htk.out]
          exact hc6.low (by show w.heap.size ≤ w.heap.size + 1 + 1; omega) (Nat.lt_succ_self _) _
        case measure => simp [intOf]; omega
    · obtain rfl : k = c.length := by omega
      rw [List.take_length] at hcol
      obtain ⟨ad, cap, hts, hbt⟩ := hcol.ts hc3 zr
      have hD : Bel wr (wr.alloc (.cells #[.int .i64 0, .int .i64 0, .int .i64 0, .int .i64 0, .int .i64 0, .int .i64 0, .int .i64 0, .int .i64 0, .int .i64 0, .int .i64 0, .int .i64 0, .int .i64 0] 3)).drew := (Bel.alloc0 _ _).drew
      have HDZ : Hid ((wr.alloc (.cells #[.int .i64 0, .int .i64 0, .int .i64 0, .int .i64 0, .int .i64 0, .int .i64 0, .int .i64 0, .int .i64 0, .int .i64 0, .int .i64 0, .int .i64 0, .int .i64 0] 3)).drew.heap.size = wr.heap.size + 1) := by show _ = _; simp
      have hzo := (zeros_own wr).below ((Bel.rfl' _).drew)
      have HV := Lib.hid (clauseVars_c hsh h8 (fun k hk => by
        have hm := mem_gd _ 0 k hk
        rw [List.mem_flatten] at hm
        obtain ⟨t, ht, hn⟩ := hm
        exact ok_low (flat_ok (okLits_iff.1 hok).2 ht) hn) (hc.below (hbw.step hD)))
      have HLW : Hid (∀ (w2 : World) (vv : Value), Bel (wr.alloc (.cells #[.int .i64 0, .int .i64 0, .int .i64 0, .int .i64 0, .int .i64 0, .int .i64 0, .int .i64 0, .int .i64 0, .int .i64 0, .int .i64 0, .int .i64 0, .int .i64 0] 3)).drew w2 → SlI (wr.heap.size + 1) w2.heap.size w2 vv (natsI (varsC c)) → Calls Try.prog 81 #[.func (.func 80) #[] #[.pointer (some ⟨w.heap.size + 1 + 1, 0, none⟩)], .slice (some ⟨wr.heap.size, 0, none⟩) 12 12, vv, .int .i64 (Z : Int)] w2 (RetLW ar Z tb 0 w.heap.size v u (w.heap.size + 3) wr.heap.size (w.heap.size + 1 + 1) ad cap c rs wr.heap.size (.slice (some ⟨wr.heap.size, 0, none⟩) 12 12) (varsC c) zeros12 w2 (lwC ar Z tb c))) := fun w2 vv hb2 hs2 =>
        leastWhere_c hg hw hok wr.heap.size (Nat.le_refl _) hbw.size hbt (varsC c) zeros12 w2 vv _ (wr.heap.size + 1) w2.heap.size varsC_lt (varsTo_len _ _) (zeros_ok (by omega)) (hts.chg (Chg.of_bel (lo := wr.heap.size) (hi := wr.heap.size) (hD.step hb2)) (Nat.le_refl _) hbw.size (fun bT h => .inl (hbt bT h))) hs2 (hzo.below hb2) (.inr (Nat.le_refl _))
      have HVC : Hid (varsTo (mk (flatC c).flatten) 12 = varsC c) := rfl
      rw [show varsTo (mk (flatC c).flatten) 12 = varsC c from rfl] at HV
      have q1' := hD.at (by omega) q1
      have HBW := Lib.hid (hbw.step hD)
      have hlt9 : w.heap.size + 1 < wr.heap.size := by omega
      clear hts hcol hc hv hu hc3 hf3 HT HOK hok hw hg
      generalize lwC ar Z tb c = R at *
      cases R with
      | none =>
        go_wp2_with fail
        go_region_held3 (fun w' => w'.cell? ⟨w.heap.size + 1, 0, none⟩ = some (.int .i64 (Z : Int)))
          (first | exact q1' | exact t1 | exact t9 | fail)
          (first
            | (go_at_call 81; refine (HLW.out _ _ hb2 (o2.sl.mono (by rw [HDZ.out]; exact Nat.le_refl _) (Nat.le_refl _))).mono ?_; rintro e w9 ⟨rfl, ts9, cg9, e9, o9, f9, k9, r9⟩; have t9 := cg9.cell (Nat.lt_trans hlt9 (Nat.lt_of_lt_of_le (Nat.lt_succ_self _) (Nat.le_trans (Nat.le_of_eq HDZ.out.symm) hb2.size))) (.inl (Nat.lt_succ_of_lt (Nat.lt_succ_self _))) t1)
            | (go_at_call 78; refine HV.out.mono ?_; rintro e w2 ⟨a2, n2, c2, rfl, o2, hb2⟩; have t1 := hb2.at (Nat.lt_trans hlt9 (Nat.lt_of_lt_of_le (Nat.lt_succ_self _) (Nat.le_of_eq HDZ.out.symm))) q1')
            | fail)
        all_goals
          go_wp2_with fail
          go_ret2
          exact ⟨_, _, _, rfl, OwnI.nil _ _ _, cg9.bel (HBW.out.step hb2) (by omega)⟩
      | some r =>
        go_wp2_with fail
        go_region_held3 (fun w' => w'.cell? ⟨w.heap.size + 1, 0, none⟩ = some (.int .i64 (Z : Int)))
          (first | exact q1' | exact t1 | exact t9 | fail)
          (first
            | (go_at_call 81; refine (HLW.out _ _ hb2 (o2.sl.mono (by rw [HDZ.out]; exact Nat.le_refl _) (Nat.le_refl _))).mono ?_; rintro e w9 ⟨rfl, ts9, cg9, e9, o9, f9, k9, r9⟩; have t9 := cg9.cell (Nat.lt_trans hlt9 (Nat.lt_of_lt_of_le (Nat.lt_succ_self _) (Nat.le_trans (Nat.le_of_eq HDZ.out.symm) hb2.size))) (.inl (Nat.lt_succ_of_lt (Nat.lt_succ_self _))) t1)
            | (go_at_call 78; refine HV.out.mono ?_; rintro e w2 ⟨a2, n2, c2, rfl, o2, hb2⟩; have t1 := hb2.at (Nat.lt_trans hlt9 (Nat.lt_of_lt_of_le (Nat.lt_succ_self _) (Nat.le_of_eq HDZ.out.symm))) q1')
            | fail)
        all_goals
          go_wp2_with fail
          go_ret2
          obtain rfl := r9 _ rfl
          exact ⟨_, _, _, rfl, o9.mono hbw.size (by have := cg9.size; have := hb2.size; have := HDZ.out; omega), cg9.bel (HBW.out.step hb2) (by omega)⟩
end Go.Proofs.Ytnldienjkejfcaa
end
section
/- Chapter 5, the reference: FalseAt. -/
namespace Go.Proofs.Ytnldienjkejfcaa
open Go.RowKit

theorem SlS.in' {lo hi : Nat} {w : World} {v : Value} {xss : List (List Int)} (h : SlS lo hi w v xss) : SlS 0 w.heap.size w v xss := by
  obtain ⟨ad, cap, rfl, hc, hm, hr⟩ := h
  refine ⟨ad, cap, rfl, hc, hm, fun hp => ?_⟩
  obtain ⟨b, off, e, a1, a2, a3⟩ := hr hp
  refine ⟨b, off, e, Nat.zero_le _, ?_, fun j hj => ?_⟩
  · obtain ⟨u, h1, _⟩ := a3 0 hp; exact World.block_lt_of_cell? w ⟨b, off + 0, none⟩ h1
  · obtain ⟨u, h1, h2⟩ := a3 j hj; exact ⟨u, h1, h2.in'⟩
theorem SlC.in' {lo hi : Nat} {w : World} {v : Value} {c : List Lt} (h : SlC lo hi w v c) : SlC 0 w.heap.size w v c := by
  obtain ⟨ad, cap, rfl, hc, hm, hr⟩ := h
  refine ⟨ad, cap, rfl, hc, hm, fun hp => ?_⟩
  obtain ⟨b, off, e, a1, a2, a3⟩ := hr hp
  refine ⟨b, off, e, Nat.zero_le _, ?_, fun j hj => ?_⟩
  · obtain ⟨u1, u2, h1, _⟩ := a3 0 hp; exact World.block_lt_of_cell? w ⟨b, off + 0 * 3, none⟩ h1
  · obtain ⟨u1, u2, h1, h2, h3, h4, h5⟩ := a3 j hj; exact ⟨u1, u2, h1, h2, h3, h4.in', h5.in'⟩
theorem few_low {ar : List Int} {c : List Lt} (h : okLits ar c = true) : ∀ t ∈ flatC c, ∀ k, k < t.length → -12 ≤ t.getD k 0 := fun _ ht => low_memC (fun _ hn => ok_low (flat_ok (okLits_iff.1 h).2 ht) hn)
set_option maxRecDepth 100000 in
set_option maxHeartbeats 400000 in
theorem l5Few_c (l h : Nat) (v : Value) (ar : List Int) (c : List Lt) (w : World) (hok : okLits ar c = true) (hx : shortC c) (hv : SlC l h w v c) :
    Calls Try.prog 51 #[v] w (RetV w (.bool (fewC c))) := by
  have HV := Lib.hid (l4Vars_c l h v c w hx (few_low hok) hv)
  have hvl : (varsC c).length ≤ 12 := varsTo_len _ _
  have HV : Hid (Calls Try.prog 63 #[v] w (RetI w (natsI (varsC c)))) := HV
  unfold fewC
  have hnl := natsI_len (varsC c)
  generalize natsI (varsC c) = L at *
  rw [← hnl] at hvl ⊢
  clear hnl
  by_cases h6 : L.length ≤ 6
  · rw [decide_eq_true h6]
    go_enter Try.func51, Try.ntmps51
    go_wp2_with fail
    refine HV.out.mono ?_; rintro e w1 ⟨a1, n1, c1, rfl, o1, hb1⟩
    obtain ⟨a', c', e⟩ := o1.1.form
    simp only [Value.slice.injEq] at e
    obtain ⟨rfl, rfl, rfl⟩ := e
    go_wp2_with fail
    go_ret
    exact ⟨by simp; omega, hb1⟩
  · rw [decide_eq_false h6]
    go_enter Try.func51, Try.ntmps51
    go_wp2_with fail
    refine HV.out.mono ?_; rintro e w1 ⟨a1, n1, c1, rfl, o1, hb1⟩
    obtain ⟨a', c', e⟩ := o1.1.form
    simp only [Value.slice.injEq] at e
    obtain ⟨rfl, rfl, rfl⟩ := e
    go_wp2_with fail
    go_ret
    exact ⟨by simp; omega, hb1⟩
theorem l5Few_v (l h : Nat) (v : Value) (ar : List Int) (c : List Lt) (q : Bool) (w : World) (hq : fewC c = q) (hok : okLits ar c = true) (hx : shortC c) (hv : SlC l h w v c) :
    Calls Try.prog 51 #[v] w (RetV w (.bool q)) := by subst hq; exact l5Few_c l h v ar c w hok hx hv

end Go.Proofs.Ytnldienjkejfcaa
end
section
/- Chapter 5, the program: areTriable. -/
namespace Go.Proofs.Ytnldienjkejfcaa
open Go.RowKit

/-- The slice value v holds the clauses cs. -/
def SlCs (lo hi : Nat) (w : World) (v : Value) (cs : List (List Lt)) : Prop :=
  ∃ ad cap, v = .slice ad cs.length cap ∧ cs.length ≤ cap ∧ (cap ≤ maxLen ∧ (ad = none → cap = 0)) ∧
    (0 < cs.length → ∃ b off, ad = some ⟨b, off, none⟩ ∧ lo ≤ b ∧ b < hi ∧ ∀ j, j < cs.length → ∃ u, w.cell? ⟨b, off + j, none⟩ = some u ∧ SlC lo hi w u (cs.getD j []))
theorem SlCs.form {lo hi w v cs} (h : SlCs lo hi w v cs) : ∃ ad k, v = .slice ad cs.length k := by obtain ⟨ad, k, h, _⟩ := h; exact ⟨ad, k, h⟩
theorem SlCs.below {lo hi w w' v cs} (h : SlCs lo hi w v cs) (hb : Bel w w') : SlCs lo hi w' v cs := by
  obtain ⟨ad, cap, rfl, hc, hm, hr⟩ := h
  refine ⟨ad, cap, rfl, hc, hm, fun hp => ?_⟩
  obtain ⟨b, off, e, a1, a2, a3⟩ := hr hp
  refine ⟨b, off, e, a1, a2, fun j hj => ?_⟩
  obtain ⟨u, h1, h2⟩ := a3 j hj
  exact ⟨u, hb.at (World.block_lt_of_cell? w ⟨b, off + j, none⟩ h1) h1, h2.below hb⟩
theorem SlCs.at {lo hi : Nat} {w wr : World} {ad : Option Addr} {k n : Nat} {cs : List (List Lt)} (h : SlCs lo hi w (.slice ad n k) cs) (hb : Bel w wr) (j : Nat) (hj : j < cs.length) :
    ∃ b off u, ad = some ⟨b, off, none⟩ ∧ b < w.heap.size ∧ wr.cell? ⟨b, off + j, none⟩ = some u ∧ SlC lo hi wr u (cs.getD j []) := by
  obtain ⟨ad', cap, e, _, _, hr⟩ := h
  obtain ⟨b, off, e2, _, _, hc⟩ := hr (by omega)
  obtain ⟨u, c1, s1⟩ := hc j hj
  have h1 := World.block_lt_of_cell? w ⟨b, off + j, none⟩ c1
  simp only [Value.slice.injEq] at e
  exact ⟨b, off, u, e.1.trans e2, h1, hb.at h1 c1, s1.below hb⟩
/-- One clause in a block of its own. -/
theorem slcs_one {w : World} {c : List Lt} {u : Value} {t : TypeId} (g : Nat) (hg : g = w.heap.size) (h : SlC 0 w.heap.size w u c) :
    SlCs 0 (w.alloc (.cells #[u] t)).heap.size (w.alloc (.cells #[u] t)) (.slice (some ⟨g, 0, none⟩) 1 1) [c] := by
  subst hg
  have hb := Bel.alloc0 w (.cells #[u] t)
  refine ⟨_, 1, rfl, Nat.le_refl _, ⟨by unfold maxLen; omega, fun h => by simp at h⟩, fun _ => ⟨w.heap.size, 0, rfl, Nat.zero_le _, by simp, fun j hj => ?_⟩⟩
  obtain rfl : j = 0 := by simp at hj; omega
  exact ⟨u, by rw [World.cell?_alloc_new w]; rfl, (h.below hb).mono (Nat.le_refl _) hb.size⟩

def triable (ar : List Int) (cs : List (List Lt)) : Bool := decide (cs.length ≤ 40) && cs.all (fun c => goodClause ar c && fewC c)
theorem allg_split {α : Type} (c : List α) (d : α) (p : α → Bool) (k : Nat) (hk : k < c.length) (h : (c.take k).all p = true) : (c.take (k+1)).all p = p (c.getD k d) := by
  rw [List.take_succ_eq_append_getElem hk, List.all_append, h]
  simp [List.getD, hk]
theorem allg_false {α : Type} (c : List α) (d : α) (p : α → Bool) (k : Nat) (hk : k < c.length) (h : p (c.getD k d) = false) : c.all p = false := by
  rw [List.all_eq_false]
  exact ⟨c[k], List.getElem_mem hk, by simp [List.getD, hk] at h; simp [h]⟩

def RetVI (w : World) (g : Bool) (n : Nat) (e : Ending) (w' : World) : Prop := ∃ ad m k, e = .returned (.tuple #[.slice ad m k, .bool g]) ∧ (g = true → m = n) ∧ Bel w w'
theorem iVarsIn_n {l h l' h' : Nat} {v u : Value} {ar : List Int} {c : List Lt} {w : World} (ha : ar.length ≤ 1048576) (hv : SlI l h w v ar) (hc : sumC c ≤ 1048576) (hu : SlC l' h' w u c) :
    Calls Try.prog 73 #[.agg #[v], u] w (RetVI w (goodClause ar c) (varsC c).length) := by
  refine (iVarsIn_t ha hv hc hu).mono ?_
  rintro e w' ⟨ad, n, k, rfl, o, hb⟩
  refine ⟨ad, n, k, rfl, fun hg => ?_, hb⟩
  obtain ⟨_, _, e, _⟩ := o.sl
  simp only [Value.slice.injEq] at e
  rw [e.2.1]
  unfold varsInAns
  rw [hg, if_pos rfl]
  simp [natsI]; rfl

set_option maxRecDepth 100000 in
set_option maxHeartbeats 1000000 in
theorem areTriable_c (l h l' h' : Nat) (v vc : Value) (ar : List Int) (cs : List (List Lt)) (w : World) (ha : ar.length ≤ 1048576) (hv : SlI l h w v ar) (hs : ∀ k, k < cs.length → sumC (cs.getD k []) ≤ 1048576) (hc : SlCs l' h' w vc cs) :
    Calls Try.prog 65 #[.agg #[v], vc] w (RetV w (.bool (triable ar cs))) := by
  obtain ⟨ac, kc, rfl⟩ := hc.form
  have hcl : cs.length ≤ 9223372036854775807 := by
    obtain ⟨_, cap, e, h1, h2, _⟩ := hc
    unfold maxLen at h2; omega
  unfold triable
  by_cases h40 : cs.length ≤ 40
  · rw [decide_eq_true h40, Bool.true_and]
    have HS1 := Lib.hid (fun k hk h => allg_split cs [] (fun c => goodClause ar c && fewC c) k hk h)
    have HS2 := Lib.hid (fun k hk h => allg_false cs [] (fun c => goodClause ar c && fewC c) k hk h)
    have HV := Lib.hid (fun (c : List Lt) (u : Value) (a b : Nat) (w' : World) (hb : Bel w w') (h1 : sumC c ≤ 1048576) (h2 : SlC a b w' u c) => iVarsIn_n ha (hv.below hb) h1 h2)
    have hd : decide ((cs.length : Int) > 40) = false := decide_eq_false (by omega)
    have HSM := Lib.hid hs
    have HB := Bel.alloc0 w (.cells #[v] 30)
    clear hv hs
    go_enter Try.func65, Try.ntmps65
    go_wp2_with fail
    go_loopw [14] (fun i wr => ∃ k : Nat, k ≤ cs.length ∧ i = .int .i64 k ∧ (cs.take k).all (fun c => goodClause ar c && fewC c) = true ∧ Bel (w.alloc (.cells #[v] 30)) wr) (fun i _ => cs.length - (intOf i).toNat)
    case atStart => exact ⟨0, Nat.zero_le _, rfl, rfl, Bel.rfl' _⟩
    case round =>
      obtain ⟨k, hk, rfl, hall, hb⟩ := hrel
      have x0 : wr.cell? ⟨w.heap.size, 0, none⟩ = some v := hb.at (by simp) (by simp [go_sem])
      by_cases hlt : k < cs.length
      · obtain ⟨bc, offc, uc, rfl, hbc, c1, s1⟩ := hc.at hb.of_alloc k hlt
        obtain ⟨a1, d1, rfl⟩ := s1.form
        have HC := Lib.hid (HV.out _ _ _ _ _ hb.of_alloc (HSM.out k hlt) s1)
        have HA := Lib.hid (HS1.out k hlt hall)
        have HF := Lib.hid (HS2.out k hlt)
        have hlk : (k : Int) < cs.length := by omega
        generalize hcc : (cs.getD k []) = c at *
        have hfe : fewC c = decide ((varsC c).length ≤ 6) := rfl
        have hvl : (varsC c).length ≤ 12 := varsTo_len _ _
        rw [hfe] at HA HF
        generalize (varsC c).length = n at *
        generalize c.length = m at *
        clear hc s1 hall HS1 HS2 HV HSM hcc hfe
        generalize goodClause ar c = g at *
        cases g with
        | false =>
          go_wp2_with fail
          refine HC.out.mono ?_; rintro e w3 ⟨a3, m3, k3, rfl, -, hb3⟩
          go_wp2_with fail
          go_ret
          exact ⟨by rw [HF.out rfl]; rfl, (HB.step hb).step hb3⟩
        | true =>
          by_cases h6 : n ≤ 6
          · have hA := HA.out
            rw [decide_eq_true h6] at hA
            have HA2 := Lib.hid hA
            clear hA HA HF
            have hd6 : decide ((n : Int) > 6) = false := decide_eq_false (by omega)
            go_wp2_with fail
            refine HC.out.mono ?_; rintro e w3 ⟨a3, m3, k3, rfl, hm3, hb3⟩
            obtain rfl := hm3 rfl
            go_wp2_with fail
            go_roundw
            case rel => exact ⟨k+1, by omega, by go_num, HA2.out, hb.step hb3⟩
            case measure => simp [intOf]; omega
          · have hF := Lib.hid (HF.out (by rw [decide_eq_false h6]; rfl))
            clear HA HF
            have hd6 : decide ((n : Int) > 6) = true := decide_eq_true (by omega)
            go_wp2_with fail
            refine HC.out.mono ?_; rintro e w3 ⟨a3, m3, k3, rfl, hm3, hb3⟩
            obtain rfl := hm3 rfl
            go_wp2_with fail
            go_ret
            exact ⟨by rw [hF.out]; rfl, (HB.step hb).step hb3⟩
      · obtain rfl : k = cs.length := by omega
        rw [List.take_length] at hall
        have HALL := Lib.hid hall
        clear hall
        go_wp2_with fail
        go_ret
        exact ⟨by rw [HALL.out]; rfl, HB.step hb⟩
  · rw [decide_eq_false h40, Bool.false_and]
    have hd : decide ((cs.length : Int) > 40) = true := decide_eq_true (by omega)
    go_enter Try.func65, Try.ntmps65
    go_wp2_with fail
    go_ret
    exact ⟨rfl, Bel.alloc0 _ _⟩
end Go.Proofs.Ytnldienjkejfcaa
end
