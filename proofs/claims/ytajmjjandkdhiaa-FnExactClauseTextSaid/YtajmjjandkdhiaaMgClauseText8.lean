/- Texts merged, part 8. -/
import Derived.Test.YtajmjjandkdhiaaProg
import Derived.Shelf.Sort.Plain
import Derived.KernelRfl
import Derived.Shelf.Slices.In.SortNone
import Derived.Sort.OwnSortedInts
import Derived.Maps.OwnSet
import Derived.Maps.RangeWalk
import Derived.Test.YtajmjjandkdhiaaMgClauseText7
section
namespace Go.Proofs.Ytajmjjandkdhiaa
open Go.RowKit

theorem numV_none {ar : List Int} {c : UInt8} (h : symAt ar c = none) : numV ar c = .tuple #[.int .i64 0, .bool false] := by simp [numV, h]
theorem numV_some {ar : List Int} {c : UInt8} {x : Int} (h : symAt ar c = some x) : numV ar c = .tuple #[.int .i64 x, .bool true] := by simp [numV, h]
theorem numberOf_v (l h : Nat) (v : Value) (ar : List Int) (c : UInt8) (r : Value) (he : numV ar c = r) (w : World) (hg : goodSign ar = true) (hv : SlI l h w v ar) :
    Calls Try.prog 137 #[.agg #[v], .int .u8 (c.toNat : Int)] w (RetV w r) := he ▸ numberOf_c l h v ar c w hg hv
theorem sym_bd {ar : List Int} {c : UInt8} {x : Int} (h : symAt ar c = some x) : -12 ≤ x ∧ x < ar.length := by
  unfold symAt at h
  by_cases h1 : inB c.toNat 65 76 = true
  · rw [if_pos h1] at h; simp [inB] at h1 h; omega
  · rw [if_neg h1] at h
    by_cases h2 : inB c.toNat 97 (97 + (ar.length : Int) - 1) = true
    · rw [if_pos h2] at h; simp [inB] at h2 h; omega
    · rw [if_neg h2] at h; simp at h

set_option maxRecDepth 100000 in
set_option maxHeartbeats 4000000 in
theorem scanTerm_c (l h : Nat) (v : Value) (ar : List Int) (s : ByteArray) (hg : goodSign ar = true) (hs : s.size ≤ 1048576) :
    ∀ (n p : Nat) (w : World), s.data.toList.length + 1 - p ≤ n → p ≤ s.data.toList.length → SlI l h w v ar → Calls Try.prog 126 #[.agg #[v], .string s, .int .i64 p] w (RetScan w (scanF ar s.data.toList n p)) := by
  have hsz : s.data.toList.length = s.size := by rw [Array.length_toList]; rfl
  intro n
  induction n with
  | zero => intro p w hn hp; omega
  | succ n ih =>
    intro p w hn hp hv
    have IH := Lib.hid ih; clear ih
    have hv0 := hv
    obtain ⟨ad, cap, rfl, -, -, hr⟩ := hv
    have hlen := sign_len ar hg
    obtain ⟨i0, hi0, hz0, hz1, hz2⟩ := info_parts Try.info3
    rw [hsz] at hn hp
    by_cases hlt : p < s.size
    · have hget := sa_get s p hlt
      have hlt2 : (p : Int) < s.size := by omega
      have hbx := boxc (Bel.rfl' (w.alloc (.cells #[.slice ad ar.length cap] 26))) 0 _ rfl
      cases hsym : symAt ar s[p] with
      | none =>
        have E := Lib.hid (scan_bad (f := n) hget hsym)
        have HN := Lib.hid (numV_none hsym)
        clear hsym hget hr
        go_enter Try.func126, Try.ntmps126
        go_wp2_with fail
        go_region_held3 (fun w' => Bel (w.alloc (.cells #[.slice ad ar.length cap] 26)) w' ∧ w'.cell? ⟨w.heap.size, 0, none⟩ = some (.slice ad ar.length cap))
          (first | exact ⟨Bel.drew0 _, hbx⟩ | exact ⟨hb1.of_drew, boxc hb1.of_drew 0 _ rfl⟩)
          (first | (go_at_call 137; refine (numberOf_v _ _ _ ar s[p] _ HN.out _ hg ((hv0.alloc _).below (Bel.drew0 _))).mono ?_; rintro e w1 ⟨rfl, hb1⟩))
        go_wp2_with fail
        go_ret3
        exact ⟨_, _, _, by rw [E.out]; rfl, by rw [E.out]; exact OwnI.nil _ _ _, hb1.of_drew.of_alloc⟩
      | some x =>
        obtain ⟨hx12, hxl⟩ := sym_bd hsym
        have HN := Lib.hid (numV_some hsym)
        by_cases hx0 : x < 0
        · have E := Lib.hid (scan_leaf (f := n) hget hsym (arOf_neg hx0))
          have hx0' : decide (x < 0) = true := by simpa using hx0
          clear hsym hget hr
          go_enter Try.func126, Try.ntmps126
          go_wp2_with fail
          go_region_held3 (fun w' => Bel (w.alloc (.cells #[.slice ad ar.length cap] 26)) w' ∧ w'.cell? ⟨w.heap.size, 0, none⟩ = some (.slice ad ar.length cap))
            (first | exact ⟨Bel.drew0 _, hbx⟩ | exact ⟨hb1.of_drew, boxc hb1.of_drew 0 _ rfl⟩)
            (first | (go_at_call 137; refine (numberOf_v _ _ _ ar s[p] _ HN.out _ hg ((hv0.alloc _).below (Bel.drew0 _))).mono ?_; rintro e w1 ⟨rfl, hb1⟩))
          go_wp2_with fail
          go_ret3
          exact ⟨_, _, _, by rw [E.out]; rfl, by rw [E.out]; exact (OwnI.of_row (own1 w1 _)).mono (by have := hb1.of_drew.size; simp at this; omega) (Nat.le_refl _), hb1.of_drew.of_alloc.alloc _⟩
        · obtain ⟨m, rfl⟩ : ∃ m : Nat, x = m := ⟨x.toNat, by omega⟩
          have hml : m < ar.length := by omega
          obtain ⟨b, off, rfl, hbl, hcell⟩ := rd hr (Bel.rfl' w) m hml
          have hn03 := ar_nonneg ar hg m
          have har : arOf ar (m : Int) = (ar.getD m 0).toNat := arOf_nat m
          obtain ⟨a, haq⟩ : ∃ a : Nat, ar.getD m 0 = a := ⟨(ar.getD m 0).toNat, by omega⟩
          rw [haq] at hcell har hn03
          rw [show ((a : Int)).toNat = a from by omega] at har
          have hx0' : decide ((m : Int) < 0) = false := by simp
          clear haq hr hx0
          by_cases ha0 : a = 0
          · have E := Lib.hid (scan_leaf (f := n) hget hsym (by rw [har, ha0]))
            have ha1 : ((a : Int) == 0) = true := by rw [beq_iff_eq]; omega
            clear hsym hget har ha0
            go_enter Try.func126, Try.ntmps126
            go_wp2_with fail
            go_region_held3 (fun w' => Bel (w.alloc (.cells #[.slice (some ⟨b, off, none⟩) ar.length cap] 26)) w' ∧ w'.cell? ⟨w.heap.size, 0, none⟩ = some (.slice (some ⟨b, off, none⟩) ar.length cap))
              (first | exact ⟨Bel.drew0 _, hbx⟩ | exact ⟨hb1.of_drew, boxc hb1.of_drew 0 _ rfl⟩)
              (first | (go_at_call 137; refine (numberOf_v _ _ _ ar s[p] _ HN.out _ hg ((hv0.alloc _).below (Bel.drew0 _))).mono ?_; rintro e w1 ⟨rfl, hb1⟩))
            have hb13 := hb1.of_drew.alloc (.cells #[.int .i64 (m : Int)] 3)
            have hx3 := boxc hb13 0 _ rfl
            have hc3 := hb13.of_alloc.at hbl hcell
            go_wp2_with fail
            go_ret3
            exact ⟨_, _, _, by rw [E.out]; rfl, by rw [E.out]; exact (OwnI.of_row (own1 w1 _)).mono (by have := hb1.of_drew.size; simp at this; omega) (Nat.le_refl _), hb1.of_drew.of_alloc.alloc _⟩
          · have E := Lib.hid (scan_args (f := n) hget hsym (by rw [har]; exact ha0))
            rw [har] at E
            have ha1 : ((a : Int) == 0) = false := by simpa using ha0
            have ha3 : (a : Int) ≤ 3 := hn03.2
            clear hsym hget har ha0
            go_enter Try.func126, Try.ntmps126
            go_wp2_with fail
            go_region_held3 (fun w' => Bel (w.alloc (.cells #[.slice (some ⟨b, off, none⟩) ar.length cap] 26)) w' ∧ w'.cell? ⟨w.heap.size, 0, none⟩ = some (.slice (some ⟨b, off, none⟩) ar.length cap))
              (first | exact ⟨Bel.drew0 _, hbx⟩ | exact ⟨hb1.of_drew, boxc hb1.of_drew 0 _ rfl⟩)
              (first | (go_at_call 137; refine (numberOf_v _ _ _ ar s[p] _ HN.out _ hg ((hv0.alloc _).below (Bel.drew0 _))).mono ?_; rintro e w1 ⟨rfl, hb1⟩))
            have hb13 := hb1.of_drew.alloc (.cells #[.int .i64 (m : Int)] 3)
            have hx3 := boxc hb13 0 _ rfl
            have hc3 := hb13.of_alloc.at hbl hcell
            go_wp2_with fail
            go_loopw [2, 11, 54] (fun at' o k' wr => ∃ (q k : Nat) (acc : List Int), k ≤ a ∧ p < q ∧ q ≤ s.size ∧ acc.length ≤ q - p ∧ at' = .int .i64 q ∧ k' = .int .i64 k ∧
                scanF ar s.data.toList (n + 1) p = scanArgs (scanF ar s.data.toList n) s.data.toList (a - k) k acc q ∧
                wr.ownsRow (w.heap.size + 1) 3 1 o acc.length (acc.map (Value.int .i64)) ∧ Bel (w.alloc (.cells #[.slice (some ⟨b, off, none⟩) ar.length cap] 26)) wr) (fun _ _ k' _ => a - (intOf k').toNat)
            case atStart => exact ⟨p + 1, 0, [(m : Int)], Nat.zero_le _, by omega, by omega, by simp, by go_num, rfl, E.out, own_mono (own1 w1 _) (by have := hb1.of_drew.size; simp at this; omega), hb13⟩
            case round =>
              obtain ⟨q, k, acc, hka, hpq, hqs, hal, rfl, rfl, hsc, hown, hbr⟩ := hrel
              have hbox := boxc hbr 0 _ rfl
              have hqs2 : (q : Int) ≤ s.size := by omega
              have HSC := Lib.hid hsc
              clear hsc
              by_cases hka2 : k < a
              · have HAM := Lib.hid (show a - k = (a - (k + 1)) + 1 from by omega)
                by_cases hsep : s.data.toList[q]? = some (sepC k)
                · have HP := Lib.hid (show decide (s.data.toList[q]? = some (sepC k)) = true from by simpa using hsep)
                  have hql : q < s.size := by have := (List.getElem?_eq_some_iff.1 hsep).1; omega
                  have hok := scanF_ok ar s.data.toList n (q + 1) (by omega)
                  have hcall : ∀ w2, SlI l h w2 (.slice (some ⟨b, off, none⟩) ar.length cap) ar → Calls Try.prog 126 #[.agg #[.slice (some ⟨b, off, none⟩) ar.length cap], .string s, .int .i64 ((q : Int) + 1)] w2 (RetScan w2 (scanF ar s.data.toList n (q + 1))) := fun w2 h => IH.out (q + 1) w2 (by omega) (by omega) h
                  have hbad : (scanF ar s.data.toList n (q + 1)).2.2 = false → scanF ar s.data.toList (n + 1) p = ([], (scanF ar s.data.toList n (q + 1)).2.1, false) := fun h => by rw [HSC.out, HAM.out]; exact args_bad hsep h
                  have hnext : (scanF ar s.data.toList n (q + 1)).2.2 = true → scanF ar s.data.toList (n + 1) p = scanArgs (scanF ar s.data.toList n) s.data.toList (a - (k + 1)) (k + 1) (acc ++ (scanF ar s.data.toList n (q + 1)).1) (scanF ar s.data.toList n (q + 1)).2.1 := fun h => by rw [HSC.out, HAM.out]; exact args_next hsep h
                  generalize scanF ar s.data.toList n (q + 1) = r at *
                  obtain ⟨rt, re, rb⟩ := r
                  rw [ScanOk, hsz] at hok
                  obtain ⟨hre, hok1, -⟩ := hok
                  have HCALL := Lib.hid hcall
                  clear hcall hsep IH
                  cases rb with
                  | false =>
                    have E4 := Lib.hid (hbad rfl)
                    clear hbad hnext hok1
                    go_wp2_with fail
                    go_quiet ((first | (go_at_call 120; exact Calls.quiet_of_same (markBefore_q k (sepC k) rfl _)) | (go_at_call 90; exact Calls.quiet_of_same (sPrefix_v s q (sepC k) true HP.out (by omega) hs _))))
                    go_wp2_with fail
                    refine (HCALL.out _ (hv0.below (hbr.of_alloc.drewN _))).mono ?_; rintro e w3 ⟨a3, n3, c3, rfl, ho3, hb3⟩
                    go_wp2_with fail
                    go_ret3
                    exact ⟨_, _, _, by rw [E4.out]; rfl, by rw [E4.out]; exact OwnI.nil _ _ _, (hbr.of_alloc.drewN _).step hb3⟩
                  | true =>
                    have E4 := Lib.hid (hnext rfl)
                    obtain ⟨hok2, hok3⟩ := hok1 rfl
                    simp only at hok2 hok3 hre
                    clear hbad hnext hok1
                    have hrt : rt.length ≤ 1048576 := by omega
                    have hac : acc.length ≤ 1048576 := by omega
                    go_wp2_with fail
                    go_quiet ((first | (go_at_call 120; exact Calls.quiet_of_same (markBefore_q k (sepC k) rfl _)) | (go_at_call 90; exact Calls.quiet_of_same (sPrefix_v s q (sepC k) true HP.out (by omega) hs _))))
                    go_wp2_with fail
                    refine (HCALL.out _ (hv0.below (hbr.of_alloc.drewN _))).mono ?_; rintro e w3 ⟨a3, n3, c3, rfl, ho3, hb3⟩
                    have hbr3 := (hbr.drewN _).step hb3
                    have hbox3 := boxc hbr3 0 _ rfl
                    have hown3 := ownsRow_bel hown (((Bel.rfl' wr).drewN _).step hb3)
                    simp only at ho3
                    obtain rfl : n3 = rt.length := by obtain ⟨_, _, e, _⟩ := ho3.1; simp at e; exact e.2.1
                    cases a3 with
                    | none =>
                      obtain ⟨ad', cap', e, -, hm, hr⟩ := ho3.1
                      simp only [Value.slice.injEq] at e
                      obtain ⟨rfl, -, rfl⟩ := e
                      obtain rfl : rt = [] := by
                        rcases Nat.eq_zero_or_pos rt.length with h0 | h0
                        · exact List.length_eq_zero_iff.1 h0
                        · obtain ⟨_, _, e, _⟩ := hr h0; simp at e
                      obtain rfl : c3 = 0 := hm.2 rfl
                      clear hr hm ho3
                      go_wp2_with (at_builtin; refine wpList_append_own_none rfl _ _ 24 rfl (w.heap.size + 1) 3 i0 1 Try.underlying24 hi0 _ _ _ rfl hown3 rfl ?_)
                      go_roundw
                      case rel => exact ⟨re, k + 1, acc, by omega, by omega, by omega, by omega, rfl, by go_num, by rw [E4.out]; simp, hown3, hbr3⟩
                      case measure => simp [intOf]; omega
                    | some ra =>
                      have hnw := news_of_sl ho3.sl
                      clear ho3
                      go_wp2_with (at_builtin; refine wpList_append_own _ rfl _ _ 24 rfl (w.heap.size + 1) 3 i0 (.int .i64 0) 1 8 Try.underlying24 hi0 hz0 hz1 hz2 rfl (by decide) _ _ _ rfl hown3 ra rt.length c3 (rt.map (Value.int .i64)) rfl (by simp) hnw (ones_int _) (by unfold maxLen; omega) (by omega) (by have := hbr3.size; simp at this; omega) ?_; intro v' w4 hown' hgrow _)
                      have hb4 := hbr3.grown hgrow (fun k hk => by have := own_base hown3 k hk; simp; omega)
                      have hown2 : w4.ownsRow (w.heap.size + 1) 3 1 v' (acc ++ rt).length ((acc ++ rt).map (Value.int .i64)) := by simpa using hown'
                      go_roundw
                      case rel => exact ⟨re, k + 1, acc ++ rt, by omega, by omega, by omega, by simp; omega, rfl, by go_num, E4.out, hown2, hb4⟩
                      case measure => simp [intOf]; omega
                · have E4 : Hid (scanF ar s.data.toList (n + 1) p = ([], q, false)) := by
                    show _ = _; rw [HSC.out, HAM.out]; exact args_nosep hsep
                  have HP := Lib.hid (show decide (s.data.toList[q]? = some (sepC k)) = false from by simpa using hsep)
                  clear hsep
                  go_wp2_with fail
                  go_quiet ((first | (go_at_call 120; exact Calls.quiet_of_same (markBefore_q k (sepC k) rfl _)) | (go_at_call 90; exact Calls.quiet_of_same (sPrefix_v s q (sepC k) false HP.out (by omega) hs _))))
                  go_wp2_with fail
                  go_ret3
                  exact ⟨_, _, _, by rw [E4.out]; rfl, by rw [E4.out]; exact OwnI.nil _ _ _, hbr.of_alloc.drewN _⟩
              · have HAM := Lib.hid (show a - k = 0 from by omega)
                by_cases hsep : s.data.toList[q]? = some 41
                · have E4 : Hid (scanF ar s.data.toList (n + 1) p = (acc, q + 1, true)) := by
                    show _ = _; rw [HSC.out, HAM.out]; exact args_done hsep
                  have HP := Lib.hid (show decide (s.data.toList[q]? = some (41 : UInt8)) = true from by simpa using hsep)
                  have hql : q < s.size := by have := (List.getElem?_eq_some_iff.1 hsep).1; omega
                  obtain ⟨g, m2, c, hv'⟩ := own_form hown
                  subst hv'
                  clear hsep
                  go_wp2_with fail
                  refine (sPrefix_v s q 41 true HP.out (by omega) hs _).mono ?_; rintro e w5 ⟨rfl, rfl⟩
                  go_wp2_with fail
                  go_ret3
                  exact ⟨_, _, _, by rw [E4.out]; rfl, by rw [E4.out]; exact (OwnI.of_row hown).mono (by omega) (Nat.le_refl _), hbr.of_alloc⟩
                · have E4 : Hid (scanF ar s.data.toList (n + 1) p = ([], q, false)) := by
                    show _ = _; rw [HSC.out, HAM.out]; exact args_noclose hsep
                  have HP := Lib.hid (show decide (s.data.toList[q]? = some (41 : UInt8)) = false from by simpa using hsep)
                  clear hsep
                  go_wp2_with fail
                  refine (sPrefix_v s q 41 false HP.out (by omega) hs _).mono ?_; rintro e w5 ⟨rfl, rfl⟩
                  go_wp2_with fail
                  go_ret3
                  exact ⟨_, _, _, by rw [E4.out]; rfl, by rw [E4.out]; exact OwnI.nil _ _ _, hbr.of_alloc⟩
    · have E := Lib.hid (scan_end (ar := ar) (T := s.data.toList) (f := n) (p := p) (by omega))
      rw [hsz] at E
      clear hr
      have hge : decide ((p : Int) ≥ s.size) = true := by simp; omega
      go_enter Try.func126, Try.ntmps126
      go_wp2_with fail
      go_ret3
      exact ⟨_, _, _, by rw [E.out]; rfl, by rw [E.out]; exact OwnI.nil _ _ _, Bel.alloc0 _ _⟩
end Go.Proofs.Ytajmjjandkdhiaa
end
section
/- ReadTerm: both functions. -/
namespace Go.Proofs.Ytajmjjandkdhiaa
open Go.RowKit

/-- What has been read is a term. -/
def ReadOk (ar : List Int) (r : Scanned) : Prop := r.2.2 = true → endGo ar r.1 1 0 = some r.1.length ∧ 1 ≤ r.1.length
theorem args_read (ar : List Int) (g : Nat → Scanned) (T : List UInt8) (hg : ∀ q, ReadOk ar (g q)) : ∀ (m k : Nat) (acc : List Int) (p : Nat), 1 ≤ acc.length → (∀ rest, endGo ar (acc ++ rest) 1 0 = endGo ar rest m acc.length) → ReadOk ar (scanArgs g T m k acc p) := by
  intro m
  induction m with
  | zero =>
    intro k acc p h1 h2
    by_cases h : T[p]? = some 41
    · rw [args_done h]
      intro _
      have := h2 []
      rw [List.append_nil, endGo_zero] at this
      exact ⟨this, h1⟩
    · rw [args_noclose h]; intro h; simp at h
  | succ m ih =>
    intro k acc p h1 h2
    by_cases h : T[p]? = some (sepC k)
    · cases hb : (g (p + 1)).2.2 with
      | false => rw [args_bad h hb]; intro h; simp at h
      | true =>
        rw [args_next h hb]
        obtain ⟨h3, h4⟩ := hg (p + 1) hb
        refine ih _ _ _ (by simp; omega) (fun rest => ?_)
        rw [List.append_assoc, h2, show m + 1 = 1 + m from by omega, endGo_add]
        have h5 : endGo ar ((g (p + 1)).1 ++ rest) 1 acc.length = some ((g (p + 1)).1.length + acc.length) := by
          have := endGo_shift ar ((g (p + 1)).1 ++ rest) 1 0 acc.length
          rw [Nat.zero_add] at this
          rw [this, endGo_ext ar _ _ _ _ _ h3]; rfl
        rw [h5]
        simp only [Option.bind_some, Nat.add_sub_cancel, List.drop_left', List.length_append]
        rw [Nat.add_comm]
    · rw [args_nosep h]; intro h; simp at h
theorem scan_read (ar : List Int) (T : List UInt8) : ∀ (f p : Nat), ReadOk ar (scanF ar T f p) := by
  intro f
  induction f with
  | zero => intro p h; simp [scanF] at h
  | succ f ih =>
    intro p
    by_cases hl : p < T.length
    · obtain ⟨b, h⟩ : ∃ b, T[p]? = some b := ⟨T[p], List.getElem?_eq_getElem hl⟩
      cases hs : symAt ar b with
      | none => rw [scan_bad h hs]; intro h; simp at h
      | some n =>
        have hok : okSym ar n = true := by have := sym_bd hs; simp [okSym, inB]; omega
        by_cases h0 : arOf ar n = 0
        · rw [scan_leaf h hs h0]
          intro _
          refine ⟨?_, by simp⟩
          show endGo ar [n] 1 0 = some 1
          rw [endGo_cons, if_pos hok, h0, endGo_zero]
        · rw [scan_args h hs h0]
          refine args_read ar _ T ih _ _ _ _ (by simp) (fun rest => ?_)
          show endGo ar (n :: rest) 1 0 = endGo ar rest (arOf ar n) 1
          rw [endGo_cons, if_pos hok, Nat.zero_add]
    · rw [scan_end hl]; intro h; simp at h
theorem read_term {ar : List Int} {r : Scanned} (h : ReadOk ar r) (hb : r.2.2 = true) : okTerm ar r.1 = decide (r.1.length ≤ 40) := by
  obtain ⟨h1, h2⟩ := h hb
  rw [Bool.eq_iff_iff, okTerm_iff, decide_eq_true_eq]
  constructor
  · exact fun h => h.2.1
  · exact fun h3 => ⟨h2, h3, by unfold endOf; rw [List.drop_zero]; exact h1⟩

/-- What ReadTerm answers. -/
def readCore (ar : List Int) (n : Nat) (r : Scanned) : Scanned := if r.2.2 = false ∨ r.2.1 < n then ([], r.2.1, false) else if r.1.length ≤ 40 then r else ([], 0, false)
def readAns (ar : List Int) (s : ByteArray) : Scanned :=
  if goodSign ar = true ∧ s.size ≤ 200 then readCore ar s.size (scanF ar s.data.toList (s.data.toList.length + 1) 0) else ([], 0, false)
theorem readAns_len (ar : List Int) (s : ByteArray) : (readAns ar s).1.length ≤ 1048576 := by
  unfold readAns readCore
  split
  · split
    · exact Nat.zero_le _
    · split
      · rename_i h; exact Nat.le_trans h (by omega)
      · exact Nat.zero_le _
  · exact Nat.zero_le _
theorem read_no {ar : List Int} {s : ByteArray} (h : ¬ (goodSign ar = true ∧ s.size ≤ 200)) : readAns ar s = ([], 0, false) := if_neg h
theorem read_yes {ar : List Int} {s : ByteArray} (h1 : goodSign ar = true) (h2 : s.size ≤ 200) : readAns ar s = readCore ar s.size (scanF ar s.data.toList (s.data.toList.length + 1) 0) := if_pos ⟨h1, h2⟩

end Go.Proofs.Ytajmjjandkdhiaa
end
section
/- l2Apply's result as a row of the call's own. -/
namespace Go.Proofs.Ytajmjjandkdhiaa
open Go.RowKit
set_option maxRecDepth 100000 in
set_option maxHeartbeats 400000 in
theorem l2Apply_r (l h l' h' : Nat) (v u : Value) (b : List (List Int)) (t : List Int) (w : World) (hlen : b.length = 12) (hb : lens40 b) (ht : t.length ≤ 1024) (hlow : ∀ k, k < t.length → -12 ≤ t.getD k 0) (hu : SlS l' h' w u b) (hv : SlI l h w v t) :
    Calls Try.prog 105 #[u, v] w (RetR w (appT b t)) := by
  obtain ⟨i0, hi0, hz0, hz1, hz2⟩ := info_parts Try.info3
  obtain ⟨ad', cap', rfl⟩ := hu.form
  have HN := Lib.hid hlen; clear hlen
  obtain ⟨ad, cap, rfl, -, -, hr⟩ := hv
  go_enter Try.func105, Try.ntmps105
  go_wp2_with fail
  go_loopw [5, 10] (fun vs i wr => ∃ k : Nat, k ≤ t.length ∧ i = .int .i64 k ∧ wr.ownsRow w.heap.size 3 1 vs (appT b (t.take k)).length ((appT b (t.take k)).map (Value.int .i64)) ∧ Bel w wr) (fun _ i _ => t.length - (intOf i).toNat)
  case atStart => exact ⟨0, Nat.zero_le _, rfl, World.ownsRow_nil _ _ _ _, Bel.rfl' _⟩
  case round =>
    obtain ⟨k, hk, rfl, hown, hb2⟩ := hrel
    by_cases hlt : k < t.length
    · obtain ⟨bt, offt, rfl, hbl, hcell⟩ := rd hr hb2 k hlt
      have hx12 := hlow k hlt
      have hsucc := appT_succ b t k hlt
      have hal := appT_len hb (t.take k)
      have hal2 : (appT b (t.take k)).length ≤ 40960 := by simp at hal; omega
      have h40 := getD_len40 hb (-1 - t.getD k 0).toNat
      clear hr hlow hal
      generalize t.getD k 0 = x at *
      generalize appT b (t.take k) = acc at *
      generalize hq : appT b (t.take (k+1)) = nxt at *
      by_cases hx : x < 0
      · have hm : (-1 - x).toNat < b.length := by have hN : b.length = 12 := HN.out; omega
        have hi0' : 0 ≤ -1 - x := by omega
        have hi1 : -1 - x < b.length := by have hN : b.length = 12 := HN.out; omega
        obtain ⟨bb, off, p, rfl, -, hc, hp⟩ := hu.at hb2 _ hm
        have hv1 := fun h1 => one1_var (b := b) hx h1
        have hv2 := fun h1 => one1_free (b := b) (n := x) h1
        generalize b.getD (-1 - x).toNat [] = tt at *
        by_cases hpos : 0 < tt.length
        · rw [hv1 hpos] at hsucc
          obtain ⟨pb, po, pc, rfl, hpc⟩ := hp.plain hpos
          have hn := news_of_sl hp
          have HS := Lib.hid (And.intro hq hsucc)
          clear hv1 hv2 hq hsucc
          go_wp2_with (at_builtin; refine wpList_append_own _ rfl _ _ 24 rfl w.heap.size 3 i0 (.int .i64 0) 1 8 Try.underlying24 hi0 hz0 hz1 hz2 rfl (by decide) _ _ _ rfl hown ⟨pb, po, none⟩ tt.length pc (tt.map (Value.int .i64)) rfl (by simp) hn (ones_int _) (by unfold maxLen; first | omega | (simp; omega)) (by first | omega | (simp; omega)) (by have := hb2.size; first | omega | (simp; omega)) ?_; intro v' w1 hown' hgrow _)
          have hb3 := hb2.grown hgrow (fun k hk => own_base hown k hk)
          have hown2 := row_app (by simpa using hown')
          go_roundw
          case rel =>
            have e := HS.out.1.trans HS.out.2
            exact ⟨k+1, by omega, by go_num, by rw [HS.out.1, HS.out.2]; exact hown2, hb3⟩
          case measure => simp [intOf]; omega
        · rw [hv2 hpos] at hsucc
          have HS := Lib.hid (And.intro hq hsucc)
          have h0 : tt.length = 0 := by omega
          obtain ⟨ap, cp, rfl⟩ := hp.form
          rw [h0] at hc
          clear hv1 hv2 hp hpos h0 hq hsucc
          go_wp2_with (at_builtin; refine wpList_append_own _ rfl _ _ 24 rfl w.heap.size 3 i0 (.int .i64 0) 1 8 Try.underlying24 hi0 hz0 hz1 hz2 rfl (by decide) _ _ _ rfl (hown.alloc _) ⟨wr.heap.size, 0, none⟩ 1 1 [.int .i64 x] rfl rfl (news_one _ _ _) (one_int _) (by unfold maxLen; first | omega | (simp; omega)) (by first | omega | (simp; omega)) (by have := hb2.size; first | omega | (simp; omega)) ?_; intro v' w1 hown' hgrow _; have hb3 := (hb2.alloc (.cells #[.int .i64 x] 3)).grown hgrow (fun k hk => own_base hown k hk); have hown2 := row_snoc hown')
          go_roundw
          case rel => exact ⟨k+1, by omega, by go_num, by rw [HS.out.1, HS.out.2]; exact hown2, hb3⟩
          case measure => simp [intOf]; omega
      · rw [one1_sym hx] at hsucc
        have HS := Lib.hid (And.intro hq hsucc)
        clear hq hsucc
        go_wp2_with (at_builtin; refine wpList_append_own _ rfl _ _ 24 rfl w.heap.size 3 i0 (.int .i64 0) 1 8 Try.underlying24 hi0 hz0 hz1 hz2 rfl (by decide) _ _ _ rfl (hown.alloc _) ⟨wr.heap.size, 0, none⟩ 1 1 [.int .i64 x] rfl rfl (news_one _ _ _) (one_int _) (by unfold maxLen; first | omega | (simp; omega)) (by first | omega | (simp; omega)) (by have := hb2.size; first | omega | (simp; omega)) ?_; intro v' w1 hown' hgrow _; have hb3 := (hb2.alloc (.cells #[.int .i64 x] 3)).grown hgrow (fun k hk => own_base hown k hk); have hown2 := row_snoc hown')
        go_roundw
        case rel => exact ⟨k+1, by omega, by go_num, by rw [HS.out.1, HS.out.2]; exact hown2, hb3⟩
        case measure => simp [intOf]; omega
    · have e : t.take k = t := List.take_of_length_le (by omega)
      rw [e] at hown
      go_wp2_with fail
      obtain ⟨g, n, c, hv'⟩ := own_form hown
      subst hv'
      go_ret
      exact ⟨_, _, _, rfl, hown, hb2⟩
end Go.Proofs.Ytajmjjandkdhiaa
end
section
/- slices.Sort at []int: the library's contract laid at this program (which functions and types stand for which). -/
namespace Go.Proofs.Ytajmjjandkdhiaa
open Go.Shelf
end Go.Proofs.Ytajmjjandkdhiaa
end
section
/- Maps from variables to terms: what they hold, by variable; the library's sort; the variables of a map. -/
namespace Go.Proofs.Ytajmjjandkdhiaa
open Go.RowKit Go.Maps

/-- An element reads as itself. -/
def rawE : Value → Option (DataW Value × List MemPlace) := fun v => some (.held v, [])
theorem keyInt : Keyed Try.prog 3 := int_keyed Try.underlying3
abbrev kv (v : Nat) : Lit := .int .i64 v
theorem kv_inj {u v : Nat} (h : kv u = kv v) : u = v := by simp [kv] at h; omega
theorem kv_ne {u v : Nat} (h : u ≠ v) : kv u ≠ kv v := fun e => h (kv_inj e)
theorem kv_wf {v : Nat} (h : v < 12) : (Lit.int .i64 (v : Int)).wf = true := by
  simp only [Lit.wf, Bool.and_eq_true, decide_eq_true_eq]
  have h1 : IntKind.i64.min = -9223372036854775808 := rfl
  have h2 : IntKind.i64.max = 9223372036854775807 := rfl
  omega
theorem kv_key {v : Nat} (h : v < 12) : keyOf Try.prog 3 (.int .i64 (v : Int)) = some (kv v) := keyOf_int_mk Try.underlying3 (kv_wf h)
theorem kv_lit {v : Nat} (h : v < 12) : WideAt.IsKeyLit (kv v) := keyInt.key (kv_key h)
theorem zeroI (w : World) : (zeroValue 24).run Try.prog w = .ok (.slice none 0 0) w := by kernel_rfl
/-- The datum D holds f at the twelve variables, and nothing else. -/
structure KeyAt (D : DataW Value) (f : Nat → Option Value) : Prop where
  has : ∀ v, v < 12 → Maps.has D (kv v) = (f v).isSome
  at' : ∀ v u, v < 12 → f v = some u → ∀ z, D.atKey (kv v) z = .held u
  only : ∀ kl, Maps.has D kl = true → ∃ v, v < 12 ∧ kl = kv v
theorem KeyAt.empty : KeyAt (.map []) (fun _ => none) := ⟨fun _ _ => rfl, fun _ _ _ h => by simp at h, fun kl h => by simp [Maps.has] at h⟩
theorem KeyAt.put {D : DataW Value} {f : Nat → Option Value} (h : KeyAt D f) (hD : IsMap D) {v : Nat} (hv : v < 12) (u : Value) : KeyAt (D.put (kv v) (.held u)) (fun i => if i = v then some u else f i) := by
  refine ⟨fun i hi => ?_, fun i x hi hx z => ?_, fun kl hk => ?_⟩
  · by_cases e : i = v
    · subst e; rw [has_put_same hD (kv_lit hi)]; simp
    · rw [has_put_other (kv_ne e), h.has i hi]; simp [e]
  · by_cases e : i = v
    · subst e
      simp only [if_true, Option.some.injEq] at hx
      subst hx
      exact atKey_put_same hD (kv_lit hi) _ _
    · simp only [e, if_false] at hx
      rw [atKey_put_other (kv_ne e)]; exact h.at' i x hi hx z
  · by_cases e : kl = kv v
    · exact ⟨v, hv, e⟩
    · rw [has_put_other e] at hk; exact h.only kl hk
theorem KeyAt.del {D : DataW Value} {f : Nat → Option Value} (h : KeyAt D f) (v : Nat) : KeyAt (D.del (kv v)) (fun i => if i = v then none else f i) := by
  refine ⟨fun i hi => ?_, fun i x hi hx z => ?_, fun kl hk => ?_⟩
  · by_cases e : i = v
    · subst e; rw [has_del_same]; simp
    · rw [has_del_other (kv_ne e), h.has i hi]; simp [e]
  · by_cases e : i = v
    · subst e; simp at hx
    · simp only [e, if_false] at hx
      rw [atKey_del_other (kv_ne e)]; exact h.at' i x hi hx z
  · by_cases e : kl = kv v
    · subst e; rw [has_del_same] at hk; simp at hk
    · rw [has_del_other e] at hk; exact h.only kl hk
theorem KeyAt.at0 {D : DataW Value} {f : Nat → Option Value} (h : KeyAt D f) {v : Nat} (hv : v < 12) : D.atKey (kv v) (.held (.slice none 0 0)) = .held ((f v).getD (.slice none 0 0)) := by
  cases e : f v with
  | none => exact atKey_of_not_has (by rw [h.has v hv, e]; rfl) _
  | some u => exact h.at' v u hv e _

/-- Block b is a map that holds f; at most m stores went into it. -/
def MapV (w : World) (b m : Nat) (f : Nat → Option Value) : Prop := ∃ n D, n ≤ m ∧ w.ownsMap Try.prog 3 rawE b n D ∧ KeyAt D f
theorem MapV.made (w : World) : MapV (w.alloc (.map #[] 0)) w.heap.size 0 (fun _ => none) := ⟨0, .map [], Nat.le_refl _, World.ownsMap_made _ _ _ _, KeyAt.empty⟩
theorem MapV.kept {w w' : World} {b m : Nat} {f : Nat → Option Value} {row : Option Nat} (h : MapV w b m f) (hg : w.grownBy w' row) (hne : some b ≠ row) : MapV w' b m f := by
  obtain ⟨n, D, hn, ho, hk⟩ := h
  exact ⟨n, D, hn, ho.kept hg hne, hk⟩
theorem grown_of_bel {w w' : World} (h : Bel w w') : w.grownBy w' none := ⟨h.os, h.tape, h.output, h.size, fun k hk _ => h.block k hk⟩
theorem MapV.bel {w w' : World} {b m : Nat} {f : Nat → Option Value} (h : MapV w b m f) (hb : Bel w w') : MapV w' b m f := h.kept (grown_of_bel hb) (by simp)
theorem MapV.lt {w : World} {b m : Nat} {f : Nat → Option Value} (h : MapV w b m f) : b < w.heap.size := by obtain ⟨n, D, _, ho, _⟩ := h; exact ho.lt
theorem MapV.mono {w : World} {b m m' : Nat} {f : Nat → Option Value} (h : MapV w b m f) (hm : m ≤ m') : MapV w b m' f := by obtain ⟨n, D, hn, ho, hk⟩ := h; exact ⟨n, D, by omega, ho, hk⟩
theorem same_kv (u v : Nat) : (kv u).sameKey (kv v) = decide (u = v) := by
  by_cases h : u = v
  · subst h
    have : (kv u).sameKey (kv u) = true := by simp [Lit.sameKey]
    simpa using this
  · rw [sameKey_ne (kv_ne h)]; simp [h]
def castL (l : List Nat) : List Int := l.map fun (n : Nat) => (n : Int)
theorem castL_snoc (l : List Nat) (v : Nat) : castL (l ++ [v]) = castL l ++ [(v : Int)] := by simp [castL]
theorem mem_castL {l : List Nat} {x : Int} : x ∈ castL l ↔ ∃ v ∈ l, (v : Int) = x := by simp [castL]
theorem lenN : ∀ (n : Nat) (l : List Nat), l.Nodup → (∀ v ∈ l, v < n) → l.length ≤ n := by
  intro n
  induction n with
  | zero =>
    intro l _ h
    cases l with
    | nil => simp
    | cons x r => exact absurd (h x List.mem_cons_self) (by omega)
  | succ n ih =>
    intro l hd h
    by_cases hm : n ∈ l
    · have := ih (l.erase n) (hd.erase n) (fun v hv => by
        have h1 := (List.Nodup.mem_erase_iff hd).1 hv
        have := h v h1.2
        omega)
      rw [List.length_erase_of_mem hm] at this
      omega
    · have := ih l hd (fun v hv => by
        have := h v hv
        have : v ≠ n := fun e => hm (e ▸ hv)
        omega)
      omega
/-- Twelve at most. -/
theorem len12 {l : List Nat} (h : l.Nodup) (h12 : ∀ v ∈ l, v < 12) : l.length ≤ 12 := lenN 12 l h h12
end Go.Proofs.Ytajmjjandkdhiaa
end
section
/- The variables of a map of bindings. -/
namespace Go.Proofs.Ytajmjjandkdhiaa
open Go.RowKit Go.Maps

/-- The collected ones, while the loop is under way. -/
structure Coll (D : DataW Value) (left : Lit → Bool) (acc : List Nat) : Prop where
  nodup : acc.Nodup
  mem : ∀ v, v ∈ acc ↔ v < 12 ∧ Maps.has D (kv v) = true ∧ left (kv v) = false
  sub : ∀ kl, left kl = true → Maps.has D kl = true
theorem Coll.start (D : DataW Value) : Coll D (Maps.has D) [] := ⟨List.nodup_nil, fun v => by simp, fun _ h => h⟩
theorem Coll.step {D : DataW Value} {left : Lit → Bool} {acc : List Nat} {v : Nat} (h : Coll D left acc) (hv : v < 12) (hl : left (kv v) = true) : Coll D (fun z => left z && !z.sameKey (kv v)) (acc ++ [v]) := by
  refine ⟨?_, fun u => ?_, fun kl hk => h.sub kl (by simp at hk; exact hk.1)⟩
  · rw [List.nodup_append]
    refine ⟨h.nodup, by simp, fun a ha b hb => ?_⟩
    simp at hb
    subst hb
    intro e
    subst e
    have := ((h.mem a).1 ha).2.2
    rw [hl] at this; simp at this
  · rw [List.mem_append, List.mem_singleton, h.mem u]
    simp only [same_kv]
    by_cases e : u = v
    · subst e; simp [hv, h.sub _ hl]
    · simp [e]
def RetVars (f : Nat → Option Value) (w : World) (e : Ending) (w' : World) : Prop :=
  ∃ ad n c, ∃ ys : List Int, e = .returned (.slice ad n c) ∧ OwnI w.heap.size w'.heap.size w' (.slice ad n c) ys ∧ ys.length ≤ 12 ∧ ys.Nodup ∧ (∀ y ∈ ys, ∃ v : Nat, v < 12 ∧ y = v) ∧ (∀ v : Nat, v < 12 → ((v : Int) ∈ ys ↔ (f v).isSome = true)) ∧ Bel w w'

end Go.Proofs.Ytajmjjandkdhiaa
end
section
/- A map of bindings as a substitution. -/
namespace Go.Proofs.Ytajmjjandkdhiaa
open Go.RowKit Go.Maps

/-- A slice does not lie in a map's block. -/
theorem SlI.chgMap {lo hi : Nat} {w w' : World} {v : Value} {xs : List Int} {b m : Nat} {f : Nat → Option Value} (h : SlI lo hi w v xs) (hM : MapV w b m f) (k : Chg b (b+1) w w') : SlI lo hi w' v xs := by
  obtain ⟨ad, cap, rfl, hc, hm, hr⟩ := h
  refine ⟨ad, cap, rfl, hc, hm, fun hp => ?_⟩
  obtain ⟨b0, off, e, a1, a2, a3⟩ := hr hp
  have hne : b0 ≠ b := by
    intro e0
    subst e0
    obtain ⟨n, D, _, ⟨es, clock, hb, _⟩, _⟩ := hM
    have := a3 0 hp
    simp [World.cell?, hb] at this
  exact ⟨b0, off, e, a1, a2, fun j hj => k.cell (World.block_lt_of_cell? w ⟨b0, off + j, none⟩ (a3 j hj)) (by omega) (a3 j hj)⟩
theorem MapV.row_ne {w : World} {b m : Nat} {f : Nat → Option Value} (h : MapV w b m f) {base : Nat} {tag : Nat → Nat} {t : Nat} {e : TypeId} {v : Value} {xs : List Value} (ho : OwnT base tag t e w v xs) (hb : b < base) : some b ≠ v.ownBlock := by
  intro e
  have := own_base ho.1 b e.symm
  omega
theorem OwnT.chgMap {w w' : World} {b : Nat} {base : Nat} {tag : Nat → Nat} {t : Nat} {e : TypeId} {v : Value} {xs : List Value} (ho : OwnT base tag t e w v xs) (hb : b < base) (k : Chg b (b+1) w w') : OwnT base tag t e w' v xs := by
  refine ⟨⟨ho.1.1, ?_⟩, ho.2⟩
  rcases ho.1.2 with h0 | ⟨g, cap, cur, e1, e2, hh, r⟩
  · exact .inl h0
  · exact .inr ⟨g, cap, cur, e1, e2, by rw [k.block g (Array.getElem?_eq_some_iff.1 hh).1 (by omega)]; exact hh, r⟩
theorem chg_of_grown {w w' : World} {b : Nat} (h : w.grownBy w' (some b)) : Chg b (b+1) w w' := ⟨h.os, h.tape, h.output, h.size, fun k hk ho => h.block k hk (by simp; omega)⟩
/-- A new row at index v, where there was none. -/
theorem InT.put {base : Nat} {tag tag' : Nat → Nat} {ei : TypeId} {w w' : World} {us : List Value} {xss : List (List Int)} {u : Value} {xs : List Int} (h : InT base tag ei w us xss) (v : Nat) (hv : v < us.length)
    (hall : ∀ t' e' u zs, OwnT base tag t' e' w u zs → OwnT base tag' t' e' w' u zs) (hu : OwnT base tag' (10 + v) ei w' u (xs.map (Value.int .i64))) : InT base tag' ei w' (us.set v u) (xss.set v xs) := by
  refine ⟨by simp [h.1], fun j x hj => ?_⟩
  by_cases e : j = v
  · subst e
    rw [List.getElem?_set_self hv] at hj
    simp at hj
    subst hj
    rw [show (xss.set j xs).getD j [] = xs from by simp [List.getD, show j < xss.length by rw [← h.1]; exact hv]]
    exact hu
  · rw [List.getElem?_set_ne (Ne.symm e)] at hj
    rw [show (xss.set v xs).getD j [] = xss.getD j [] from by simp [List.getD, List.getElem?_set_ne (Ne.symm e)]]
    exact hall _ _ _ _ (h.2 j x hj)

theorem getD_rep (n j : Nat) : (List.replicate n ([] : List Int)).getD j [] = [] := by simp only [List.getD, List.getElem?_replicate]; split <;> rfl
theorem Chg.setNew {lo hi : Nat} {w w' : World} (h : Chg lo hi w w') {p : Addr} (hp : w.heap.size ≤ p.block) (u : Value) : Chg lo hi w (w'.setCell p u) :=
  ⟨h.os, h.tape, h.output, by simpa using h.size, fun b hb ho => (Below.heap_setCell w' p u b (by omega)).trans (h.block b hb ho)⟩
theorem MapV.set {w : World} {b m : Nat} {f : Nat → Option Value} (h : MapV w b m f) {p : Addr} (hp : b ≠ p.block) (u : Value) : MapV (w.setCell p u) b m f := by
  obtain ⟨n, D, hn, ho, hk⟩ := h
  exact ⟨n, D, hn, ho.setCell hp u, hk⟩
theorem SlI.lit {w : World} (x : Int) (T : TypeId) : SlI w.heap.size (w.heap.size + 1) (w.alloc (.cells #[.int .i64 x] T)) (.slice (some ⟨w.heap.size, 0, none⟩) 1 1) [x] := by
  refine ⟨_, 1, rfl, Nat.le_refl _, ⟨by unfold maxLen; omega, fun h => by simp at h⟩, fun _ => ⟨w.heap.size, 0, rfl, Nat.le_refl _, Nat.lt_succ_self _, fun j hj => ?_⟩⟩
  obtain rfl : j = 0 := by simp at hj; omega
  rw [World.cell?_alloc_new w]; rfl
/-- What a substitution holds for v. -/
def stayF (F : Nat → List Int) (v : Nat) : List Int := if F v = [-1 - (v : Int)] then [] else F v
def substL (F : Nat → List Int) : List (List Int) := (List.range 12).map (stayF F)
/-- .. after some of the variables. -/
def partL (F : Nat → List Int) (ys : List Int) : List (List Int) := (List.range 12).map fun (v : Nat) => if (v : Int) ∈ ys then stayF F v else []
theorem partL_nil (F : Nat → List Int) : partL F [] = List.replicate 12 [] := by simp [partL, List.range_succ, List.replicate]
theorem partL_len (F : Nat → List Int) (ys : List Int) : (partL F ys).length = 12 := by simp [partL]
theorem partL_snoc (F : Nat → List Int) (ys : List Int) (v : Nat) (hv : v < 12) : (partL F ys).set v (stayF F v) = partL F (ys ++ [(v : Int)]) := by
  apply List.ext_getElem?
  intro i
  rw [List.getElem?_set]
  unfold partL
  by_cases e : v = i
  · subst e; simp [hv]
  · by_cases hi : i < 12
    · have h1 : (List.range 12)[i]? = some i := by simp [hi]
      have e2 : ¬ (i : Int) = (v : Int) := by omega
      rw [if_neg e, List.getElem?_map, List.getElem?_map, h1]
      simp only [Option.map_some, List.mem_append, List.mem_singleton, e2, or_false]
    · rw [if_neg e, List.getElem?_eq_none (by simp; omega), List.getElem?_eq_none (by simp; omega)]
theorem partL_all (F : Nat → List Int) (ys : List Int) (h : ∀ v : Nat, v < 12 → (v : Int) ∉ ys → F v = []) : partL F ys = substL F := by
  unfold partL substL
  apply List.map_congr_left
  intro v hv
  rw [List.mem_range] at hv
  by_cases hm : (v : Int) ∈ ys
  · rw [if_pos hm]
  · rw [if_neg hm]; unfold stayF; rw [h v hv hm]; simp
def RetSub (F : Nat → List Int) (b : Nat) (w : World) (e : Ending) (w' : World) : Prop :=
  ∃ ad n c, e = .returned (.slice ad n c) ∧ OwnS w.heap.size w'.heap.size w' (.slice ad n c) (substL F) ∧ Chg b (b+1) w w'

end Go.Proofs.Ytajmjjandkdhiaa
end
section
/- Compose: what is put together. -/
namespace Go.Proofs.Ytajmjjandkdhiaa
open Go.RowKit

theorem ok_var (ar : List Int) (v : Nat) (hv : v < 12) : okTerm ar [-1 - (v : Int)] = true := by
  have hs : okSym ar (-1 - (v : Int)) = true := by simp [okSym, inB]; omega
  rw [okTerm_iff]
  refine ⟨by simp, by simp, ?_⟩
  unfold endOf
  rw [List.drop_zero, endGo_cons, if_pos hs, arOf_neg (by omega)]
  rfl
def compT (a : List (List Int)) (v : Nat) : List Int := if 0 < (a.getD v []).length then a.getD v [] else [-1 - (v : Int)]
def compF (a b : List (List Int)) (v : Nat) : List Int := appT b (compT a v)
theorem compT_pos {a : List (List Int)} {v : Nat} (h : 0 < (a.getD v []).length) : compT a v = a.getD v [] := by unfold compT; rw [if_pos h]
theorem compT_zero {a : List (List Int)} {v : Nat} (h : ¬ 0 < (a.getD v []).length) : compT a v = [-1 - (v : Int)] := by unfold compT; rw [if_neg h]
theorem compT_ok {ar : List Int} {a : List (List Int)} (h : goodSubst ar a = true) (v : Nat) (hv : v < 12) : okTerm ar (compT a v) = true := by
  by_cases hp : 0 < (a.getD v []).length
  · rw [compT_pos hp]; exact okEmpty_get (goodSubst_iff.1 h).2.2 v hp
  · rw [compT_zero hp]; exact ok_var ar v hv
def composeOk (ar : List Int) (a b : List (List Int)) : Bool := goodSubst ar a && goodSubst ar b && (List.range 12).all (fun v => app40ok b (compT a v))
def composeAns (ar : List Int) (a b : List (List Int)) : List (List Int) := if composeOk ar a b then substL (compF a b) else []
theorem composeAns_no {ar : List Int} {a b : List (List Int)} (h : composeOk ar a b = false) : composeAns ar a b = [] := by simp [composeAns, h]
theorem composeAns_yes {ar : List Int} {a b : List (List Int)} (h : composeOk ar a b = true) : composeAns ar a b = substL (compF a b) := by simp [composeAns, h]
theorem compose_bad {ar : List Int} {a b : List (List Int)} {v : Nat} (hv : v < 12) (h : app40ok b (compT a v) = false) : composeOk ar a b = false := by
  have : (List.range 12).all (fun v => app40ok b (compT a v)) = false := by
    rw [List.all_eq_false]
    exact ⟨v, by simpa using hv, by simp [h]⟩
  unfold composeOk
  rw [this, Bool.and_false]
theorem compose_good {ar : List Int} {a b : List (List Int)} (h1 : goodSubst ar a = true) (h2 : goodSubst ar b = true) (h : ∀ v, v < 12 → app40ok b (compT a v) = true) : composeOk ar a b = true := by
  unfold composeOk
  rw [h1, h2, Bool.true_and, Bool.true_and, List.all_eq_true]
  intro v hv
  exact h v (by simpa using hv)
theorem stayF_le (F : Nat → List Int) (v : Nat) : (stayF F v).length ≤ (F v).length := by unfold stayF; split <;> simp
theorem sumL_map_le (g : Nat → List Int) (c : Nat) : ∀ l : List Nat, (∀ v ∈ l, (g v).length ≤ c) → sumL (l.map g) ≤ c * l.length := by
  intro l
  induction l with
  | nil => intro _; simp [sumL]
  | cons x r ih =>
    intro h
    have h1 := ih (fun v hv => h v (List.mem_cons_of_mem _ hv))
    have h2 := h x List.mem_cons_self
    unfold sumL at h1 ⊢
    simp only [List.map_cons, List.sum_cons, List.length_cons] at h1 ⊢
    rw [Nat.mul_add]
    omega
theorem substL_tot (F : Nat → List Int) (h : ∀ v, v < 12 → (F v).length ≤ 40) : tot (substL F) ≤ 1048576 := by
  have h1 := sumL_map_le (stayF F) 40 (List.range 12) (fun v hv => by have h1 := stayF_le F v; have h2 := h v (by simpa using hv); omega)
  have h2 : (substL F).length = 12 := by simp [substL]
  unfold tot
  rw [h2]
  simp only [List.length_range] at h1
  unfold substL
  omega
theorem composeAns_len (ar : List Int) (a b : List (List Int)) : tot (composeAns ar a b) ≤ 1048576 := by
  unfold composeAns
  split
  · rename_i h
    unfold composeOk at h
    simp only [Bool.and_eq_true, List.all_eq_true] at h
    exact substL_tot _ fun v hv => by
      have := h.2 v (by simpa using hv)
      simp [app40ok] at this
      exact this
  · simp [tot, sumL]
theorem castL_range (k : Nat) : castL (List.range (k+1)) = castL (List.range k) ++ [(k : Int)] := by rw [List.range_succ, castL_snoc]

end Go.Proofs.Ytajmjjandkdhiaa
end
