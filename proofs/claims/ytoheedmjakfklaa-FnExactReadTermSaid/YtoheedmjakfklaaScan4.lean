import Derived.Test.YtoheedmjakfklaaScan3
import Derived.Test.YtoheedmjakfklaaText3
namespace Go.Proofs.Ytoheedmjakfklaa
open Go.RowKit

theorem numV_none {ar : List Int} {c : UInt8} (h : symAt ar c = none) : numV ar c = .tuple #[.int .i64 0, .bool false] := by simp [numV, h]
theorem numV_some {ar : List Int} {c : UInt8} {x : Int} (h : symAt ar c = some x) : numV ar c = .tuple #[.int .i64 x, .bool true] := by simp [numV, h]
theorem numberOf_v (l h : Nat) (v : Value) (ar : List Int) (c : UInt8) (r : Value) (he : numV ar c = r) (w : World) (hg : goodSign ar = true) (hv : SlI l h w v ar) :
    Calls Try.prog 90 #[.agg #[v], .int .u8 (c.toNat : Int)] w (RetV w r) := he ▸ numberOf_c l h v ar c w hg hv
theorem sym_bd {ar : List Int} {c : UInt8} {x : Int} (h : symAt ar c = some x) : -12 ≤ x ∧ x < ar.length := by
  unfold symAt at h
  by_cases h1 : inB c.toNat 65 76 = true
  · rw [if_pos h1] at h; simp [inB] at h1 h; omega
  · rw [if_neg h1] at h
    by_cases h2 : inB c.toNat 97 (97 + (ar.length : Int) - 1) = true
    · rw [if_pos h2] at h; simp [inB] at h2 h; omega
    · rw [if_neg h2] at h; simp at h

set_option maxRecDepth 100000 in
set_option maxHeartbeats 4000000 in
theorem scanTerm_c (l h : Nat) (v : Value) (ar : List Int) (s : ByteArray) (hg : goodSign ar = true) (hs : s.size ≤ 1048576) :
    ∀ (n p : Nat) (w : World), s.data.toList.length + 1 - p ≤ n → p ≤ s.data.toList.length → SlI l h w v ar → Calls Try.prog 80 #[.agg #[v], .string s, .int .i64 p] w (RetScan w (scanF ar s.data.toList n p)) := by
  have hsz : s.data.toList.length = s.size := by rw [Array.length_toList]; rfl
  intro n
  induction n with
  | zero => intro p w hn hp; omega
  | succ n ih =>
    intro p w hn hp hv
    have IH := Lib.hid ih; clear ih
    have hv0 := hv
    obtain ⟨ad, cap, rfl, -, -, hr⟩ := hv
    have hlen := sign_len ar hg
    obtain ⟨i0, hi0, hz0, hz1, hz2⟩ := info_parts Try.info3
    rw [hsz] at hn hp
    by_cases hlt : p < s.size
    · have hget := sa_get s p hlt
      have hlt2 : (p : Int) < s.size := by omega
      have hbx := boxc (Bel.rfl' (w.alloc (.cells #[.slice ad ar.length cap] 26))) 0 _ rfl
      cases hsym : symAt ar s[p] with
      | none =>
        have E := Lib.hid (scan_bad (f := n) hget hsym)
        have HN := Lib.hid (numV_none hsym)
        clear hsym hget hr
        go_enter Try.func80, Try.ntmps80
        go_wp2_with fail
        go_region_held3 (fun w' => Bel (w.alloc (.cells #[.slice ad ar.length cap] 26)) w' ∧ w'.cell? ⟨w.heap.size, 0, none⟩ = some (.slice ad ar.length cap))
          (first | exact ⟨Bel.drew0 _, hbx⟩ | exact ⟨hb1.of_drew, boxc hb1.of_drew 0 _ rfl⟩)
          (first | (go_at_call 90; refine (numberOf_v _ _ _ ar s[p] _ HN.out _ hg ((hv0.alloc _).below (Bel.drew0 _))).mono ?_; rintro e w1 ⟨rfl, hb1⟩))
        go_wp2_with fail
        go_ret3
        exact ⟨_, _, _, by rw [E.out]; rfl, by rw [E.out]; exact OwnI.nil _ _ _, hb1.of_drew.of_alloc⟩
      | some x =>
        obtain ⟨hx12, hxl⟩ := sym_bd hsym
        have HN := Lib.hid (numV_some hsym)
        by_cases hx0 : x < 0
        · have E := Lib.hid (scan_leaf (f := n) hget hsym (arOf_neg hx0))
          have hx0' : decide (x < 0) = true := by simpa using hx0
          clear hsym hget hr
          go_enter Try.func80, Try.ntmps80
          go_wp2_with fail
          go_region_held3 (fun w' => Bel (w.alloc (.cells #[.slice ad ar.length cap] 26)) w' ∧ w'.cell? ⟨w.heap.size, 0, none⟩ = some (.slice ad ar.length cap))
            (first | exact ⟨Bel.drew0 _, hbx⟩ | exact ⟨hb1.of_drew, boxc hb1.of_drew 0 _ rfl⟩)
            (first | (go_at_call 90; refine (numberOf_v _ _ _ ar s[p] _ HN.out _ hg ((hv0.alloc _).below (Bel.drew0 _))).mono ?_; rintro e w1 ⟨rfl, hb1⟩))
          go_wp2_with fail
          go_ret3
          exact ⟨_, _, _, by rw [E.out]; rfl, by rw [E.out]; exact (OwnI.of_row (own1 w1 _)).mono (by have := hb1.of_drew.size; simp at this; omega) (Nat.le_refl _), hb1.of_drew.of_alloc.alloc _⟩
        · obtain ⟨m, rfl⟩ : ∃ m : Nat, x = m := ⟨x.toNat, by omega⟩
          have hml : m < ar.length := by omega
          obtain ⟨b, off, rfl, hbl, hcell⟩ := rd hr (Bel.rfl' w) m hml
          have hn03 := ar_nonneg ar hg m
          have har : arOf ar (m : Int) = (ar.getD m 0).toNat := arOf_nat m
          obtain ⟨a, haq⟩ : ∃ a : Nat, ar.getD m 0 = a := ⟨(ar.getD m 0).toNat, by omega⟩
          rw [haq] at hcell har hn03
          rw [show ((a : Int)).toNat = a from by omega] at har
          have hx0' : decide ((m : Int) < 0) = false := by simp
          clear haq hr hx0
          by_cases ha0 : a = 0
          · have E := Lib.hid (scan_leaf (f := n) hget hsym (by rw [har, ha0]))
            have ha1 : ((a : Int) == 0) = true := by rw [beq_iff_eq]; omega
            clear hsym hget har ha0
            go_enter Try.func80, Try.ntmps80
            go_wp2_with fail
            go_region_held3 (fun w' => Bel (w.alloc (.cells #[.slice (some ⟨b, off, none⟩) ar.length cap] 26)) w' ∧ w'.cell? ⟨w.heap.size, 0, none⟩ = some (.slice (some ⟨b, off, none⟩) ar.length cap))
              (first | exact ⟨Bel.drew0 _, hbx⟩ | exact ⟨hb1.of_drew, boxc hb1.of_drew 0 _ rfl⟩)
              (first | (go_at_call 90; refine (numberOf_v _ _ _ ar s[p] _ HN.out _ hg ((hv0.alloc _).below (Bel.drew0 _))).mono ?_; rintro e w1 ⟨rfl, hb1⟩))
            have hb13 := hb1.of_drew.alloc (.cells #[.int .i64 (m : Int)] 3)
            have hx3 := boxc hb13 0 _ rfl
            have hc3 := hb13.of_alloc.at hbl hcell
            go_wp2_with fail
            go_ret3
            exact ⟨_, _, _, by rw [E.out]; rfl, by rw [E.out]; exact (OwnI.of_row (own1 w1 _)).mono (by have := hb1.of_drew.size; simp at this; omega) (Nat.le_refl _), hb1.of_drew.of_alloc.alloc _⟩
          · have E := Lib.hid (scan_args (f := n) hget hsym (by rw [har]; exact ha0))
            rw [har] at E
            have ha1 : ((a : Int) == 0) = false := by simpa using ha0
            have ha3 : (a : Int) ≤ 3 := hn03.2
            clear hsym hget har ha0
            go_enter Try.func80, Try.ntmps80
            go_wp2_with fail
            go_region_held3 (fun w' => Bel (w.alloc (.cells #[.slice (some ⟨b, off, none⟩) ar.length cap] 26)) w' ∧ w'.cell? ⟨w.heap.size, 0, none⟩ = some (.slice (some ⟨b, off, none⟩) ar.length cap))
              (first | exact ⟨Bel.drew0 _, hbx⟩ | exact ⟨hb1.of_drew, boxc hb1.of_drew 0 _ rfl⟩)
              (first | (go_at_call 90; refine (numberOf_v _ _ _ ar s[p] _ HN.out _ hg ((hv0.alloc _).below (Bel.drew0 _))).mono ?_; rintro e w1 ⟨rfl, hb1⟩))
            have hb13 := hb1.of_drew.alloc (.cells #[.int .i64 (m : Int)] 3)
            have hx3 := boxc hb13 0 _ rfl
            have hc3 := hb13.of_alloc.at hbl hcell
            go_wp2_with fail
            go_loopw [2, 11, 54] (fun at' o k' wr => ∃ (q k : Nat) (acc : List Int), k ≤ a ∧ p < q ∧ q ≤ s.size ∧ acc.length ≤ q - p ∧ at' = .int .i64 q ∧ k' = .int .i64 k ∧
                scanF ar s.data.toList (n + 1) p = scanArgs (scanF ar s.data.toList n) s.data.toList (a - k) k acc q ∧
                wr.ownsRow (w.heap.size + 1) 3 1 o acc.length (acc.map (Value.int .i64)) ∧ Bel (w.alloc (.cells #[.slice (some ⟨b, off, none⟩) ar.length cap] 26)) wr) (fun _ _ k' _ => a - (intOf k').toNat)
            case atStart => exact ⟨p + 1, 0, [(m : Int)], Nat.zero_le _, by omega, by omega, by simp, by go_num, rfl, E.out, own_mono (own1 w1 _) (by have := hb1.of_drew.size; simp at this; omega), hb13⟩
            case round =>
              obtain ⟨q, k, acc, hka, hpq, hqs, hal, rfl, rfl, hsc, hown, hbr⟩ := hrel
              have hbox := boxc hbr 0 _ rfl
              have hqs2 : (q : Int) ≤ s.size := by omega
              have HSC := Lib.hid hsc
              clear hsc
              by_cases hka2 : k < a
              · have HAM := Lib.hid (show a - k = (a - (k + 1)) + 1 from by omega)
                by_cases hsep : s.data.toList[q]? = some (sepC k)
                · have HP := Lib.hid (show decide (s.data.toList[q]? = some (sepC k)) = true from by simpa using hsep)
                  have hql : q < s.size := by have := (List.getElem?_eq_some_iff.1 hsep).1; omega
                  have hok := scanF_ok ar s.data.toList n (q + 1) (by omega)
                  have hcall : ∀ w2, SlI l h w2 (.slice (some ⟨b, off, none⟩) ar.length cap) ar → Calls Try.prog 80 #[.agg #[.slice (some ⟨b, off, none⟩) ar.length cap], .string s, .int .i64 ((q : Int) + 1)] w2 (RetScan w2 (scanF ar s.data.toList n (q + 1))) := fun w2 h => IH.out (q + 1) w2 (by omega) (by omega) h
                  have hbad : (scanF ar s.data.toList n (q + 1)).2.2 = false → scanF ar s.data.toList (n + 1) p = ([], (scanF ar s.data.toList n (q + 1)).2.1, false) := fun h => by rw [HSC.out, HAM.out]; exact args_bad hsep h
                  have hnext : (scanF ar s.data.toList n (q + 1)).2.2 = true → scanF ar s.data.toList (n + 1) p = scanArgs (scanF ar s.data.toList n) s.data.toList (a - (k + 1)) (k + 1) (acc ++ (scanF ar s.data.toList n (q + 1)).1) (scanF ar s.data.toList n (q + 1)).2.1 := fun h => by rw [HSC.out, HAM.out]; exact args_next hsep h
                  generalize scanF ar s.data.toList n (q + 1) = r at *
                  obtain ⟨rt, re, rb⟩ := r
                  rw [ScanOk, hsz] at hok
                  obtain ⟨hre, hok1, -⟩ := hok
                  have HCALL := Lib.hid hcall
                  clear hcall hsep IH
                  cases rb with
                  | false =>
                    have E4 := Lib.hid (hbad rfl)
                    clear hbad hnext hok1
                    go_wp2_with fail
                    go_quiet ((first | (go_at_call 89; exact Calls.quiet_of_same (markBefore_q k (sepC k) rfl _)) | (go_at_call 91; exact Calls.quiet_of_same (sPrefix_v s q (sepC k) true HP.out (by omega) hs _))))
                    go_wp2_with fail
                    refine (HCALL.out _ (hv0.below (hbr.of_alloc.drewN _))).mono ?_; rintro e w3 ⟨a3, n3, c3, rfl, ho3, hb3⟩
                    go_wp2_with fail
                    go_ret3
                    exact ⟨_, _, _, by rw [E4.out]; rfl, by rw [E4.out]; exact OwnI.nil _ _ _, (hbr.of_alloc.drewN _).step hb3⟩
                  | true =>
                    have E4 := Lib.hid (hnext rfl)
                    obtain ⟨hok2, hok3⟩ := hok1 rfl
                    simp only at hok2 hok3 hre
                    clear hbad hnext hok1
                    have hrt : rt.length ≤ 1048576 := by omega
                    have hac : acc.length ≤ 1048576 := by omega
                    go_wp2_with fail
                    go_quiet ((first | (go_at_call 89; exact Calls.quiet_of_same (markBefore_q k (sepC k) rfl _)) | (go_at_call 91; exact Calls.quiet_of_same (sPrefix_v s q (sepC k) true HP.out (by omega) hs _))))
                    go_wp2_with fail
                    refine (HCALL.out _ (hv0.below (hbr.of_alloc.drewN _))).mono ?_; rintro e w3 ⟨a3, n3, c3, rfl, ho3, hb3⟩
                    have hbr3 := (hbr.drewN _).step hb3
                    have hbox3 := boxc hbr3 0 _ rfl
                    have hown3 := ownsRow_bel hown (((Bel.rfl' wr).drewN _).step hb3)
                    simp only at ho3
                    obtain rfl : n3 = rt.length := by obtain ⟨_, _, e, _⟩ := ho3.1; simp at e; exact e.2.1
                    cases a3 with
                    | none =>
                      obtain ⟨ad', cap', e, -, hm, hr⟩ := ho3.1
                      simp only [Value.slice.injEq] at e
                      obtain ⟨rfl, -, rfl⟩ := e
                      obtain rfl : rt = [] := by
                        rcases Nat.eq_zero_or_pos rt.length with h0 | h0
                        · exact List.length_eq_zero_iff.1 h0
                        · obtain ⟨_, _, e, _⟩ := hr h0; simp at e
                      obtain rfl : c3 = 0 := hm.2 rfl
                      clear hr hm ho3
                      go_wp2_with (at_builtin; refine wpList_append_own_none rfl _ _ 24 rfl (w.heap.size + 1) 3 i0 1 Try.underlying24 hi0 _ _ _ rfl hown3 rfl ?_)
                      go_roundw
                      case rel => exact ⟨re, k + 1, acc, by omega, by omega, by omega, by omega, rfl, by go_num, by rw [E4.out]; simp, hown3, hbr3⟩
                      case measure => simp [intOf]; omega
                    | some ra =>
                      have hnw := news_of_sl ho3.sl
                      clear ho3
                      go_wp2_with (at_builtin; refine wpList_append_own _ rfl _ _ 24 rfl (w.heap.size + 1) 3 i0 (.int .i64 0) 1 8 Try.underlying24 hi0 hz0 hz1 hz2 rfl (by decide) _ _ _ rfl hown3 ra rt.length c3 (rt.map (Value.int .i64)) rfl (by simp) hnw (ones_int _) (by unfold maxLen; omega) (by omega) (by have := hbr3.size; simp at this; omega) ?_; intro v' w4 hown' hgrow _)
                      have hb4 := hbr3.grown hgrow (fun k hk => by have := own_base hown3 k hk; simp; omega)
                      have hown2 : w4.ownsRow (w.heap.size + 1) 3 1 v' (acc ++ rt).length ((acc ++ rt).map (Value.int .i64)) := by simpa using hown'
                      go_roundw
                      case rel => exact ⟨re, k + 1, acc ++ rt, by omega, by omega, by omega, by simp; omega, rfl, by go_num, E4.out, hown2, hb4⟩
                      case measure => simp [intOf]; omega
                · have E4 : Hid (scanF ar s.data.toList (n + 1) p = ([], q, false)) := by
                    show _ = _; rw [HSC.out, HAM.out]; exact args_nosep hsep
                  have HP := Lib.hid (show decide (s.data.toList[q]? = some (sepC k)) = false from by simpa using hsep)
                  clear hsep
                  go_wp2_with fail
                  go_quiet ((first | (go_at_call 89; exact Calls.quiet_of_same (markBefore_q k (sepC k) rfl _)) | (go_at_call 91; exact Calls.quiet_of_same (sPrefix_v s q (sepC k) false HP.out (by omega) hs _))))
                  go_wp2_with fail
                  go_ret3
                  exact ⟨_, _, _, by rw [E4.out]; rfl, by rw [E4.out]; exact OwnI.nil _ _ _, hbr.of_alloc.drewN _⟩
              · have HAM := Lib.hid (show a - k = 0 from by omega)
                by_cases hsep : s.data.toList[q]? = some 41
                · have E4 : Hid (scanF ar s.data.toList (n + 1) p = (acc, q + 1, true)) := by
                    show _ = _; rw [HSC.out, HAM.out]; exact args_done hsep
                  have HP := Lib.hid (show decide (s.data.toList[q]? = some (41 : UInt8)) = true from by simpa using hsep)
                  have hql : q < s.size := by have := (List.getElem?_eq_some_iff.1 hsep).1; omega
                  obtain ⟨g, m2, c, hv'⟩ := own_form hown
                  subst hv'
                  clear hsep
                  go_wp2_with fail
                  refine (sPrefix_v s q 41 true HP.out (by omega) hs _).mono ?_; rintro e w5 ⟨rfl, rfl⟩
                  go_wp2_with fail
                  go_ret3
                  exact ⟨_, _, _, by rw [E4.out]; rfl, by rw [E4.out]; exact (OwnI.of_row hown).mono (by omega) (Nat.le_refl _), hbr.of_alloc⟩
                · have E4 : Hid (scanF ar s.data.toList (n + 1) p = ([], q, false)) := by
                    show _ = _; rw [HSC.out, HAM.out]; exact args_noclose hsep
                  have HP := Lib.hid (show decide (s.data.toList[q]? = some (41 : UInt8)) = false from by simpa using hsep)
                  clear hsep
                  go_wp2_with fail
                  refine (sPrefix_v s q 41 false HP.out (by omega) hs _).mono ?_; rintro e w5 ⟨rfl, rfl⟩
                  go_wp2_with fail
                  go_ret3
                  exact ⟨_, _, _, by rw [E4.out]; rfl, by rw [E4.out]; exact OwnI.nil _ _ _, hbr.of_alloc⟩
    · have E := Lib.hid (scan_end (ar := ar) (T := s.data.toList) (f := n) (p := p) (by omega))
      rw [hsz] at E
      clear hr
      have hge : decide ((p : Int) ≥ s.size) = true := by simp; omega
      go_enter Try.func80, Try.ntmps80
      go_wp2_with fail
      go_ret3
      exact ⟨_, _, _, by rw [E.out]; rfl, by rw [E.out]; exact OwnI.nil _ _ _, Bel.alloc0 _ _⟩
end Go.Proofs.Ytoheedmjakfklaa
