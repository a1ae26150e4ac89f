import Derived.Test.YtoheedmjakfklaaScan
import Derived.Test.YtoheedmjakfklaaSlice
import Derived.Test.YtoheedmjakfklaaGood2
namespace Go.Proofs.Ytoheedmjakfklaa
open Go.RowKit

def RetScan (w : World) (r : Scanned) (e : Ending) (w' : World) : Prop := ∃ ad n c, e = .returned (.tuple #[.slice ad n c, .int .i64 r.2.1, .bool r.2.2]) ∧ OwnI w.heap.size w'.heap.size w' (.slice ad n c) r.1 ∧ Bel w w'

theorem sa_get (s : ByteArray) (p : Nat) (h : p < s.size) : s.data.toList[p]? = some s[p] := by
  rw [List.getElem?_eq_getElem (by simpa using h)]; rfl

theorem sub97 (m : Nat) (h : 97 ≤ m) : ((m : Int) - 97).toNat = m - 97 := by omega
/-- A new slice of one int. -/
theorem own1 (w : World) (x : Int) : (w.alloc (.cells #[.int .i64 x] 3)).ownsRow w.heap.size 3 1 (.slice (some ⟨w.heap.size, 0, none⟩) 1 1) [x].length ([x].map (Value.int .i64)) :=
  World.ownsRow_lit w #[.int .i64 x] 1 (Nat.le_refl _) (by unfold maxLen; omega) rfl
theorem own_mono {w : World} {base base' e s n : Nat} {v : Value} {xs : List Value} (h : w.ownsRow base e s v n xs) (hb : base' ≤ base) : w.ownsRow base' e s v n xs := by
  refine ⟨h.1, ?_⟩
  rcases h.2 with h0 | ⟨g, cap, cur, e1, e2, r⟩
  · exact .inl h0
  · exact .inr ⟨g, cap, cur, e1, by omega, r⟩
theorem u8_ne {a b : UInt8} (h : a ≠ b) : (((a.toNat : Nat) : Int) != ((b.toNat : Nat) : Int)) = true := by
  rw [bne_iff_ne]; intro h2; exact h (UInt8.toNat_inj.1 (by omega))

set_option maxRecDepth 100000 in
set_option maxHeartbeats 4000000 in
theorem l1ReadTerm_c (l h : Nat) (v : Value) (ar : List Int) (s : ByteArray) (hg : goodSign ar = true) (hs : s.size ≤ 1048576) :
    ∀ (n p : Nat) (w : World), s.data.toList.length + 1 - p ≤ n → p ≤ s.data.toList.length → SlI l h w v ar → Calls Try.prog 79 #[.agg #[v], .string s, .int .i64 p] w (RetScan w (scanF ar s.data.toList n p)) := by
  have hsz : s.data.toList.length = s.size := by rw [Array.length_toList]; rfl
  intro n
  induction n with
  | zero => intro p w hn hp; omega
  | succ n ih =>
    intro p w hn hp hv
    have IH := Lib.hid ih; clear ih
    have hv0 := hv
    obtain ⟨ad, cap, rfl, -, -, hr⟩ := hv
    have hlen := sign_len ar hg
    obtain ⟨i0, hi0, hz0, hz1, hz2⟩ := info_parts Try.info3
    rw [hsz] at hn hp
    by_cases hlt : p < s.size
    · have hget := sa_get s p hlt
      have hbb : ((s[p].toNat : Nat) : Int) < 256 := by have := s[p].toNat_lt; omega
      have hbb0 : (0 : Int) ≤ ((s[p].toNat : Nat) : Int) := by omega
      cases hsym : symAt ar s[p] with
      | none =>
        have E := Lib.hid (scan_bad (f := n) hget hsym)
        have h1 : inB (s[p].toNat) 65 76 = false := by
          unfold symAt at hsym; cases h : inB (s[p].toNat) 65 76 with
          | false => rfl
          | true => rw [h] at hsym; simp at hsym
        have h2 : inB (s[p].toNat) 97 (97 + (ar.length : Int) - 1) = false := by
          unfold symAt at hsym; rw [h1] at hsym; cases h : inB (s[p].toNat) 97 (97 + (ar.length : Int) - 1) with
          | false => rfl
          | true => rw [h] at hsym; simp at hsym
        have H1 := Lib.hid h1; have H2 := Lib.hid h2
        clear h1 h2 hsym hget hr
        go_enter Try.func79, Try.ntmps79
        go_wp2_with fail
        refine (l1In_f _ _ _ _ H1.out).mono ?_; rintro e w1 ⟨rfl, hb1⟩
        have hx1 := boxc hb1 0 _ rfl
        go_wp2_with fail
        refine (l1In_f _ _ _ _ H2.out).mono ?_; rintro e w2 ⟨rfl, hb2⟩
        go_wp2_with fail
        go_ret3
        exact ⟨_, _, _, by rw [E.out]; rfl, by rw [E.out]; exact OwnI.nil _ _ _, hb1.of_alloc.step hb2⟩
      | some x =>
        by_cases hvar : inB (s[p].toNat) 65 76 = true
        · have hx : x = -1 - ((s[p].toNat : Int) - 65) := by unfold symAt at hsym; rw [if_pos hvar] at hsym; simpa using hsym.symm
          have hneg : x < 0 := by simp [inB] at hvar; omega
          have E := Lib.hid (scan_leaf (f := n) hget hsym (arOf_neg hneg))
          have HX := Lib.hid hx
          have H1 := Lib.hid hvar
          clear hvar hsym hget hr hx
          go_enter Try.func79, Try.ntmps79
          go_wp2_with fail
          refine (l1In_t _ _ _ _ H1.out).mono ?_; rintro e w1 ⟨rfl, hb1⟩
          go_wp2_with fail
          go_ret3
          exact ⟨_, _, _, by rw [E.out]; rfl, by rw [E.out, HX.out]; exact (OwnI.of_row (own1 w1 _)).mono (by have := hb1.size; simp at this; omega) (Nat.le_refl _), hb1.of_alloc.alloc _⟩
        · have h1 : inB (s[p].toNat) 65 76 = false := by simpa using hvar
          have h2 : inB (s[p].toNat) 97 (97 + (ar.length : Int) - 1) = true := by
            unfold symAt at hsym; rw [if_neg hvar] at hsym; cases h : inB (s[p].toNat) 97 (97 + (ar.length : Int) - 1) with
            | true => rfl
            | false => rw [h] at hsym; simp at hsym
          have hx : x = (s[p].toNat : Int) - 97 := by unfold symAt at hsym; rw [if_neg hvar, if_pos h2] at hsym; simpa using hsym.symm
          have h97 : 97 ≤ s[p].toNat ∧ s[p].toNat - 97 < ar.length := by simp [inB] at h2; omega
          have h97a : (97 : Int) ≤ ((s[p].toNat : Nat) : Int) := by omega
          have h97b : ((s[p].toNat : Nat) : Int) - 97 < ar.length := by omega
          subst hx
          obtain ⟨b, off, rfl, hbl, hcell⟩ := rd hr (Bel.rfl' w) (s[p].toNat - 97) h97.2
          have har : arOf ar ((s[p].toNat : Int) - 97) = (ar.getD (s[p].toNat - 97) 0).toNat := by
            unfold arOf; rw [if_neg (by omega), sub97 _ h97.1]
          have hn03 := ar_nonneg ar hg (s[p].toNat - 97)
          obtain ⟨a, haq⟩ : ∃ a : Nat, ar.getD (s[p].toNat - 97) 0 = a := ⟨(ar.getD (s[p].toNat - 97) 0).toNat, by omega⟩
          rw [haq] at hcell har hn03
          rw [show ((a : Int)).toNat = a from by omega] at har
          have H1 := Lib.hid h1; have H2 := Lib.hid h2
          clear haq hr hvar h1 h2
          by_cases ha0 : a = 0
          · have E := Lib.hid (scan_leaf (f := n) hget hsym (by rw [har, ha0]))
            have ha1 : (a : Int) ≤ 0 := by omega
            clear hsym hget har ha0
            go_enter Try.func79, Try.ntmps79
            go_wp2_with fail
            refine (l1In_f _ _ _ _ H1.out).mono ?_; rintro e w1 ⟨rfl, hb1⟩
            have hx1 := boxc hb1 0 _ rfl
            go_wp2_with fail
            refine (l1In_t _ _ _ _ H2.out).mono ?_; rintro e w2 ⟨rfl, hb2⟩
            have hb12 := hb1.step hb2
            have hx2 := boxc hb12 0 _ rfl
            have hb13 := hb12.alloc (.cells #[.int .i64 ((s[p].toNat : Int) - 97)] 3)
            have hx3 := boxc hb13 0 _ rfl
            have hc3 := hb13.of_alloc.at hbl hcell
            go_wp2_with fail
            refine wp_loop_rounds 1 ?_
            rw [rounds_succ]
            go_wp2_with fail
            go_ret3
            exact ⟨_, _, _, by rw [E.out]; rfl, by rw [E.out]; exact (OwnI.of_row (own1 w2 _)).mono (by have := hb12.size; simp at this; omega) (Nat.le_refl _), hb12.of_alloc.alloc _⟩
          · have E := Lib.hid (scan_args (f := n) hget hsym (by rw [har]; exact ha0))
            rw [har] at E
            have ha1 : (1 : Int) ≤ (a : Int) := by omega
            have ha3 : (a : Int) ≤ 3 := hn03.2
            clear hsym hget har ha0
            go_enter Try.func79, Try.ntmps79
            go_wp2_with fail
            refine (l1In_f _ _ _ _ H1.out).mono ?_; rintro e w1 ⟨rfl, hb1⟩
            have hx1 := boxc hb1 0 _ rfl
            go_wp2_with fail
            refine (l1In_t _ _ _ _ H2.out).mono ?_; rintro e w2 ⟨rfl, hb2⟩
            have hb12 := hb1.step hb2
            have hx2 := boxc hb12 0 _ rfl
            go_wp2_with fail
            go_loopw [2, 10, 11] (fun at' o k' wr => ∃ (q k : Nat) (acc : List Int), k ≤ a ∧ p < q ∧ q ≤ s.size ∧ acc.length ≤ q - p ∧ at' = .int .i64 q ∧ k' = .int .i64 k ∧
                scanF ar s.data.toList (n + 1) p = scanArgs (scanF ar s.data.toList n) s.data.toList (a - k) k acc q ∧
                wr.ownsRow (w.heap.size + 1) 3 1 o acc.length (acc.map (Value.int .i64)) ∧ Bel (w.alloc (.cells #[.slice (some ⟨b, off, none⟩) ar.length cap] 26)) wr) (fun _ _ k' _ => a - (intOf k').toNat)
            case atStart => exact ⟨p + 1, 0, [(s[p].toNat : Int) - 97], Nat.zero_le _, by omega, by omega, by simp, by go_num, rfl, E.out, own_mono (own1 w2 _) (by have := hb12.size; simp at this; omega), hb12.alloc _⟩
            case round =>
              obtain ⟨q, k, acc, hka, hpq, hqs, hal, rfl, rfl, hsc, hown, hbr⟩ := hrel
              have hbox := boxc hbr 0 _ rfl
              have hcr := hbr.of_alloc.at hbl hcell
              have HSC := Lib.hid hsc
              clear hsc
              by_cases hka2 : k < a
              · have HAM := Lib.hid (show a - k = (a - (k + 1)) + 1 from by omega)
                by_cases hql : q < s.size
                · have hgq := sa_get s q hql
                  by_cases hsep : s[q] = sepC k
                  · have hgs : s.data.toList[q]? = some (sepC k) := by rw [hgq, hsep]
                    have hok := scanF_ok ar s.data.toList n (q + 1) (by omega)
                    have hcall : ∀ w2, SlI l h w2 (.slice (some ⟨b, off, none⟩) ar.length cap) ar → Calls Try.prog 79 #[.agg #[.slice (some ⟨b, off, none⟩) ar.length cap], .string s, .int .i64 ((q : Int) + 1)] w2 (RetScan w2 (scanF ar s.data.toList n (q + 1))) := fun w2 h => IH.out (q + 1) w2 (by omega) (by omega) h
                    have hbad : (scanF ar s.data.toList n (q + 1)).2.2 = false → scanF ar s.data.toList (n + 1) p = ([], (scanF ar s.data.toList n (q + 1)).2.1, false) := fun h => by rw [HSC.out, HAM.out]; exact args_bad hgs h
                    have hnext : (scanF ar s.data.toList n (q + 1)).2.2 = true → scanF ar s.data.toList (n + 1) p = scanArgs (scanF ar s.data.toList n) s.data.toList (a - (k + 1)) (k + 1) (acc ++ (scanF ar s.data.toList n (q + 1)).1) (scanF ar s.data.toList n (q + 1)).2.1 := fun h => by rw [HSC.out, HAM.out]; exact args_next hgs h
                    generalize scanF ar s.data.toList n (q + 1) = r at *
                    obtain ⟨rt, re, rb⟩ := r
                    rw [ScanOk, hsz] at hok
                    obtain ⟨hre, hok1, -⟩ := hok
                    have HCALL := Lib.hid hcall
                    have hsgn : (if k = 0 then ((((s[q].toNat : Nat) : Int) != 40) = false ∧ ((k : Int) == 0) = true) else ((((s[q].toNat : Nat) : Int) != 44) = false ∧ ((k : Int) == 0) = false)) := by
                      rw [hsep]
                      by_cases hk0 : k = 0
                      · simp [hk0, sepC]
                      · simp [hk0, sepC]
                    clear hcall hgs hgq hsep IH
                    by_cases hk0 : k = 0
                    all_goals
                      first | rw [if_pos hk0] at hsgn | rw [if_neg hk0] at hsgn
                      obtain ⟨hsg1, hsg2⟩ := hsgn
                      clear hk0
                      cases rb with
                      | false =>
                        have E4 := Lib.hid (hbad rfl)
                        clear hbad hnext hok1
                        go_wp2_with fail
                        refine (HCALL.out _ (hv0.below hbr.of_alloc)).mono ?_; rintro e w3 ⟨a3, n3, c3, rfl, ho3, hb3⟩
                        go_wp2_with fail
                        go_ret3
                        exact ⟨_, _, _, by rw [E4.out]; rfl, by rw [E4.out]; exact OwnI.nil _ _ _, hbr.of_alloc.step hb3⟩
                      | true =>
                        have E4 := Lib.hid (hnext rfl)
                        obtain ⟨hok2, hok3⟩ := hok1 rfl
                        simp only at hok2 hok3 hre
                        clear hbad hnext hok1
                        have hrt : rt.length ≤ 1048576 := by omega
                        have hac : acc.length ≤ 1048576 := by omega
                        go_wp2_with fail
                        refine (HCALL.out _ (hv0.below hbr.of_alloc)).mono ?_; rintro e w3 ⟨a3, n3, c3, rfl, ho3, hb3⟩
                        have hbox3 := boxc (hbr.step hb3) 0 _ rfl
                        have hown3 := ownsRow_bel hown hb3
                        simp only at ho3
                        obtain rfl : n3 = rt.length := by obtain ⟨_, _, e, _⟩ := ho3.1; simp at e; exact e.2.1
                        cases a3 with
                        | none =>
                          obtain ⟨ad', cap', e, -, hm, hr⟩ := ho3.1
                          simp only [Value.slice.injEq] at e
                          obtain ⟨rfl, -, rfl⟩ := e
                          obtain rfl : rt = [] := by
                            rcases Nat.eq_zero_or_pos rt.length with h0 | h0
                            · exact List.length_eq_zero_iff.1 h0
                            · obtain ⟨_, _, e, _⟩ := hr h0; simp at e
                          obtain rfl : c3 = 0 := hm.2 rfl
                          clear hr hm ho3
                          go_wp2_with (at_builtin; refine wpList_append_own_none rfl _ _ 24 rfl (w.heap.size + 1) 3 i0 1 Try.underlying24 hi0 _ _ _ rfl hown3 rfl ?_)
                          go_roundw
                          case rel => exact ⟨re, k + 1, acc, by omega, by omega, by omega, by omega, rfl, by go_num, by rw [E4.out]; simp, hown3, hbr.step hb3⟩
                          case measure => simp [intOf]; omega
                        | some ra =>
                          have hnw := news_of_sl ho3.sl
                          clear ho3
                          go_wp2_with (at_builtin; refine wpList_append_own _ rfl _ _ 24 rfl (w.heap.size + 1) 3 i0 (.int .i64 0) 1 8 Try.underlying24 hi0 hz0 hz1 hz2 rfl (by decide) _ _ _ rfl hown3 ra rt.length c3 (rt.map (Value.int .i64)) rfl (by simp) hnw (ones_int _) (by unfold maxLen; omega) (by omega) (by have := (hbr.step hb3).size; simp at this; omega) ?_; intro v' w4 hown' hgrow _)
                          have hb4 := (hbr.step hb3).grown hgrow (fun k hk => by have := own_base hown3 k hk; simp; omega)
                          have hown2 : w4.ownsRow (w.heap.size + 1) 3 1 v' (acc ++ rt).length ((acc ++ rt).map (Value.int .i64)) := by simpa using hown'
                          go_roundw
                          case rel => exact ⟨re, k + 1, acc ++ rt, by omega, by omega, by omega, by simp; omega, rfl, by go_num, E4.out, hown2, hb4⟩
                          case measure => simp [intOf]; omega
                  · have E4 : Hid (scanF ar s.data.toList (n + 1) p = ([], q, false)) := by
                      show _ = _; rw [HSC.out, HAM.out]; exact args_nosep (by rw [hgq]; simpa using hsep)
                    by_cases hk0 : k = 0
                    · have hk1 : ((k : Int) == 0) = true := by simpa using hk0
                      have hne : (((s[q].toNat : Nat) : Int) != 40) = true := u8_ne (a := s[q]) (b := 40) (by rw [show (40 : UInt8) = sepC k from by simp [sepC, hk0]]; exact hsep)
                      clear hsep hgq hk0
                      go_wp2_with fail
                      go_ret3
                      exact ⟨_, _, _, by rw [E4.out]; rfl, by rw [E4.out]; exact OwnI.nil _ _ _, hbr.of_alloc⟩
                    · have hk1 : ((k : Int) == 0) = false := by simpa using hk0
                      have hne : (((s[q].toNat : Nat) : Int) != 44) = true := u8_ne (a := s[q]) (b := 44) (by rw [show (44 : UInt8) = sepC k from by simp [sepC, hk0]]; exact hsep)
                      clear hsep hgq hk0
                      go_wp2_with fail
                      go_ret3
                      exact ⟨_, _, _, by rw [E4.out]; rfl, by rw [E4.out]; exact OwnI.nil _ _ _, hbr.of_alloc⟩
                · have E4 : Hid (scanF ar s.data.toList (n + 1) p = ([], q, false)) := by
                    show _ = _; rw [HSC.out, HAM.out]; exact args_nosep (by rw [List.getElem?_eq_none (by omega)]; simp)
                  have hqe : ((q : Int) == s.size) = true := by rw [beq_iff_eq]; omega
                  clear hql
                  go_wp2_with fail
                  all_goals
                    go_ret3
                    exact ⟨_, _, _, by rw [E4.out]; rfl, by rw [E4.out]; exact OwnI.nil _ _ _, hbr.of_alloc⟩
              · have HAM := Lib.hid (show a - k = 0 from by omega)
                by_cases hql : q < s.size
                · have hgq := sa_get s q hql
                  by_cases hsep : s[q] = 41
                  · have E4 : Hid (scanF ar s.data.toList (n + 1) p = (acc, q + 1, true)) := by
                      show _ = _; rw [HSC.out, HAM.out]; exact args_done (by rw [hgq, hsep])
                    have hne : (((s[q].toNat : Nat) : Int) != 41) = false := by rw [hsep]; rfl
                    obtain ⟨g, m, c, hv'⟩ := own_form hown
                    subst hv'
                    clear hsep hgq
                    go_wp2_with fail
                    go_ret3
                    exact ⟨_, _, _, by rw [E4.out]; rfl, by rw [E4.out]; exact (OwnI.of_row hown).mono (by omega) (Nat.le_refl _), hbr.of_alloc⟩
                  · have E4 : Hid (scanF ar s.data.toList (n + 1) p = ([], q, false)) := by
                      show _ = _; rw [HSC.out, HAM.out]; exact args_noclose (by rw [hgq]; simpa using hsep)
                    have hne : (((s[q].toNat : Nat) : Int) != 41) = true := u8_ne (a := s[q]) (b := 41) hsep
                    clear hsep hgq
                    go_wp2_with fail
                    go_ret3
                    exact ⟨_, _, _, by rw [E4.out]; rfl, by rw [E4.out]; exact OwnI.nil _ _ _, hbr.of_alloc⟩
                · have E4 : Hid (scanF ar s.data.toList (n + 1) p = ([], q, false)) := by
                    show _ = _; rw [HSC.out, HAM.out]; exact args_noclose (by rw [List.getElem?_eq_none (by omega)]; simp)
                  have hqe : ((q : Int) == s.size) = true := by rw [beq_iff_eq]; omega
                  clear hql
                  go_wp2_with fail
                  go_ret3
                  exact ⟨_, _, _, by rw [E4.out]; rfl, by rw [E4.out]; exact OwnI.nil _ _ _, hbr.of_alloc⟩
    · have E := Lib.hid (scan_end (ar := ar) (T := s.data.toList) (f := n) (p := p) (by omega))
      rw [hsz] at E
      clear hr
      go_enter Try.func79, Try.ntmps79
      go_wp2_with fail
      go_ret3
      exact ⟨_, _, _, by rw [E.out]; rfl, by rw [E.out]; exact OwnI.nil _ _ _, Bel.alloc0 _ _⟩
end Go.Proofs.Ytoheedmjakfklaa
