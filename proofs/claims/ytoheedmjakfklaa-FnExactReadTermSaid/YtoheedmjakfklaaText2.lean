import Derived.Test.YtoheedmjakfklaaText
namespace Go.Proofs.Ytoheedmjakfklaa
open Go.RowKit

theorem letter_u8_neg (x : Int) (h : x < 0) : (⟨#[UInt8.ofNat ((65 + (-1 - x)) : Int).toNat]⟩ : ByteArray).data.toList = [letter x] := by simp [letter, h]
theorem letter_u8_pos : ∀ k : Nat, k < 10 → (97 + UInt8.ofNat k) = letter (k : Int) := by decide +kernel

set_option maxRecDepth 100000 in
set_option maxHeartbeats 2000000 in
theorem l1TermText_c (l h l' h' : Nat) (v u : Value) (ar t : List Int) (hg : goodSign ar = true) (hok : okTerm ar t = true) :
    ∀ (n i : Nat) (w : World), t.length - i ≤ n → i < t.length → SlI l h w v ar → SlI l' h' w u t → Calls Try.prog 77 #[.agg #[v], u, .int .i64 i] w (RetT w (textAt ar t i)) := by
  intro n
  induction n with
  | zero => intro i w hn hi; omega
  | succ n ih =>
    intro i w hn hi hv hu
    have IH := Lib.hid ih; clear ih
    have hv0 := hv; have hu0 := hu
    obtain ⟨ad, cap, rfl, -, -, hr⟩ := hv
    obtain ⟨ad', cap', rfl, -, -, hr'⟩ := hu
    have E := Lib.hid (textAt_eq ar t hok i hi)
    have HA := Lib.hid (argsOf_bd ar t hok i hi)
    have hal : (argsOf ar t i).length ≤ 3 := by rw [argsOf_len]; exact arOf_le ar hg _
    have HL := Lib.hid (acc_le ar t hok i hi)
    have HT := Lib.hid (textAt_le ar t hok)
    have htl := ((okTerm_iff ar t).1 hok).2.1
    have hsym := good_sym ar t hok i hi
    have hlen2 := argsOf_len (ar := ar) (t := t) (i := i)
    have hE := argsOf_neg (ar := ar) (t := t) (i := i)
    have hargs := fun w a b => l1Args_c l h l' h' (.slice ad ar.length cap) (.slice ad' t.length cap') ar t i w hg hok hi a b
    obtain ⟨b', off', rfl, hbl, hcell'⟩ := rd hr' (Bel.rfl' w) i hi
    have hk := fun n : Int => conv1 (w.alloc (.cells #[.slice ad ar.length cap] 26)) (w.heap.size + 1) n (by simp)
    generalize t.getD i 0 = x at *
    by_cases hx : x < 0
    · have hx2 : -12 ≤ x := by simp [okSym, inB] at hsym; omega
      have E2 : Hid (textAt ar t i = [letter x]) := by show _ = _; rw [E.out, hE hx]; simp [accT]
      clear E hE hlen2 hargs hal HL HA hsym
      go_enter Try.func77, Try.ntmps77
      go_wp2_with fail
      go_ret
      exact ⟨_, rfl, by rw [E2.out]; exact letter_u8_neg x hx, Bel.alloc2 _ _ _⟩
    · obtain ⟨kk, rfl⟩ : ∃ k : Nat, x = k := ⟨x.toNat, by omega⟩
      have hkk := okSym_lt hsym
      obtain ⟨b, off, rfl, hbl2, hcell⟩ := rd hr (Bel.rfl' w) kk hkk
      have hn := ar_nonneg ar hg kk
      rw [arOf_nat] at hlen2
      have hlen := sign_len ar hg
      have hkk2 : (kk : Int) < ar.length := by omega
      have hkk10 : kk < 10 := by omega
      have HARGS := Lib.hid hargs
      clear hr hr' hsym hE hargs
      generalize argsOf ar t i = args at *
      generalize ar.getD kk 0 = q at *
      go_enter Try.func77, Try.ntmps77
      go_wp2_with fail
      refine (HARGS.out _ ((hv0.alloc _).alloc _) ((hu0.alloc _).alloc _)).mono ?_; rintro e w1 ⟨ad1, m, c, rfl, ho, hb⟩
      obtain ⟨ad2, cap2, e, -, -, hr1⟩ := ho.1
      simp only [Value.slice.injEq] at e
      obtain ⟨rfl, rfl, rfl⟩ := e
      rw [natsI_len] at hr1 ⊢
      have hb0 : Bel (w.alloc (.cells #[.slice (some ⟨b, off, none⟩) ar.length cap] 26)) w1 := hb.of_alloc
      have HL1 := Lib.hid (letter_u8_pos kk hkk10)
      clear hk
      go_wp2_with fail
      go_loopw [7, 37] (fun o j wr => ∃ (k : Nat) (A : ByteArray), k ≤ args.length ∧ j = .int .i64 k ∧ o = .string A ∧ A.data.toList = letter (kk : Int) :: accT (textAt ar t) args k ∧ Bel (w.alloc (.cells #[.slice (some ⟨b, off, none⟩) ar.length cap] 26)) wr ∧ Bel w1 wr) (fun _ j _ => args.length - (intOf j).toNat)
      case atStart => exact ⟨0, _, Nat.zero_le _, rfl, rfl, congrArg (fun z => [z]) HL1.out, hb0, Bel.rfl' _⟩
      case round =>
        obtain ⟨k, A, hk, rfl, rfl, hA, hbr, hbw⟩ := hrel
        have hbox := boxc hbr 0 _ rfl
        have hAs : A.size ≤ 120 := by
          have := HL.out k hk
          rw [ba_size, hA, List.length_cons]; omega
        have HAA := Lib.hid hA; clear hA
        by_cases hlt : k < args.length
        · obtain ⟨b3, off3, e2, -, -, hc⟩ := hr1 (by omega)
          subst e2
          have hcell3 := (hbw.cell (p := ⟨b3, off3 + k, none⟩) (World.block_lt_of_cell? w1 ⟨b3, off3 + k, none⟩ (hc k hlt))).trans (hc k hlt)
          rw [natsI_get _ _ hlt] at hcell3
          have hmem : args.getD k 0 ∈ args := by simp [List.getD, hlt]
          have hab := HA.out _ hmem
          have ES : Hid (accT (textAt ar t) args (k + 1) = accT (textAt ar t) args k ++ (sepB k :: textAt ar t (args.getD k 0))) := rfl
          have hBs := HT.out (args.getD k 0) hab.2
          clear hr1 hc hmem
          generalize args.getD k 0 = a at *
          by_cases hk0 : k = 0
          · have hk0' : ((k : Int) == 0) = true := by simpa using hk0
            have HK0 := Lib.hid hk0; clear hk0
            go_wp2_with fail
            refine (IH.out a _ (by omega) hab.2 (hv0.below hbr.of_alloc) (hu0.below hbr.of_alloc)).mono ?_; rintro e w2 ⟨B, rfl, hB, hb2⟩
            have hBs2 : B.size ≤ 120 := by rw [ba_size, hB]; exact hBs
            have HB := Lib.hid hB; clear hB
            go_wp2_with fail
            go_roundw
            case rel => exact ⟨k + 1, _, by omega, by go_num, rfl, by rw [ba_app, ba_app, HAA.out, HB.out, ES.out, HK0.out]; simp [sepB, accT], hbr.step hb2, hbw.step hb2⟩
            case measure => simp [intOf]; omega
          · have hk0' : ((k : Int) == 0) = false := by simpa using hk0
            have HK0 := Lib.hid hk0; clear hk0
            go_wp2_with fail
            refine (IH.out a _ (by omega) hab.2 (hv0.below hbr.of_alloc) (hu0.below hbr.of_alloc)).mono ?_; rintro e w2 ⟨B, rfl, hB, hb2⟩
            have hBs2 : B.size ≤ 120 := by rw [ba_size, hB]; exact hBs
            have HB := Lib.hid hB; clear hB
            go_wp2_with fail
            go_roundw
            case rel => exact ⟨k + 1, _, by omega, by go_num, rfl, by rw [ba_app, ba_app, HAA.out, HB.out, ES.out]; simp [sepB, HK0.out], hbr.step hb2, hbw.step hb2⟩
            case measure => simp [intOf]; omega
        · have hkl : Hid (k = args.length) := by show _ = _; omega
          have hcx := hbr.of_alloc.at hbl2 hcell
          have hcx' := hbr.of_alloc.at hbl hcell'
          have hi2 : (i : Int) < t.length := by omega
          by_cases hq : 0 < q
          · have E3 : Hid ((if args.length = 0 then ([] : List UInt8) else [41]) = [41]) := if_neg (by omega)
            go_wp2_with fail
            go_quiet (fail)
            go_wp2_with fail
            go_ret
            exact ⟨_, rfl, by rw [ba_app, HAA.out, E.out, E3.out, hkl.out]; simp, hbr.of_alloc.drewN _⟩
          · have E3 : Hid ((if args.length = 0 then ([] : List UInt8) else [41]) = []) := if_pos (by omega)
            go_wp2_with fail
            go_quiet (fail)
            go_wp2_with fail
            go_ret
            exact ⟨_, rfl, by rw [E.out, E3.out, ← hkl.out]; simpa using HAA.out, hbr.of_alloc.drewN _⟩
end Go.Proofs.Ytoheedmjakfklaa
