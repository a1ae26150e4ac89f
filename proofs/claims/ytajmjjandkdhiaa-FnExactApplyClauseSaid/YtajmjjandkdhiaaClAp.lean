/- Chapter 4, the program: ApplyClause. -/
import Derived.Test.YtajmjjandkdhiaaClW
import Derived.Test.YtajmjjandkdhiaaApply3
import Derived.Test.YtajmjjandkdhiaaRwO
import Derived.Test.YtajmjjandkdhiaaRen2
namespace Go.Proofs.Ytajmjjandkdhiaa
open Go.RowKit

set_option maxRecDepth 100000 in
set_option maxHeartbeats 1000000 in
theorem appliedClause_c (l h l' h' : Nat) (v u : Value) (b : List (List Int)) (c : List Lt) (w : World) (hlen : b.length = 12) (hb40 : lens40 b) (hx : c.length ≤ 1048576) (ht : ∀ t ∈ flatC c, t.length ≤ 1024 ∧ ∀ k, k < t.length → -12 ≤ t.getD k 0) (hu : SlS l' h' w u b) (hv : SlC l h w v c) (q : Bool) (r : List Lt) (hq : (flatC c).all (app40ok b) = q) (hr : (if q then applyC b c else []) = r) :
    Calls Try.prog 79 #[u, v] w (RetCB w r q) := by
  obtain ⟨i1, hi1, hy0, hy1, hy2⟩ := info_parts Try.info24
  obtain ⟨ad, cap, rfl⟩ := hv.form
  obtain ⟨au, cu, rfl⟩ := hu.form
  have HQ := Lib.hid hq
  have HR := Lib.hid hr
  have HLEN := Lib.hid hlen
  clear hq hr hlen
  go_enter Try.func79, Try.ntmps79
  go_wp2_with fail
  refine (termsIn_c l h _ c _ hx hv).mono ?_; rintro e w1 ⟨a1, n1, c1, rfl, hrow, hb1⟩
  have hs := hrow.sls hb1
  have hfl := flatC_len c
  have hn1 : n1 = (flatC c).length := by obtain ⟨_, _, e⟩ := hs.form; simp only [Value.slice.injEq] at e; exact e.2.1
  subst hn1
  have HZM : Hid (applyC b c = zipC c ((flatC c).map (appT b))) := by show _ = _; rw [zipC_map]; rfl
  have HFL : Hid ((flatC c).length = 2 * c.length) := hfl
  have hl2 : (flatC c).length ≤ 2097152 := by omega
  have HV1 := hv.below hb1
  have HU1 := hu.below hb1
  clear hfl hrow hv hu
  generalize flatC c = L at *
  go_wp2_with fail
  go_loopw [6, 14] (fun o i wr => ∃ k : Nat, k ≤ L.length ∧ i = .int .i64 k ∧ RowO w1.heap.size wr o ((L.take k).map (appT b)) ∧ (∀ t ∈ L.take k, app40ok b t = true) ∧ Bel w1 wr) (fun _ i _ => L.length - (intOf i).toNat)
  case atStart => exact ⟨0, Nat.zero_le _, rfl, RowO.nil _ _, fun t h => by simp at h, Bel.rfl' _⟩
  case round =>
    obtain ⟨k, hk, rfl, hro, hall, hb⟩ := hrel
    by_cases hlt : k < L.length
    · obtain ⟨b1, o1, u1, rfl, hbs, c1, s1⟩ := hs.at hb k hlt
      obtain ⟨ht1, ht2⟩ := ht _ (getD_mem L [] k hlt)
      have HTK : Hid (L.take (k+1) = L.take k ++ [L.getD k []]) := by show _ = _; rw [List.take_succ_eq_append_getElem hlt]; simp [List.getD, hlt]
      have hmem := getD_mem L [] k hlt
      have hin1 : (k : Int) < L.length := by omega
      generalize L.getD k [] = t at *
      obtain ⟨x1, y1, rfl⟩ := s1.form
      cases hok : app40ok b t with
      | false =>
        have hno : 40 < (appT b t).length := by simpa [app40ok] using hok
        obtain ⟨e1, e2⟩ := app40_no hno
        have HC := applied_c _ _ _ _ _ _ b t wr HLEN.out hb40 ht1 ht2 (HU1.below hb) s1
        rw [e1, e2] at HC
        have HCC := Lib.hid HC
        have hqf : q = false := by
          rw [← HQ.out]; rw [List.all_eq_false]; exact ⟨t, hmem, by simp [hok]⟩
        subst hqf
        have hr0 : r = [] := by rw [← HR.out]; rfl
        subst hr0
        clear hs HC e1 e2 s1 hro hall hno ht
        go_wp2_with fail
        refine HCC.out.mono ?_; rintro e w2 ⟨a2, n2, c2, rfl, ho2, hb2⟩
        go_wp2_with fail
        go_ret2
        exact ⟨_, _, _, rfl, OwnC.nil _ _ _, (hb1.step hb).step hb2⟩
      | true =>
        have hno : ¬ 40 < (appT b t).length := by simpa [app40ok] using hok
        obtain ⟨e1, e2⟩ := app40_yes hno
        have HC := applied_c _ _ _ _ _ _ b t wr HLEN.out hb40 ht1 ht2 (HU1.below hb) s1
        rw [e1, e2] at HC
        have HCC := Lib.hid HC
        have HAL := Lib.hid hall
        have HRO := Lib.hid hro
        have HOK := Lib.hid hok
        have hbz := hb.size
        have HT := Lib.hid ht
        clear hs HC e1 e2 s1 hro hall hno hok ht hmem
        go_wp2_with fail
        refine HCC.out.mono ?_; rintro e w2 ⟨a2, n2, c2, rfl, ho2, hb2⟩
        have hAl := Bel.alloc0 w2 (.cells #[.slice a2 n2 c2] 24)
        obtain ⟨us, hown, hul, hnext⟩ := HRO.out.step hb2 hAl ho2 hbz
        have hkl : us.length = k := by rw [hul]; simp; omega
        have HN := Lib.hid hnext
        clear hnext
        go_wp2_with (at_builtin; refine wpList_append_own_at _ rfl _ _ 52 rfl w1.heap.size 24 i1 (.slice none 0 0) 1 24 Try.underlying52 hi1 hy0 hy1 hy2 rfl (by decide) _ _ _ rfl hown _ _ _ [.slice a2 n2 c2] rfl rfl (news_oneV _ _ _) (one_slice _ _ _) (by unfold maxLen; omega) (by omega) (by have := hb2.size; simp; omega) ?_; intro v' w4 hown' hgrow _ hat)
        have hR4 := HN.out w4 v' hown' hgrow hat
        have hB4 := ((hb.step hb2).step hAl).grown hgrow (fun x hx => own_base hown x hx)
        go_roundw
        case rel =>
          refine ⟨k+1, by omega, by go_num, by rw [HTK.out, List.map_append]; exact hR4, fun t' h => ?_, hB4⟩
          rw [HTK.out] at h
          rcases List.mem_append.1 h with h | h
          · exact HAL.out t' h
          · simp at h; subst h; exact HOK.out
        case measure => simp [intOf]; omega
    · have ek : L.take k = L := List.take_of_length_le (by omega)
      rw [ek] at hro hall
      have hqt : q = true := by rw [← HQ.out, List.all_eq_true]; exact hall
      subst hqt
      have hr1 : applyC b c = r := HR.out
      subst hr1
      obtain ⟨a5, c5, e5⟩ := hro.form
      rw [List.length_map] at e5
      subst e5
      have hin1 : ¬ (k : Int) < L.length := by omega
      have hw := withTerms_c _ _ _ _ _ _ c (L.map (appT b)) wr hx (by rw [List.length_map]; exact HFL.out) hb.size (Nat.le_refl _) (HV1.below hb) hro.own
      rw [← HZM.out] at hw
      have HW := Lib.hid hw
      clear hs hro hall hw HV1 HU1 ht
      go_wp2_with fail
      refine HW.out.mono ?_; rintro e w2 ⟨a2, n2, c2, rfl, ho2, hb2⟩
      go_wp2_with fail
      go_ret2
      exact ⟨_, _, _, rfl, ho2.mono hb1.size (Nat.le_refl _), (hb1.step hb).step hb2⟩
end Go.Proofs.Ytajmjjandkdhiaa
