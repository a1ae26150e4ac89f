import Derived.Test.YtnldienjkejfcaaT2
namespace Go.Proofs.Ytnldienjkejfcaa
open Go.RowKit

theorem goodSign_none (xs : List Int) (h : ¬ inB xs.length 1 10 = true) : goodSign xs = false := by simp [goodSign, h]

theorem iGoodSign_c (l h : Nat) (v : Value) (xs : List Int) (w : World) (hx : xs.length ≤ 1048576) (hv : SlI l h w v xs) :
    Calls Try.prog 59 #[.agg #[v]] w (RetV w (.bool (goodSign xs))) := by
  obtain ⟨ad, cap, rfl, -, -, hr⟩ := hv
  by_cases h1 : xs.length < 1
  · have e1 : Hid (goodSign xs = false) := goodSign_none xs (by simp [inB]; omega)
    have h1' : decide ((xs.length : Int) < 1) = true := by simp; omega
    go_enter Try.func59, Try.ntmps59
    go_wp2_with fail
    go_ret
    exact ⟨by rw [e1.out]; rfl, Bel.alloc0 _ _⟩
  · by_cases h2 : 10 < xs.length
    · have e1 : Hid (goodSign xs = false) := goodSign_none xs (by simp [inB]; omega)
      go_enter Try.func59, Try.ntmps59
      go_wp2_with fail
      go_ret
      exact ⟨by rw [e1.out]; rfl, Bel.alloc0 _ _⟩
    · obtain ⟨b, off, rfl, hlt, hcell⟩ := rd0 hr (by omega)
      have hin : inB xs.length 1 10 = true := by simp [inB]; omega
      by_cases h3 : xs.getD 0 0 = 0
      · have E3 : Hid (goodSign xs = xs.all (inB · 0 3)) := by show goodSign xs = _; unfold goodSign; rw [hin, h3]; simp
        rw [h3] at hcell
        clear h3
        go_enter Try.func59, Try.ntmps59
        go_wp2_with fail
        go_loop [25] (fun i => ∃ k : Nat, k ≤ xs.length ∧ i = .int .i64 k ∧ (xs.take k).all (inB · 0 3) = true) (fun i => xs.length - (intOf i).toNat)
        case atStart => exact ⟨0, Nat.zero_le _, rfl, by simp⟩
        case round =>
          obtain ⟨k, hk, rfl, ha⟩ := hrel
          by_cases hltk : k < xs.length
          · obtain ⟨b', off', he, hb', hcell'⟩ := rd hr (Bel.alloc0 w (.cells #[.slice (some ⟨b, off, none⟩) xs.length cap] 30)) k hltk
            simp only [Option.some.injEq, Addr.mk.injEq, and_true] at he
            obtain ⟨rfl, rfl⟩ := he
            have E1 := Lib.hid (all_split xs (inB · 0 3) k hltk ha)
            have E2 := Lib.hid (all_false xs (inB · 0 3) k hltk)
            clear hr ha
            generalize xs.getD k 0 = x at *
            by_cases hp : x < 0
            · go_wp2_with fail
              go_ret
              exact ⟨by rw [E3.out, E2.out (by simp [inB]; omega)]; rfl, Bel.alloc0 _ _⟩
            · by_cases hp2 : 3 < x
              · go_wp2_with fail
                go_ret
                exact ⟨by rw [E3.out, E2.out (by simp [inB]; omega)]; rfl, Bel.alloc0 _ _⟩
              · go_wp2_with fail
                go_round
                case rel => exact ⟨k+1, by omega, by go_num, by rw [E1.out]; simp [inB]; omega⟩
                case measure => simp [intOf]; omega
          · have HA := Lib.hid ha; clear ha
            go_wp2_with fail
            go_ret
            exact ⟨by rw [E3.out, all_done xs _ k hk hltk HA.out]; rfl, Bel.alloc0 _ _⟩
      · have e1 : Hid (goodSign xs = false) := by show goodSign xs = _; unfold goodSign; rw [beq_eq_false_iff_ne.2 h3]; simp
        have h3' : (xs.getD 0 0 != 0) = true := by simpa using h3
        clear h3
        generalize xs.getD 0 0 = x at *
        go_enter Try.func59, Try.ntmps59
        go_wp2_with fail
        go_ret
        exact ⟨by rw [e1.out]; rfl, Bel.alloc0 _ _⟩
end Go.Proofs.Ytnldienjkejfcaa
