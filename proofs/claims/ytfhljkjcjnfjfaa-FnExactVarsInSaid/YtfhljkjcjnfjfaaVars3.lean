import Derived.Test.YtfhljkjcjnfjfaaVars2
namespace Go.Proofs.Ytfhljkjcjnfjfaa
open Go.RowKit

theorem put_empty {f : Nat → Bool} {m : Nat} (hm : m < 12) (h : varsTo f 12 = []) : natsI (varsTo (setF f m) 12) = [(m : Int)] := by
  have h1 := vars_split f m hm
  rw [h] at h1
  have h2 := List.append_eq_nil_iff.1 h1.symm
  have h3 : tailF f m = [] := by
    have := h2.2
    split at this
    · simp at this
    · exact this
  rw [set_vars f m hm, h2.1, h3]; rfl
theorem put_some (f : Nat → Bool) (m : Nat) (hm : m < 12) : 0 < (varsTo (setF f m) 12).length := by rw [set_vars f m hm]; simp; omega

theorem l1Put_z (z : Int) (lo : Nat) (v : Value) (f : Nat → Bool) (m : Nat) (w : World) (hz : z = m) (hm : m < 12) (hlo : lo ≤ w.heap.size) (hnz : 0 < (varsTo f 12).length) (hv : OwnI lo w.heap.size w v (natsI (varsTo f 12))) :
    Calls Try.prog 118 #[v, .int .i64 z] w (RetO lo w (natsI (varsTo (setF f m) 12))) := by subst hz; exact l1Put_c lo v f m w hm hlo hnz hv
theorem l1Put_nz (z : Int) (m : Nat) (w : World) (hz : z = m) : Calls Try.prog 118 #[.slice none 0 0, .int .i64 z] w (RetR w [(m : Int)]) := by subst hz; exact l1Put_nil m w

/-- A row of ints of the call's own. -/
abbrev RowI (lo : Nat) (w : World) (v : Value) (xs : List Int) : Prop := w.ownsRow lo 3 1 v xs.length (xs.map (Value.int .i64))
theorem RowI.mono {lo lo' : Nat} {w : World} {v : Value} {xs : List Int} (h : RowI lo w v xs) (hl : lo' ≤ lo) : RowI lo' w v xs := by
  refine ⟨h.1, ?_⟩
  rcases h.2 with h0 | ⟨g, cap, cur, e1, e2, r⟩
  · exact .inl h0
  · exact .inr ⟨g, cap, cur, e1, Nat.le_trans hl e2, r⟩
theorem l1Put_q (z : Int) (lo : Nat) (v : Value) (f : Nat → Bool) (m : Nat) (w : World) (hz : z = m) (hm : m < 12) (hlo : lo ≤ w.heap.size) (hnz : 0 < (varsTo f 12).length) (hv : RowI lo w v (natsI (varsTo f 12))) :
    Calls Try.prog 118 #[v, .int .i64 z] w (fun e w' => ∃ ad n c, e = .returned (.slice ad n c) ∧ RowI lo w' (.slice ad n c) (natsI (varsTo (setF f m) 12)) ∧ Bel w w') := by
  subst hz
  refine (l1Put_p lo v f m w hm hlo hnz (OwnI.of_row hv)).mono ?_
  rintro e w' ⟨ad, n, c, rfl, h, hb⟩
  refine ⟨ad, n, c, rfl, ?_, hb⟩
  rcases h with ⟨rfl, h2⟩ | h
  · rw [h2]; exact ownsRow_bel hv hb
  · exact RowI.mono h hlo

set_option maxRecDepth 100000 in
set_option maxHeartbeats 300000 in
theorem l1Vars_r (l h : Nat) (v : Value) (t : List Int) (w : World) (ht : t.length ≤ 1048576) (hlow : ∀ k, k < t.length → -12 ≤ t.getD k 0) (hv : SlI l h w v t) :
    Calls Try.prog 117 #[v] w (RetR w (natsI (varsTo (mk t) 12))) := by
  obtain ⟨ad, cap, rfl, -, -, hr⟩ := hv
  go_enter Try.func117, Try.ntmps117
  go_wp2_with fail
  go_loopw [3, 8] (fun o i wr => ∃ k : Nat, k ≤ t.length ∧ i = .int .i64 k ∧ RowI w.heap.size wr o (natsI (varsTo (mk (t.take k)) 12)) ∧ (varsTo (mk (t.take k)) 12 = [] → o = .slice none 0 0) ∧ Bel w wr) (fun _ i _ => t.length - (intOf i).toNat)
  case atStart =>
    have e : varsTo (mk (t.take 0)) 12 = [] := by
      unfold varsTo; rw [List.filter_eq_nil_iff]; intro a _; simp [mk]
    exact ⟨0, Nat.zero_le _, rfl, by rw [e]; exact World.ownsRow_nil _ _ _ _, fun _ => rfl, Bel.rfl' _⟩
  case round =>
    obtain ⟨k, hk, rfl, hown, hnil, hb⟩ := hrel
    by_cases hlt : k < t.length
    · obtain ⟨b, off, rfl, -, hcell⟩ := rd hr hb k hlt
      have hx12 := hlow k hlt
      have E1 := Lib.hid (fun m => mk_step t k m hlt)
      have E2 := Lib.hid (mk_skip t k hlt)
      clear hr hlow
      generalize t.getD k 0 = x at *
      by_cases hx : x < 0
      · obtain ⟨m, hm⟩ : ∃ m : Nat, -1 - x = m := ⟨(-1 - x).toNat, by omega⟩
        have hm12 : m < 12 := by omega
        have E3 : Hid (mk (t.take (k+1)) = setF (mk (t.take k)) m) := by show _ = _; rw [← E1.out m (by omega)]; rfl
        have HM := Lib.hid hm; clear hm
        cases hl : varsTo (mk (t.take k)) 12 with
        | nil =>
          have ho := hnil hl
          have E4 := Lib.hid (put_empty hm12 hl)
          have E5 := Lib.hid (put_some (mk (t.take k)) m hm12)
          subst ho
          clear hown hnil hl
          go_wp2_with fail
          refine (l1Put_nz (-1 - x) m _ HM.out).mono ?_; rintro e w1 ⟨a1, n1, c1, rfl, ho1, hb1⟩
          go_wp2_with fail
          go_roundw
          case rel => exact ⟨k+1, by omega, by go_num, by rw [E3.out, E4.out]; exact RowI.mono ho1 hb.size, fun h => by rw [E3.out] at h; have := E5.out; rw [h] at this; simp at this, hb.step hb1⟩
          case measure => simp [intOf]; omega
        | cons y ys =>
          have hpos : 0 < (varsTo (mk (t.take k)) 12).length := by rw [hl]; simp
          have E5 := Lib.hid (put_some (mk (t.take k)) m hm12)
          have HO := Lib.hid hown
          clear hown hnil hl
          go_wp2_with fail
          refine (l1Put_q (-1 - x) w.heap.size _ (mk (t.take k)) m _ HM.out hm12 hb.size hpos HO.out).mono ?_; rintro e w1 ⟨a1, n1, c1, rfl, ho1, hb1⟩
          go_wp2_with fail
          go_roundw
          case rel => exact ⟨k+1, by omega, by go_num, by rw [E3.out]; exact ho1, fun h => by rw [E3.out] at h; have := E5.out; rw [h] at this; simp at this, hb.step hb1⟩
          case measure => simp [intOf]; omega
      · have HO := Lib.hid hown
        have HN := Lib.hid hnil
        clear hown hnil
        go_wp2_with fail
        go_roundw
        case rel => exact ⟨k+1, by omega, by go_num, by rw [← E2.out (by omega)]; exact HO.out, by rw [← E2.out (by omega)]; exact HN.out, hb⟩
        case measure => simp [intOf]; omega
    · rw [show t.take k = t from List.take_of_length_le (by omega)] at hown
      obtain ⟨g, n, c2, hv'⟩ := own_form hown
      subst hv'
      have HO := Lib.hid hown
      clear hown hnil
      go_wp2_with fail
      go_ret
      exact ⟨_, _, _, rfl, HO.out, hb⟩
theorem l1Vars_c (l h : Nat) (v : Value) (t : List Int) (w : World) (ht : t.length ≤ 1048576) (hlow : ∀ k, k < t.length → -12 ≤ t.getD k 0) (hv : SlI l h w v t) :
    Calls Try.prog 117 #[v] w (RetI w (natsI (varsTo (mk t) 12))) := (l1Vars_r l h v t w ht hlow hv).mono fun _ _ h => h.i
end Go.Proofs.Ytfhljkjcjnfjfaa
