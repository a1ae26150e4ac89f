/- Unify: the program's inner functions. -/
import Derived.Test.YtngdhpelnjckjaaUni2
import Derived.Test.YtngdhpelnjckjaaMatI
namespace Go.Proofs.Ytngdhpelnjckjaa
open Go.RowKit Go.Maps

theorem putFor_take (n : Int) (u t : List Int) (k : Nat) (hk : k < t.length) : putFor n u (t.take (k+1)) = putFor n u (t.take k) ++ (if t.getD k 0 = n then u else [t.getD k 0]) := by
  rw [List.take_succ_eq_append_getElem hk, putFor_append, putFor_cons, putFor_nil, List.append_nil]
  simp [List.getD, hk]

set_option maxRecDepth 100000 in
set_option maxHeartbeats 400000 in
theorem iPutFor_c (l h l' h' : Nat) (v x : Value) (t u : List Int) (n : Int) (w : World) (ht : t.length ≤ 1024) (hu40 : u.length ≤ 40) (hup : 0 < u.length) (hv : SlI l h w v t) (hx : SlI l' h' w x u) :
    Calls Try.prog 119 #[v, .int .i64 n, x] w (RetI w (putFor n u t)) := by
  obtain ⟨i0, hi0, hz0, hz1, hz2⟩ := info_parts Try.info3
  obtain ⟨ad, cap, rfl, -, -, hr⟩ := hv
  obtain ⟨pb, po, pc, rfl, hpc⟩ := hx.plain hup
  go_enter Try.func119, Try.ntmps119
  go_wp2_with fail
  go_loopw [7, 12] (fun vs i wr => ∃ k : Nat, k ≤ t.length ∧ i = .int .i64 k ∧ wr.ownsRow w.heap.size 3 1 vs (putFor n u (t.take k)).length ((putFor n u (t.take k)).map (Value.int .i64)) ∧ Bel w wr) (fun _ i _ => t.length - (intOf i).toNat)
  case atStart => exact ⟨0, Nat.zero_le _, rfl, World.ownsRow_nil _ _ _ _, Bel.rfl' _⟩
  case round =>
    obtain ⟨k, hk, rfl, hown, hb2⟩ := hrel
    by_cases hlt : k < t.length
    · obtain ⟨bt, offt, rfl, hbl, hcell⟩ := rd hr hb2 k hlt
      have hsucc := putFor_take n u t k hlt
      have hal := putFor_len (n := n) (t := t.take k) hu40 (by omega)
      have hal2 : (putFor n u (t.take k)).length ≤ 40960 := by simp at hal; omega
      clear hr hal
      generalize t.getD k 0 = m at *
      generalize putFor n u (t.take k) = acc at *
      generalize hq : putFor n u (t.take (k+1)) = nxt at *
      by_cases hm : m = n
      · subst hm
        rw [if_pos rfl] at hsucc
        have hn := news_of_sl (hx.below hb2)
        have HS := Lib.hid (And.intro hq hsucc)
        clear hq hsucc
        go_wp2_with (at_builtin; refine wpList_append_own _ rfl _ _ 24 rfl w.heap.size 3 i0 (.int .i64 0) 1 8 Try.underlying24 hi0 hz0 hz1 hz2 rfl (by decide) _ _ _ rfl hown ⟨pb, po, none⟩ u.length pc (u.map (Value.int .i64)) rfl (by simp) hn (ones_int _) (by unfold maxLen; first | omega | (simp; omega)) (by first | omega | (simp; omega)) (by have := hb2.size; first | omega | (simp; omega)) ?_; intro v' w1 hown' hgrow _)
        have hb3 := hb2.grown hgrow (fun k hk => own_base hown k hk)
        have hown2 := row_app (by simpa using hown')
        go_roundw
        case rel => exact ⟨k+1, by omega, by go_num, by rw [HS.out.1, HS.out.2]; exact hown2, hb3⟩
        case measure => simp [intOf]; omega
      · rw [if_neg hm] at hsucc
        have HS := Lib.hid (And.intro hq hsucc)
        have hm2 : (m == n) = false := by simpa using hm
        clear hq hsucc hm
        go_wp2_with (at_builtin; refine wpList_append_own _ rfl _ _ 24 rfl w.heap.size 3 i0 (.int .i64 0) 1 8 Try.underlying24 hi0 hz0 hz1 hz2 rfl (by decide) _ _ _ rfl (hown.alloc _) ⟨wr.heap.size, 0, none⟩ 1 1 [.int .i64 m] rfl rfl (news_one _ _ _) (one_int _) (by unfold maxLen; first | omega | (simp; omega)) (by first | omega | (simp; omega)) (by have := hb2.size; first | omega | (simp; omega)) ?_; intro v' w1 hown' hgrow _; have hb3 := (hb2.alloc (.cells #[.int .i64 m] 3)).grown hgrow (fun k hk => own_base hown k hk); have hown2 := row_snoc hown')
        go_roundw
        case rel => exact ⟨k+1, by omega, by go_num, by rw [HS.out.1, HS.out.2]; exact hown2, hb3⟩
        case measure => simp [intOf]; omega
    · have e : t.take k = t := List.take_of_length_le (by omega)
      rw [e] at hown
      go_wp2_with fail
      obtain ⟨g, n, c, hv'⟩ := own_form hown
      subst hv'
      go_ret
      exact ⟨_, _, _, rfl, OwnI.of_row hown, hb2⟩

def idxOf (t : List Int) (n : Int) (e : Ending) : Prop := (n ∈ t ∧ ∃ k : Nat, k < t.length ∧ e = .returned (.int .i64 k)) ∨ (n ∉ t ∧ e = .returned (.int .i64 (-1)))
set_option maxRecDepth 100000 in
set_option maxHeartbeats 400000 in
theorem slIndex_c (l h : Nat) (v : Value) (t : List Int) (n : Int) (w : World) (ht : t.length ≤ 1048576) (hv : SlI l h w v t) :
    Calls Try.prog 149 #[v, .int .i64 n] w (fun e w' => idxOf t n e ∧ Bel w w') := by
  obtain ⟨ad, cap, rfl⟩ := hv.form
  go_enter Try.func149, Try.ntmps149
  go_wp2_with fail
  go_loop [8] (fun i => ∃ k : Nat, k ≤ t.length ∧ i = .int .i64 k ∧ n ∉ t.take k) (fun i => t.length - (intOf i).toNat)
  case atStart => exact ⟨0, Nat.zero_le _, rfl, by simp⟩
  case round =>
    obtain ⟨k, hk, rfl, hn⟩ := hrel
    by_cases hlt : k < t.length
    · obtain ⟨b, off, rfl, -, hcell⟩ := hv.at k hlt
      have E1 := Lib.hid (fun h => not_take_succ hlt (n := n) h hn)
      have E2 := Lib.hid (show t.getD k 0 = n → n ∈ t from fun h => by rw [← h]; simp [List.getD, hlt])
      clear hn hv
      generalize t.getD k 0 = x at *
      by_cases hx : x = n
      · have E := Lib.hid (E2.out hx)
        subst hx
        clear E1 E2
        go_wp2_with fail
        go_ret
        exact ⟨.inl ⟨E.out, k, hlt, rfl⟩, Bel.rfl' _⟩
      · have E := Lib.hid (E1.out hx)
        have hx' : (n == x) = false := by simpa using fun h => hx h.symm
        clear hx E1 E2
        go_wp2_with fail
        go_round
        case rel => exact ⟨k+1, by omega, by go_num, E.out⟩
        case measure => simp [intOf]; omega
    · rw [List.take_of_length_le (by omega)] at hn
      have E := Lib.hid hn
      clear hn
      go_wp2_with fail
      go_ret
      exact ⟨.inr ⟨E.out, rfl⟩, Bel.rfl' _⟩
set_option maxRecDepth 100000 in
set_option maxHeartbeats 400000 in
theorem slContains_v (l h : Nat) (v : Value) (t : List Int) (n : Int) (q : Bool) (w : World) (he : decide (n ∈ t) = q) (ht : t.length ≤ 1048576) (hv : SlI l h w v t) :
    Calls Try.prog 142 #[v, .int .i64 n] w (RetV w (.bool q)) := by
  have HE := Lib.hid he
  clear he
  go_enter Try.func142, Try.ntmps142
  go_wp2_with fail
  refine (slIndex_c _ _ _ t n _ ht hv).mono ?_; rintro e w1 ⟨hi, hb⟩
  rcases hi with ⟨hm, k, hk, rfl⟩ | ⟨hm, rfl⟩
  · have hd : decide (0 ≤ (k : Int)) = true := by simp
    go_wp2_with fail
    go_ret
    exact ⟨by rw [← HE.out, decide_eq_true hm]; rfl, hb⟩
  · go_wp2_with fail
    go_ret
    exact ⟨by rw [← HE.out, decide_eq_false hm]; rfl, hb⟩
end Go.Proofs.Ytngdhpelnjckjaa
