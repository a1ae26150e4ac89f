/- Texts merged, part 11. -/
import Derived.Test.YteegjnobmbcjiaaGreatDoorMgFactor10
section
/- Match: the program's. -/
namespace Go.Proofs.YteegjnobmbcjiaaGreatDoor
open Go.RowKit Go.Maps

def RetAg (b m : Nat) (f : Nat → Option Value) (v : Nat) (x : Value) (q : Bool) (w : World) (e : Ending) (w' : World) : Prop := e = .returned (.bool q) ∧ MapV w' b (m+1) (upd f v (some x)) ∧ Chg b (b+1) w w'
/-- What the map holds, told by terms. -/
def Holds (w : World) (f : Nat → Option Value) (F : Nat → List Int) : Prop := ∀ v, v < 12 → (F v).length ≤ 40 ∧ ((F v = [] ∧ f v = none) ∨ (F v ≠ [] ∧ ∃ u lo hi, f v = some u ∧ SlI lo hi w u (F v)))
theorem Holds.start (w : World) : Holds w (fun _ => none) (fun _ => []) := fun v _ => ⟨by simp, .inl ⟨rfl, rfl⟩⟩
theorem Holds.bel {w w' : World} {f : Nat → Option Value} {F : Nat → List Int} (h : Holds w f F) (hb : Bel w w') : Holds w' f F := fun v hv => ⟨(h v hv).1, (h v hv).2.imp id fun ⟨a, u, lo, hi, e, s⟩ => ⟨a, u, lo, hi, e, s.below hb⟩⟩
theorem Holds.chg {w w' : World} {f : Nat → Option Value} {F : Nat → List Int} {b m : Nat} {f' : Nat → Option Value} (h : Holds w f F) (hM : MapV w b m f') (k : Chg b (b+1) w w') : Holds w' f F :=
  fun v hv => ⟨(h v hv).1, (h v hv).2.imp id fun ⟨a, u, lo, hi, e, s⟩ => ⟨a, u, lo, hi, e, s.chgMap hM k⟩⟩
theorem Holds.put {w : World} {f : Nat → Option Value} {F : Nat → List Int} (h : Holds w f F) (v : Nat) (x : Value) (t : List Int) (lo hi : Nat) (ht : t.length ≤ 40) (hp : 0 < t.length) (hx : SlI lo hi w x t) : Holds w (upd f v (some x)) (upd F v t) := by
  intro i hi'
  by_cases e : i = v
  · subst e
    rw [upd_same, upd_same]
    exact ⟨ht, .inr ⟨by intro h; rw [h] at hp; simp at hp, x, lo, hi, rfl, hx⟩⟩
  · rw [upd_other _ _ e, upd_other _ _ e]; exact h i hi'
theorem Holds.sub {w : World} {f : Nat → Option Value} {F : Nat → List Int} (h : Holds w f F) : ∀ v, v < 12 → (F v).length ≤ 1048576 ∧ ∃ lo hi, SlI lo hi w ((f v).getD (.slice none 0 0)) (F v) := by
  intro v hv
  obtain ⟨h1, h2⟩ := h v hv
  refine ⟨by omega, ?_⟩
  rcases h2 with ⟨e1, e2⟩ | ⟨_, u, lo, hi, e, s⟩
  · rw [e1, e2]; exact ⟨0, 0, SlI.nil 0 0 w⟩
  · rw [e]; exact ⟨lo, hi, s⟩

theorem Holds.same {w w' : World} {f : Nat → Option Value} {F : Nat → List Int} (h : Holds w f F) (k : ∀ lo hi u xs, SlI lo hi w u xs → SlI lo hi w' u xs) : Holds w' f F :=
  fun v hv => ⟨(h v hv).1, (h v hv).2.imp id fun ⟨a, u, lo, hi, e, s⟩ => ⟨a, u, lo, hi, e, k lo hi u _ s⟩⟩
/-- What a match leaves behind: the map of the found terms has been written, and nothing else. -/
def RetMt (b m : Nat) (R : Option (Nat → List Int)) (w : World) (e : Ending) (w' : World) : Prop :=
  ∃ m' f', e = .returned (.bool R.isSome) ∧ m ≤ m' ∧ m' ≤ m + 40 ∧ MapV w' b m' f' ∧ Chg b (b+1) w w' ∧ ∀ G, R = some G → Holds w' f' G

end Go.Proofs.YteegjnobmbcjiaaGreatDoor
end
section
/- Unify: the program's inner functions. -/
namespace Go.Proofs.YteegjnobmbcjiaaGreatDoor
open Go.RowKit Go.Maps

theorem putFor_take (n : Int) (u t : List Int) (k : Nat) (hk : k < t.length) : putFor n u (t.take (k+1)) = putFor n u (t.take k) ++ (if t.getD k 0 = n then u else [t.getD k 0]) := by
  rw [List.take_succ_eq_append_getElem hk, putFor_append, putFor_cons, putFor_nil, List.append_nil]
  simp [List.getD, hk]

set_option maxRecDepth 100000 in
set_option maxHeartbeats 400000 in
theorem iPutFor_c (l h l' h' : Nat) (v x : Value) (t u : List Int) (n : Int) (w : World) (ht : t.length ≤ 1024) (hu40 : u.length ≤ 40) (hup : 0 < u.length) (hv : SlI l h w v t) (hx : SlI l' h' w x u) :
    Calls Tryz.prog 113 #[v, .int .i64 n, x] w (RetI w (putFor n u t)) := by
  obtain ⟨i0, hi0, hz0, hz1, hz2⟩ := info_parts Tryz.info3
  obtain ⟨ad, cap, rfl, -, -, hr⟩ := hv
  obtain ⟨pb, po, pc, rfl, hpc⟩ := hx.plain hup
  go_enter Tryz.func113, Tryz.ntmps113
  go_wp2_with fail
  go_loopw [7, 12] (fun vs i wr => ∃ k : Nat, k ≤ t.length ∧ i = .int .i64 k ∧ wr.ownsRow w.heap.size 3 1 vs (putFor n u (t.take k)).length ((putFor n u (t.take k)).map (Value.int .i64)) ∧ Bel w wr) (fun _ i _ => t.length - (intOf i).toNat)
  case atStart => exact ⟨0, Nat.zero_le _, rfl, World.ownsRow_nil _ _ _ _, Bel.rfl' _⟩
  case round =>
    obtain ⟨k, hk, rfl, hown, hb2⟩ := hrel
    by_cases hlt : k < t.length
    · obtain ⟨bt, offt, rfl, hbl, hcell⟩ := rd hr hb2 k hlt
      have hsucc := putFor_take n u t k hlt
      have hal := putFor_len (n := n) (t := t.take k) hu40 (by omega)
      have hal2 : (putFor n u (t.take k)).length ≤ 40960 := by simp at hal; omega
      clear hr hal
      generalize t.getD k 0 = m at *
      generalize putFor n u (t.take k) = acc at *
      generalize hq : putFor n u (t.take (k+1)) = nxt at *
      by_cases hm : m = n
      · subst hm
        rw [if_pos rfl] at hsucc
        have hn := news_of_sl (hx.below hb2)
        have HS := Lib.hid (And.intro hq hsucc)
        clear hq hsucc
        go_wp2_with (at_builtin; refine wpList_append_own _ rfl _ _ 22 rfl w.heap.size 3 i0 (.int .i64 0) 1 8 Tryz.underlying22 hi0 hz0 hz1 hz2 rfl (by decide) _ _ _ rfl hown ⟨pb, po, none⟩ u.length pc (u.map (Value.int .i64)) rfl (by simp) hn (ones_int _) (by unfold maxLen; first | omega | (simp; omega)) (by first | omega | (simp; omega)) (by have := hb2.size; first | omega | (simp; omega)) ?_; intro v' w1 hown' hgrow _)
        have hb3 := hb2.grown hgrow (fun k hk => own_base hown k hk)
        have hown2 := row_app (by simpa using hown')
        go_roundw
        case rel => exact ⟨k+1, by omega, by go_num, by rw [HS.out.1, HS.out.2]; exact hown2, hb3⟩
        case measure => simp [intOf]; omega
      · rw [if_neg hm] at hsucc
        have HS := Lib.hid (And.intro hq hsucc)
        have hm2 : (m == n) = false := by simpa using hm
        clear hq hsucc hm
        go_wp2_with (at_builtin; refine wpList_append_own _ rfl _ _ 22 rfl w.heap.size 3 i0 (.int .i64 0) 1 8 Tryz.underlying22 hi0 hz0 hz1 hz2 rfl (by decide) _ _ _ rfl (hown.alloc _) ⟨wr.heap.size, 0, none⟩ 1 1 [.int .i64 m] rfl rfl (news_one _ _ _) (one_int _) (by unfold maxLen; first | omega | (simp; omega)) (by first | omega | (simp; omega)) (by have := hb2.size; first | omega | (simp; omega)) ?_; intro v' w1 hown' hgrow _; have hb3 := (hb2.alloc (.cells #[.int .i64 m] 3)).grown hgrow (fun k hk => own_base hown k hk); have hown2 := row_snoc hown')
        go_roundw
        case rel => exact ⟨k+1, by omega, by go_num, by rw [HS.out.1, HS.out.2]; exact hown2, hb3⟩
        case measure => simp [intOf]; omega
    · have e : t.take k = t := List.take_of_length_le (by omega)
      rw [e] at hown
      go_wp2_with fail
      obtain ⟨g, n, c, hv'⟩ := own_form hown
      subst hv'
      go_ret
      exact ⟨_, _, _, rfl, OwnI.of_row hown, hb2⟩

def idxOf (t : List Int) (n : Int) (e : Ending) : Prop := (n ∈ t ∧ ∃ k : Nat, k < t.length ∧ e = .returned (.int .i64 k)) ∨ (n ∉ t ∧ e = .returned (.int .i64 (-1)))
set_option maxRecDepth 100000 in
set_option maxHeartbeats 400000 in
theorem slIndex_c (l h : Nat) (v : Value) (t : List Int) (n : Int) (w : World) (ht : t.length ≤ 1048576) (hv : SlI l h w v t) :
    Calls Tryz.prog 154 #[v, .int .i64 n] w (fun e w' => idxOf t n e ∧ Bel w w') := by
  obtain ⟨ad, cap, rfl⟩ := hv.form
  go_enter Tryz.func154, Tryz.ntmps154
  go_wp2_with fail
  go_loop [8] (fun i => ∃ k : Nat, k ≤ t.length ∧ i = .int .i64 k ∧ n ∉ t.take k) (fun i => t.length - (intOf i).toNat)
  case atStart => exact ⟨0, Nat.zero_le _, rfl, by simp⟩
  case round =>
    obtain ⟨k, hk, rfl, hn⟩ := hrel
    by_cases hlt : k < t.length
    · obtain ⟨b, off, rfl, -, hcell⟩ := hv.at k hlt
      have E1 := Lib.hid (fun h => not_take_succ hlt (n := n) h hn)
      have E2 := Lib.hid (show t.getD k 0 = n → n ∈ t from fun h => by rw [← h]; simp [List.getD, hlt])
      clear hn hv
      generalize t.getD k 0 = x at *
      by_cases hx : x = n
      · have E := Lib.hid (E2.out hx)
        subst hx
        clear E1 E2
        go_wp2_with fail
        go_ret
        exact ⟨.inl ⟨E.out, k, hlt, rfl⟩, Bel.rfl' _⟩
      · have E := Lib.hid (E1.out hx)
        have hx' : (n == x) = false := by simpa using fun h => hx h.symm
        clear hx E1 E2
        go_wp2_with fail
        go_round
        case rel => exact ⟨k+1, by omega, by go_num, E.out⟩
        case measure => simp [intOf]; omega
    · rw [List.take_of_length_le (by omega)] at hn
      have E := Lib.hid hn
      clear hn
      go_wp2_with fail
      go_ret
      exact ⟨.inr ⟨E.out, rfl⟩, Bel.rfl' _⟩
set_option maxRecDepth 100000 in
set_option maxHeartbeats 400000 in
theorem slContains_v (l h : Nat) (v : Value) (t : List Int) (n : Int) (q : Bool) (w : World) (he : decide (n ∈ t) = q) (ht : t.length ≤ 1048576) (hv : SlI l h w v t) :
    Calls Tryz.prog 140 #[v, .int .i64 n] w (RetV w (.bool q)) := by
  have HE := Lib.hid he
  clear he
  go_enter Tryz.func140, Tryz.ntmps140
  go_wp2_with fail
  refine (slIndex_c _ _ _ t n _ ht hv).mono ?_; rintro e w1 ⟨hi, hb⟩
  rcases hi with ⟨hm, k, hk, rfl⟩ | ⟨hm, rfl⟩
  · have hd : decide (0 ≤ (k : Int)) = true := by simp
    go_wp2_with fail
    go_ret
    exact ⟨by rw [← HE.out, decide_eq_true hm]; rfl, hb⟩
  · go_wp2_with fail
    go_ret
    exact ⟨by rw [← HE.out, decide_eq_false hm]; rfl, hb⟩
end Go.Proofs.YteegjnobmbcjiaaGreatDoor
end
section
/- Unify: what the program replaces in a round. -/
namespace Go.Proofs.YteegjnobmbcjiaaGreatDoor
open Go.RowKit Go.Maps

def RetRep (n : Int) (u : List Int) (bad : Bool) (w : World) (e : Ending) (w' : World) : Prop :=
  Bel w w' ∧ match bad with
    | true => e = .returned (.tuple #[.int .i64 0, .slice none 0 0, .bool false])
    | false => ∃ a c lo hi, e = .returned (.tuple #[.int .i64 n, .slice a u.length c, .bool true]) ∧ SlI lo hi w' (.slice a u.length c) u

set_option maxRecDepth 100000 in
set_option maxHeartbeats 1000000 in
theorem replacement_c (l h l' h' l2 h2 : Nat) (v p q : Value) (ar x y : List Int) (e : Nat) (bad : Bool) (w : World) (hg : goodSign ar = true) (hR : URound ar x y (lowN x y) (other x y) (putU ar x y) (dif x y) e) (hbd : badU ar x y ↔ bad = true) (hx40 : x.length ≤ 40) (hy40 : y.length ≤ 40) (hv : SlI l h w v ar) (hp : SlI l' h' w p x) (hq : SlI l2 h2 w q y) :
    Calls Tryz.prog 112 #[.agg #[v], p, q] w (RetRep (lowN x y) (putU ar x y) bad w) := by
  have hbf := dif_before x y
  have hlt1 := hR.dx
  have hlt2 := hR.dy
  have hne := hR.ne
  have hlow : lowN x y = if y.getD (dif x y) 0 < x.getD (dif x y) 0 then y.getD (dif x y) 0 else x.getD (dif x y) 0 := rfl
  have hoth : other x y = if y.getD (dif x y) 0 < x.getD (dif x y) 0 then x else y := rfl
  obtain ⟨-, -, -, -, -, hdd, hen, hde, heo, hpu, -⟩ := hR
  unfold badU at hbd
  generalize putU ar x y = u at *
  subst hpu
  generalize lowN x y = n at *
  generalize other x y = o at *
  generalize hdv : dif x y = d at *
  clear hdv
  obtain ⟨pb, po, pc, rfl, hpc⟩ := hp.plain (by omega)
  obtain ⟨qb, qo, qc, rfl, hqc⟩ := hq.plain (by omega)
  have HX := Lib.hid (And.intro hlow (And.intro hoth (And.intro hen hbd)))
  clear hlow hoth hen hbd
  go_enter Tryz.func112, Tryz.ntmps112
  go_wp2_with fail
  go_loopw [9] (fun i wr => ∃ k : Nat, k ≤ d ∧ i = .int .i64 k ∧ Bel (w.alloc (.cells #[v] 33)) wr) (fun i _ => d - (intOf i).toNat)
  case atStart => exact ⟨0, Nat.zero_le _, rfl, Bel.rfl' _⟩
  case round =>
    obtain ⟨k, hk, rfl, hb⟩ := hrel
    have hbox := boxc hb 0 _ rfl
    have hpw := hp.below hb.of_alloc
    have hqw := hq.below hb.of_alloc
    obtain ⟨b1, o1, e1, -, hc1⟩ := hpw.at k (by omega)
    obtain ⟨b2, o2, e2, -, hc2⟩ := hqw.at k (by omega)
    simp only [Option.some.injEq, Addr.mk.injEq] at e1 e2
    obtain ⟨rfl, rfl, -⟩ := e1
    obtain ⟨rfl, rfl, -⟩ := e2
    have hkx : (k : Int) < x.length := by omega
    have hky : (k : Int) < y.length := by omega
    by_cases hlt : k < d
    · obtain ⟨-, -, h3⟩ := hbf k hlt
      rw [← h3] at hc2
      have HB := Lib.hid hbf
      clear hbf h3 hne
      generalize x.getD k 0 = m at *
      have hw24 := IntWalk.i64_in ((k : Int) + 1) (by omega)
      go_wp2_with fail
      go_quiet (fail)
      go_wp2_with fail
      go_roundw
      case rel => exact ⟨k+1, by omega, by go_num, hb.drewN _⟩
      case measure => simp [intOf]; omega
    · obtain rfl : k = d := by omega
      clear hbf
      generalize x.getD k 0 = m1 at *
      generalize y.getD k 0 = m2 at *
      have hne2 : (m1 == m2) = false := by simpa using hne
      by_cases hsw : m2 < m1
      · have hgt : decide (m2 < m1) = true := by simpa using hsw
        obtain ⟨hlow, hoth, hen, hbd⟩ := HX.out
        rw [if_pos hsw] at hlow hoth
        subst hlow hoth
        have hcut := hpw.cut k e (by omega) heo
        have hpl' := partOf_len o k e heo
        have hke : (k : Int) < e := by omega
        have hke2 : (k : Int) ≤ e := by omega
        have heo2 : (e : Int) ≤ o.length := by omega
        have hec : (e : Int) ≤ pc := by omega
        have hcut2 : SlI _ _ wr (.slice (some ⟨pb, po + k, none⟩) (e - k) (pc - k)) (partOf o k e) := hcut
        clear hcut
        go_wp2_with fail
        go_quiet (fail)
        go_wp2_with fail
        go_quiet (fail)
        go_wp2_with fail
        refine (termEnd_v _ _ _ _ _ _ ar o k e _ hen hg (by omega) (by omega) (hv.below (hb.drewN _).of_alloc) (hp.below (hb.drewN _).of_alloc)).mono ?_; rintro e' w3 ⟨rfl, hb3⟩
        have hbw := (hb.drewN _).step hb3
        by_cases hn : 0 ≤ n
        · have hd0 : decide (0 ≤ n) = true := by simpa using hn
          have hb0 := hbd.1 (.inl hn)
          subst hb0
          go_wp2_with fail
          go_ret3
          exact ⟨hbw.of_alloc, rfl⟩
        · have hd0 : decide (0 ≤ n) = false := by simpa using hn
          have HC := Lib.hid ((hcut2.below ((Bel.rfl' wr).drewN _)).below hb3)
          by_cases hm : n ∈ partOf o k e
          · have hb0 := hbd.1 (.inr hm)
            have hdm : decide (n ∈ partOf o k e) = true := by simpa using hm
            subst hb0
            go_wp2_with fail
            refine (slContains_v _ _ _ (partOf o k e) n true _ hdm (by omega) HC.out).mono ?_; rintro e2 w4 ⟨rfl, hb4⟩
            go_wp2_with fail
            go_ret3
            exact ⟨(hbw.step hb4).of_alloc, rfl⟩
          · have hb0 : bad = false := by
              cases bad with
              | false => rfl
              | true => exact absurd (hbd.2 rfl) (by rintro (h | h); exact hn h; exact hm h)
            have hdm : decide (n ∈ partOf o k e) = false := by simpa using hm
            subst hb0
            go_wp2_with fail
            refine (slContains_v _ _ _ (partOf o k e) n false _ hdm (by omega) HC.out).mono ?_; rintro e2 w4 ⟨rfl, hb4⟩
            go_wp2_with fail
            go_ret3
            exact ⟨(hbw.step hb4).of_alloc, _, _, _, _, by rw [hpl']; rfl, by rw [hpl']; exact HC.out.below hb4⟩
      · have hgt : decide (m2 < m1) = false := by simpa using hsw
        obtain ⟨hlow, hoth, hen, hbd⟩ := HX.out
        rw [if_neg hsw] at hlow hoth
        subst hlow hoth
        have hcut := hqw.cut k e (by omega) heo
        have hpl' := partOf_len o k e heo
        have hke : (k : Int) < e := by omega
        have hke2 : (k : Int) ≤ e := by omega
        have heo2 : (e : Int) ≤ o.length := by omega
        have hec : (e : Int) ≤ qc := by omega
        have hcut2 : SlI _ _ wr (.slice (some ⟨qb, qo + k, none⟩) (e - k) (qc - k)) (partOf o k e) := hcut
        clear hcut
        go_wp2_with fail
        go_quiet (fail)
        go_wp2_with fail
        go_quiet (fail)
        go_wp2_with fail
        refine (termEnd_v _ _ _ _ _ _ ar o k e _ hen hg (by omega) (by omega) (hv.below (hb.drewN _).of_alloc) (hq.below (hb.drewN _).of_alloc)).mono ?_; rintro e' w3 ⟨rfl, hb3⟩
        have hbw := (hb.drewN _).step hb3
        by_cases hn : 0 ≤ n
        · have hd0 : decide (0 ≤ n) = true := by simpa using hn
          have hb0 := hbd.1 (.inl hn)
          subst hb0
          go_wp2_with fail
          go_ret3
          exact ⟨hbw.of_alloc, rfl⟩
        · have hd0 : decide (0 ≤ n) = false := by simpa using hn
          have HC := Lib.hid ((hcut2.below ((Bel.rfl' wr).drewN _)).below hb3)
          by_cases hm : n ∈ partOf o k e
          · have hb0 := hbd.1 (.inr hm)
            have hdm : decide (n ∈ partOf o k e) = true := by simpa using hm
            subst hb0
            go_wp2_with fail
            refine (slContains_v _ _ _ (partOf o k e) n true _ hdm (by omega) HC.out).mono ?_; rintro e2 w4 ⟨rfl, hb4⟩
            go_wp2_with fail
            go_ret3
            exact ⟨(hbw.step hb4).of_alloc, rfl⟩
          · have hb0 : bad = false := by
              cases bad with
              | false => rfl
              | true => exact absurd (hbd.2 rfl) (by rintro (h | h); exact hn h; exact hm h)
            have hdm : decide (n ∈ partOf o k e) = false := by simpa using hm
            subst hb0
            go_wp2_with fail
            refine (slContains_v _ _ _ (partOf o k e) n false _ hdm (by omega) HC.out).mono ?_; rintro e2 w4 ⟨rfl, hb4⟩
            go_wp2_with fail
            go_ret3
            exact ⟨(hbw.step hb4).of_alloc, _, _, _, _, by rw [hpl']; rfl, by rw [hpl']; exact HC.out.below hb4⟩
end Go.Proofs.YteegjnobmbcjiaaGreatDoor
end
section
/- Unify: the program's. -/
namespace Go.Proofs.YteegjnobmbcjiaaGreatDoor
open Go.RowKit Go.Maps

theorem slI_len {lo hi : Nat} {w : World} {ad : Option Addr} {n c : Nat} {xs : List Int} (h : SlI lo hi w (.slice ad n c) xs) : n = xs.length := by
  obtain ⟨ad', c', e⟩ := h.form
  simp only [Value.slice.injEq] at e
  exact e.2.1
def IRel (ar a b : List Int) (R : Option (Nat → List Int)) (B : Nat) (w0 : World) (k : Nat) (p q : Value) (wr : World) : Prop :=
  ∃ (xs ys : List Int) (F : Nat → List Int) (f : Nat → Option Value) (m : Nat), m + 14 * k ≤ 182 ∧ k + cnt F 12 = 13 ∧ UInv ar a b xs ys F ∧ R = uniGo ar k xs ys F ∧ (∃ lo hi, SlI lo hi wr p xs) ∧ (∃ lo hi, SlI lo hi wr q ys) ∧ MapV wr B m f ∧ Holds wr f F ∧ Bel w0 wr

/-- The terms found, with the new one put into those of the first i variables. -/
def gotF (n : Int) (u : List Int) (F : Nat → List Int) (vs : List Int) : Nat → List Int := fun v => if (v : Int) ∈ vs then putFor n u (F v) else F v
theorem gotF_nil (n : Int) (u : List Int) (F : Nat → List Int) : gotF n u F [] = F := by funext v; simp [gotF]
theorem gotF_snoc (n : Int) (u : List Int) (F : Nat → List Int) (vs : List Int) (v : Nat) : gotF n u F (vs ++ [(v : Int)]) = upd (gotF n u F vs) v (putFor n u (F v)) := by
  funext i
  unfold gotF upd
  by_cases e : i = v
  · subst e; simp
  · have e2 : ¬ (i : Int) = (v : Int) := by omega
    rw [if_neg e]
    simp only [List.mem_append, List.mem_singleton, e2, or_false]
theorem gotF_end {n : Int} {u : List Int} {F : Nat → List Int} {vs : List Int} (h : ∀ v : Nat, v < 12 → (v : Int) ∉ vs → F v = []) (hlow : ∀ v, 12 ≤ v → F v = []) : gotF n u F vs = fun v => putFor n u (F v) := by
  funext v
  unfold gotF
  split
  · rfl
  · rename_i hv
    rcases Nat.lt_or_ge v 12 with h1 | h1
    · rw [h v h1 hv]; rfl
    · rw [hlow v h1]; rfl
theorem holds_some {w : World} {f : Nat → Option Value} {F : Nat → List Int} (h : Holds w f F) {v : Nat} (hv : v < 12) (hs : (f v).isSome = true) : F v ≠ [] ∧ ∃ u lo hi, f v = some u ∧ SlI lo hi w u (F v) := by
  rcases (h v hv).2 with ⟨_, e⟩ | h2
  · rw [e] at hs; simp at hs
  · exact h2
theorem holds_none {w : World} {f : Nat → Option Value} {F : Nat → List Int} (h : Holds w f F) {v : Nat} (hv : v < 12) (hs : ¬ (f v).isSome = true) : F v = [] := by
  rcases (h v hv).2 with ⟨e, _⟩ | ⟨_, u, _, _, e, _⟩
  · exact e
  · rw [e] at hs; simp at hs

set_option maxRecDepth 100000 in
set_option maxHeartbeats 1000000 in
theorem iUnify_t {l h l' h' l2 h2 : Nat} {v x y : Value} {ar a b : List Int} {w : World} (ha : ar.length ≤ 1048576) (hv : SlI l h w v ar) (hal : a.length ≤ 1048576) (hx : SlI l' h' w x a) (hbl : b.length ≤ 1048576) (hy : SlI l2 h2 w y b) :
    Calls Tryz.prog 76 #[.agg #[v], x, y] w (RetSSB w (unifyAns ar a b) (unifyOk ar a b)) := by
  cases hs : goodTerm ar a with
  | false =>
    have h0 : uniOk0 ar a b = false := by simp [uniOk0, hs]
    have E := Lib.hid (unify_no0 h0).1
    have E2 := Lib.hid (unify_no0 h0).2
    have HS := Lib.hid hs; clear hs h0
    go_enter Tryz.func76, Tryz.ntmps76
    go_wp2_with fail
    refine (iGoodTerm_v _ _ _ _ _ _ _ _ _ _ HS.out ha hal (hv.alloc _) (hx.alloc _)).mono ?_; rintro e w1 ⟨rfl, hb1⟩
    go_wp2_with fail
    go_ret2
    exact ⟨_, _, _, by rw [E2.out]; rfl, by rw [E.out]; exact OwnS.nil _ _ _, hb1.of_alloc⟩
  | true =>
    obtain ⟨hg, hop⟩ := goodTerm_iff.1 hs
    cases hs2 : okTerm ar b with
    | false =>
      have h0 : uniOk0 ar a b = false := by simp [uniOk0, hs2]
      have E := Lib.hid (unify_no0 h0).1
      have E2 := Lib.hid (unify_no0 h0).2
      have HS := Lib.hid (And.intro hs (show goodTerm ar b = false by simp [goodTerm, hs2])); clear hs hs2 h0
      go_enter Tryz.func76, Tryz.ntmps76
      go_wp2_with fail
      refine (iGoodTerm_v _ _ _ _ _ _ _ _ _ _ HS.out.1 ha hal (hv.alloc _) (hx.alloc _)).mono ?_; rintro e w1 ⟨rfl, hb1⟩
      have hx1 := boxc hb1 0 _ rfl
      go_wp2_with fail
      refine (iGoodTerm_v _ _ _ _ _ _ _ _ _ _ HS.out.2 ha hbl (hv.below hb1.of_alloc) (hy.below hb1.of_alloc)).mono ?_; rintro e w2 ⟨rfl, hb2⟩
      go_wp2_with fail
      go_ret2
      exact ⟨_, _, _, by rw [E2.out]; rfl, by rw [E.out]; exact OwnS.nil _ _ _, (hb1.step hb2).of_alloc⟩
    | true =>
      have h00 : uniOk0 ar a b = true := by simp [uniOk0, hs, hs2]
      have hU0 := UInv.start hop hs2
      have HS := Lib.hid (And.intro (And.intro hs (show goodTerm ar b = true by simp [goodTerm, hs2, hg])) h00); clear hs hs2 h00 hop
      have hmm := @run_makeMap Tryz.prog
      have hR0 : uniR ar a b = uniGo ar 13 a b (fun _ => []) := rfl
      generalize hR : uniR ar a b = R at *
      go_enter Tryz.func76, Tryz.ntmps76
      go_wp2_with fail
      refine (iGoodTerm_v _ _ _ _ _ _ _ _ _ _ HS.out.1.1 ha hal (hv.alloc _) (hx.alloc _)).mono ?_; rintro e w1 ⟨rfl, hb1⟩
      have hx1 := boxc hb1 0 _ rfl
      go_wp2_with fail
      refine (iGoodTerm_v _ _ _ _ _ _ _ _ _ _ HS.out.1.2 ha hbl (hv.below hb1.of_alloc) (hy.below hb1.of_alloc)).mono ?_; rintro e w2 ⟨rfl, hb2⟩
      have hb12 := hb1.step hb2
      have hsz12 := hb12.size
      simp only [World.size_alloc] at hsz12
      clear hb1 hb2 hx1
      go_wp2_with fail
      have hM0 := MapV.made w2
      have hB0 : Bel (w.alloc (.cells #[v] 33)) (w2.alloc (.map #[] 0)) := hb12.alloc (.map #[] 0)
      go_loopw [1, 2] (fun p q wr => ∃ k, IRel ar a b R w2.heap.size (w.alloc (.cells #[v] 33)) k p q wr) (fun p q wr => leastOf fun k => IRel ar a b R w2.heap.size (w.alloc (.cells #[v] 33)) k p q wr)
      case atStart => exact ⟨13, a, b, _, _, 0, by omega, by simp [cnt], hU0, hR0, ⟨_, _, hx.below hB0.of_alloc⟩, ⟨_, _, hy.below hB0.of_alloc⟩, hM0, Holds.start _, hB0⟩
      case round =>
        clear hM0 hB0 hU0 hR0
        obtain ⟨k, hIR, hleast⟩ := least_at hrel
        have HL := Lib.hid hleast
        clear hleast hrel
        obtain ⟨xs, ys, F, f, m, hm, hcnt, hU, hRk, ⟨lx, hx3, hxs⟩, ⟨ly, hy3, hys⟩, hM, hH, hb⟩ := hIR
        have hbox := boxc hb 0 _ rfl
        have hx40 := (okTerm_seq.1 hU.okx).1
        have hy40 := (okTerm_seq.1 hU.oky).1
        obtain ⟨xa, xc, rfl⟩ := hxs.form
        obtain ⟨ya, yc, rfl⟩ := hys.form
        have hc12 := cnt_le F 12
        obtain ⟨k, rfl⟩ : ∃ k', k = k' + 1 := ⟨k - 1, by omega⟩
        by_cases hEq : xs = ys
        · rw [ug_same hEq] at hRk
          have E := Lib.hid (unify_yes HS.out.2 (hR.trans hRk)).1
          have E2 := Lib.hid (unify_yes HS.out.2 (hR.trans hRk)).2
          have HSB := Lib.hid (fun w' (hbw : Bel wr w') => subst_c _ _ f F w' (hM.bel hbw) (hH.bel hbw).sub)
          have hdec : decide (xs = ys) = true := by simpa using hEq
          clear hRk hH hM hU hEq
          go_wp2_with fail
          refine (slEqual_v _ _ _ _ _ _ xs ys true _ hdec (by omega) (by omega) hxs hys).mono ?_; rintro e w3 ⟨rfl, hb3⟩
          go_wp2_with fail
          refine (HSB.out w3 hb3).mono ?_; rintro e w4 ⟨ao, no, co, rfl, ho, hch⟩
          go_wp2_with fail
          go_ret2
          have hz := (hb.step hb3).size
          simp only [World.size_alloc] at hz
          exact ⟨_, _, _, by rw [E2.out]; rfl, by rw [E.out]; exact ho.mono (by omega) (Nat.le_refl _), hch.bel (hb.step hb3).of_alloc (by omega)⟩
        · have hdec : decide (xs = ys) = false := by simpa using hEq
          obtain ⟨e0, hRo⟩ := uround hU hEq
          by_cases hbad : badU ar xs ys
          · rw [ug_bad hEq hbad] at hRk
            have E := Lib.hid (unify_no (hR.trans hRk)).1
            have E2 := Lib.hid (unify_no (hR.trans hRk)).2
            have HRp := Lib.hid (fun w' (hbw : Bel wr w') => replacement_c _ _ _ _ _ _ v _ _ ar xs ys e0 true w' hg hRo (by simp [hbad]) hx40 hy40 ((hv.below hb.of_alloc).below hbw) (hxs.below hbw) (hys.below hbw))
            clear hRk hH hM hU hEq hRo
            go_wp2_with fail
            refine (slEqual_v _ _ _ _ _ _ xs ys false _ hdec (by omega) (by omega) hxs hys).mono ?_; rintro e w3 ⟨rfl, hb3⟩
            have hbox3 := boxc (hb.step hb3) 0 _ rfl
            go_wp2_with fail
            refine (HRp.out w3 hb3).mono ?_; rintro e w4 ⟨hb4, rfl⟩
            go_wp2_with fail
            go_ret2
            exact ⟨_, _, _, by rw [E2.out]; rfl, by rw [E.out]; exact OwnS.nil _ _ _, ((hb.step hb3).step hb4).of_alloc⟩
          · have hok := uok hU hEq hbad
            have HRp := Lib.hid (fun w' (hbw : Bel wr w') => replacement_c _ _ _ _ _ _ v _ _ ar xs ys e0 false w' hg hRo (by simp [hbad]) hx40 hy40 ((hv.below hb.of_alloc).below hbw) (hxs.below hbw) (hys.below hbw))
            by_cases hlong : longU ar xs ys
            · rw [ug_long hEq hbad hlong] at hRk
              have E := Lib.hid (unify_no (hR.trans hRk)).1
              have E2 := Lib.hid (unify_no (hR.trans hRk)).2
              clear hRk hH hM hU hEq hRo hbad
              unfold longU at hlong
              generalize lowN xs ys = n at *
              generalize putU ar xs ys = u at *
              have hu40 := hok.u40
              have hup := hok.up
              clear hok
              go_wp2_with fail
              refine (slEqual_v _ _ _ _ _ _ xs ys false _ hdec (by omega) (by omega) hxs hys).mono ?_; rintro e w3 ⟨rfl, hb3⟩
              have hbox3 := boxc (hb.step hb3) 0 _ rfl
              go_wp2_with fail
              refine (HRp.out w3 hb3).mono ?_; rintro e w4 ⟨hb4, au, cu, lu, hu2, rfl, hus⟩
              go_wp2_with fail
              refine (iPutFor_c _ _ _ _ _ _ xs u n _ (by omega) hu40 hup (hxs.below (hb3.step hb4)) hus).mono ?_; rintro e w5 ⟨ax, nx, cx, rfl, hX, hb5⟩
              go_wp2_with fail
              refine (iPutFor_c _ _ _ _ _ _ ys u n _ (by omega) hu40 hup (hys.below ((hb3.step hb4).step hb5)) (hus.below hb5)).mono ?_; rintro e w6 ⟨ay, ny, cy, rfl, hY, hb6⟩
              have hnx := slI_len hX.sl
              have hny := slI_len hY.sl
              subst hnx hny
              have hbb := (((hb.step hb3).step hb4).step hb5).step hb6
              by_cases h1 : 40 < (putFor n u xs).length
              · have hd1 : decide (40 < ((putFor n u xs).length : Int)) = true := by simp; omega
                go_wp2_with fail
                go_ret2
                exact ⟨_, _, _, by rw [E2.out]; rfl, by rw [E.out]; exact OwnS.nil _ _ _, hbb.of_alloc⟩
              · have hd1 : decide (40 < ((putFor n u xs).length : Int)) = false := by simp; omega
                have hd2 : decide (40 < ((putFor n u ys).length : Int)) = true := by simp; omega
                go_wp2_with fail
                go_ret2
                exact ⟨_, _, _, by rw [E2.out]; rfl, by rw [E.out]; exact OwnS.nil _ _ _, hbb.of_alloc⟩
            · rw [ug_next hEq hbad hlong] at hRk
              have hUn := hok.next hlong
              have hl1 : ¬ 40 < (putFor (lowN xs ys) (putU ar xs ys) xs).length ∧ ¬ 40 < (putFor (lowN xs ys) (putU ar xs ys) ys).length := by unfold longU at hlong; omega
              clear hEq hRo hbad hlong
              generalize lowN xs ys = n at *
              generalize putU ar xs ys = u at *
              have hu40 := hok.u40
              have hup := hok.up
              have hnlo := hok.lo
              have hnneg := hok.neg
              have hmore := hok.more
              have hv12 : (-1 - n).toNat < 12 := by omega
              have hvn : ((-1 - n).toNat : Int) = -1 - n := by omega
              have hkk : keyOf Tryz.prog 3 (.int .i64 (-1 - n)) = some (kv (-1 - n).toNat) := by rw [← hvn]; exact kv_key hv12
              have hn40 := hUn.len40
              have hFlow := hU.low
              have hF40 := hU.len40
              have hU1 := Lib.hid (And.intro hU (And.intro hUn (And.intro hRk (And.intro hmore hok))))
              have hw73 := IntWalk.i64_in (-1 - n) (by omega)
              obtain ⟨hl1, hl2⟩ := hl1
              have hd1 : decide (40 < ((putFor n u xs).length : Int)) = false := by simp; omega
              have hd2 : decide (40 < ((putFor n u ys).length : Int)) = false := by simp; omega
              clear hU hUn hRk hok hmore
              go_wp2_with fail
              refine (slEqual_v _ _ _ _ _ _ xs ys false _ hdec (by omega) (by omega) hxs hys).mono ?_; rintro e w3 ⟨rfl, hb3⟩
              have hbox3 := boxc (hb.step hb3) 0 _ rfl
              go_wp2_with fail
              refine (HRp.out w3 hb3).mono ?_; rintro e w4 ⟨hb4, au, cu, lu, hu2, rfl, hus⟩
              go_wp2_with fail
              refine (iPutFor_c _ _ _ _ _ _ xs u n _ (by omega) hu40 hup (hxs.below (hb3.step hb4)) hus).mono ?_; rintro e w5 ⟨ax, nx, cx, rfl, hX, hb5⟩
              go_wp2_with fail
              refine (iPutFor_c _ _ _ _ _ _ ys u n _ (by omega) hu40 hup (hys.below ((hb3.step hb4).step hb5)) (hus.below hb5)).mono ?_; rintro e w6 ⟨ay, ny, cy, rfl, hY, hb6⟩
              have hnx := slI_len hX.sl
              have hny := slI_len hY.sl
              subst hnx hny
              have hbr := ((hb3.step hb4).step hb5).step hb6
              have hbb := hb.step hbr
              have hM6 := hM.bel hbr
              have hH6 := hH.bel hbr
              have hX6 := hX.sl.below hb6
              have hY6 := hY.sl
              have hu6 := (hus.below hb5).below hb6
              have hxe : xs.length ≤ 40 := hx40
              clear hM hH hX hY hus hxs hys hbr hb3 hb4 hb5 hb6 hbox3 hbox HRp hdec
              go_wp2_with fail
              refine (vars_c _ m f _ hM6).mono ?_; rintro e w7 ⟨av, nv, cv, vs, rfl, hV, hv12', hnd, hvv, hvs, hb7⟩
              have hnv := slI_len hV.sl
              subst hnv
              have hM7 := hM6.bel hb7
              have hH7 := hH6.bel hb7
              have hbb7 := hbb.step hb7
              have hsz7 := hbb7.size
              simp only [World.size_alloc] at hsz7
              have hbl7 := hM7.lt
              go_wp2_with fail
              go_loopw [58] (fun i wi => ∃ (j : Nat) (f' : Nat → Option Value), j ≤ vs.length ∧ i = .int .i64 j ∧ MapV wi w2.heap.size (m + j) f' ∧ Holds wi f' (gotF n u F (vs.take j)) ∧ (∀ g : Nat, g < 12 → (g : Int) ∉ vs.take j → f' g = f g) ∧ Chg w2.heap.size (w2.heap.size + 1) w7 wi) (fun i _ => vs.length - (intOf i).toNat)
              case atStart => exact ⟨0, f, Nat.zero_le _, rfl, hM7, by rw [List.take_zero, gotF_nil]; exact hH7, fun _ _ _ => rfl, Chg.refl _ _ _⟩
              case round =>
                obtain ⟨j, f', hj, rfl, hMi, hHi, hfi, hch⟩ := hrel
                by_cases hlt : j < vs.length
                · obtain ⟨bv, ov, rfl, -, hcv⟩ := (hV.sl.chgMap hM7 hch).at j hlt
                  obtain ⟨g, hg12, hgj⟩ := hvv (vs.getD j 0) (getD_mem hlt)
                  have hnot : (g : Int) ∉ vs.take j := by
                    rw [← hgj]
                    intro hm2
                    have hmd : vs.getD j 0 ∈ vs.drop j := by rw [List.drop_eq_getElem_cons hlt, show vs.getD j 0 = vs[j] from by simp [List.getD, hlt]]; exact List.mem_cons_self
                    have h1 := hnd
                    rw [← List.take_append_drop j vs, List.nodup_append] at h1
                    exact h1.2.2 _ hm2 _ hmd rfl
                  have htk : vs.take (j+1) = vs.take j ++ [(g : Int)] := by
                    rw [List.take_succ_eq_append_getElem hlt]
                    have : vs[j] = g := by simpa [List.getD, hlt] using hgj
                    rw [this]
                  rw [hgj] at hcv
                  have hfg := hfi g hg12 hnot
                  have hgs : (f g).isSome = true := (hvs g hg12).1 (by rw [← hgj]; exact getD_mem hlt)
                  obtain ⟨hne, ug, lg, hg2, hfu, hgu⟩ := holds_some hH7 hg12 hgs
                  have hguw := hgu.chgMap hM7 hch
                  have hlook := hMi.look hg12
                  rw [hfg, hfu] at hlook
                  simp only [Option.getD_some] at hlook
                  have hput40 : (putFor n u (F g)).length ≤ 40 := by
                    have := hn40 g
                    unfold nextF upd at this
                    split at this
                    · rename_i e
                      exfalso
                      have := hU1.out.2.2.2.2.free
                      rw [← e] at this
                      exact hne this
                    · exact this
                  have hFg40 := hF40 g
                  have hgot := gotF_snoc n u F (vs.take j) g
                  rw [← htk] at hgot
                  have huw := (hu6.below hb7).chgMap hM7 hch
                  obtain ⟨ag, cg, rfl⟩ := hguw.form
                  have hjl : (j : Int) < vs.length := by omega
                  have HG := Lib.hid (And.intro hgot (And.intro hput40 (And.intro hne (And.intro hHi hfi))))
                  clear hgot hput40 hne hHi hfi
                  go_wp2_with fail
                  refine (iPutFor_c _ _ _ _ _ _ (F g) u n _ (by omega) hu40 hup hguw huw).mono ?_; rintro e w8 ⟨ap, np, cp, rfl, hP, hb8⟩
                  have hMi8 := hMi.bel hb8
                  obtain ⟨n9, D9, hn9, hown9, hK9⟩ := hMi8
                  go_wp2_with (at_mapUpdate; refine wpList_mapUpdate_own _ rfl _ _ _ 131 rfl 3 22 keyInt Tryz.underlying131 _ w2.heap.size n9 D9 rfl hown9 (by unfold maxLen; omega) _ _ _ rfl rfl (kv_key hg12) _ [] rfl ?_; intro w10 hown10 hgrow)
                  have hch10 := chg_of_grown hgrow
                  have hM10 : MapV w10 w2.heap.size (m + (j + 1)) (upd f' g (some (.slice ap np cp))) := ⟨n9+1, _, by omega, hown10, hK9.put hown9.isMap hg12 _⟩
                  obtain ⟨hgot, hput40, hne, hHi, hfi⟩ := HG.out
                  have hP10 := hP.sl.chgMap (hMi.bel hb8) hch10
                  have hH10 := ((hHi.bel hb8).chg (hMi.bel hb8) hch10).put g _ (putFor n u (F g)) _ _ hput40 (List.length_pos_iff.2 (putFor_ne (List.length_pos_iff.1 hup) hne)) hP10
                  go_roundw
                  case rel => exact ⟨j+1, _, by omega, by go_num, hM10, by rw [hgot]; exact hH10, fun g' hg' hn' => (by
                    rw [htk] at hn'
                    have h1 : (g' : Int) ∉ vs.take j := fun h => hn' (List.mem_append_left _ h)
                    have h2 : g' ≠ g := fun h => hn' (by rw [h]; simp)
                    rw [upd_other _ _ h2]; exact hfi g' hg' h1), (hch.trans (Chg.of_bel hb8)).trans hch10⟩
                  case measure => simp [intOf]; omega
                · obtain rfl : j = vs.length := by omega
                  rw [List.take_length, gotF_end (fun g hg hn' => holds_none hH7 hg (fun h => hn' ((hvs g hg).2 h))) hFlow] at hHi
                  have hMi0 := hMi
                  obtain ⟨n9, D9, hn9, hown9, hK9⟩ := hMi
                  go_wp2_with (at_mapUpdate; refine wpList_mapUpdate_own _ rfl _ _ _ 131 rfl 3 22 keyInt Tryz.underlying131 _ w2.heap.size n9 D9 rfl hown9 (by unfold maxLen; omega) _ _ _ rfl rfl hkk _ [] rfl ?_; intro w10 hown10 hgrow)
                  have hch10 := chg_of_grown hgrow
                  have hM10 : MapV w10 w2.heap.size (m + vs.length + 1) (upd f' (-1 - n).toNat (some (.slice au u.length cu))) := ⟨n9+1, _, by omega, hown10, hK9.put hown9.isMap hv12 _⟩
                  have huw := ((hu6.below hb7).chgMap hM7 hch).chgMap hMi0 hch10
                  have hH10 := (hHi.chg hMi0 hch10).put (-1 - n).toNat _ u _ _ hu40 hup huw
                  have hX10 := ((hX6.below hb7).chgMap hM7 hch).chgMap hMi0 hch10
                  have hY10 := ((hY6.below hb7).chgMap hM7 hch).chgMap hMi0 hch10
                  obtain ⟨hU, hUn, hRk, hmore, hok⟩ := hU1.out
                  have hbN : Bel (w.alloc (.cells #[v] 33)) w10 := (hch.trans hch10).bel hbb7 (by simp; omega)
                  have HN := Lib.hid (show IRel ar a b R w2.heap.size (w.alloc (.cells #[v] 33)) k (.slice ax (putFor n u xs).length cx) (.slice ay (putFor n u ys).length cy) w10 from
                    ⟨_, _, nextF n u F, _, m + vs.length + 1, by omega, by omega, hUn, hRk, ⟨_, _, hX10⟩, ⟨_, _, hY10⟩, hM10, hH10, hbN⟩)
                  refine ⟨?_, ?measure⟩
                  iterate 90 (try apply Exists.intro)
                  refine ⟨?rel, rfl⟩
                  case rel => exact ⟨k, HN.out⟩
                  case measure => exact least_lt HN.out (Nat.lt_succ_self _) HL.out
end Go.Proofs.YteegjnobmbcjiaaGreatDoor
end
section
/- Chapter 6, the program: Resolve. -/
namespace Go.Proofs.YteegjnobmbcjiaaGreatDoor
open Go.RowKit

end Go.Proofs.YteegjnobmbcjiaaGreatDoor
end
section
/- Chapter 6, the program: Factor. -/
namespace Go.Proofs.YteegjnobmbcjiaaGreatDoor
open Go.RowKit

/-- A copy whose terms are shared. -/
def RetRC2 (w : World) (c : List Lt) (e : Ending) (w' : World) : Prop := ∃ g k zs, e = .returned (.slice (some ⟨g, 0, none⟩) c.length k) ∧ RowC w.heap.size w' (.slice (some ⟨g, 0, none⟩) c.length k) zs ∧ Lies w.heap.size w' zs c ∧ Bel w w'
set_option maxRecDepth 100000 in
set_option maxHeartbeats 400000 in
theorem cloneC_c (l h : Nat) (v : Value) (c : List Lt) (w : World) (hp : 0 < c.length) (hx : c.length ≤ 1048576) (hh : h ≤ w.heap.size) (hv : SlC l h w v c) :
    Calls Tryz.prog 78 #[v] w (RetRC2 w c) := by
  obtain ⟨i0, hi0, hz0, hz1, hz2⟩ := info_parts Tryz.info53
  obtain ⟨b, off, k, rfl, hk, hkm⟩ := hv.plain hp
  obtain ⟨ys, hy, hn⟩ := (hv.below (Bel.alloc0 w (.cells #[] 53))).bound hh
  have hyl := hy.1
  have HN := hn _ rfl
  have hyo := hy.one
  have hown : RowC w.heap.size (w.alloc (.cells #[] 53)) (.slice (some ⟨w.heap.size, 0, none⟩) 0 0) [] := World.ownsRow_lit w #[] 0 (Nat.le_refl _) (Nat.zero_le _) rfl
  have HYL := Lib.hid hyl
  have HY := Lib.hid hy
  clear hn hy hyl hv
  have hnil := fun (w : World) (a : Option Addr) (n c : Nat) => Lib.run_eql_slice_nil (P := Tryz.prog) w 30 53 a n c 0 0 Tryz.underlying30
  go_enter Tryz.func78, Tryz.ntmps78
  go_wp2_with (at_builtin; refine wpList_append_own _ rfl _ _ 30 rfl w.heap.size 53 i0 (.agg #[.bool false, .slice none 0 0, .slice none 0 0]) 3 56 Tryz.underlying30 hi0 hz0 hz1 hz2 rfl (by decide) _ _ _ rfl hown ⟨b, off, none⟩ c.length k (cellsC ys) rfl (by rw [cellsC_len, HYL.out]) HN hyo (by unfold maxLen; simp; omega) (by simp; omega) (by simp) ?_; intro v' w2 hown' hgrow _)
  have hb2 := (Bel.alloc0 w (.cells #[] 53)).grown hgrow (fun k hk => own_base hown k hk)
  obtain ⟨R2, L2⟩ := wp_app_lits (Lies.nil _ _) HY.out hown (by simp) (by rw [HYL.out]; exact hown') hgrow
  rcases R2.2 with ⟨rfl, hn0⟩ | ⟨g, cap, cur, rfl, hg, _⟩
  · rw [List.nil_append] at hn0; have := HYL.out; omega
  · go_ret
    exact ⟨g, cap, _, by simp [HYL.out], by simpa [HYL.out] using R2, by simpa using L2, hb2⟩
theorem RowC.froz {w : World} {base g n k : Nat} {zs : List LV} (h : RowC base w (.slice (some ⟨g, 0, none⟩) n k) zs) : base ≤ g ∧ ∀ j, w.frozen? ⟨g, j, none⟩ = false := by
  have hn := row_len3 h
  subst hn
  exact ⟨own_base h g rfl, fun j => h.frozenAt j⟩
theorem lit_field1 (w : World) (p : Bool) (a1 : Option Addr) (n1 c1 : Nat) (a2 : Option Addr) (n2 c2 : Nat) : (Instr.field 53 (.agg #[.bool p, .slice a1 n1 c1, .slice a2 n2 c2]) 1).run Tryz.prog w = .ok (.slice a1 n1 c1) w := by kernel_rfl
theorem lit_field2 (w : World) (p : Bool) (a1 : Option Addr) (n1 c1 : Nat) (a2 : Option Addr) (n2 c2 : Nat) : (Instr.field 53 (.agg #[.bool p, .slice a1 n1 c1, .slice a2 n2 c2]) 2).run Tryz.prog w = .ok (.slice a2 n2 c2) w := by kernel_rfl
/-- What turned answers. -/
def tvV (p : Bool) (a1 : Option Addr) (n1 c1 : Nat) (a2 : Option Addr) (n2 c2 : Nat) (s : Int) : Value := if s = 1 then .agg #[.bool p, .slice a2 n2 c2, .slice a1 n1 c1] else .agg #[.bool p, .slice a1 n1 c1, .slice a2 n2 c2]
theorem tvV_of {p : Bool} {a1 : Option Addr} {n1 c1 : Nat} {a2 : Option Addr} {n2 c2 : Nat} {z1 z2 : SV} {s : Int} (h : SideV s (.slice a1 n1 c1) (.slice a2 n2 c2) z1 z2) : tvV p a1 n1 c1 a2 n2 c2 s = .agg #[.bool p, encS z1, encS z2] := by
  unfold tvV
  rcases h with ⟨rfl, e1, e2⟩ | ⟨rfl, e1, e2⟩
  · rw [if_neg (by omega), e1, e2]
  · rw [if_pos rfl, e1, e2]
theorem turned_u (p : Bool) (a1 : Option Addr) (n1 c1 : Nat) (a2 : Option Addr) (n2 c2 : Nat) (s : Int) (w : World) (hs : s = 0 ∨ s = 1) :
    Calls Tryz.prog 77 #[.agg #[.bool p, .slice a1 n1 c1, .slice a2 n2 c2], .int .i64 s] w (RetV w (tvV p a1 n1 c1 a2 n2 c2 s)) := by
  rcases hs with rfl | rfl
  · have h : SideV 0 (.slice a1 n1 c1) (.slice a2 n2 c2) (a1, n1, c1) (a2, n2, c2) := .inl ⟨rfl, rfl, rfl⟩
    rw [tvV_of h]; exact turned_c _ _ _ _ _ _ _ h
  · have h : SideV 1 (.slice a1 n1 c1) (.slice a2 n2 c2) (a2, n2, c2) (a1, n1, c1) := .inr ⟨rfl, rfl, rfl⟩
    rw [tvV_of h]; exact turned_c _ _ _ _ _ _ _ h
theorem side_app {b : List (List Int)} {c : List Lt} {k : Nat} (hk : k < c.length) (s : Int) : sideL ((applyC b c).getD k lt0) s = appT b (sideL (c.getD k lt0) s) ∧ sideR ((applyC b c).getD k lt0) s = appT b (sideR (c.getD k lt0) s) := by
  have e : (applyC b c).getD k lt0 = ((c.getD k lt0).1, appT b (c.getD k lt0).2.1, appT b (c.getD k lt0).2.2) := by simp [applyC, List.getD, hk]
  rw [e]
  unfold sideL sideR
  split <;> exact ⟨rfl, rfl⟩
theorem okLits_lowT {ar : List Int} {c : List Lt} (h : okLits ar c = true) : ∀ j, j < c.length → lowT (c.getD j lt0).2.1 ∧ lowT (c.getD j lt0).2.2 := fun j hj => by
  obtain ⟨h1, h2⟩ := okLits_get (okLits_iff.1 h).2 j hj
  exact ⟨(lowT_ok h1).2, (lowT_ok h2).2⟩

set_option maxRecDepth 100000 in
set_option maxHeartbeats 1000000 in
theorem canFactor_c (l h : Nat) (u : Value) (c : List Lt) (wy : Wy) (q : Bool) (w : World) (hq : facIn c wy = q) (hx : c.length ≤ 1048576) (hu : SlC l h w u c) :
    Calls Tryz.prog 75 #[u, .agg #[.int .i64 wy.1, .int .i64 wy.2.1, .int .i64 wy.2.2.1, .int .i64 wy.2.2.2.1, .int .i64 wy.2.2.2.2]] w (RetV w (.bool q)) := by
  obtain ⟨wi, ws, wj, wo, wa⟩ := wy
  dsimp only
  unfold facIn at hq
  dsimp only at hq
  obtain ⟨ad, cap, rfl⟩ := hu.form
  have B1 : Bel w (w.alloc (.cells #[.int .i64 wi, .int .i64 ws, .int .i64 wj, .int .i64 wo, .int .i64 wa] 36)) := Bel.alloc0 _ _
  by_cases hij : wi = wj
  · rw [decide_eq_true hij] at hq
    simp at hq
    subst hq hij
    clear hu
    go_enter Tryz.func75, Tryz.ntmps75
    go_wp2_with fail
    go_ret
    exact ⟨rfl, Bel.alloc0 _ _⟩
  · have hne : (wi != wj) = true := bne_iff_ne.2 hij
    by_cases hwa : ¬ wa = 0
    · rw [decide_eq_false hwa] at hq
      simp at hq
      subst hq
      clear hu
      go_enter Tryz.func75, Tryz.ntmps75
      go_wp2_with fail
      go_ret
      exact ⟨rfl, Bel.alloc0 _ _⟩
    · have hwa := Classical.not_not.1 hwa
      subst hwa
      rw [decide_eq_false hij, decide_eq_true rfl] at hq
      cases h1 : (litOk c wi ws && (c.getD wi.toNat lt0).1) with
      | false =>
        have hq' : false = q := by rw [← hq]; revert h1; cases litOk c wi ws <;> cases (c.getD wi.toNat lt0).1 <;> simp
        subst hq'
        have H1 := Lib.hid (hasEquation_q l h _ c wi ws false _ h1 hx (hu.below B1))
        clear hu h1 hq
        go_enter Tryz.func75, Tryz.ntmps75
        go_wp2_with fail
        refine H1.out.mono ?_; rintro e w1 ⟨rfl, rfl⟩
        go_wp2_with fail
        go_ret
        exact ⟨rfl, Bel.alloc0 _ _⟩
      | true =>
        cases h2 : (litOk c wj wo && (c.getD wj.toNat lt0).1) with
        | false =>
          have hq' : false = q := by rw [← hq]; revert h2; cases litOk c wj wo <;> cases (c.getD wj.toNat lt0).1 <;> simp
          subst hq'
          have H1 := Lib.hid (hasEquation_q l h _ c wi ws true _ h1 hx (hu.below B1))
          have H2 := Lib.hid (hasEquation_q l h _ c wj wo false _ h2 hx (hu.below B1))
          clear hu h1 h2 hq
          go_enter Tryz.func75, Tryz.ntmps75
          go_wp2_with fail
          refine H1.out.mono ?_; rintro e w1 ⟨rfl, rfl⟩
          go_wp2_with fail
          refine H2.out.mono ?_; rintro e w1 ⟨rfl, rfl⟩
          go_wp2_with fail
          go_ret
          exact ⟨rfl, Bel.alloc0 _ _⟩
        | true =>
          have hq' : true = q := by rw [← hq]; revert h1 h2; cases litOk c wj wo <;> cases (c.getD wj.toNat lt0).1 <;> cases litOk c wi ws <;> cases (c.getD wi.toNat lt0).1 <;> simp
          subst hq'
          have H1 := Lib.hid (hasEquation_q l h _ c wi ws true _ h1 hx (hu.below B1))
          have H2 := Lib.hid (hasEquation_q l h _ c wj wo true _ h2 hx (hu.below B1))
          clear hu h1 h2 hq
          go_enter Tryz.func75, Tryz.ntmps75
          go_wp2_with fail
          refine H1.out.mono ?_; rintro e w1 ⟨rfl, rfl⟩
          go_wp2_with fail
          refine H2.out.mono ?_; rintro e w1 ⟨rfl, rfl⟩
          go_wp2_with fail
          go_ret
          exact ⟨rfl, Bel.alloc0 _ _⟩

set_option maxRecDepth 100000 in
set_option maxHeartbeats 1500000 in
theorem factored_c (l h l' h' : Nat) (v u : Value) (ar : List Int) (c : List Lt) (wy : Wy) (w : World) (hT : Tab w) (ha : ar.length ≤ 1048576) (hg : goodSign ar = true) (hc : okLits ar c = true) (hv : SlI l h w v ar) (hu : SlC l' h' w u c) :
    Calls Tryz.prog 38 #[.agg #[v], u, .agg #[.int .i64 wy.1, .int .i64 wy.2.1, .int .i64 wy.2.2.1, .int .i64 wy.2.2.2.1, .int .i64 wy.2.2.2.2]] w (RetSN w (facA ar c wy).1 (facA ar c wy).2) := by
  obtain ⟨h8, hokx⟩ := okLits_iff.1 hc
  obtain ⟨ad, cap, rfl⟩ := hu.form
  cases hin : facIn c wy with
  | false =>
    rw [facA_none hin]
    obtain ⟨wi, ws, wj, wo, wa⟩ := wy
    dsimp only
    have HCF := Lib.hid (fun (w' : World) (hb : Bel w w') => canFactor_c l' h' _ c (wi, ws, wj, wo, wa) false w' hin (by omega) (hu.below hb))
    dsimp only at HCF
    clear hin hu hv hokx
    go_enter Tryz.func38, Tryz.ntmps38
    go_wp2_with fail
    refine (HCF.out _ (Bel.alloc2 _ _ _)).mono ?_; rintro e w1 ⟨rfl, hb1⟩
    go_wp2_with fail
    go_ret2
    exact ⟨_, _, _, rfl, SlC.nil _ _ _, (Bel.alloc2 _ _ _).step hb1⟩
  | true =>
    have hgx := facIn_get hin
    have hin0 := hin
    obtain ⟨wi, ws, wj, wo, wa⟩ := wy
    unfold facIn at hin0
    simp only [Bool.and_eq_true, Bool.not_eq_true', decide_eq_true_eq, decide_eq_false_iff_not] at hin0
    obtain ⟨⟨⟨h1, h2⟩, hij, hwa⟩, hp1, hp2⟩ := hin0
    dsimp only at hgx
    subst hwa
    obtain ⟨⟨i0, i1⟩, hs1⟩ := litOk_iff.1 h1
    obtain ⟨⟨j0, j1⟩, hs2⟩ := litOk_iff.1 h2
    obtain ⟨k1, rfl⟩ : ∃ k : Nat, wi = (k : Int) := ⟨wi.toNat, by omega⟩
    obtain ⟨k2, rfl⟩ : ∃ k : Nat, wj = (k : Int) := ⟨wj.toNat, by omega⟩
    rw [Int.toNat_natCast] at hp1 hp2
    have hk1 : k1 < c.length := by omega
    have hk2 : k2 < c.length := by omega
    have B2 : Bel w ((w.alloc (.cells #[v] 33)).alloc (.cells #[.int .i64 k1, .int .i64 ws, .int .i64 k2, .int .i64 wo, .int .i64 0] 36)) := Bel.alloc2 _ _ _
    have HCF := Lib.hid (fun (w' : World) (hb : Bel w w') => canFactor_c l' h' _ c ((k1 : Int), ws, (k2 : Int), wo, 0) true w' hin (by omega) (hu.below hb))
    dsimp only at HCF ⊢
    obtain ⟨b, off, u1, u2, rfl, hbs, c1, c2, c3, s1, s2⟩ := hu.at (Bel.rfl' w) k1 hk1
    obtain ⟨b', off', q1, q2, eb, hbs', d1, d2, d3, r1, r2⟩ := hu.at (Bel.rfl' w) k2 hk2
    cases eb
    obtain ⟨z1, z2, hz, t1, t2⟩ := sides_x hs1 s1 s2
    obtain ⟨y1, y2, hy, t3, t4⟩ := sides_x hs2 r1 r2
    have ox1 := (okLits_get hokx k1 hk1)
    have ox2 := (okLits_get hokx k2 hk2)
    have eL : facL c ((k1 : Int), ws, (k2 : Int), wo, 0) = sideL (c.getD k1 lt0) ws := by unfold facL; dsimp only; rw [Int.toNat_natCast]
    have eR : facR c ((k1 : Int), ws, (k2 : Int), wo, 0) = sideR (c.getD k1 lt0) ws := by unfold facR; dsimp only; rw [Int.toNat_natCast]
    have eL2 : facL2 c ((k1 : Int), ws, (k2 : Int), wo, 0) = sideL (c.getD k2 lt0) wo := by unfold facL2; dsimp only; rw [Int.toNat_natCast]
    have eR2 : facR2 c ((k1 : Int), ws, (k2 : Int), wo, 0) = sideR (c.getD k2 lt0) wo := by unfold facR2; dsimp only; rw [Int.toNat_natCast]
    rw [← eL] at t1
    rw [← eL2] at t3
    have ol1 : okTerm ar (facL c ((k1 : Int), ws, (k2 : Int), wo, 0)) = true := by rw [eL]; exact sideL_ok (okLit_iff.2 ox1) ws
    have ol2 : okTerm ar (facL2 c ((k1 : Int), ws, (k2 : Int), wo, 0)) = true := by rw [eL2]; exact sideL_ok (okLit_iff.2 ox2) wo
    have EE := Lib.hid (And.intro (And.intro eL eR) eR2)
    clear eL eR eL2 eR2 ox1 ox2 h1 h2 i0 j0
    have HU := Lib.hid (fun (w' : World) (hb : Bel w w') => iUnify_t (w := w') ha (hv.below hb) (by have := (okTerm_len ol1).2; omega) (t1.below hb) (by have := (okTerm_len ol2).2; omega) (t3.below hb))
    have HF := Lib.hid (fun (w' : World) (hb : Bel ((w.alloc (.cells #[v] 33)).alloc (.cells #[.int .i64 k1, .int .i64 ws, .int .i64 k2, .int .i64 wo, .int .i64 0] 36)) w') => (⟨boxc hb.of_alloc 0 _ rfl, hb.at (by simp) (by simp [go_sem]), hb.at (by simp) (by simp [go_sem]), hb.at (by simp) (by simp [go_sem]), hb.at (by simp) (by simp [go_sem]), hb.at (by simp; omega) (B2.at hbs c1), hb.at (by simp; omega) (B2.at hbs c2), hb.at (by simp; omega) (B2.at hbs c3), hb.at (by simp; omega) (B2.at hbs d1), hb.at (by simp; omega) (B2.at hbs d2), hb.at (by simp; omega) (B2.at hbs d3)⟩ : (w'.cell? ⟨w.heap.size, 0, none⟩ = some v ∧ w'.cell? ⟨w.heap.size + 1, 0, none⟩ = some (.int .i64 k1) ∧ w'.cell? ⟨w.heap.size + 1, 1, none⟩ = some (.int .i64 ws) ∧ w'.cell? ⟨w.heap.size + 1, 2, none⟩ = some (.int .i64 k2) ∧ w'.cell? ⟨w.heap.size + 1, 3, none⟩ = some (.int .i64 wo) ∧ w'.cell? ⟨b, off + k1 * 3, none⟩ = some (.bool (c.getD k1 lt0).1) ∧ w'.cell? ⟨b, off + k1 * 3 + 1, none⟩ = some u1 ∧ w'.cell? ⟨b, off + k1 * 3 + 2, none⟩ = some u2 ∧ w'.cell? ⟨b, off + k2 * 3, none⟩ = some (.bool (c.getD k2 lt0).1) ∧ w'.cell? ⟨b, off + k2 * 3 + 1, none⟩ = some q1 ∧ w'.cell? ⟨b, off + k2 * 3 + 2, none⟩ = some q2)))
    have HS1 := Lib.hid hz
    have HS2 := Lib.hid hy
    have HTT := Lib.hid (And.intro hs1 hs2)
    have HP := Lib.hid (And.intro hp1 hp2)
    clear hz hy c1 c2 c3 d1 d2 d3 hp1 hp2
    cases hun : unifyOk ar (facL c ((k1 : Int), ws, (k2 : Int), wo, 0)) (facL2 c ((k1 : Int), ws, (k2 : Int), wo, 0)) with
    | false =>
      rw [facA_apart hin hun]
      rw [hun] at HU
      have HUU := HU
      clear hin hu hv hokx hun HU EE
      obtain ⟨a1, e1, f1⟩ := s1.form
      obtain ⟨a2, e2, f2⟩ := s2.form
      obtain ⟨a3, e3, f3⟩ := r1.form
      obtain ⟨a4, e4, f4⟩ := r2.form
      rw [HP.out.1, HP.out.2] at HF
      clear s1 s2 r1 r2 t1 t2 t3 t4 HP
      obtain ⟨zb1, zm1, zd1⟩ := z1
      obtain ⟨zb2, zm2, zd2⟩ := z2
      obtain ⟨yb1, ym1, yd1⟩ := y1
      obtain ⟨yb2, ym2, yd2⟩ := y2
      simp only [encS] at *
      subst f1 f2 f3 f4
      generalize (c.getD k1 lt0).2.1.length = N1 at *
      generalize (c.getD k1 lt0).2.2.length = N2 at *
      generalize (c.getD k2 lt0).2.1.length = N3 at *
      generalize (c.getD k2 lt0).2.2.length = N4 at *
      have E1 := tvV_of (p := true) HS1.out
      have E2 := tvV_of (p := true) HS2.out
      simp only [encS] at E1 E2
      have E1 := Lib.hid E1
      have E2 := Lib.hid E2
      clear HS1 HS2
      have hfd1 := lit_field1
      have hfd2 := lit_field2
      go_enter Tryz.func38, Tryz.ntmps38
      go_wp2_with fail
      refine (HCF.out _ B2).mono ?_; rintro e w0 ⟨rfl, hb0⟩
      have BD0 := hb0.drew
      go_wp2_with fail
      go_region_held3 (fun w' => w'.cell? ⟨w.heap.size, 0, none⟩ = some v ∧ w'.cell? ⟨w.heap.size + 1, 0, none⟩ = some (.int .i64 k1) ∧ w'.cell? ⟨w.heap.size + 1, 1, none⟩ = some (.int .i64 ws) ∧ w'.cell? ⟨w.heap.size + 1, 2, none⟩ = some (.int .i64 k2) ∧ w'.cell? ⟨w.heap.size + 1, 3, none⟩ = some (.int .i64 wo) ∧ w'.cell? ⟨b, off + k1 * 3, none⟩ = some (.bool true) ∧ w'.cell? ⟨b, off + k1 * 3 + 1, none⟩ = some (.slice a1 N1 e1) ∧ w'.cell? ⟨b, off + k1 * 3 + 2, none⟩ = some (.slice a2 N2 e2) ∧ w'.cell? ⟨b, off + k2 * 3, none⟩ = some (.bool true) ∧ w'.cell? ⟨b, off + k2 * 3 + 1, none⟩ = some (.slice a3 N3 e3) ∧ w'.cell? ⟨b, off + k2 * 3 + 2, none⟩ = some (.slice a4 N4 e4))
        (first | exact HF.out _ BE3 | exact HF.out _ BE2 | exact HF.out _ BE1 | exact HF.out _ BD0 | fail)
        (first
          | (go_at_call 76; refine (HUU.out _ BW2).mono ?_; rintro e w3 ⟨ua, un, uc, rfl, ho3, hb3⟩; have BE3 := BE2.step hb3; have BW3 := BW2.step hb3)
          | (go_at_call 77; refine (turned_u _ _ _ _ _ _ _ _ _ (by first | exact HTT.out.1 | exact HTT.out.2)).mono ?_; rintro e w2 ⟨rfl, hb2⟩; have BE2 := BE1.step hb2; have BW2 := B2.step BE2; first | rw [E1.out] | rw [E2.out])
          | (go_at_call 77; refine (turned_u _ _ _ _ _ _ _ _ _ (by first | exact HTT.out.1 | exact HTT.out.2)).mono ?_; rintro e w1 ⟨rfl, hb1⟩; have BE1 := BD0.step hb1; first | rw [E1.out] | rw [E2.out])
          | fail)
      all_goals
        go_wp2_with fail
        go_ret2
        exact ⟨_, _, _, rfl, SlC.nil _ _ _, BW3⟩
    | true =>
      have hsub := unify_subst hun
      obtain ⟨hl12, h40⟩ := unify_seat hun
      have hfr := flat_rows hc
      have hok40 := applyC_ok hsub hc
      have hlen : (applyC (unifyAns ar (facL c ((k1 : Int), ws, (k2 : Int), wo, 0)) (facL2 c ((k1 : Int), ws, (k2 : Int), wo, 0))) c).length = c.length := by simp [applyC]
      have hA := fun (w' : World) (y : Value) (lo hi : Nat) (q : Bool) (r : List Lt) (hq : okLits ar (applyC (unifyAns ar (facL c ((k1 : Int), ws, (k2 : Int), wo, 0)) (facL2 c ((k1 : Int), ws, (k2 : Int), wo, 0))) c) = q) (hr : (if q then applyC (unifyAns ar (facL c ((k1 : Int), ws, (k2 : Int), wo, 0)) (facL2 c ((k1 : Int), ws, (k2 : Int), wo, 0))) c else []) = r) (hb : Bel w w') (hy : SlS lo hi w' y (unifyAns ar (facL c ((k1 : Int), ws, (k2 : Int), wo, 0)) (facL2 c ((k1 : Int), ws, (k2 : Int), wo, 0)))) => appliedClause_c l' h' lo hi _ y _ c w' hl12 h40 (by omega) hfr hy (hu.below hb) q r (hok40.symm.trans hq) hr
      have HA := Lib.hid hA
      clear hA
      rw [hun] at HU
      have HUU := HU
      clear HU
      cases hbig : okLits ar (applyC (unifyAns ar (facL c ((k1 : Int), ws, (k2 : Int), wo, 0)) (facL2 c ((k1 : Int), ws, (k2 : Int), wo, 0))) c) with
      | false =>
        rw [facA_big hin hun hbig]
        have HB := Lib.hid hbig
        clear hin hu hv hokx hun hsub hl12 h40 hfr hlen hbig hok40 EE
        generalize applyC (unifyAns ar (facL c ((k1 : Int), ws, (k2 : Int), wo, 0)) (facL2 c ((k1 : Int), ws, (k2 : Int), wo, 0))) c = cb at *
        generalize (unifyAns ar (facL c ((k1 : Int), ws, (k2 : Int), wo, 0)) (facL2 c ((k1 : Int), ws, (k2 : Int), wo, 0))) = U at *
        obtain ⟨a1, e1, f1⟩ := s1.form
        obtain ⟨a2, e2, f2⟩ := s2.form
        obtain ⟨a3, e3, f3⟩ := r1.form
        obtain ⟨a4, e4, f4⟩ := r2.form
        rw [HP.out.1, HP.out.2] at HF
        clear s1 s2 r1 r2 t1 t2 t3 t4 HP
        obtain ⟨zb1, zm1, zd1⟩ := z1
        obtain ⟨zb2, zm2, zd2⟩ := z2
        obtain ⟨yb1, ym1, yd1⟩ := y1
        obtain ⟨yb2, ym2, yd2⟩ := y2
        simp only [encS] at *
        subst f1 f2 f3 f4
        generalize (c.getD k1 lt0).2.1.length = N1 at *
        generalize (c.getD k1 lt0).2.2.length = N2 at *
        generalize (c.getD k2 lt0).2.1.length = N3 at *
        generalize (c.getD k2 lt0).2.2.length = N4 at *
        have E1 := tvV_of (p := true) HS1.out
        have E2 := tvV_of (p := true) HS2.out
        simp only [encS] at E1 E2
        have E1 := Lib.hid E1
        have E2 := Lib.hid E2
        clear HS1 HS2
        have hfd1 := lit_field1
        have hfd2 := lit_field2
        go_enter Tryz.func38, Tryz.ntmps38
        go_wp2_with fail
        refine (HCF.out _ B2).mono ?_; rintro e w0 ⟨rfl, hb0⟩
        have BD0 := hb0.drew
        go_wp2_with fail
        go_region_held3 (fun w' => w'.cell? ⟨w.heap.size, 0, none⟩ = some v ∧ w'.cell? ⟨w.heap.size + 1, 0, none⟩ = some (.int .i64 k1) ∧ w'.cell? ⟨w.heap.size + 1, 1, none⟩ = some (.int .i64 ws) ∧ w'.cell? ⟨w.heap.size + 1, 2, none⟩ = some (.int .i64 k2) ∧ w'.cell? ⟨w.heap.size + 1, 3, none⟩ = some (.int .i64 wo) ∧ w'.cell? ⟨b, off + k1 * 3, none⟩ = some (.bool true) ∧ w'.cell? ⟨b, off + k1 * 3 + 1, none⟩ = some (.slice a1 N1 e1) ∧ w'.cell? ⟨b, off + k1 * 3 + 2, none⟩ = some (.slice a2 N2 e2) ∧ w'.cell? ⟨b, off + k2 * 3, none⟩ = some (.bool true) ∧ w'.cell? ⟨b, off + k2 * 3 + 1, none⟩ = some (.slice a3 N3 e3) ∧ w'.cell? ⟨b, off + k2 * 3 + 2, none⟩ = some (.slice a4 N4 e4))
          (first | exact HF.out _ BE3 | exact HF.out _ BE2 | exact HF.out _ BE1 | exact HF.out _ BD0 | fail)
          (first
            | (go_at_call 76; refine (HUU.out _ BW2).mono ?_; rintro e w3 ⟨ua, un, uc, rfl, ho3, hb3⟩; have BE3 := BE2.step hb3; have BW3 := BW2.step hb3)
            | (go_at_call 77; refine (turned_u _ _ _ _ _ _ _ _ _ (by first | exact HTT.out.1 | exact HTT.out.2)).mono ?_; rintro e w2 ⟨rfl, hb2⟩; have BE2 := BE1.step hb2; have BW2 := B2.step BE2; first | rw [E1.out] | rw [E2.out])
            | (go_at_call 77; refine (turned_u _ _ _ _ _ _ _ _ _ (by first | exact HTT.out.1 | exact HTT.out.2)).mono ?_; rintro e w1 ⟨rfl, hb1⟩; have BE1 := BD0.step hb1; first | rw [E1.out] | rw [E2.out])
            | fail)
        all_goals
          have HAA := Lib.hid (HA.out _ _ _ _ false [] HB.out rfl BW3 ho3.sl)
          clear HA
          go_wp2_with fail
          refine HAA.out.mono ?_; rintro e w4 ⟨a5, n5, e5, rfl, ho4, hb4⟩
          go_wp2_with fail
          go_ret2
          exact ⟨_, _, _, rfl, SlC.nil _ _ _, BW3.step hb4⟩
      | true =>
        rw [facA_yes hin hun hbig]
        have hfo := facOut_ok (w := ((k1 : Int), ws, (k2 : Int), wo, 0)) hbig (by dsimp only; rw [Int.toNat_natCast]; exact hk1) (by dsimp only; rw [Int.toNat_natCast]; exact hk2)
        have sa1 := side_app (b := (unifyAns ar (facL c ((k1 : Int), ws, (k2 : Int), wo, 0)) (facL2 c ((k1 : Int), ws, (k2 : Int), wo, 0)))) hk1 ws
        have sa2 := (side_app (b := (unifyAns ar (facL c ((k1 : Int), ws, (k2 : Int), wo, 0)) (facL2 c ((k1 : Int), ws, (k2 : Int), wo, 0)))) hk2 wo).2
        have HLD := Lib.hid (fun (w' : World) (y : Value) (lo hi : Nat) (q : Bool) (hq : (overT (appT (unifyAns ar (facL c ((k1 : Int), ws, (k2 : Int), wo, 0)) (facL2 c ((k1 : Int), ws, (k2 : Int), wo, 0))) (facL c ((k1 : Int), ws, (k2 : Int), wo, 0))) (appT (unifyAns ar (facL c ((k1 : Int), ws, (k2 : Int), wo, 0)) (facL2 c ((k1 : Int), ws, (k2 : Int), wo, 0))) (facR c ((k1 : Int), ws, (k2 : Int), wo, 0))) && maxAt (applyC (unifyAns ar (facL c ((k1 : Int), ws, (k2 : Int), wo, 0)) (facL2 c ((k1 : Int), ws, (k2 : Int), wo, 0))) c) k1) = q) (hb : Bel w w') (hy : SlC lo hi w' y (applyC (unifyAns ar (facL c ((k1 : Int), ws, (k2 : Int), wo, 0)) (facL2 c ((k1 : Int), ws, (k2 : Int), wo, 0))) c)) => leads_v lo hi y _ k1 ws q w' (by rw [sa1.1, sa1.2, ← EE.out.1.1, ← EE.out.1.2]; exact hq) hs1 (hT.bel hb) (okLits_short hbig) (okLits_low hbig) (okLits_lowT hbig) (by rw [hlen]; exact hk1) hy)
        have HOUT : Hid ((applyC (unifyAns ar (facL c ((k1 : Int), ws, (k2 : Int), wo, 0)) (facL2 c ((k1 : Int), ws, (k2 : Int), wo, 0))) c).set k1 (false, sideR ((applyC (unifyAns ar (facL c ((k1 : Int), ws, (k2 : Int), wo, 0)) (facL2 c ((k1 : Int), ws, (k2 : Int), wo, 0))) c).getD k1 lt0) ws, sideR ((applyC (unifyAns ar (facL c ((k1 : Int), ws, (k2 : Int), wo, 0)) (facL2 c ((k1 : Int), ws, (k2 : Int), wo, 0))) c).getD k2 lt0) wo) = (facOut (unifyAns ar (facL c ((k1 : Int), ws, (k2 : Int), wo, 0)) (facL2 c ((k1 : Int), ws, (k2 : Int), wo, 0))) c ((k1 : Int), ws, (k2 : Int), wo, 0)).1) := by
          show _ = _
          rw [sa1.2, sa2, ← EE.out.1.2, ← EE.out.2]; rfl
        generalize hN : (facOut (unifyAns ar (facL c ((k1 : Int), ws, (k2 : Int), wo, 0)) (facL2 c ((k1 : Int), ws, (k2 : Int), wo, 0))) c ((k1 : Int), ws, (k2 : Int), wo, 0)).2 = N at *
        have HNN : Hid ((if overT (appT (unifyAns ar (facL c ((k1 : Int), ws, (k2 : Int), wo, 0)) (facL2 c ((k1 : Int), ws, (k2 : Int), wo, 0))) (facL c ((k1 : Int), ws, (k2 : Int), wo, 0))) (appT (unifyAns ar (facL c ((k1 : Int), ws, (k2 : Int), wo, 0)) (facL2 c ((k1 : Int), ws, (k2 : Int), wo, 0))) (facR c ((k1 : Int), ws, (k2 : Int), wo, 0))) && maxAt (applyC (unifyAns ar (facL c ((k1 : Int), ws, (k2 : Int), wo, 0)) (facL2 c ((k1 : Int), ws, (k2 : Int), wo, 0))) c) k1 then (0:Int) else 5) = N) := Lib.hid hN
        have hcb8 : (applyC (unifyAns ar (facL c ((k1 : Int), ws, (k2 : Int), wo, 0)) (facL2 c ((k1 : Int), ws, (k2 : Int), wo, 0))) c).length ≤ 8 := by rw [hlen]; exact h8
        have HB := Lib.hid hbig
        clear hN hfo hin hu hv hokx hun hsub hl12 h40 hfr hbig hok40 sa1 sa2 EE
        generalize (facOut (unifyAns ar (facL c ((k1 : Int), ws, (k2 : Int), wo, 0)) (facL2 c ((k1 : Int), ws, (k2 : Int), wo, 0))) c ((k1 : Int), ws, (k2 : Int), wo, 0)).1 = out at *
        generalize (overT (appT (unifyAns ar (facL c ((k1 : Int), ws, (k2 : Int), wo, 0)) (facL2 c ((k1 : Int), ws, (k2 : Int), wo, 0))) (facL c ((k1 : Int), ws, (k2 : Int), wo, 0))) (appT (unifyAns ar (facL c ((k1 : Int), ws, (k2 : Int), wo, 0)) (facL2 c ((k1 : Int), ws, (k2 : Int), wo, 0))) (facR c ((k1 : Int), ws, (k2 : Int), wo, 0))) && maxAt (applyC (unifyAns ar (facL c ((k1 : Int), ws, (k2 : Int), wo, 0)) (facL2 c ((k1 : Int), ws, (k2 : Int), wo, 0))) c) k1) = OV at *
        generalize applyC (unifyAns ar (facL c ((k1 : Int), ws, (k2 : Int), wo, 0)) (facL2 c ((k1 : Int), ws, (k2 : Int), wo, 0))) c = cb at *
        generalize (unifyAns ar (facL c ((k1 : Int), ws, (k2 : Int), wo, 0)) (facL2 c ((k1 : Int), ws, (k2 : Int), wo, 0))) = U at *
        obtain ⟨a1, e1, f1⟩ := s1.form
        obtain ⟨a2, e2, f2⟩ := s2.form
        obtain ⟨a3, e3, f3⟩ := r1.form
        obtain ⟨a4, e4, f4⟩ := r2.form
        rw [HP.out.1, HP.out.2] at HF
        clear s1 s2 r1 r2 t1 t2 t3 t4 HP
        obtain ⟨zb1, zm1, zd1⟩ := z1
        obtain ⟨zb2, zm2, zd2⟩ := z2
        obtain ⟨yb1, ym1, yd1⟩ := y1
        obtain ⟨yb2, ym2, yd2⟩ := y2
        simp only [encS] at *
        subst f1 f2 f3 f4
        generalize (c.getD k1 lt0).2.1.length = N1 at *
        generalize (c.getD k1 lt0).2.2.length = N2 at *
        generalize (c.getD k2 lt0).2.1.length = N3 at *
        generalize (c.getD k2 lt0).2.2.length = N4 at *
        have E1 := tvV_of (p := true) HS1.out
        have E2 := tvV_of (p := true) HS2.out
        simp only [encS] at E1 E2
        have E1 := Lib.hid E1
        have E2 := Lib.hid E2
        clear HS1 HS2
        have hfd1 := lit_field1
        have hfd2 := lit_field2
        go_enter Tryz.func38, Tryz.ntmps38
        go_wp2_with fail
        refine (HCF.out _ B2).mono ?_; rintro e w0 ⟨rfl, hb0⟩
        have BD0 := hb0.drew
        go_wp2_with fail
        go_region_held3 (fun w' => w'.cell? ⟨w.heap.size, 0, none⟩ = some v ∧ w'.cell? ⟨w.heap.size + 1, 0, none⟩ = some (.int .i64 k1) ∧ w'.cell? ⟨w.heap.size + 1, 1, none⟩ = some (.int .i64 ws) ∧ w'.cell? ⟨w.heap.size + 1, 2, none⟩ = some (.int .i64 k2) ∧ w'.cell? ⟨w.heap.size + 1, 3, none⟩ = some (.int .i64 wo) ∧ w'.cell? ⟨b, off + k1 * 3, none⟩ = some (.bool true) ∧ w'.cell? ⟨b, off + k1 * 3 + 1, none⟩ = some (.slice a1 N1 e1) ∧ w'.cell? ⟨b, off + k1 * 3 + 2, none⟩ = some (.slice a2 N2 e2) ∧ w'.cell? ⟨b, off + k2 * 3, none⟩ = some (.bool true) ∧ w'.cell? ⟨b, off + k2 * 3 + 1, none⟩ = some (.slice a3 N3 e3) ∧ w'.cell? ⟨b, off + k2 * 3 + 2, none⟩ = some (.slice a4 N4 e4))
          (first | exact HF.out _ BE3 | exact HF.out _ BE2 | exact HF.out _ BE1 | exact HF.out _ BD0 | fail)
          (first
            | (go_at_call 76; refine (HUU.out _ BW2).mono ?_; rintro e w3 ⟨ua, un, uc, rfl, ho3, hb3⟩; have BE3 := BE2.step hb3; have BW3 := BW2.step hb3)
            | (go_at_call 77; refine (turned_u _ _ _ _ _ _ _ _ _ (by first | exact HTT.out.1 | exact HTT.out.2)).mono ?_; rintro e w2 ⟨rfl, hb2⟩; have BE2 := BE1.step hb2; have BW2 := B2.step BE2; first | rw [E1.out] | rw [E2.out])
            | (go_at_call 77; refine (turned_u _ _ _ _ _ _ _ _ _ (by first | exact HTT.out.1 | exact HTT.out.2)).mono ?_; rintro e w1 ⟨rfl, hb1⟩; have BE1 := BD0.step hb1; first | rw [E1.out] | rw [E2.out])
            | fail)
        all_goals
        have HAA := Lib.hid (HA.out _ _ _ _ true cb HB.out (if_pos rfl) BW3 ho3.sl)
        clear HA
        go_wp2_with fail
        refine HAA.out.mono ?_; rintro e w4 ⟨a5, n5, e5, rfl, ho4, hb4⟩
        have BW4 := BW3.step hb4
        have BE4 := BE3.step hb4
        have hkc1 : k1 < cb.length := by rw [hlen]; exact hk1
        have hkc2 : k2 < cb.length := by rw [hlen]; exact hk2
        have hkcI : (k1 : Int) < cb.length := by omega
        have hkcJ : (k2 : Int) < cb.length := by omega
        clear hlen
        have hn5 := ho4.sl.len
        subst hn5
        have HCLO := Lib.hid (cloneC_c _ _ _ cb w4 (by omega) (by omega) (Nat.le_refl _) ho4.sl)
        obtain ⟨bc, oc, x1, x2, ebc, hbcs, g1, g2, g3, y1', y2'⟩ := ho4.sl.at (Bel.rfl' w4) k1 hkc1
        obtain ⟨bc', oc', x3, x4, ebc', hbcs', g4, g5, g6, y3', y4'⟩ := ho4.sl.at (Bel.rfl' w4) k2 hkc2
        subst ebc
        cases ebc'
        obtain ⟨P1, P2, hPz, pt1, pt2⟩ := sides_x hs1 y1' y2'
        obtain ⟨Q1, Q2, hQz, qt1, qt2⟩ := sides_x hs2 y3' y4'
        have HT1 := Lib.hid hPz
        have HT2 := Lib.hid hQz
        obtain ⟨xa1, xc1, fx1⟩ := y1'.form
        obtain ⟨xa2, xc2, fx2⟩ := y2'.form
        obtain ⟨xa3, xc3, fx3⟩ := y3'.form
        obtain ⟨xa4, xc4, fx4⟩ := y4'.form
        clear y1' y2' y3' y4' hPz hQz pt1 qt1
        generalize sideR (cb.getD k1 lt0) ws = tR at *
        generalize sideR (cb.getD k2 lt0) wo = tR2 at *
        generalize (cb.getD k1 lt0).1 = xp at *
        generalize (cb.getD k2 lt0).1 = yp at *
        generalize (cb.getD k1 lt0).2.1.length = xn1 at *
        generalize (cb.getD k1 lt0).2.2.length = xn2 at *
        generalize (cb.getD k2 lt0).2.1.length = xn3 at *
        generalize (cb.getD k2 lt0).2.2.length = xn4 at *
        obtain ⟨pb1, pm1, pd1⟩ := P1
        obtain ⟨pb2, pm2, pd2⟩ := P2
        obtain ⟨qb1, qm1, qd1⟩ := Q1
        obtain ⟨qb2, qm2, qd2⟩ := Q2
        simp only [encS] at pt2 qt2
        subst fx1 fx2 fx3 fx4
        have E3 := tvV_of (p := xp) HT1.out
        have E4 := tvV_of (p := yp) HT2.out
        simp only [encS] at E3 E4
        have E3 := Lib.hid E3
        have E4 := Lib.hid E4
        clear HT1 HT2 E1 E2
        have HS4 := Lib.hid (fun (w' : World) (hb : Bel w4 w') => (fun h : _ ∧ _ ∧ _ ∧ _ ∧ _ ∧ _ ∧ _ ∧ _ ∧ _ ∧ _ ∧ _ => ⟨h.2.1, h.2.2.1, h.2.2.2.1, h.2.2.2.2.1, hb.at hbcs g1, hb.at hbcs g2, hb.at hbcs g3, hb.at hbcs g4, hb.at hbcs g5, hb.at hbcs g6⟩ : _ → (w'.cell? ⟨w.heap.size + 1, 0, none⟩ = some (.int .i64 k1) ∧ w'.cell? ⟨w.heap.size + 1, 1, none⟩ = some (.int .i64 ws) ∧ w'.cell? ⟨w.heap.size + 1, 2, none⟩ = some (.int .i64 k2) ∧ w'.cell? ⟨w.heap.size + 1, 3, none⟩ = some (.int .i64 wo) ∧ w'.cell? ⟨bc, oc + k1 * 3, none⟩ = some (.bool xp) ∧ w'.cell? ⟨bc, oc + k1 * 3 + 1, none⟩ = some (.slice xa1 xn1 xc1) ∧ w'.cell? ⟨bc, oc + k1 * 3 + 2, none⟩ = some (.slice xa2 xn2 xc2) ∧ w'.cell? ⟨bc, oc + k2 * 3, none⟩ = some (.bool yp) ∧ w'.cell? ⟨bc, oc + k2 * 3 + 1, none⟩ = some (.slice xa3 xn3 xc3) ∧ w'.cell? ⟨bc, oc + k2 * 3 + 2, none⟩ = some (.slice xa4 xn4 xc4))) (HF.out _ (BE4.step hb)))
        clear HF HUU HAA HCF g1 g2 g3 g4 g5 g6
        go_wp2_with fail
        refine HCLO.out.mono ?_; rintro e w5 ⟨g, kg, zs, rfl, hrow, hlies, hbo⟩
        obtain ⟨hgb, hgf⟩ := hrow.froz
        have hsl5 := SlC.of_row hrow hlies hbo.size
        obtain ⟨g7, o7, x7, x8, eb7, hb7s, f7, f8, f9, y7, y8⟩ := hsl5.at (Bel.rfl' w5) k1 hkc1
        cases eb7
        obtain ⟨xa7, xc7, fx7⟩ := y7.form
        obtain ⟨xa8, xc8, fx8⟩ := y8.form
        subst fx7 fx8
        clear y7 y8
        rw [Nat.zero_add] at f7 f8 f9
        generalize (cb.getD k1 lt0).2.1.length = xn7 at *
        generalize (cb.getD k1 lt0).2.2.length = xn8 at *
        generalize (cb.getD k1 lt0).1 = xp7 at *
        have HG5 := Lib.hid (fun (w' : World) (hb : Bel w5 w') => (⟨hb.at hb7s f7, hb.at hb7s f8, hb.at hb7s f9, (hb.frozen (p := ⟨g, k1 * 3, none⟩) hb7s).trans (hgf _), (hb.frozen (p := ⟨g, k1 * 3 + 1, none⟩) hb7s).trans (hgf _), (hb.frozen (p := ⟨g, k1 * 3 + 2, none⟩) hb7s).trans (hgf _)⟩ : (w'.cell? ⟨g, k1 * 3, none⟩ = some (.bool xp7) ∧ w'.cell? ⟨g, k1 * 3 + 1, none⟩ = some (.slice xa7 xn7 xc7) ∧ w'.cell? ⟨g, k1 * 3 + 2, none⟩ = some (.slice xa8 xn8 xc8) ∧ w'.frozen? ⟨g, k1 * 3, none⟩ = false ∧ w'.frozen? ⟨g, k1 * 3 + 1, none⟩ = false ∧ w'.frozen? ⟨g, k1 * 3 + 2, none⟩ = false)))
        have D5 := Bel.drew0 w5
        clear f7 f8 f9 hgf
        go_wp2_with fail
        go_region_held3 (fun w' => w'.cell? ⟨w.heap.size + 1, 0, none⟩ = some (.int .i64 k1) ∧ w'.cell? ⟨w.heap.size + 1, 1, none⟩ = some (.int .i64 ws) ∧ w'.cell? ⟨w.heap.size + 1, 2, none⟩ = some (.int .i64 k2) ∧ w'.cell? ⟨w.heap.size + 1, 3, none⟩ = some (.int .i64 wo) ∧ w'.cell? ⟨bc, oc + k1 * 3, none⟩ = some (.bool xp) ∧ w'.cell? ⟨bc, oc + k1 * 3 + 1, none⟩ = some (.slice xa1 xn1 xc1) ∧ w'.cell? ⟨bc, oc + k1 * 3 + 2, none⟩ = some (.slice xa2 xn2 xc2) ∧ w'.cell? ⟨bc, oc + k2 * 3, none⟩ = some (.bool yp) ∧ w'.cell? ⟨bc, oc + k2 * 3 + 1, none⟩ = some (.slice xa3 xn3 xc3) ∧ w'.cell? ⟨bc, oc + k2 * 3 + 2, none⟩ = some (.slice xa4 xn4 xc4))
          (first | exact HS4.out _ ((((hbo.step D7).set (p := ⟨g, k1 * 3, none⟩) hgb (.bool false)).set (p := ⟨g, k1 * 3 + 1, none⟩) hgb (.slice pb2 pm2 pd2)).set (p := ⟨g, k1 * 3 + 2, none⟩) hgb (.slice qb2 qm2 qd2)) | exact HS4.out _ (hbo.step D7) | exact HS4.out _ (hbo.step D6) | exact HS4.out _ (hbo.step D5) | fail)
          (first
            | (go_at_call 77; refine (turned_u _ _ _ _ _ _ _ _ _ (by first | exact HTT.out.1 | exact HTT.out.2)).mono ?_; rintro e w7 ⟨rfl, hb7⟩; have D7 := D6.step hb7; obtain ⟨r1, r2, r3, r4, r5, r6⟩ := HG5.out _ D7; first | rw [E3.out] | rw [E4.out])
            | (go_at_call 77; refine (turned_u _ _ _ _ _ _ _ _ _ (by first | exact HTT.out.1 | exact HTT.out.2)).mono ?_; rintro e w6 ⟨rfl, hb6⟩; have D6 := D5.step hb6; first | rw [E3.out] | rw [E4.out])
            | fail)
        all_goals
          have B49 := ((((hbo.step D7).set (p := ⟨g, k1 * 3, none⟩) hgb (.bool false)).set (p := ⟨g, k1 * 3 + 1, none⟩) hgb (.slice pb2 pm2 pd2)).set (p := ⟨g, k1 * 3 + 2, none⟩) hgb (.slice qb2 qm2 qd2))
          have HS9 := (hsl5.below D7).in'.set3 k1 hkc1 false (.slice pb2 pm2 pd2) (.slice qb2 qm2 qd2) _ _ ((pt2.below (hbo.step D7)).in') ((qt2.below (hbo.step D7)).in')
          rw [HOUT.out] at HS9
          rw [Nat.zero_add] at HS9
          clear HG5 D5 D6 D7 r1 r2 r3 r4 r5 r6 hb6 hb7 hgb hrow hlies hsl5 pt2 qt2 E3 E4
          generalize (((w7.setCell ⟨g, k1 * 3, none⟩ (.bool false)).setCell ⟨g, k1 * 3 + 1, none⟩ (.slice pb2 pm2 pd2)).setCell ⟨g, k1 * 3 + 2, none⟩ (.slice qb2 qm2 qd2)) = w9 at *
          obtain ⟨f0, f1, f2, f3, -⟩ := HS4.out _ B49
          have HLL := Lib.hid (HLD.out w9 _ _ _ OV rfl (BW4.step B49) (ho4.sl.below B49))
          clear HLD HS4
          go_wp2_with fail
          refine HLL.out.mono ?_; rintro e w10 ⟨rfl, hb10⟩
          have BZ := (BW4.step B49).step hb10
          have HR := Lib.hid ((HS9.below hb10).in')
          cases OV with
          | false =>
            have hN0 : N = 5 := HNN.out.symm.trans (if_neg (by simp))
            subst hN0
            go_wp2_with fail
            go_ret2
            exact ⟨_, _, _, rfl, HR.out, BZ⟩
          | true =>
            have hN0 : N = 0 := HNN.out.symm.trans (if_pos rfl)
            subst hN0
            go_wp2_with fail
            go_ret2
            exact ⟨_, _, _, rfl, HR.out, BZ⟩
end Go.Proofs.YteegjnobmbcjiaaGreatDoor
end
section
/- A law's helpers for worlds: sizes, copies, marks. -/
namespace Go.Proofs.YteegjnobmbcjiaaGreatDoor
open Go.RowKit

theorem cell_ko {w : World} {b off : Nat} {v : Value} (h : b < w.heap.size ∧ w.cell? ⟨b, off, none⟩ = some v) : K (fun w => b < w.heap.size ∧ w.cell? ⟨b, off, none⟩ = some v) w :=
  fun _ hb => ⟨Nat.lt_of_lt_of_le h.1 hb.size, hb.at h.1 h.2⟩
theorem boxk1 {w w' : World} {cs : Array Value} {t : TypeId} (hb : Bel (w.alloc (.cells cs t)) w') (v : Value) (hv : cs[1]? = some v) : w.heap.size < w'.heap.size ∧ w'.cell? ⟨w.heap.size, 1, none⟩ = some v :=
  ⟨by have := hb.size; simp at this; omega, boxc hb 1 v hv⟩
theorem boxk2 {w w' : World} {o : Obj} {cs : Array Value} {t : TypeId} (hb : Bel ((w.alloc o).alloc (.cells cs t)) w') (i : Nat) (v : Value) (hv : cs[i]? = some v) : w.heap.size + 1 < w'.heap.size ∧ w'.cell? ⟨w.heap.size + 1, i, none⟩ = some v :=
  ⟨by have := hb.size; simp at this; omega, by have := boxc hb i v hv; simpa using this⟩

/-- A world of the call's own. -/
def RetW (w : World) (z : Int) (tb : List (List Int)) (e : Ending) (w' : World) : Prop := ∃ ad n c, e = .returned (.agg #[.int .i64 z, .slice ad n c]) ∧ OwnS w.heap.size w'.heap.size w' (.slice ad n c) tb ∧ Bel w w'
def RetWB (w : World) (z : Int) (tb : List (List Int)) (ok : Bool) (e : Ending) (w' : World) : Prop := ∃ ad n c, e = .returned (.tuple #[.agg #[.int .i64 z, .slice ad n c], .bool ok]) ∧ OwnS w.heap.size w'.heap.size w' (.slice ad n c) tb ∧ Bel w w'
theorem OwnS.set {lo hi w v xss} (h : OwnS lo hi w v xss) {p : Addr} (hp : p.block < lo ∨ hi ≤ p.block) (u : Value) : OwnS lo hi (w.setCell p u) v xss :=
  h.same fun b h1 h2 _ => Below.heap_setCell w p u b (by omega)

end Go.Proofs.YteegjnobmbcjiaaGreatDoor
end
section
/- Chapter 6: Factor, both programs. -/
namespace Go.Proofs.YteegjnobmbcjiaaGreatDoor
open Go.RowKit

set_option maxRecDepth 100000 in
set_option maxHeartbeats 1000000 in
theorem sFactor_t {l h l' h' : Nat} {v u : Value} {ar : List Int} {c : List Lt} {w : World} (wy : Wy) (ha : ar.length ≤ 1048576) (hv : SlI l h w v ar) (hc : sumC c ≤ 1048576) (hu : SlC l' h' w u c) :
    Calls Tryz.prog 7 #[.agg #[v], u, .agg #[.int .i64 wy.1, .int .i64 wy.2.1, .int .i64 wy.2.2.1, .int .i64 wy.2.2.2.1, .int .i64 wy.2.2.2.2]] w (RetCNB w (facAns ar c wy) (facNo ar c wy) (goodClause ar c)) := by
  unfold facAns facNo
  cases hs : goodClause ar c with
  | false =>
    rw [if_neg (by simp), if_neg (by simp)]
    have HS := Lib.hid hs; clear hs
    obtain ⟨wi, ws, wj, wo, wa⟩ := wy
    dsimp only
    go_enter Tryz.func7, Tryz.ntmps7
    go_wp2_with fail
    have B2 : Bel w ((w.alloc (.cells #[v] 33)).alloc (.cells #[.int .i64 wi, .int .i64 ws, .int .i64 wj, .int .i64 wo, .int .i64 wa] 36)) := Bel.alloc2 _ _ _
    refine (sGoodClause_v HS.out ha (hv.below B2) hc (hu.below B2)).mono ?_; rintro e w1 ⟨rfl, hb1⟩
    go_wp2_with fail
    go_ret3
    exact ⟨_, _, _, rfl, OwnC.nil _ _ _, B2.step hb1⟩
  | true =>
    rw [if_pos rfl, if_pos rfl]
    have hg := (goodClause_iff.1 hs).1
    have hq1 : okLits ar c = true := by unfold goodClause at hs; exact (Bool.and_eq_true_iff.1 hs).2
    have HA := Lib.hid (fun (w' : World) (hb' : Bel w w') => l6Factor_c _ _ _ _ v u ar c wy w' hg hq1 (hv.below hb') (hu.below hb'))
    have HS := Lib.hid hs; clear hs
    generalize facA ar c wy = RR at *
    obtain ⟨r, n⟩ := RR
    obtain ⟨wi, ws, wj, wo, wa⟩ := wy
    dsimp only at *
    generalize concl r = R at *
    go_enter Tryz.func7, Tryz.ntmps7
    go_wp2_with fail
    have B2 : Bel w ((w.alloc (.cells #[v] 33)).alloc (.cells #[.int .i64 wi, .int .i64 ws, .int .i64 wj, .int .i64 wo, .int .i64 wa] 36)) := Bel.alloc2 _ _ _
    refine (sGoodClause_v HS.out ha (hv.below B2) hc (hu.below B2)).mono ?_; rintro e w1 ⟨rfl, hb1⟩
    have x0 := (boxk hb1.of_alloc _ rfl).2
    have x1 := (boxk2 hb1 0 _ rfl).2
    have x2 := (boxk2 hb1 1 _ rfl).2
    have x3 := (boxk2 hb1 2 _ rfl).2
    have x4 := (boxk2 hb1 3 _ rfl).2
    have x5 := (boxk2 hb1 4 _ rfl).2
    have BB := B2.step hb1
    go_wp2_with fail
    refine (HA.out _ BB).mono ?_; rintro e w2 ⟨a2, n2, c2, rfl, ho2, hb2⟩
    go_wp2_with fail
    go_ret3
    exact ⟨_, _, _, rfl, ho2.mono BB.size (Nat.le_refl _), BB.step hb2⟩

set_option maxRecDepth 100000 in
set_option maxHeartbeats 1000000 in
theorem iFactor_t {l h l' h' : Nat} {v u : Value} {ar : List Int} {c : List Lt} {w : World} (wy : Wy) (hT : Tab w) (ha : ar.length ≤ 1048576) (hv : SlI l h w v ar) (hc : sumC c ≤ 1048576) (hu : SlC l' h' w u c) :
    Calls Tryz.prog 11 #[.agg #[v], u, .agg #[.int .i64 wy.1, .int .i64 wy.2.1, .int .i64 wy.2.2.1, .int .i64 wy.2.2.2.1, .int .i64 wy.2.2.2.2]] w (RetCNB w (facAns ar c wy) (facNo ar c wy) (goodClause ar c)) := by
  unfold facAns facNo
  cases hs : goodClause ar c with
  | false =>
    rw [if_neg (by simp), if_neg (by simp)]
    have HS := Lib.hid hs; clear hs
    obtain ⟨wi, ws, wj, wo, wa⟩ := wy
    dsimp only
    go_enter Tryz.func11, Tryz.ntmps11
    go_wp2_with fail
    have B2 : Bel w ((w.alloc (.cells #[v] 33)).alloc (.cells #[.int .i64 wi, .int .i64 ws, .int .i64 wj, .int .i64 wo, .int .i64 wa] 36)) := Bel.alloc2 _ _ _
    refine (iGoodClause_v HS.out ha (hv.below B2) hc (hu.below B2)).mono ?_; rintro e w1 ⟨rfl, hb1⟩
    go_wp2_with fail
    go_ret3
    exact ⟨_, _, _, rfl, OwnC.nil _ _ _, B2.step hb1⟩
  | true =>
    rw [if_pos rfl, if_pos rfl]
    have hg := (goodClause_iff.1 hs).1
    have hq1 : okLits ar c = true := by unfold goodClause at hs; exact (Bool.and_eq_true_iff.1 hs).2
    have HA := Lib.hid (fun (w' : World) (hb' : Bel w w') => factored_c _ _ _ _ v u ar c wy w' (hT.bel hb') ha hg hq1 (hv.below hb') (hu.below hb'))
    have hrok := facA_ok ar c wy
    have HCN := Lib.hid (fun (w' : World) (y : Value) (lo hi : Nat) (hy : SlC lo hi w' y (facA ar c wy).1) => concluded_c lo hi y ar _ w' hg hrok hy)
    clear hrok
    have HS := Lib.hid hs; clear hs
    generalize facA ar c wy = RR at *
    obtain ⟨r, n⟩ := RR
    obtain ⟨wi, ws, wj, wo, wa⟩ := wy
    dsimp only at *
    generalize concl r = R at *
    go_enter Tryz.func11, Tryz.ntmps11
    go_wp2_with fail
    have B2 : Bel w ((w.alloc (.cells #[v] 33)).alloc (.cells #[.int .i64 wi, .int .i64 ws, .int .i64 wj, .int .i64 wo, .int .i64 wa] 36)) := Bel.alloc2 _ _ _
    refine (iGoodClause_v HS.out ha (hv.below B2) hc (hu.below B2)).mono ?_; rintro e w1 ⟨rfl, hb1⟩
    have x0 := (boxk hb1.of_alloc _ rfl).2
    have x1 := (boxk2 hb1 0 _ rfl).2
    have x2 := (boxk2 hb1 1 _ rfl).2
    have x3 := (boxk2 hb1 2 _ rfl).2
    have x4 := (boxk2 hb1 3 _ rfl).2
    have x5 := (boxk2 hb1 4 _ rfl).2
    have BB := B2.step hb1
    go_wp2_with fail
    refine (HA.out _ BB).mono ?_; rintro e w2 ⟨a2, n2, c2, rfl, ho2, hb2⟩
    have HCC := Lib.hid (HCN.out _ _ _ _ ho2)
    clear HCN
    go_wp2_with fail
    refine HCC.out.mono ?_; rintro e w3 ⟨a3, n3, c3, rfl, ho3, hb3⟩
    go_wp2_with fail
    go_ret3
    exact ⟨_, _, _, rfl, ho3.mono (BB.step hb2).size (Nat.le_refl _), (BB.step hb2).step hb3⟩
end Go.Proofs.YteegjnobmbcjiaaGreatDoor
end
section
/- The laws' helpers over slices of literals: marks. -/
namespace Go.Proofs.YteegjnobmbcjiaaGreatDoor
open Go.RowKit

def qlo (bs : Nat → Nat) (i : Nat) (xs : List Int) : Nat := if 0 < xs.length then bs i else 0
def qhi (bs : Nat → Nat) (i : Nat) (xs : List Int) : Nat := if 0 < xs.length then bs i + 1 else 0
theorem Ins.feed {lo hi b w us xss bs} (h : Ins lo hi b w us xss bs) (i : Nat) (u : Value) (hu : us[i]? = some u) : OwnI (qlo bs i (xss.getD i [])) (qhi bs i (xss.getD i [])) w u (xss.getD i []) := by
  have ho := h.own i u hu
  unfold qlo qhi
  split
  · exact ho
  · rename_i h0; rw [len0 h0] at ho ⊢; exact ho.empty
theorem Ins.fed {lo hi b w w' us xss bs} (h : Ins lo hi b w us xss bs) (hb : b < w.heap.size) (i : Nat) (hi' : i < xss.length) (u : Value) (hu : us[i]? = some u) (ys : List Int) (hl : ys.length = (xss.getD i []).length)
    (hch : Chg (qlo bs i (xss.getD i [])) (qhi bs i (xss.getD i [])) w w') (ho : OwnI (qlo bs i (xss.getD i [])) (qhi bs i (xss.getD i [])) w' u ys) :
    Ins lo hi b w' us (xss.set i ys) bs ∧ Chg lo hi w w' ∧ w'.heap[b]? = w.heap[b]? := by
  by_cases hp : 0 < (xss.getD i []).length
  · obtain ⟨a1, a2, a3⟩ := h.rng i hi' hp
    unfold qlo qhi at hch ho
    rw [if_pos hp, if_pos hp] at hch ho
    exact ⟨h.stored i hi' u hu ys hl (fun _ => hch) (fun h0 => absurd (by omega) h0) ho, hch.mono a1 (by omega), hch.block b hb (by omega)⟩
  · unfold qlo qhi at hch ho
    rw [if_neg hp, if_neg hp] at hch ho
    have hy : ys = [] := List.length_eq_zero_iff.1 (by omega)
    subst hy
    exact ⟨h.stored i hi' u hu [] hl (fun h0 => absurd h0 (by simp)) (fun _ => hch) ho.empty, ⟨hch.os, hch.tape, hch.output, hch.size, fun x hx _ => hch.block x hx (by omega)⟩, hch.block b hb (by omega)⟩
theorem CRow.left {lo hi b off : Nat} {w w' : World} {zs : List LV} {c : List Lt} {bs : Nat → Nat} (h : CRow lo hi b off w zs c bs) (hb : b < w.heap.size) (j : Nat) (z : LV) (hz : zs[j]? = some z) (ys : List Int) (hl : ys.length = (c.getD j lt0).2.1.length)
    (hch : Chg (qlo bs (2*j) (c.getD j lt0).2.1) (qhi bs (2*j) (c.getD j lt0).2.1) w w') (ho : OwnI (qlo bs (2*j) (c.getD j lt0).2.1) (qhi bs (2*j) (c.getD j lt0).2.1) w' z.2.1 ys) :
    CRow lo hi b off w' zs (c.set j ((c.getD j lt0).1, ys, (c.getD j lt0).2.2)) bs ∧ Chg lo hi w w' := by
  have hj : j < zs.length := (List.getElem?_eq_some_iff.1 hz).1
  have hjc : j < c.length := by rw [← h.len]; exact hj
  have hfl := flatC_len c
  obtain ⟨g1, g2⟩ := flatC_get c j
  rw [← g1] at hch ho hl
  obtain ⟨k1, k2, k3⟩ := h.ins.fed hb (2*j) (by omega) z.2.1 (rowsC_get zs j z hz).1 ys hl hch ho
  refine ⟨h.terms k3 (by simp) (fun i => ?_) ?_, k2⟩
  · by_cases e : j = i
    · subst e; simp [List.getD, hjc]
    · simp [List.getD, e]
  · have : flatC (c.set j ((c.getD j lt0).1, ys, (c.getD j lt0).2.2)) = (flatC c).set (2*j) ys := by
      rw [flatC_set c j _ hjc]
      show ((flatC c).set (2 * j) ys).set (2 * j + 1) (c.getD j lt0).2.2 = _
      rw [← g2]
      apply List.ext_getElem?
      intro i
      simp only [List.getElem?_set]
      by_cases e : 2 * j + 1 = i
      · subst e; simp [List.getD, show 2 * j + 1 < (flatC c).length by omega]
      · rw [if_neg e]
    rw [this]; exact k1
theorem CRow.right {lo hi b off : Nat} {w w' : World} {zs : List LV} {c : List Lt} {bs : Nat → Nat} (h : CRow lo hi b off w zs c bs) (hb : b < w.heap.size) (j : Nat) (z : LV) (hz : zs[j]? = some z) (ys : List Int) (hl : ys.length = (c.getD j lt0).2.2.length)
    (hch : Chg (qlo bs (2*j+1) (c.getD j lt0).2.2) (qhi bs (2*j+1) (c.getD j lt0).2.2) w w') (ho : OwnI (qlo bs (2*j+1) (c.getD j lt0).2.2) (qhi bs (2*j+1) (c.getD j lt0).2.2) w' z.2.2 ys) :
    CRow lo hi b off w' zs (c.set j ((c.getD j lt0).1, (c.getD j lt0).2.1, ys)) bs ∧ Chg lo hi w w' := by
  have hj : j < zs.length := (List.getElem?_eq_some_iff.1 hz).1
  have hjc : j < c.length := by rw [← h.len]; exact hj
  have hfl := flatC_len c
  obtain ⟨g1, g2⟩ := flatC_get c j
  rw [← g2] at hch ho hl
  obtain ⟨k1, k2, k3⟩ := h.ins.fed hb (2*j+1) (by omega) z.2.2 (rowsC_get zs j z hz).2 ys hl hch ho
  refine ⟨h.terms k3 (by simp) (fun i => ?_) ?_, k2⟩
  · by_cases e : j = i
    · subst e; simp [List.getD, hjc]
    · simp [List.getD, e]
  · have : flatC (c.set j ((c.getD j lt0).1, (c.getD j lt0).2.1, ys)) = (flatC c).set (2*j+1) ys := by
      rw [flatC_set c j _ hjc]
      show ((flatC c).set (2 * j) (c.getD j lt0).2.1).set (2 * j + 1) ys = _
      rw [← g1]
      apply List.ext_getElem?
      intro i
      simp only [List.getElem?_set, List.length_set]
      by_cases e : 2 * j + 1 = i
      · subst e; simp
      · rw [if_neg e, if_neg e]
        by_cases e2 : 2 * j = i
        · subst e2; simp [List.getD, show 2 * j < (flatC c).length by omega]
        · rw [if_neg e2]
    rw [this]; exact k1

theorem markIntS_z (lo hi : Nat) (v : Value) (xs : List Int) (z : Int) (k : Nat) (w : World) (hz : z = k) (hx : xs.length ≤ 1099511627776) (hk : k ≤ 1099511627776) (hv : OwnI lo hi w v xs) :
    Calls Tryz.prog 42 #[v, .int .i64 z] w (RetM lo hi w v xs k) := by subst hz; exact markIntS_c lo hi v xs k w hx hk hv
theorem heldIntS_z (l h : Nat) (v : Value) (n : Nat) (z : Int) (k : Nat) (w : World) (hz : z = k) (hx : n ≤ 1099511627776) (hk : k ≤ 1099511627776) (hv : SlI l h w v (marks k n)) :
    Calls Tryz.prog 43 #[v, .int .i64 z] w (RetV w (.int .i64 ((k + n : Nat) : Int))) := by subst hz; exact heldIntS_c l h v n k w hx hk hv
theorem set_twice {α : Type} (l : List α) (j : Nat) (a b : α) : (l.set j a).set j b = l.set j b := by simp

def RetMC (lo hi : Nat) (w : World) (v : Value) (c : List Lt) (k : Nat) (e : Ending) (w' : World) : Prop := e = .returned (.int .i64 ((k + sumC c : Nat) : Int)) ∧ Chg lo hi w w' ∧ OwnC lo hi w' v (marksC k c)
theorem OwnC.crow {lo hi : Nat} {w : World} {ad : Option Addr} {n k : Nat} {c : List Lt} (h : OwnC lo hi w (.slice ad n k) c) (hp : 0 < c.length) : ∃ b off zs bs, ad = some ⟨b, off, none⟩ ∧ n = c.length ∧ c.length ≤ k ∧ k ≤ maxLen ∧ CRow lo hi b off w zs c bs := by
  obtain ⟨ad', cap, e, hc, hm, hr⟩ := h
  simp only [Value.slice.injEq] at e
  obtain ⟨rfl, rfl, rfl⟩ := e
  obtain ⟨b, off, zs, bs, e, a1, a2, hl, a3, hf, hi⟩ := hr hp
  exact ⟨b, off, zs, bs, e, rfl, hc, hm.1, a1, a2, hl, a3, hf, hi⟩
theorem CRow.own {lo hi b off k : Nat} {w : World} {zs : List LV} {c : List Lt} {bs : Nat → Nat} (h : CRow lo hi b off w zs c bs) (hc : c.length ≤ k) (hm : k ≤ maxLen) : OwnC lo hi w (.slice (some ⟨b, off, none⟩) c.length k) c :=
  ⟨_, k, rfl, hc, ⟨hm, fun h => by simp at h⟩, fun _ => ⟨b, off, zs, bs, rfl, h.hlo, h.hhi, h.len, h.cell, h.free, h.ins⟩⟩

set_option maxRecDepth 100000 in
set_option maxHeartbeats 400000 in
theorem markLitS_c (lo hi : Nat) (v : Value) (c : List Lt) (k : Nat) (w : World) (hx : sumC c ≤ 1048576) (hk : k ≤ 1073741824) (hv : OwnC lo hi w v c) :
    Calls Tryz.prog 15 #[v, .int .i64 k] w (RetMC lo hi w v c k) := by
  obtain ⟨ad, cap, rfl⟩ := hv.sl.form
  go_enter Tryz.func15, Tryz.ntmps15
  go_wp2_with fail
  go_loopw [1, 5] (fun m i wr => ∃ j : Nat, j ≤ c.length ∧ i = .int .i64 j ∧ m = .int .i64 ((k + sumC (c.take j) : Nat) : Int) ∧ OwnC lo hi wr (.slice ad c.length cap) (markedC c k j) ∧ Chg lo hi w wr) (fun _ i _ => c.length - (intOf i).toNat)
  case atStart => exact ⟨0, Nat.zero_le _, rfl, by simp [sumC], by rw [markedC_zero]; exact hv, Chg.refl _ _ _⟩
  case round =>
    obtain ⟨j, hj, rfl, rfl, ho, hb⟩ := hrel
    by_cases hlt : j < c.length
    · have hl := markedC_len c k j hj
      have hst := sumC_take c j hlt
      have hsl := sumC_get c j hlt
      have hcl := sumC_len c
      obtain ⟨b, off, zs, bs, rfl, -, hcap, hml, hR⟩ := ho.crow (by omega)
      have hzl := hR.len
      have hz : zs[j]? = some zs[j] := List.getElem?_eq_getElem (by omega)
      obtain ⟨-, c1, c2, c3⟩ := hR.cell j _ hz
      have f1 := hR.free (off + j * 3)
      have hB := World.block_lt_of_cell? wr ⟨b, _, none⟩ c1
      have hget := markedC_get c k j hlt
      have hsucc := markedC_succ c k j hlt
      have hin1 : (j : Int) < c.length := by omega
      have hwd : wC (c.getD j lt0) = 1 + (c.getD j lt0).2.1.length + (c.getD j lt0).2.2.length := rfl
      generalize zs[j] = z at *
      obtain ⟨p0, u1, u2⟩ := z
      simp only at c1 c2 c3
      have hkj : k + sumC (c.take j) ≤ 1073741824 + 1048576 := by have := sumC_le c j; omega
      generalize hz0 : k + sumC (c.take j) = z0 at *
      have hrem : Int.tmod (z0 : Int) 3 = ((z0 % 3 : Nat) : Int) := by rw [Int.tmod_eq_emod_of_nonneg (by omega)]; omega
      -- the sign
      have hdec : (((z0 : Nat) : Int) % 3 == 0) = decide (z0 % 3 = 0) := by rw [Bool.eq_iff_iff]; simp; omega
      have hR1 := hR.sign j _ hz (((z0 : Nat) : Int) % 3 == 0)
      rw [hget] at hR1
      generalize hx : c.getD j lt0 = x at *
      obtain ⟨p, xl, xr⟩ := x
      simp only at *
      have hW1 := Chg.set (lo := lo) (hi := hi) wr (p := ⟨b, off + j * 3, none⟩) hR.hlo hR.hhi (.bool (((z0 : Nat) : Int) % 3 == 0))
      have hs1 : (wr.setCell ⟨b, off + j * 3, none⟩ (.bool (((z0 : Nat) : Int) % 3 == 0))).heap.size = wr.heap.size := by simp
      have e1 := World.cell?_setCell_other (h := show (⟨b, off + j * 3, none⟩ : Addr) ≠ ⟨b, off + j * 3 + 1, none⟩ by intro h; simp at h) (w := wr) (v := .bool (((z0 : Nat) : Int) % 3 == 0))
      rw [c2] at e1
      generalize hz1 : zs.set j (((z0 : Nat) : Int) % 3 == 0, u1, u2) = zs1 at hR1
      have hg1 : zs1[j]? = some (((z0 : Nat) : Int) % 3 == 0, u1, u2) := by rw [← hz1, List.getElem?_set]; simp; omega
      have hd1 : ((markedC c k j).set j (((z0 : Nat) : Int) % 3 == 0, xl, xr)).getD j lt0 = (((z0 : Nat) : Int) % 3 == 0, xl, xr) := by simp [List.getD, hl, hlt]
      have hfeed := hR1.ins.feed (2*j) u1 (rowsC_get zs1 j _ hg1).1
      rw [(flatC_get _ j).1, hd1] at hfeed
      have HC := Lib.hid (markIntS_z _ _ u1 xl ((z0 : Int) + 1) (z0 + 1) _ (by omega) (by omega) (by omega) hfeed)
      have HK := Lib.hid (And.intro hR1 (And.intro hg1 (And.intro hd1 (And.intro hsucc (And.intro hst (And.intro hl (And.intro hwd (And.intro hW1 hs1))))))))
      have HB2 := Lib.hid hb
      have HDEC := Lib.hid hdec
      clear hdec
      clear ho hv hR hR1 hz hget hsucc hst hl hwd hb hz1 hg1 hd1 hfeed hW1 hs1
      go_wp2_with fail
      refine HC.out.mono ?_; rintro e w1 ⟨rfl, hch, hom⟩
      obtain ⟨hR1, hg1, hd1, hsucc, hst, hl, hwd, hW1, hs1⟩ := HK.out
      have hB1 : b < (wr.setCell ⟨b, off + j * 3, none⟩ (.bool (((z0 : Nat) : Int) % 3 == 0))).heap.size := by rw [hs1]; exact hB
      have hst1 := hR1.left (w' := w1) hB1 j _ hg1 (marks (z0 + 1) xl.length) (by rw [hd1, marks_len]) (by rw [hd1]; exact hch) (by rw [hd1]; exact hom)
      rw [hd1, set_twice] at hst1
      obtain ⟨hR2, hW2⟩ := hst1
      obtain ⟨-, d1, d2, d3⟩ := hR2.cell j _ hg1
      simp only at d1 d2 d3
      have hB2 : b < w1.heap.size := Nat.lt_of_lt_of_le hB1 hW2.size
      have hd2 : ((markedC c k j).set j (((z0 : Nat) : Int) % 3 == 0, marks (z0 + 1) xl.length, xr)).getD j lt0 = (((z0 : Nat) : Int) % 3 == 0, marks (z0 + 1) xl.length, xr) := by simp [List.getD, hl, hlt]
      have hfeed := hR2.ins.feed (2*j+1) u2 (rowsC_get zs1 j _ hg1).2
      rw [(flatC_get _ j).2, hd2] at hfeed
      have HD := Lib.hid (markIntS_z _ _ u2 xr (((z0 + 1 + xl.length : Nat) : Int)) (z0 + 1 + xl.length) _ rfl (by omega) (by omega) hfeed)
      have HK2 := Lib.hid (And.intro hR2 (And.intro hg1 (And.intro hd2 (And.intro hsucc (And.intro hst (And.intro hl (And.intro hwd ((hW1.trans hW2)))))))))
      clear HK HC hR1 hR2 hg1 hd1 hd2 hsucc hst hl hwd hW1 hW2 hfeed hom hch hs1 hB1
      go_wp2_with fail
      refine HD.out.mono ?_; rintro e w2 ⟨rfl, hch, hom⟩
      obtain ⟨hR2, hg1, hd2, hsucc, hst, hl, hwd, hW⟩ := HK2.out
      have hst2 := hR2.right (w' := w2) hB2 j _ hg1 (marks (z0 + 1 + xl.length) xr.length) (by rw [hd2, marks_len]) (by rw [hd2]; exact hch) (by rw [hd2]; exact hom)
      rw [hd2, set_twice] at hst2
      obtain ⟨hR3, hW3⟩ := hst2
      rw [HDEC.out, show (decide (z0 % 3 = 0), marks (z0 + 1) xl.length, marks (z0 + 1 + xl.length) xr.length) = mark1 z0 (p, xl, xr) from rfl, hsucc] at hR3
      have hl3 := markedC_len c k (j+1) (by omega)
      have hown := hR3.own (k := cap) (by rw [hl3]; omega) hml
      rw [hl3] at hown
      have HO := Lib.hid (And.intro hown (And.intro (HB2.out.trans (hW.trans hW3)) (And.intro hst hwd)))
      clear hR2 hR3 hg1 hd2 hsucc hst hl hwd hW hW3 hch hom hown HK2 HD HB2
      go_wp2_with fail
      go_roundw
      case rel =>
        obtain ⟨h1, h2, h3, h4⟩ := HO.out
        exact ⟨j+1, by omega, by go_num, by rw [h3, h4, ← Nat.add_assoc, hz0]; exact congrArg (Value.int .i64) (by omega), h1, h2⟩
      case measure => simp [intOf]; omega
    · rw [markedC_all c k j hlt] at ho
      rw [sumC_all c j hlt]
      go_wp2_with fail
      go_ret
      exact ⟨rfl, hb, ho⟩

set_option maxRecDepth 100000 in
set_option maxHeartbeats 400000 in
theorem heldLitS_c (l h : Nat) (v : Value) (c : List Lt) (k : Nat) (w : World) (hx : sumC c ≤ 1048576) (hk : k ≤ 1073741824) (hv : SlC l h w v (marksC k c)) :
    Calls Tryz.prog 16 #[v, .int .i64 k] w (RetV w (.int .i64 ((k + sumC c : Nat) : Int))) := by
  obtain ⟨ad, cap, rfl⟩ := hv.form
  have hml := marksC_len k c
  rw [hml]
  go_enter Tryz.func16, Tryz.ntmps16
  go_wp2_with fail
  go_loopw [1, 5] (fun m i wr => ∃ j : Nat, j ≤ c.length ∧ i = .int .i64 j ∧ m = .int .i64 ((k + sumC (c.take j) : Nat) : Int) ∧ Bel w wr) (fun _ i _ => c.length - (intOf i).toNat)
  case atStart => exact ⟨0, Nat.zero_le _, rfl, by simp [sumC], Bel.rfl' _⟩
  case round =>
    obtain ⟨j, hj, rfl, rfl, hb⟩ := hrel
    by_cases hlt : j < c.length
    · have hst := sumC_take c j hlt
      have hsl := sumC_get c j hlt
      have hcl := sumC_len c
      obtain ⟨b, off, u1, u2, rfl, -, c1, c2, c3, s1, s2⟩ := hv.at hb j (by rw [hml]; exact hlt)
      rw [marksC_get k c j hlt] at c1 s1 s2
      have hin1 : (j : Int) < c.length := by omega
      have hwd : wC (c.getD j lt0) = 1 + (c.getD j lt0).2.1.length + (c.getD j lt0).2.2.length := rfl
      have hkj : k + sumC (c.take j) ≤ 1073741824 + 1048576 := by have := sumC_le c j; omega
      generalize hz0 : k + sumC (c.take j) = z0 at *
      unfold mark1 at c1 s1 s2
      generalize c.getD j lt0 = x at *
      obtain ⟨p, xl, xr⟩ := x
      simp only at c1 c2 c3 s1 s2 hwd
      have hdec : (((z0 : Nat) : Int) % 3 == 0) = decide (z0 % 3 = 0) := by rw [Bool.eq_iff_iff]; simp; omega
      have hrem : Int.tmod (z0 : Int) 3 = ((z0 % 3 : Nat) : Int) := by rw [Int.tmod_eq_emod_of_nonneg (by omega)]; omega
      rw [← hdec] at c1
      have hne : ((((z0 : Nat) : Int) % 3 == 0) != (((z0 : Nat) : Int) % 3 == 0)) = false := by simp
      have HC := Lib.hid (fun (w' : World) (hq : Bel wr w') => heldIntS_z _ _ u1 xl.length ((z0 : Int) + 1) (z0 + 1) w' (by omega) (by omega) (by omega) (s1.below hq))
      have HD := Lib.hid (fun (w' : World) (hq : Bel wr w') => heldIntS_z _ _ u2 xr.length ((z0 + 1 + xl.length : Nat) : Int) (z0 + 1 + xl.length) w' rfl (by omega) (by omega) (s2.below hq))
      have HS := Lib.hid (And.intro hst hwd)
      have B1 := World.block_lt_of_cell? wr ⟨b, _, none⟩ c1
      have hn1 : decide (((z0 + 1 + xl.length : Nat) : Int) < 0) = false := by simp; omega
      have hn2 : decide (((z0 + 1 + xl.length + xr.length : Nat) : Int) < 0) = false := by simp; omega
      clear hv s1 s2 hst hwd hdec
      go_wp2_with fail
      refine (HC.out _ (Bel.rfl' _)).mono ?_; rintro e w1 ⟨rfl, hb1⟩
      have d3 := hb1.at (World.block_lt_of_cell? wr ⟨b, _, none⟩ c3) c3
      go_wp2_with fail
      refine (HD.out _ hb1).mono ?_; rintro e w2 ⟨rfl, hb2⟩
      go_wp2_with fail
      go_roundw
      case rel =>
        obtain ⟨h3, h4⟩ := HS.out
        exact ⟨j+1, by omega, by go_num, by rw [h3, h4, ← Nat.add_assoc, hz0]; exact congrArg (Value.int .i64) (by omega), (hb.step hb1).step hb2⟩
      case measure => simp [intOf]; omega
    · rw [sumC_all c j hlt]
      go_wp2_with fail
      go_ret
      exact ⟨rfl, hb⟩
end Go.Proofs.YteegjnobmbcjiaaGreatDoor
end
