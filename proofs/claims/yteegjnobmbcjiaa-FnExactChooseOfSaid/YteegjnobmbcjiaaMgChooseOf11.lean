/- Texts merged, part 11. -/
import Derived.Test.YteegjnobmbcjiaaRows
import Derived.ProofKit
import Derived.OpenShut
import Derived.ShutString
import Derived.ChangeOld
import Derived.Lib.SmallJoins
import Derived.Deep.Slices
import Derived.Deep.Strs
import Derived.Test.YteegjnobmbcjiaaMgChooseOf10
section
/- Chapter 8, the program: ChooseOf. -/
namespace Go.Proofs.Yteegjnobmbcjiaa
open Go.RowKit

def cmp3 (a b : Int) : Int := if a < b then -1 else if b < a then 1 else 0
theorem isNaN_c (x : Int) (w : World) : Calls Try.prog 147 #[.int .i64 x] w (RetV w (.bool false)) := by
  have hne : (x != x) = false := by simp
  go_enter Try.func147, Try.ntmps147
  go_wp2_with fail
  go_ret
  exact ⟨rfl, Bel.rfl' _⟩
theorem compareInt_c (a b : Int) (w : World) : Calls Try.prog 113 #[.int .i64 a, .int .i64 b] w (RetV w (.int .i64 (cmp3 a b))) := by
  rcases Int.lt_trichotomy a b with h | h | h
  · have E : Hid (cmp3 a b = -1) := by show _ = _; unfold cmp3; rw [if_pos h]
    have hd : decide (a < b) = true := decide_eq_true h
    go_enter Try.func113, Try.ntmps113
    go_wp2_with fail
    refine (isNaN_c a _).mono ?_; rintro e w1 ⟨rfl, hb1⟩
    go_wp2_with fail
    refine (isNaN_c b _).mono ?_; rintro e w2 ⟨rfl, hb2⟩
    go_wp2_with fail
    go_ret
    exact ⟨by rw [E.out]; rfl, hb1.step hb2⟩
  · subst h
    have E : Hid (cmp3 a a = 0) := by show _ = _; unfold cmp3; rw [if_neg (by omega), if_neg (by omega)]
    have hd : decide (a < a) = false := decide_eq_false (by omega)
    go_enter Try.func113, Try.ntmps113
    go_wp2_with fail
    refine (isNaN_c a _).mono ?_; rintro e w1 ⟨rfl, hb1⟩
    go_wp2_with fail
    refine (isNaN_c a _).mono ?_; rintro e w2 ⟨rfl, hb2⟩
    go_wp2_with fail
    go_ret
    exact ⟨by rw [E.out]; rfl, hb1.step hb2⟩
  · have E : Hid (cmp3 a b = 1) := by show _ = _; unfold cmp3; rw [if_neg (by omega), if_pos h]
    have hd : decide (a < b) = false := decide_eq_false (by omega)
    have hd2 : decide (a > b) = true := decide_eq_true h
    go_enter Try.func113, Try.ntmps113
    go_wp2_with fail
    refine (isNaN_c a _).mono ?_; rintro e w1 ⟨rfl, hb1⟩
    go_wp2_with fail
    refine (isNaN_c b _).mono ?_; rintro e w2 ⟨rfl, hb2⟩
    go_wp2_with fail
    go_ret
    exact ⟨by rw [E.out]; rfl, hb1.step hb2⟩
theorem clauseWeight_l (l' h' : Nat) (u : Value) (c : List Lt) (w : World) (hc : sumC c ≤ 1048576) (hu : SlC l' h' w u c) :
    Calls Try.prog 82 #[u] w (RetV w (.int .i64 (lenC c : Nat))) := clauseWeight_c l' h' u c w hc hu

set_option maxRecDepth 100000 in
set_option maxHeartbeats 1000000 in
theorem byWeight_c (l h g : Nat) (v : Value) (ss : List Stp) (k q : Nat) (w : World) (hx : totSt ss ≤ 1048576) (hk : k < ss.length) (hq : q < ss.length) (hv : SlSt l h w v ss) (hg : w.cell? ⟨g, 0, none⟩ = some v) :
    Calls Try.prog 112 #[.int .i64 k, .int .i64 q, .pointer (some ⟨g, 0, none⟩)] w (RetV w (.int .i64 (cmp3 (lenC (ss.getD k st0).2.2.2 : Nat) (lenC (ss.getD q st0).2.2.2 : Nat)))) := by
  obtain ⟨ad, cap, rfl⟩ := hv.form
  obtain ⟨b, off, u1, u2, u3, rfl, hbs, c0, c1, c2, c3, s1, s2, s3⟩ := hv.at (Bel.rfl' w) k hk
  obtain ⟨b', off', v1, v2, v3, e0, -, d0, d1, d2, d3, t1, t2, t3⟩ := hv.at (Bel.rfl' w) q hq
  simp only [Option.some.injEq, Addr.mk.injEq] at e0
  obtain ⟨rfl, rfl, -⟩ := e0
  have hin1 : (k : Int) < ss.length := by omega
  have hin2 : (q : Int) < ss.length := by omega
  have hwk := wAt_le hx hk
  have hwq := wAt_le hx hq
  clear c0 d0 c1 c2 d1 d2 s1 s2 t1 t2 hv
  generalize (ss.getD k st0).2.2.2 = ck at *
  generalize (ss.getD q st0).2.2.2 = cq at *
  have HC := Lib.hid (fun (w' : World) (hq : Bel w w') => clauseWeight_l _ _ u3 ck w' hwk (s3.below hq))
  have HD := Lib.hid (fun (w' : World) (hq : Bel w w') => clauseWeight_l _ _ v3 cq w' hwq (t3.below hq))
  obtain ⟨a3, x3, rfl⟩ := s3.form
  obtain ⟨a4, x4, rfl⟩ := t3.form
  have HCM := Lib.hid (fun w' => compareInt_c (lenC ck : Nat) (lenC cq : Nat) w')
  generalize cmp3 (lenC ck : Nat) (lenC cq : Nat) = R at *
  generalize lenC ck = wk at *
  generalize lenC cq = wq at *
  generalize ck.length = nk at *
  generalize cq.length = nq at *
  clear s3 t3
  have zb := World.block_lt_of_cell? w ⟨b, _, none⟩ c3
  have zg := World.block_lt_of_cell? w ⟨g, _, none⟩ hg
  go_enter Try.func112, Try.ntmps112
  go_wp2_with fail
  go_region_held3 (fun w' => Bel w w' ∧ w'.cell? ⟨g, 0, none⟩ = some (.slice (some ⟨b, off, none⟩) ss.length cap) ∧ w'.cell? ⟨b, off + k * 4 + 3, none⟩ = some (.slice a3 nk x3) ∧ w'.cell? ⟨b, off + q * 4 + 3, none⟩ = some (.slice a4 nq x4))
    (first | exact ⟨HB3, HB3.at zg hg, HB3.at zb c3, HB3.at zb d3⟩ | exact ⟨HB2, HB2.at zg hg, HB2.at zb c3, HB2.at zb d3⟩ | exact ⟨HB1, HB1.at zg hg, HB1.at zb c3, HB1.at zb d3⟩ | exact ⟨Bel.drew0 _, hg, c3, d3⟩ | fail)
    (first | (go_at_call 113; refine (HCM.out _).mono ?_; rintro e w4 ⟨rfl, hb4⟩; have HB3 := HB2.step hb4) | (go_at_call 82; refine (HD.out _ HB1).mono ?_; rintro e w3 ⟨rfl, hb3⟩; have HB2 := HB1.step hb3) | (go_at_call 82; refine (HC.out _ (Bel.drew0 _)).mono ?_; rintro e w2 ⟨rfl, hb2⟩; have HB1 := (Bel.drew0 w).step hb2) | fail)
  all_goals
    go_wp2_with fail
    go_ret
    exact ⟨rfl, HB3⟩

theorem minStep_lt {ss : List Stp} {b k : Nat} (h : cmp3 (lenC (ss.getD k st0).2.2.2 : Nat) (lenC (ss.getD b st0).2.2.2 : Nat) < 0) : chStep ss (b : Int) (k : Int) = k := by
  unfold chStep wAt
  rw [Int.toNat_natCast, Int.toNat_natCast]
  rw [if_pos]
  show lenC _ < lenC _
  unfold cmp3 at h
  split at h
  · omega
  · split at h <;> omega
theorem minStep_ge {ss : List Stp} {b k : Nat} (h : ¬ cmp3 (lenC (ss.getD k st0).2.2.2 : Nat) (lenC (ss.getD b st0).2.2.2 : Nat) < 0) : chStep ss (b : Int) (k : Int) = b := by
  unfold chStep wAt
  rw [Int.toNat_natCast, Int.toNat_natCast]
  rw [if_neg]
  show ¬ lenC _ < lenC _
  unfold cmp3 at h
  split at h
  · omega
  · omega

set_option maxRecDepth 100000 in
set_option maxHeartbeats 1000000 in
theorem minFunc_c (l h l' h' g : Nat) (v u : Value) (ss : List Stp) (p : List Int) (w : World) (hx : totSt ss ≤ 1048576) (hi : allIdx ss p = true) (hl : p.length ≤ 1048576) (hp : 0 < p.length) (hv : SlSt l h w v ss) (hg : w.cell? ⟨g, 0, none⟩ = some v) (hu : SlI l' h' w u p) :
    Calls Try.prog 111 #[u, .func (.func 112) #[] #[.pointer (some ⟨g, 0, none⟩)]] w (RetV w (.int .i64 (chF ss p))) := by
  have eg : ∀ args w, (callFunc 112 args).run Try.prog w = .ok (.enter 112 args) w := enters_of Try.func112 (by kernel_rfl) rfl
  obtain ⟨hxl, -⟩ := totSt_each hx
  obtain ⟨ad', cap', rfl, -, -, hr'⟩ := hu
  obtain ⟨bb, off2, rfl, hbb, hcell⟩ := rd hr' (Bel.rfl' w) 0 hp
  simp only [Nat.add_zero] at hcell
  have hgl := World.block_lt_of_cell? w ⟨g, 0, none⟩ hg
  have hp1 : (0 : Int) < p.length := by omega
  have hd1 : decide ((p.length : Int) < 1) = false := decide_eq_false (by omega)
  have E : Hid (chF ss p = p.foldl (chStep ss) (p.getD 0 0)) := by show _ = _; rfl
  have HM := Lib.hid (chF_mem ss p hp)
  have HT := Lib.hid (fun z k h => chF_take ss p z k h)
  have HF := Lib.hid (chF_first ss p hp)
  have HB := Lib.hid (fun (k q : Nat) (w' : World) (hk : k < ss.length) (hq : q < ss.length) (hb : Bel w w') => byWeight_c l h g v ss k q w' hx hk hq (hv.below hb) (hb.at hgl hg))
  clear hv hg
  generalize p.getD 0 0 = K0 at *
  go_enter Try.func111, Try.ntmps111
  go_wp2_with fail
  go_loopw [5, 6] (fun b i wr => ∃ m : Nat, 1 ≤ m ∧ m ≤ p.length ∧ i = .int .i64 m ∧ b = .int .i64 ((p.take m).foldl (chStep ss) K0) ∧ Bel w wr) (fun _ i _ => p.length - (intOf i).toNat)
  case atStart => exact ⟨1, Nat.le_refl _, hp, rfl, by rw [HF.out], Bel.rfl' _⟩
  case round =>
    obtain ⟨m, hm1, hm, rfl, rfl, hb⟩ := hrel
    by_cases hlt : m < p.length
    · obtain ⟨bb1, off1, e0, hbb1, hcell1⟩ := rd hr' hb m hlt
      simp only [Option.some.injEq, Addr.mk.injEq] at e0
      obtain ⟨rfl, rfl, -⟩ := e0
      obtain ⟨hk0, hk1⟩ := allIdx_get hi m hlt
      obtain ⟨hb0, hb1⟩ := mem_idx hi (HM.out m)
      have hut := HT.out K0 m hlt
      generalize (p.take m).foldl (chStep ss) K0 = B at *
      generalize p.getD m 0 = K at *
      obtain ⟨k, rfl⟩ : ∃ k : Nat, K = (k : Int) := ⟨K.toNat, by omega⟩
      obtain ⟨q, rfl⟩ : ∃ q : Nat, B = (q : Int) := ⟨B.toNat, by omega⟩
      simp only [Int.toNat_natCast] at hk1 hb1
      have HC := HB.out k q wr hk1 hb1 hb
      have hy := minStep_lt (ss := ss) (b := q) (k := k)
      have hn := minStep_ge (ss := ss) (b := q) (k := k)
      generalize cmp3 (lenC (ss.getD k st0).2.2.2 : Nat) (lenC (ss.getD q st0).2.2.2 : Nat) = R at *
      have HCC := Lib.hid HC
      have zbb : bb < wr.heap.size := Nat.lt_of_lt_of_le hbb hb.size
      by_cases hR : R < 0
      · have E2 := Lib.hid (hut.trans (hy hR))
        clear hut hy hn hr' hi HC
        go_wp2_with (go_at_fn 112; refine HCC.out.mono ?_; rintro e w2 ⟨rfl, hb2⟩; have hcell2 := hb2.at zbb hcell1)
        go_roundw
        case rel => exact ⟨m+1, by omega, by omega, by go_num, by rw [E2.out], hb.step hb2⟩
        case measure => simp [intOf]; omega
      · have E2 := Lib.hid (hut.trans (hn hR))
        clear hut hy hn hr' hi HC
        go_wp2_with (go_at_fn 112; refine HCC.out.mono ?_; rintro e w2 ⟨rfl, hb2⟩; have hcell2 := hb2.at zbb hcell1)
        go_roundw
        case rel => exact ⟨m+1, by omega, by omega, by go_num, by rw [E2.out], hb.step hb2⟩
        case measure => simp [intOf]; omega
    · obtain rfl : m = p.length := by omega
      rw [List.take_length]
      go_wp2_with fail
      go_ret
      exact ⟨by rw [E.out]; rfl, hb⟩

set_option maxRecDepth 100000 in
set_option maxHeartbeats 1000000 in
theorem chosen_c (l h l' h' : Nat) (v u : Value) (ss : List Stp) (p : List Int) (r : Int) (w : World) (hx : totSt ss ≤ 1048576) (hi : allIdx ss p = true) (hl : p.length ≤ 1048576) (hp : 0 < p.length) (hr : 1 ≤ r) (hv : SlSt l h w v ss) (hu : SlI l' h' w u p) :
    Calls Try.prog 65 #[v, u, .int .i64 r] w (RetV w (.int .i64 (chV ss p r))) := by
  obtain ⟨ad, cap, rfl⟩ := hv.form
  have hrem : Int.tmod r 4 = r % 4 := Int.tmod_eq_emod_of_nonneg (by omega)
  have hp1 : (0 : Int) < p.length := by omega
  by_cases h4 : r % 4 = 0
  · have E : Hid (chV ss p r = p.getD 0 0) := by show _ = _; unfold chV; rw [if_pos h4]
    have hd : (r % 4 == 0) = true := by simpa using h4
    obtain ⟨ad', cap', rfl, -, -, hr'⟩ := hu
    obtain ⟨bb, off2, rfl, hbb, hcell⟩ := rd hr' (Bel.alloc0 w (.cells #[.slice ad ss.length cap] 32)) 0 hp
    simp only [Nat.add_zero] at hcell
    clear hv hr' hi
    generalize p.getD 0 0 = K at *
    go_enter Try.func65, Try.ntmps65
    go_wp2_with fail
    go_ret
    exact ⟨by rw [E.out]; rfl, Bel.alloc0 _ _⟩
  · have E : Hid (chV ss p r = chF ss p) := by show _ = _; unfold chV; rw [if_neg h4]
    have hd : (r % 4 == 0) = false := by simpa using h4
    have HC := Lib.hid (minFunc_c l h l' h' w.heap.size _ u ss p (w.alloc (.cells #[.slice ad ss.length cap] 32)) hx hi hl hp (hv.alloc _) (boxc (Bel.rfl' _) 0 _ rfl) (hu.alloc _))
    obtain ⟨ad', cap', rfl⟩ := hu.form
    clear hv hu hi
    generalize chF ss p = V at *
    go_enter Try.func65, Try.ntmps65
    go_wp2_with fail
    refine HC.out.mono ?_; rintro e w1 ⟨rfl, hb1⟩
    go_wp2_with fail
    go_ret
    exact ⟨by rw [E.out]; rfl, hb1.of_alloc⟩

set_option maxRecDepth 100000 in
set_option maxHeartbeats 1000000 in
theorem iChooseOf_t {l h l' h' l2 h2 : Nat} {v u a : Value} {ar : List Int} {ss : List Stp} {p : List Int} {r : Int} {w : World} (ha : ar.length ≤ 1048576) (hv : SlI l h w v ar) (hx : totSt ss ≤ 1048576) (hu : SlSt l' h' w u ss) (hl : p.length ≤ 1048576) (hact : SlI l2 h2 w a p) (_hr0 : -9223372036854775808 ≤ r) (_hr1 : r ≤ 9223372036854775807) :
    Calls Try.prog 22 #[.agg #[v], u, a, .int .i64 r] w (RetV w (.tuple #[.int .i64 (chAns ar ss p r), .bool (chOK ar ss p r)])) := by
  obtain ⟨hxl, -⟩ := totSt_each hx
  obtain ⟨au, cu, rfl⟩ := hu.form
  obtain ⟨aa, ca, rfl⟩ := hact.form
  cases hg : goodSts ar ss with
  | false =>
    have E := Lib.hid (ch_no1 (p := p) (r := r) hg)
    have HG := Lib.hid hg; clear hg
    go_enter Try.func22, Try.ntmps22
    go_wp2_with fail
    refine (goodSteps_v HG.out ha hx (hv.alloc _) (hu.alloc _)).mono ?_; rintro e w1 ⟨rfl, hb1⟩
    go_wp2_with fail
    go_ret2
    exact ⟨by rw [E.out.1, E.out.2]; rfl, hb1.of_alloc⟩
  | true =>
    have HG := Lib.hid hg
    cases hi : allIdx ss p with
    | false =>
      have E := Lib.hid (ch_no2 (ar := ar) (r := r) hi)
      have HA := Lib.hid (fun (w' : World) (hb : Bel w w') => areElements_v _ _ _ p (ss.length : Int) false w' hi hl (hact.below hb))
      clear hi hg
      go_enter Try.func22, Try.ntmps22
      go_wp2_with fail
      refine (goodSteps_v HG.out ha hx (hv.alloc _) (hu.alloc _)).mono ?_; rintro e w1 ⟨rfl, hb1⟩
      go_wp2_with fail
      refine (HA.out _ hb1.of_alloc).mono ?_; rintro e w2 ⟨rfl, hb2⟩
      go_wp2_with fail
      go_ret2
      exact ⟨by rw [E.out.1, E.out.2]; rfl, hb1.of_alloc.step hb2⟩
    | true =>
      have HA := Lib.hid (fun (w' : World) (hb : Bel w w') => areElements_v _ _ _ p (ss.length : Int) true w' hi hl (hact.below hb))
      by_cases hp : 0 < p.length
      · have hpe : ((p.length : Int) == 0) = false := beq_eq_false_iff_ne.2 (by omega)
        by_cases hr : 1 ≤ r
        · have E := Lib.hid (ch_yes (ar := ar) hg hi hp hr)
          have hdr : decide (r < 1) = false := decide_eq_false (by omega)
          have HU := Lib.hid (fun (w' : World) (hb : Bel w w') => chosen_c _ _ _ _ _ _ ss p r w' hx hi hl hp hr (hu.below hb) (hact.below hb))
          clear hi hg
          generalize chV ss p r = V at *
          go_enter Try.func22, Try.ntmps22
          go_wp2_with fail
          refine (goodSteps_v HG.out ha hx (hv.alloc _) (hu.alloc _)).mono ?_; rintro e w1 ⟨rfl, hb1⟩
          go_wp2_with fail
          refine (HA.out _ hb1.of_alloc).mono ?_; rintro e w2 ⟨rfl, hb2⟩
          go_wp2_with fail
          refine (HU.out _ (hb1.of_alloc.step hb2)).mono ?_; rintro e w3 ⟨rfl, hb3⟩
          go_wp2_with fail
          go_ret2
          exact ⟨by rw [E.out.1, E.out.2]; rfl, (hb1.of_alloc.step hb2).step hb3⟩
        · have E := Lib.hid (ch_no4 (ar := ar) (ss := ss) (p := p) hr)
          have hdr : decide (r < 1) = true := decide_eq_true (by omega)
          clear hi hg
          go_enter Try.func22, Try.ntmps22
          go_wp2_with fail
          refine (goodSteps_v HG.out ha hx (hv.alloc _) (hu.alloc _)).mono ?_; rintro e w1 ⟨rfl, hb1⟩
          go_wp2_with fail
          refine (HA.out _ hb1.of_alloc).mono ?_; rintro e w2 ⟨rfl, hb2⟩
          go_wp2_with fail
          go_ret2
          exact ⟨by rw [E.out.1, E.out.2]; rfl, hb1.of_alloc.step hb2⟩
      · have E := Lib.hid (ch_no3 (ar := ar) (ss := ss) (r := r) hp)
        have hpe : ((p.length : Int) == 0) = true := beq_iff_eq.2 (by omega)
        clear hg hi
        go_enter Try.func22, Try.ntmps22
        go_wp2_with fail
        refine (goodSteps_v HG.out ha hx (hv.alloc _) (hu.alloc _)).mono ?_; rintro e w1 ⟨rfl, hb1⟩
        go_wp2_with fail
        refine (HA.out _ hb1.of_alloc).mono ?_; rintro e w2 ⟨rfl, hb2⟩
        go_wp2_with fail
        go_ret2
        exact ⟨by rw [E.out.1, E.out.2]; rfl, hb1.of_alloc.step hb2⟩
end Go.Proofs.Yteegjnobmbcjiaa
end
section
/- The laws' helpers over steps: the size. -/
namespace Go.Proofs.Yteegjnobmbcjiaa
open Go.RowKit

set_option maxRecDepth 100000 in
set_option maxHeartbeats 400000 in
theorem szStep_c (l h : Nat) (z : Int) (u1 u2 u3 : Value) (xp xw : List Int) (c : List Lt) (left : Int) (w : World) (hp : xp.length ≤ 9223372036854775807) (hw : xw.length ≤ 9223372036854775807) (h0 : 0 ≤ left) (h1 : left ≤ 1048576) (hv1 : SlI l h w u1 xp) (hv2 : SlI l h w u2 xw) (hv3 : SlC l h w u3 c) :
    Calls Try.prog 54 #[.agg #[.int .i64 z, u1, u2, u3], .int .i64 left] w (RetV w (.int .i64 (szSt1 (z, xp, xw, c) left))) := by
  have HB := Bel.alloc0 w (.cells #[.int .i64 z, u1, u2, u3] 77)
  have hwd : wSt (z, xp, xw, c) = xp.length + xw.length + sumC c := rfl
  have HC := Lib.hid (szIntS_c l h u1 xp left _ hp h0 h1 (hv1.below HB))
  have HV2 := Lib.hid (fun (w' : World) (hb : Bel (w.alloc (.cells #[.int .i64 z, u1, u2, u3] 77)) w') => (hv2.below HB).below hb)
  have HV3 := Lib.hid (fun (w' : World) (hb : Bel (w.alloc (.cells #[.int .i64 z, u1, u2, u3] 77)) w') => (hv3.below HB).below hb)
  clear hv1 hv2 hv3
  have szneg : ∀ S, left - (wSt (z, xp, xw, c) : Nat) < 0 → S = -1 → szSt1 (z, xp, xw, c) left = S := fun S h hS => by rw [hS]; unfold szSt1; rw [if_pos h]
  have szpos : ∀ S, ¬ left - (wSt (z, xp, xw, c) : Nat) < 0 → S = left - (wSt (z, xp, xw, c) : Nat) → szSt1 (z, xp, xw, c) left = S := fun S h hS => by rw [hS]; unfold szSt1; rw [if_neg h]
  by_cases hs : left - xp.length < 0
  · have E := Lib.hid (szneg (-1) (by omega) rfl)
    rw [show szI xp.length left = -1 by unfold szI; rw [if_pos hs]] at HC
    clear szneg szpos HV2 HV3 hs hwd
    go_enter Try.func54, Try.ntmps54
    go_wp2_with fail
    refine HC.out.mono ?_; rintro e w1 ⟨rfl, hb1⟩
    go_wp2_with fail
    go_ret
    exact ⟨by rw [E.out]; rfl, HB.step hb1⟩
  · rw [show szI xp.length left = left - xp.length by unfold szI; rw [if_neg hs]] at HC
    obtain ⟨y, hy⟩ : ∃ y : Int, y = left - xp.length := ⟨_, rfl⟩
    rw [← hy] at HC hs
    have hy0 : 0 ≤ y := by omega
    have hy1 : y ≤ 1048576 := by omega
    have HD := Lib.hid (fun (w' : World) (hb : Bel (w.alloc (.cells #[.int .i64 z, u1, u2, u3] 77)) w') => szIntS_c l h u2 xw y w' hw hy0 hy1 (HV2.out w' hb))
    by_cases hs2 : y - xw.length < 0
    · have E := Lib.hid (szneg (-1) (by omega) rfl)
      simp only [show szI xw.length y = -1 by unfold szI; rw [if_pos hs2]] at HD
      clear szneg szpos HV2 HV3 hs hs2 hwd hy
      go_enter Try.func54, Try.ntmps54
      go_wp2_with fail
      refine HC.out.mono ?_; rintro e w1 ⟨rfl, hb1⟩
      have hbx2 := hb1.at (b := w.heap.size) (off := 2) (by simp) (show (w.alloc (.cells #[.int .i64 z, u1, u2, u3] 77)).cell? ⟨w.heap.size, 2, none⟩ = some u2 by simp)
      go_wp2_with fail
      refine (HD.out _ hb1).mono ?_; rintro e w2 ⟨rfl, hb2⟩
      have HB2 := hb1.step hb2
      clear hb2 hbx2 HD HC
      go_wp2_with fail
      go_ret
      exact ⟨by rw [E.out]; rfl, HB.step HB2⟩
    · simp only [show szI xw.length y = y - xw.length by unfold szI; rw [if_neg hs2]] at HD
      obtain ⟨x, hx⟩ : ∃ x : Int, x = y - xw.length := ⟨_, rfl⟩
      rw [← hx] at HD hs2
      have hx0 : 0 ≤ x := by omega
      have hx1 : x ≤ 1048576 := by omega
      have HF := Lib.hid (fun (w' : World) (hb : Bel (w.alloc (.cells #[.int .i64 z, u1, u2, u3] 77)) w') => szLitS_c l h u3 c x w' hx0 hx1 (HV3.out w' hb))
      by_cases hs3 : x - (sumC c : Nat) < 0
      · have E := Lib.hid (szneg (-1) (by omega) rfl)
        simp only [show szC c x = -1 by unfold szC; rw [if_pos hs3]] at HF
        clear szneg szpos HV2 HV3 hs hs2 hs3 hwd hy hx
        go_enter Try.func54, Try.ntmps54
        go_wp2_with fail
        refine HC.out.mono ?_; rintro e w1 ⟨rfl, hb1⟩
        have hbx2 := hb1.at (b := w.heap.size) (off := 2) (by simp) (show (w.alloc (.cells #[.int .i64 z, u1, u2, u3] 77)).cell? ⟨w.heap.size, 2, none⟩ = some u2 by simp)
        go_wp2_with fail
        refine (HD.out _ hb1).mono ?_; rintro e w2 ⟨rfl, hb2⟩
        have HB2 := hb1.step hb2
        clear hb2 hbx2 HD HC
        have hbx3 := HB2.at (b := w.heap.size) (off := 3) (by simp) (show (w.alloc (.cells #[.int .i64 z, u1, u2, u3] 77)).cell? ⟨w.heap.size, 3, none⟩ = some u3 by simp)
        go_wp2_with fail
        refine (HF.out _ HB2).mono ?_; rintro e w3 ⟨rfl, hb3⟩
        have HB3 := HB2.step hb3
        clear hb3 hbx3 HF
        go_wp2_with fail
        go_ret
        exact ⟨by rw [E.out]; rfl, HB.step HB3⟩
      · have E := Lib.hid (szpos (x - (sumC c : Nat)) (by omega) (by omega))
        simp only [show szC c x = x - (sumC c : Nat) by unfold szC; rw [if_neg hs3]] at HF
        have hn : decide (x - (sumC c : Int) < 0) = false := decide_eq_false hs3
        clear szneg szpos HV2 HV3 hs hs2 hs3 hwd hy hx
        generalize x - (sumC c : Int) = q at *
        go_enter Try.func54, Try.ntmps54
        go_wp2_with fail
        refine HC.out.mono ?_; rintro e w1 ⟨rfl, hb1⟩
        have hbx2 := hb1.at (b := w.heap.size) (off := 2) (by simp) (show (w.alloc (.cells #[.int .i64 z, u1, u2, u3] 77)).cell? ⟨w.heap.size, 2, none⟩ = some u2 by simp)
        go_wp2_with fail
        refine (HD.out _ hb1).mono ?_; rintro e w2 ⟨rfl, hb2⟩
        have HB2 := hb1.step hb2
        clear hb2 hbx2 HD HC
        have hbx3 := HB2.at (b := w.heap.size) (off := 3) (by simp) (show (w.alloc (.cells #[.int .i64 z, u1, u2, u3] 77)).cell? ⟨w.heap.size, 3, none⟩ = some u3 by simp)
        go_wp2_with fail
        refine (HF.out _ HB2).mono ?_; rintro e w3 ⟨rfl, hb3⟩
        have HB3 := HB2.step hb3
        clear hb3 hbx3 HF
        go_wp2_with fail
        go_ret
        exact ⟨by rw [E.out]; rfl, HB.step HB3⟩

set_option maxRecDepth 100000 in
set_option maxHeartbeats 400000 in
theorem szStepS_c (l h : Nat) (v : Value) (ss : List Stp) (left : Int) (w : World) (h0 : 0 ≤ left) (h1 : left ≤ 1048576) (hv : SlSt l h w v ss) :
    Calls Try.prog 8 #[v, .int .i64 left] w (RetV w (.int .i64 (szSt ss left))) := by
  obtain ⟨ad, cap, rfl⟩ := hv.form
  obtain ⟨hx, hmax⟩ := hv.max
  have hse : totSt ss = ss.length + sumSt ss := rfl
  by_cases hs : left - ss.length < 0
  · have E : Hid (szSt ss left = -1) := by show szSt _ _ = _; unfold szSt; rw [if_pos (by omega)]
    go_enter Try.func8, Try.ntmps8
    go_wp2_with fail
    go_ret
    exact ⟨by rw [E.out]; rfl, Bel.rfl' _⟩
  · have hw1 := IntWalk.i64_in (left - ss.length) (by omega)
    go_enter Try.func8, Try.ntmps8
    go_wp2_with fail
    go_loopw [1, 5] (fun m i wr => ∃ (k : Nat) (z : Int), k ≤ ss.length ∧ i = .int .i64 k ∧ m = .int .i64 z ∧ 0 ≤ z ∧ z = left - ss.length - (sumSt (ss.take k) : Nat) ∧ Bel w wr) (fun _ i _ => ss.length - (intOf i).toNat)
    case atStart => exact ⟨0, _, Nat.zero_le _, rfl, by go_num, by omega, by simp [sumSt], Bel.rfl' _⟩
    case round =>
      obtain ⟨k, z, hk, rfl, rfl, hz0, hz, hb⟩ := hrel
      by_cases hlt : k < ss.length
      · obtain ⟨b, off, u1, u2, u3, rfl, -, c0, c1, c2, c3, s1, s2, s3⟩ := hv.at hb k hlt
        have hst := sumSt_take ss k hlt
        have hsl := sumSt_get ss k hlt
        have hcall := szStep_c l h (ss.getD k st0).1 u1 u2 u3 (ss.getD k st0).2.1 (ss.getD k st0).2.2.1 (ss.getD k st0).2.2.2 z wr (hmax k hlt).1 (hmax k hlt).2 hz0 (by omega) s1 s2 s3
        have hin0 : (0 : Int) ≤ k := by omega
        have hin1 : (k : Int) < ss.length := by omega
        have hdef : ∀ x : Stp, szSt1 x z = if z - (wSt x : Nat) < 0 then -1 else z - (wSt x : Nat) := fun _ => rfl
        rw [hdef] at hcall
        generalize ss.getD k st0 = x at *
        obtain ⟨q, xp, xw, c⟩ := x
        simp only at *
        generalize hSS : wSt (q, xp, xw, c) = S at *
        by_cases hneg : z - (S : Int) < 0
        · have E : Hid (szSt ss left = -1) := by show szSt _ _ = _; unfold szSt; rw [if_pos (by omega)]
          rw [if_pos hneg] at hcall
          have HC := Lib.hid hcall
          clear hcall hv s1 s2 s3 hst hsl hneg hz hse hSS hdef hmax
          go_wp2_with (go_at_call 54; refine HC.out.mono ?_; rintro e w' ⟨rfl, hb1⟩)
          go_ret
          exact ⟨by rw [E.out]; rfl, hb.step hb1⟩
        · have hz' : z - (S : Int) = left - ss.length - (sumSt (ss.take (k+1)) : Nat) := by omega
          rw [if_neg hneg] at hcall
          have HC := Lib.hid hcall
          have HZ := Lib.hid hz'
          have hz2 : 0 ≤ z - (S : Int) := by omega
          clear hcall hv s1 s2 s3 hst hsl hneg hz hz' hse hSS hdef hmax
          generalize z - (S : Int) = z2 at *
          go_wp2_with (go_at_call 54; refine HC.out.mono ?_; rintro e w' ⟨rfl, hb1⟩)
          go_roundw
          case rel => exact ⟨k+1, z2, by omega, by go_num, rfl, hz2, HZ.out, hb.step hb1⟩
          case measure => simp [intOf]; omega
      · obtain rfl : k = ss.length := by omega
        have E : Hid (szSt ss left = z) := by
          show szSt _ _ = _
          rw [List.take_length] at hz
          unfold szSt; rw [if_neg (by omega)]; omega
        clear hv hz hse hmax
        go_wp2_with fail
        go_ret
        exact ⟨by rw [E.out]; rfl, hb⟩
end Go.Proofs.Yteegjnobmbcjiaa
end
section
/- The laws' helpers over steps: copies. -/
namespace Go.Proofs.Yteegjnobmbcjiaa
open Go.RowKit

theorem OwnC.set {lo hi w v c} (h : OwnC lo hi w v c) {p : Addr} (hp : p.block < lo ∨ hi ≤ p.block) (u : Value) : OwnC lo hi (w.setCell p u) v c :=
  h.same fun b h1 h2 _ => Below.heap_setCell w p u b (by omega)
/-- A step of the call's own: its parts in three ranges. -/
def RetSt (w : World) (x : Stp) (e : Ending) (w' : World) : Prop :=
  ∃ a1 n1 c1 a2 n2 c2 a3 n3 c3 m1 m2, e = .returned (.agg #[.int .i64 x.1, .slice a1 n1 c1, .slice a2 n2 c2, .slice a3 n3 c3]) ∧ w.heap.size ≤ m1 ∧ m1 ≤ m2 ∧ m2 ≤ w'.heap.size ∧ OwnI w.heap.size m1 w' (.slice a1 n1 c1) x.2.1 ∧ OwnI m1 m2 w' (.slice a2 n2 c2) x.2.2.1 ∧ OwnC m2 w'.heap.size w' (.slice a3 n3 c3) x.2.2.2 ∧ Bel w w'

set_option maxRecDepth 100000 in
set_option maxHeartbeats 1000000 in
theorem toStep_c (l h : Nat) (z : Int) (u1 u2 u3 : Value) (xp xw : List Int) (c : List Lt) (w : World) (hp : xp.length ≤ 1048576) (hw : xw.length ≤ 1048576) (hc : sumC c ≤ 1048576) (h1 : SlI l h w u1 xp) (h2 : SlI l h w u2 xw) (h3 : SlC l h w u3 c) :
    Calls Try.prog 58 #[.agg #[.int .i64 z, u1, u2, u3]] w (RetSt w (z, xp, xw, c)) := by
  have HC := Lib.hid (fun (w' : World) (hb : Bel w w') => toIntS_c l h u1 xp w' hp (h1.below hb))
  have HD := Lib.hid (fun (w' : World) (hb : Bel w w') => toIntS_c l h u2 xw w' hw (h2.below hb))
  have HF := Lib.hid (fun (w' : World) (hb : Bel w w') => toLitS_c l h u3 c w' hc (h3.below hb))
  clear h1 h2 h3
  go_enter Try.func58, Try.ntmps58
  go_wp2_with fail
  have HB : Bel w (((w.alloc (.cells #[.int .i64 z, u1, u2, u3] 77)).alloc (.cells #[.int .i64 0, .slice none 0 0, .slice none 0 0, .slice none 0 0] 82)).alloc (.cells #[.int .i64 z, .slice none 0 0, .slice none 0 0, .slice none 0 0] 82)) := Bel.alloc3 _ _ _ _
  refine (HC.out _ HB).mono ?_; rintro e w1 ⟨a1, n1, c1, rfl, o1, hb1⟩
  have hz1 := hb1.size
  simp only [World.size_alloc] at hz1 o1
  have d2 := hb1.at (b := w.heap.size) (off := 2) (by simp; omega) (show World.cell? _ _ = some (u2) by simp [go_sem])
  have d3 := hb1.at (b := w.heap.size) (off := 3) (by simp; omega) (show World.cell? _ _ = some (u3) by simp [go_sem])
  have e0 := hb1.at (b := w.heap.size + 1) (off := 0) (by simp) (show World.cell? _ _ = some (.int .i64 0) by simp [go_sem])
  have e1 := hb1.at (b := w.heap.size + 1) (off := 1) (by simp) (show World.cell? _ _ = some (.slice none 0 0) by simp [go_sem])
  have e2 := hb1.at (b := w.heap.size + 1) (off := 2) (by simp) (show World.cell? _ _ = some (.slice none 0 0) by simp [go_sem])
  have e3 := hb1.at (b := w.heap.size + 1) (off := 3) (by simp) (show World.cell? _ _ = some (.slice none 0 0) by simp [go_sem])
  have f0 := hb1.at (b := w.heap.size + 1 + 1) (off := 0) (by simp) (show World.cell? _ _ = some (.int .i64 z) by simp [go_sem])
  have f1 := hb1.at (b := w.heap.size + 1 + 1) (off := 1) (by simp) (show World.cell? _ _ = some (.slice none 0 0) by simp [go_sem])
  have f2 := hb1.at (b := w.heap.size + 1 + 1) (off := 2) (by simp) (show World.cell? _ _ = some (.slice none 0 0) by simp [go_sem])
  have f3 := hb1.at (b := w.heap.size + 1 + 1) (off := 3) (by simp) (show World.cell? _ _ = some (.slice none 0 0) by simp [go_sem])
  have g1 : ∀ i, w1.frozen? ⟨w.heap.size + 1, i, none⟩ = false := fun i => (hb1.frozen (p := ⟨w.heap.size + 1, i, none⟩) (by simp)).trans (by simp [go_sem])
  have g2 : ∀ i, w1.frozen? ⟨w.heap.size + 1 + 1, i, none⟩ = false := fun i => (hb1.frozen (p := ⟨w.heap.size + 1 + 1, i, none⟩) (by simp)).trans (by simp [go_sem])
  have HB1 := HB.step hb1
  go_wp2_with fail
  have HS1 : Bel w (w1.setCell ⟨w.heap.size + 1 + 1, 1, none⟩ (.slice a1 n1 c1)) := HB1.set (by simp; omega) _
  refine (HD.out _ HS1).mono ?_; rintro e w2 ⟨a2, n2, c2, rfl, o2, hb2⟩
  have hz2 := hb2.size
  simp only [World.size_setCell] at hz2 o2
  have far : ∀ {b o : Nat} {x : Value}, (b ≠ w.heap.size + 1 + 1 ∨ o ≠ 1) → w1.cell? ⟨b, o, none⟩ = some x → b < w1.heap.size → w2.cell? ⟨b, o, none⟩ = some x := fun hne hc hlt =>
    hb2.at (by simpa using hlt) (by rw [World.cell?_setCell_other (h := by intro h; simp at h; omega)]; exact hc)
  replace d2 := far (.inl (by omega)) d2 (by omega)
  replace d3 := far (.inl (by omega)) d3 (by omega)
  replace e0 := far (.inl (by omega)) e0 (by omega)
  replace e1 := far (.inl (by omega)) e1 (by omega)
  replace e2 := far (.inl (by omega)) e2 (by omega)
  replace e3 := far (.inl (by omega)) e3 (by omega)
  replace f0 := far (.inr (by omega)) f0 (by omega)
  replace f1 := hb2.at (b := w.heap.size + 1 + 1) (off := 1) (by simp; omega) (World.cell?_setCell_same w1 _ _ f1)
  replace f2 := far (.inr (by omega)) f2 (by omega)
  replace f3 := far (.inr (by omega)) f3 (by omega)
  replace g1 : ∀ i, w2.frozen? ⟨w.heap.size + 1, i, none⟩ = false := fun i => (hb2.frozen (p := ⟨w.heap.size + 1, i, none⟩) (by simp; omega)).trans (by rw [World.frozen?_setCell]; exact g1 i)
  replace g2 : ∀ i, w2.frozen? ⟨w.heap.size + 1 + 1, i, none⟩ = false := fun i => (hb2.frozen (p := ⟨w.heap.size + 1 + 1, i, none⟩) (by simp; omega)).trans (by rw [World.frozen?_setCell]; exact g2 i)
  have HB2 := HS1.step hb2
  clear far
  replace o1 := (o1.set (p := ⟨w.heap.size + 1 + 1, 1, none⟩) (.inl (by simp)) (.slice a1 n1 c1)).below hb2
  go_wp2_with fail
  have HS2 : Bel w (w2.setCell ⟨w.heap.size + 1 + 1, 2, none⟩ (.slice a2 n2 c2)) := HB2.set (by simp; omega) _
  refine (HF.out _ HS2).mono ?_; rintro e w3 ⟨a3, n3, c3, rfl, o3, hb3⟩
  have hz3 := hb3.size
  simp only [World.size_setCell] at hz3 o3
  have far : ∀ {b o : Nat} {x : Value}, (b ≠ w.heap.size + 1 + 1 ∨ o ≠ 2) → w2.cell? ⟨b, o, none⟩ = some x → b < w2.heap.size → w3.cell? ⟨b, o, none⟩ = some x := fun hne hc hlt =>
    hb3.at (by simpa using hlt) (by rw [World.cell?_setCell_other (h := by intro h; simp at h; omega)]; exact hc)
  replace d2 := far (.inl (by omega)) d2 (by omega)
  replace d3 := far (.inl (by omega)) d3 (by omega)
  replace e0 := far (.inl (by omega)) e0 (by omega)
  replace e1 := far (.inl (by omega)) e1 (by omega)
  replace e2 := far (.inl (by omega)) e2 (by omega)
  replace e3 := far (.inl (by omega)) e3 (by omega)
  replace f0 := far (.inr (by omega)) f0 (by omega)
  replace f1 := far (.inr (by omega)) f1 (by omega)
  replace f2 := hb3.at (b := w.heap.size + 1 + 1) (off := 2) (by simp; omega) (World.cell?_setCell_same w2 _ _ f2)
  replace f3 := far (.inr (by omega)) f3 (by omega)
  replace g1 : ∀ i, w3.frozen? ⟨w.heap.size + 1, i, none⟩ = false := fun i => (hb3.frozen (p := ⟨w.heap.size + 1, i, none⟩) (by simp; omega)).trans (by rw [World.frozen?_setCell]; exact g1 i)
  replace g2 : ∀ i, w3.frozen? ⟨w.heap.size + 1 + 1, i, none⟩ = false := fun i => (hb3.frozen (p := ⟨w.heap.size + 1 + 1, i, none⟩) (by simp; omega)).trans (by rw [World.frozen?_setCell]; exact g2 i)
  have HB3 := HS2.step hb3
  clear far
  replace o1 := (o1.set (p := ⟨w.heap.size + 1 + 1, 2, none⟩) (.inl (by simp)) (.slice a2 n2 c2)).below hb3
  replace o2 := (o2.set (p := ⟨w.heap.size + 1 + 1, 2, none⟩) (.inl (by simp; omega)) (.slice a2 n2 c2)).below hb3
  go_wp2_with fail
  replace o1 := (((((o1.set (p := ⟨w.heap.size + 1 + 1, 3, none⟩) (.inl (by simp; try omega)) (.slice a3 n3 c3)).set (p := ⟨w.heap.size + 1, 0, none⟩) (.inl (by simp; try omega)) (.int .i64 z)).set (p := ⟨w.heap.size + 1, 1, none⟩) (.inl (by simp; try omega)) (.slice a1 n1 c1)).set (p := ⟨w.heap.size + 1, 2, none⟩) (.inl (by simp; try omega)) (.slice a2 n2 c2)).set (p := ⟨w.heap.size + 1, 3, none⟩) (.inl (by simp; try omega)) (.slice a3 n3 c3))
  replace o2 := (((((o2.set (p := ⟨w.heap.size + 1 + 1, 3, none⟩) (.inl (by simp; try omega)) (.slice a3 n3 c3)).set (p := ⟨w.heap.size + 1, 0, none⟩) (.inl (by simp; try omega)) (.int .i64 z)).set (p := ⟨w.heap.size + 1, 1, none⟩) (.inl (by simp; try omega)) (.slice a1 n1 c1)).set (p := ⟨w.heap.size + 1, 2, none⟩) (.inl (by simp; try omega)) (.slice a2 n2 c2)).set (p := ⟨w.heap.size + 1, 3, none⟩) (.inl (by simp; try omega)) (.slice a3 n3 c3))
  replace o3 := (((((o3.set (p := ⟨w.heap.size + 1 + 1, 3, none⟩) (.inl (by simp; try omega)) (.slice a3 n3 c3)).set (p := ⟨w.heap.size + 1, 0, none⟩) (.inl (by simp; try omega)) (.int .i64 z)).set (p := ⟨w.heap.size + 1, 1, none⟩) (.inl (by simp; try omega)) (.slice a1 n1 c1)).set (p := ⟨w.heap.size + 1, 2, none⟩) (.inl (by simp; try omega)) (.slice a2 n2 c2)).set (p := ⟨w.heap.size + 1, 3, none⟩) (.inl (by simp; try omega)) (.slice a3 n3 c3))
  have HBB := (((((HB3.set (p := ⟨w.heap.size + 1 + 1, 3, none⟩) (by simp; try omega) (.slice a3 n3 c3)).set (p := ⟨w.heap.size + 1, 0, none⟩) (by simp; try omega) (.int .i64 z)).set (p := ⟨w.heap.size + 1, 1, none⟩) (by simp; try omega) (.slice a1 n1 c1)).set (p := ⟨w.heap.size + 1, 2, none⟩) (by simp; try omega) (.slice a2 n2 c2)).set (p := ⟨w.heap.size + 1, 3, none⟩) (by simp; try omega) (.slice a3 n3 c3))
  refine bodyPost_ret (v := .agg #[.int .i64 z, .slice a1 n1 c1, .slice a2 n2 c2, .slice a3 n3 c3]) (by simp [results, Try.results58, go_sem, e0, e1, e2, e3]) rfl ⟨_, _, _, _, _, _, _, _, _, w1.heap.size, w2.heap.size, rfl, by omega, by omega, by simp; omega, o1.mono (by omega) (Nat.le_refl _), o2.mono (Nat.le_refl _) (by simp), o3.mono (Nat.le_refl _) (by simp), HBB⟩

/-- A step's four cells. -/
abbrev StV := Int × Value × Value × Value
def cellsSt (zs : List StV) : List Value := zs.flatMap fun z => [.int .i64 z.1, z.2.1, z.2.2.1, z.2.2.2]
theorem cellsSt_len (zs : List StV) : (cellsSt zs).length = zs.length * 4 := by
  induction zs with
  | nil => rfl
  | cons x r ih => show (_ :: _ :: _ :: _ :: cellsSt r).length = _; simp [ih]; omega
theorem cellsSt_app (a b : List StV) : cellsSt (a ++ b) = cellsSt a ++ cellsSt b := by simp [cellsSt]
theorem cellsSt_get (zs : List StV) (j : Nat) (z : StV) (h : zs[j]? = some z) : (cellsSt zs)[j * 4]? = some (.int .i64 z.1) ∧ (cellsSt zs)[j * 4 + 1]? = some z.2.1 ∧ (cellsSt zs)[j * 4 + 2]? = some z.2.2.1 ∧ (cellsSt zs)[j * 4 + 3]? = some z.2.2.2 := by
  induction zs generalizing j with
  | nil => simp at h
  | cons x r ih =>
    have e : cellsSt (x :: r) = [.int .i64 x.1, x.2.1, x.2.2.1, x.2.2.2] ++ cellsSt r := rfl
    cases j with
    | zero => simp at h; subst h; simp [e]
    | succ j =>
      obtain ⟨h0, h1, h2, h3⟩ := ih j (by simpa using h)
      rw [e]
      refine ⟨?_, ?_, ?_, ?_⟩
      · rw [List.getElem?_append_right (by simp; omega)]; simpa [show (j + 1) * 4 - 4 = j * 4 from by omega] using h0
      · rw [List.getElem?_append_right (by simp; omega)]; simpa [show (j + 1) * 4 + 1 - 4 = j * 4 + 1 from by omega] using h1
      · rw [List.getElem?_append_right (by simp; omega)]; simpa [show (j + 1) * 4 + 2 - 4 = j * 4 + 2 from by omega] using h2
      · rw [List.getElem?_append_right (by simp; omega)]; simpa [show (j + 1) * 4 + 3 - 4 = j * 4 + 3 from by omega] using h3
theorem cellsSt_set (zs rest : List StV) (y : StV) (p : Int) (a b c : Value) :
    ((((cellsSt (zs ++ y :: rest)).set (zs.length * 4) (.int .i64 p)).set (zs.length * 4 + 1) a).set (zs.length * 4 + 2) b).set (zs.length * 4 + 3) c = cellsSt (zs ++ (p, a, b, c) :: rest) := by
  have hl := cellsSt_len zs
  rw [cellsSt_app, cellsSt_app]
  rw [List.set_append_right _ _ (by omega), hl, Nat.sub_self, List.set_append_right _ _ (by omega), hl, Nat.add_sub_cancel_left, List.set_append_right _ _ (by omega), hl, Nat.add_sub_cancel_left, List.set_append_right _ _ (by omega), hl, Nat.add_sub_cancel_left]
  rfl
def z0St : StV := (0, .slice none 0 0, .slice none 0 0, .slice none 0 0)
theorem made4 (n : Nat) : (madeCells #[.int .i64 0, .slice none 0 0, .slice none 0 0, .slice none 0 0] (n * 4)).toList = cellsSt (List.replicate n z0St) := by
  have e : ∀ m, (madeCells #[.int .i64 0, .slice none 0 0, .slice none 0 0, .slice none 0 0] m).toList = (List.range m).map (fun i => (#[Value.int .i64 0, .slice none 0 0, .slice none 0 0, .slice none 0 0] : Array Value)[i % 4]!) := by
    intro m; simp [madeCells, Array.toList_range]
  rw [e]
  induction n with
  | zero => rfl
  | succ n ih =>
    rw [List.replicate_succ', cellsSt_app, ← ih, show (n + 1) * 4 = n * 4 + 1 + 1 + 1 + 1 from by omega, List.range_succ, List.range_succ, List.range_succ, List.range_succ]
    simp only [List.map_append, List.map_cons, List.map_nil, List.append_assoc]
    congr 1
    have h0 : (n * 4) % 4 = 0 := by omega
    have h1 : (n * 4 + 1) % 4 = 1 := by omega
    have h2 : (n * 4 + 1 + 1) % 4 = 2 := by omega
    have h3 : (n * 4 + 1 + 1 + 1) % 4 = 3 := by omega
    rw [h0, h1, h2, h3]
    rfl

/-- One step in a band of blocks of its own. -/
def OwnSt1 (lo m1 m2 hi : Nat) (w : World) (z : StV) (x : Stp) : Prop := lo ≤ m1 ∧ m1 ≤ m2 ∧ m2 ≤ hi ∧ z.1 = x.1 ∧ OwnI lo m1 w z.2.1 x.2.1 ∧ OwnI m1 m2 w z.2.2.1 x.2.2.1 ∧ OwnC m2 hi w z.2.2.2 x.2.2.2
theorem OwnSt1.same {lo m1 m2 hi w w' z x} (h : OwnSt1 lo m1 m2 hi w z x) (hs : ∀ b, lo ≤ b → b < hi → b < w.heap.size → w'.heap[b]? = w.heap[b]?) : OwnSt1 lo m1 m2 hi w' z x :=
  ⟨h.1, h.2.1, h.2.2.1, h.2.2.2.1, h.2.2.2.2.1.same fun b h1 h2 h3 => hs b h1 (by have := h.2.1; have := h.2.2.1; omega) h3, h.2.2.2.2.2.1.same fun b h1 h2 h3 => hs b (by have := h.1; omega) (by have := h.2.2.1; omega) h3, h.2.2.2.2.2.2.same fun b h1 h2 h3 => hs b (by have := h.1; have := h.2.1; omega) h2 h3⟩
/-- Steps of the call's own, one behind the other. -/
structure Bd where
  lo : Nat
  m1 : Nat
  m2 : Nat
  hi : Nat
def InsSt (lo hi : Nat) (w : World) (zs : List StV) (ss : List Stp) (bs : Nat → Bd) : Prop :=
  zs.length = ss.length ∧ ∀ j z, zs[j]? = some z → lo ≤ (bs j).lo ∧ (bs j).hi ≤ hi ∧ OwnSt1 (bs j).lo (bs j).m1 (bs j).m2 (bs j).hi w z (ss.getD j st0) ∧ ∀ i, i < j → (bs i).hi ≤ (bs j).lo
theorem InsSt.nil (lo hi : Nat) (w : World) (bs : Nat → Bd) : InsSt lo hi w [] [] bs := ⟨rfl, fun j u h => by simp at h⟩
theorem InsSt.same {lo hi : Nat} {w w' : World} {zs : List StV} {ss : List Stp} {bs : Nat → Bd} (h : InsSt lo hi w zs ss bs) (hs : ∀ b, lo ≤ b → b < hi → b < w.heap.size → w'.heap[b]? = w.heap[b]?) : InsSt lo hi w' zs ss bs :=
  ⟨h.1, fun j u hj => by
    obtain ⟨a, c, d, e⟩ := h.2 j u hj
    exact ⟨a, c, d.same fun q h1 h2 h3 => hs q (by omega) (by omega) h3, e⟩⟩
theorem InsSt.mono {lo hi lo' hi' : Nat} {w : World} {zs : List StV} {ss : List Stp} {bs : Nat → Bd} (h : InsSt lo hi w zs ss bs) (h1 : lo' ≤ lo) (h2 : hi ≤ hi') : InsSt lo' hi' w zs ss bs :=
  ⟨h.1, fun j u hj => by
    obtain ⟨a, c, d, e⟩ := h.2 j u hj
    exact ⟨by omega, by omega, d, e⟩⟩
theorem InsSt.snoc {lo hi m1 m2 hi2 : Nat} {w : World} {zs : List StV} {ss : List Stp} {bs : Nat → Bd} {z : StV} {x : Stp} (h : InsSt lo hi w zs ss bs) (h0 : lo ≤ hi) (h2 : hi ≤ hi2) (ho : OwnSt1 hi m1 m2 hi2 w z x) : InsSt lo hi2 w (zs ++ [z]) (ss ++ [x]) (fun i => if i = zs.length then ⟨hi, m1, m2, hi2⟩ else bs i) := by
  refine ⟨by simp [h.1], fun j v hj => ?_⟩
  by_cases hl : j < zs.length
  · rw [List.getElem?_append_left hl] at hj
    obtain ⟨a, c', d, e⟩ := h.2 j v hj
    have e1 : (ss ++ [x]).getD j st0 = ss.getD j st0 := by
      have := h.1
      simp only [List.getD_eq_getElem?_getD]
      rw [List.getElem?_append_left (by omega)]
    dsimp only
    rw [if_neg (by omega), e1]
    refine ⟨a, by omega, d, fun i hi' => ?_⟩
    rw [if_neg (by omega)]
    exact e i hi'
  · have hjl : j = zs.length := by
      have := (List.getElem?_eq_some_iff.1 hj).1
      simp at this; omega
    subst hjl
    rw [List.getElem?_append_right (Nat.le_refl _), Nat.sub_self] at hj
    simp only [List.getElem?_cons_zero, Option.some.injEq] at hj
    subst hj
    have e1 : (ss ++ [x]).getD zs.length st0 = x := by
      rw [h.1]
      simp [List.getD]
    dsimp only
    rw [if_pos rfl, e1]
    refine ⟨h0, Nat.le_refl _, ho, fun i hi' => ?_⟩
    rw [if_neg (by omega)]
    have hq : zs[i]? = some zs[i] := List.getElem?_eq_getElem hi'
    exact (h.2 i _ hq).2.1
/-- Steps that may be written. -/
def OwnSt (lo hi : Nat) (w : World) (v : Value) (ss : List Stp) : Prop :=
  ∃ zs bs, w.ownsRow lo 82 4 v ss.length (cellsSt zs) ∧ InsSt lo hi w zs ss bs ∧ ∀ g, v.ownBlock = some g → g < hi ∧ ∀ j z, zs[j]? = some z → g < (bs j).lo ∨ (bs j).hi ≤ g
theorem OwnSt.same {lo hi w w' v ss} (h : OwnSt lo hi w v ss) (hs : ∀ b, lo ≤ b → b < hi → b < w.heap.size → w'.heap[b]? = w.heap[b]?) : OwnSt lo hi w' v ss := by
  obtain ⟨zs, bs, h1, h2, h3⟩ := h
  refine ⟨zs, bs, ?_, h2.same hs, h3⟩
  have h1' := h1
  obtain ⟨q1, q0 | ⟨g, cap, cur, e1, e2, hh, r⟩⟩ := h1
  · exact ⟨q1, .inl q0⟩
  · have hb : v.ownBlock = some g := by rw [e1]; rfl
    exact ⟨q1, .inr ⟨g, cap, cur, e1, e2, by rw [hs g e2 (h3 g hb).1 (own_lt h1' hb).2]; exact hh, r⟩⟩
theorem OwnSt.below {lo hi w w' v ss} (h : OwnSt lo hi w v ss) (hb : Bel w w') : OwnSt lo hi w' v ss := h.same fun b _ _ h3 => hb.block b h3
theorem OwnSt.alloc {lo hi w v ss} (h : OwnSt lo hi w v ss) (o : Obj) : OwnSt lo hi (w.alloc o) v ss := h.below (Bel.alloc0 w o)
theorem OwnSt.k {lo hi w v ss} (h : OwnSt lo hi w v ss) : K (fun w => OwnSt lo hi w v ss) w := fun _ hb => h.below hb
theorem OwnSt.chg {lo hi lo' hi' w w' v ss} (h : OwnSt lo hi w v ss) (k : Chg lo' hi' w w') (hd : hi ≤ lo' ∨ hi' ≤ lo) : OwnSt lo hi w' v ss :=
  h.same fun b h1 h2 h3 => k.block b h3 (by omega)
theorem OwnSt.sl {lo hi w v ss} (h : OwnSt lo hi w v ss) : SlSt lo hi w v ss := by
  obtain ⟨zs, bs, h1, h2, h3⟩ := h
  have h1' := h1
  obtain ⟨q1, q0 | ⟨g, cap, cur, e1, e2, hh, r1, r2, r3⟩⟩ := h1
  · obtain ⟨hv, q3⟩ := q0
    have hl : ss.length = 0 := by rw [cellsSt_len, h2.1] at q1; omega
    exact ⟨none, 0, by rw [hl]; exact hv, by omega, ⟨Nat.zero_le _, fun _ => rfl⟩, fun hp => by omega⟩
  · subst e1
    refine ⟨some ⟨g, 0, none⟩, cap, rfl, r1, ⟨r2, fun h => by simp at h⟩, fun hp => ⟨g, 0, rfl, e2, (h3 g rfl).1, fun j hj => ?_⟩⟩
    have hju : j < zs.length := by rw [h2.1]; exact hj
    obtain ⟨c0, c1, c2, c3⟩ := cellsSt_get zs j zs[j] (List.getElem?_eq_getElem hju)
    have hl := cellsSt_len zs
    obtain ⟨a, c, d, e⟩ := h2.2 j _ (List.getElem?_eq_getElem hju)
    obtain ⟨d1, d2, d3, d4, d5, d6, d7⟩ := d
    refine ⟨zs[j].2.1, zs[j].2.2.1, zs[j].2.2.2, ?_, ?_, ?_, ?_, d5.sl.mono a (by omega), d6.sl.mono (by omega) (by omega), d7.sl.mono (by omega) c⟩
    · rw [Nat.zero_add, h1'.cellAt (j * 4) (by omega), c0, d4]
    · rw [Nat.zero_add, h1'.cellAt (j * 4 + 1) (by omega), c1]
    · rw [Nat.zero_add, h1'.cellAt (j * 4 + 2) (by omega), c2]
    · rw [Nat.zero_add, h1'.cellAt (j * 4 + 3) (by omega), c3]
def RetSts (w : World) (ss : List Stp) (e : Ending) (w' : World) : Prop := ∃ ad n k, e = .returned (.slice ad n k) ∧ OwnSt w.heap.size w'.heap.size w' (.slice ad n k) ss ∧ Bel w w'

theorem stepInfo : (Try.prog.info? 82).map (fun i => (i.zero, i.size, i.bytes)) = some (some (.agg #[.int .i64 0, .slice none 0 0, .slice none 0 0, .slice none 0 0]), 4, 80) := by kernel_rfl
set_option maxRecDepth 100000 in
set_option maxHeartbeats 1000000 in
theorem toStepS_c (l h : Nat) (v : Value) (ss : List Stp) (w : World) (hx : totSt ss ≤ 1048576) (hv : SlSt l h w v ss) :
    Calls Try.prog 11 #[v] w (RetSts w ss) := by
  obtain ⟨ad, cap, rfl⟩ := hv.form
  obtain ⟨hxl, hmax⟩ := totSt_each hx
  obtain ⟨i0, hi, hz0, hz1, hz2⟩ := info_parts stepInfo
  go_enter Try.func11, Try.ntmps11
  go_wp2_with (at_make; refine wpList_make_full _ rfl _ _ 32 rfl w.heap.size 82 i0 (.agg #[.int .i64 0, .slice none 0 0, .slice none 0 0, .slice none 0 0]) 4 (by kernel_rfl) hi hz0 hz1 _ _ _ _ ss.length rfl rfl rfl rfl (by rw [hz2]; omega) (by unfold maxLen; omega) (Nat.le_refl _) ?_; intro w1 hown hg)
  have hz3 : (madeCells (Value.agg #[.int .i64 0, .slice none 0 0, .slice none 0 0, .slice none 0 0]).cells (ss.length * 4)).toList = cellsSt ([] ++ List.replicate (ss.length - 0) z0St) := by
    rw [show (Value.agg #[.int .i64 0, .slice none 0 0, .slice none 0 0, .slice none 0 0]).cells = #[.int .i64 0, .slice none 0 0, .slice none 0 0, .slice none 0 0] from rfl, made4]; simp
  rw [hz3] at hown
  have hb0 : Bel w w1 := (Bel.rfl' w).grown hg (by simp)
  have hs1 : w.heap.size + 1 ≤ w1.heap.size := by
    rcases hown.2 with ⟨e, _⟩ | ⟨g, c, cur, e, _, hh, _⟩
    · simp at e
    · simp at e; have := (Array.getElem?_eq_some_iff.1 hh).1; omega
  clear hg hz3
  go_loopw [4] (fun i wr => ∃ (k : Nat) (zs : List StV) (bs : Nat → Bd), k ≤ ss.length ∧ i = .int .i64 k ∧ wr.ownsRow w.heap.size 82 4 (.slice (some ⟨w.heap.size, 0, none⟩) ss.length ss.length) ss.length (cellsSt (zs ++ List.replicate (ss.length - k) z0St)) ∧
    InsSt (w.heap.size + 1) wr.heap.size wr zs (ss.take k) bs ∧ w.heap.size + 1 ≤ wr.heap.size ∧ Bel w wr) (fun i _ => ss.length - (intOf i).toNat)
  case atStart => exact ⟨0, [], fun _ => ⟨0, 0, 0, 0⟩, Nat.zero_le _, rfl, hown, InsSt.nil _ _ _ _, hs1, hb0⟩
  case round =>
    obtain ⟨k, zs, bs, hk, rfl, ho, hin, hs, hb⟩ := hrel
    have hzl : zs.length = k := by have := hin.1; simp at this; omega
    by_cases hlt : k < ss.length
    · obtain ⟨b, off, u1, u2, u3, rfl, hbs, c0, c1, c2, c3, s1, s2, s3⟩ := hv.at hb k hlt
      obtain ⟨hm1, hm2, hm3⟩ := hmax k hlt
      have HTK : Hid (ss.take (k+1) = ss.take k ++ [ss.getD k st0]) := by show _ = _; rw [List.take_succ_eq_append_getElem hlt]; simp [List.getD, hlt]
      have hin1 : (k : Int) < ss.length := by omega
      have hrep : List.replicate (ss.length - k) z0St = z0St :: List.replicate (ss.length - (k+1)) z0St := by rw [show ss.length - k = (ss.length - (k+1)) + 1 from by omega, List.replicate_succ]
      rw [hrep] at ho
      generalize ss.getD k st0 = x at *
      obtain ⟨p, xp, xw, c⟩ := x
      simp only at *
      obtain ⟨a1, d1, rfl⟩ := s1.form
      obtain ⟨a2, d2, rfl⟩ := s2.form
      obtain ⟨a3, d3, rfl⟩ := s3.form
      have HG : Hid ((zs ++ z0St :: List.replicate (ss.length - (k+1)) z0St)[k]? = some z0St) := by show _ = _; rw [List.getElem?_append_right (by omega), hzl, Nat.sub_self]; rfl
      have HC := Lib.hid (toStep_c l h p _ _ _ xp xw c wr hm1 hm2 hm3 s1 s2 s3)
      have HI := Lib.hid hin
      have HO := Lib.hid ho
      clear hv s1 s2 s3 hmax hown hin ho
      go_wp2_with (go_at_call 58; refine HC.out.mono ?_; rintro e w' ⟨b1, m1, q1, b2, m2, q2, b3, m3, q3, M1, M2, rfl, hM1, hM2, hM3, o1, o2, o3, hb2⟩; have ho3 := ownsRow_bel HO.out hb2; obtain ⟨t0, t1, t2, t3⟩ := cellsSt_get _ k z0St (HG.out); have y0 := (ho3.cellAt (k * 4) (by omega)).trans t0; have y1 := (ho3.cellAt (k * 4 + 1) (by omega)).trans t1; have y2 := (ho3.cellAt (k * 4 + 2) (by omega)).trans t2; have y3 := (ho3.cellAt (k * 4 + 3) (by omega)).trans t3; have x0 := ho3.frozenAt (k * 4); have x1 := ho3.frozenAt (k * 4 + 1); have x2 := ho3.frozenAt (k * 4 + 2); have x3 := ho3.frozenAt (k * 4 + 3))
      go_roundw
      case rel =>
        have hst := (((((ho3.stored (k * 4) (.int .i64 p)).1).stored (k * 4 + 1) (.slice b1 m1 q1)).1.stored (k * 4 + 2) (.slice b2 m2 q2)).1.stored (k * 4 + 3) (.slice b3 m3 q3)).1
        have hst2 := cellsSt_set zs (List.replicate (ss.length - (k+1)) z0St) z0St p (.slice b1 m1 q1) (.slice b2 m2 q2) (.slice b3 m3 q3)
        rw [hzl] at hst2
        rw [hst2] at hst
        have hsz := hb2.size
        have hin2 := (HI.out.same (fun b _ _ h3 => hb2.block b h3)).snoc (z := (p, .slice b1 m1 q1, .slice b2 m2 q2, .slice b3 m3 q3)) (x := (p, xp, xw, c)) hs hsz ⟨hM1, hM2, hM3, rfl, o1, o2, o3⟩
        rw [← HTK.out] at hin2
        have hin3 := hin2.same (w' := (((w'.setCell ⟨w.heap.size, k * 4, none⟩ (.int .i64 p)).setCell ⟨w.heap.size, k * 4 + 1, none⟩ (.slice b1 m1 q1)).setCell ⟨w.heap.size, k * 4 + 2, none⟩ (.slice b2 m2 q2)).setCell ⟨w.heap.size, k * 4 + 3, none⟩ (.slice b3 m3 q3)) (fun b h1 h2 _ => by
          rw [Below.heap_setCell _ _ _ b (by simp; omega), Below.heap_setCell _ _ _ b (by simp; omega), Below.heap_setCell _ _ _ b (by simp; omega), Below.heap_setCell _ _ _ b (by simp; omega)])
        have hB := ((((hb.step hb2).set (p := ⟨w.heap.size, k * 4, none⟩) (Nat.le_refl _) (.int .i64 p)).set (p := ⟨w.heap.size, k * 4 + 1, none⟩) (Nat.le_refl _) (.slice b1 m1 q1)).set (p := ⟨w.heap.size, k * 4 + 2, none⟩) (Nat.le_refl _) (.slice b2 m2 q2)).set (p := ⟨w.heap.size, k * 4 + 3, none⟩) (Nat.le_refl _) (.slice b3 m3 q3)
        refine ⟨k+1, zs ++ [(p, .slice b1 m1 q1, .slice b2 m2 q2, .slice b3 m3 q3)], _, by omega, by go_num, by rw [List.append_assoc]; exact hst, by simpa using hin3, by simp; omega, hB⟩
      case measure => simp [intOf]; omega
    · rw [show ss.length - k = 0 from by omega, List.replicate_zero, List.append_nil] at ho
      rw [List.take_of_length_le (by omega)] at hin
      have HI := Lib.hid hin
      have HO := Lib.hid ho
      clear hin ho hv hmax hown
      go_wp2_with fail
      go_ret
      refine ⟨_, _, _, rfl, ⟨zs, bs, HO.out, HI.out.mono (Nat.le_succ _) (Nat.le_refl _), fun g hg => ?_⟩, hb⟩
      simp [Value.ownBlock] at hg
      subst hg
      exact ⟨by omega, fun j u hj => .inl (by have := (HI.out.2 j u hj).1; omega)⟩
end Go.Proofs.Yteegjnobmbcjiaa
end
section
/- The laws' helpers over steps: comparisons. -/
namespace Go.Proofs.Yteegjnobmbcjiaa
open Go.RowKit

set_option maxRecDepth 100000 in
set_option maxHeartbeats 400000 in
theorem eqStep_same (l h l' h' : Nat) (z : Int) (u1 u2 u3 q1 q2 q3 : Value) (xp xw : List Int) (c : List Lt) (w : World) (hp : xp.length ≤ 1048576) (hw : xw.length ≤ 1048576) (hc : sumC c ≤ 1048576) (a1 : SlI l h w u1 xp) (a2 : SlI l h w u2 xw) (a3 : SlC l h w u3 c) (b1 : SlI l' h' w q1 xp) (b2 : SlI l' h' w q2 xw) (b3 : SlC l' h' w q3 c) :
    Calls Try.prog 62 #[.agg #[.int .i64 z, u1, u2, u3], .agg #[.int .i64 z, q1, q2, q3]] w (RetV w (.bool true)) := by
  have HB : Bel w ((w.alloc (.cells #[.int .i64 z, u1, u2, u3] 82)).alloc (.cells #[.int .i64 z, q1, q2, q3] 82)) := Bel.alloc2 _ _ _
  have HC := Lib.hid (fun (w' : World) (hb : Bel w w') => eqIntS_same l h l' h' u1 q1 xp w' hp (a1.below hb) (b1.below hb))
  have HD := Lib.hid (fun (w' : World) (hb : Bel w w') => eqIntS_same l h l' h' u2 q2 xw w' hw (a2.below hb) (b2.below hb))
  have HF := Lib.hid (fun (w' : World) (hb : Bel w w') => eqLitS_same l h l' h' u3 q3 c w' hc (a3.below hb) (b3.below hb))
  clear a1 a2 a3 b1 b2 b3
  have hne : (z != z) = false := by simp
  go_enter Try.func62, Try.ntmps62
  go_wp2_with fail
  refine (HC.out _ HB).mono ?_; rintro e w1 ⟨rfl, hb1⟩
  have ka := hb1.at (b := w.heap.size) (off := 2) (by simp; omega) (show World.cell? _ _ = some u2 by simp [go_sem])
  have kb := hb1.at (b := w.heap.size + 1) (off := 2) (by simp) (show World.cell? _ _ = some q2 by simp [go_sem])
  have la := hb1.at (b := w.heap.size) (off := 3) (by simp; omega) (show World.cell? _ _ = some u3 by simp [go_sem])
  have lb := hb1.at (b := w.heap.size + 1) (off := 3) (by simp) (show World.cell? _ _ = some q3 by simp [go_sem])
  have z1 := hb1.size
  simp only [World.size_alloc] at z1
  have HB1 := HB.step hb1
  go_wp2_with fail
  refine (HD.out _ HB1).mono ?_; rintro e w2 ⟨rfl, hb2⟩
  replace la := hb2.at (by omega) la
  replace lb := hb2.at (by omega) lb
  have HB2 := HB1.step hb2
  go_wp2_with fail
  refine (HF.out _ HB2).mono ?_; rintro e w3 ⟨rfl, hb3⟩
  go_wp2_with fail
  go_ret
  exact ⟨rfl, HB2.step hb3⟩

set_option maxRecDepth 100000 in
set_option maxHeartbeats 400000 in
theorem eqStepS_same (l h l' h' : Nat) (v u : Value) (ss : List Stp) (w : World) (hx : totSt ss ≤ 1048576) (hv : SlSt l h w v ss) (hu : SlSt l' h' w u ss) :
    Calls Try.prog 16 #[v, u] w (RetV w (.bool true)) := by
  obtain ⟨ad, cap, rfl⟩ := hv.form
  obtain ⟨ad', cap', rfl⟩ := hu.form
  obtain ⟨hxl, hmax⟩ := totSt_each hx
  have hl' : ((ss.length : Int) != ss.length) = false := by simp
  go_enter Try.func16, Try.ntmps16
  go_wp2_with fail
  go_loopw [5] (fun i wr => ∃ k : Nat, k ≤ ss.length ∧ i = .int .i64 k ∧ Bel w wr) (fun i _ => ss.length - (intOf i).toNat)
  case atStart => exact ⟨0, Nat.zero_le _, rfl, Bel.rfl' _⟩
  case round =>
    obtain ⟨k, hk, rfl, hb⟩ := hrel
    by_cases hlt : k < ss.length
    · obtain ⟨b, off, u1, u2, u3, rfl, -, c0, c1, c2, c3, s1, s2, s3⟩ := hv.at hb k hlt
      obtain ⟨b', off', q1, q2, q3, rfl, -, d0, d1, d2, d3, t1, t2, t3⟩ := hu.at hb k hlt
      obtain ⟨hm1, hm2, hm3⟩ := hmax k hlt
      have hin1 : (k : Int) < ss.length := by omega
      clear hv hu hmax
      generalize ss.getD k st0 = x at *
      obtain ⟨p, xp, xw, c⟩ := x
      simp only at *
      have B1 := World.block_lt_of_cell? wr ⟨b, _, none⟩ c1
      have B2 := World.block_lt_of_cell? wr ⟨b', _, none⟩ d1
      have HC := Lib.hid (fun w' (h1 : Bel wr w') => eqStep_same _ _ _ _ p u1 u2 u3 q1 q2 q3 xp xw c w' hm1 hm2 hm3 (s1.below h1) (s2.below h1) (s3.below h1) (t1.below h1) (t2.below h1) (t3.below h1))
      clear s1 s2 s3 t1 t2 t3
      go_wp2_with fail
      go_region_held3 (fun w' => Bel wr w' ∧ (w'.cell? ⟨b, off + k * 4, none⟩ = some (.int .i64 p) ∧ w'.cell? ⟨b, off + k * 4 + 1, none⟩ = some u1 ∧ w'.cell? ⟨b, off + k * 4 + 2, none⟩ = some u2 ∧ w'.cell? ⟨b, off + k * 4 + 3, none⟩ = some u3) ∧ (w'.cell? ⟨b', off' + k * 4, none⟩ = some (.int .i64 p) ∧ w'.cell? ⟨b', off' + k * 4 + 1, none⟩ = some q1 ∧ w'.cell? ⟨b', off' + k * 4 + 2, none⟩ = some q2 ∧ w'.cell? ⟨b', off' + k * 4 + 3, none⟩ = some q3))
        (first | exact ⟨Bel.drew0 _, ⟨c0, c1, c2, c3⟩, d0, d1, d2, d3⟩ | exact ⟨hb2.of_drew, ⟨hb2.at B1 c0, hb2.at B1 c1, hb2.at B1 c2, hb2.at B1 c3⟩, hb2.at B2 d0, hb2.at B2 d1, hb2.at B2 d2, hb2.at B2 d3⟩ | fail)
        (first | (go_at_call 62; refine (HC.out _ (Bel.drew0 _)).mono ?_; rintro e w2 ⟨rfl, hb2⟩) | fail)
      go_wp2_with fail
      go_roundw
      case rel => exact ⟨k+1, by omega, by go_num, hb.step hb2.of_drew⟩
      case measure => simp [intOf]; omega
    · go_wp2_with fail
      go_ret
      exact ⟨rfl, hb⟩
end Go.Proofs.Yteegjnobmbcjiaa
end
section
/- The arguments of a law, opened: slices of ints, a struct of one, strings, ints. -/
namespace Go.Proofs.Yteegjnobmbcjiaa
open Go.ChangeShapes Go.WideShapes Go.ChangeAt Go.RowKit
open Go.ChangeMaps (open_string shut_string)
set_option linter.unusedVariables false
set_option maxRecDepth 100000

theorem Row.own : ownKnob Try.prog.godebug = none := by kernel_rfl
theorem Row.laidOut : laidOutB Try.prog = true := by kernel_rfl

/-- A slice of ints that came in. -/
theorem op_slI {H : Type} {enc : TypeId × Value → H} {W : World} {fuel : Nat} {v : Value} {x : DataW H × List MemPlace}
    (h : DataW.trod enc Try.prog W 0 (fun _ => true) true fuel 22 [v] = some x) :
    ∃ xs : List Int, xs.length ≤ 9223372036854775807 ∧ SlI 0 W.heap.size W v xs ∧ ∀ n ∈ xs, (Lit.int .i64 n).wf = true := by
  rcases open_ints Try.underlying22 Try.underlying3 (by kernel_rfl) h with ⟨hcs, _⟩ | ⟨a, l, c, zs, hcs, _, hl, hm, hz, _, hcell, hwz⟩
  · simp at hcs
    subst hcs
    exact ⟨[], by simp, SlI.nil _ _ _, by simp⟩
  · simp at hcs
    subst hcs
    have hz' : zs.length = c := by simpa using hz
    have hlen : (zs.take l).length = l := by simp; omega
    refine ⟨zs.take l, by rw [hlen]; have : maxLen = 9223372036854775807 := rfl; omega, ⟨some a, c, by rw [hlen], by rw [hlen]; exact hl, ⟨hm, fun h => by simp at h⟩, fun hp => ?_⟩, fun n hn => hwz n (List.mem_of_mem_take hn)⟩
    rw [hlen] at hp
    obtain ⟨b, off, spot⟩ := a
    have h0 := hcell 0 (by omega)
    have hspot : spot = none := by simpa [Addr.add] using World.cell?_spot h0
    subst hspot
    refine ⟨b, off, rfl, Nat.zero_le _, World.block_lt_of_cell? W ⟨b, off + 0, none⟩ h0, fun j hj => ?_⟩
    rw [hlen] at hj
    rw [← add_plain, hcell j (by omega)]
    simp [List.getD, hj]

theorem op_int {H : Type} {enc : TypeId × Value → H} {W : World} {v : Value} {d : DataW H} {p : List MemPlace} {base : Nat} (hv : Value.okWide Try.prog W .any base 3 v)
    (h : DataW.Trod enc Try.prog W 0 (fun _ => true) true 3 v d p) : ∃ n : Int, v = .int .i64 n ∧ -9223372036854775808 ≤ n ∧ n ≤ 9223372036854775807 := by
  obtain ⟨n, rfl, rfl, rfl, wf⟩ := open_int Try.underlying3 hv h
  have h1 : IntKind.i64.min = -9223372036854775808 := rfl
  have h2 : IntKind.i64.max = 9223372036854775807 := rfl
  simp only [Lit.wf, Bool.and_eq_true, decide_eq_true_eq] at wf
  exact ⟨n, rfl, by omega, by omega⟩

theorem op_ints {H : Type} {enc : TypeId × Value → H} {W : World} {v : Value} {d : DataW H} {p : List MemPlace} {base : Nat} (hv : Value.okWide Try.prog W .any base 22 v)
    (h : DataW.Trod enc Try.prog W 0 (fun _ => true) true 22 v d p) : ∃ xs : List Int, xs.length ≤ 9223372036854775807 ∧ SlI 0 W.heap.size W v xs ∧ ∀ n ∈ xs, (Lit.int .i64 n).wf = true := by
  obtain ⟨a, n, c, rfl⟩ := okWide_slice Try.underlying22 hv
  obtain ⟨fuel, hf⟩ := h
  exact op_slI (x := (d, p)) (by simpa [Value.cells] using hf)

theorem op_sign {H : Type} {enc : TypeId × Value → H} {W : World} {v : Value} {d : DataW H} {p : List MemPlace} {base : Nat} (hv : Value.okWide Try.prog W .any base 24 v)
    (h : DataW.Trod enc Try.prog W 0 (fun _ => true) true 24 v d p) : ∃ u, v = .agg #[u] ∧ ∃ xs : List Int, xs.length ≤ 9223372036854775807 ∧ SlI 0 W.heap.size W u xs ∧ ∀ n ∈ xs, (Lit.int .i64 n).wf = true := by
  obtain ⟨cs, rfl, hsz⟩ := okWide_struct Try.underlying24 hv
  have hC : Try.prog.cellsOf 24 = 1 := by kernel_rfl
  obtain ⟨u, rfl⟩ : ∃ u, cs = #[u] := by
    rw [hC] at hsz
    match cs, hsz with
    | ⟨[u]⟩, _ => exact ⟨u, rfl⟩
  obtain ⟨fuel, hf⟩ := h
  obtain ⟨y0, n, hx, _, h0⟩ := trod_struct1 Try.underlying24 hf
  exact ⟨u, rfl, op_slI (x := y0) (by simpa [Value.cells, show Try.prog.cellsOf 22 = 1 from by kernel_rfl] using h0)⟩

theorem op_string {H : Type} {enc : TypeId × Value → H} {W : World} {v : Value} {d : DataW H} {p : List MemPlace} {base : Nat} (hv : Value.okWide Try.prog W .any base 9 v)
    (h : DataW.Trod enc Try.prog W 0 (fun _ => true) true 9 v d p) : ∃ s : ByteArray, v = .string s ∧ s.size ≤ 9223372036854775807 := by
  obtain ⟨s, rfl, rfl, rfl, hs⟩ := open_string Try.underlying9 hv h
  exact ⟨s, rfl, hs⟩

theorem op_lt {H : Type} {enc : TypeId × Value → H} {W : World} {t : TypeId} {v : Value} {d : DataW H} {p : List MemPlace}
    (h : DataW.Trod enc Try.prog W 0 (fun _ => true) true t v d p) : ∀ x ∈ p, x.block < W.heap.size := by
  obtain ⟨m, hm⟩ := h; exact DataW.trod_lt m _ _ _ hm

end Go.Proofs.Yteegjnobmbcjiaa
end
section
/- A literal that came in, and a slice of literals, opened. -/
namespace Go.Proofs.Yteegjnobmbcjiaa
open Go.ChangeShapes Go.WideShapes Go.ChangeAt Go.RowKit
set_option linter.unusedVariables false
set_option maxRecDepth 100000

theorem op_litcells {H : Type} {enc : TypeId × Value → H} {W : World} {fuel : Nat} {cs : List Value} {x : DataW H × List MemPlace}
    (h : DataW.trod enc Try.prog W 0 (fun _ => true) true fuel 155 cs = some x) :
    ∃ (p : Bool) (u1 u2 : Value) (l r : List Int), cs = [.bool p, u1, u2] ∧ SlI 0 W.heap.size W u1 l ∧ l.length ≤ 9223372036854775807 ∧ SlI 0 W.heap.size W u2 r ∧ r.length ≤ 9223372036854775807 := by
  have hC : Try.prog.cellsOf 155 = 3 := by kernel_rfl
  obtain ⟨y0, y1, y2, n, _, hl, h0, h1, h2⟩ := Go.Deep.trod_struct3 Try.underlying155 h
  rw [hC] at hl
  match cs, hl with
  | [v0, v1, v2], _ =>
    have c0 : Try.prog.cellsOf 4 = 1 := by kernel_rfl
    have c1 : Try.prog.cellsOf 22 = 1 := by kernel_rfl
    simp only [c0, c1] at h0 h1 h2
    obtain ⟨p, e0, _⟩ := DataW.trod_bool Try.underlying4 (by simpa using h0)
    obtain ⟨l, hl, s1, _⟩ := op_slI (v := v1) (by simpa using h1)
    obtain ⟨r, hr, s2, _⟩ := op_slI (v := v2) (by simpa using h2)
    refine ⟨p, v1, v2, l, r, ?_, s1, hl, s2, hr⟩
    simp at e0
    rw [e0]

theorem op_lit {H : Type} {enc : TypeId × Value → H} {W : World} {v : Value} {d : DataW H} {p : List MemPlace} {base : Nat} (hv : Value.okWide Try.prog W .any base 155 v)
    (h : DataW.Trod enc Try.prog W 0 (fun _ => true) true 155 v d p) : ∃ (p : Bool) (u1 u2 : Value) (l r : List Int), v = .agg #[.bool p, u1, u2] ∧ SlI 0 W.heap.size W u1 l ∧ l.length ≤ 9223372036854775807 ∧ SlI 0 W.heap.size W u2 r ∧ r.length ≤ 9223372036854775807 := by
  obtain ⟨cs, rfl, hsz⟩ := okWide_struct Try.underlying155 hv
  obtain ⟨fuel, hf⟩ := h
  obtain ⟨p, u1, u2, l, r, e, s1, hl, s2, hr⟩ := op_litcells (x := (d, p)) (cs := cs.toList) (by simpa [Value.cells] using hf)
  exact ⟨p, u1, u2, l, r, by rw [← e], s1, hl, s2, hr⟩

theorem op_lits {H : Type} {enc : TypeId × Value → H} {W : World} {v : Value} {d : DataW H} {p : List MemPlace} {base : Nat} (hv : Value.okWide Try.prog W .any base 75 v)
    (h : DataW.Trod enc Try.prog W 0 (fun _ => true) true 75 v d p) : ∃ c : List Lt, SlC 0 W.heap.size W v c := by
  obtain ⟨a, n, k, rfl⟩ := okWide_slice Try.underlying75 hv
  have hC : Try.prog.cellsOf 155 = 3 := by kernel_rfl
  obtain ⟨fuel, hf⟩ := h
  rcases Go.Deep.open_slice Try.underlying75 (by simpa [Value.cells] using hf) with ⟨hcs, _⟩ | ⟨ad, len, cap, m, n', D, Pl, hcs, _, hl, hm, hmm, _, hx⟩
  · simp at hcs
    obtain ⟨rfl, rfl, rfl⟩ := hcs
    exact ⟨[], SlC.nil _ _ _⟩
  · simp at hcs
    obtain ⟨rfl, rfl, rfl⟩ := hcs
    simp at hmm
    subst hmm
    have each : ∀ i, i < n → ∃ q : Bool × Value × Value × List Int × List Int, W.cell? (ad.add (i * 3)) = some (.bool q.1) ∧ W.cell? (ad.add (i * 3 + 1)) = some q.2.1 ∧ W.cell? (ad.add (i * 3 + 2)) = some q.2.2.1 ∧ SlI 0 W.heap.size W q.2.1 q.2.2.2.1 ∧ SlI 0 W.heap.size W q.2.2.1 q.2.2.2.2 := fun i hi => by
      obtain ⟨cs', h1, h2⟩ := hx i (by omega)
      rw [hC] at h1
      obtain ⟨_, hlen, hcell⟩ := World.cells?_some h1
      obtain ⟨p, u1, u2, l, r, rfl, s1, _, s2, _⟩ := op_litcells h2
      have e0 := hcell 0 (by omega)
      have e1 := hcell 1 (by omega)
      have e2 := hcell 2 (by omega)
      rw [Go.Deep.add_add] at e0 e1 e2
      exact ⟨(p, u1, u2, l, r), by simpa using e0, by simpa using e1, by simpa using e2, s1, s2⟩
    obtain ⟨Z, hZ⟩ := Go.Deep.choose_lt each
    have hlen : ((List.range n).map fun i => ((Z i).1, (Z i).2.2.2.1, (Z i).2.2.2.2)).length = n := by simp
    refine ⟨(List.range n).map fun i => ((Z i).1, (Z i).2.2.2.1, (Z i).2.2.2.2), some ad, _, by rw [hlen], by rw [hlen]; exact hl, ⟨hm, fun h => by simp at h⟩, fun hp => ?_⟩
    rw [hlen] at hp
    obtain ⟨b, off, spot⟩ := ad
    have h0 := (hZ 0 (by omega)).1
    have hspot : spot = none := by simpa [Addr.add] using World.cell?_spot h0
    subst hspot
    refine ⟨b, off, rfl, Nat.zero_le _, World.block_lt_of_cell? W ⟨b, off + 0 * 3, none⟩ (by rw [← add_plain]; exact h0), fun j hj => ?_⟩
    rw [hlen] at hj
    obtain ⟨z0, z1, z2, z3, z4⟩ := hZ j hj
    refine ⟨(Z j).2.1, (Z j).2.2.1, ?_, ?_, ?_, ?_, ?_⟩
    · rw [← add_plain]; simpa [List.getD, hj] using z0
    · rw [Nat.add_assoc, ← add_plain]; exact z1
    · rw [Nat.add_assoc, ← add_plain]; exact z2
    · simpa [List.getD, hj] using z3
    · simpa [List.getD, hj] using z4
end Go.Proofs.Yteegjnobmbcjiaa
end
section
/- A slice of slices of ints that came in, opened. -/
namespace Go.Proofs.Yteegjnobmbcjiaa
open Go.ChangeShapes Go.WideShapes Go.ChangeAt Go.RowKit
set_option linter.unusedVariables false
set_option maxRecDepth 100000

theorem op_intss {H : Type} {enc : TypeId × Value → H} {W : World} {v : Value} {d : DataW H} {p : List MemPlace} {base : Nat} (hv : Value.okWide Try.prog W .any base 56 v)
    (h : DataW.Trod enc Try.prog W 0 (fun _ => true) true 56 v d p) : ∃ xss : List (List Int), SlS 0 W.heap.size W v xss := by
  obtain ⟨a, n, c, rfl⟩ := okWide_slice Try.underlying56 hv
  obtain ⟨fuel, hf⟩ := h
  rcases Go.Deep.open_slice1 Try.underlying56 (by kernel_rfl) (by simpa [Value.cells] using hf) with ⟨hcs, _⟩ | ⟨ad, len, cap, m, n', V, D, Pl, hcs, _, hl, hm, hmm, _, hx⟩
  · simp at hcs
    obtain ⟨rfl, rfl, rfl⟩ := hcs
    exact ⟨[], SlS.nil _ _ _⟩
  · simp at hcs
    obtain ⟨rfl, rfl, rfl⟩ := hcs
    simp at hmm
    subst hmm
    have each : ∀ i, i < n → ∃ xs : List Int, SlI 0 W.heap.size W (V i) xs := fun i hi => by
      obtain ⟨xs, _, h2, _⟩ := op_slI (hx i (by omega)).2
      exact ⟨xs, h2⟩
    obtain ⟨Z, hZ⟩ := Go.Deep.choose_lt each
    have hlen : ((List.range n).map Z).length = n := by simp
    refine ⟨(List.range n).map Z, some ad, _, by rw [hlen], by rw [hlen]; exact hl, ⟨hm, fun h => by simp at h⟩, fun hp => ?_⟩
    rw [hlen] at hp
    obtain ⟨b, off, spot⟩ := ad
    have h0 := (hx 0 (by omega)).1
    have hspot : spot = none := by simpa [Addr.add] using World.cell?_spot h0
    subst hspot
    refine ⟨b, off, rfl, Nat.zero_le _, World.block_lt_of_cell? W ⟨b, off + 0, none⟩ h0, fun j hj => ?_⟩
    rw [hlen] at hj
    refine ⟨V j, ?_, ?_⟩
    · rw [← add_plain]; exact (hx j (by omega)).1
    · have := hZ j hj
      simpa [List.getD, hj] using this
end Go.Proofs.Yteegjnobmbcjiaa
end
section
/- A slice of slices of literals that came in, opened. -/
namespace Go.Proofs.Yteegjnobmbcjiaa
open Go.ChangeShapes Go.WideShapes Go.ChangeAt Go.RowKit
set_option linter.unusedVariables false
set_option maxRecDepth 100000

theorem op_litsR {H : Type} {enc : TypeId × Value → H} {W : World} {v : Value} {fuel : Nat} {x : DataW H × List MemPlace}
    (hf : DataW.trod enc Try.prog W 0 (fun _ => true) true fuel 75 [v] = some x) : ∃ c : List Lt, SlC 0 W.heap.size W v c := by
  have hC : Try.prog.cellsOf 155 = 3 := by kernel_rfl
  rcases Go.Deep.open_slice Try.underlying75 hf with ⟨hcs, _⟩ | ⟨ad, n, cap, m, n', D, Pl, hcs, _, hl, hm, hmm, _, hx⟩
  · simp at hcs
    subst hcs
    exact ⟨[], SlC.nil _ _ _⟩
  · simp at hcs
    subst hcs
    simp at hmm
    subst hmm
    have each : ∀ i, i < n → ∃ q : Bool × Value × Value × List Int × List Int, W.cell? (ad.add (i * 3)) = some (.bool q.1) ∧ W.cell? (ad.add (i * 3 + 1)) = some q.2.1 ∧ W.cell? (ad.add (i * 3 + 2)) = some q.2.2.1 ∧ SlI 0 W.heap.size W q.2.1 q.2.2.2.1 ∧ SlI 0 W.heap.size W q.2.2.1 q.2.2.2.2 := fun i hi => by
      obtain ⟨cs', h1, h2⟩ := hx i (by omega)
      rw [hC] at h1
      obtain ⟨_, hlen, hcell⟩ := World.cells?_some h1
      obtain ⟨p, u1, u2, l, r, rfl, s1, _, s2, _⟩ := op_litcells h2
      have e0 := hcell 0 (by omega)
      have e1 := hcell 1 (by omega)
      have e2 := hcell 2 (by omega)
      rw [Go.Deep.add_add] at e0 e1 e2
      exact ⟨(p, u1, u2, l, r), by simpa using e0, by simpa using e1, by simpa using e2, s1, s2⟩
    obtain ⟨Z, hZ⟩ := Go.Deep.choose_lt each
    have hlen : ((List.range n).map fun i => ((Z i).1, (Z i).2.2.2.1, (Z i).2.2.2.2)).length = n := by simp
    refine ⟨(List.range n).map fun i => ((Z i).1, (Z i).2.2.2.1, (Z i).2.2.2.2), some ad, _, by rw [hlen], by rw [hlen]; exact hl, ⟨hm, fun h => by simp at h⟩, fun hp => ?_⟩
    rw [hlen] at hp
    obtain ⟨b, off, spot⟩ := ad
    have h0 := (hZ 0 (by omega)).1
    have hspot : spot = none := by simpa [Addr.add] using World.cell?_spot h0
    subst hspot
    refine ⟨b, off, rfl, Nat.zero_le _, World.block_lt_of_cell? W ⟨b, off + 0 * 3, none⟩ (by rw [← add_plain]; exact h0), fun j hj => ?_⟩
    rw [hlen] at hj
    obtain ⟨z0, z1, z2, z3, z4⟩ := hZ j hj
    refine ⟨(Z j).2.1, (Z j).2.2.1, ?_, ?_, ?_, ?_, ?_⟩
    · rw [← add_plain]; simpa [List.getD, hj] using z0
    · rw [Nat.add_assoc, ← add_plain]; exact z1
    · rw [Nat.add_assoc, ← add_plain]; exact z2
    · simpa [List.getD, hj] using z3
    · simpa [List.getD, hj] using z4

theorem SlCs.nil (lo hi : Nat) (w : World) : SlCs lo hi w (.slice none 0 0) [] := ⟨none, 0, rfl, Nat.le_refl _, ⟨Nat.zero_le _, fun _ => rfl⟩, fun h => absurd h (by simp)⟩
end Go.Proofs.Yteegjnobmbcjiaa
end
section
/- A slice of steps that came in, opened. -/
namespace Go.Proofs.Yteegjnobmbcjiaa
open Go.ChangeShapes Go.WideShapes Go.ChangeAt Go.RowKit
set_option linter.unusedVariables false
set_option maxRecDepth 100000

theorem trod_struct4 {P : Program} {w : World} {base : Nat} {spare : Nat → Bool} {held : Bool} {H : Type} {enc : TypeId × Value → H} {t : TypeId} {f0 f1 f2 f3 : Field} {fuel : Nat} {cs : List Value} {x : DataW H × List MemPlace} (ht : P.underlying t = some (.struct #[f0, f1, f2, f3])) (h : DataW.trod enc P w base spare held fuel t cs = some x) :
    ∃ y0 y1 y2 y3 n, cs.length = P.cellsOf t ∧ DataW.trod enc P w base spare held n f0.type ((cs.drop f0.offset).take (P.cellsOf f0.type)) = some y0 ∧ DataW.trod enc P w base spare held n f1.type ((cs.drop f1.offset).take (P.cellsOf f1.type)) = some y1 ∧
      DataW.trod enc P w base spare held n f2.type ((cs.drop f2.offset).take (P.cellsOf f2.type)) = some y2 ∧ DataW.trod enc P w base spare held n f3.type ((cs.drop f3.offset).take (P.cellsOf f3.type)) = some y3 := by
  obtain ⟨xs, n, _, rfl, hl, hlen, hf⟩ := DataW.trod_struct ht h
  match xs, hlen with
  | [y0, y1, y2, y3], _ => exact ⟨y0, y1, y2, y3, n, hl, by simpa using hf 0 f0 rfl, by simpa using hf 1 f1 rfl, by simpa using hf 2 f2 rfl, by simpa using hf 3 f3 rfl⟩
theorem op_stepcells {H : Type} {enc : TypeId × Value → H} {W : World} {fuel : Nat} {cs : List Value} {x : DataW H × List MemPlace}
    (h : DataW.trod enc Try.prog W 0 (fun _ => true) true fuel 77 cs = some x) :
    ∃ (z : Int) (u1 u2 u3 : Value) (l r : List Int) (c : List Lt), cs = [.int .i64 z, u1, u2, u3] ∧ SlI 0 W.heap.size W u1 l ∧ SlI 0 W.heap.size W u2 r ∧ SlC 0 W.heap.size W u3 c := by
  have hC : Try.prog.cellsOf 77 = 4 := by kernel_rfl
  obtain ⟨y0, y1, y2, y3, n, hl, h0, h1, h2, h3⟩ := trod_struct4 Try.underlying77 h
  rw [hC] at hl
  match cs, hl with
  | [v0, v1, v2, v3], _ =>
    have c0 : Try.prog.cellsOf 3 = 1 := by kernel_rfl
    have c1 : Try.prog.cellsOf 22 = 1 := by kernel_rfl
    have c2 : Try.prog.cellsOf 75 = 1 := by kernel_rfl
    simp only [c0, c1, c2] at h0 h1 h2 h3
    obtain ⟨z, e0, _⟩ := DataW.trod_int Try.underlying3 (by simpa using h0)
    obtain ⟨l, hl, s1, _⟩ := op_slI (v := v1) (by simpa using h1)
    obtain ⟨r, hr, s2, _⟩ := op_slI (v := v2) (by simpa using h2)
    obtain ⟨c, s3⟩ := op_litsR (v := v3) (by simpa using h3)
    refine ⟨z, v1, v2, v3, l, r, c, ?_, s1, s2, s3⟩
    simp at e0
    rw [e0]

theorem op_steps {H : Type} {enc : TypeId × Value → H} {W : World} {v : Value} {d : DataW H} {p : List MemPlace} {base : Nat} (hv : Value.okWide Try.prog W .any base 25 v)
    (h : DataW.Trod enc Try.prog W 0 (fun _ => true) true 25 v d p) : ∃ ss : List Stp, SlSt 0 W.heap.size W v ss := by
  obtain ⟨a, n, k, rfl⟩ := okWide_slice Try.underlying25 hv
  have hC : Try.prog.cellsOf 77 = 4 := by kernel_rfl
  obtain ⟨fuel, hf⟩ := h
  rcases Go.Deep.open_slice Try.underlying25 (by simpa [Value.cells] using hf) with ⟨hcs, _⟩ | ⟨ad, len, cap, m, n', D, Pl, hcs, _, hl, hm, hmm, _, hx⟩
  · simp at hcs
    obtain ⟨rfl, rfl, rfl⟩ := hcs
    exact ⟨[], SlSt.nil _ _ _⟩
  · simp at hcs
    obtain ⟨rfl, rfl, rfl⟩ := hcs
    simp at hmm
    subst hmm
    have each : ∀ i, i < n → ∃ q : (Int × Value × Value × Value) × Stp, W.cell? (ad.add (i * 4)) = some (.int .i64 q.1.1) ∧ W.cell? (ad.add (i * 4 + 1)) = some q.1.2.1 ∧ W.cell? (ad.add (i * 4 + 2)) = some q.1.2.2.1 ∧ W.cell? (ad.add (i * 4 + 3)) = some q.1.2.2.2 ∧
        q.2.1 = q.1.1 ∧ SlI 0 W.heap.size W q.1.2.1 q.2.2.1 ∧ SlI 0 W.heap.size W q.1.2.2.1 q.2.2.2.1 ∧ SlC 0 W.heap.size W q.1.2.2.2 q.2.2.2.2 := fun i hi => by
      obtain ⟨cs', h1, h2⟩ := hx i (by omega)
      rw [hC] at h1
      obtain ⟨_, hlen, hcell⟩ := World.cells?_some h1
      obtain ⟨z, u1, u2, u3, l, r, c, rfl, s1, s2, s3⟩ := op_stepcells h2
      have e0 := hcell 0 (by omega)
      have e1 := hcell 1 (by omega)
      have e2 := hcell 2 (by omega)
      have e3 := hcell 3 (by omega)
      rw [Go.Deep.add_add] at e0 e1 e2 e3
      exact ⟨((z, u1, u2, u3), (z, l, r, c)), by simpa using e0, by simpa using e1, by simpa using e2, by simpa using e3, rfl, s1, s2, s3⟩
    obtain ⟨Z, hZ⟩ := Go.Deep.choose_lt each
    have hlen : ((List.range n).map fun i => (Z i).2).length = n := by simp
    refine ⟨(List.range n).map fun i => (Z i).2, some ad, _, by rw [hlen], by rw [hlen]; exact hl, ⟨hm, fun h => by simp at h⟩, fun hp => ?_⟩
    rw [hlen] at hp
    obtain ⟨b, off, spot⟩ := ad
    have h0 := (hZ 0 (by omega)).1
    have hspot : spot = none := by simpa [Addr.add] using World.cell?_spot h0
    subst hspot
    refine ⟨b, off, rfl, Nat.zero_le _, World.block_lt_of_cell? W ⟨b, off + 0 * 4, none⟩ (by rw [← add_plain]; exact h0), fun j hj => ?_⟩
    rw [hlen] at hj
    obtain ⟨z0, z1, z2, z3, ze, z5, z6, z7⟩ := hZ j hj
    have hg : ((List.range n).map fun i => (Z i).2).getD j st0 = (Z j).2 := by simp [List.getD, hj]
    rw [hg]
    refine ⟨(Z j).1.2.1, (Z j).1.2.2.1, (Z j).1.2.2.2, ?_, ?_, ?_, ?_, z5, z6, z7⟩
    · rw [← add_plain, ze]; exact z0
    · rw [Nat.add_assoc, ← add_plain]; exact z1
    · rw [Nat.add_assoc, ← add_plain]; exact z2
    · rw [Nat.add_assoc, ← add_plain]; exact z3
end Go.Proofs.Yteegjnobmbcjiaa
end
