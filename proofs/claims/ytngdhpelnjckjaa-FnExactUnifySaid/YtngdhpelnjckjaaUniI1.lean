/- Unify: what the program replaces in a round. -/
import Derived.Test.YtngdhpelnjckjaaUniI0
namespace Go.Proofs.Ytngdhpelnjckjaa
open Go.RowKit Go.Maps

def RetRep (n : Int) (u : List Int) (bad : Bool) (w : World) (e : Ending) (w' : World) : Prop :=
  Bel w w' ∧ match bad with
    | true => e = .returned (.tuple #[.int .i64 0, .slice none 0 0, .bool false])
    | false => ∃ a c lo hi, e = .returned (.tuple #[.int .i64 n, .slice a u.length c, .bool true]) ∧ SlI lo hi w' (.slice a u.length c) u

set_option maxRecDepth 100000 in
set_option maxHeartbeats 1000000 in
theorem replacement_c (l h l' h' l2 h2 : Nat) (v p q : Value) (ar x y : List Int) (e : Nat) (bad : Bool) (w : World) (hg : goodSign ar = true) (hR : URound ar x y (lowN x y) (other x y) (putU ar x y) (dif x y) e) (hbd : badU ar x y ↔ bad = true) (hx40 : x.length ≤ 40) (hy40 : y.length ≤ 40) (hv : SlI l h w v ar) (hp : SlI l' h' w p x) (hq : SlI l2 h2 w q y) :
    Calls Try.prog 118 #[.agg #[v], p, q] w (RetRep (lowN x y) (putU ar x y) bad w) := by
  have hbf := dif_before x y
  have hlt1 := hR.dx
  have hlt2 := hR.dy
  have hne := hR.ne
  have hlow : lowN x y = if y.getD (dif x y) 0 < x.getD (dif x y) 0 then y.getD (dif x y) 0 else x.getD (dif x y) 0 := rfl
  have hoth : other x y = if y.getD (dif x y) 0 < x.getD (dif x y) 0 then x else y := rfl
  obtain ⟨-, -, -, -, -, hdd, hen, hde, heo, hpu, -⟩ := hR
  unfold badU at hbd
  generalize putU ar x y = u at *
  subst hpu
  generalize lowN x y = n at *
  generalize other x y = o at *
  generalize hdv : dif x y = d at *
  clear hdv
  obtain ⟨pb, po, pc, rfl, hpc⟩ := hp.plain (by omega)
  obtain ⟨qb, qo, qc, rfl, hqc⟩ := hq.plain (by omega)
  have HX := Lib.hid (And.intro hlow (And.intro hoth (And.intro hen hbd)))
  clear hlow hoth hen hbd
  go_enter Try.func118, Try.ntmps118
  go_wp2_with fail
  go_loopw [9] (fun i wr => ∃ k : Nat, k ≤ d ∧ i = .int .i64 k ∧ Bel (w.alloc (.cells #[v] 26)) wr) (fun i _ => d - (intOf i).toNat)
  case atStart => exact ⟨0, Nat.zero_le _, rfl, Bel.rfl' _⟩
  case round =>
    obtain ⟨k, hk, rfl, hb⟩ := hrel
    have hbox := boxc hb 0 _ rfl
    have hpw := hp.below hb.of_alloc
    have hqw := hq.below hb.of_alloc
    obtain ⟨b1, o1, e1, -, hc1⟩ := hpw.at k (by omega)
    obtain ⟨b2, o2, e2, -, hc2⟩ := hqw.at k (by omega)
    simp only [Option.some.injEq, Addr.mk.injEq] at e1 e2
    obtain ⟨rfl, rfl, -⟩ := e1
    obtain ⟨rfl, rfl, -⟩ := e2
    have hkx : (k : Int) < x.length := by omega
    have hky : (k : Int) < y.length := by omega
    by_cases hlt : k < d
    · obtain ⟨-, -, h3⟩ := hbf k hlt
      rw [← h3] at hc2
      have HB := Lib.hid hbf
      clear hbf h3 hne
      generalize x.getD k 0 = m at *
      have hw24 := IntWalk.i64_in ((k : Int) + 1) (by omega)
      go_wp2_with fail
      go_quiet (fail)
      go_wp2_with fail
      go_roundw
      case rel => exact ⟨k+1, by omega, by go_num, hb.drewN _⟩
      case measure => simp [intOf]; omega
    · obtain rfl : k = d := by omega
      clear hbf
      generalize x.getD k 0 = m1 at *
      generalize y.getD k 0 = m2 at *
      have hne2 : (m1 == m2) = false := by simpa using hne
      by_cases hsw : m2 < m1
      · have hgt : decide (m2 < m1) = true := by simpa using hsw
        obtain ⟨hlow, hoth, hen, hbd⟩ := HX.out
        rw [if_pos hsw] at hlow hoth
        subst hlow hoth
        have hcut := hpw.cut k e (by omega) heo
        have hpl' := partOf_len o k e heo
        have hke : (k : Int) < e := by omega
        have hke2 : (k : Int) ≤ e := by omega
        have heo2 : (e : Int) ≤ o.length := by omega
        have hec : (e : Int) ≤ pc := by omega
        have hcut2 : SlI _ _ wr (.slice (some ⟨pb, po + k, none⟩) (e - k) (pc - k)) (partOf o k e) := hcut
        clear hcut
        go_wp2_with fail
        go_quiet (fail)
        go_wp2_with fail
        go_quiet (fail)
        go_wp2_with fail
        refine (termEnd_v _ _ _ _ _ _ ar o k e _ hen hg (by omega) (by omega) (hv.below (hb.drewN _).of_alloc) (hp.below (hb.drewN _).of_alloc)).mono ?_; rintro e' w3 ⟨rfl, hb3⟩
        have hbw := (hb.drewN _).step hb3
        by_cases hn : 0 ≤ n
        · have hd0 : decide (0 ≤ n) = true := by simpa using hn
          have hb0 := hbd.1 (.inl hn)
          subst hb0
          go_wp2_with fail
          go_ret3
          exact ⟨hbw.of_alloc, rfl⟩
        · have hd0 : decide (0 ≤ n) = false := by simpa using hn
          have HC := Lib.hid ((hcut2.below ((Bel.rfl' wr).drewN _)).below hb3)
          by_cases hm : n ∈ partOf o k e
          · have hb0 := hbd.1 (.inr hm)
            have hdm : decide (n ∈ partOf o k e) = true := by simpa using hm
            subst hb0
            go_wp2_with fail
            refine (slContains_v _ _ _ (partOf o k e) n true _ hdm (by omega) HC.out).mono ?_; rintro e2 w4 ⟨rfl, hb4⟩
            go_wp2_with fail
            go_ret3
            exact ⟨(hbw.step hb4).of_alloc, rfl⟩
          · have hb0 : bad = false := by
              cases bad with
              | false => rfl
              | true => exact absurd (hbd.2 rfl) (by rintro (h | h); exact hn h; exact hm h)
            have hdm : decide (n ∈ partOf o k e) = false := by simpa using hm
            subst hb0
            go_wp2_with fail
            refine (slContains_v _ _ _ (partOf o k e) n false _ hdm (by omega) HC.out).mono ?_; rintro e2 w4 ⟨rfl, hb4⟩
            go_wp2_with fail
            go_ret3
            exact ⟨(hbw.step hb4).of_alloc, _, _, _, _, by rw [hpl']; rfl, by rw [hpl']; exact HC.out.below hb4⟩
      · have hgt : decide (m2 < m1) = false := by simpa using hsw
        obtain ⟨hlow, hoth, hen, hbd⟩ := HX.out
        rw [if_neg hsw] at hlow hoth
        subst hlow hoth
        have hcut := hqw.cut k e (by omega) heo
        have hpl' := partOf_len o k e heo
        have hke : (k : Int) < e := by omega
        have hke2 : (k : Int) ≤ e := by omega
        have heo2 : (e : Int) ≤ o.length := by omega
        have hec : (e : Int) ≤ qc := by omega
        have hcut2 : SlI _ _ wr (.slice (some ⟨qb, qo + k, none⟩) (e - k) (qc - k)) (partOf o k e) := hcut
        clear hcut
        go_wp2_with fail
        go_quiet (fail)
        go_wp2_with fail
        go_quiet (fail)
        go_wp2_with fail
        refine (termEnd_v _ _ _ _ _ _ ar o k e _ hen hg (by omega) (by omega) (hv.below (hb.drewN _).of_alloc) (hq.below (hb.drewN _).of_alloc)).mono ?_; rintro e' w3 ⟨rfl, hb3⟩
        have hbw := (hb.drewN _).step hb3
        by_cases hn : 0 ≤ n
        · have hd0 : decide (0 ≤ n) = true := by simpa using hn
          have hb0 := hbd.1 (.inl hn)
          subst hb0
          go_wp2_with fail
          go_ret3
          exact ⟨hbw.of_alloc, rfl⟩
        · have hd0 : decide (0 ≤ n) = false := by simpa using hn
          have HC := Lib.hid ((hcut2.below ((Bel.rfl' wr).drewN _)).below hb3)
          by_cases hm : n ∈ partOf o k e
          · have hb0 := hbd.1 (.inr hm)
            have hdm : decide (n ∈ partOf o k e) = true := by simpa using hm
            subst hb0
            go_wp2_with fail
            refine (slContains_v _ _ _ (partOf o k e) n true _ hdm (by omega) HC.out).mono ?_; rintro e2 w4 ⟨rfl, hb4⟩
            go_wp2_with fail
            go_ret3
            exact ⟨(hbw.step hb4).of_alloc, rfl⟩
          · have hb0 : bad = false := by
              cases bad with
              | false => rfl
              | true => exact absurd (hbd.2 rfl) (by rintro (h | h); exact hn h; exact hm h)
            have hdm : decide (n ∈ partOf o k e) = false := by simpa using hm
            subst hb0
            go_wp2_with fail
            refine (slContains_v _ _ _ (partOf o k e) n false _ hdm (by omega) HC.out).mono ?_; rintro e2 w4 ⟨rfl, hb4⟩
            go_wp2_with fail
            go_ret3
            exact ⟨(hbw.step hb4).of_alloc, _, _, _, _, by rw [hpl']; rfl, by rw [hpl']; exact HC.out.below hb4⟩
end Go.Proofs.Ytngdhpelnjckjaa
