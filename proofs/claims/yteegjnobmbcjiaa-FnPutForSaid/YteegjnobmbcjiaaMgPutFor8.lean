/- Texts merged, part 8. -/
import Derived.Deep.AppendLies
import Derived.Laws.AppendOwnNone
import Derived.Deep.RegionHeldLaw
import Derived.Deep.RegionWith
import Derived.Maps.AppendAt
import Derived.Test.YteegjnobmbcjiaaMgPutFor7
section
/- Chapter 5, the reference: the least assignment. -/
namespace Go.Proofs.Yteegjnobmbcjiaa
open Go.RowKit

def RetFal (eb eh : Nat) (ve : Value) (vs : List Nat) (e : List Int) (sz : Int) (w : World) (R : Option (List Int)) (x : Ending) (w' : World) : Prop :=
  match R with
  | some r => ∃ ad n k, x = .returned (.tuple #[.slice ad n k, .bool true]) ∧ OwnI w.heap.size w'.heap.size w' (.slice ad n k) r ∧ Chg eb eh w w'
  | none => ∃ ad n k, x = .returned (.tuple #[.slice ad n k, .bool false]) ∧ Chg eb eh w w' ∧ ∃ e2, OwnI eb eh w' ve e2 ∧ Off vs e e2 ∧ okEnv sz e2 = true
/-- The rest of a slice behind its first. -/
theorem SlI.rest {lo hi : Nat} {w : World} {b off n c : Nat} {x : Int} {xs : List Int} (h : SlI lo hi w (.slice (some ⟨b, off, none⟩) n c) (x :: xs)) (q : Nat) (hq : xs = [] ∨ q = off + 1) : SlI lo hi w (.slice (some ⟨b, q, none⟩) xs.length (c - 1)) xs := by
  obtain ⟨ad, cap, e, hc, hm, hr⟩ := h
  simp only [Value.slice.injEq] at e
  obtain ⟨rfl, rfl, rfl⟩ := e
  simp only [List.length_cons] at hc hr
  refine ⟨some ⟨b, q, none⟩, c - 1, rfl, by omega, ⟨by omega, fun h => by simp at h⟩, fun hp => ?_⟩
  obtain ⟨b', off', e', a1, a2, a3⟩ := hr (by omega)
  simp only [Option.some.injEq, Addr.mk.injEq, and_true] at e'
  obtain ⟨rfl, rfl⟩ := e'
  rcases hq with rfl | rfl
  · simp at hp
  · refine ⟨b, off + 1, rfl, a1, a2, fun j hj => ?_⟩
    have := a3 (j + 1) (by omega)
    rw [show off + 1 + j = off + (j + 1) by omega]
    exact this

end Go.Proofs.Yteegjnobmbcjiaa
end
section
/- Chapter 5, the program: the least assignment. -/
namespace Go.Proofs.Yteegjnobmbcjiaa
open Go.RowKit

/-- The function that asks for all literals. -/
def allF (pT : Nat) : Value := .func (.func 156) #[] #[.pointer (some ⟨pT, 0, none⟩)]
def RetLW (ar : List Int) (Z : Nat) (tb : List (List Int)) (L H : Nat) (v u : Value) (base top pT : Nat) (ad : Option Addr) (cap : Nat) (c : List Lt) (rs : List TR) (eb : Nat) (ve : Value) (vs : List Nat) (e : List Int) (w : World) (R : Option (List Int)) (x : Ending) (w' : World) : Prop :=
  x = .returned (.bool R.isSome) ∧ TS ar Z tb L H v u base top pT ad cap c rs w' ∧ Chg base (eb+1) w w' ∧ ∃ e2, OwnI eb (eb+1) w' ve e2 ∧ Off vs e e2 ∧ okEnv Z e2 = true ∧ ∀ r, R = some r → e2 = r

set_option maxRecDepth 100000 in
set_option maxHeartbeats 4000000 in
theorem leastWhere_c {ar : List Int} {Z : Nat} {tb : List (List Int)} {L H : Nat} {v u : Value} {base top pT : Nat} {ad : Option Addr} {cap : Nat} {c : List Lt} {rs : List TR}
    (hg : goodSign ar = true) (hw : isWorld ar Z tb = true) (hok : okLits ar c = true) (eb : Nat) (htop : top ≤ eb) (hH : H ≤ eb) (hT : ∀ bT, ad = some ⟨bT, 0, none⟩ → bT < eb) :
    ∀ (vars : List Nat) (e : List Int) (w : World) (vv ve : Value) (a b : Nat), (∀ x ∈ vars, x < 12) → vars.length ≤ 12 → okEnv Z e = true → TS ar Z tb L H v u base top pT ad cap c rs w → SlI a b w vv (natsI vars) → OwnI eb (eb+1) w ve e → (b ≤ base ∨ eb + 1 ≤ a) →
      Calls Try.prog 157 #[allF pT, ve, vv, .int .i64 (Z : Int)] w (RetLW ar Z tb L H v u base top pT ad cap c rs eb ve vars e w (lw Z (fun e => clH ar Z tb e c) vars e)) := by
  obtain ⟨z1, z3, _⟩ := isWorld_iff.1 hw
  intro vars
  induction vars with
  | nil =>
    intro e w vv ve a b hvr hvl he ht hvv hve hdv
    obtain ⟨av, cv, rfl⟩ := hvv.form
    have HA := Lib.hid (falseAt1_c ht hg hw hok eb (eb+1) ve e he hve.sl (.inl htop))
    have hnil : natsI [] = [] := rfl
    have hbt : base ≤ eb := by have := ht.cur; omega
    have HP : Hid ((lw Z (fun e => clH ar Z tb e c) [] e) = if clH ar Z tb e c then none else some e) := rfl
    rw [HP.out]
    generalize clH ar Z tb e c = P at *
    have HR1 : Hid ((if P = true then none else some e : Option (List Int)).isSome = !P) := by show _ = _; cases P <;> rfl
    have HR2 : Hid (∀ r, (if P = true then none else some e : Option (List Int)) = some r → e = r) := fun r h => by cases P <;> simp at h; exact h
    clear HP
    generalize (if P = true then none else some e : Option (List Int)) = R at *
    unfold allF
    rw [hnil, List.length_nil]
    clear ht hvv hnil
    go_enter Try.func157, Try.ntmps157
    go_wp2_with fail
    refine HA.out.mono ?_; rintro x w2 ⟨rfl, T2, k2⟩
    go_wp2_with fail
    go_ret
    refine ⟨?_, T2, k2.mono (Nat.le_refl _) (by omega), e, hve.chg k2 (by omega), Off.refl _ _, he, ?_⟩
    · rw [HR1.out]; rfl
    · exact HR2.out
  | cons x r ih =>
    intro e w vv ve a b hvr hvl he ht hvv hve hdv
    have hx12 := hvr x (by simp)
    have hel := (okEnv_iff.1 he).1
    have hbt : base ≤ eb := by have := ht.cur; omega
    have hnc : natsI (x :: r) = (x : Int) :: natsI r := rfl
    rw [hnc] at hvv
    obtain ⟨avv, cvv, rfl⟩ := hvv.form
    have hvv0 := hvv
    obtain ⟨adv, capv, ev, hcapv, hmaxv, hrv⟩ := hvv
    simp only [Value.slice.injEq] at ev
    obtain ⟨rfl, -, rfl⟩ := ev
    obtain ⟨bv, offv, rfl, hav, hbv, hcv⟩ := hrv (by simp)
    have hcv0 := hcv 0 (by simp)
    simp only [List.getD_cons_zero, Nat.add_zero] at hcv0
    simp only [List.length_cons] at hcapv hvv0 ⊢
    obtain ⟨m, hm⟩ : ∃ m, (natsI r).length = m := ⟨_, rfl⟩
    rw [hm] at hcapv hvv0
    simp only [hm]
    have HM := Lib.hid hm
    clear hm
    obtain ⟨ae, ce, rfl⟩ : ∃ ae ce, ve = .slice ae e.length ce := hve.1.form
    obtain ⟨be, offe, hae, hbe1, hbe2⟩ : ∃ b off, ae = some ⟨b, off, none⟩ ∧ eb ≤ b ∧ b < eb + 1 := by
      obtain ⟨ad', cap', e', -, -, hr'⟩ := hve.1
      simp only [Value.slice.injEq] at e'
      obtain ⟨rfl, -, -⟩ := e'
      obtain ⟨b', o', h1, h2, h3, _⟩ := hr' (by omega)
      exact ⟨b', o', h1, h2, h3⟩
    subst hae
    obtain rfl : be = eb := by omega
    obtain ⟨R, hR⟩ : ∃ R, R = lw Z (fun e => clH ar Z tb e c) (x :: r) e := ⟨_, rfl⟩
    have hR0 : R = tryW (fun (n : Nat) => lw Z (fun e => clH ar Z tb e c) r (e.set x (n : Int))) 0 Z := hR
    rw [← hR]
    clear hR
    have IH := Lib.hid ih
    clear ih hnc hcv hrv
    have HL12 := Lib.hid hel
    generalize hEL : e.length = EL at *
    clear hel
    obtain ⟨G, hG⟩ : ∃ G : Nat → Option (List Int), G = fun (n : Nat) => lw Z (fun e => clH ar Z tb e c) r (e.set x ((n : Nat) : Int)) := ⟨_, rfl⟩
    have HGG : Hid (∀ (k : Nat) (e2 : List Int), Off (x :: r) e e2 → lw Z (fun e => clH ar Z tb e c) r (e2.set x (k : Int)) = G k) := fun k e2 ho => by rw [hG]; exact lw_off Z _ r _ _ (ho.set _)
    rw [← hG] at hR0
    have HR0 := Lib.hid hR0.symm
    clear hG hR0
    have hxi : (x : Int) < EL := by have := HL12.out; omega
    have zbv : bv < w.heap.size := World.block_lt_of_cell? w ⟨bv, offv, none⟩ hcv0
    have hne : (((m : Int) + 1) == 0) = false := beq_eq_false_iff_ne.2 (by omega)
    have htm1 : ((m + 1 : Nat) : Int) = (m : Int) + 1 := by omega
    have HT := Lib.hid ht
    have hALL : allF pT = .func (.func 156) #[] #[.pointer (some ⟨pT, 0, none⟩)] := rfl
    rw [hALL]
    clear ht
    go_enter Try.func157, Try.ntmps157
    go_wp2_with fail
    go_loopw [17] (fun i wr => ∃ (k : Nat) (ek : List Int), k ≤ Z ∧ i = .int .i64 k ∧ tryW G k (Z - k) = R ∧ OwnI be (be+1) wr (.slice (some ⟨be, offe, none⟩) EL ce) ek ∧ Off (x :: r) e ek ∧ okEnv Z ek = true ∧ Chg base (be+1) w wr ∧ TS ar Z tb L H v u base top pT ad cap c rs wr) (fun i _ => Z - (intOf i).toNat)
    case atStart => exact ⟨0, e, Nat.zero_le _, rfl, HR0.out, hve, Off.refl _ _, he, Chg.refl _ _ _, HT.out⟩
    case round =>
      obtain ⟨k, ek, hk, rfl, hR, ho, hoff, hoke, hch, hts⟩ := hrel
      have qv := hch.cell zbv (by omega) hcv0
      have hekl : ek.length = EL := hoff.1.trans hEL
      by_cases hlt : k < Z
      · obtain ⟨b1, o1, e1, -, -, hcy, hfy, hst⟩ := ho.at x (by omega)
        simp only [Option.some.injEq, Addr.mk.injEq, and_true] at e1
        obtain ⟨rfl, rfl⟩ := e1
        have hst := hst (k : Int)
        have hCS : Chg base (be+1) w (wr.setCell ⟨be, offe + x, none⟩ (.int .i64 (k : Int))) := hch.trans (Chg.set (p := ⟨be, offe + x, none⟩) _ hbt (Nat.lt_succ_self _) _)
        have hTS : TS ar Z tb L H v u base top pT ad cap c rs (wr.setCell ⟨be, offe + x, none⟩ (.int .i64 (k : Int))) := hts.chg (Chg.set (p := ⟨be, offe + x, none⟩) (lo := be) (hi := be+1) _ (Nat.le_refl _) (Nat.lt_succ_self _) _) htop hH (fun bT h => .inl (hT bT h))
        have hoke2 := okEnv_set hoke x (x := (k : Int)) (by omega) (by omega)
        have hsl : ∀ q : Nat, (natsI r = [] ∨ q = offv + 1) → SlI a b (wr.setCell ⟨be, offe + x, none⟩ (.int .i64 (k : Int))) (.slice (some ⟨bv, q, none⟩) m (cvv - 1)) (natsI r) := fun q hq => by have h9 := (hvv0.chg hCS (by omega)).rest q hq; rw [HM.out] at h9; exact h9
        have HC := Lib.hid (fun q hq => IH.out (ek.set x (k : Int)) _ _ _ a b (fun y hy => hvr y (by simp [hy])) (by simp at hvl; omega) hoke2 hTS (hsl q hq) hst hdv)
        have hge := HGG.out k ek hoff
        rw [hge] at HC
        have hR1 : tryW G k ((Z - k - 1) + 1) = R := by rw [show Z - k - 1 + 1 = Z - k by omega]; exact hR
        have hoff1 := hoff.trans (Off.one x r ek (k : Int))
        have hcap1 : (1 : Int) ≤ cvv := by omega
        have hml : (m : Int) + 1 ≤ cvv := by omega
        have hm1 : (1 : Int) ≤ (m : Int) + 1 := by omega
        have hzk : (k : Int) < (Z : Int) := by omega
        rw [hALL] at HC
        have HKW := Lib.hid hCS
        clear hst hoke2 hsl hge hR hoff hoke ho hCS hch IH HGG HR0 hekl hts hTS HT hve
        cases hGk : G k with
        | some r1 =>
          rw [hGk] at HC
          have hRR := Lib.hid ((tryW_some hGk).symm.trans hR1)
          clear hR1
          by_cases hcap : cvv = 1
          · have hrn : natsI r = [] := List.length_eq_zero_iff.1 (by rw [HM.out]; omega)
            have HC1 := Lib.hid (HC.out offv (.inl hrn))
            obtain rfl : m = 0 := by omega
            subst hcap
            clear HC hrn
            go_wp2_with fail
            refine HC1.out.mono ?_; rintro e' w9 ⟨rfl, t9, c9, e2, o9, f9, k9, r9⟩
            go_wp2_with fail
            go_ret
            rw [← hRR.out]
            exact ⟨rfl, t9, HKW.out.trans c9, e2, o9, hoff1.trans (f9.wider (by simp +contextual)), k9, r9⟩
          · have HC1 := Lib.hid (HC.out (offv + 1) (.inr rfl))
            have hcp : (1 : Int) < cvv := by omega
            clear HC
            go_wp2_with fail
            refine HC1.out.mono ?_; rintro e' w9 ⟨rfl, t9, c9, e2, o9, f9, k9, r9⟩
            go_wp2_with fail
            go_ret
            rw [← hRR.out]
            exact ⟨rfl, t9, HKW.out.trans c9, e2, o9, hoff1.trans (f9.wider (by simp +contextual)), k9, r9⟩
        | none =>
          rw [hGk] at HC
          have hRR := Lib.hid ((tryW_none hGk).symm.trans hR1)
          clear hR1
          by_cases hcap : cvv = 1
          · have hrn : natsI r = [] := List.length_eq_zero_iff.1 (by rw [HM.out]; omega)
            have HC1 := Lib.hid (HC.out offv (.inl hrn))
            obtain rfl : m = 0 := by omega
            subst hcap
            clear HC hrn
            go_wp2_with fail
            refine HC1.out.mono ?_; rintro e' w9 ⟨rfl, t9, c9, e2, o9, f9, k9, r9⟩
            go_wp2_with fail
            refine ⟨?_, ?measure⟩
            iterate 90 (try apply Exists.intro)
            refine ⟨?rel, rfl⟩
            case rel => exact ⟨k+1, e2, by omega, by go_num, by rw [← hRR.out, show Z - (k + 1) = Z - k - 1 by omega], o9, hoff1.trans (f9.wider (by simp +contextual)), k9, HKW.out.trans c9, t9⟩
            case measure => simp [intOf]; omega
          · have HC1 := Lib.hid (HC.out (offv + 1) (.inr rfl))
            have hcp : (1 : Int) < cvv := by omega
            clear HC
            go_wp2_with fail
            refine HC1.out.mono ?_; rintro e' w9 ⟨rfl, t9, c9, e2, o9, f9, k9, r9⟩
            go_wp2_with fail
            go_roundw
            case rel => exact ⟨k+1, e2, by omega, by go_num, by rw [← hRR.out, show Z - (k + 1) = Z - k - 1 by omega], o9, hoff1.trans (f9.wider (by simp +contextual)), k9, HKW.out.trans c9, t9⟩
            case measure => simp [intOf]; omega
      · obtain rfl : k = Z := by omega
        have hR2 : Hid (R = none) := by show _ = _; rw [← hR, Nat.sub_self]; rfl
        clear hekl IH
        go_wp2_with fail
        go_ret
        rw [hR2.out]
        exact ⟨rfl, hts, hch, _, ho, hoff, hoke, fun r h => by simp at h⟩
end Go.Proofs.Yteegjnobmbcjiaa
end
section
/- append of a row of ints to a row of ints, at a step of a region that draws. -/
namespace Go.Proofs.Yteegjnobmbcjiaa
open Go.RowKit

theorem step_append_row {w : World} {ops : Array Oper} {o : Oper} {a : Act} {K : Act → World → Prop} {Q : Exit → Act → World → Prop} {E : Prop} (hgd : o.guard = none) (s x : Operand) (d : Nat) (hd : o.dst = some d)
    (ho : o.op = .call { callee := .builtin .append, args := #[s, x], argTypes := #[22, 22] })
    (base base2 : Nat) (v y : Value) (xs ys : List Int) (hs : a.eval s = v) (hown : RowI base w v xs) (hx : a.eval x = y) (hy : RowI base2 w y ys)
    (hl : xs.length + ys.length ≤ 1099511627776) (hbase : base ≤ w.heap.size)
    (h : ∀ ad n c w', RowI base w' (.slice ad n c) (xs ++ ys) → w.grownBy w' v.ownBlock → K (a.put (some d) (.slice ad n c)) w') :
    if Region.wanted o (yielded ops a.tmps) = true then Oper.wp Try.prog o a w K Q else E := by
  obtain ⟨i0, hi0, hz0, hz1, hz2⟩ := info_parts Try.info3
  have hw : Region.wanted o (yielded ops a.tmps) = true := by simp [Region.wanted, hgd]
  rw [if_pos hw]
  rw [← hd] at h
  rcases hy.2 with ⟨rfl, hn⟩ | ⟨g, cap, cur, rfl, hg, hh, hn, hc, hsz, ht⟩
  · have he : ys = [] := List.length_eq_zero_iff.1 hn
    subst he
    obtain ⟨ad, n, c, rfl⟩ := own_form hown
    have hrun := run_append_owned_none (P := Try.prog) (w := w) base 22 o.type 3 i0 1 Try.underlying22 hi0 (.slice ad n c) xs.length (xs.map (Value.int .i64)) hown
    unfold Oper.wp
    simp [execOp, ho, resolve, invoke, builtin, hs, hx, hrun, Result.andThen]
    exact h ad n c w (by simpa using hown) (World.grownBy.refl _ _)
  · refine wp_append_own w s x 22 ho base 3 i0 (.int .i64 0) 1 8 Try.underlying22 hi0 hz0 hz1 hz2 rfl (by decide) v xs.length (xs.map (Value.int .i64)) hs hown
      ⟨g, 0, none⟩ ys.length cap (ys.map (Value.int .i64)) hx (by simp) (hy.cells rfl) (ones_int _) (by unfold maxLen; omega) (by omega) hbase (fun v' w' h1 h2 _ => ?_)
    obtain ⟨ad, n, c, rfl⟩ := own_form h1
    exact h ad n c w' (by simpa [RowI] using h1) h2
end Go.Proofs.Yteegjnobmbcjiaa
end
section
/- Chapter 4, the reference: VarsIn. -/
namespace Go.Proofs.Yteegjnobmbcjiaa
open Go.RowKit

theorem varsTo_congr {f g : Nat → Bool} (n : Nat) (h : ∀ j, j < n → f j = g j) : varsTo f n = varsTo g n := by
  unfold varsTo
  refine List.filter_congr fun j hj => h j (by simpa using hj)
theorem varsTo_mem {f : Nat → Bool} {n j : Nat} : j ∈ varsTo f n ↔ j < n ∧ f j = true := by simp [varsTo]
theorem mk_app (a b : List Int) (j : Nat) : mk (a ++ b) j = (mk a j || mk b j) := by
  unfold mk; rw [Bool.eq_iff_iff]; simp
/-- The numbers of two terms' variables. -/
def two12 (xl xr : List Int) : List Nat := varsTo (mk xl) 12 ++ varsTo (mk xr) 12
theorem two12_lt {xl xr : List Int} : ∀ m ∈ two12 xl xr, m < 12 := by
  intro m hm
  unfold two12 at hm
  rcases List.mem_append.1 hm with h | h <;> exact (varsTo_mem.1 h).1
theorem two12_len (xl xr : List Int) : (two12 xl xr).length ≤ 24 := by
  have h1 := varsTo_len (mk xl) 12
  have h2 := varsTo_len (mk xr) 12
  unfold two12; simp; omega
theorem two12_nats (xl xr : List Int) : natsI (varsTo (mk xl) 12) ++ natsI (varsTo (mk xr) 12) = natsI (two12 xl xr) := by simp [two12, natsI]
theorem two12_mem {A xl xr : List Int} {F G : Nat → Bool} (hF : ∀ j, j < 12 → F j = mk A j) (hG : ∀ j, j < 12 → G j = (F j || decide (j ∈ two12 xl xr))) : ∀ j, j < 12 → G j = mk (A ++ xl ++ xr) j := by
  intro j hj
  rw [hG j hj, hF j hj, mk_app, mk_app, Bool.or_assoc]
  congr 1
  rw [Bool.eq_iff_iff]
  simp [two12, varsTo_mem, hj]
theorem put_take {N : List Nat} {i : Nat} (hi : i < N.length) {F F0 : Nat → Bool} (h : ∀ j, j < 12 → F j = (F0 j || decide (j ∈ N.take i))) : ∀ j, j < 12 → setF F (N.getD i 0) j = (F0 j || decide (j ∈ N.take (i+1))) := by
  intro j hj
  have e : N.take (i+1) = N.take i ++ [N.getD i 0] := by rw [List.take_succ_eq_append_getElem hi]; simp [List.getD, hi]
  rw [e]
  unfold setF
  by_cases hq : j = N.getD i 0
  · rw [if_pos hq]; simp [hq]
  · rw [if_neg hq, h j hj]; simp [List.mem_append]; simp [List.getD] at hq; simp [hq]

set_option maxRecDepth 100000 in
set_option maxHeartbeats 1000000 in
theorem l4Vars_c (l h : Nat) (v : Value) (c : List Lt) (w : World) (hx : shortC c) (hlow : ∀ t ∈ flatC c, ∀ k, k < t.length → -12 ≤ t.getD k 0) (hv : SlC l h w v c) :
    Calls Try.prog 85 #[v] w (RetI w (natsI (varsTo (mk (flatC c).flatten) 12))) := by
  obtain ⟨ad, cap, rfl⟩ := hv.form
  obtain ⟨hxl, hxj⟩ := hx
  go_enter Try.func85, Try.ntmps85
  go_wp2_with fail
  go_loopw [3, 10] (fun o i wr => ∃ (k : Nat) (F : Nat → Bool), k ≤ c.length ∧ i = .int .i64 k ∧ RowI w.heap.size wr o (natsI (varsTo F 12)) ∧ (varsTo F 12 = [] → o = .slice none 0 0) ∧ (∀ j, j < 12 → F j = mk (flatC (c.take k)).flatten j) ∧ Bel w wr) (fun _ i _ => c.length - (intOf i).toNat)
  case atStart =>
    have e : varsTo (fun _ => false) 12 = [] := rfl
    exact ⟨0, fun _ => false, Nat.zero_le _, rfl, by rw [e]; exact World.ownsRow_nil _ _ _ _, fun _ => rfl, fun j _ => by simp [mk, flatC], Bel.rfl' _⟩
  case round =>
    obtain ⟨k, F, hk, rfl, hrow, hnil, hF, hb⟩ := hrel
    by_cases hlt : k < c.length
    · obtain ⟨b, off, u1, u2, rfl, hbs, c1, c2, c3, s1, s2⟩ := hv.at hb k hlt
      obtain ⟨hm1, hm2⟩ := hxj k hlt
      have HFT : Hid ((flatC (c.take (k+1))).flatten = (flatC (c.take k)).flatten ++ (c.getD k lt0).2.1 ++ (c.getD k lt0).2.2) := by show _ = _; rw [flatC_take c k hlt]; simp
      have hlo1 := hlow _ (show (c.getD k lt0).2.1 ∈ flatC c from List.mem_flatMap.2 ⟨_, mem_getD c lt0 k hlt, by simp⟩)
      have hlo2 := hlow _ (show (c.getD k lt0).2.2 ∈ flatC c from List.mem_flatMap.2 ⟨_, mem_getD c lt0 k hlt, by simp⟩)
      have hin1 : (k : Int) < c.length := by omega
      generalize c.getD k lt0 = x at *
      obtain ⟨p, xl, xr⟩ := x
      simp only at *
      obtain ⟨a1, d1, rfl⟩ := s1.form
      obtain ⟨a2, d2, rfl⟩ := s2.form
      have HL := Lib.hid (fun (w' : World) (hq : Bel wr w') => l1Vars_r l h _ xl w' (by omega) hlo1 (s1.below hq))
      have HR := Lib.hid (fun (w' : World) (hq : Bel wr w') => l1Vars_r l h _ xr w' (by omega) hlo2 (s2.below hq))
      have hvl1 : (natsI (varsTo (mk xl) 12)).length ≤ 12 := by rw [natsI_len]; exact varsTo_len _ _
      have hvl2 : (natsI (varsTo (mk xr) 12)).length ≤ 12 := by rw [natsI_len]; exact varsTo_len _ _
      have HT := Lib.hid (two12_nats xl xr)
      have HTL := Lib.hid (two12_lt (xl := xl) (xr := xr))
      have htl := two12_len xl xr
      have HM := Lib.hid (fun G => two12_mem (A := (flatC (c.take k)).flatten) (xl := xl) (xr := xr) (F := F) (G := G) hF)
      have HROW := Lib.hid hrow
      have HNIL := Lib.hid hnil
      generalize hA1 : natsI (varsTo (mk xl) 12) = A1 at *
      generalize hA2 : natsI (varsTo (mk xr) 12) = A2 at *
      generalize hN : two12 xl xr = N at *
      clear hv s1 s2 hlow hlo1 hlo2 hF hA1 hA2 hN hrow hnil hxj
      have HB0 : Bel wr (wr.alloc (.cells #[.bool p, .slice a1 xl.length d1, .slice a2 xr.length d2] 91)).drew := (Bel.alloc0 _ _).drew
      have HZ0 : wr.heap.size + 1 ≤ (wr.alloc (.cells #[.bool p, .slice a1 xl.length d1, .slice a2 xr.length d2] 91)).drew.heap.size := by simp [World.drew]
      have k1 : (wr.alloc (.cells #[.bool p, .slice a1 xl.length d1, .slice a2 xr.length d2] 91)).drew.cell? ⟨wr.heap.size, 1, none⟩ = some (.slice a1 xl.length d1) := boxc ((Bel.rfl' _).drew) 1 _ rfl
      have k2 : (wr.alloc (.cells #[.bool p, .slice a1 xl.length d1, .slice a2 xr.length d2] 91)).drew.cell? ⟨wr.heap.size, 2, none⟩ = some (.slice a2 xr.length d2) := boxc ((Bel.rfl' _).drew) 2 _ rfl
      go_wp2_with fail
      go_region_held_law (fun w' => w'.cell? ⟨wr.heap.size, 1, none⟩ = some (.slice a1 xl.length d1) ∧ w'.cell? ⟨wr.heap.size, 2, none⟩ = some (.slice a2 xr.length d2))
        (first | exact ⟨k15, k25⟩ | exact ⟨k14, k24⟩ | exact ⟨k13, k23⟩ | exact ⟨k1, k2⟩ | fail)
        (first
          | (refine step_append_row ?a1 (.tmp 16) (.tmp 19) 20 ?a6 ?a2 (wr.heap.size + 1) (wr.heap.size + 1) _ _ A1 A2 ?a3 R1 ?a4 R2 (by omega) HZ4 ?a5; (case a1 => rfl); (case a6 => rfl); (case a2 => rfl); (case a3 => first | rfl | (simp [Act.eval, Act.put]; done)); (case a4 => first | rfl | (simp [Act.eval, Act.put]; done)); intro a5 n5 c5 w5 R5 hg5; have HB5 := HB4.grown hg5 (fun q hq => Nat.le_of_succ_le (own_base R1 q hq)); have k15 := hg5.cell k14 (fun e => Nat.lt_irrefl _ (own_base R1 _ e.symm)); have k25 := hg5.cell k24 (fun e => Nat.lt_irrefl _ (own_base R1 _ e.symm)))
          | (go_at_call 132; refine (HR.out _ HB3).mono ?_; rintro e w4 ⟨p2, m2, q2, rfl, r2, g4⟩; have HB4 := HB3.step g4; have HZ4 := Nat.le_trans HZ3 g4.size; have R1 : RowI (wr.heap.size + 1) w4 _ A1 := RowI.mono (ownsRow_bel r1 g4) HZ0; have R2 : RowI (wr.heap.size + 1) w4 _ A2 := RowI.mono r2 HZ3; have k14 := g4.at (World.block_lt_of_cell? _ ⟨_, _, none⟩ k13) k13; have k24 := g4.at (World.block_lt_of_cell? _ ⟨_, _, none⟩ k23) k23)
          | (go_at_call 132; refine (HL.out _ HB3).mono ?_; rintro e w4 ⟨p1, m1, q1, rfl, r1, g4⟩; have HB4 := HB3.step g4; have HZ4 := Nat.le_trans HZ3 g4.size; have R2 : RowI (wr.heap.size + 1) w4 _ A2 := RowI.mono (ownsRow_bel r2 g4) HZ0; have R1 : RowI (wr.heap.size + 1) w4 _ A1 := RowI.mono r1 HZ3; have k14 := g4.at (World.block_lt_of_cell? _ ⟨_, _, none⟩ k13) k13; have k24 := g4.at (World.block_lt_of_cell? _ ⟨_, _, none⟩ k23) k23)
          | (go_at_call 132; refine (HL.out _ HB0).mono ?_; rintro e w3 ⟨p1, m1, q1, rfl, r1, g3⟩; have HB3 := HB0.step g3; have HZ3 := Nat.le_trans HZ0 g3.size; have k13 := g3.at (World.block_lt_of_cell? _ ⟨_, _, none⟩ k1) k1; have k23 := g3.at (World.block_lt_of_cell? _ ⟨_, _, none⟩ k2) k2)
          | (go_at_call 132; refine (HR.out _ HB0).mono ?_; rintro e w3 ⟨p2, m2, q2, rfl, r2, g3⟩; have HB3 := HB0.step g3; have HZ3 := Nat.le_trans HZ0 g3.size; have k13 := g3.at (World.block_lt_of_cell? _ ⟨_, _, none⟩ k1) k1; have k23 := g3.at (World.block_lt_of_cell? _ ⟨_, _, none⟩ k2) k2)
          | fail)
      all_goals
        have hm5 := row_len R5
        subst hm5
        have hsl5 := (OwnI.of_row R5).sl
        have hal : (A1 ++ A2).length = N.length := by rw [HT.out, natsI_len]
        have HSL : Hid (SlI (wr.heap.size + 1) w5.heap.size w5 (.slice a5 (A1 ++ A2).length c5) (natsI N)) := by show SlI _ _ _ _ _; rw [← HT.out]; exact hsl5
        have hO5 : Hid (RowI w.heap.size w5 u3 (natsI (varsTo F 12))) := by show RowI _ _ _ _; exact ownsRow_bel HROW.out HB5
        have HNIL2 := Lib.hid HNIL.out
        have hB5 := hb.step HB5
        clear r1 r2 R1 R2 R5 hg5 hsl5 k1 k2 k13 k23 k14 k24 k15 k25 g3 g4 HT HB4 HB3 HB0 HZ0 HZ3 HZ4 HL HR c1 c2 c3
        rw [hal] at *
        go_wp2_with fail
        go_loopw [3, 22] (fun o i w6 => ∃ (q : Nat) (G : Nat → Bool), q ≤ N.length ∧ i = .int .i64 q ∧ RowI w.heap.size w6 o (natsI (varsTo G 12)) ∧ (varsTo G 12 = [] → o = .slice none 0 0) ∧ (∀ j, j < 12 → G j = (F j || decide (j ∈ N.take q))) ∧ Bel w5 w6) (fun _ i _ => N.length - (intOf i).toNat)
        case atStart => exact ⟨0, F, Nat.zero_le _, rfl, hO5.out, HNIL2.out, fun j _ => by simp, Bel.rfl' _⟩
        case round =>
          obtain ⟨q, G, hq, rfl, hrG, hnG, hG, hb6⟩ := hrel
          by_cases hlq : q < N.length
          · obtain ⟨ad5, cap5, e5, _, _, hr5⟩ := HSL.out
            simp only [Value.slice.injEq] at e5
            obtain ⟨rfl, -, rfl⟩ := e5
            obtain ⟨b5, o5, rfl, -, hcell⟩ := rd hr5 hb6 q (by rw [natsI_len]; exact hlq)
            rw [nget _ _ hlq] at hcell
            have hm12 := HTL.out _ (mem_getD N 0 q hlq)
            have HP := Lib.hid (put_take hlq hG)
            have hq1 : (q : Int) < N.length := by omega
            have hps := put_some G (N.getD q 0) hm12
            clear hr5 hG HSL
            generalize N.getD q 0 = m at *
            cases hl : varsTo G 12 with
            | nil =>
              have ho := hnG hl
              have E4 := Lib.hid (put_empty hm12 hl)
              have HPS := Lib.hid hps
              subst ho
              clear hrG hnG hl hps
              go_wp2_with fail
              refine (l1Put_nz _ m _ rfl).mono ?_; rintro e w7 ⟨a7, n7, c7, rfl, ho7, hb7⟩
              go_wp2_with fail
              go_roundw
              case rel => exact ⟨q+1, setF G m, by omega, by go_num, by rw [E4.out]; exact RowI.mono ho7 (hB5.step hb6).size, fun h => by have := HPS.out; rw [h] at this; simp at this, HP.out, hb6.step hb7⟩
              case measure => simp [intOf]; omega
            | cons y ys =>
              have hpos : 0 < (varsTo G 12).length := by rw [hl]; simp
              have HPS := Lib.hid hps
              have HO := Lib.hid hrG
              clear hrG hnG hl hps
              go_wp2_with fail
              refine (l1Put_q _ w.heap.size _ G m _ rfl hm12 (hB5.step hb6).size hpos HO.out).mono ?_; rintro e w7 ⟨a7, n7, c7, rfl, ho7, hb7⟩
              go_wp2_with fail
              go_roundw
              case rel => exact ⟨q+1, setF G m, by omega, by go_num, ho7, fun h => by have := HPS.out; rw [h] at this; simp at this, HP.out, hb6.step hb7⟩
              case measure => simp [intOf]; omega
          · rw [List.take_of_length_le (by omega)] at hG
            have hGG := HM.out G hG
            rw [← HFT.out] at hGG
            have HGG := Lib.hid hGG
            have HO := Lib.hid hrG
            have HNG := Lib.hid hnG
            clear hG hGG hrG hnG HSL
            have hq1 : ¬ (q : Int) < N.length := by omega
            go_wp2_with fail
            go_roundw
            case rel => exact ⟨k+1, G, by omega, by go_num, HO.out, HNG.out, HGG.out, hB5.step hb6⟩
            case measure => simp [intOf]; omega
    · rw [List.take_of_length_le (by omega)] at hF
      obtain ⟨g, n, c2, hv'⟩ := own_form hrow
      subst hv'
      have E := Lib.hid (varsTo_congr 12 hF)
      have HO := Lib.hid hrow
      clear hrow hnil hF
      go_wp2_with fail
      go_ret
      exact ⟨_, _, _, rfl, by rw [← E.out]; exact OwnI.of_row HO.out, hb⟩
theorem flat_low1 {ar : List Int} {c : List Lt} (h : goodClause ar c = true) : ∀ t ∈ flatC c, ∀ k, k < t.length → -12 ≤ t.getD k 0 :=
  fun _ ht => low_memC fun _ hn => ok_low (flat_ok (goodClause_iff.1 h).2.2 ht) hn

set_option maxRecDepth 100000 in
set_option maxHeartbeats 400000 in
theorem sVarsIn_t {l h l' h' : Nat} {v u : Value} {ar : List Int} {c : List Lt} {w : World} (ha : ar.length ≤ 1048576) (hv : SlI l h w v ar) (hc : sumC c ≤ 1048576) (hu : SlC l' h' w u c) :
    Calls Try.prog 42 #[.agg #[v], u] w (RetIB w (varsInAns ar c) (goodClause ar c)) := by
  unfold varsInAns
  cases hg : goodClause ar c with
  | false =>
    rw [if_neg (by simp)]
    have HG := Lib.hid hg; clear hg
    go_enter Try.func42, Try.ntmps42
    go_wp2_with fail
    refine (sGoodClause_v HG.out ha (hv.alloc _) hc (hu.alloc _)).mono ?_; rintro e w1 ⟨rfl, hb1⟩
    go_wp2_with fail
    go_ret2
    exact ⟨_, _, _, rfl, OwnI.nil _ _ _, hb1.of_alloc⟩
  | true =>
    rw [if_pos rfl]
    have HC := Lib.hid (fun (w' : World) (hb : Bel w w') => l4Vars_c l' h' u c w' (shortC_of_sum hc) (flat_low1 hg) (hu.below hb))
    have HG := Lib.hid hg; clear hg
    go_enter Try.func42, Try.ntmps42
    go_wp2_with fail
    refine (sGoodClause_v HG.out ha (hv.alloc _) hc (hu.alloc _)).mono ?_; rintro e w1 ⟨rfl, hb1⟩
    clear hc
    go_wp2_with fail
    refine (HC.out _ hb1.of_alloc).mono ?_; rintro e w2 ⟨a2, n2, c2, rfl, ho2, hb2⟩
    go_wp2_with fail
    go_ret2
    exact ⟨_, _, _, rfl, ho2.mono hb1.of_alloc.size (Nat.le_refl _), hb1.of_alloc.step hb2⟩
end Go.Proofs.Yteegjnobmbcjiaa
end
section
/- Chapter 5, the reference: FalseAt. -/
namespace Go.Proofs.Yteegjnobmbcjiaa
open Go.RowKit

theorem make12 (w : World) : (Instr.makeSlice 22 (.int .i64 12) (.int .i64 12)).run Try.prog w = .ok (.slice (some ⟨w.heap.size, 0, none⟩) 12 12) (w.alloc (.cells #[.int .i64 0, .int .i64 0, .int .i64 0, .int .i64 0, .int .i64 0, .int .i64 0, .int .i64 0, .int .i64 0, .int .i64 0, .int .i64 0, .int .i64 0, .int .i64 0] 3)) := by kernel_rfl
theorem zeros_own (w : World) : OwnI w.heap.size (w.heap.size + 1) (w.alloc (.cells #[.int .i64 0, .int .i64 0, .int .i64 0, .int .i64 0, .int .i64 0, .int .i64 0, .int .i64 0, .int .i64 0, .int .i64 0, .int .i64 0, .int .i64 0, .int .i64 0] 3)) (.slice (some ⟨w.heap.size, 0, none⟩) 12 12) zeros12 := by
  refine ⟨⟨_, 12, rfl, Nat.le_refl _, ⟨by decide, fun h => by simp at h⟩, fun _ => ⟨w.heap.size, 0, rfl, Nat.le_refl _, Nat.lt_succ_self _, fun j hj => ?_⟩⟩, fun b off n c hv hn j => ?_⟩
  · rw [Nat.zero_add, World.cell?_alloc_new w]
    have : j < 12 := hj
    unfold zeros12
    match j, this with
    | 0, _ | 1, _ | 2, _ | 3, _ | 4, _ | 5, _ | 6, _ | 7, _ | 8, _ | 9, _ | 10, _ | 11, _ => rfl
  · simp only [Value.slice.injEq, Option.some.injEq, Addr.mk.injEq] at hv
    obtain ⟨⟨rfl, rfl, -⟩, rfl, rfl⟩ := hv
    exact World.frozen?_alloc_at _ _ _ _ rfl

def RetFA (w : World) (R : Option (List Int)) (x : Ending) (w' : World) : Prop := RetIB w (R.getD []) R.isSome x w'
end Go.Proofs.Yteegjnobmbcjiaa
end
section
/- Chapter 5, the program: falseAt. -/
namespace Go.Proofs.Yteegjnobmbcjiaa
open Go.RowKit

theorem fInfo : (Try.prog.info? 163).map (fun i => (i.zero, i.size, i.bytes)) = some (some .nilFunc, 1, 8) := by kernel_rfl
abbrev RowF (lo : Nat) (w : World) (v : Value) (rs : List TR) : Prop := w.ownsRow lo 163 1 v rs.length (rs.map TR.f)
theorem step_append_fn {w : World} {ops : Array Oper} {o : Oper} {a : Act} {K : Act → World → Prop} {Q : Exit → Act → World → Prop} {E : Prop} (hgd : o.guard = none) (s x : Operand) (d : Nat) (hd : o.dst = some d)
    (ho : o.op = .call { callee := .builtin .append, args := #[s, x], argTypes := #[162, 162] })
    (base : Nat) (v : Value) (rs : List TR) (hs : a.eval s = v) (hown : RowF base w v rs) (g : Nat) (r : TR) (hx : a.eval x = .slice (some ⟨g, 0, none⟩) 1 1)
    (hnews : ∀ j u, [r.f][j]? = some u → w.cell? ((⟨g, 0, none⟩ : Addr).add j) = some u)
    (hl : rs.length ≤ 1048576) (hbase : base ≤ w.heap.size)
    (h : ∀ b k w', RowF base w' (.slice (some ⟨b, 0, none⟩) (rs.length + 1) k) (rs ++ [r]) → w.grownBy w' v.ownBlock → (v.ownBlock = some b ∨ b = w.heap.size) → K (a.put (some d) (.slice (some ⟨b, 0, none⟩) (rs.length + 1) k)) w') :
    if Region.wanted o (yielded ops a.tmps) = true then Oper.wp Try.prog o a w K Q else E := by
  obtain ⟨i0, hi0, hz0, hz1, hz2⟩ := info_parts fInfo
  rw [← hd] at h
  refine step_append_lies w hgd s x 162 ho base 163 i0 .nilFunc 1 8 (by kernel_rfl) hi0 hz0 hz1 hz2 rfl (by decide) v rs.length (rs.map TR.f) hs hown
    ⟨g, 0, none⟩ 1 1 [r.f] hx (by simp) hnews (fun u hu => by simp at hu; subst hu; rfl) (by decide) (by unfold maxLen; omega) (by omega) hbase w.heap.size rfl (fun b k w' h1 h2 h3 _ => ?_)
  refine h b k w' ?_ h2 h3
  show World.ownsRow _ _ _ _ _ _ _
  rw [List.map_append, List.length_append]
  exact h1

/-- The tests as they are collected. -/
structure Col (ar : List Int) (Z : Nat) (tb : List (List Int)) (H : Nat) (v u tv : Value) (c : List Lt) (rs : List TR) (w : World) : Prop where
  tests : Tests ar Z tb 0 H v u (H + 3) c rs w
  row : RowF (H + 3) w tv rs
  off : ∀ g, tv.ownBlock = some g → ∀ r ∈ rs, g < r.lo ∨ r.hi ≤ g
theorem Col.nil {ar : List Int} {Z : Nat} {tb : List (List Int)} {H : Nat} {v u : Value} {w : World} : Col ar Z tb H v u (.slice none 0 0) [] [] w := ⟨Tests.nil, World.ownsRow_nil _ _ _ _, fun g h => by simp [Value.ownBlock] at h⟩
theorem Col.bel {ar : List Int} {Z : Nat} {tb : List (List Int)} {H : Nat} {v u tv : Value} {c : List Lt} {rs : List TR} {w w' : World} (h : Col ar Z tb H v u tv c rs w) (k : Bel w w') : Col ar Z tb H v u tv c rs w' := ⟨h.tests.bel k, ownsRow_bel h.row k, h.off⟩
theorem own_lt {w : World} {base e s n : Nat} {v : Value} {xs : List Value} (h : w.ownsRow base e s v n xs) {g : Nat} (hg : v.ownBlock = some g) : base ≤ g ∧ g < w.heap.size := by
  obtain ⟨_, h0 | ⟨g', cap, cur, rfl, h2, h3, _⟩⟩ := h
  · rw [h0.1] at hg; simp [Value.ownBlock] at hg
  · simp only [Value.ownBlock, Option.some.injEq] at hg
    subst hg
    refine ⟨h2, ?_⟩
    rcases Nat.lt_or_ge g' w.heap.size with h | h
    · exact h
    · rw [Array.getElem?_eq_none (by omega)] at h3; simp at h3
/-- A store below. -/
theorem Col.low {ar : List Int} {Z : Nat} {tb : List (List Int)} {H : Nat} {v u tv : Value} {c : List Lt} {rs : List TR} {w : World} (h : Col ar Z tb H v u tv c rs w) {p : Addr} (hp : H ≤ p.block) (hp2 : p.block < H + 3) (x : Value) : Col ar Z tb H v u tv c rs (w.setCell p x) := by
  refine ⟨h.tests.chg (Chg.set (lo := p.block) (hi := p.block + 1) w (Nat.le_refl _) (Nat.lt_succ_self _) x) (fun r hr => .inl (by have := h.tests.cur hr; omega)) (.inr hp), ?_, h.off⟩
  obtain ⟨h1, h0 | ⟨g, cap, cur, e1, e2, hh, r⟩⟩ := h.row
  · exact ⟨h1, .inl h0⟩
  · exact ⟨h1, .inr ⟨g, cap, cur, e1, e2, by rw [Below.heap_setCell w p x g (by omega)]; exact hh, r⟩⟩
/-- One more. -/
theorem Col.snoc {ar : List Int} {Z : Nat} {tb : List (List Int)} {H : Nat} {v u tv : Value} {c : List Lt} {rs : List TR} {w w' : World} {x : Lt} {r : TR} {b k : Nat} (h : Col ar Z tb H v u tv c rs w)
    (ho : TR.ok ar Z tb 0 H v u x r w) (hlo : H + 3 ≤ r.lo) (h1 : ∀ s ∈ rs, s.hi ≤ r.lo) (h2 : ∀ g, tv.ownBlock = some g → g < r.lo)
    (hrow : RowF (H + 3) w' (.slice (some ⟨b, 0, none⟩) (rs.length + 1) k) (rs ++ [r])) (hg : w.grownBy w' tv.ownBlock) (hb : tv.ownBlock = some b ∨ b = w.heap.size) :
    Col ar Z tb H v u (.slice (some ⟨b, 0, none⟩) (rs.length + 1) k) (c ++ [x]) (rs ++ [r]) w' := by
  have hT := h.tests.snoc hlo ho h1
  have hall : ∀ s ∈ rs ++ [r], s.hi ≤ w.heap.size := fun s hs => by have := hT.cur hs; omega
  have hoff : ∀ g, tv.ownBlock = some g → ∀ s ∈ rs ++ [r], g < s.lo ∨ s.hi ≤ g := fun g hg s hs => by
    rcases List.mem_append.1 hs with h' | h'
    · exact h.off g hg s h'
    · simp at h'; subst h'; exact .inl (h2 g hg)
  refine ⟨?_, hrow, fun g hg' s hs => ?_⟩
  · cases e : tv.ownBlock with
    | none =>
      rw [e] at hg
      exact hT.bel ((Bel.rfl' w).grown hg (fun k hk => by simp at hk))
    | some g =>
      rw [e] at hg
      have hlt := own_lt h.row e
      have hk : Chg g (g+1) w w' := ⟨hg.os, hg.tape, hg.output, hg.size, fun k hk ho => hg.block k hk (by simp; omega)⟩
      exact hT.chg hk (fun s hs => by have := hoff g e s hs; omega) (.inr (by omega))
  · simp only [Value.ownBlock, Option.some.injEq] at hg'
    subst hg'
    rcases hb with hb | rfl
    · exact hoff b hb s hs
    · exact .inr (hall s hs)

theorem Col.ts {ar : List Int} {Z : Nat} {tb : List (List Int)} {H : Nat} {v u tv : Value} {c : List Lt} {rs : List TR} {w : World} (h : Col ar Z tb H v u tv c rs w) (hc : w.cell? ⟨H + 2, 0, none⟩ = some tv) (hz : H + 3 ≤ w.heap.size) :
    ∃ ad cap, TS ar Z tb 0 H v u (H + 3) w.heap.size (H + 2) ad cap c rs w ∧ ∀ bT, ad = some ⟨bT, 0, none⟩ → bT < w.heap.size := by
  have hcur : ∀ r ∈ rs, r.hi ≤ w.heap.size := fun r hr => by have := h.tests.cur hr; omega
  have hrow := h.row
  obtain ⟨h1, h0 | ⟨g, cap, cur, e1, e2, hh, r⟩⟩ := hrow
  · have hr0 : rs = [] := List.length_eq_zero_iff.1 h0.2
    refine ⟨none, 0, ⟨h.tests, Nat.lt_succ_self _, hcur, ⟨hz, Nat.le_refl _⟩, by rw [hc, h0.1, hr0]; rfl, fun hp => by rw [hr0] at hp; simp at hp⟩, fun bT hb => by simp at hb⟩
  · subst e1
    have hl := own_lt h.row (g := g) rfl
    refine ⟨some ⟨g, 0, none⟩, cap, ⟨h.tests, Nat.lt_succ_self _, hcur, ⟨hz, Nat.le_refl _⟩, hc, fun _ => ⟨g, rfl, h.off g rfl, fun j s hs => ?_⟩⟩, fun bT hb => ?_⟩
    · have hj : j < rs.length := (List.getElem?_eq_some_iff.1 hs).1
      rw [h.row.cellAt j (by omega), List.getElem?_map, hs]
      rfl
    · simp only [Option.some.injEq, Addr.mk.injEq, and_true] at hb
      subst hb
      exact hl.2

def RetTR (ar : List Int) (Z : Nat) (tb : List (List Int)) (H : Nat) (v u : Value) (x : Lt) (w : World) (e : Ending) (w' : World) : Prop :=
  ∃ r : TR, e = .returned (.func (.func 158) #[] #[.pointer (some ⟨r.p7, 0, none⟩), .pointer (some ⟨r.p4, 0, none⟩), .pointer (some ⟨r.p8, 0, none⟩), .pointer (some ⟨r.p3, 0, none⟩), .pointer (some ⟨r.p5, 0, none⟩)]) ∧ TR.ok ar Z tb 0 H v u x r w' ∧ r.lo = w.heap.size ∧ r.hi = w'.heap.size ∧ Bel w w'
theorem litTest_r (ar : List Int) (Z : Nat) (tb : List (List Int)) (H : Nat) (x : Lt) (v u u1 u2 : Value) (w : World) (z1 : 1 ≤ Z) (z3 : Z ≤ 3) (hH : H ≤ w.heap.size)
    (o1 : okTerm ar x.2.1 = true) (o2 : okTerm ar x.2.2 = true)
    (hv : SlI 0 H w v ar) (hu : SlS 0 H w u tb) (s1 : SlI 0 H w u1 x.2.1) (s2 : SlI 0 H w u2 x.2.2) :
    Calls Try.prog 155 #[.agg #[v], .agg #[.int .i64 (Z : Int), u], .agg #[.bool x.1, u1, u2]] w (RetTR ar Z tb H v u x w) := by
  refine (litTest_c ar Z tb 0 H x v u u1 u2 w z1 z3 hH o1 o2 hv hu s1 s2).mono ?_
  rintro e w' ⟨p7, p4, p8, p3, p5, bk, a7, c7, ks, rfl, T, hb⟩
  exact ⟨⟨w.heap.size, w'.heap.size, p7, p4, p8, p3, p5, bk, c7, a7, u1, u2⟩, rfl, ⟨ks, T⟩, rfl, rfl, hb⟩
end Go.Proofs.Yteegjnobmbcjiaa
end
section
/- The laws' helpers over slices of clauses: copies. -/
namespace Go.Proofs.Yteegjnobmbcjiaa
open Go.RowKit

/-- Clauses of the call's own, one behind the other. -/
def InsC (lo hi : Nat) (w : World) (us : List Value) (cs : List (List Lt)) (bs : Nat → Nat × Nat) : Prop :=
  us.length = cs.length ∧ ∀ j u, us[j]? = some u → lo ≤ (bs j).1 ∧ (bs j).1 ≤ (bs j).2 ∧ (bs j).2 ≤ hi ∧ OwnC (bs j).1 (bs j).2 w u (cs.getD j []) ∧ ∀ i, i < j → (bs i).2 ≤ (bs j).1
theorem InsC.nil (lo hi : Nat) (w : World) (bs : Nat → Nat × Nat) : InsC lo hi w [] [] bs := ⟨rfl, fun j u h => by simp at h⟩
theorem InsC.same {lo hi : Nat} {w w' : World} {us : List Value} {cs : List (List Lt)} {bs : Nat → Nat × Nat} (h : InsC lo hi w us cs bs) (hs : ∀ b, lo ≤ b → b < hi → b < w.heap.size → w'.heap[b]? = w.heap[b]?) : InsC lo hi w' us cs bs :=
  ⟨h.1, fun j u hj => by
    obtain ⟨a, b, c, d, e⟩ := h.2 j u hj
    exact ⟨a, b, c, d.same fun q h1 h2 h3 => hs q (by omega) (by omega) h3, e⟩⟩
theorem InsC.mono {lo hi lo' hi' : Nat} {w : World} {us : List Value} {cs : List (List Lt)} {bs : Nat → Nat × Nat} (h : InsC lo hi w us cs bs) (h1 : lo' ≤ lo) (h2 : hi ≤ hi') : InsC lo' hi' w us cs bs :=
  ⟨h.1, fun j u hj => by
    obtain ⟨a, b, c, d, e⟩ := h.2 j u hj
    exact ⟨by omega, b, by omega, d, e⟩⟩
theorem InsC.snoc {lo hi hi2 : Nat} {w : World} {us : List Value} {cs : List (List Lt)} {bs : Nat → Nat × Nat} {u : Value} {c : List Lt} (h : InsC lo hi w us cs bs) (h0 : lo ≤ hi) (h2 : hi ≤ hi2) (ho : OwnC hi hi2 w u c) : InsC lo hi2 w (us ++ [u]) (cs ++ [c]) (fun i => if i = us.length then (hi, hi2) else bs i) := by
  refine ⟨by simp [h.1], fun j v hj => ?_⟩
  by_cases hl : j < us.length
  · rw [List.getElem?_append_left hl] at hj
    obtain ⟨a, b, c', d, e⟩ := h.2 j v hj
    have e1 : (cs ++ [c]).getD j [] = cs.getD j [] := by
      have := h.1
      simp only [List.getD_eq_getElem?_getD]
      rw [List.getElem?_append_left (by omega)]
    dsimp only
    rw [if_neg (by omega), e1]
    refine ⟨a, b, by omega, d, fun i hi' => ?_⟩
    rw [if_neg (by omega)]
    exact e i hi'
  · have hjl : j = us.length := by
      have := (List.getElem?_eq_some_iff.1 hj).1
      simp at this; omega
    subst hjl
    rw [List.getElem?_append_right (Nat.le_refl _), Nat.sub_self] at hj
    simp only [List.getElem?_cons_zero, Option.some.injEq] at hj
    subst hj
    have e1 : (cs ++ [c]).getD us.length [] = c := by
      rw [h.1]
      simp [List.getD]
    dsimp only
    rw [if_pos rfl, e1]
    refine ⟨h0, h2, Nat.le_refl _, ho, fun i hi' => ?_⟩
    rw [if_neg (by omega)]
    have hq : us[i]? = some us[i] := List.getElem?_eq_getElem hi'
    exact (h.2 i _ hq).2.2.1
/-- Clauses that may be written. -/
def OwnCs (lo hi : Nat) (w : World) (v : Value) (cs : List (List Lt)) : Prop :=
  ∃ us bs, w.ownsRow lo 47 1 v cs.length us ∧ InsC lo hi w us cs bs ∧ ∀ g, v.ownBlock = some g → g < hi ∧ ∀ j u, us[j]? = some u → g < (bs j).1 ∨ (bs j).2 ≤ g
theorem OwnCs.same {lo hi w w' v cs} (h : OwnCs lo hi w v cs) (hs : ∀ b, lo ≤ b → b < hi → b < w.heap.size → w'.heap[b]? = w.heap[b]?) : OwnCs lo hi w' v cs := by
  obtain ⟨us, bs, h1, h2, h3⟩ := h
  refine ⟨us, bs, ?_, h2.same hs, h3⟩
  have h1' := h1
  obtain ⟨q1, q0 | ⟨g, cap, cur, e1, e2, hh, r⟩⟩ := h1
  · exact ⟨q1, .inl q0⟩
  · have hb : v.ownBlock = some g := by rw [e1]; rfl
    exact ⟨q1, .inr ⟨g, cap, cur, e1, e2, by rw [hs g e2 (h3 g hb).1 (own_lt h1' hb).2]; exact hh, r⟩⟩
theorem OwnCs.below {lo hi w w' v cs} (h : OwnCs lo hi w v cs) (hb : Bel w w') : OwnCs lo hi w' v cs := h.same fun b _ _ h3 => hb.block b h3
theorem OwnCs.alloc {lo hi w v cs} (h : OwnCs lo hi w v cs) (o : Obj) : OwnCs lo hi (w.alloc o) v cs := h.below (Bel.alloc0 w o)
theorem OwnCs.k {lo hi w v cs} (h : OwnCs lo hi w v cs) : K (fun w => OwnCs lo hi w v cs) w := fun _ hb => h.below hb
theorem OwnCs.chg {lo hi lo' hi' w w' v cs} (h : OwnCs lo hi w v cs) (k : Chg lo' hi' w w') (hd : hi ≤ lo' ∨ hi' ≤ lo) : OwnCs lo hi w' v cs :=
  h.same fun b h1 h2 h3 => k.block b h3 (by omega)
theorem OwnCs.sl {lo hi w v cs} (h : OwnCs lo hi w v cs) : SlCs lo hi w v cs := by
  obtain ⟨us, bs, h1, h2, h3⟩ := h
  have h1' := h1
  obtain ⟨q1, q0 | ⟨g, cap, cur, e1, e2, hh, r1, r2, r3⟩⟩ := h1
  · obtain ⟨rfl, q3⟩ := q0
    exact ⟨none, 0, by rw [q3], by omega, ⟨Nat.zero_le _, fun _ => rfl⟩, fun hp => by omega⟩
  · subst e1
    refine ⟨some ⟨g, 0, none⟩, cap, rfl, r1, ⟨r2, fun h => by simp at h⟩, fun hp => ⟨g, 0, rfl, e2, (h3 g rfl).1, fun j hj => ?_⟩⟩
    have hju : j < us.length := by rw [h2.1]; exact hj
    refine ⟨us[j], ?_, ?_⟩
    · rw [Nat.zero_add, h1'.cellAt j (by omega), List.getElem?_eq_getElem hju]
    · obtain ⟨a, b, c, d, e⟩ := h2.2 j _ (List.getElem?_eq_getElem hju)
      exact d.sl.mono a c
theorem SlCs.alloc {lo hi w v cs} (h : SlCs lo hi w v cs) (o : Obj) : SlCs lo hi (w.alloc o) v cs := h.below (Bel.alloc0 w o)
theorem SlCs.k {lo hi w v cs} (h : SlCs lo hi w v cs) : K (fun w => SlCs lo hi w v cs) w := fun _ hb => h.below hb
def RetCs (w : World) (cs : List (List Lt)) (e : Ending) (w' : World) : Prop := ∃ ad n k, e = .returned (.slice ad n k) ∧ OwnCs w.heap.size w'.heap.size w' (.slice ad n k) cs ∧ Bel w w'

theorem litsInfo : (Try.prog.info? 47).map (fun i => (i.zero, i.size, i.bytes)) = some (some (.slice none 0 0), 1, 24) := by kernel_rfl
end Go.Proofs.Yteegjnobmbcjiaa
end
section
/- The laws' helpers over slices of literals: marks. -/
namespace Go.Proofs.Yteegjnobmbcjiaa
open Go.RowKit

def qlo (bs : Nat → Nat) (i : Nat) (xs : List Int) : Nat := if 0 < xs.length then bs i else 0
def qhi (bs : Nat → Nat) (i : Nat) (xs : List Int) : Nat := if 0 < xs.length then bs i + 1 else 0
theorem Ins.feed {lo hi b w us xss bs} (h : Ins lo hi b w us xss bs) (i : Nat) (u : Value) (hu : us[i]? = some u) : OwnI (qlo bs i (xss.getD i [])) (qhi bs i (xss.getD i [])) w u (xss.getD i []) := by
  have ho := h.own i u hu
  unfold qlo qhi
  split
  · exact ho
  · rename_i h0; rw [len0 h0] at ho ⊢; exact ho.empty
theorem Ins.fed {lo hi b w w' us xss bs} (h : Ins lo hi b w us xss bs) (hb : b < w.heap.size) (i : Nat) (hi' : i < xss.length) (u : Value) (hu : us[i]? = some u) (ys : List Int) (hl : ys.length = (xss.getD i []).length)
    (hch : Chg (qlo bs i (xss.getD i [])) (qhi bs i (xss.getD i [])) w w') (ho : OwnI (qlo bs i (xss.getD i [])) (qhi bs i (xss.getD i [])) w' u ys) :
    Ins lo hi b w' us (xss.set i ys) bs ∧ Chg lo hi w w' ∧ w'.heap[b]? = w.heap[b]? := by
  by_cases hp : 0 < (xss.getD i []).length
  · obtain ⟨a1, a2, a3⟩ := h.rng i hi' hp
    unfold qlo qhi at hch ho
    rw [if_pos hp, if_pos hp] at hch ho
    exact ⟨h.stored i hi' u hu ys hl (fun _ => hch) (fun h0 => absurd (by omega) h0) ho, hch.mono a1 (by omega), hch.block b hb (by omega)⟩
  · unfold qlo qhi at hch ho
    rw [if_neg hp, if_neg hp] at hch ho
    have hy : ys = [] := List.length_eq_zero_iff.1 (by omega)
    subst hy
    exact ⟨h.stored i hi' u hu [] hl (fun h0 => absurd h0 (by simp)) (fun _ => hch) ho.empty, ⟨hch.os, hch.tape, hch.output, hch.size, fun x hx _ => hch.block x hx (by omega)⟩, hch.block b hb (by omega)⟩
theorem CRow.left {lo hi b off : Nat} {w w' : World} {zs : List LV} {c : List Lt} {bs : Nat → Nat} (h : CRow lo hi b off w zs c bs) (hb : b < w.heap.size) (j : Nat) (z : LV) (hz : zs[j]? = some z) (ys : List Int) (hl : ys.length = (c.getD j lt0).2.1.length)
    (hch : Chg (qlo bs (2*j) (c.getD j lt0).2.1) (qhi bs (2*j) (c.getD j lt0).2.1) w w') (ho : OwnI (qlo bs (2*j) (c.getD j lt0).2.1) (qhi bs (2*j) (c.getD j lt0).2.1) w' z.2.1 ys) :
    CRow lo hi b off w' zs (c.set j ((c.getD j lt0).1, ys, (c.getD j lt0).2.2)) bs ∧ Chg lo hi w w' := by
  have hj : j < zs.length := (List.getElem?_eq_some_iff.1 hz).1
  have hjc : j < c.length := by rw [← h.len]; exact hj
  have hfl := flatC_len c
  obtain ⟨g1, g2⟩ := flatC_get c j
  rw [← g1] at hch ho hl
  obtain ⟨k1, k2, k3⟩ := h.ins.fed hb (2*j) (by omega) z.2.1 (rowsC_get zs j z hz).1 ys hl hch ho
  refine ⟨h.terms k3 (by simp) (fun i => ?_) ?_, k2⟩
  · by_cases e : j = i
    · subst e; simp [List.getD, hjc]
    · simp [List.getD, e]
  · have : flatC (c.set j ((c.getD j lt0).1, ys, (c.getD j lt0).2.2)) = (flatC c).set (2*j) ys := by
      rw [flatC_set c j _ hjc]
      show ((flatC c).set (2 * j) ys).set (2 * j + 1) (c.getD j lt0).2.2 = _
      rw [← g2]
      apply List.ext_getElem?
      intro i
      simp only [List.getElem?_set]
      by_cases e : 2 * j + 1 = i
      · subst e; simp [List.getD, show 2 * j + 1 < (flatC c).length by omega]
      · rw [if_neg e]
    rw [this]; exact k1
theorem CRow.right {lo hi b off : Nat} {w w' : World} {zs : List LV} {c : List Lt} {bs : Nat → Nat} (h : CRow lo hi b off w zs c bs) (hb : b < w.heap.size) (j : Nat) (z : LV) (hz : zs[j]? = some z) (ys : List Int) (hl : ys.length = (c.getD j lt0).2.2.length)
    (hch : Chg (qlo bs (2*j+1) (c.getD j lt0).2.2) (qhi bs (2*j+1) (c.getD j lt0).2.2) w w') (ho : OwnI (qlo bs (2*j+1) (c.getD j lt0).2.2) (qhi bs (2*j+1) (c.getD j lt0).2.2) w' z.2.2 ys) :
    CRow lo hi b off w' zs (c.set j ((c.getD j lt0).1, (c.getD j lt0).2.1, ys)) bs ∧ Chg lo hi w w' := by
  have hj : j < zs.length := (List.getElem?_eq_some_iff.1 hz).1
  have hjc : j < c.length := by rw [← h.len]; exact hj
  have hfl := flatC_len c
  obtain ⟨g1, g2⟩ := flatC_get c j
  rw [← g2] at hch ho hl
  obtain ⟨k1, k2, k3⟩ := h.ins.fed hb (2*j+1) (by omega) z.2.2 (rowsC_get zs j z hz).2 ys hl hch ho
  refine ⟨h.terms k3 (by simp) (fun i => ?_) ?_, k2⟩
  · by_cases e : j = i
    · subst e; simp [List.getD, hjc]
    · simp [List.getD, e]
  · have : flatC (c.set j ((c.getD j lt0).1, (c.getD j lt0).2.1, ys)) = (flatC c).set (2*j+1) ys := by
      rw [flatC_set c j _ hjc]
      show ((flatC c).set (2 * j) (c.getD j lt0).2.1).set (2 * j + 1) ys = _
      rw [← g1]
      apply List.ext_getElem?
      intro i
      simp only [List.getElem?_set, List.length_set]
      by_cases e : 2 * j + 1 = i
      · subst e; simp
      · rw [if_neg e, if_neg e]
        by_cases e2 : 2 * j = i
        · subst e2; simp [List.getD, show 2 * j < (flatC c).length by omega]
        · rw [if_neg e2]
    rw [this]; exact k1

theorem markIntS_z (lo hi : Nat) (v : Value) (xs : List Int) (z : Int) (k : Nat) (w : World) (hz : z = k) (hx : xs.length ≤ 1099511627776) (hk : k ≤ 1099511627776) (hv : OwnI lo hi w v xs) :
    Calls Try.prog 19 #[v, .int .i64 z] w (RetM lo hi w v xs k) := by subst hz; exact markIntS_c lo hi v xs k w hx hk hv
theorem heldIntS_z (l h : Nat) (v : Value) (n : Nat) (z : Int) (k : Nat) (w : World) (hz : z = k) (hx : n ≤ 1099511627776) (hk : k ≤ 1099511627776) (hv : SlI l h w v (marks k n)) :
    Calls Try.prog 20 #[v, .int .i64 z] w (RetV w (.int .i64 ((k + n : Nat) : Int))) := by subst hz; exact heldIntS_c l h v n k w hx hk hv
theorem set_twice {α : Type} (l : List α) (j : Nat) (a b : α) : (l.set j a).set j b = l.set j b := by simp

def RetMC (lo hi : Nat) (w : World) (v : Value) (c : List Lt) (k : Nat) (e : Ending) (w' : World) : Prop := e = .returned (.int .i64 ((k + sumC c : Nat) : Int)) ∧ Chg lo hi w w' ∧ OwnC lo hi w' v (marksC k c)
theorem OwnC.crow {lo hi : Nat} {w : World} {ad : Option Addr} {n k : Nat} {c : List Lt} (h : OwnC lo hi w (.slice ad n k) c) (hp : 0 < c.length) : ∃ b off zs bs, ad = some ⟨b, off, none⟩ ∧ n = c.length ∧ c.length ≤ k ∧ k ≤ maxLen ∧ CRow lo hi b off w zs c bs := by
  obtain ⟨ad', cap, e, hc, hm, hr⟩ := h
  simp only [Value.slice.injEq] at e
  obtain ⟨rfl, rfl, rfl⟩ := e
  obtain ⟨b, off, zs, bs, e, a1, a2, hl, a3, hf, hi⟩ := hr hp
  exact ⟨b, off, zs, bs, e, rfl, hc, hm.1, a1, a2, hl, a3, hf, hi⟩
theorem CRow.own {lo hi b off k : Nat} {w : World} {zs : List LV} {c : List Lt} {bs : Nat → Nat} (h : CRow lo hi b off w zs c bs) (hc : c.length ≤ k) (hm : k ≤ maxLen) : OwnC lo hi w (.slice (some ⟨b, off, none⟩) c.length k) c :=
  ⟨_, k, rfl, hc, ⟨hm, fun h => by simp at h⟩, fun _ => ⟨b, off, zs, bs, rfl, h.hlo, h.hhi, h.len, h.cell, h.free, h.ins⟩⟩

set_option maxRecDepth 100000 in
set_option maxHeartbeats 400000 in
theorem markLitS_c (lo hi : Nat) (v : Value) (c : List Lt) (k : Nat) (w : World) (hx : sumC c ≤ 1048576) (hk : k ≤ 1073741824) (hv : OwnC lo hi w v c) :
    Calls Try.prog 63 #[v, .int .i64 k] w (RetMC lo hi w v c k) := by
  obtain ⟨ad, cap, rfl⟩ := hv.sl.form
  go_enter Try.func63, Try.ntmps63
  go_wp2_with fail
  go_loopw [1, 5] (fun m i wr => ∃ j : Nat, j ≤ c.length ∧ i = .int .i64 j ∧ m = .int .i64 ((k + sumC (c.take j) : Nat) : Int) ∧ OwnC lo hi wr (.slice ad c.length cap) (markedC c k j) ∧ Chg lo hi w wr) (fun _ i _ => c.length - (intOf i).toNat)
  case atStart => exact ⟨0, Nat.zero_le _, rfl, by simp [sumC], by rw [markedC_zero]; exact hv, Chg.refl _ _ _⟩
  case round =>
    obtain ⟨j, hj, rfl, rfl, ho, hb⟩ := hrel
    by_cases hlt : j < c.length
    · have hl := markedC_len c k j hj
      have hst := sumC_take c j hlt
      have hsl := sumC_get c j hlt
      have hcl := sumC_len c
      obtain ⟨b, off, zs, bs, rfl, -, hcap, hml, hR⟩ := ho.crow (by omega)
      have hzl := hR.len
      have hz : zs[j]? = some zs[j] := List.getElem?_eq_getElem (by omega)
      obtain ⟨-, c1, c2, c3⟩ := hR.cell j _ hz
      have f1 := hR.free (off + j * 3)
      have hB := World.block_lt_of_cell? wr ⟨b, _, none⟩ c1
      have hget := markedC_get c k j hlt
      have hsucc := markedC_succ c k j hlt
      have hin1 : (j : Int) < c.length := by omega
      have hwd : wC (c.getD j lt0) = 1 + (c.getD j lt0).2.1.length + (c.getD j lt0).2.2.length := rfl
      generalize zs[j] = z at *
      obtain ⟨p0, u1, u2⟩ := z
      simp only at c1 c2 c3
      have hkj : k + sumC (c.take j) ≤ 1073741824 + 1048576 := by have := sumC_le c j; omega
      generalize hz0 : k + sumC (c.take j) = z0 at *
      have hrem : Int.tmod (z0 : Int) 3 = ((z0 % 3 : Nat) : Int) := by rw [Int.tmod_eq_emod_of_nonneg (by omega)]; omega
      -- the sign
      have hdec : (((z0 : Nat) : Int) % 3 == 0) = decide (z0 % 3 = 0) := by rw [Bool.eq_iff_iff]; simp; omega
      have hR1 := hR.sign j _ hz (((z0 : Nat) : Int) % 3 == 0)
      rw [hget] at hR1
      generalize hx : c.getD j lt0 = x at *
      obtain ⟨p, xl, xr⟩ := x
      simp only at *
      have hW1 := Chg.set (lo := lo) (hi := hi) wr (p := ⟨b, off + j * 3, none⟩) hR.hlo hR.hhi (.bool (((z0 : Nat) : Int) % 3 == 0))
      have hs1 : (wr.setCell ⟨b, off + j * 3, none⟩ (.bool (((z0 : Nat) : Int) % 3 == 0))).heap.size = wr.heap.size := by simp
      have e1 := World.cell?_setCell_other (h := show (⟨b, off + j * 3, none⟩ : Addr) ≠ ⟨b, off + j * 3 + 1, none⟩ by intro h; simp at h) (w := wr) (v := .bool (((z0 : Nat) : Int) % 3 == 0))
      rw [c2] at e1
      generalize hz1 : zs.set j (((z0 : Nat) : Int) % 3 == 0, u1, u2) = zs1 at hR1
      have hg1 : zs1[j]? = some (((z0 : Nat) : Int) % 3 == 0, u1, u2) := by rw [← hz1, List.getElem?_set]; simp; omega
      have hd1 : ((markedC c k j).set j (((z0 : Nat) : Int) % 3 == 0, xl, xr)).getD j lt0 = (((z0 : Nat) : Int) % 3 == 0, xl, xr) := by simp [List.getD, hl, hlt]
      have hfeed := hR1.ins.feed (2*j) u1 (rowsC_get zs1 j _ hg1).1
      rw [(flatC_get _ j).1, hd1] at hfeed
      have HC := Lib.hid (markIntS_z _ _ u1 xl ((z0 : Int) + 1) (z0 + 1) _ (by omega) (by omega) (by omega) hfeed)
      have HK := Lib.hid (And.intro hR1 (And.intro hg1 (And.intro hd1 (And.intro hsucc (And.intro hst (And.intro hl (And.intro hwd (And.intro hW1 hs1))))))))
      have HB2 := Lib.hid hb
      have HDEC := Lib.hid hdec
      clear hdec
      clear ho hv hR hR1 hz hget hsucc hst hl hwd hb hz1 hg1 hd1 hfeed hW1 hs1
      go_wp2_with fail
      refine HC.out.mono ?_; rintro e w1 ⟨rfl, hch, hom⟩
      obtain ⟨hR1, hg1, hd1, hsucc, hst, hl, hwd, hW1, hs1⟩ := HK.out
      have hB1 : b < (wr.setCell ⟨b, off + j * 3, none⟩ (.bool (((z0 : Nat) : Int) % 3 == 0))).heap.size := by rw [hs1]; exact hB
      have hst1 := hR1.left (w' := w1) hB1 j _ hg1 (marks (z0 + 1) xl.length) (by rw [hd1, marks_len]) (by rw [hd1]; exact hch) (by rw [hd1]; exact hom)
      rw [hd1, set_twice] at hst1
      obtain ⟨hR2, hW2⟩ := hst1
      obtain ⟨-, d1, d2, d3⟩ := hR2.cell j _ hg1
      simp only at d1 d2 d3
      have hB2 : b < w1.heap.size := Nat.lt_of_lt_of_le hB1 hW2.size
      have hd2 : ((markedC c k j).set j (((z0 : Nat) : Int) % 3 == 0, marks (z0 + 1) xl.length, xr)).getD j lt0 = (((z0 : Nat) : Int) % 3 == 0, marks (z0 + 1) xl.length, xr) := by simp [List.getD, hl, hlt]
      have hfeed := hR2.ins.feed (2*j+1) u2 (rowsC_get zs1 j _ hg1).2
      rw [(flatC_get _ j).2, hd2] at hfeed
      have HD := Lib.hid (markIntS_z _ _ u2 xr (((z0 + 1 + xl.length : Nat) : Int)) (z0 + 1 + xl.length) _ rfl (by omega) (by omega) hfeed)
      have HK2 := Lib.hid (And.intro hR2 (And.intro hg1 (And.intro hd2 (And.intro hsucc (And.intro hst (And.intro hl (And.intro hwd ((hW1.trans hW2)))))))))
      clear HK HC hR1 hR2 hg1 hd1 hd2 hsucc hst hl hwd hW1 hW2 hfeed hom hch hs1 hB1
      go_wp2_with fail
      refine HD.out.mono ?_; rintro e w2 ⟨rfl, hch, hom⟩
      obtain ⟨hR2, hg1, hd2, hsucc, hst, hl, hwd, hW⟩ := HK2.out
      have hst2 := hR2.right (w' := w2) hB2 j _ hg1 (marks (z0 + 1 + xl.length) xr.length) (by rw [hd2, marks_len]) (by rw [hd2]; exact hch) (by rw [hd2]; exact hom)
      rw [hd2, set_twice] at hst2
      obtain ⟨hR3, hW3⟩ := hst2
      rw [HDEC.out, show (decide (z0 % 3 = 0), marks (z0 + 1) xl.length, marks (z0 + 1 + xl.length) xr.length) = mark1 z0 (p, xl, xr) from rfl, hsucc] at hR3
      have hl3 := markedC_len c k (j+1) (by omega)
      have hown := hR3.own (k := cap) (by rw [hl3]; omega) hml
      rw [hl3] at hown
      have HO := Lib.hid (And.intro hown (And.intro (HB2.out.trans (hW.trans hW3)) (And.intro hst hwd)))
      clear hR2 hR3 hg1 hd2 hsucc hst hl hwd hW hW3 hch hom hown HK2 HD HB2
      go_wp2_with fail
      go_roundw
      case rel =>
        obtain ⟨h1, h2, h3, h4⟩ := HO.out
        exact ⟨j+1, by omega, by go_num, by rw [h3, h4, ← Nat.add_assoc, hz0]; exact congrArg (Value.int .i64) (by omega), h1, h2⟩
      case measure => simp [intOf]; omega
    · rw [markedC_all c k j hlt] at ho
      rw [sumC_all c j hlt]
      go_wp2_with fail
      go_ret
      exact ⟨rfl, hb, ho⟩

end Go.Proofs.Yteegjnobmbcjiaa
end
section
/- The laws' helpers over slices of clauses: marks. -/
namespace Go.Proofs.Yteegjnobmbcjiaa
open Go.RowKit

theorem SlCs.chg {lo hi lo' hi' w w' v cs} (h : SlCs lo hi w v cs) (k : Chg lo' hi' w w') (hd : hi ≤ lo' ∨ hi' ≤ lo) : SlCs lo hi w' v cs := by
  obtain ⟨ad, cap, rfl, hc, hm, hr⟩ := h
  refine ⟨ad, cap, rfl, hc, hm, fun hp => ?_⟩
  obtain ⟨b, off, e, a1, a2, a3⟩ := hr hp
  refine ⟨b, off, e, a1, a2, fun j hj => ?_⟩
  obtain ⟨u, h1, h2⟩ := a3 j hj
  exact ⟨u, k.cell (World.block_lt_of_cell? w ⟨b, off + j, none⟩ h1) (by omega) h1, h2.chg k hd⟩
def RetMCs (lo hi : Nat) (w : World) (cs : List (List Lt)) (k : Nat) (e : Ending) (w' : World) : Prop := e = .returned (.int .i64 ((k + sumCs cs : Nat) : Int)) ∧ Chg lo hi w w' ∧ True
theorem ownsRow_far {w w' : World} {base e s n : Nat} {v : Value} {xs : List Value} (h : w.ownsRow base e s v n xs) {l' h' : Nat} (k : Chg l' h' w w') (hd : ∀ g, v.ownBlock = some g → g < l' ∨ h' ≤ g) : w'.ownsRow base e s v n xs := by
  have h0 := h
  obtain ⟨q1, q0 | ⟨g, cap, cur, e1, e2, hh, r⟩⟩ := h
  · exact ⟨q1, .inl q0⟩
  · have hb : v.ownBlock = some g := by rw [e1]; rfl
    exact ⟨q1, .inr ⟨g, cap, cur, e1, e2, by rw [k.block g (own_lt h0 hb).2 (hd g hb)]; exact hh, r⟩⟩

end Go.Proofs.Yteegjnobmbcjiaa
end
section
/- The draws of worlds and assignments. -/
namespace Go.Proofs.Yteegjnobmbcjiaa
open Go.RowKit

theorem LF_setNew {b n k d : Nat} {w w' : World} (h : Rl.LF b n k d w w') {p : Addr} (hp : w.heap.size ≤ p.block) (hb : b < w.heap.size) (u : Value) : Rl.LF b n k d w (w'.setCell p u) := by
  obtain ⟨k', h1, h2, h3, h4⟩ := h
  exact ⟨k', h1, h2, h3.chg (Chg.set (lo := p.block) (hi := p.block + 1) w' (Nat.le_refl _) (Nat.lt_succ_self _) u) (by omega), h4.setNew hp u⟩
theorem LF_bel {b n k d : Nat} {w w' w2 : World} (h : Rl.LF b n k d w w') (hb : Bel w' w2) : Rl.LF b n k d w w2 := by
  obtain ⟨k', h1, h2, h3, h4⟩ := h
  exact ⟨k', h1, h2, h3.below hb, h4.trans (Chg.of_bel hb)⟩
theorem LF_mono {b n k d d' : Nat} {w w' : World} (h : Rl.LF b n k d w w') (hd : d ≤ d') : Rl.LF b n k d' w w' := by
  obtain ⟨k', h1, h2, h3, h4⟩ := h
  exact ⟨k', h1, by omega, h3, h4⟩
theorem LF_step {b n k d d' k1 k2 : Nat} {w w' w2 : World} (h : Rl.LF b n k d w w') (h0 : k ≤ k1) (h1 : k1 ≤ k + d) (h2 : k1 ≤ k2) (h3 : k2 ≤ k1 + d') (hc : Cur b n k2 w2) (hg : Chg b (b+1) w' w2) : Rl.LF b n k (d + d') w w2 := by
  obtain ⟨k', _, _, _, h7⟩ := h
  exact ⟨k2, by omega, by omega, hc, h7.trans hg⟩
theorem LF_grown {b n k d : Nat} {w w' w2 : World} {r : Option Nat} (h : Rl.LF b n k d w w') (hg : w'.grownBy w2 r) (hr : ∀ q, r = some q → w.heap.size ≤ q) (hb : b < w.heap.size) : Rl.LF b n k d w w2 := by
  obtain ⟨k', h1, h2, h3, h4⟩ := h
  have hz := h4.size
  have hbl : ∀ q, q < w'.heap.size → q ≠ b → (some q = r → False) → w2.heap[q]? = w'.heap[q]? := fun q h5 _ h7 => hg.block q h5 h7
  have hbb : w2.heap[b]? = w'.heap[b]? := hg.block b (by omega) (fun e => by have := hr b e.symm; omega)
  have hB : Bel w (w.drew) := Bel.drew0 w
  refine ⟨k', h1, h2, ?_, ?_⟩
  · obtain ⟨code, seed, c0, c1, c2, c3, c4, c5⟩ := h3
    have e := fun j => World.cell?_of_block (w := w') (w' := w2) (a := ⟨b, j, none⟩) hbb
    have f := fun j => World.frozen?_of_block (w := w') (w' := w2) (a := ⟨b, j, none⟩) hbb
    refine ⟨code, seed, Nat.lt_of_lt_of_le c0 hg.size, ?_, (e 0).trans c2, (e 1).trans c3, (e 2).trans c4, fun j => (f j).trans (c5 j)⟩
    obtain ⟨ad, cap, e1, e2, e3⟩ := c1
    exact ⟨ad, cap, e1, e2, fun hp => by
      obtain ⟨q, off, h5, h6, h7⟩ := e3 hp
      exact ⟨q, off, h5, h6, fun j hj => by
        obtain ⟨x, hx, hcell⟩ := h7 j hj
        exact ⟨x, hx, hg.cell hcell (fun e => by have := hr q e.symm; omega)⟩⟩⟩
  · exact ⟨hg.os.trans h4.os, hg.tape.trans h4.tape, hg.output.trans h4.output, Nat.le_trans h4.size hg.size, fun q hq hd => (hg.block q (by omega) (fun e => by have := hr q e.symm; omega)).trans (h4.block q hq hd)⟩

theorem RowO.chg {base b : Nat} {w w' : World} {v : Value} {xss : List (List Int)} (h : RowO base w v xss) (hb : Chg b (b+1) w w') (hbb : b < base) : RowO base w' v xss := by
  obtain ⟨us, bs, ho, hi⟩ := h
  have hlt := ho.lt
  refine ⟨us, bs, ownsRow_far ho hb (fun g e => .inr (by have := (hlt g e).1; omega)), ((hi.same (w' := w') fun x h1 _ h3 => hb.block x h3 (by omega)).mono (Nat.le_refl _) hb.size).blk fun j hj hp => ?_⟩
  have hr := hi.rng j hj hp
  unfold rowBlk at hr ⊢
  cases hv : v.ownBlock with
  | none => have := hb.size; simp only [Option.getD_none]; omega
  | some g => rw [hv] at hr; simp only [Option.getD_some] at hr ⊢; exact hr.2.2
theorem RowO.step2 {base b : Nat} {w0 w1 w2 : World} {v u : Value} {xss : List (List Int)} {t : List Int} (h : RowO base w0 v xss) (h1 : Chg b (b+1) w0 w1) (hbs : b < base) (h2 : Bel w1 w2) (ho : OwnI w0.heap.size w1.heap.size w1 u t) (hbase : base ≤ w0.heap.size) :
    ∃ us : List Value, w2.ownsRow base 22 1 v us.length us ∧ us.length = xss.length ∧ ∀ w3 v', w3.ownsRow base 22 1 v' (us.length + 1) (us ++ [u]) → w2.grownBy w3 v.ownBlock → (v'.ownBlock = v.ownBlock ∨ v'.ownBlock = some w2.heap.size) → RowO base w3 v' (xss ++ [t]) := by
  obtain ⟨us, bs, hw, hi⟩ := h
  have hlt := hw.lt
  have hz1 := h1.size
  have hz2 := h2.size
  refine ⟨us, ownsRow_bel (ownsRow_far hw h1 (fun g e => .inr (by have := (hlt g e).1; omega))) h2, hi.len, fun w3 v' hown hg hat => ?_⟩
  have hz3 := hg.size
  obtain ⟨b', hb'⟩ : ∃ b', v'.ownBlock = some b' := by
    rcases hown.2 with ⟨_, hn⟩ | ⟨g, cap, cur, rfl, _⟩
    · omega
    · exact ⟨g, by simp [Value.ownBlock]⟩
  have hrb : rowBlk w3 v' = b' := by unfold rowBlk; rw [hb']; rfl
  have hi2 := (hi.same (w' := w1) fun x h1' _ h3 => h1.block x h3 (by omega)).below h2
  have hi3 : Ins base w0.heap.size (rowBlk w0 v) w3 us xss bs := by
    refine hi2.but fun x hx _ hxl hx2 => hg.block x hx2 fun e => hx ?_
    unfold rowBlk; rw [← e]; rfl
  have hne : ∀ j, j < xss.length → 0 < (xss.getD j []).length → bs j ≠ b' := by
    intro j hj hp
    have hr := hi.rng j hj hp
    rcases hat with e | e
    · unfold rowBlk at hr; rw [← e, hb'] at hr; exact hr.2.2
    · rw [hb'] at e; simp at e; omega
  have hbb : b' < w0.heap.size ∨ w2.heap.size ≤ b' := by
    rcases hat with e | e
    · rw [hb'] at e; exact .inl (hlt b' e.symm).2
    · rw [hb'] at e; simp at e; exact .inr (by omega)
  have ho3 : OwnI w0.heap.size w1.heap.size w3 u t := (ho.below h2).same fun x hx1 hx2 hx3 => hg.block x hx3 fun e => by have := (hlt x e.symm).2; omega
  obtain ⟨bs', hf⟩ := (hi3.blk hne).snoc ho3 (Nat.le_refl _) hbase (by omega) (hi2 := w3.heap.size) (by omega) (by omega)
  refine ⟨us ++ [u], bs', by simpa using hown, ?_⟩
  rw [hrb]
  exact hf

theorem own_formq {w : World} {base e s n : Nat} {v : Value} {xs : List Value} (h : w.ownsRow base e s v n xs) : ∃ ad c, v = .slice ad n c := by
  rcases h.2 with ⟨rfl, h0⟩ | ⟨g, cap, cur, rfl, hg, _⟩
  · exact ⟨none, 0, by rw [h0]⟩
  · exact ⟨_, _, rfl⟩
def RetDE (b n k d : Nat) (w : World) (e : Ending) (w' : World) : Prop :=
  ∃ (ad : Option Addr) (c : Nat) (env : List Int), e = .returned (.slice ad env.length c) ∧ SlI w.heap.size w'.heap.size w' (.slice ad env.length c) env ∧ env.length = 12 ∧ Rl.LF b n k d w w'
theorem l1Most_z (a b : Nat) (z : Int) (w : World) (hz : z = a) : Calls Try.prog 140 #[.int .i64 z, .int .i64 b] w (RetV w (.int .i64 ((max a b : Nat) : Int))) := by subst hz; exact l1Most_c a b w

set_option maxRecDepth 100000 in
set_option maxHeartbeats 1000000 in
theorem env_c (b n k Z : Nat) (tv : Value) (w : World) (hn : n ≤ 1099511627776) (hk : k ≤ 100000000000) (hZ : Z ≤ 10) (hc : Cur b n k w) :
    Calls Try.prog 94 #[.pointer (some ⟨b, 0, none⟩), .agg #[.int .i64 (Z : Int), tv]] w (RetDE b n k 30 w) := by
  obtain ⟨i0, hi0, hz0, hz1, hz2⟩ := info_parts Try.info3
  have hbl := hc.lt
  have hB := Bel.alloc0 w (.cells #[.int .i64 (Z : Int), tv] 58)
  have hL0 : Rl.LF b n k 0 w (w.alloc (.cells #[.int .i64 (Z : Int), tv] 58)) := ⟨k, Nat.le_refl _, by omega, hc.below hB, Chg.of_bel hB⟩
  have hbox0 : (w.alloc (.cells #[.int .i64 (Z : Int), tv] 58)).cell? ⟨w.heap.size, 0, none⟩ = some (.int .i64 (Z : Int)) := by rw [World.cell?_alloc_new w]; rfl
  have hs0 : (w.alloc (.cells #[.int .i64 (Z : Int), tv] 58)).heap.size = w.heap.size + 1 := by simp
  generalize hW : w.alloc (.cells #[.int .i64 (Z : Int), tv] 58) = W0 at *
  go_enter Try.func94, Try.ntmps94
  go_wp2_with fail
  go_loopw [5, 6] (fun o i wr => ∃ (m : Nat) (env : List Int), m ≤ 12 ∧ i = .int .i64 m ∧ wr.ownsRow (w.heap.size + 1) 3 1 o env.length (env.map (Value.int .i64)) ∧ env.length = m ∧ wr.cell? ⟨w.heap.size, 0, none⟩ = some (.int .i64 (Z : Int)) ∧ w.heap.size + 1 ≤ wr.heap.size ∧ Rl.LF b n k (2 * m) w wr) (fun _ i _ => 12 - (intOf i).toNat)
  case atStart => exact ⟨0, [], by omega, rfl, World.ownsRow_nil _ _ _ _, rfl, hbox0, by omega, hL0⟩
  case round =>
    obtain ⟨m, env, hm, rfl, hown, hel, hbox, hbig, hlf⟩ := hrel
    by_cases hlt : m < 12
    · have hd : decide ((m : Int) < 12) = true := decide_eq_true (by omega)
      obtain ⟨k1, f1, f2, f3, f4⟩ := hlf
      have HP := Lib.hid (fun (w' : World) (hb : Bel wr w') => pick_c b n k1 (max 1 Z : Nat) (max 1 Z) w' rfl hn (by omega) (by omega) (f3.below hb))
      go_wp2_with fail
      refine (l1Most_z 1 Z _ _ rfl).mono ?_; rintro e w2 ⟨rfl, hb2⟩
      go_wp2_with fail
      refine (HP.out _ hb2).mono ?_; rintro e w3 ⟨x, k2, rfl, hx, g1, g2, g3, g4⟩
      have hlf3 := LF_step (d' := 2) (⟨k1, f1, f2, f3.below hb2, f4.trans (Chg.of_bel hb2)⟩ : Rl.LF b n k (2 * m) w w2) f1 f2 g1 g2 g3 g4
      have hown3 := ownsRow_far (ownsRow_bel hown hb2) g4 (fun q e => .inr (by have := own_base hown q e; omega))
      have hbx2 := hb2.at (b := w.heap.size) (by omega) hbox
      have hbox3 := g4.cell (b := w.heap.size) (by have := hb2.size; omega) (by omega) hbx2
      have hz2' := hb2.size
      have hz3' := g4.size
      have hbig3 : w.heap.size + 1 ≤ w3.heap.size := by omega
      have hob := own_base hown3
      clear hown hbox hb2 f3 f4 g3 g4 HP hx
      go_wp2_with (at_builtin; refine wpList_append_own _ rfl _ _ 22 rfl (w.heap.size + 1) 3 i0 (.int .i64 0) 1 8 Try.underlying22 hi0 hz0 hz1 hz2 rfl (by decide) _ _ _ rfl (hown3.alloc _) ⟨w3.heap.size, 0, none⟩ 1 1 [.int .i64 x] rfl rfl (news_one _ _ _) (one_int _) (by unfold maxLen; omega) (by omega) (by simp; omega) ?_; intro v' w4 hown' hgrow _)
      have hown4 : w4.ownsRow (w.heap.size + 1) 3 1 v' (env ++ [(x : Int)]).length ((env ++ [(x : Int)]).map (Value.int .i64)) := by simpa using hown'
      have hlf4 := LF_grown (LF_bel hlf3 (Bel.alloc0 w3 (.cells #[.int .i64 x] 3))) hgrow (fun q e => by have := hob q e; omega) hbl
      have hbox4 := hgrow.cell ((Bel.alloc0 w3 (.cells #[.int .i64 x] 3)).at (b := w.heap.size) (by omega) hbox3) (fun e => by have := hob _ e.symm; simp at this; omega)
      have hz4 := hgrow.size
      simp only [World.size_alloc] at hz4
      go_roundw
      case rel => exact ⟨m + 1, env ++ [(x : Int)], by omega, by go_num, hown4, by simp; omega, hbox4, by omega, by rw [show 2 * (m + 1) = 2 * m + 2 by omega]; exact hlf4⟩
      case measure => simp [intOf]; omega
    · obtain rfl : m = 12 := by omega
      have hd : decide ((12 : Int) < 12) = false := by decide
      obtain ⟨k1, f1, f2, f3, f4⟩ := hlf
      have HO := Lib.hid (one_c b n k1 40 40 wr rfl hn (by omega) (by omega) f3)
      go_wp2_with fail
      refine HO.out.mono ?_; rintro e w2 ⟨q, k2, rfl, g1, g2, g3, g4⟩
      have hlf2 := LF_step (d' := 2) (⟨k1, f1, f2, f3, f4⟩ : Rl.LF b n k (2 * 12) w wr) f1 f2 g1 g2 g3 g4
      have hown2 := ownsRow_far hown g4 (fun q e => .inr (by have := own_base hown q e; omega))
      have hbox2 := g4.cell (b := w.heap.size) (by omega) (by omega) hbox
      clear hown hbox HO f3 f4 g3
      cases q with
      | false =>
        have hoi := OwnI.of_row hown2
        obtain ⟨ao, co, rfl⟩ := own_formq hown2
        go_wp2_with fail
        go_ret
        exact ⟨ao, co, env, by rw [hel]; rfl, hoi.sl.mono (by omega) (Nat.le_refl _), hel, LF_mono hlf2 (by omega)⟩
      | true =>
        obtain ⟨ao, co, rfl⟩ := own_formq hown2
        obtain ⟨gg, rfl⟩ : ∃ g, ao = some ⟨g, 0, none⟩ := by
          obtain ⟨_, h0 | ⟨g, _, _, e1, _⟩⟩ := hown2
          · have := h0.2; omega
          · simp only [Value.slice.injEq] at e1; exact ⟨g, e1.1⟩
        have hgb := own_base hown2 gg rfl
        have hst := (hown2.stored 0 (.int .i64 (Z : Int))).1
        have hfz := hown2.frozenAt 0
        have hcl := hown2.cellAt 0 (by simp; omega)
        obtain ⟨x0, hx0⟩ : ∃ x0, (env.map (Value.int .i64))[0]? = some (Value.int .i64 x0) := ⟨env[0]'(by omega), by rw [List.getElem?_map, List.getElem?_eq_getElem (by omega)]; rfl⟩
        rw [hx0] at hcl
        have hset : (env.map (Value.int .i64)).set 0 (.int .i64 (Z : Int)) = (env.set 0 (Z : Int)).map (Value.int .i64) := by rw [List.map_set]
        rw [hset] at hst
        have hoi := OwnI.of_row (xs := env.set 0 (Z : Int)) (by rw [List.length_set]; exact hst)
        have hlf3 := LF_setNew hlf2 (p := ⟨gg, 0, none⟩) (by show w.heap.size ≤ gg; omega) hbl (.int .i64 (Z : Int))
        have hpos : (0 : Int) < env.length := by omega
        clear hst hset hown2
        go_wp2_with fail
        go_ret
        exact ⟨some ⟨gg, 0, none⟩, co, env.set 0 (Z : Int), by rw [List.length_set, hel]; rfl, by rw [List.length_set]; exact (hoi.sl.mono (by omega) (Nat.le_refl _)), by rw [List.length_set]; exact hel, LF_mono hlf3 (by omega)⟩

/-- What stays while the tables are drawn: the size, the signature, the result's cells, the cursor. -/
structure WD (b n k d : Nat) (w : World) (g : Nat) (Z : Int) (sg : Value) (wr : World) : Prop where
  size : wr.cell? ⟨g, 0, none⟩ = some (.int .i64 Z)
  free : ∀ j, wr.frozen? ⟨g, j, none⟩ = false
  sign : wr.cell? ⟨w.heap.size, 0, none⟩ = some sg
  r0 : wr.cell? ⟨w.heap.size + 1, 0, none⟩ = some (.int .i64 0)
  r1 : wr.cell? ⟨w.heap.size + 1, 1, none⟩ = some (.slice none 0 0)
  rf : ∀ j, wr.frozen? ⟨w.heap.size + 1, j, none⟩ = false
  cur : Rl.LF b n k d w wr
  big : g + 1 ≤ wr.heap.size
  low : w.heap.size + 2 ≤ g
  bl : b < w.heap.size
theorem WD.same {b n k d d' : Nat} {w wr w' : World} {g : Nat} {Z : Int} {sg : Value} (h : WD b n k d w g Z sg wr) (hg : ∀ q, w.heap.size ≤ q → q ≤ g → w'.heap[q]? = wr.heap[q]?) (hc : Rl.LF b n k d' w w') (hz : wr.heap.size ≤ w'.heap.size) : WD b n k d' w g Z sg w' := by
  have hl := h.low
  have c := fun (q j : Nat) (h0 : w.heap.size ≤ q) (hbg : q ≤ g) => World.cell?_of_block (w := wr) (w' := w') (a := ⟨q, j, none⟩) (hg q h0 hbg)
  have f := fun (q j : Nat) (h0 : w.heap.size ≤ q) (hbg : q ≤ g) => World.frozen?_of_block (w := wr) (w' := w') (a := ⟨q, j, none⟩) (hg q h0 hbg)
  exact ⟨(c g 0 (by omega) (Nat.le_refl _)).trans h.size, fun j => (f g j (by omega) (Nat.le_refl _)).trans (h.free j), (c _ 0 (by omega) (by omega)).trans h.sign, (c _ 0 (by omega) (by omega)).trans h.r0, (c _ 1 (by omega) (by omega)).trans h.r1, fun j => (f _ j (by omega) (by omega)).trans (h.rf j), hc, Nat.le_trans h.big hz, hl, h.bl⟩
theorem WD.bel {b n k d : Nat} {w wr w' : World} {g : Nat} {Z : Int} {sg : Value} (h : WD b n k d w g Z sg wr) (hb : Bel wr w') : WD b n k d w g Z sg w' :=
  h.same (fun q _ hbg => hb.block q (by have := h.big; omega)) (LF_bel h.cur hb) hb.size
theorem WD.chg {b n k d d' : Nat} {w wr w' : World} {g : Nat} {Z : Int} {sg : Value} (h : WD b n k d w g Z sg wr) {k1 k2 : Nat} (h0 : k ≤ k1) (h1 : k1 ≤ k + d) (h2 : k1 ≤ k2) (h3 : k2 ≤ k1 + d') (hc : Cur b n k2 w') (hg : Chg b (b+1) wr w') : WD b n k (d + d') w g Z sg w' :=
  h.same (fun q h5 hbg => hg.block q (by have := h.big; omega) (by have := h.bl; omega)) (LF_step h.cur h0 h1 h2 h3 hc hg) hg.size
theorem WD.grown {b n k d : Nat} {w wr w' : World} {g : Nat} {Z : Int} {sg : Value} {r : Option Nat} (h : WD b n k d w g Z sg wr) (hg : wr.grownBy w' r) (hr : ∀ q, r = some q → g < q) : WD b n k d w g Z sg w' :=
  h.same (fun q _ hbg => hg.block q (by have := h.big; omega) (fun e => by have := hr q e.symm; omega)) (LF_grown h.cur hg (fun q e => by have := hr q e; have := h.low; omega) h.bl) hg.size
theorem WD.set1 {b n k d : Nat} {w wr : World} {g : Nat} {Z : Int} {sg : Value} (h : WD b n k d w g Z sg wr) (u : Value) : WD b n k d w g Z sg (wr.setCell ⟨g, 1, none⟩ u) := by
  have hl := h.low
  refine ⟨?_, fun j => by rw [World.frozen?_setCell]; exact h.free j, ?_, ?_, ?_, fun j => by rw [World.frozen?_setCell]; exact h.rf j, LF_setNew h.cur (p := ⟨g, 1, none⟩) (by show w.heap.size ≤ g; omega) h.bl u, by rw [World.size_setCell]; exact h.big, hl, h.bl⟩
  · rw [World.cell?_setCell_other (h := by intro e; simp at e)]; exact h.size
  · rw [World.cell?_setCell_other (h := by intro e; simp at e)]; exact h.sign
  · rw [World.cell?_setCell_other (h := by intro e; simp at e)]; exact h.r0
  · rw [World.cell?_setCell_other (h := by intro e; simp at e <;> omega)]; exact h.r1

theorem WD.set0 {b n k d : Nat} {w wr : World} {g : Nat} {Z : Int} {sg : Value} (h : WD b n k d w g Z sg wr) (Z' : Int) : WD b n k d w g Z' sg (wr.setCell ⟨g, 0, none⟩ (.int .i64 Z')) := by
  have hl := h.low
  refine ⟨World.cell?_setCell_same wr _ _ h.size, fun j => by rw [World.frozen?_setCell]; exact h.free j, ?_, ?_, ?_, fun j => by rw [World.frozen?_setCell]; exact h.rf j, LF_setNew h.cur (p := ⟨g, 0, none⟩) (by show w.heap.size ≤ g; omega) h.bl _, by rw [World.size_setCell]; exact h.big, hl, h.bl⟩
  · rw [World.cell?_setCell_other (h := by intro e; simp at e <;> omega)]; exact h.sign
  · rw [World.cell?_setCell_other (h := by intro e; simp at e <;> omega)]; exact h.r0
  · rw [World.cell?_setCell_other (h := by intro e; simp at e)]; exact h.r1
theorem world_end {b n k d : Nat} {w wq : World} {g : Nat} {Z : Int} {sg : Value} {hi : Nat} {sv : Value} {tb : List (List Int)} (h : WD b n k d w g Z sg wq) (hS : SlS (g+1) hi wq sv tb) (u v : Value) :
    ((wq.setCell ⟨w.heap.size + 1, 0, none⟩ u).setCell ⟨w.heap.size + 1, 1, none⟩ v).cell? ⟨w.heap.size + 1, 0, none⟩ = some u ∧ ((wq.setCell ⟨w.heap.size + 1, 0, none⟩ u).setCell ⟨w.heap.size + 1, 1, none⟩ v).cell? ⟨w.heap.size + 1, 1, none⟩ = some v ∧
    Rl.LF b n k d w ((wq.setCell ⟨w.heap.size + 1, 0, none⟩ u).setCell ⟨w.heap.size + 1, 1, none⟩ v) ∧ SlS (g+1) hi ((wq.setCell ⟨w.heap.size + 1, 0, none⟩ u).setCell ⟨w.heap.size + 1, 1, none⟩ v) sv tb := by
  have hl := h.low
  refine ⟨?_, ?_, LF_setNew (LF_setNew h.cur (p := ⟨w.heap.size + 1, 0, none⟩) (by show w.heap.size ≤ _; simp only; omega) h.bl u) (p := ⟨w.heap.size + 1, 1, none⟩) (by show w.heap.size ≤ _; simp only; omega) h.bl v, ?_⟩
  · rw [World.cell?_setCell_other (h := by intro e; simp at e)]; exact World.cell?_setCell_same wq _ _ h.r0
  · exact World.cell?_setCell_same _ _ _ (by rw [World.cell?_setCell_other (h := by intro e; simp at e)]; exact h.r1)
  · exact hS.same fun q hq1 _ _ => by rw [Below.heap_setCell _ _ _ q (by show q ≠ w.heap.size + 1; omega), Below.heap_setCell _ _ _ q (by show q ≠ w.heap.size + 1; omega)]

def RetDW (b n k d : Nat) (w : World) (e : Ending) (w' : World) : Prop :=
  ∃ (ad : Option Addr) (c Z : Nat) (tb : List (List Int)), e = .returned (.agg #[.int .i64 (Z : Int), .slice ad tb.length c]) ∧ SlS w.heap.size w'.heap.size w' (.slice ad tb.length c) tb ∧ tb.length ≤ 6 ∧ (∀ j, (tb.getD j []).length ≤ 27) ∧ 1 ≤ Z ∧ Z ≤ 4 ∧ Rl.LF b n k d w w'

set_option maxRecDepth 100000 in
set_option maxHeartbeats 2000000 in
theorem world_c (b n k l m : Nat) (sv : Value) (ar : List Int) (w : World) (hn : n ≤ 1099511627776) (hk : k ≤ 100000000000) (hdr : drawn ar) (hblo : b < l) (hc : Cur b n k w) (hs : SlI l m w sv ar) :
    Calls Try.prog 93 #[.pointer (some ⟨b, 0, none⟩), .agg #[sv]] w (RetDW b n k 1000 w) := by
  obtain ⟨i0, hi0, hz0, hz1, hz2⟩ := info_parts Try.info3
  obtain ⟨i1, hi1, hy0, hy1, hy2⟩ := info_parts Try.info22
  have hsb : ∀ q o, (∃ a c, sv = .slice a ar.length c ∧ a = some ⟨q, o, none⟩ ∧ 0 < ar.length) → b + 1 ≤ q := fun q o ⟨a, c, e1, e2, hp⟩ => by
    obtain ⟨ad, cap, e, _, _, hr⟩ := hs
    obtain ⟨b', off, e3, h1, _, _⟩ := hr hp
    rw [e1] at e
    simp only [Value.slice.injEq] at e
    rw [← e.1, e2] at e3
    simp only [Option.some.injEq, Addr.mk.injEq] at e3
    omega
  obtain ⟨sa, sc, rfl⟩ := hs.form
  have hal := drawn_len hdr
  have hbl := hc.lt
  have hB2 := Bel.alloc2 w (.cells #[.slice sa ar.length sc] 30) (.cells #[.int .i64 0, .slice none 0 0] 58)
  have HP0 := Lib.hid (pick_c b n k 3 3 _ rfl hn (by omega) (by omega) (hc.below hB2))
  have hbs0 : ((w.alloc (.cells #[.slice sa ar.length sc] 30)).alloc (.cells #[.int .i64 0, .slice none 0 0] 58)).cell? ⟨w.heap.size, 0, none⟩ = some (.slice sa ar.length sc) := (Bel.alloc0 _ _).at (by simp) (by simp [go_sem])
  have hq0 : ((w.alloc (.cells #[.slice sa ar.length sc] 30)).alloc (.cells #[.int .i64 0, .slice none 0 0] 58)).cell? ⟨w.heap.size + 1, 0, none⟩ = some (.int .i64 0) := by simp [go_sem]
  have hq1 : ((w.alloc (.cells #[.slice sa ar.length sc] 30)).alloc (.cells #[.int .i64 0, .slice none 0 0] 58)).cell? ⟨w.heap.size + 1, 1, none⟩ = some (.slice none 0 0) := by simp [go_sem]
  have hqf : ∀ j, ((w.alloc (.cells #[.slice sa ar.length sc] 30)).alloc (.cells #[.int .i64 0, .slice none 0 0] 58)).frozen? ⟨w.heap.size + 1, j, none⟩ = false := fun j => by simp [go_sem]
  have hs2 : ((w.alloc (.cells #[.slice sa ar.length sc] 30)).alloc (.cells #[.int .i64 0, .slice none 0 0] 58)).heap.size = w.heap.size + 2 := by simp
  go_enter Try.func93, Try.ntmps93
  go_wp2_with fail
  refine HP0.out.mono ?_; rintro e w1 ⟨x, k1, rfl, hx, hk1, hk2, hc1, hg1⟩
  clear HP0
  generalize hW0 : (w.alloc (.cells #[.slice sa ar.length sc] 30)).alloc (.cells #[.int .i64 0, .slice none 0 0] 58) = W0 at *
  obtain ⟨Z, hZ⟩ : ∃ Z : Nat, (1 + (x : Int)) = (Z : Int) := ⟨1 + x, by omega⟩
  have hZ1 : 1 ≤ Z ∧ Z ≤ 3 := by omega
  have hz1' := hg1.size
  have hzz : w.heap.size + 2 ≤ w1.heap.size := by omega
  have BW := Bel.alloc0 w1 (.cells #[.int .i64 (1 + (x : Int)), .slice none 0 0] 58)
  have hg1' : Chg b (b+1) w w1 := (Chg.of_bel hB2).trans hg1
  have hfw : ∀ j, w1.frozen? ⟨w.heap.size + 1, j, none⟩ = false := fun j => (World.frozen?_of_block (w := W0) (w' := w1) (a := ⟨w.heap.size + 1, j, none⟩) (hg1.block (w.heap.size + 1) (by omega) (by omega))).trans (hqf j)
  have hWD : WD b n k 2 w w1.heap.size (1 + (x : Int)) (.slice sa ar.length sc) (w1.alloc (.cells #[.int .i64 (1 + (x : Int)), .slice none 0 0] 58)) :=
    ⟨by simp [go_sem], fun j => by simp [go_sem], BW.at (b := w.heap.size) (by omega) (hg1.cell (by omega) (by omega) hbs0), BW.at (b := w.heap.size + 1) (by omega) (hg1.cell (by omega) (by omega) hq0), BW.at (b := w.heap.size + 1) (by omega) (hg1.cell (by omega) (by omega) hq1), fun j => (BW.frozen (p := ⟨w.heap.size + 1, j, none⟩) (by show _ < _; simp only; omega)).trans (hfw j), ⟨k1, hk1, hk2, hc1.below BW, hg1'.trans (Chg.of_bel BW)⟩, by simp, hzz, hbl⟩
  have hT0 : (w1.alloc (.cells #[.int .i64 (1 + (x : Int)), .slice none 0 0] 58)).cell? ⟨w1.heap.size, 1, none⟩ = some (.slice none 0 0) := by simp [go_sem]
  have HW := Lib.hid (And.intro hWD hT0)
  rw [hZ] at HW
  have HZ := Lib.hid hZ
  have hsg := hWD.sign
  have hx3 : (x : Int) < 3 := by omega
  clear hWD hT0 hq0 hq1 hqf hg1 hbs0 hz1' BW hZ hfw hg1' hc1 hx
  have hal2 : ar.length ≤ 1048576 := by omega
  go_wp2_with fail
  go_loopw [17] (fun i wr => ∃ (q : Nat) (o : Value) (tb : List (List Int)), q ≤ ar.length ∧ i = .int .i64 q ∧ WD b n k (2 + 60 * q) w w1.heap.size Z (.slice sa ar.length sc) wr ∧ wr.cell? ⟨w1.heap.size, 1, none⟩ = some o ∧ RowO (w1.heap.size + 1) wr o tb ∧ tb.length = q ∧ ∀ j, (tb.getD j []).length ≤ 27) (fun i _ => ar.length - (intOf i).toNat)
  case atStart => exact ⟨0, _, [], Nat.zero_le _, rfl, by rw [HZ.out]; exact HW.out.1, by rw [HZ.out]; exact HW.out.2, RowO.nil _ _, rfl, fun j => by simp⟩
  case round =>
    clear HW
    obtain ⟨q, o, tb, hq, rfl, hWD, hT, hRow, hlen, hall⟩ := hrel
    by_cases hlt : q < ar.length
    · obtain ⟨bA, oA, rfl, hbA, hcA⟩ := hs.at q hlt
      obtain ⟨ha0, ha3⟩ := drawn_get hdr q
      obtain ⟨An, hAn⟩ : ∃ An : Nat, ar.getD q 0 = (An : Int) := ⟨(ar.getD q 0).toNat, by omega⟩
      rw [hAn] at hcA ha0 ha3
      have hA3 : An ≤ 3 := by omega
      have hqI : (q : Int) < ar.length := by omega
      have hsize := hWD.size
      have hbig := hWD.big
      have hlow := hWD.low
      have hp27 := pow27 hZ1.2 hA3
      obtain ⟨k2, f1, f2, f3, f4⟩ := hWD.cur
      have hcA2 : wr.cell? ⟨bA, oA + q, none⟩ = some (.int .i64 (An : Int)) := f4.cell hbA (.inr (hsb bA oA ⟨_, _, rfl, rfl, by omega⟩)) hcA
      have HWD := Lib.hid (And.intro hWD (And.intro hT (And.intro hRow (And.intro hlen hall))))
      have HLEN := Lib.hid hlen
      clear hWD hT hRow hall ha0 ha3 hcA f4 hlen
      generalize hNN : Z ^ An = N at *
      have HLong := Lib.hid (fun w' => l5Long_c Z An w' hZ1.2 hA3)
      rw [hNN] at HLong
      obtain ⟨wt, hwt⟩ : ∃ wt, wt = wr := ⟨_, rfl⟩
      subst hwt
      go_wp2_with fail
      refine (HLong.out _).mono ?_; rintro e w2 ⟨rfl, hb2⟩
      have hsize2 := hb2.at (b := w1.heap.size) (by omega) hsize
      have f32 := f3.below hb2
      obtain ⟨HW1, hT1, hRow1, hall1⟩ : WD b n k (2 + 60 * q) w w1.heap.size Z (.slice (some ⟨bA, oA, none⟩) ar.length sc) w2 ∧ w2.cell? ⟨w1.heap.size, 1, none⟩ = some o ∧ RowO (w1.heap.size + 1) w2 o tb ∧ ∀ j, (tb.getD j []).length ≤ 27 := ⟨HWD.out.1.bel hb2, hb2.at (b := w1.heap.size) (by omega) HWD.out.2.1, HWD.out.2.2.1.bel hb2, HWD.out.2.2.2.2⟩
      have HWE := Lib.hid (And.intro HW1 (And.intro hT1 (And.intro hRow1 hall1)))
      have hbig2 := HW1.big
      clear HWD HW1 hT1 hRow1 hall1 hsize f3 HLong hb2 hbig
      go_wp2_with fail
      go_loopw [8, 9] (fun o3 cnt wr => ∃ (j : Nat) (env : List Int), j ≤ N ∧ cnt = .int .i64 j ∧ wr.ownsRow w2.heap.size 3 1 o3 env.length (env.map (Value.int .i64)) ∧ env.length = N - j ∧ Rl.LF b n k2 (2 * (N - j)) w2 wr) (fun _ cnt _ => (intOf cnt).toNat)
      case atStart => exact ⟨N, [], Nat.le_refl _, rfl, World.ownsRow_nil _ _ _ _, by simp, ⟨k2, Nat.le_refl _, by omega, f32, Chg.refl _ _ _⟩⟩
      case round =>
        obtain ⟨j, env, hj, rfl, hown, hel, hlf⟩ := hrel
        by_cases hj0 : 0 < j
        · have hd : decide ((0 : Int) < j) = true := decide_eq_true (by omega)
          obtain ⟨k3, g1, g2, g3, g4⟩ := hlf
          have hsz3 := g4.cell (b := w1.heap.size) (by omega) (by omega) hsize2
          have HP := Lib.hid (pick_c b n k3 Z Z wr rfl hn (by omega) (by omega) g3)
          have hgz := g4.size
          go_wp2_with fail
          refine HP.out.mono ?_; rintro e w3 ⟨y, k4, rfl, hy, h1, h2, h3, h4⟩
          have hlf3 := LF_step (d' := 2) (⟨k3, g1, g2, g3, g4⟩ : Rl.LF b n k2 (2 * (N - j)) w2 wr) g1 g2 h1 h2 h3 h4
          have hown3 := ownsRow_far hown h4 (fun q e => .inr (by have := own_base hown q e; omega))
          have hob := own_base hown3
          have hz3 := h4.size
          clear hown HP g3 g4 h3 h4 hy
          go_wp2_with (at_builtin; refine wpList_append_own _ rfl _ _ 22 rfl w2.heap.size 3 i0 (.int .i64 0) 1 8 Try.underlying22 hi0 hz0 hz1 hz2 rfl (by decide) _ _ _ rfl (hown3.alloc _) ⟨w3.heap.size, 0, none⟩ 1 1 [.int .i64 y] rfl rfl (news_one _ _ _) (one_int _) (by unfold maxLen; omega) (by omega) (by simp; omega) ?_; intro v' w4 hown' hgrow _)
          have hown4 : w4.ownsRow w2.heap.size 3 1 v' (env ++ [(y : Int)]).length ((env ++ [(y : Int)]).map (Value.int .i64)) := by simpa using hown'
          have hlf4 := LF_grown (LF_bel hlf3 (Bel.alloc0 w3 (.cells #[.int .i64 y] 3))) hgrow (fun q e => by have := hob q e; omega) (by omega)
          go_roundw
          case rel => exact ⟨j - 1, env ++ [(y : Int)], by omega, by simp; omega, hown4, by simp; omega, LF_mono hlf4 (by omega)⟩
          case measure => simp [intOf]; omega
        · obtain rfl : j = 0 := by omega
          have hd : decide ((0 : Int) < 0) = false := by decide
          rw [Nat.sub_zero] at hel hlf
          have hoi := OwnI.of_row hown
          obtain ⟨ao, no, co, rfl⟩ := own_form hown
          obtain ⟨k3, g1, g2, g3, g4⟩ := hlf
          obtain ⟨hWD, hT, hRow, hall⟩ := HWE.out
          have hT2 := g4.cell (b := w1.heap.size) (by omega) (by omega) hT
          have hWD2 : WD b n k (2 + 60 * q + 54) w w1.heap.size Z (.slice (some ⟨bA, oA, none⟩) ar.length sc) wr := hWD.chg f1 f2 g1 (by omega) g3 g4
          obtain ⟨ot, oc, rfl⟩ := hRow.form
          have hAl := Bel.alloc0 wr (.cells #[.slice ao no co] 22)
          obtain ⟨us, hown2, hul, hnext⟩ := hRow.step2 g4 (by omega) hAl hoi hbig2
          have hWD3 := hWD2.bel hAl
          have HN := Lib.hid hnext
          have HX := Lib.hid (And.intro hWD3 hall)
          have hfr := hWD2.free 1
          have hul2 : us.length ≤ 6 := by have := HLEN.out; omega
          have hob := own_base hown2
          have hz5 : w1.heap.size + 1 ≤ (wr.alloc (.cells #[.slice ao no co] 22)).heap.size := hWD3.big
          clear hnext hown hoi hWD hRow hall hWD2 hWD3 HWE g3 g4 hT
          go_wp2_with (at_builtin; refine wpList_append_own_at _ rfl _ _ 56 rfl (w1.heap.size + 1) 22 i1 (.slice none 0 0) 1 24 Try.underlying56 hi1 hy0 hy1 hy2 rfl (by decide) _ _ _ rfl hown2 _ _ _ [.slice ao no co] rfl rfl (news_oneV _ _ _) (one_slice _ _ _) (by unfold maxLen; omega) (by omega) hz5 ?_; intro v' w4 hown' hgrow _ hat; have hRow4 := HN.out w4 v' hown' hgrow hat; obtain ⟨ov, kv, rfl⟩ := hRow4.form; have hWD4 := HX.out.1.grown hgrow (fun q hq => by have := hob q hq; omega); have hT4 : w4.cell? ⟨w1.heap.size, 1, none⟩ = some (.slice ot tb.length oc) := hgrow.cell (hAl.at (World.block_lt_of_cell? _ ⟨_, _, none⟩ hT2) hT2) (fun e => by have := hob _ e.symm; simp at this; omega); have hf4 := hWD4.free 1)
          have hl5 : (tb ++ [env]).length = tb.length + 1 := by simp
          rw [hl5] at hRow4
          go_roundw
          case rel =>
            refine ⟨q + 1, .slice ov (tb.length + 1) kv, tb ++ [env], by omega, by go_num, ?_, World.cell?_setCell_same w4 ⟨w1.heap.size, 1, none⟩ _ hT4, hRow4.low (by show w1.heap.size < w1.heap.size + 1; omega) _, by have := HLEN.out; omega, fun j => ?_⟩
            · have h9 := hWD4.set1 (.slice ov (tb.length + 1) kv)
              exact h9.same (fun _ _ _ => rfl) (LF_mono h9.cur (by omega)) (Nat.le_refl _)
            · by_cases hjk : j < tb.length
              · have e : (tb ++ [env]).getD j [] = tb.getD j [] := by simp only [List.getD_eq_getElem?_getD]; rw [List.getElem?_append_left (by omega)]
                rw [e]; exact HX.out.2 j
              · by_cases hje : j = tb.length
                · subst hje
                  have e : (tb ++ [env]).getD tb.length [] = env := by simp
                  rw [e, hel]; exact hp27
                · have e : (tb ++ [env]).getD j [] = [] := by rw [List.getD_eq_getElem?_getD, List.getElem?_eq_none (by simp; omega)]; rfl
                  rw [e]; exact Nat.zero_le _
          case measure => simp [intOf]; omega
    · obtain rfl : q = ar.length := by omega
      have hd : decide ((ar.length : Int) < ar.length) = false := by simp
      have hOS := hRow.own.sl
      obtain ⟨ot, oc, rfl⟩ := hRow.form
      obtain ⟨k2, f1, f2, f3, f4⟩ := hWD.cur
      have HP := Lib.hid (pick_c b n k2 40 40 wr rfl hn (by omega) (by omega) f3)
      have hbig := hWD.big
      have hlow := hWD.low
      have HLEN := Lib.hid hlen
      clear hRow f3 f4 hB2 hlen
      go_wp2_with fail
      refine HP.out.mono ?_; rintro e w3 ⟨y, k4, rfl, hy, h1, h2, h3, h4⟩
      have hWD3 := hWD.chg (d' := 2) f1 f2 h1 h2 h3 h4
      have hT3 := h4.cell (b := w1.heap.size) (by omega) (by omega) hT
      have hOS3 := (hOS.chg h4 (by omega)).mono (Nat.le_refl _) h4.size
      have hy3 := hWD3.size
      have hr0 := hWD3.r0
      have hr1 := hWD3.r1
      have hg0 := hWD3.free 0
      have hg1 := hWD3.free 1
      have hrf0 := hWD3.rf 0
      have hrf1 := hWD3.rf 1
      have HX := Lib.hid (And.intro hWD3 (And.intro hOS3 hall))
      have hzL : w1.heap.size + 1 ≤ w3.heap.size := hWD3.big
      have hw5 := IntWalk.i64_in ((Z : Int) + 1) (by omega)
      clear hWD hWD3 hOS hOS3 hT h3 h4 HP hall
      by_cases hy0 : y = 0
      · subst hy0
        have hd0 : (((0 : Nat) : Int) == 0) = true := rfl
        obtain ⟨c0, c1, hLF, hSS⟩ := world_end (HX.out.1.set0 ((Z : Int) + 1)) (HX.out.2.1.same fun q hq1 _ _ => Below.heap_setCell _ ⟨w1.heap.size, 0, none⟩ _ q (by show q ≠ w1.heap.size; omega)) (.int .i64 ((Z : Int) + 1)) (.slice ot tb.length oc)
        go_wp2_with fail
        refine bodyPost_ret (v := .agg #[.int .i64 ((Z : Int) + 1), .slice ot tb.length oc]) (by simp [results, Try.results93, go_sem, c0, c1]) rfl ⟨ot, oc, Z + 1, tb, rfl, hSS.mono (by omega) (by simp), by have := HLEN.out; omega, HX.out.2.2, by omega, by omega, LF_mono hLF (by omega)⟩
      · by_cases hy1 : y = 1
        · subst hy1
          have hd0 : (((1 : Nat) : Int) == 0) = false := rfl
          have hd1 : (((1 : Nat) : Int) == 1) = true := rfl
          obtain ⟨c0, c1, hLF, hSS⟩ := world_end (HX.out.1.set1 (.slice none 0 0)) (SlS.nil (w1.heap.size + 1) w3.heap.size _) (.int .i64 (Z : Int)) (.slice none 0 0)
          go_wp2_with fail
          refine bodyPost_ret (v := .agg #[.int .i64 (Z : Int), .slice none 0 0]) (by simp [results, Try.results93, go_sem, c0, c1]) rfl ⟨none, 0, Z, [], rfl, hSS.mono (by omega) (by simp), by simp, fun j => by simp, by omega, by omega, LF_mono hLF (by omega)⟩
        · have hd0 : ((y : Int) == 0) = false := beq_eq_false_iff_ne.2 (by omega)
          have hd1 : ((y : Int) == 1) = false := beq_eq_false_iff_ne.2 (by omega)
          obtain ⟨c0, c1, hLF, hSS⟩ := world_end HX.out.1 HX.out.2.1 (.int .i64 (Z : Int)) (.slice ot tb.length oc)
          go_wp2_with fail
          refine bodyPost_ret (v := .agg #[.int .i64 (Z : Int), .slice ot tb.length oc]) (by simp [results, Try.results93, go_sem, c0, c1]) rfl ⟨ot, oc, Z, tb, rfl, hSS.mono (by omega) (by simp), by have := HLEN.out; omega, HX.out.2.2, by omega, by omega, LF_mono hLF (by omega)⟩
end Go.Proofs.Yteegjnobmbcjiaa
end
section
/- A literal of the draws. -/
namespace Go.Proofs.Yteegjnobmbcjiaa
open Go.RowKit

theorem Rl.slOther {lo hi : Nat} {w : World} {v : Value} {xs : List Int} (h : SlI lo hi w v xs) {p : Addr} {x : Value} (hp : w.cell? p = some x) (hx : ∀ n, x ≠ .int .i64 n) (u : Value) : SlI lo hi (w.setCell p u) v xs := by
  obtain ⟨ad, cap, rfl, hc, hm, hr⟩ := h
  refine ⟨ad, cap, rfl, hc, hm, fun hpos => ?_⟩
  obtain ⟨b, off, e, a1, a2, a3⟩ := hr hpos
  refine ⟨b, off, e, a1, a2, fun j hj => ?_⟩
  have hne : p ≠ ⟨b, off + j, none⟩ := fun h => by
    have := a3 j hj
    rw [← h, hp] at this
    exact hx _ (Option.some.inj this)
  rw [World.cell?_setCell_other (h := hne)]
  exact a3 j hj
theorem Rl.TF.other {w0 w : World} {v : Value} {t : List Int} (h : Rl.TF w0 w v t) {p : Addr} {x : Value} (hp : w.cell? p = some x) (hx : ∀ n, x ≠ .int .i64 n) (u : Value) : Rl.TF w0 (w.setCell p u) v t := by
  obtain ⟨⟨c, h1, h2, h3⟩, h4⟩ := h
  exact ⟨⟨c, h1, by rw [World.size_setCell]; exact h2, Rl.slOther h3 hp hx u⟩, h4⟩
theorem Rl.TF.box {w0 w : World} {v : Value} {t : List Int} (h : Rl.TF w0 w v t) {g : Nat} {p : Bool} {n1 n2 c1 c2 : Nat} {a1 a2 : Option Addr} (z : Rl.Lb w g (.bool p) (.slice a1 n1 c1) (.slice a2 n2 c2)) (q : Bool) (b1 b2 : Value) :
    Rl.TF w0 (((w.setCell ⟨g, 0, none⟩ (.bool q)).setCell ⟨g, 1, none⟩ b1).setCell ⟨g, 2, none⟩ b2) v t := by
  obtain ⟨⟨q0, q1, q2⟩, q3⟩ := z
  refine ((h.other q0 (fun n => by simp) _).other (p := ⟨g, 1, none⟩) (x := .slice a1 n1 c1) (by simp [go_sem, q1]) (fun n => by simp) _).other (p := ⟨g, 2, none⟩) (x := .slice a2 n2 c2) (by simp [go_sem, q2]) (fun n => by simp) _
theorem Rl.LF.set {b n k d : Nat} {w0 w : World} (h : Rl.LF b n k d w0 w) {p : Addr} (hp : w0.heap.size ≤ p.block) (hb : b < w0.heap.size) (u : Value) : Rl.LF b n k d w0 (w.setCell p u) := by
  obtain ⟨k', h1, h2, h3, h4⟩ := h
  exact ⟨k', h1, h2, h3.chg (Chg.set (lo := p.block) (hi := p.block + 1) w (Nat.le_refl _) (Nat.lt_succ_self _) u) (by omega), Chg.setNew h4 hp u⟩
theorem Rl.LF.trans {b n k d d' : Nat} {w0 w w' : World} (h : Rl.LF b n k d w0 w) (hc : ∀ k', k ≤ k' → k' ≤ k + d → Cur b n k' w → ∃ k2, k' ≤ k2 ∧ k2 ≤ k' + d' ∧ Cur b n k2 w') (hg : Chg b (b+1) w w') : Rl.LF b n k (d + d') w0 w' := by
  obtain ⟨k', h1, h2, h3, h4⟩ := h
  obtain ⟨k2, g1, g2, g3⟩ := hc k' h1 h2 h3
  exact ⟨k2, by omega, by omega, g3, h4.trans hg⟩
theorem Rl.LF.ofBel {b n k d : Nat} {w0 w1 w : World} (h : Rl.LF b n k d w1 w) (hb : Bel w0 w1) : Rl.LF b n k d w0 w := by
  obtain ⟨k', h1, h2, h3, h4⟩ := h
  exact ⟨k', h1, h2, h3, (Chg.of_bel hb).trans h4⟩
theorem Rl.TF.ofBel {w0 w1 w : World} {v : Value} {t : List Int} (h : Rl.TF w1 w v t) (hb : Bel w0 w1) : Rl.TF w0 w v t := by
  obtain ⟨⟨c, h1, h2⟩, h3⟩ := h
  have := hb.size
  exact ⟨⟨c, by omega, h2⟩, h3⟩
/-- A literal of the draws: two terms, each in a block of its own that is new. -/
def RetLt (b n k d : Nat) (w : World) (e : Ending) (w' : World) : Prop :=
  ∃ (p : Bool) (v1 v2 : Value) (t1 t2 : List Int), e = .returned (.agg #[.bool p, v1, v2]) ∧ Rl.TF w w' v1 t1 ∧ Rl.TF w w' v2 t2 ∧ Rl.LF b n k d w w'

set_option maxRecDepth 100000 in
set_option maxHeartbeats 1000000 in
theorem lit_c (b n k lo hi : Nat) (v : Value) (ar : List Int) (w : World) (hn : n ≤ 1099511627776) (hk : k ≤ 200000000000) (hdr : drawn ar) (hblo : b < lo) (hc : Cur b n k w) (hv : SlI lo hi w v ar) :
    Calls Try.prog 143 #[.pointer (some ⟨b, 0, none⟩), .agg #[v]] w (RetLt b n k 8100 w) := by
  have hbl := hc.lt
  have B2 : Bel w ((w.alloc (.cells #[v] 30)).alloc (.cells #[.bool false, .slice none 0 0, .slice none 0 0] 91)) := Bel.alloc2 _ _ _
  have BD : Bel w ((w.alloc (.cells #[v] 30)).alloc (.cells #[.bool false, .slice none 0 0, .slice none 0 0] 91)).drew := B2.drew
  have EZ : Hid (((w.alloc (.cells #[v] 30)).alloc (.cells #[.bool false, .slice none 0 0, .slice none 0 0] 91)).drew.heap.size = w.heap.size + 2) := by show _ = _; simp
  have hbx : ((w.alloc (.cells #[v] 30)).alloc (.cells #[.bool false, .slice none 0 0, .slice none 0 0] 91)).drew.cell? ⟨w.heap.size, 0, none⟩ = some v := (Bel.drew0 _).at (by simp; omega) ((Bel.alloc0 _ _).at (by simp) (by simp [go_sem]))
  have HS := Lib.hid (fun (w' : World) (hg : Chg b (b+1) ((w.alloc (.cells #[v] 30)).alloc (.cells #[.bool false, .slice none 0 0, .slice none 0 0] 91)).drew w') => hg.cell (by have := EZ.out; omega) (.inr (by omega)) hbx)
  have hres : Rl.Zb ((w.alloc (.cells #[v] 30)).alloc (.cells #[.bool false, .slice none 0 0, .slice none 0 0] 91)).drew (w.heap.size + 1) := (by have := Rl.Lb.new (w.alloc (.cells #[v] 30)) 91; rw [World.size_alloc] at this; exact this.bel (Bel.drew0 _))
  have hl0 : Rl.LF b n k 0 ((w.alloc (.cells #[v] 30)).alloc (.cells #[.bool false, .slice none 0 0, .slice none 0 0] 91)).drew ((w.alloc (.cells #[v] 30)).alloc (.cells #[.bool false, .slice none 0 0, .slice none 0 0] 91)).drew := ⟨k, Nat.le_refl _, by omega, hc.below BD, Chg.refl _ _ _⟩
  have hvD := hv.below BD
  have hbD : b < ((w.alloc (.cells #[v] 30)).alloc (.cells #[.bool false, .slice none 0 0, .slice none 0 0] 91)).drew.heap.size := by have := EZ.out; omega
  have HL := Lib.hid (And.intro (And.intro hres hl0) (And.intro hvD hbD))
  clear hres hl0 hvD hbD hv hc
  go_enter Try.func143, Try.ntmps143
  go_wp2_with fail
  refine wp_region_held_drew (S := fun w' => w'.cell? ⟨w.heap.size, 0, none⟩ = some v) (by kernel_rfl) hbx (fun _ => ?_)
  change wpAnyH _ _ _ _ _ 18 #[false, false, false, false, false, false, false, false, false, false, false, false, false, false, false, false, false, false] _ _
  refine wpAnyH_take (i := 0) (oi := ⟨_, _, _, _, _, _⟩) (v := ?v0) rfl (by kernel_rfl) (by kernel_rfl) (by kernel_rfl) (fun _ _ _ h => h) (Or.inl ⟨by rfl, ?hy0⟩) hbx ?rest0
  case hy0 =>
    intro w' hSw
    go_simp
    try with_reducible rfl
  try simp only [Act.put, List.setIfInBounds_toArray, List.set_cons_zero, List.set_cons_succ]
  refine wpAnyH_take (i := 3) (oi := ⟨_, _, _, _, _, _⟩) (v := ?v3) rfl (by kernel_rfl) (by kernel_rfl) (by kernel_rfl) (fun _ _ _ h => h) (Or.inl ⟨by rfl, ?hy3⟩) hbx ?rest3
  case hy3 =>
    intro w' hSw
    go_simp
    try with_reducible rfl
  try simp only [Act.put, List.setIfInBounds_toArray, List.set_cons_zero, List.set_cons_succ]
  refine wpAnyH_take (i := 4) (oi := ⟨_, _, _, _, _, _⟩) (v := ?v4) rfl (by kernel_rfl) (by kernel_rfl) (by kernel_rfl) (fun _ _ _ h => h) (Or.inl ⟨by rfl, ?hy4⟩) hbx ?rest4
  case hy4 =>
    intro w' hSw
    go_simp
    try with_reducible rfl
  try simp only [Act.put, List.setIfInBounds_toArray, List.set_cons_zero, List.set_cons_succ]
  refine wpAnyH_take (i := 5) (oi := ⟨_, _, _, _, _, _⟩) (v := ?v5) rfl (by kernel_rfl) (by kernel_rfl) (by kernel_rfl) (fun _ _ _ h => h) (Or.inl ⟨by rfl, ?hy5⟩) hbx ?rest5
  case hy5 =>
    intro w' hSw
    go_simp
    try with_reducible rfl
  try simp only [Act.put, List.setIfInBounds_toArray, List.set_cons_zero, List.set_cons_succ]
  refine wpAnyH_take (i := 9) (oi := ⟨_, _, _, _, _, _⟩) (v := ?v9) rfl (by kernel_rfl) (by kernel_rfl) (by kernel_rfl) (fun _ _ _ h => h) (Or.inl ⟨by rfl, ?hy9⟩) hbx ?rest9
  case hy9 =>
    intro w' hSw
    go_simp
    try with_reducible rfl
  try simp only [Act.put, List.setIfInBounds_toArray, List.set_cons_zero, List.set_cons_succ]
  refine wpAnyH_take (i := 10) (oi := ⟨_, _, _, _, _, _⟩) (v := ?v10) rfl (by kernel_rfl) (by kernel_rfl) (by kernel_rfl) (fun _ _ _ h => h) (Or.inl ⟨by rfl, ?hy10⟩) hbx ?rest10
  case hy10 =>
    intro w' hSw
    go_simp
    try with_reducible rfl
  try simp only [Act.put, List.setIfInBounds_toArray, List.set_cons_zero, List.set_cons_succ]
  refine wpAnyH_take (i := 11) (oi := ⟨_, _, _, _, _, _⟩) (v := ?v11) rfl (by kernel_rfl) (by kernel_rfl) (by kernel_rfl) (fun _ _ _ h => h) (Or.inl ⟨by rfl, ?hy11⟩) hbx ?rest11
  case hy11 =>
    intro w' hSw
    go_simp
    try with_reducible rfl
  try simp only [Act.put, List.setIfInBounds_toArray, List.set_cons_zero, List.set_cons_succ]
  refine Rl.lt0_0 (b := b) (n := n) (k := k) (ar := ar) (sv := v) (w0 := ((w.alloc (.cells #[v] 30)).alloc (.cells #[.bool false, .slice none 0 0, .slice none 0 0] 91)).drew) (Rl.LtReg.mk ?rs ?r1 ?r2 ?r6 ?r7 ?r8 ?r12 ?r13 ?r14 ?r15 ?r16 ?rrd ?rtk) ?rt (fun _ _ d _ _ h => by cases d <;> exact h) HS.out HL.out.2.2 hn (by omega) hdr hblo HL.out.2.1 _ _ _ _ _ _ _ _ _ _ _ HL.out.1.2
  case rs => kernel_rfl
  case r1 => exact ⟨_, _, rfl, rfl, rfl, rfl⟩
  case r2 => exact ⟨_, _, rfl, rfl, rfl, rfl⟩
  case r6 => exact ⟨_, _, rfl, rfl, rfl, rfl⟩
  case r7 => exact ⟨_, rfl, rfl, rfl, rfl⟩
  case r8 => exact ⟨_, _, rfl, rfl, rfl, rfl⟩
  case r12 => exact ⟨_, _, rfl, rfl, rfl, rfl⟩
  case r13 => exact ⟨_, rfl, rfl, rfl, rfl⟩
  case r14 => exact ⟨_, _, rfl, rfl, rfl, rfl⟩
  case r15 => exact ⟨_, rfl, rfl, rfl, rfl⟩
  case r16 => exact ⟨_, rfl, rfl, rfl, rfl⟩
  case rrd => kernel_rfl
  case rtk => kernel_rfl
  case rt =>
  intro x1 x2 y1 s1 x3 y2 s2 g wx z lg hl t1 t2
  have hgx : Chg b (b+1) ((w.alloc (.cells #[v] 30)).alloc (.cells #[.bool false, .slice none 0 0, .slice none 0 0] 91)).drew wx := by obtain ⟨_, _, _, _, h4⟩ := hl; exact h4
  have hres := HL.out.1.1.chg hgx (by omega)
  have hg1 : w.heap.size + 1 ≠ g := by have := EZ.out; omega
  obtain ⟨a1, c1, rfl⟩ := t1.form
  obtain ⟨a2, c2, rfl⟩ := t2.form
  have z0 := z
  obtain ⟨⟨q0, q1, q2⟩, q3⟩ := z
  refine wpAnyH_ready (rs := [17]) (by kernel_rfl) (by simp) ?_
  refine AllReadyH.cons rfl (fun K hK => ?_) AllReadyH.nil
  simp only [Rl.pt]
  go_simp
  have L1 := z0.put (.bool (!x1)) (.slice a1 s1.length c1) (.slice a2 s2.length c2)
  have T1 := t1.box z0 (!x1) (.slice a1 s1.length c1) (.slice a2 s2.length c2)
  have T2 := t2.box z0 (!x1) (.slice a1 s1.length c1) (.slice a2 s2.length c2)
  have F1 := ((hl.set (p := ⟨g, 0, none⟩) lg HL.out.2.2 (.bool (!x1))).set (p := ⟨g, 1, none⟩) lg HL.out.2.2 (.slice a1 s1.length c1)).set (p := ⟨g, 2, none⟩) lg HL.out.2.2 (.slice a2 s2.length c2)
  have Z1 := ((hres.far hg1 0 (.bool (!x1))).far hg1 1 (.slice a1 s1.length c1)).far hg1 2 (.slice a2 s2.length c2)
  clear z0 q0 q1 q2 q3 t1 t2 hl hres hgx
  generalize (((wx.setCell ⟨g, 0, none⟩ (.bool (!x1))).setCell ⟨g, 1, none⟩ (.slice a1 s1.length c1)).setCell ⟨g, 2, none⟩ (.slice a2 s2.length c2)) = wy at *
  refine hK.out _ _ (HS.out _ (by obtain ⟨_, _, _, _, h4⟩ := F1; exact h4)) (fun _ => ?_)
  clear hK K
  refine wpAnyH_done (by kernel_rfl) ?_ _
  have hbD := HL.out.2.2
  obtain ⟨k1, f1, f2, f3, f4⟩ := F1
  have hzy := f4.size
  have HO := Lib.hid (one_c b n k1 3 3 wy rfl hn (by omega) (by omega) f3)
  have HF4 := Lib.hid (And.intro f3 f4)
  clear HL HS f3 f4 hbx
  go_wp2_with fail
  refine HO.out.mono ?_; rintro e wz ⟨q, k2, rfl, g1, g2, g3, g4⟩
  have L2 := L1.chg g4 (by omega)
  have Z2 := Z1.chg g4 (by omega)
  have T3 := T1.chg g4 hbD
  have T4 := T2.chg g4 hbD
  have hbo := HF4.out.2.trans g4
  have F2 : Rl.LF b n k 8100 w wz := ⟨k2, by omega, by omega, g3, (Chg.of_bel BD).trans hbo⟩
  clear L1 Z1 T1 T2 HO HF4
  have hz2 := hbo.size
  cases q with
  | false =>
    obtain ⟨⟨q0, q1, q2⟩, q3⟩ := L2
    obtain ⟨⟨r0, r1, r2⟩, r3⟩ := Z2
    have HE := Lib.hid (And.intro (And.intro T3 T4) F2)
    have R2 := Lib.hid (And.intro (And.intro q0 (And.intro q1 q2)) (And.intro (And.intro r0 (And.intro r1 r2)) r3))
    clear T3 T4 F2 g3 g4 hbo
    go_wp2_with fail
    have Z3 : Rl.Lb wz (w.heap.size + 1) (.bool false) (.slice none 0 0) (.slice none 0 0) := ⟨R2.out.2.1, R2.out.2.2⟩
    have hb1 : w.heap.size ≤ w.heap.size + 1 := Nat.le_succ _
    obtain ⟨⟨y0, y1, y2⟩, -⟩ := Z3.put (.bool (!x1)) (.slice a1 s1.length c1) (.slice a2 s2.length c2)
    try simp only [Exit.inBlock, Exit.then]
    refine bodyPost_ret (v := .agg #[.bool (!x1), .slice a1 s1.length c1, .slice a2 s2.length c2]) (by simp [results, Try.results143, go_sem, y0, y1, y2]) rfl ⟨!x1, _, _, s1, s2, rfl, (HE.out.1.1.box Z3 _ _ _).ofBel BD, (HE.out.1.2.box Z3 _ _ _).ofBel BD, ((HE.out.2.set (p := ⟨w.heap.size + 1, 0, none⟩) hb1 hbl _).set (p := ⟨w.heap.size + 1, 1, none⟩) hb1 hbl _).set (p := ⟨w.heap.size + 1, 2, none⟩) hb1 hbl _⟩
  | true =>
    have hgz := L2.lt
    have ZA := (Z2.far hg1 2 (.slice (some ⟨wz.heap.size, 0, none⟩) 1 1)).bel (Bel.alloc0 _ (.cells #[.int .i64 0] 3))
    have LB := (L2.put2 (.slice (some ⟨wz.heap.size, 0, none⟩) 1 1)).bel (Bel.alloc0 _ (.cells #[.int .i64 0] 3))
    have T5 := (T3.other (p := ⟨g, 2, none⟩) L2.1.2.2 (fun n => by simp) (.slice (some ⟨wz.heap.size, 0, none⟩) 1 1)).alloc (.cells #[.int .i64 0] 3)
    have T6 : Rl.TF ((w.alloc (.cells #[v] 30)).alloc (.cells #[.bool false, .slice none 0 0, .slice none 0 0] 91)).drew ((wz.setCell ⟨g, 2, none⟩ (.slice (some ⟨wz.heap.size, 0, none⟩) 1 1)).alloc (.cells #[.int .i64 0] 3)) (.slice (some ⟨wz.heap.size, 0, none⟩) 1 1) [0] := ⟨⟨wz.heap.size, hz2, by simp, SlI.arr (xs := [0]) rfl (by simp) (by simp) (Nat.le_refl _) (Nat.lt_succ_self _)⟩, by simp, by simp⟩
    have F3 := (F2.set (p := ⟨g, 2, none⟩) (show w.heap.size ≤ g by have := EZ.out; omega) hbl (.slice (some ⟨wz.heap.size, 0, none⟩) 1 1)).alloc (.cells #[.int .i64 0] 3)
    have HE := Lib.hid (And.intro (And.intro T5 T6) F3)
    have HZ := Lib.hid ZA
    obtain ⟨⟨p0, p1, p2⟩, p3⟩ := L2
    obtain ⟨⟨q0, q1, q2⟩, q3⟩ := LB
    obtain ⟨⟨r0, r1, r2⟩, r3⟩ := ZA
    clear T3 T4 T5 T6 F2 F3 g3 g4 hbo Z2
    go_wp2_with fail
    have hb1 : w.heap.size ≤ w.heap.size + 1 := Nat.le_succ _
    obtain ⟨⟨y0, y1, y2⟩, -⟩ := HZ.out.put (.bool (!x1)) (.slice a1 s1.length c1) (.slice (some ⟨wz.heap.size, 0, none⟩) 1 1)
    try simp only [Exit.inBlock, Exit.then]
    refine bodyPost_ret (v := .agg #[.bool (!x1), .slice a1 s1.length c1, .slice (some ⟨wz.heap.size, 0, none⟩) 1 1]) (by simp [results, Try.results143, go_sem, y0, y1, y2]) rfl ⟨!x1, _, _, s1, [0], rfl, (HE.out.1.1.box HZ.out _ _ _).ofBel BD, (HE.out.1.2.box HZ.out _ _ _).ofBel BD, ((HE.out.2.set (p := ⟨w.heap.size + 1, 0, none⟩) hb1 hbl _).set (p := ⟨w.heap.size + 1, 1, none⟩) hb1 hbl _).set (p := ⟨w.heap.size + 1, 2, none⟩) hb1 hbl _⟩
end Go.Proofs.Yteegjnobmbcjiaa
end
section
/- append of one literal to a row of literals of the call's own: at a plain region, and at a step of a region that draws. -/
namespace Go.Proofs.Yteegjnobmbcjiaa
open Go.RowKit

/-- A row of literals of the call's own. -/
abbrev RowC (lo : Nat) (w : World) (v : Value) (zs : List LV) : Prop := w.ownsRow lo 91 3 v zs.length (cellsC zs)
theorem RowC.nil (lo : Nat) (w : World) : RowC lo w (.slice none 0 0) [] := World.ownsRow_nil _ _ _ _
theorem news_lit (w : World) (x y z : Value) (t : TypeId) (g : Nat) (hg : g = w.heap.size) : ∀ j u, [x, y, z][j]? = some u → (w.alloc (.cells #[x, y, z] t)).cell? ((⟨g, 0, none⟩ : Addr).add j) = some u := by
  subst hg
  intro j u hj
  match j, hj with
  | 0, hj => simp at hj; subst hj; rw [show (⟨w.heap.size, 0, none⟩ : Addr).add 0 = ⟨w.heap.size, 0, none⟩ from rfl, World.cell?_alloc_new w]; rfl
  | 1, hj => simp at hj; subst hj; rw [addr_add, World.cell?_alloc_new w]; rfl
  | 2, hj => simp at hj; subst hj; rw [addr_add, World.cell?_alloc_new w]; rfl
theorem one_lit (p : Bool) (a b : Option Addr) (n m c d : Nat) : ∀ u ∈ [Value.bool p, Value.slice a n c, Value.slice b m d], u.oneCell' = true := by
  intro u hu; simp at hu; rcases hu with rfl | rfl | rfl <;> rfl

theorem step_append_lit {w : World} {ops : Array Oper} {o : Oper} {a : Act} {K : Act → World → Prop} {Q : Exit → Act → World → Prop} {E : Prop} (hgd : o.guard = none) (s x : Operand) (d : Nat) (hd : o.dst = some d)
    (ho : o.op = .call { callee := .builtin .append, args := #[s, x], argTypes := #[47, 47] })
    (base : Nat) (v : Value) (zs : List LV) (hs : a.eval s = v) (hown : RowC base w v zs) (g : Nat) (p : Bool) (z1 z2 : SV) (hx : a.eval x = .slice (some ⟨g, 0, none⟩) 1 1)
    (hnews : ∀ j u, [Value.bool p, encS z1, encS z2][j]? = some u → w.cell? ((⟨g, 0, none⟩ : Addr).add j) = some u)
    (hl : zs.length ≤ 1048576) (hbase : base ≤ w.heap.size)
    (h : ∀ ad n c w', RowC base w' (.slice ad n c) (zs ++ [(p, encS z1, encS z2)]) → w.grownBy w' v.ownBlock → K (a.put (some d) (.slice ad n c)) w') :
    if Region.wanted o (yielded ops a.tmps) = true then Oper.wp Try.prog o a w K Q else E := by
  obtain ⟨i0, hi0, hz0, hz1, hz2⟩ := info_parts Try.info91
  have hw : Region.wanted o (yielded ops a.tmps) = true := by simp [Region.wanted, hgd]
  rw [if_pos hw]
  rw [← hd] at h
  refine wp_append_own w s x 47 ho base 91 i0 (.agg #[.bool false, .slice none 0 0, .slice none 0 0]) 3 56 Try.underlying47 hi0 hz0 hz1 hz2 rfl (by decide) v zs.length (cellsC zs) hs hown
    ⟨g, 0, none⟩ 1 1 [.bool p, encS z1, encS z2] hx (by simp) hnews (one_lit _ _ _ _ _ _ _) (by unfold maxLen; omega) (by omega) hbase (fun v' w' h1 h2 _ => ?_)
  obtain ⟨ad, n, c, rfl⟩ := own_form h1
  refine h ad n c w' ?_ h2
  have e : cellsC (zs ++ [(p, encS z1, encS z2)]) = cellsC zs ++ [.bool p, encS z1, encS z2] := by rw [cellsC_app]; rfl
  show World.ownsRow _ _ _ _ _ _ _
  rw [e]
  simpa using h1
end Go.Proofs.Yteegjnobmbcjiaa
end
section
/- A row of literals of the call's own, whose terms are the call's own too, grown by append. -/
namespace Go.Proofs.Yteegjnobmbcjiaa
open Go.RowKit

/-- One more, in a block that none of the others has. -/
theorem Ins.snocG {lo hi b : Nat} {w : World} {us : List Value} {xss : List (List Int)} {bs : Nat → Nat} (h : Ins lo hi b w us xss bs) {l2 h2 : Nat} {u : Value} {xs : List Int} (ho : OwnI l2 h2 w u xs)
    (hne : ∀ j, j < xss.length → 0 < (xss.getD j []).length → bs j < l2 ∨ h2 ≤ bs j) (hlo : lo ≤ l2) (hbl : b < l2 ∨ h2 ≤ b) {hi2 : Nat} (h1 : h2 ≤ hi2) (h3 : hi ≤ hi2) :
    ∃ bs', Ins lo hi2 b w (us ++ [u]) (xss ++ [xs]) bs' ∧ (∀ j, j < xss.length → bs' j = bs j) ∧ (0 < xs.length → l2 ≤ bs' xss.length ∧ bs' xss.length < h2) := by
  obtain ⟨c, hc, hr⟩ := ho.block
  have hn := h.len
  refine ⟨fun j => if j = xss.length then c else bs j, ⟨by simp [hn], fun j hj hp => ?_, fun i j hij hj hpi hpj => ?_, fun j v hj => ?_⟩, fun j hj => by simp; omega, fun hp => by simpa using hr hp⟩
  · by_cases e : j = xss.length
    · subst e
      simp only [List.getD, List.getElem?_append_right (Nat.le_refl _), Nat.sub_self, List.getElem?_cons_zero, Option.getD_some] at hp
      have := hr hp
      simp only [if_true]
      omega
    · have hlt : j < xss.length := by simp at hj; omega
      simp only [List.getD, List.getElem?_append_left hlt] at hp
      have := h.rng j hlt hp
      simp only [e, if_false]
      omega
  · have hilt : i < xss.length := by simp at hj; omega
    simp only [List.getD, List.getElem?_append_left hilt] at hpi
    by_cases e : j = xss.length
    · subst e
      simp only [List.getD, List.getElem?_append_right (Nat.le_refl _), Nat.sub_self, List.getElem?_cons_zero, Option.getD_some] at hpj
      have h5 := hr hpj
      have h6 := hne i hilt hpi
      simp only [if_true]
      rw [if_neg (by omega)]
      omega
    · have hlt : j < xss.length := by simp at hj; omega
      simp only [List.getD, List.getElem?_append_left hlt] at hpj
      simp only [e, if_false]
      rw [if_neg (by omega)]
      exact h.inj i j hij hlt hpi hpj
  · by_cases e : j = xss.length
    · subst e
      rw [List.getElem?_append_right (by omega), hn, Nat.sub_self] at hj
      simp only [List.getElem?_cons_zero, Option.some.injEq] at hj
      subst hj
      simpa [List.getD] using hc
    · have hlt : j < us.length := by
        have := (List.getElem?_eq_some_iff.1 hj).1
        simp at this; omega
      rw [List.getElem?_append_left hlt] at hj
      have := h.own j v hj
      simp only [e, if_false]
      simpa [List.getD, List.getElem?_append_left (show j < xss.length by omega)] using this

def RowCO (base : Nat) (w : World) (v : Value) (c : List Lt) : Prop :=
  ∃ (zs : List LV) (bs : Nat → Nat), RowC base w v zs ∧ zs.map (·.1) = c.map (·.1) ∧ Ins base w.heap.size (rowBlk w v) w (rowsC zs) (flatC c) bs
theorem RowCO.nil (base : Nat) (w : World) : RowCO base w (.slice none 0 0) [] := ⟨[], _, RowC.nil _ _, rfl, (Ins.none _ _ _ _).mono (Nat.le_refl _) (Nat.le_refl _)⟩
theorem RowCO.len {base : Nat} {w : World} {v : Value} {c : List Lt} (h : RowCO base w v c) : ∃ zs : List LV, RowC base w v zs ∧ zs.length = c.length := by
  obtain ⟨zs, bs, h1, h2, _⟩ := h
  exact ⟨zs, h1, by simpa using congrArg List.length h2⟩
theorem RowCO.bel {base : Nat} {w w' : World} {v : Value} {c : List Lt} (h : RowCO base w v c) (hb : Bel w w') : RowCO base w' v c := by
  obtain ⟨zs, bs, ho, hp, hi⟩ := h
  refine ⟨zs, bs, ownsRow_bel ho hb, hp, ((hi.below hb).mono (Nat.le_refl _) hb.size).blk fun j hj hpos => ?_⟩
  have hr := hi.rng j hj hpos
  unfold rowBlk at hr ⊢
  cases hv : v.ownBlock with
  | none => have := hb.size; simp only [Option.getD_none]; omega
  | some g => rw [hv] at hr; simp only [Option.getD_some] at hr ⊢; exact hr.2.2
theorem RowCO.own {base : Nat} {w : World} {v : Value} {c : List Lt} (h : RowCO base w v c) : OwnC base w.heap.size w v c := by
  obtain ⟨zs, bs, ho, hp, hi⟩ := h
  have hzl : zs.length = c.length := by simpa using congrArg List.length hp
  refine OwnC.of_row (zs := zs) (bs := bs) (e := 91) (by rw [← hzl]; exact ho) (Nat.le_refl _) hp (fun g hg => ?_)
  unfold rowBlk at hi
  rw [hg] at hi
  exact hi
theorem RowCO.blk {base : Nat} {w : World} {v : Value} {c : List Lt} (h : RowCO base w v c) : ∀ g, v.ownBlock = some g → base ≤ g ∧ g < w.heap.size := by
  obtain ⟨zs, bs, ho, _⟩ := h
  exact ho.lt
theorem row_len3 {w : World} {base e n m c : Nat} {ad : Option Addr} {xs : List Value} (h : w.ownsRow base e 3 (.slice ad n c) m xs) : n = m := by
  rcases h.2 with ⟨e1, h2⟩ | ⟨g, cap, cur, e1, _⟩
  · simp only [Value.slice.injEq] at e1; omega
  · simp only [Value.slice.injEq] at e1; omega
theorem RowCO.form {base : Nat} {w : World} {v : Value} {c : List Lt} (h : RowCO base w v c) : ∃ ad k, v = .slice ad c.length k := h.own.sl.form
theorem RowCO.step {base l1 h1 l2 h2 : Nat} {w0 w1 w2 : World} {v u1 u2 : Value} {c : List Lt} {t1 t2 : List Int} (h : RowCO base w0 v c) (hb1 : Bel w0 w1) (hb2 : Bel w1 w2) (o1 : OwnI l1 h1 w1 u1 t1) (o2 : OwnI l2 h2 w1 u2 t2)
    (r1 : w0.heap.size ≤ l1) (r2 : w0.heap.size ≤ l2) (q1 : h1 ≤ w1.heap.size) (q2 : h2 ≤ w1.heap.size) (hd : h1 ≤ l2 ∨ h2 ≤ l1) (hbase : base ≤ w0.heap.size) (p : Bool) :
    ∃ zs : List LV, RowC base w2 v zs ∧ zs.length = c.length ∧ ∀ w3 v', RowC base w3 v' (zs ++ [(p, u1, u2)]) → w2.grownBy w3 v.ownBlock → (v'.ownBlock = v.ownBlock ∨ v'.ownBlock = some w2.heap.size) → RowCO base w3 v' (c ++ [(p, t1, t2)]) := by
  obtain ⟨zs, bs, hw, hp, hi⟩ := h
  have hlt := hw.lt
  have hz1 := hb1.size
  have hz2 := hb2.size
  have hzl : zs.length = c.length := by simpa using congrArg List.length hp
  refine ⟨zs, ownsRow_bel hw (hb1.step hb2), hzl, fun w3 v' hown hg hat => ?_⟩
  have hz3 := hg.size
  obtain ⟨b', hb'⟩ : ∃ b', v'.ownBlock = some b' := by
    rcases hown.2 with ⟨_, hn⟩ | ⟨g, cap, cur, rfl, _⟩
    · simp at hn
    · exact ⟨g, by simp [Value.ownBlock]⟩
  have hrb : rowBlk w3 v' = b' := by unfold rowBlk; rw [hb']; rfl
  have hi2 := hi.below (hb1.step hb2)
  have hi3 : Ins base w0.heap.size (rowBlk w0 v) w3 (rowsC zs) (flatC c) bs := by
    refine hi2.but fun x hx _ hxl hx2 => hg.block x hx2 fun e => hx ?_
    unfold rowBlk; rw [← e]; rfl
  have hbb : b' < w0.heap.size ∨ w2.heap.size ≤ b' := by
    rcases hat with e | e
    · rw [hb'] at e; exact .inl (hlt b' e.symm).2
    · rw [hb'] at e; simp at e; exact .inr (by omega)
  have hne : ∀ j, j < (flatC c).length → 0 < ((flatC c).getD j []).length → bs j ≠ b' := by
    intro j hj hpos
    have hr := hi.rng j hj hpos
    rcases hat with e | e
    · unfold rowBlk at hr; rw [← e, hb'] at hr; exact hr.2.2
    · rw [hb'] at e; simp at e; omega
  have ho1 : OwnI l1 h1 w3 u1 t1 := (o1.below hb2).same fun x hx1 hx2 hx3 => hg.block x hx3 fun e => by have := (hlt x e.symm).2; omega
  have ho2 : OwnI l2 h2 w3 u2 t2 := (o2.below hb2).same fun x hx1 hx2 hx3 => hg.block x hx3 fun e => by have := (hlt x e.symm).2; omega
  have hi4 := hi3.blk hne
  obtain ⟨bs1, hf1, hsame, hnew⟩ := hi4.snocG ho1 (fun j hj hpos => by have := hi4.rng j hj hpos; omega) (by omega) (by omega) (hi2 := w1.heap.size) (by omega) (by omega)
  obtain ⟨bs2, hf2, _, _⟩ := hf1.snocG ho2 (fun j hj hpos => by
    by_cases e : j = (flatC c).length
    · subst e
      have : 0 < t1.length := by simpa [List.getD] using hpos
      have := hnew this
      omega
    · have hjl : j < (flatC c).length := by simp at hj; omega
      have hp' : 0 < ((flatC c).getD j []).length := by simpa [List.getD, List.getElem?_append_left hjl] using hpos
      have := hi4.rng j hjl hp'
      rw [hsame j hjl]
      omega) (by omega) (by omega) (hi2 := w3.heap.size) (by omega) (by omega)
  refine ⟨zs ++ [(p, u1, u2)], bs2, hown, by rw [List.map_append, List.map_append, hp]; rfl, ?_⟩
  rw [hrb, rowsC_app, flatC_app]
  simpa [rowsC, flatC] using hf2

theorem step_append_litO {w : World} {ops : Array Oper} {o : Oper} {a : Act} {K : Act → World → Prop} {Q : Exit → Act → World → Prop} {E : Prop} (hgd : o.guard = none) (s x : Operand) (d : Nat) (hd : o.dst = some d)
    (ho : o.op = .call { callee := .builtin .append, args := #[s, x], argTypes := #[47, 47] })
    (base : Nat) (v : Value) (zs : List LV) (hs : a.eval s = v) (hown : RowC base w v zs) (g : Nat) (p : Bool) (z1 z2 : SV) (hx : a.eval x = .slice (some ⟨g, 0, none⟩) 1 1)
    (hnews : ∀ j u, [Value.bool p, encS z1, encS z2][j]? = some u → w.cell? ((⟨g, 0, none⟩ : Addr).add j) = some u)
    (hl : zs.length ≤ 1048576) (hbase : base ≤ w.heap.size)
    (h : ∀ b k w', RowC base w' (.slice (some ⟨b, 0, none⟩) (zs.length + 1) k) (zs ++ [(p, encS z1, encS z2)]) → w.grownBy w' v.ownBlock → ((Value.slice (some ⟨b, 0, none⟩) (zs.length + 1) k).ownBlock = v.ownBlock ∨ (Value.slice (some ⟨b, 0, none⟩) (zs.length + 1) k).ownBlock = some w.heap.size) → K (a.put (some d) (.slice (some ⟨b, 0, none⟩) (zs.length + 1) k)) w') :
    if Region.wanted o (yielded ops a.tmps) = true then Oper.wp Try.prog o a w K Q else E := by
  obtain ⟨i0, hi0, hz0, hz1, hz2⟩ := info_parts Try.info91
  rw [← hd] at h
  refine step_append_lies w hgd s x 47 ho base 91 i0 (.agg #[.bool false, .slice none 0 0, .slice none 0 0]) 3 56 Try.underlying47 hi0 hz0 hz1 hz2 rfl (by decide) v zs.length (cellsC zs) hs hown
    ⟨g, 0, none⟩ 1 1 [.bool p, encS z1, encS z2] hx (by simp) hnews (one_lit _ _ _ _ _ _ _) (by decide) (by unfold maxLen; omega) (by omega) hbase w.heap.size rfl (fun b k w' h1 h2 h3 _ => ?_)
  refine h b k w' ?_ h2 ?_
  · have e : cellsC (zs ++ [(p, encS z1, encS z2)]) = cellsC zs ++ [.bool p, encS z1, encS z2] := by rw [cellsC_app]; rfl
    show World.ownsRow _ _ _ _ _ _ _
    rw [e]
    simpa using h1
  · rcases h3 with h3 | h3
    · exact .inl (by rw [h3]; simp [Value.ownBlock])
    · exact .inr (by subst h3; simp [Value.ownBlock])
end Go.Proofs.Yteegjnobmbcjiaa
end
