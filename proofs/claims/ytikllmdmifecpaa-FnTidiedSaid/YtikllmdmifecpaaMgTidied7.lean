/- Texts merged, part 7. -/
import Derived.Lib.Bytealg
import Derived.Lib.Strings
import Derived.Test.YtikllmdmifecpaaMgTidied6
section
namespace Go.Proofs.Ytikllmdmifecpaa
open Go.RowKit

theorem markBefore_q (k : Nat) (b : UInt8) (h : sepB k = b) (w : World) : Calls Try.prog 177 #[.int .i64 k] w fun e w' => e = .returned (.string ⟨#[b]⟩) ∧ w' = w := by
  subst h
  by_cases h : k = 0
  · subst h
    go_enter Try.func177, Try.ntmps177
    go_wp2_with fail
    go_ret
    exact ⟨rfl, rfl⟩
  · have h' : ((k : Int) == 0) = false := by simpa using h
    have E : Hid (sepB k = 44) := if_neg h
    clear h
    go_enter Try.func177, Try.ntmps177
    go_wp2_with fail
    go_ret
    exact ⟨by rw [E.out]; rfl, rfl⟩
theorem letterOf_c (x : Int) (ar : List Int) (w : World) (h : okSym ar x = true) (hl : ar.length ≤ 10) : Calls Try.prog 175 #[.int .i64 x] w (RetV w (.string ⟨#[letter x]⟩)) := by
  have h2 : -12 ≤ x ∧ x < 10 := by simp [okSym, inB] at h; omega
  by_cases hx : x < 0
  · obtain ⟨k, rfl⟩ : ∃ k : Nat, x = -1 - (k : Int) := ⟨(-1 - x).toNat, by omega⟩
    exact letterOf_neg k w (by omega)
  · obtain ⟨k, rfl⟩ : ∃ k : Nat, x = k := ⟨x.toNat, by omega⟩
    exact letterOf_pos k w (by omega)

set_option maxRecDepth 100000 in
set_option maxHeartbeats 4000000 in
theorem textAt_c (l h l' h' : Nat) (v u : Value) (ar t : List Int) (hg : goodSign ar = true) (hok : okTerm ar t = true) :
    ∀ (n i : Nat) (w : World), t.length - i ≤ n → i < t.length → SlI l h w v ar → SlI l' h' w u t → Calls Try.prog 160 #[.agg #[v], u, .int .i64 i] w (RetT w (textAt ar t i)) := by
  intro n
  induction n with
  | zero => intro i w hn hi; omega
  | succ n ih =>
    intro i w hn hi hv hu
    have IH := Lib.hid ih; clear ih
    have hv0 := hv; have hu0 := hu
    obtain ⟨ad', cap', rfl, -, -, hr'⟩ := hu
    have E := Lib.hid (textAt_eq ar t hok i hi)
    have HA := Lib.hid (argsOf_bd ar t hok i hi)
    have hal : (argsOf ar t i).length ≤ 3 := by rw [argsOf_len]; exact arOf_le ar hg _
    have HL := Lib.hid (acc_le ar t hok i hi)
    have HT := Lib.hid (textAt_le ar t hok)
    have htl := ((okTerm_iff ar t).1 hok).2.1
    have HSYM := Lib.hid (good_sym ar t hok i hi)
    have HARGS := Lib.hid (fun w a b => argStarts_c l h l' h' v (.slice ad' t.length cap') ar t i w hg hok hi a b)
    obtain ⟨b', off', rfl, hbl, hcell'⟩ := rd hr' (Bel.rfl' w) i hi
    have hlen := sign_len ar hg
    clear hr'
    generalize t.getD i 0 = x at *
    generalize argsOf ar t i = args at *
    go_enter Try.func160, Try.ntmps160
    go_wp2_with fail
    refine (letterOf_c x ar _ HSYM.out hlen.2).mono ?_; rintro e w1 ⟨rfl, hb1⟩
    have hx1 := boxc hb1 0 _ rfl
    go_wp2_with fail
    refine (HARGS.out _ (hv0.below hb1.of_alloc) (hu0.below hb1.of_alloc)).mono ?_; rintro e w2 ⟨ad1, m, c, rfl, ho, hb2⟩
    obtain ⟨ad2, cap2, e, -, -, hr1⟩ := ho.1
    simp only [Value.slice.injEq] at e
    obtain ⟨rfl, rfl, rfl⟩ := e
    rw [natsI_len] at hr1 ⊢
    have hb0 := hb1.step hb2
    by_cases h0 : args.length = 0
    · have E3 : Hid ((if args.length = 0 then ([] : List UInt8) else [41]) = []) := if_pos h0
      have h0' : ((args.length : Int) == 0) = true := by simpa using h0
      have H0 := Lib.hid h0; clear h0
      go_wp2_with fail
      go_ret
      exact ⟨_, rfl, by rw [E.out, E3.out, H0.out]; simp [accT], hb0.of_alloc⟩
    · have E3 : Hid ((if args.length = 0 then ([] : List UInt8) else [41]) = [41]) := if_neg h0
      have h0' : ((args.length : Int) == 0) = false := by simpa using h0
      clear h0
      go_wp2_with fail
      go_loopw [7, 26] (fun o j wr => ∃ (k : Nat) (A : ByteArray), k ≤ args.length ∧ j = .int .i64 k ∧ o = .string A ∧ A.data.toList = letter x :: accT (textAt ar t) args k ∧ Bel (w.alloc (.cells #[v] 29)) wr ∧ Bel w2 wr) (fun _ j _ => args.length - (intOf j).toNat)
      case atStart => exact ⟨0, _, Nat.zero_le _, rfl, rfl, rfl, hb0, Bel.rfl' _⟩
      case round =>
        obtain ⟨k, A, hk, rfl, rfl, hA, hbr, hbw⟩ := hrel
        have hbox := boxc hbr 0 _ rfl
        have hAs : A.size ≤ 120 := by
          have := HL.out k hk
          rw [ba_size, hA, List.length_cons]; omega
        have HAA := Lib.hid hA; clear hA
        by_cases hlt : k < args.length
        · obtain ⟨b3, off3, e2, -, -, hc⟩ := hr1 (by omega)
          subst e2
          have hcell3 := (hbw.cell (p := ⟨b3, off3 + k, none⟩) (World.block_lt_of_cell? w2 ⟨b3, off3 + k, none⟩ (hc k hlt))).trans (hc k hlt)
          rw [natsI_get _ _ hlt] at hcell3
          have hmem : args.getD k 0 ∈ args := by simp [List.getD, hlt]
          have hab := HA.out _ hmem
          have ES : Hid (accT (textAt ar t) args (k + 1) = accT (textAt ar t) args k ++ (sepB k :: textAt ar t (args.getD k 0))) := rfl
          have hBs := HT.out (args.getD k 0) hab.2
          clear hr1 hc hmem
          generalize args.getD k 0 = a at *
          have hone : (⟨#[sepB k]⟩ : ByteArray).size = 1 := rfl
          obtain ⟨M, hM⟩ : ∃ M : ByteArray, M = ⟨#[sepB k]⟩ := ⟨_, rfl⟩
          rw [← hM] at hone
          have hMl : Hid (M.data.toList = [sepB k]) := by show _ = _; rw [hM]
          have hmk := Lib.hid (fun W => hM ▸ markBefore_q k (sepB k) rfl W)
          have hMs : M.size ≤ 1 := by omega
          clear hM hone
          go_wp2_with fail
          go_region_held3 (fun w' => Bel wr w' ∧ w'.cell? ⟨w.heap.size, 0, none⟩ = some v)
            (first | exact ⟨Bel.drew0 _, hbox⟩ | exact ⟨hb5.of_drew, boxc (hbr.drew.step hb5) 0 _ rfl⟩)
            (first | (go_at_call 177; refine (hmk.out _).mono ?_; rintro e wa ⟨rfl, rfl⟩) | (go_at_call 160; refine (IH.out a _ (by omega) hab.2 (hv0.below hbr.of_alloc.drew) (hu0.below hbr.of_alloc.drew)).mono ?_; rintro e w5 ⟨B, rfl, hB, hb5⟩; have hBs2 : B.size ≤ 120 := (by rw [ba_size, hB]; exact hBs); have HB := Lib.hid hB; clear hB; have hr1 := fun (W : World) => run_string_add_sum (P := Try.prog) (w := W) M B (by omega); have hr2 := fun (W : World) => run_string_add_sum (P := Try.prog) (w := W) A (M ++ B) (by rw [ByteArray.size_append]; omega)))
          go_wp2_with fail
          go_roundw
          case rel => exact ⟨k + 1, _, by omega, by go_num, rfl, by rw [ba_app, ba_app, HAA.out, HB.out, ES.out, hMl.out]; simp, hbr.drew.step hb5, hbw.drew.step hb5⟩
          case measure => simp [intOf]; omega
        · have hkl : Hid (k = args.length) := by show _ = _; omega
          go_wp2_with fail
          go_ret
          exact ⟨_, rfl, by rw [ba_app, HAA.out, E.out, E3.out, hkl.out]; simp, hbr.of_alloc⟩

/-- The text of a term, as bytes. -/
def textBA (ar t : List Int) : ByteArray := if goodTerm ar t then ⟨(textAt ar t 0).toArray⟩ else ⟨#[]⟩
theorem ba_eq {A : ByteArray} {l : List UInt8} (h : A.data.toList = l) : A = ⟨l.toArray⟩ := by subst h; cases A; simp
theorem text_no {ar t : List Int} (h : goodTerm ar t = false) : textBA ar t = ⟨#[]⟩ := by simp [textBA, h]
theorem text_yes {ar t : List Int} (h : goodTerm ar t = true) : textBA ar t = ⟨(textAt ar t 0).toArray⟩ := by simp [textBA, h]

end Go.Proofs.Ytikllmdmifecpaa
end
section
/- The draws of chapter 1: texts. -/
namespace Go.Proofs.Ytikllmdmifecpaa
open Go.RowKit

theorem text_size (ar t : List Int) : (textBA ar t).size ≤ 120 := by
  cases h : goodTerm ar t with
  | false => rw [text_no h]; decide
  | true =>
    obtain ⟨hg, hok⟩ := goodTerm_iff.1 h
    have := textAt_le ar t hok 0 (by have := ((okTerm_iff _ _).1 hok).1; omega)
    rw [text_yes h, ba_size]
    simpa using this
def RetDI (w : World) (e : Ending) (w' : World) : Prop :=
  ∃ (sv tv : Value) (ar t : List Int), e = .returned (.tuple #[.agg #[sv], tv]) ∧ drawn ar ∧ SlI w.heap.size w'.heap.size w' sv ar ∧ SlI w.heap.size w'.heap.size w' tv t ∧ t.length ≤ 1000 ∧ Bel w w'
def RetDS (w : World) (e : Ending) (w' : World) : Prop :=
  ∃ (sv : Value) (ar : List Int) (s : ByteArray), e = .returned (.tuple #[.agg #[sv], .string s]) ∧ drawn ar ∧ SlI w.heap.size w'.heap.size w' sv ar ∧ s.size ≤ 1000 ∧ Bel w w'

end Go.Proofs.Ytikllmdmifecpaa
end
section
/- Chapter 4, the reference: literals and clauses that are valid, weights. -/
namespace Go.Proofs.Ytikllmdmifecpaa
open Go.RowKit

set_option maxRecDepth 100000 in
set_option maxHeartbeats 400000 in
theorem l4Lit_c (l h l' h' : Nat) (v u1 u2 : Value) (ar xl xr : List Int) (p : Bool) (w : World) (hg : goodSign ar = true) (hl : xl.length ≤ 1048576) (hr : xr.length ≤ 1048576) (hv : SlI l h w v ar) (h1 : SlI l' h' w u1 xl) (h2 : SlI l' h' w u2 xr) :
    Calls Try.prog 132 #[.agg #[v], .agg #[.bool p, u1, u2]] w (RetV w (.bool (okTerm ar xl && okTerm ar xr))) := by
  have HB : Bel w ((w.alloc (.cells #[v] 29)).alloc (.cells #[.bool p, u1, u2] 106)) := Bel.alloc2 _ _ _
  cases e1 : okTerm ar xl with
  | false =>
    have HC := Lib.hid (fun (w' : World) (hb : Bel w w') => l1Term_v l h l' h' v u1 ar xl false w' e1 hg hl (hv.below hb) (h1.below hb))
    clear hv h1 h2 e1
    go_enter Try.func132, Try.ntmps132
    go_wp2_with fail
    refine (HC.out _ HB).mono ?_; rintro e w1 ⟨rfl, hb1⟩
    go_wp2_with fail
    go_ret
    exact ⟨rfl, HB.step hb1⟩
  | true =>
    rw [Bool.true_and]
    have HC := Lib.hid (fun (w' : World) (hb : Bel w w') => l1Term_v l h l' h' v u1 ar xl true w' e1 hg hl (hv.below hb) (h1.below hb))
    have HD := Lib.hid (fun (w' : World) (hb : Bel w w') => l1Term_c l h l' h' v u2 ar xr w' hg hr (hv.below hb) (h2.below hb))
    clear hv h1 h2 e1
    go_enter Try.func132, Try.ntmps132
    go_wp2_with fail
    refine (HC.out _ HB).mono ?_; rintro e w1 ⟨rfl, hb1⟩
    have k0 := hb1.at (b := w.heap.size) (off := 0) (by simp; omega) (show World.cell? _ _ = some v by simp [go_sem])
    have k2 := hb1.at (b := w.heap.size + 1) (off := 2) (by simp) (show World.cell? _ _ = some u2 by simp [go_sem])
    go_wp2_with fail
    refine (HD.out _ (HB.step hb1)).mono ?_; rintro e w2 ⟨rfl, hb2⟩
    go_wp2_with fail
    go_ret
    exact ⟨rfl, (HB.step hb1).step hb2⟩
end Go.Proofs.Ytikllmdmifecpaa
end
section
/- Chapter 4: facts on the answers. No program. -/
namespace Go.Proofs.Ytikllmdmifecpaa
open Go.RowKit

theorem flat_all (ar : List Int) (c : List Lt) : (flatC c).all (okTerm ar) = c.all (okLit ar) := by
  induction c with
  | nil => rfl
  | cons x r ih => rw [flatC_cons]; simp only [List.all_cons, ih, okLit, Bool.and_assoc]
theorem goodTerms_flat (ar : List Int) {c : List Lt} (h : c.length ≤ 8) : goodTerms ar (flatC c) 16 = goodClause ar c := by
  unfold goodTerms goodClause okLits
  rw [flat_all, flatC_len, decide_eq_true (show 2 * c.length ≤ 16 by omega), decide_eq_true h, Bool.and_true, Bool.true_and]
theorem goodClause_long (ar : List Int) {c : List Lt} (h : ¬ c.length ≤ 8) : goodClause ar c = false := by
  unfold goodClause okLits
  rw [decide_eq_false h]; simp
theorem flat_mem {c : List Lt} {t : List Int} (h : t ∈ flatC c) : ∃ x ∈ c, t = x.2.1 ∨ t = x.2.2 := by
  unfold flatC at h
  obtain ⟨x, hx, ht⟩ := List.mem_flatMap.1 h
  exact ⟨x, hx, by simpa using ht⟩
theorem flat_ok {ar : List Int} {c : List Lt} (h : ∀ x ∈ c, okLit ar x = true) {t : List Int} (ht : t ∈ flatC c) : okTerm ar t = true := by
  obtain ⟨x, hx, e⟩ := flat_mem ht
  have := okLit_iff.1 (h x hx)
  rcases e with rfl | rfl
  · exact this.1
  · exact this.2
theorem mem_getD {α : Type} (l : List α) (d : α) (j : Nat) (h : j < l.length) : l.getD j d ∈ l := by
  rw [List.getD_eq_getElem?_getD, List.getElem?_eq_getElem h]; exact List.getElem_mem h
theorem ok_litC {ar : List Int} {c : List Lt} (h : goodClause ar c = true) {j : Nat} (hj : j < c.length) : okTerm ar (c.getD j lt0).2.1 = true ∧ okTerm ar (c.getD j lt0).2.2 = true :=
  okLits_get (goodClause_iff.1 h).2.2 j hj

theorem low_memC {t : List Int} (h : ∀ n ∈ t, -12 ≤ n) : ∀ k, k < t.length → -12 ≤ t.getD k 0 := fun k hk => h _ (mem_getD t 0 k hk)
theorem ok_low {ar t : List Int} (h : okTerm ar t = true) {n : Int} (hn : n ∈ t) : -12 ≤ n := by
  obtain ⟨k, hk, rfl⟩ := List.getElem_of_mem hn
  have := good_sym ar t h k hk
  simp [okSym, inB, hk] at this
  exact this.1
theorem flat_low {ar : List Int} {c : List Lt} (h : goodClause ar c = true) : ∀ k, k < (flatC c).flatten.length → -12 ≤ (flatC c).flatten.getD k 0 := by
  refine low_memC fun n hn => ?_
  obtain ⟨t, ht, hnt⟩ := List.mem_flatten.1 hn
  exact ok_low (flat_ok (goodClause_iff.1 h).2.2 ht) hnt

/-- The signs of c, those terms. -/
theorem zipC_len (c : List Lt) : ∀ ts : List (List Int), ts.length = 2 * c.length → (zipC c ts).length = c.length := by
  induction c with
  | nil => intro ts _; rfl
  | cons x c ih =>
    intro ts h
    match ts, h with
    | l :: r :: ts, h => simp [zipC, ih ts (by simp at h; omega)]
theorem zipC_flat (c : List Lt) : ∀ ts : List (List Int), ts.length = 2 * c.length → flatC (zipC c ts) = ts := by
  induction c with
  | nil => intro ts h; simp at h; subst h; rfl
  | cons x c ih =>
    intro ts h
    match ts, h with
    | l :: r :: ts, h => simp only [zipC, flatC_cons]; rw [ih ts (by simp at h; omega)]
theorem zipC_signs (c : List Lt) : ∀ ts : List (List Int), ts.length = 2 * c.length → (zipC c ts).map (·.1) = c.map (·.1) := by
  induction c with
  | nil => intro ts _; rfl
  | cons x c ih =>
    intro ts h
    match ts, h with
    | l :: r :: ts, h => simp [zipC, ih ts (by simp at h; omega)]
theorem zipC_get (c : List Lt) : ∀ (ts : List (List Int)) (j : Nat), ts.length = 2 * c.length → j < c.length → (zipC c ts).getD j lt0 = ((c.getD j lt0).1, ts.getD (2*j) [], ts.getD (2*j+1) []) := by
  induction c with
  | nil => intro ts j _ h; simp at h
  | cons x c ih =>
    intro ts j h hj
    match ts, h with
    | l :: r :: ts, h =>
      cases j with
      | zero => simp [zipC]
      | succ j =>
        have := ih ts j (by simp at h; omega) (by simpa using hj)
        simpa [zipC, show 2 * (j + 1) = 2 * j + 1 + 1 from by omega] using this
theorem zipC_map (f : List Int → List Int) (c : List Lt) : zipC c ((flatC c).map f) = c.map fun x => (x.1, f x.2.1, f x.2.2) := by
  induction c with
  | nil => rfl
  | cons x c ih => rw [flatC_cons]; simp [zipC, ih]

def varsInAns (ar : List Int) (c : List Lt) : List Int := if goodClause ar c then natsI (varsTo (mk (flatC c).flatten) 12) else []
theorem varsInAns_len (ar : List Int) (c : List Lt) : (varsInAns ar c).length ≤ 1048576 := by
  unfold varsInAns
  split
  · rw [natsI_len]; exact Nat.le_trans (varsTo_len _ _) (by omega)
  · exact Nat.zero_le _

def applyC (b : List (List Int)) (c : List Lt) : List Lt := c.map fun x => (x.1, appT b x.2.1, appT b x.2.2)
def applyCok (ar : List Int) (b : List (List Int)) (c : List Lt) : Bool := (goodSubst ar b && okLits ar c) && okLits ar (applyC b c)
def applyCAns (ar : List Int) (b : List (List Int)) (c : List Lt) : List Lt := if applyCok ar b c then applyC b c else []
theorem applyC_flat (b : List (List Int)) (c : List Lt) : flatC (applyC b c) = (flatC c).map (appT b) := by
  induction c with
  | nil => rfl
  | cons x c ih => rw [flatC_cons, show applyC b (x :: c) = (x.1, appT b x.2.1, appT b x.2.2) :: applyC b c from rfl, flatC_cons, ih]; rfl
theorem applyC_ok {ar : List Int} {b : List (List Int)} {c : List Lt} (hb : goodSubst ar b = true) (hc : okLits ar c = true) : okLits ar (applyC b c) = (flatC c).all (app40ok b) := by
  obtain ⟨hl, h⟩ := okLits_iff.1 hc
  unfold okLits
  rw [← flat_all, applyC_flat, show (applyC b c).length = c.length from by simp [applyC], decide_eq_true hl, Bool.true_and, List.all_map]
  rw [Bool.eq_iff_iff, List.all_eq_true, List.all_eq_true]
  constructor
  · intro k t ht
    rw [← app_ok hb (flat_ok h ht)]; exact k t ht
  · intro k t ht
    show okTerm ar (appT b t) = true
    rw [app_ok hb (flat_ok h ht)]; exact k t ht

def renC (c : List Lt) : List Lt := zipC c (renS [] (flatC c))
def renCAns (ar : List Int) (c : List Lt) : List Lt := if goodClause ar c then renC c else []
end Go.Proofs.Ytikllmdmifecpaa
end
section
/- Chapter 4, the reference: valid clauses, weights. -/
namespace Go.Proofs.Ytikllmdmifecpaa
open Go.RowKit

theorem okTerm_len {ar t : List Int} (h : okTerm ar t = true) : 1 ≤ t.length ∧ t.length ≤ 40 := ⟨((okTerm_iff ar t).1 h).1, ((okTerm_iff ar t).1 h).2.1⟩
theorem l4Lit_v (l h l' h' : Nat) (v u1 u2 : Value) (ar xl xr : List Int) (p q : Bool) (w : World) (hq : (okTerm ar xl && okTerm ar xr) = q) (hg : goodSign ar = true) (hl : xl.length ≤ 1048576) (hr : xr.length ≤ 1048576) (hv : SlI l h w v ar) (h1 : SlI l' h' w u1 xl) (h2 : SlI l' h' w u2 xr) :
    Calls Try.prog 132 #[.agg #[v], .agg #[.bool p, u1, u2]] w (RetV w (.bool q)) := by subst hq; exact l4Lit_c l h l' h' v u1 u2 ar xl xr p w hg hl hr hv h1 h2

set_option maxRecDepth 100000 in
set_option maxHeartbeats 400000 in
theorem l4Clause_c (l h l' h' : Nat) (v u : Value) (ar : List Int) (c : List Lt) (w : World) (hg : goodSign ar = true) (hx : shortC c) (hv : SlI l h w v ar) (hu : SlC l' h' w u c) :
    Calls Try.prog 88 #[.agg #[v], u] w (RetV w (.bool (okLits ar c))) := by
  obtain ⟨ad, cap, rfl⟩ := hu.form
  obtain ⟨hxl, hxj⟩ := hx
  go_enter Try.func88, Try.ntmps88
  go_wp2_with fail
  go_loopw [9] (fun i wr => ∃ k : Nat, k ≤ c.length ∧ i = .int .i64 k ∧ okTo ar c k ∧ Bel (w.alloc (.cells #[v] 29)) wr) (fun i _ => c.length - (intOf i).toNat)
  case atStart => exact ⟨0, Nat.zero_le _, rfl, fun j hj => absurd hj (by omega), Bel.rfl' _⟩
  case round =>
    obtain ⟨k, hk, rfl, hto, hb⟩ := hrel
    have hbox := boxc hb 0 _ rfl
    by_cases hlt : k < c.length
    · obtain ⟨b, off, u1, u2, rfl, hbs, c1, c2, c3, s1, s2⟩ := hu.at hb.of_alloc k hlt
      obtain ⟨hm1, hm2⟩ := hxj k hlt
      have hstep := hto.step (k := k)
      have hbad := okLits_bad (ar := ar) hlt
      have hin1 : (k : Int) < c.length := by omega
      have hvr := hv.below hb.of_alloc
      clear hu hv hxj hto
      unfold okLit at hstep hbad
      generalize c.getD k lt0 = x at *
      obtain ⟨p, xl, xr⟩ := x
      simp only at *
      obtain ⟨a1, d1, rfl⟩ := s1.form
      obtain ⟨a2, d2, rfl⟩ := s2.form
      have hbox2 := boxc (hb.alloc (.cells #[.bool p, .slice a1 xl.length d1, .slice a2 xr.length d2] 106)) 0 _ rfl
      cases hq : (okTerm ar xl && okTerm ar xr) with
      | false =>
        have E := Lib.hid (hbad hq)
        have HQ := Lib.hid hq
        clear hstep hbad hq
        go_wp2_with fail
        refine (l4Lit_v l h l' h' v _ _ ar xl xr p false _ HQ.out hg hm1 hm2 (hvr.alloc _) (s1.alloc _) (s2.alloc _)).mono ?_; rintro e w1 ⟨rfl, hb1⟩
        go_wp2_with fail
        go_ret
        exact ⟨by rw [E.out]; rfl, hb.of_alloc.step ((Bel.alloc0 _ _).step hb1)⟩
      | true =>
        have E := Lib.hid (hstep hq)
        have HQ := Lib.hid hq
        clear hstep hbad hq
        go_wp2_with fail
        refine (l4Lit_v l h l' h' v _ _ ar xl xr p true _ HQ.out hg hm1 hm2 (hvr.alloc _) (s1.alloc _) (s2.alloc _)).mono ?_; rintro e w1 ⟨rfl, hb1⟩
        go_wp2_with fail
        go_roundw
        case rel => exact ⟨k+1, by omega, by go_num, E.out, hb.step ((Bel.alloc0 _ _).step hb1)⟩
        case measure => simp [intOf]; omega
    · obtain rfl : k = c.length := by omega
      have E := Lib.hid hto.done
      have hd : decide ((c.length : Int) ≤ 8) = decide (c.length ≤ 8) := by rw [decide_eq_decide]; omega
      go_wp2_with fail
      go_ret
      exact ⟨by rw [E.out, ← hd]; rfl, hb.of_alloc⟩

set_option maxRecDepth 100000 in
set_option maxHeartbeats 400000 in
theorem l4Weight_c (l h : Nat) (v : Value) (c : List Lt) (w : World) (hx : sumC c ≤ 1048576) (hv : SlC l h w v c) :
    Calls Try.prog 110 #[v] w (RetV w (.int .i64 (lenC c : Nat))) := by
  obtain ⟨ad, cap, rfl⟩ := hv.form
  have hse := sumC_eq c
  go_enter Try.func110, Try.ntmps110
  go_wp2_with fail
  go_loopw [3, 8] (fun m i wr => ∃ k : Nat, k ≤ c.length ∧ i = .int .i64 k ∧ m = .int .i64 (lenC (c.take k) : Nat) ∧ Bel w wr) (fun _ i _ => c.length - (intOf i).toNat)
  case atStart => exact ⟨0, Nat.zero_le _, rfl, by simp [lenC, flatC, sumL], Bel.rfl' _⟩
  case round =>
    obtain ⟨k, hk, rfl, rfl, hb⟩ := hrel
    by_cases hlt : k < c.length
    · obtain ⟨b, off, u1, u2, rfl, hbs, c1, c2, c3, s1, s2⟩ := hv.at hb k hlt
      have hst := lenC_take c k hlt
      have hsl := lenC_get c k hlt
      have hin1 : (k : Int) < c.length := by omega
      clear hv
      generalize c.getD k lt0 = x at *
      obtain ⟨p, xl, xr⟩ := x
      simp only at *
      obtain ⟨a1, d1, rfl⟩ := s1.form
      obtain ⟨a2, d2, rfl⟩ := s2.form
      have HE : Hid (((lenC (c.take k) : Nat) : Int) + ((xl.length : Int) + xr.length) = (lenC (c.take (k+1)) : Nat)) := by show _ = _; omega
      have i1 := IntWalk.i64_in ((xl.length : Int) + xr.length) (by omega)
      have i2 := IntWalk.i64_in (((lenC (c.take k) : Nat) : Int) + ((xl.length : Int) + xr.length)) (by omega)
      clear s1 s2 hst hsl
      go_wp2_with fail
      go_roundw
      case rel => exact ⟨k+1, by omega, by go_num, by rw [← HE.out], hb.alloc _⟩
      case measure => simp [intOf]; omega
    · rw [lenC_all c k hlt]
      go_wp2_with fail
      go_ret
      exact ⟨rfl, hb⟩
end Go.Proofs.Ytikllmdmifecpaa
end
section
/- Chapter 4, the reference: GoodClause, WeightOf. -/
namespace Go.Proofs.Ytikllmdmifecpaa
open Go.RowKit

set_option maxRecDepth 100000 in
set_option maxHeartbeats 400000 in
theorem sGoodClause_t {l h l' h' : Nat} {v u : Value} {ar : List Int} {c : List Lt} {w : World} (ha : ar.length ≤ 1048576) (hv : SlI l h w v ar) (hc : sumC c ≤ 1048576) (hu : SlC l' h' w u c) :
    Calls Try.prog 54 #[.agg #[v], u] w (RetV w (.bool (goodClause ar c))) := by
  unfold goodClause
  cases hg : goodSign ar with
  | false =>
    rw [Bool.false_and]
    have HG := Lib.hid hg; clear hg
    go_enter Try.func54, Try.ntmps54
    go_wp2_with fail
    refine (sGoodSign_v _ _ _ _ _ _ HG.out ha (hv.alloc _)).mono ?_; rintro e w1 ⟨rfl, hb1⟩
    go_wp2_with fail
    go_ret
    exact ⟨rfl, hb1.of_alloc⟩
  | true =>
    rw [Bool.true_and]
    have HG := Lib.hid hg
    have HC := Lib.hid (fun (w' : World) (hb : Bel w w') => l4Clause_c l h l' h' v u ar c w' hg (shortC_of_sum hc) (hv.below hb) (hu.below hb))
    clear hg hc
    go_enter Try.func54, Try.ntmps54
    go_wp2_with fail
    refine (sGoodSign_v _ _ _ _ _ _ HG.out ha (hv.alloc _)).mono ?_; rintro e w1 ⟨rfl, hb1⟩
    have hbox := boxc hb1 0 _ rfl
    go_wp2_with fail
    refine (HC.out _ hb1.of_alloc).mono ?_; rintro e w2 ⟨rfl, hb2⟩
    go_wp2_with fail
    go_ret
    exact ⟨rfl, hb1.of_alloc.step hb2⟩
theorem sGoodClause_v {l h l' h' : Nat} {v u : Value} {ar : List Int} {c : List Lt} {w : World} {q : Bool} (he : goodClause ar c = q) (ha : ar.length ≤ 1048576) (hv : SlI l h w v ar) (hc : sumC c ≤ 1048576) (hu : SlC l' h' w u c) :
    Calls Try.prog 54 #[.agg #[v], u] w (RetV w (.bool q)) := by subst he; exact sGoodClause_t ha hv hc hu

set_option maxRecDepth 100000 in
set_option maxHeartbeats 400000 in
theorem sWeightOf_t {l h l' h' : Nat} {v u : Value} {ar : List Int} {c : List Lt} {w : World} (ha : ar.length ≤ 1048576) (hv : SlI l h w v ar) (hc : sumC c ≤ 1048576) (hu : SlC l' h' w u c) :
    Calls Try.prog 61 #[.agg #[v], u] w (RetV w (.tuple #[.int .i64 (weightAns ar c), .bool (goodClause ar c)])) := by
  unfold weightAns
  cases hg : goodClause ar c with
  | false =>
    rw [if_neg (by simp)]
    have HG := Lib.hid hg; clear hg
    go_enter Try.func61, Try.ntmps61
    go_wp2_with fail
    refine (sGoodClause_v HG.out ha (hv.alloc _) hc (hu.alloc _)).mono ?_; rintro e w1 ⟨rfl, hb1⟩
    go_wp2_with fail
    go_ret2
    exact ⟨rfl, hb1.of_alloc⟩
  | true =>
    rw [if_pos rfl]
    have HG := Lib.hid hg; clear hg
    have HC := Lib.hid (fun (w' : World) (hb : Bel w w') => l4Weight_c l' h' u c w' hc (hu.below hb))
    go_enter Try.func61, Try.ntmps61
    go_wp2_with fail
    refine (sGoodClause_v HG.out ha (hv.alloc _) hc (hu.alloc _)).mono ?_; rintro e w1 ⟨rfl, hb1⟩
    clear hc
    go_wp2_with fail
    refine (HC.out _ hb1.of_alloc).mono ?_; rintro e w2 ⟨rfl, hb2⟩
    go_wp2_with fail
    go_ret2
    exact ⟨rfl, hb1.of_alloc.step hb2⟩
end Go.Proofs.Ytikllmdmifecpaa
end
section
/- Reading a term, plainly. No program. -/
namespace Go.Proofs.Ytikllmdmifecpaa

def sepC (k : Nat) : UInt8 := if k = 0 then 40 else 44
/-- What a letter stands for. -/
def symAt (ar : List Int) (b : UInt8) : Option Int :=
  if inB b.toNat 65 76 then some (-1 - ((b.toNat : Int) - 65)) else if inB b.toNat 97 (97 + (ar.length : Int) - 1) then some ((b.toNat : Int) - 97) else none

abbrev Scanned := List Int × Nat × Bool
def scanArgs (g : Nat → Scanned) (T : List UInt8) : Nat → Nat → List Int → Nat → Scanned
  | 0, _, acc, p => if T[p]? = some 41 then (acc, p + 1, true) else ([], p, false)
  | m + 1, k, acc, p => if T[p]? = some (sepC k) then (if (g (p + 1)).2.2 then scanArgs g T m (k + 1) (acc ++ (g (p + 1)).1) (g (p + 1)).2.1 else ([], (g (p + 1)).2.1, false)) else ([], p, false)
def scanF (ar : List Int) (T : List UInt8) : Nat → Nat → Scanned
  | 0, p => ([], p, false)
  | f + 1, p => match T[p]? with
    | none => ([], T.length, false)
    | some b => match symAt ar b with
      | none => ([], p, false)
      | some n => if arOf ar n = 0 then ([n], p + 1, true) else scanArgs (scanF ar T f) T (arOf ar n) 0 [n] (p + 1)

/-- What holds of a result that began at p. -/
def ScanOk (T : List UInt8) (p : Nat) (r : Scanned) : Prop := r.2.1 ≤ T.length ∧ (r.2.2 = true → p < r.2.1 ∧ r.1.length ≤ r.2.1 - p) ∧ (r.2.2 = false → r.1 = [])

theorem scanArgs_ok (g : Nat → Scanned) (T : List UInt8) (p0 : Nat) (hg : ∀ q, q ≤ T.length → ScanOk T q (g q)) : ∀ (m k : Nat) (acc : List Int) (p : Nat), p0 < p → p ≤ T.length → acc.length ≤ p - p0 → ScanOk T p0 (scanArgs g T m k acc p) := by
  intro m
  induction m with
  | zero =>
    intro k acc p h1 h2 h3
    unfold scanArgs
    by_cases h : T[p]? = some 41
    · have := (List.getElem?_eq_some_iff.1 h).1
      rw [if_pos h]; exact ⟨by simp; omega, fun _ => ⟨by simp; omega, by simp; omega⟩, fun h => by simp at h⟩
    · rw [if_neg h]; exact ⟨h2, fun h => by simp at h, fun _ => rfl⟩
  | succ m ih =>
    intro k acc p h1 h2 h3
    unfold scanArgs
    by_cases h : T[p]? = some (sepC k)
    · have hl := (List.getElem?_eq_some_iff.1 h).1
      rw [if_pos h]
      obtain ⟨a1, a2, a3⟩ := hg (p + 1) (by omega)
      cases hb : (g (p + 1)).2.2 with
      | true =>
        rw [if_pos rfl]
        obtain ⟨b1, b2⟩ := a2 hb
        exact ih _ _ _ (by omega) a1 (by simp; omega)
      | false =>
        rw [if_neg (by simp)]
        exact ⟨a1, fun h => by simp at h, fun _ => rfl⟩
    · rw [if_neg h]; exact ⟨h2, fun h => by simp at h, fun _ => rfl⟩

theorem scan_end {ar : List Int} {T : List UInt8} {f p : Nat} (h : ¬ p < T.length) : scanF ar T (f + 1) p = ([], T.length, false) := by
  unfold scanF; rw [List.getElem?_eq_none (by omega)]
theorem scan_bad {ar : List Int} {T : List UInt8} {f p : Nat} {b : UInt8} (h : T[p]? = some b) (hs : symAt ar b = none) : scanF ar T (f + 1) p = ([], p, false) := by
  unfold scanF; rw [h]; simp only [hs]
theorem scan_leaf {ar : List Int} {T : List UInt8} {f p : Nat} {b : UInt8} {n : Int} (h : T[p]? = some b) (hs : symAt ar b = some n) (h0 : arOf ar n = 0) : scanF ar T (f + 1) p = ([n], p + 1, true) := by
  unfold scanF; rw [h]; simp only [hs]; rw [if_pos h0]
theorem scan_args {ar : List Int} {T : List UInt8} {f p : Nat} {b : UInt8} {n : Int} (h : T[p]? = some b) (hs : symAt ar b = some n) (h0 : arOf ar n ≠ 0) : scanF ar T (f + 1) p = scanArgs (scanF ar T f) T (arOf ar n) 0 [n] (p + 1) := by
  unfold scanF; rw [h]; simp only [hs]; rw [if_neg h0]
theorem args_done {g : Nat → Scanned} {T : List UInt8} {k p : Nat} {acc : List Int} (h : T[p]? = some 41) : scanArgs g T 0 k acc p = (acc, p + 1, true) := by unfold scanArgs; rw [if_pos h]
theorem args_noclose {g : Nat → Scanned} {T : List UInt8} {k p : Nat} {acc : List Int} (h : T[p]? ≠ some 41) : scanArgs g T 0 k acc p = ([], p, false) := by unfold scanArgs; rw [if_neg h]
theorem args_nosep {g : Nat → Scanned} {T : List UInt8} {m k p : Nat} {acc : List Int} (h : T[p]? ≠ some (sepC k)) : scanArgs g T (m + 1) k acc p = ([], p, false) := by
  conv => lhs; unfold scanArgs
  rw [if_neg h]
theorem args_bad {g : Nat → Scanned} {T : List UInt8} {m k p : Nat} {acc : List Int} (h : T[p]? = some (sepC k)) (hb : (g (p + 1)).2.2 = false) : scanArgs g T (m + 1) k acc p = ([], (g (p + 1)).2.1, false) := by
  conv => lhs; unfold scanArgs
  rw [if_pos h, if_neg (by simp [hb])]
theorem args_next {g : Nat → Scanned} {T : List UInt8} {m k p : Nat} {acc : List Int} (h : T[p]? = some (sepC k)) (hb : (g (p + 1)).2.2 = true) : scanArgs g T (m + 1) k acc p = scanArgs g T m (k + 1) (acc ++ (g (p + 1)).1) (g (p + 1)).2.1 := by
  conv => lhs; unfold scanArgs
  rw [if_pos h, if_pos hb]
theorem scanF_ok (ar : List Int) (T : List UInt8) : ∀ (f p : Nat), p ≤ T.length → ScanOk T p (scanF ar T f p) := by
  intro f
  induction f with
  | zero => intro p hp; exact ⟨hp, fun h => by simp [scanF] at h, fun _ => rfl⟩
  | succ f ih =>
    intro p hp
    by_cases hl : p < T.length
    · obtain ⟨b, h⟩ : ∃ b, T[p]? = some b := ⟨T[p], List.getElem?_eq_getElem hl⟩
      cases hs : symAt ar b with
      | none => rw [scan_bad h hs]; exact ⟨hp, fun h => by simp at h, fun _ => rfl⟩
      | some n =>
        by_cases h0 : arOf ar n = 0
        · rw [scan_leaf h hs h0]; exact ⟨by simp; omega, fun _ => ⟨by simp, by simp⟩, fun h => by simp at h⟩
        · rw [scan_args h hs h0]; exact scanArgs_ok _ T p ih _ _ _ _ (by omega) (by omega) (by simp)
    · rw [scan_end hl]; exact ⟨Nat.le_refl _, fun h => by simp at h, fun _ => rfl⟩
end Go.Proofs.Ytikllmdmifecpaa
end
section
namespace Go.Proofs.Ytikllmdmifecpaa
open Go.RowKit

def RetScan (w : World) (r : Scanned) (e : Ending) (w' : World) : Prop := ∃ ad n c, e = .returned (.tuple #[.slice ad n c, .int .i64 r.2.1, .bool r.2.2]) ∧ OwnI w.heap.size w'.heap.size w' (.slice ad n c) r.1 ∧ Bel w w'

theorem sa_get (s : ByteArray) (p : Nat) (h : p < s.size) : s.data.toList[p]? = some s[p] := by
  rw [List.getElem?_eq_getElem (by simpa using h)]; rfl

theorem sub97 (m : Nat) (h : 97 ≤ m) : ((m : Int) - 97).toNat = m - 97 := by omega
/-- A new slice of one int. -/
theorem own1 (w : World) (x : Int) : (w.alloc (.cells #[.int .i64 x] 3)).ownsRow w.heap.size 3 1 (.slice (some ⟨w.heap.size, 0, none⟩) 1 1) [x].length ([x].map (Value.int .i64)) :=
  World.ownsRow_lit w #[.int .i64 x] 1 (Nat.le_refl _) (by unfold maxLen; omega) rfl
theorem own_mono {w : World} {base base' e s n : Nat} {v : Value} {xs : List Value} (h : w.ownsRow base e s v n xs) (hb : base' ≤ base) : w.ownsRow base' e s v n xs := by
  refine ⟨h.1, ?_⟩
  rcases h.2 with h0 | ⟨g, cap, cur, e1, e2, r⟩
  · exact .inl h0
  · exact .inr ⟨g, cap, cur, e1, by omega, r⟩
theorem u8_ne {a b : UInt8} (h : a ≠ b) : (((a.toNat : Nat) : Int) != ((b.toNat : Nat) : Int)) = true := by
  rw [bne_iff_ne]; intro h2; exact h (UInt8.toNat_inj.1 (by omega))

set_option maxRecDepth 100000 in
set_option maxHeartbeats 4000000 in
theorem l1ReadTerm_c (l h : Nat) (v : Value) (ar : List Int) (s : ByteArray) (hg : goodSign ar = true) (hs : s.size ≤ 1048576) :
    ∀ (n p : Nat) (w : World), s.data.toList.length + 1 - p ≤ n → p ≤ s.data.toList.length → SlI l h w v ar → Calls Try.prog 166 #[.agg #[v], .string s, .int .i64 p] w (RetScan w (scanF ar s.data.toList n p)) := by
  have hsz : s.data.toList.length = s.size := by rw [Array.length_toList]; rfl
  intro n
  induction n with
  | zero => intro p w hn hp; omega
  | succ n ih =>
    intro p w hn hp hv
    have IH := Lib.hid ih; clear ih
    have hv0 := hv
    obtain ⟨ad, cap, rfl, -, -, hr⟩ := hv
    have hlen := sign_len ar hg
    obtain ⟨i0, hi0, hz0, hz1, hz2⟩ := info_parts Try.info3
    rw [hsz] at hn hp
    by_cases hlt : p < s.size
    · have hget := sa_get s p hlt
      have hbb : ((s[p].toNat : Nat) : Int) < 256 := by have := s[p].toNat_lt; omega
      have hbb0 : (0 : Int) ≤ ((s[p].toNat : Nat) : Int) := by omega
      cases hsym : symAt ar s[p] with
      | none =>
        have E := Lib.hid (scan_bad (f := n) hget hsym)
        have h1 : inB (s[p].toNat) 65 76 = false := by
          unfold symAt at hsym; cases h : inB (s[p].toNat) 65 76 with
          | false => rfl
          | true => rw [h] at hsym; simp at hsym
        have h2 : inB (s[p].toNat) 97 (97 + (ar.length : Int) - 1) = false := by
          unfold symAt at hsym; rw [h1] at hsym; cases h : inB (s[p].toNat) 97 (97 + (ar.length : Int) - 1) with
          | false => rfl
          | true => rw [h] at hsym; simp at hsym
        have H1 := Lib.hid h1; have H2 := Lib.hid h2
        clear h1 h2 hsym hget hr
        go_enter Try.func166, Try.ntmps166
        go_wp2_with fail
        refine (l1In_f _ _ _ _ H1.out).mono ?_; rintro e w1 ⟨rfl, hb1⟩
        have hx1 := boxc hb1 0 _ rfl
        go_wp2_with fail
        refine (l1In_f _ _ _ _ H2.out).mono ?_; rintro e w2 ⟨rfl, hb2⟩
        go_wp2_with fail
        go_ret3
        exact ⟨_, _, _, by rw [E.out]; rfl, by rw [E.out]; exact OwnI.nil _ _ _, hb1.of_alloc.step hb2⟩
      | some x =>
        by_cases hvar : inB (s[p].toNat) 65 76 = true
        · have hx : x = -1 - ((s[p].toNat : Int) - 65) := by unfold symAt at hsym; rw [if_pos hvar] at hsym; simpa using hsym.symm
          have hneg : x < 0 := by simp [inB] at hvar; omega
          have E := Lib.hid (scan_leaf (f := n) hget hsym (arOf_neg hneg))
          have HX := Lib.hid hx
          have H1 := Lib.hid hvar
          clear hvar hsym hget hr hx
          go_enter Try.func166, Try.ntmps166
          go_wp2_with fail
          refine (l1In_t _ _ _ _ H1.out).mono ?_; rintro e w1 ⟨rfl, hb1⟩
          go_wp2_with fail
          go_ret3
          exact ⟨_, _, _, by rw [E.out]; rfl, by rw [E.out, HX.out]; exact (OwnI.of_row (own1 w1 _)).mono (by have := hb1.size; simp at this; omega) (Nat.le_refl _), hb1.of_alloc.alloc _⟩
        · have h1 : inB (s[p].toNat) 65 76 = false := by simpa using hvar
          have h2 : inB (s[p].toNat) 97 (97 + (ar.length : Int) - 1) = true := by
            unfold symAt at hsym; rw [if_neg hvar] at hsym; cases h : inB (s[p].toNat) 97 (97 + (ar.length : Int) - 1) with
            | true => rfl
            | false => rw [h] at hsym; simp at hsym
          have hx : x = (s[p].toNat : Int) - 97 := by unfold symAt at hsym; rw [if_neg hvar, if_pos h2] at hsym; simpa using hsym.symm
          have h97 : 97 ≤ s[p].toNat ∧ s[p].toNat - 97 < ar.length := by simp [inB] at h2; omega
          have h97a : (97 : Int) ≤ ((s[p].toNat : Nat) : Int) := by omega
          have h97b : ((s[p].toNat : Nat) : Int) - 97 < ar.length := by omega
          subst hx
          obtain ⟨b, off, rfl, hbl, hcell⟩ := rd hr (Bel.rfl' w) (s[p].toNat - 97) h97.2
          have har : arOf ar ((s[p].toNat : Int) - 97) = (ar.getD (s[p].toNat - 97) 0).toNat := by
            unfold arOf; rw [if_neg (by omega), sub97 _ h97.1]
          have hn03 := ar_nonneg ar hg (s[p].toNat - 97)
          obtain ⟨a, haq⟩ : ∃ a : Nat, ar.getD (s[p].toNat - 97) 0 = a := ⟨(ar.getD (s[p].toNat - 97) 0).toNat, by omega⟩
          rw [haq] at hcell har hn03
          rw [show ((a : Int)).toNat = a from by omega] at har
          have H1 := Lib.hid h1; have H2 := Lib.hid h2
          clear haq hr hvar h1 h2
          by_cases ha0 : a = 0
          · have E := Lib.hid (scan_leaf (f := n) hget hsym (by rw [har, ha0]))
            have ha1 : (a : Int) ≤ 0 := by omega
            clear hsym hget har ha0
            go_enter Try.func166, Try.ntmps166
            go_wp2_with fail
            refine (l1In_f _ _ _ _ H1.out).mono ?_; rintro e w1 ⟨rfl, hb1⟩
            have hx1 := boxc hb1 0 _ rfl
            go_wp2_with fail
            refine (l1In_t _ _ _ _ H2.out).mono ?_; rintro e w2 ⟨rfl, hb2⟩
            have hb12 := hb1.step hb2
            have hx2 := boxc hb12 0 _ rfl
            have hb13 := hb12.alloc (.cells #[.int .i64 ((s[p].toNat : Int) - 97)] 3)
            have hx3 := boxc hb13 0 _ rfl
            have hc3 := hb13.of_alloc.at hbl hcell
            go_wp2_with fail
            refine wp_loop_rounds 1 ?_
            rw [rounds_succ]
            go_wp2_with fail
            go_ret3
            exact ⟨_, _, _, by rw [E.out]; rfl, by rw [E.out]; exact (OwnI.of_row (own1 w2 _)).mono (by have := hb12.size; simp at this; omega) (Nat.le_refl _), hb12.of_alloc.alloc _⟩
          · have E := Lib.hid (scan_args (f := n) hget hsym (by rw [har]; exact ha0))
            rw [har] at E
            have ha1 : (1 : Int) ≤ (a : Int) := by omega
            have ha3 : (a : Int) ≤ 3 := hn03.2
            clear hsym hget har ha0
            go_enter Try.func166, Try.ntmps166
            go_wp2_with fail
            refine (l1In_f _ _ _ _ H1.out).mono ?_; rintro e w1 ⟨rfl, hb1⟩
            have hx1 := boxc hb1 0 _ rfl
            go_wp2_with fail
            refine (l1In_t _ _ _ _ H2.out).mono ?_; rintro e w2 ⟨rfl, hb2⟩
            have hb12 := hb1.step hb2
            have hx2 := boxc hb12 0 _ rfl
            go_wp2_with fail
            go_loopw [2, 10, 11] (fun at' o k' wr => ∃ (q k : Nat) (acc : List Int), k ≤ a ∧ p < q ∧ q ≤ s.size ∧ acc.length ≤ q - p ∧ at' = .int .i64 q ∧ k' = .int .i64 k ∧
                scanF ar s.data.toList (n + 1) p = scanArgs (scanF ar s.data.toList n) s.data.toList (a - k) k acc q ∧
                wr.ownsRow (w.heap.size + 1) 3 1 o acc.length (acc.map (Value.int .i64)) ∧ Bel (w.alloc (.cells #[.slice (some ⟨b, off, none⟩) ar.length cap] 29)) wr) (fun _ _ k' _ => a - (intOf k').toNat)
            case atStart => exact ⟨p + 1, 0, [(s[p].toNat : Int) - 97], Nat.zero_le _, by omega, by omega, by simp, by go_num, rfl, E.out, own_mono (own1 w2 _) (by have := hb12.size; simp at this; omega), hb12.alloc _⟩
            case round =>
              obtain ⟨q, k, acc, hka, hpq, hqs, hal, rfl, rfl, hsc, hown, hbr⟩ := hrel
              have hbox := boxc hbr 0 _ rfl
              have hcr := hbr.of_alloc.at hbl hcell
              have HSC := Lib.hid hsc
              clear hsc
              by_cases hka2 : k < a
              · have HAM := Lib.hid (show a - k = (a - (k + 1)) + 1 from by omega)
                by_cases hql : q < s.size
                · have hgq := sa_get s q hql
                  by_cases hsep : s[q] = sepC k
                  · have hgs : s.data.toList[q]? = some (sepC k) := by rw [hgq, hsep]
                    have hok := scanF_ok ar s.data.toList n (q + 1) (by omega)
                    have hcall : ∀ w2, SlI l h w2 (.slice (some ⟨b, off, none⟩) ar.length cap) ar → Calls Try.prog 166 #[.agg #[.slice (some ⟨b, off, none⟩) ar.length cap], .string s, .int .i64 ((q : Int) + 1)] w2 (RetScan w2 (scanF ar s.data.toList n (q + 1))) := fun w2 h => IH.out (q + 1) w2 (by omega) (by omega) h
                    have hbad : (scanF ar s.data.toList n (q + 1)).2.2 = false → scanF ar s.data.toList (n + 1) p = ([], (scanF ar s.data.toList n (q + 1)).2.1, false) := fun h => by rw [HSC.out, HAM.out]; exact args_bad hgs h
                    have hnext : (scanF ar s.data.toList n (q + 1)).2.2 = true → scanF ar s.data.toList (n + 1) p = scanArgs (scanF ar s.data.toList n) s.data.toList (a - (k + 1)) (k + 1) (acc ++ (scanF ar s.data.toList n (q + 1)).1) (scanF ar s.data.toList n (q + 1)).2.1 := fun h => by rw [HSC.out, HAM.out]; exact args_next hgs h
                    generalize scanF ar s.data.toList n (q + 1) = r at *
                    obtain ⟨rt, re, rb⟩ := r
                    rw [ScanOk, hsz] at hok
                    obtain ⟨hre, hok1, -⟩ := hok
                    have HCALL := Lib.hid hcall
                    have hsgn : (if k = 0 then ((((s[q].toNat : Nat) : Int) != 40) = false ∧ ((k : Int) == 0) = true) else ((((s[q].toNat : Nat) : Int) != 44) = false ∧ ((k : Int) == 0) = false)) := by
                      rw [hsep]
                      by_cases hk0 : k = 0
                      · simp [hk0, sepC]
                      · simp [hk0, sepC]
                    clear hcall hgs hgq hsep IH
                    by_cases hk0 : k = 0
                    all_goals
                      first | rw [if_pos hk0] at hsgn | rw [if_neg hk0] at hsgn
                      obtain ⟨hsg1, hsg2⟩ := hsgn
                      clear hk0
                      cases rb with
                      | false =>
                        have E4 := Lib.hid (hbad rfl)
                        clear hbad hnext hok1
                        go_wp2_with fail
                        refine (HCALL.out _ (hv0.below hbr.of_alloc)).mono ?_; rintro e w3 ⟨a3, n3, c3, rfl, ho3, hb3⟩
                        go_wp2_with fail
                        go_ret3
                        exact ⟨_, _, _, by rw [E4.out]; rfl, by rw [E4.out]; exact OwnI.nil _ _ _, hbr.of_alloc.step hb3⟩
                      | true =>
                        have E4 := Lib.hid (hnext rfl)
                        obtain ⟨hok2, hok3⟩ := hok1 rfl
                        simp only at hok2 hok3 hre
                        clear hbad hnext hok1
                        have hrt : rt.length ≤ 1048576 := by omega
                        have hac : acc.length ≤ 1048576 := by omega
                        go_wp2_with fail
                        refine (HCALL.out _ (hv0.below hbr.of_alloc)).mono ?_; rintro e w3 ⟨a3, n3, c3, rfl, ho3, hb3⟩
                        have hbox3 := boxc (hbr.step hb3) 0 _ rfl
                        have hown3 := ownsRow_bel hown hb3
                        simp only at ho3
                        obtain rfl : n3 = rt.length := by obtain ⟨_, _, e, _⟩ := ho3.1; simp at e; exact e.2.1
                        cases a3 with
                        | none =>
                          obtain ⟨ad', cap', e, -, hm, hr⟩ := ho3.1
                          simp only [Value.slice.injEq] at e
                          obtain ⟨rfl, -, rfl⟩ := e
                          obtain rfl : rt = [] := by
                            rcases Nat.eq_zero_or_pos rt.length with h0 | h0
                            · exact List.length_eq_zero_iff.1 h0
                            · obtain ⟨_, _, e, _⟩ := hr h0; simp at e
                          obtain rfl : c3 = 0 := hm.2 rfl
                          clear hr hm ho3
                          go_wp2_with (at_builtin; refine wpList_append_own_none rfl _ _ 22 rfl (w.heap.size + 1) 3 i0 1 Try.underlying22 hi0 _ _ _ rfl hown3 rfl ?_)
                          go_roundw
                          case rel => exact ⟨re, k + 1, acc, by omega, by omega, by omega, by omega, rfl, by go_num, by rw [E4.out]; simp, hown3, hbr.step hb3⟩
                          case measure => simp [intOf]; omega
                        | some ra =>
                          have hnw := news_of_sl ho3.sl
                          clear ho3
                          go_wp2_with (at_builtin; refine wpList_append_own _ rfl _ _ 22 rfl (w.heap.size + 1) 3 i0 (.int .i64 0) 1 8 Try.underlying22 hi0 hz0 hz1 hz2 rfl (by decide) _ _ _ rfl hown3 ra rt.length c3 (rt.map (Value.int .i64)) rfl (by simp) hnw (ones_int _) (by unfold maxLen; omega) (by omega) (by have := (hbr.step hb3).size; simp at this; omega) ?_; intro v' w4 hown' hgrow _)
                          have hb4 := (hbr.step hb3).grown hgrow (fun k hk => by have := own_base hown3 k hk; simp; omega)
                          have hown2 : w4.ownsRow (w.heap.size + 1) 3 1 v' (acc ++ rt).length ((acc ++ rt).map (Value.int .i64)) := by simpa using hown'
                          go_roundw
                          case rel => exact ⟨re, k + 1, acc ++ rt, by omega, by omega, by omega, by simp; omega, rfl, by go_num, E4.out, hown2, hb4⟩
                          case measure => simp [intOf]; omega
                  · have E4 : Hid (scanF ar s.data.toList (n + 1) p = ([], q, false)) := by
                      show _ = _; rw [HSC.out, HAM.out]; exact args_nosep (by rw [hgq]; simpa using hsep)
                    by_cases hk0 : k = 0
                    · have hk1 : ((k : Int) == 0) = true := by simpa using hk0
                      have hne : (((s[q].toNat : Nat) : Int) != 40) = true := u8_ne (a := s[q]) (b := 40) (by rw [show (40 : UInt8) = sepC k from by simp [sepC, hk0]]; exact hsep)
                      clear hsep hgq hk0
                      go_wp2_with fail
                      go_ret3
                      exact ⟨_, _, _, by rw [E4.out]; rfl, by rw [E4.out]; exact OwnI.nil _ _ _, hbr.of_alloc⟩
                    · have hk1 : ((k : Int) == 0) = false := by simpa using hk0
                      have hne : (((s[q].toNat : Nat) : Int) != 44) = true := u8_ne (a := s[q]) (b := 44) (by rw [show (44 : UInt8) = sepC k from by simp [sepC, hk0]]; exact hsep)
                      clear hsep hgq hk0
                      go_wp2_with fail
                      go_ret3
                      exact ⟨_, _, _, by rw [E4.out]; rfl, by rw [E4.out]; exact OwnI.nil _ _ _, hbr.of_alloc⟩
                · have E4 : Hid (scanF ar s.data.toList (n + 1) p = ([], q, false)) := by
                    show _ = _; rw [HSC.out, HAM.out]; exact args_nosep (by rw [List.getElem?_eq_none (by omega)]; simp)
                  have hqe : ((q : Int) == s.size) = true := by rw [beq_iff_eq]; omega
                  clear hql
                  go_wp2_with fail
                  all_goals
                    go_ret3
                    exact ⟨_, _, _, by rw [E4.out]; rfl, by rw [E4.out]; exact OwnI.nil _ _ _, hbr.of_alloc⟩
              · have HAM := Lib.hid (show a - k = 0 from by omega)
                by_cases hql : q < s.size
                · have hgq := sa_get s q hql
                  by_cases hsep : s[q] = 41
                  · have E4 : Hid (scanF ar s.data.toList (n + 1) p = (acc, q + 1, true)) := by
                      show _ = _; rw [HSC.out, HAM.out]; exact args_done (by rw [hgq, hsep])
                    have hne : (((s[q].toNat : Nat) : Int) != 41) = false := by rw [hsep]; rfl
                    obtain ⟨g, m, c, hv'⟩ := own_form hown
                    subst hv'
                    clear hsep hgq
                    go_wp2_with fail
                    go_ret3
                    exact ⟨_, _, _, by rw [E4.out]; rfl, by rw [E4.out]; exact (OwnI.of_row hown).mono (by omega) (Nat.le_refl _), hbr.of_alloc⟩
                  · have E4 : Hid (scanF ar s.data.toList (n + 1) p = ([], q, false)) := by
                      show _ = _; rw [HSC.out, HAM.out]; exact args_noclose (by rw [hgq]; simpa using hsep)
                    have hne : (((s[q].toNat : Nat) : Int) != 41) = true := u8_ne (a := s[q]) (b := 41) hsep
                    clear hsep hgq
                    go_wp2_with fail
                    go_ret3
                    exact ⟨_, _, _, by rw [E4.out]; rfl, by rw [E4.out]; exact OwnI.nil _ _ _, hbr.of_alloc⟩
                · have E4 : Hid (scanF ar s.data.toList (n + 1) p = ([], q, false)) := by
                    show _ = _; rw [HSC.out, HAM.out]; exact args_noclose (by rw [List.getElem?_eq_none (by omega)]; simp)
                  have hqe : ((q : Int) == s.size) = true := by rw [beq_iff_eq]; omega
                  clear hql
                  go_wp2_with fail
                  go_ret3
                  exact ⟨_, _, _, by rw [E4.out]; rfl, by rw [E4.out]; exact OwnI.nil _ _ _, hbr.of_alloc⟩
    · have E := Lib.hid (scan_end (ar := ar) (T := s.data.toList) (f := n) (p := p) (by omega))
      rw [hsz] at E
      clear hr
      go_enter Try.func166, Try.ntmps166
      go_wp2_with fail
      go_ret3
      exact ⟨_, _, _, by rw [E.out]; rfl, by rw [E.out]; exact OwnI.nil _ _ _, Bel.alloc0 _ _⟩
end Go.Proofs.Ytikllmdmifecpaa
end
section
namespace Go.Proofs.Ytikllmdmifecpaa
open Go.RowKit
set_option maxRecDepth 100000

theorem slIndex_q (s : ByteArray) (c : Int) (w : World) :
    Calls Try.prog 213 #[.string s, .int .u8 c] w fun e w' => e = .returned (.int .i64 (Lib.indexByte s.data.toList c.toNat.toUInt8)) ∧ w' = w := by
  go_enter Try.func213, Try.ntmps213
  go_wp2_with fail
  rw [run_callFunc_extern Try.func215 (by kernel_rfl) (by kernel_rfl) (by kernel_rfl) (e := Extern.BytealgIndexByte.indexByte) (by kernel_rfl), Lib.run_indexByteString]
  simp only [Result.andThen]
  rw [Oper.upon_value]
  go_wp2_with fail
  go_ret
  exact ⟨rfl, rfl⟩
theorem sIndex_q (s : ByteArray) (c : Int) (w : World) :
    Calls Try.prog 206 #[.string s, .int .u8 c] w fun e w' => e = .returned (.int .i64 (Lib.indexByte s.data.toList c.toNat.toUInt8)) ∧ w' = w := by
  go_enter Try.func206, Try.ntmps206
  go_wp2_with (go_at_call 213; refine (slIndex_q s c _).mono ?_; rintro e w' ⟨rfl, rfl⟩)
  go_ret
  exact ⟨rfl, rfl⟩

theorem varIdx : ∀ n : Nat, n < 256 → Lib.indexByte [65, 66, 67, 68, 69, 70, 71, 72, 73, 74, 75, 76] (UInt8.ofNat n) = if inB n 65 76 then (n : Int) - 65 else -1 := by decide +kernel
theorem symIdx : ∀ n : Nat, n < 256 → Lib.indexByte [97, 98, 99, 100, 101, 102, 103, 104, 105, 106] (UInt8.ofNat n) = if inB n 97 106 then (n : Int) - 97 else -1 := by decide +kernel
theorem varIdx_v (c : UInt8) (w : World) : Calls Try.prog 206 #[.string ⟨#[65, 66, 67, 68, 69, 70, 71, 72, 73, 74, 75, 76]⟩, .int .u8 (c.toNat : Int)] w fun e w' => e = .returned (.int .i64 (if inB c.toNat 65 76 then (c.toNat : Int) - 65 else -1)) ∧ w' = w := by
  have h := sIndex_q ⟨#[65, 66, 67, 68, 69, 70, 71, 72, 73, 74, 75, 76]⟩ (c.toNat : Int) w
  have h2 := varIdx c.toNat c.toNat_lt
  simp only [Int.toNat_natCast] at h
  rw [← h2]; exact h
theorem symIdx_v (c : UInt8) (w : World) : Calls Try.prog 206 #[.string ⟨#[97, 98, 99, 100, 101, 102, 103, 104, 105, 106]⟩, .int .u8 (c.toNat : Int)] w fun e w' => e = .returned (.int .i64 (if inB c.toNat 97 106 then (c.toNat : Int) - 97 else -1)) ∧ w' = w := by
  have h := sIndex_q ⟨#[97, 98, 99, 100, 101, 102, 103, 104, 105, 106]⟩ (c.toNat : Int) w
  have h2 := symIdx c.toNat c.toNat_lt
  simp only [Int.toNat_natCast] at h
  rw [← h2]; exact h

def numV (ar : List Int) (c : UInt8) : Value := match symAt ar c with | none => .tuple #[.int .i64 0, .bool false] | some x => .tuple #[.int .i64 x, .bool true]

set_option maxRecDepth 100000 in
theorem numberOf_c (l h : Nat) (v : Value) (ar : List Int) (c : UInt8) (w : World) (hg : goodSign ar = true) (hv : SlI l h w v ar) :
    Calls Try.prog 191 #[.agg #[v], .int .u8 (c.toNat : Int)] w (RetV w (numV ar c)) := by
  have hlen := sign_len ar hg
  obtain ⟨ad, cap, rfl⟩ := hv.form
  have hbb : ((c.toNat : Nat) : Int) < 256 := by have := c.toNat_lt; omega
  have hv1 := varIdx_v c
  have hs1 := symIdx_v c
  by_cases h1 : inB c.toNat 65 76 = true
  · have E : Hid (numV ar c = .tuple #[.int .i64 (-1 - ((c.toNat : Int) - 65)), .bool true]) := by show _ = _; unfold numV symAt; rw [if_pos h1]
    simp only [if_pos h1] at hv1
    have HV := Lib.hid hv1
    have h65 : (65 : Int) ≤ c.toNat := by simp [inB] at h1; omega
    clear hv1 hs1 h1
    go_enter Try.func191, Try.ntmps191
    go_wp2_with fail
    refine (HV.out _).mono ?_; rintro e w1 ⟨rfl, rfl⟩
    have hge : decide ((c.toNat : Int) - 65 ≥ 0) = true := by simp; omega
    go_wp2_with fail
    go_ret2
    exact ⟨by rw [E.out]; rfl, Bel.alloc0 _ _⟩
  · simp only [if_neg h1] at hv1
    have HV := Lib.hid hv1
    by_cases h2 : inB c.toNat 97 106 = true
    · simp only [if_pos h2] at hs1
      have HS := Lib.hid hs1
      by_cases h3 : (c.toNat : Int) - 97 < ar.length
      · have E : Hid (numV ar c = .tuple #[.int .i64 ((c.toNat : Int) - 97), .bool true]) := by
          show _ = _; unfold numV symAt; rw [if_neg h1, if_pos (by simp [inB] at h2 ⊢; omega)]
        have h97 : (97 : Int) ≤ c.toNat := by simp [inB] at h2; omega
        clear hv1 hs1 h1 h2
        go_enter Try.func191, Try.ntmps191
        go_wp2_with fail
        refine (HV.out _).mono ?_; rintro e w1 ⟨rfl, rfl⟩
        go_wp2_with fail
        refine (HS.out _).mono ?_; rintro e w1 ⟨rfl, rfl⟩
        go_wp2_with fail
        go_ret2
        exact ⟨by rw [E.out]; rfl, Bel.alloc0 _ _⟩
      · have E : Hid (numV ar c = .tuple #[.int .i64 0, .bool false]) := by
          show _ = _; unfold numV symAt; rw [if_neg h1, if_neg (by simp [inB] at h2 ⊢; omega)]
        have h97 : (97 : Int) ≤ c.toNat := by simp [inB] at h2; omega
        clear hv1 hs1 h1 h2
        go_enter Try.func191, Try.ntmps191
        go_wp2_with fail
        refine (HV.out _).mono ?_; rintro e w1 ⟨rfl, rfl⟩
        go_wp2_with fail
        refine (HS.out _).mono ?_; rintro e w1 ⟨rfl, rfl⟩
        go_wp2_with fail
        go_ret2
        exact ⟨by rw [E.out]; rfl, Bel.alloc0 _ _⟩
    · simp only [if_neg h2] at hs1
      have HS := Lib.hid hs1
      have E : Hid (numV ar c = .tuple #[.int .i64 0, .bool false]) := by
        show _ = _; unfold numV symAt; rw [if_neg h1, if_neg (by simp [inB] at h2 ⊢; omega)]
      clear hv1 hs1 h1 h2
      go_enter Try.func191, Try.ntmps191
      go_wp2_with fail
      refine (HV.out _).mono ?_; rintro e w1 ⟨rfl, rfl⟩
      go_wp2_with fail
      refine (HS.out _).mono ?_; rintro e w1 ⟨rfl, rfl⟩
      go_wp2_with fail
      go_ret2
      exact ⟨by rw [E.out]; rfl, Bel.alloc0 _ _⟩

theorem cut1 (s : ByteArray) (q : Nat) (h : q < s.size) : (s.extract q s.size).extract 0 1 = ⟨#[s[q]]⟩ := by
  apply ByteArray.ext
  simp only [ByteArray.data_extract]
  apply Array.ext
  · have h' : q < s.data.size := h
    simp; omega
  · intro i h1 h2
    simp at h2
    subst h2
    have h' : q < s.data.size := h
    simp only [Array.getElem_extract]
    rfl
theorem one_eq (a b : UInt8) : ((⟨#[a]⟩ : ByteArray).toList == [b]) = decide (some a = some b) := by
  have h : (⟨#[a]⟩ : ByteArray).toList = [a] := by rw [ByteArray.toList_eq]
  rw [h, Bool.eq_iff_iff]; simp

theorem slPrefix_q (s : ByteArray) (q : Nat) (b : UInt8) (hq : q ≤ s.size) (hs : s.size ≤ 1048576) (w : World) :
    Calls Try.prog 182 #[.string (s.extract q s.size), .string ⟨#[b]⟩] w fun e w' => e = .returned (.bool (decide (s.data.toList[q]? = some b))) ∧ w' = w := by
  by_cases h : q < s.size
  · have E : Hid ((((s.extract q s.size).extract 0 1).toList == [b]) = decide (s.data.toList[q]? = some b)) := by
      show _ = _; rw [cut1 s q h, one_eq, sa_get s q h]
    go_enter Try.func182, Try.ntmps182
    go_wp2_with fail
    go_ret
    exact ⟨by rw [← E.out]; rfl, rfl⟩
  · have E : Hid (decide (s.data.toList[q]? = some b) = false) := by
      show _ = _; rw [List.getElem?_eq_none (by rw [Array.length_toList]; show s.size ≤ q; omega)]; rfl
    go_enter Try.func182, Try.ntmps182
    go_wp2_with fail
    go_ret
    exact ⟨by first | (rw [E.out]; rfl) | rfl | (simp; rfl), rfl⟩
theorem sPrefix_v (s : ByteArray) (q : Nat) (b : UInt8) (r : Bool) (hr : decide (s.data.toList[q]? = some b) = r) (hq : q ≤ s.size) (hs : s.size ≤ 1048576) (w : World) :
    Calls Try.prog 163 #[.string (s.extract q s.size), .string ⟨#[b]⟩] w fun e w' => e = .returned (.bool r) ∧ w' = w := by
  have h := fun w => slPrefix_q s q b hq hs w
  rw [hr] at h
  have HH := Lib.hid h
  clear h hr
  go_enter Try.func163, Try.ntmps163
  go_wp2_with (go_at_call 182; refine (HH.out _).mono ?_; rintro e w' ⟨rfl, rfl⟩)
  go_ret
  exact ⟨rfl, rfl⟩
end Go.Proofs.Ytikllmdmifecpaa
end
section
namespace Go.Proofs.Ytikllmdmifecpaa
open Go.RowKit

theorem numV_none {ar : List Int} {c : UInt8} (h : symAt ar c = none) : numV ar c = .tuple #[.int .i64 0, .bool false] := by simp [numV, h]
theorem numV_some {ar : List Int} {c : UInt8} {x : Int} (h : symAt ar c = some x) : numV ar c = .tuple #[.int .i64 x, .bool true] := by simp [numV, h]
theorem numberOf_v (l h : Nat) (v : Value) (ar : List Int) (c : UInt8) (r : Value) (he : numV ar c = r) (w : World) (hg : goodSign ar = true) (hv : SlI l h w v ar) :
    Calls Try.prog 191 #[.agg #[v], .int .u8 (c.toNat : Int)] w (RetV w r) := he ▸ numberOf_c l h v ar c w hg hv
theorem sym_bd {ar : List Int} {c : UInt8} {x : Int} (h : symAt ar c = some x) : -12 ≤ x ∧ x < ar.length := by
  unfold symAt at h
  by_cases h1 : inB c.toNat 65 76 = true
  · rw [if_pos h1] at h; simp [inB] at h1 h; omega
  · rw [if_neg h1] at h
    by_cases h2 : inB c.toNat 97 (97 + (ar.length : Int) - 1) = true
    · rw [if_pos h2] at h; simp [inB] at h2 h; omega
    · rw [if_neg h2] at h; simp at h

set_option maxRecDepth 100000 in
set_option maxHeartbeats 4000000 in
theorem scanTerm_c (l h : Nat) (v : Value) (ar : List Int) (s : ByteArray) (hg : goodSign ar = true) (hs : s.size ≤ 1048576) :
    ∀ (n p : Nat) (w : World), s.data.toList.length + 1 - p ≤ n → p ≤ s.data.toList.length → SlI l h w v ar → Calls Try.prog 183 #[.agg #[v], .string s, .int .i64 p] w (RetScan w (scanF ar s.data.toList n p)) := by
  have hsz : s.data.toList.length = s.size := by rw [Array.length_toList]; rfl
  intro n
  induction n with
  | zero => intro p w hn hp; omega
  | succ n ih =>
    intro p w hn hp hv
    have IH := Lib.hid ih; clear ih
    have hv0 := hv
    obtain ⟨ad, cap, rfl, -, -, hr⟩ := hv
    have hlen := sign_len ar hg
    obtain ⟨i0, hi0, hz0, hz1, hz2⟩ := info_parts Try.info3
    rw [hsz] at hn hp
    by_cases hlt : p < s.size
    · have hget := sa_get s p hlt
      have hlt2 : (p : Int) < s.size := by omega
      have hbx := boxc (Bel.rfl' (w.alloc (.cells #[.slice ad ar.length cap] 29))) 0 _ rfl
      cases hsym : symAt ar s[p] with
      | none =>
        have E := Lib.hid (scan_bad (f := n) hget hsym)
        have HN := Lib.hid (numV_none hsym)
        clear hsym hget hr
        go_enter Try.func183, Try.ntmps183
        go_wp2_with fail
        go_region_held3 (fun w' => Bel (w.alloc (.cells #[.slice ad ar.length cap] 29)) w' ∧ w'.cell? ⟨w.heap.size, 0, none⟩ = some (.slice ad ar.length cap))
          (first | exact ⟨Bel.drew0 _, hbx⟩ | exact ⟨hb1.of_drew, boxc hb1.of_drew 0 _ rfl⟩)
          (first | (go_at_call 191; refine (numberOf_v _ _ _ ar s[p] _ HN.out _ hg ((hv0.alloc _).below (Bel.drew0 _))).mono ?_; rintro e w1 ⟨rfl, hb1⟩))
        go_wp2_with fail
        go_ret3
        exact ⟨_, _, _, by rw [E.out]; rfl, by rw [E.out]; exact OwnI.nil _ _ _, hb1.of_drew.of_alloc⟩
      | some x =>
        obtain ⟨hx12, hxl⟩ := sym_bd hsym
        have HN := Lib.hid (numV_some hsym)
        by_cases hx0 : x < 0
        · have E := Lib.hid (scan_leaf (f := n) hget hsym (arOf_neg hx0))
          have hx0' : decide (x < 0) = true := by simpa using hx0
          clear hsym hget hr
          go_enter Try.func183, Try.ntmps183
          go_wp2_with fail
          go_region_held3 (fun w' => Bel (w.alloc (.cells #[.slice ad ar.length cap] 29)) w' ∧ w'.cell? ⟨w.heap.size, 0, none⟩ = some (.slice ad ar.length cap))
            (first | exact ⟨Bel.drew0 _, hbx⟩ | exact ⟨hb1.of_drew, boxc hb1.of_drew 0 _ rfl⟩)
            (first | (go_at_call 191; refine (numberOf_v _ _ _ ar s[p] _ HN.out _ hg ((hv0.alloc _).below (Bel.drew0 _))).mono ?_; rintro e w1 ⟨rfl, hb1⟩))
          go_wp2_with fail
          go_ret3
          exact ⟨_, _, _, by rw [E.out]; rfl, by rw [E.out]; exact (OwnI.of_row (own1 w1 _)).mono (by have := hb1.of_drew.size; simp at this; omega) (Nat.le_refl _), hb1.of_drew.of_alloc.alloc _⟩
        · obtain ⟨m, rfl⟩ : ∃ m : Nat, x = m := ⟨x.toNat, by omega⟩
          have hml : m < ar.length := by omega
          obtain ⟨b, off, rfl, hbl, hcell⟩ := rd hr (Bel.rfl' w) m hml
          have hn03 := ar_nonneg ar hg m
          have har : arOf ar (m : Int) = (ar.getD m 0).toNat := arOf_nat m
          obtain ⟨a, haq⟩ : ∃ a : Nat, ar.getD m 0 = a := ⟨(ar.getD m 0).toNat, by omega⟩
          rw [haq] at hcell har hn03
          rw [show ((a : Int)).toNat = a from by omega] at har
          have hx0' : decide ((m : Int) < 0) = false := by simp
          clear haq hr hx0
          by_cases ha0 : a = 0
          · have E := Lib.hid (scan_leaf (f := n) hget hsym (by rw [har, ha0]))
            have ha1 : ((a : Int) == 0) = true := by rw [beq_iff_eq]; omega
            clear hsym hget har ha0
            go_enter Try.func183, Try.ntmps183
            go_wp2_with fail
            go_region_held3 (fun w' => Bel (w.alloc (.cells #[.slice (some ⟨b, off, none⟩) ar.length cap] 29)) w' ∧ w'.cell? ⟨w.heap.size, 0, none⟩ = some (.slice (some ⟨b, off, none⟩) ar.length cap))
              (first | exact ⟨Bel.drew0 _, hbx⟩ | exact ⟨hb1.of_drew, boxc hb1.of_drew 0 _ rfl⟩)
              (first | (go_at_call 191; refine (numberOf_v _ _ _ ar s[p] _ HN.out _ hg ((hv0.alloc _).below (Bel.drew0 _))).mono ?_; rintro e w1 ⟨rfl, hb1⟩))
            have hb13 := hb1.of_drew.alloc (.cells #[.int .i64 (m : Int)] 3)
            have hx3 := boxc hb13 0 _ rfl
            have hc3 := hb13.of_alloc.at hbl hcell
            go_wp2_with fail
            go_ret3
            exact ⟨_, _, _, by rw [E.out]; rfl, by rw [E.out]; exact (OwnI.of_row (own1 w1 _)).mono (by have := hb1.of_drew.size; simp at this; omega) (Nat.le_refl _), hb1.of_drew.of_alloc.alloc _⟩
          · have E := Lib.hid (scan_args (f := n) hget hsym (by rw [har]; exact ha0))
            rw [har] at E
            have ha1 : ((a : Int) == 0) = false := by simpa using ha0
            have ha3 : (a : Int) ≤ 3 := hn03.2
            clear hsym hget har ha0
            go_enter Try.func183, Try.ntmps183
            go_wp2_with fail
            go_region_held3 (fun w' => Bel (w.alloc (.cells #[.slice (some ⟨b, off, none⟩) ar.length cap] 29)) w' ∧ w'.cell? ⟨w.heap.size, 0, none⟩ = some (.slice (some ⟨b, off, none⟩) ar.length cap))
              (first | exact ⟨Bel.drew0 _, hbx⟩ | exact ⟨hb1.of_drew, boxc hb1.of_drew 0 _ rfl⟩)
              (first | (go_at_call 191; refine (numberOf_v _ _ _ ar s[p] _ HN.out _ hg ((hv0.alloc _).below (Bel.drew0 _))).mono ?_; rintro e w1 ⟨rfl, hb1⟩))
            have hb13 := hb1.of_drew.alloc (.cells #[.int .i64 (m : Int)] 3)
            have hx3 := boxc hb13 0 _ rfl
            have hc3 := hb13.of_alloc.at hbl hcell
            go_wp2_with fail
            go_loopw [2, 11, 54] (fun at' o k' wr => ∃ (q k : Nat) (acc : List Int), k ≤ a ∧ p < q ∧ q ≤ s.size ∧ acc.length ≤ q - p ∧ at' = .int .i64 q ∧ k' = .int .i64 k ∧
                scanF ar s.data.toList (n + 1) p = scanArgs (scanF ar s.data.toList n) s.data.toList (a - k) k acc q ∧
                wr.ownsRow (w.heap.size + 1) 3 1 o acc.length (acc.map (Value.int .i64)) ∧ Bel (w.alloc (.cells #[.slice (some ⟨b, off, none⟩) ar.length cap] 29)) wr) (fun _ _ k' _ => a - (intOf k').toNat)
            case atStart => exact ⟨p + 1, 0, [(m : Int)], Nat.zero_le _, by omega, by omega, by simp, by go_num, rfl, E.out, own_mono (own1 w1 _) (by have := hb1.of_drew.size; simp at this; omega), hb13⟩
            case round =>
              obtain ⟨q, k, acc, hka, hpq, hqs, hal, rfl, rfl, hsc, hown, hbr⟩ := hrel
              have hbox := boxc hbr 0 _ rfl
              have hqs2 : (q : Int) ≤ s.size := by omega
              have HSC := Lib.hid hsc
              clear hsc
              by_cases hka2 : k < a
              · have HAM := Lib.hid (show a - k = (a - (k + 1)) + 1 from by omega)
                by_cases hsep : s.data.toList[q]? = some (sepC k)
                · have HP := Lib.hid (show decide (s.data.toList[q]? = some (sepC k)) = true from by simpa using hsep)
                  have hql : q < s.size := by have := (List.getElem?_eq_some_iff.1 hsep).1; omega
                  have hok := scanF_ok ar s.data.toList n (q + 1) (by omega)
                  have hcall : ∀ w2, SlI l h w2 (.slice (some ⟨b, off, none⟩) ar.length cap) ar → Calls Try.prog 183 #[.agg #[.slice (some ⟨b, off, none⟩) ar.length cap], .string s, .int .i64 ((q : Int) + 1)] w2 (RetScan w2 (scanF ar s.data.toList n (q + 1))) := fun w2 h => IH.out (q + 1) w2 (by omega) (by omega) h
                  have hbad : (scanF ar s.data.toList n (q + 1)).2.2 = false → scanF ar s.data.toList (n + 1) p = ([], (scanF ar s.data.toList n (q + 1)).2.1, false) := fun h => by rw [HSC.out, HAM.out]; exact args_bad hsep h
                  have hnext : (scanF ar s.data.toList n (q + 1)).2.2 = true → scanF ar s.data.toList (n + 1) p = scanArgs (scanF ar s.data.toList n) s.data.toList (a - (k + 1)) (k + 1) (acc ++ (scanF ar s.data.toList n (q + 1)).1) (scanF ar s.data.toList n (q + 1)).2.1 := fun h => by rw [HSC.out, HAM.out]; exact args_next hsep h
                  generalize scanF ar s.data.toList n (q + 1) = r at *
                  obtain ⟨rt, re, rb⟩ := r
                  rw [ScanOk, hsz] at hok
                  obtain ⟨hre, hok1, -⟩ := hok
                  have HCALL := Lib.hid hcall
                  clear hcall hsep IH
                  cases rb with
                  | false =>
                    have E4 := Lib.hid (hbad rfl)
                    clear hbad hnext hok1
                    go_wp2_with fail
                    go_quiet ((first | (go_at_call 177; exact Calls.quiet_of_same (markBefore_q k (sepC k) rfl _)) | (go_at_call 163; exact Calls.quiet_of_same (sPrefix_v s q (sepC k) true HP.out (by omega) hs _))))
                    go_wp2_with fail
                    refine (HCALL.out _ (hv0.below (hbr.of_alloc.drewN _))).mono ?_; rintro e w3 ⟨a3, n3, c3, rfl, ho3, hb3⟩
                    go_wp2_with fail
                    go_ret3
                    exact ⟨_, _, _, by rw [E4.out]; rfl, by rw [E4.out]; exact OwnI.nil _ _ _, (hbr.of_alloc.drewN _).step hb3⟩
                  | true =>
                    have E4 := Lib.hid (hnext rfl)
                    obtain ⟨hok2, hok3⟩ := hok1 rfl
                    simp only at hok2 hok3 hre
                    clear hbad hnext hok1
                    have hrt : rt.length ≤ 1048576 := by omega
                    have hac : acc.length ≤ 1048576 := by omega
                    go_wp2_with fail
                    go_quiet ((first | (go_at_call 177; exact Calls.quiet_of_same (markBefore_q k (sepC k) rfl _)) | (go_at_call 163; exact Calls.quiet_of_same (sPrefix_v s q (sepC k) true HP.out (by omega) hs _))))
                    go_wp2_with fail
                    refine (HCALL.out _ (hv0.below (hbr.of_alloc.drewN _))).mono ?_; rintro e w3 ⟨a3, n3, c3, rfl, ho3, hb3⟩
                    have hbr3 := (hbr.drewN _).step hb3
                    have hbox3 := boxc hbr3 0 _ rfl
                    have hown3 := ownsRow_bel hown (((Bel.rfl' wr).drewN _).step hb3)
                    simp only at ho3
                    obtain rfl : n3 = rt.length := by obtain ⟨_, _, e, _⟩ := ho3.1; simp at e; exact e.2.1
                    cases a3 with
                    | none =>
                      obtain ⟨ad', cap', e, -, hm, hr⟩ := ho3.1
                      simp only [Value.slice.injEq] at e
                      obtain ⟨rfl, -, rfl⟩ := e
                      obtain rfl : rt = [] := by
                        rcases Nat.eq_zero_or_pos rt.length with h0 | h0
                        · exact List.length_eq_zero_iff.1 h0
                        · obtain ⟨_, _, e, _⟩ := hr h0; simp at e
                      obtain rfl : c3 = 0 := hm.2 rfl
                      clear hr hm ho3
                      go_wp2_with (at_builtin; refine wpList_append_own_none rfl _ _ 22 rfl (w.heap.size + 1) 3 i0 1 Try.underlying22 hi0 _ _ _ rfl hown3 rfl ?_)
                      go_roundw
                      case rel => exact ⟨re, k + 1, acc, by omega, by omega, by omega, by omega, rfl, by go_num, by rw [E4.out]; simp, hown3, hbr3⟩
                      case measure => simp [intOf]; omega
                    | some ra =>
                      have hnw := news_of_sl ho3.sl
                      clear ho3
                      go_wp2_with (at_builtin; refine wpList_append_own _ rfl _ _ 22 rfl (w.heap.size + 1) 3 i0 (.int .i64 0) 1 8 Try.underlying22 hi0 hz0 hz1 hz2 rfl (by decide) _ _ _ rfl hown3 ra rt.length c3 (rt.map (Value.int .i64)) rfl (by simp) hnw (ones_int _) (by unfold maxLen; omega) (by omega) (by have := hbr3.size; simp at this; omega) ?_; intro v' w4 hown' hgrow _)
                      have hb4 := hbr3.grown hgrow (fun k hk => by have := own_base hown3 k hk; simp; omega)
                      have hown2 : w4.ownsRow (w.heap.size + 1) 3 1 v' (acc ++ rt).length ((acc ++ rt).map (Value.int .i64)) := by simpa using hown'
                      go_roundw
                      case rel => exact ⟨re, k + 1, acc ++ rt, by omega, by omega, by omega, by simp; omega, rfl, by go_num, E4.out, hown2, hb4⟩
                      case measure => simp [intOf]; omega
                · have E4 : Hid (scanF ar s.data.toList (n + 1) p = ([], q, false)) := by
                    show _ = _; rw [HSC.out, HAM.out]; exact args_nosep hsep
                  have HP := Lib.hid (show decide (s.data.toList[q]? = some (sepC k)) = false from by simpa using hsep)
                  clear hsep
                  go_wp2_with fail
                  go_quiet ((first | (go_at_call 177; exact Calls.quiet_of_same (markBefore_q k (sepC k) rfl _)) | (go_at_call 163; exact Calls.quiet_of_same (sPrefix_v s q (sepC k) false HP.out (by omega) hs _))))
                  go_wp2_with fail
                  go_ret3
                  exact ⟨_, _, _, by rw [E4.out]; rfl, by rw [E4.out]; exact OwnI.nil _ _ _, hbr.of_alloc.drewN _⟩
              · have HAM := Lib.hid (show a - k = 0 from by omega)
                by_cases hsep : s.data.toList[q]? = some 41
                · have E4 : Hid (scanF ar s.data.toList (n + 1) p = (acc, q + 1, true)) := by
                    show _ = _; rw [HSC.out, HAM.out]; exact args_done hsep
                  have HP := Lib.hid (show decide (s.data.toList[q]? = some (41 : UInt8)) = true from by simpa using hsep)
                  have hql : q < s.size := by have := (List.getElem?_eq_some_iff.1 hsep).1; omega
                  obtain ⟨g, m2, c, hv'⟩ := own_form hown
                  subst hv'
                  clear hsep
                  go_wp2_with fail
                  refine (sPrefix_v s q 41 true HP.out (by omega) hs _).mono ?_; rintro e w5 ⟨rfl, rfl⟩
                  go_wp2_with fail
                  go_ret3
                  exact ⟨_, _, _, by rw [E4.out]; rfl, by rw [E4.out]; exact (OwnI.of_row hown).mono (by omega) (Nat.le_refl _), hbr.of_alloc⟩
                · have E4 : Hid (scanF ar s.data.toList (n + 1) p = ([], q, false)) := by
                    show _ = _; rw [HSC.out, HAM.out]; exact args_noclose hsep
                  have HP := Lib.hid (show decide (s.data.toList[q]? = some (41 : UInt8)) = false from by simpa using hsep)
                  clear hsep
                  go_wp2_with fail
                  refine (sPrefix_v s q 41 false HP.out (by omega) hs _).mono ?_; rintro e w5 ⟨rfl, rfl⟩
                  go_wp2_with fail
                  go_ret3
                  exact ⟨_, _, _, by rw [E4.out]; rfl, by rw [E4.out]; exact OwnI.nil _ _ _, hbr.of_alloc⟩
    · have E := Lib.hid (scan_end (ar := ar) (T := s.data.toList) (f := n) (p := p) (by omega))
      rw [hsz] at E
      clear hr
      have hge : decide ((p : Int) ≥ s.size) = true := by simp; omega
      go_enter Try.func183, Try.ntmps183
      go_wp2_with fail
      go_ret3
      exact ⟨_, _, _, by rw [E.out]; rfl, by rw [E.out]; exact OwnI.nil _ _ _, Bel.alloc0 _ _⟩
end Go.Proofs.Ytikllmdmifecpaa
end
section
/- ReadTerm: both functions. -/
namespace Go.Proofs.Ytikllmdmifecpaa
open Go.RowKit

/-- What has been read is a term. -/
def ReadOk (ar : List Int) (r : Scanned) : Prop := r.2.2 = true → endGo ar r.1 1 0 = some r.1.length ∧ 1 ≤ r.1.length
theorem args_read (ar : List Int) (g : Nat → Scanned) (T : List UInt8) (hg : ∀ q, ReadOk ar (g q)) : ∀ (m k : Nat) (acc : List Int) (p : Nat), 1 ≤ acc.length → (∀ rest, endGo ar (acc ++ rest) 1 0 = endGo ar rest m acc.length) → ReadOk ar (scanArgs g T m k acc p) := by
  intro m
  induction m with
  | zero =>
    intro k acc p h1 h2
    by_cases h : T[p]? = some 41
    · rw [args_done h]
      intro _
      have := h2 []
      rw [List.append_nil, endGo_zero] at this
      exact ⟨this, h1⟩
    · rw [args_noclose h]; intro h; simp at h
  | succ m ih =>
    intro k acc p h1 h2
    by_cases h : T[p]? = some (sepC k)
    · cases hb : (g (p + 1)).2.2 with
      | false => rw [args_bad h hb]; intro h; simp at h
      | true =>
        rw [args_next h hb]
        obtain ⟨h3, h4⟩ := hg (p + 1) hb
        refine ih _ _ _ (by simp; omega) (fun rest => ?_)
        rw [List.append_assoc, h2, show m + 1 = 1 + m from by omega, endGo_add]
        have h5 : endGo ar ((g (p + 1)).1 ++ rest) 1 acc.length = some ((g (p + 1)).1.length + acc.length) := by
          have := endGo_shift ar ((g (p + 1)).1 ++ rest) 1 0 acc.length
          rw [Nat.zero_add] at this
          rw [this, endGo_ext ar _ _ _ _ _ h3]; rfl
        rw [h5]
        simp only [Option.bind_some, Nat.add_sub_cancel, List.drop_left', List.length_append]
        rw [Nat.add_comm]
    · rw [args_nosep h]; intro h; simp at h
theorem scan_read (ar : List Int) (T : List UInt8) : ∀ (f p : Nat), ReadOk ar (scanF ar T f p) := by
  intro f
  induction f with
  | zero => intro p h; simp [scanF] at h
  | succ f ih =>
    intro p
    by_cases hl : p < T.length
    · obtain ⟨b, h⟩ : ∃ b, T[p]? = some b := ⟨T[p], List.getElem?_eq_getElem hl⟩
      cases hs : symAt ar b with
      | none => rw [scan_bad h hs]; intro h; simp at h
      | some n =>
        have hok : okSym ar n = true := by have := sym_bd hs; simp [okSym, inB]; omega
        by_cases h0 : arOf ar n = 0
        · rw [scan_leaf h hs h0]
          intro _
          refine ⟨?_, by simp⟩
          show endGo ar [n] 1 0 = some 1
          rw [endGo_cons, if_pos hok, h0, endGo_zero]
        · rw [scan_args h hs h0]
          refine args_read ar _ T ih _ _ _ _ (by simp) (fun rest => ?_)
          show endGo ar (n :: rest) 1 0 = endGo ar rest (arOf ar n) 1
          rw [endGo_cons, if_pos hok, Nat.zero_add]
    · rw [scan_end hl]; intro h; simp at h
theorem read_term {ar : List Int} {r : Scanned} (h : ReadOk ar r) (hb : r.2.2 = true) : okTerm ar r.1 = decide (r.1.length ≤ 40) := by
  obtain ⟨h1, h2⟩ := h hb
  rw [Bool.eq_iff_iff, okTerm_iff, decide_eq_true_eq]
  constructor
  · exact fun h => h.2.1
  · exact fun h3 => ⟨h2, h3, by unfold endOf; rw [List.drop_zero]; exact h1⟩

/-- What ReadTerm answers. -/
def readCore (ar : List Int) (n : Nat) (r : Scanned) : Scanned := if r.2.2 = false ∨ r.2.1 < n then ([], r.2.1, false) else if r.1.length ≤ 40 then r else ([], 0, false)
def readAns (ar : List Int) (s : ByteArray) : Scanned :=
  if goodSign ar = true ∧ s.size ≤ 200 then readCore ar s.size (scanF ar s.data.toList (s.data.toList.length + 1) 0) else ([], 0, false)
theorem readAns_len (ar : List Int) (s : ByteArray) : (readAns ar s).1.length ≤ 1048576 := by
  unfold readAns readCore
  split
  · split
    · exact Nat.zero_le _
    · split
      · rename_i h; exact Nat.le_trans h (by omega)
      · exact Nat.zero_le _
  · exact Nat.zero_le _
theorem read_no {ar : List Int} {s : ByteArray} (h : ¬ (goodSign ar = true ∧ s.size ≤ 200)) : readAns ar s = ([], 0, false) := if_neg h
theorem read_yes {ar : List Int} {s : ByteArray} (h1 : goodSign ar = true) (h2 : s.size ≤ 200) : readAns ar s = readCore ar s.size (scanF ar s.data.toList (s.data.toList.length + 1) 0) := if_pos ⟨h1, h2⟩

end Go.Proofs.Ytikllmdmifecpaa
end
section
/- Unify: a round. -/
namespace Go.Proofs.Ytikllmdmifecpaa
open Go.RowKit Go.Maps

theorem getD_mem {t : List Int} {i : Nat} (h : i < t.length) : t.getD i 0 ∈ t := by
  rw [show t.getD i 0 = t[i] from by simp [List.getD, h]]; exact List.getElem_mem h
theorem partOf_infix (t : List Int) (i e : Nat) : partOf t i e <:+: t := (List.take_prefix _ _).isInfix.trans (List.drop_suffix _ _).isInfix
theorem rawL_getA {F : Nat → List Int} (h : ∀ v, 12 ≤ v → F v = []) (v : Nat) : (rawL F).getD v [] = F v := by
  rcases Nat.lt_or_ge v 12 with h1 | h1
  · exact rawL_get F v h1
  · rw [h v h1]
    unfold rawL
    simp only [List.getD]
    rw [List.getElem?_eq_none (by simp; omega)]
    rfl
theorem other_or (x y : List Int) : other x y = x ∨ other x y = y := by unfold other; split <;> simp

/-- What is known of a round that begins with two different terms. -/
structure URound (ar x y : List Int) (n : Int) (o u : List Int) (d e : Nat) : Prop where
  dx : d < x.length
  dy : d < y.length
  ne : x.getD d 0 ≠ y.getD d 0
  low : -12 ≤ n
  oo : okTerm ar o = true
  dd : d < o.length
  en : endOf ar o d = some e
  de : d < e
  eo : e ≤ o.length
  pu : u = partOf o d e
  ok : okTerm ar u = true
theorem uround {ar a0 b0 x y : List Int} {F : Nat → List Int} (h : UInv ar a0 b0 x y F) (hne : x ≠ y) : ∃ e, URound ar x y (lowN x y) (other x y) (putU ar x y) (dif x y) e := by
  obtain ⟨h1, h2, h3⟩ := dif_at (okTerm_seq.1 h.okx).2 (okTerm_seq.1 h.oky).2 hne
  have hoo : okTerm ar (other x y) = true := by rcases other_or x y with e | e <;> rw [e]; exact h.okx; exact h.oky
  have hdd : dif x y < (other x y).length := by rcases other_or x y with e | e <;> rw [e] <;> assumption
  obtain ⟨e, he, hde, heo⟩ := good_end ar _ hoo _ hdd
  have hpu : putU ar x y = partOf (other x y) (dif x y) e := by unfold putU; rw [he]; rfl
  refine ⟨e, h1, h2, h3, ?_, hoo, hdd, he, hde, heo, hpu, ?_⟩
  · have a1 := okTerm_low h.okx _ h1
    have a2 := okTerm_low h.oky _ h2
    unfold lowN; split <;> assumption
  · rw [hpu]; exact partOf_ok ar _ _ _ hoo hdd he

structure UOk (ar a0 b0 x y : List Int) (F : Nat → List Int) (n : Int) (u : List Int) : Prop where
  neg : n < 0
  lo : -12 ≤ n
  not : n ∉ u
  free : F (-1 - n).toNat = []
  u40 : u.length ≤ 40
  up : 0 < u.length
  lx : (putFor n u x).length ≤ 1600
  ly : (putFor n u y).length ≤ 1600
  lF : ∀ v, (nextF n u F v).length ≤ 1600
  ax : putFor n u x = appT (rawL (nextF n u F)) a0
  ay : putFor n u y = appT (rawL (nextF n u F)) b0
  sx : seqT ar 1 (putFor n u x)
  sy : seqT ar 1 (putFor n u y)
  next : ¬ longU ar x y → UInv ar a0 b0 (putFor n u x) (putFor n u y) (nextF n u F)
  more : cnt (nextF n u F) 12 = cnt F 12 + 1
theorem app_next {n : Int} {u : List Int} {F : Nat → List Int} (hn : n < 0) (hu : u ≠ []) (hF : F (-1 - n).toNat = []) (hlow : ∀ v, 12 ≤ v → F v = []) (hn12 : -12 ≤ n) (t : List Int) : putFor n u (appT (rawL F) t) = appT (rawL (nextF n u F)) t := by
  have hlow2 : ∀ v, 12 ≤ v → nextF n u F v = [] := by
    intro v hv
    unfold nextF
    rw [upd_other _ _ (by omega), hlow v hv]; rfl
  unfold appT
  induction t with
  | nil => rfl
  | cons m t ih =>
    rw [List.flatMap_cons, List.flatMap_cons, putFor_append, ih]
    congr 1
    by_cases hm : m < 0
    · by_cases e : m = n
      · subst e
        rw [one1_free (by rw [rawL_getA hlow, hF]; simp), one1_var hm (by rw [rawL_getA hlow2]; unfold nextF; rw [upd_same]; exact List.length_pos_iff.2 hu), rawL_getA hlow2]
        unfold nextF
        rw [upd_same, putFor_cons, if_pos rfl, putFor_nil, List.append_nil]
      · have hv : (-1 - m).toNat ≠ (-1 - n).toNat := by omega
        have hG : nextF n u F (-1 - m).toNat = putFor n u (F (-1 - m).toNat) := by unfold nextF; rw [upd_other _ _ hv]
        by_cases hE : F (-1 - m).toNat = []
        · rw [one1_free (by rw [rawL_getA hlow, hE]; simp), one1_free (by rw [rawL_getA hlow2, hG, hE]; simp [putFor_nil]), putFor_cons, if_neg e, putFor_nil]; rfl
        · rw [one1_var hm (by rw [rawL_getA hlow]; exact List.length_pos_iff.2 hE), one1_var hm (by rw [rawL_getA hlow2, hG]; exact List.length_pos_iff.2 (putFor_ne hu hE)), rawL_getA hlow, rawL_getA hlow2, hG]
    · rw [one1_sym hm, one1_sym hm, putFor_cons, if_neg (by omega), putFor_nil]; rfl
theorem uok {ar a0 b0 x y : List Int} {F : Nat → List Int} (h : UInv ar a0 b0 x y F) (hne : x ≠ y) (hb : ¬ badU ar x y) : UOk ar a0 b0 x y F (lowN x y) (putU ar x y) := by
  obtain ⟨e, hR⟩ := uround h hne
  have hnb : ¬ 0 ≤ lowN x y ∧ lowN x y ∉ putU ar x y := by unfold badU at hb; exact not_or.1 hb
  have hmem : lowN x y ∈ x ∨ lowN x y ∈ y := by unfold lowN; split; exact .inr (getD_mem hR.dy); exact .inl (getD_mem hR.dx)
  have hlg : ¬ longU ar x y → (putFor (lowN x y) (putU ar x y) x).length ≤ 40 ∧ (putFor (lowN x y) (putU ar x y) y).length ≤ 40 := by unfold longU; omega
  have hsub : ∀ m, m ∈ putU ar x y → m ∈ x ∨ m ∈ y := by
    intro m hm
    rw [hR.pu] at hm
    have := (partOf_infix _ _ _).subset hm
    rcases other_or x y with e | e <;> rw [e] at this
    · exact .inl this
    · exact .inr this
  have hinf : putU ar x y <:+: x ∨ putU ar x y <:+: y := by
    have := partOf_infix (other x y) (dif x y) e
    rw [← hR.pu] at this
    rcases other_or x y with e | e <;> rw [e] at this
    · exact .inl this
    · exact .inr this
  have hlow := hR.low
  have hu := hR.ok
  clear hR hb hne
  generalize lowN x y = n at *
  generalize putU ar x y = u at *
  obtain ⟨hn, hnu⟩ := hnb
  have hn : n < 0 := by omega
  have hu40 := (okTerm_seq.1 hu).1
  have hup := ((okTerm_iff _ _).1 hu).1
  have hun : u ≠ [] := List.length_pos_iff.1 hup
  have hvn : (-1 - (((-1 - n).toNat : Nat) : Int)) = n := by omega
  have hfree : F (-1 - n).toNat = [] := by
    rcases Classical.em (F (-1 - n).toNat = []) with e | e
    · exact e
    · rcases hmem with h1 | h1
      · exact absurd (by rwa [hvn]) (h.notx _ e)
      · exact absurd (by rwa [hvn]) (h.noty _ e)
  have hx40 := (okTerm_seq.1 h.okx).1
  have hy40 := (okTerm_seq.1 h.oky).1
  have hlx : (putFor n u x).length ≤ 1600 := by have := putFor_len (n := n) (t := x) hu40 (by omega); omega
  have hly : (putFor n u y).length ≤ 1600 := by have := putFor_len (n := n) (t := y) hu40 (by omega); omega
  have hax : putFor n u x = appT (rawL (nextF n u F)) a0 := by rw [← app_next hn hun hfree h.low hlow, ← h.appx]
  have hay : putFor n u y = appT (rawL (nextF n u F)) b0 := by rw [← app_next hn hun hfree h.low hlow, ← h.appy]
  have hus := (okTerm_seq.1 hu).2
  have hsx := putFor_seq hn hus (okTerm_seq.1 h.okx).2
  have hsy := putFor_seq hn hus (okTerm_seq.1 h.oky).2
  have hnext : ∀ v, v ≠ (-1 - n).toNat → nextF n u F v = putFor n u (F v) := fun v hv => by unfold nextF; rw [upd_other _ _ hv]
  have hnew : nextF n u F (-1 - n).toNat = u := by unfold nextF; rw [upd_same]
  have hpe : ∀ v, v ≠ (-1 - n).toNat → (F v = [] ↔ nextF n u F v = []) := by
    intro v hv
    rw [hnext v hv]
    constructor
    · intro e; rw [e]; rfl
    · intro e
      rcases Classical.em (F v = []) with e2 | e2
      · exact e2
      · exact absurd e (putFor_ne hun e2)
  refine ⟨hn, hlow, hnu, hfree, hu40, hup, hlx, hly, ?_, hax, hay, hsx, hsy, ?_, ?_⟩
  · intro v
    by_cases e : v = (-1 - n).toNat
    · rw [e, hnew]; omega
    · rw [hnext v e]
      have := putFor_len (n := n) (t := F v) hu40 (by omega)
      have := h.len40 v
      omega
  · intro hl
    obtain ⟨hl1, hl2⟩ := hlg hl
    refine ⟨okTerm_seq.2 ⟨by omega, hsx⟩, okTerm_seq.2 ⟨by omega, hsy⟩, hax, hay, ?_, ?_, ?_, ?_, ?_⟩
    · intro v hv
      by_cases e : v = (-1 - n).toNat
      · rw [e, hnew]
        rcases hinf with h1 | h1
        · left; have := putFor_infix (n := n) (u := u) h1; rwa [putFor_not hnu] at this
        · right; have := putFor_infix (n := n) (u := u) h1; rwa [putFor_not hnu] at this
      · rw [hnext v e]
        exact (h.inf v (fun h => hv ((hpe v e).1 h))).imp putFor_infix putFor_infix
    · intro v hv
      by_cases e : v = (-1 - n).toNat
      · rw [e, hnew]; exact hus
      · rw [hnext v e]; exact putFor_seq hn hus (h.seq v (fun h => hv ((hpe v e).1 h)))
    · intro v hv hm
      by_cases e : v = (-1 - n).toNat
      · rw [e, hvn] at hm
        rcases putFor_mem hm with h1 | h1
        · exact hnu h1
        · exact h1.2 rfl
      · have hv2 : F v ≠ [] := fun h => hv ((hpe v e).1 h)
        rcases putFor_mem hm with h1 | h1
        · rcases hsub _ h1 with h2 | h2
          · exact h.notx v hv2 h2
          · exact h.noty v hv2 h2
        · exact h.notx v hv2 h1.1
    · intro v hv hm
      by_cases e : v = (-1 - n).toNat
      · rw [e, hvn] at hm
        rcases putFor_mem hm with h1 | h1
        · exact hnu h1
        · exact h1.2 rfl
      · have hv2 : F v ≠ [] := fun h => hv ((hpe v e).1 h)
        rcases putFor_mem hm with h1 | h1
        · rcases hsub _ h1 with h2 | h2
          · exact h.notx v hv2 h2
          · exact h.noty v hv2 h2
        · exact h.noty v hv2 h1.1
    · intro v hv
      rw [hnext v (by omega), h.low v hv]; rfl
  · exact cnt_new hfree (by rw [hnew]; exact hun) hpe (by omega)

def uniOk0 (ar a b : List Int) : Bool := goodTerm ar a && okTerm ar b
def uniR (ar a b : List Int) : Option (Nat → List Int) := uniGo ar 13 a b (fun _ => [])
def unifyOk (ar a b : List Int) : Bool := uniOk0 ar a b && (uniR ar a b).isSome
def unifyAns (ar a b : List Int) : List (List Int) := if uniOk0 ar a b then (match uniR ar a b with | some F => substL F | none => []) else []
theorem unify_no0 {ar a b : List Int} (h : uniOk0 ar a b = false) : unifyAns ar a b = [] ∧ unifyOk ar a b = false := by simp [unifyAns, unifyOk, h]
theorem unify_no {ar a b : List Int} (h : uniR ar a b = none) : unifyAns ar a b = [] ∧ unifyOk ar a b = false := by
  unfold unifyAns unifyOk
  rw [h]
  simp
theorem unify_yes {ar a b : List Int} {F : Nat → List Int} (h0 : uniOk0 ar a b = true) (h : uniR ar a b = some F) : unifyAns ar a b = substL F ∧ unifyOk ar a b = true := by
  unfold unifyAns unifyOk
  rw [h, h0]
  simp
theorem ug_len {ar a0 b0 : List Int} : ∀ (k : Nat) (x y : List Int) (F G : Nat → List Int), UInv ar a0 b0 x y F → uniGo ar k x y F = some G → ∀ v, (G v).length ≤ 40 := by
  intro k
  induction k with
  | zero => intro x y F G h e; simp [uniGo] at e
  | succ k ih =>
    intro x y F G h e
    by_cases h1 : x = y
    · rw [ug_same h1] at e
      simp at e
      rw [← e]; exact h.len40
    · by_cases h2 : badU ar x y
      · rw [ug_bad h1 h2] at e; simp at e
      · by_cases h3 : longU ar x y
        · rw [ug_long h1 h2 h3] at e; simp at e
        · rw [ug_next h1 h2 h3] at e
          exact ih _ _ _ _ ((uok h h1 h2).next h3) e
theorem unifyAns_len (ar a b : List Int) : tot (unifyAns ar a b) ≤ 1048576 := by
  unfold unifyAns
  split
  · rename_i h0
    simp only [uniOk0, Bool.and_eq_true] at h0
    have hp := (goodTerm_iff.1 h0.1).2
    cases h : uniR ar a b with
    | none => simp [tot, sumL]
    | some F =>
      have := ug_len 13 a b _ F (UInv.start hp h0.2) (by simpa [uniR] using h)
      exact substL_tot F (fun v _ => this v)
  · simp [tot, sumL]
end Go.Proofs.Ytikllmdmifecpaa
end
section
/- Unify: the reference's inner functions. -/
namespace Go.Proofs.Ytikllmdmifecpaa
open Go.RowKit Go.Maps

def sizesOk (ar : List Int) (b : List (List Int)) (x y : List Int) : Bool := b.all (okEmpty ar) && okTerm ar x && okTerm ar y

/-- The substitution of one term. -/
def oneF (v : Nat) (t : List Int) : Nat → List Int := upd (fun _ => []) v t
theorem oneF_get (v : Nat) (t : List Int) (hv : v < 12) (j : Nat) : (rawL (oneF v t)).getD j [] = if j = v then t else [] := by
  rw [rawL_getA (fun k hk => by unfold oneF; rw [upd_other _ _ (by omega)])]
  unfold oneF upd
  rfl
theorem oneF_app {v : Nat} {t : List Int} (hv : v < 12) (ht : 0 < t.length) (s : List Int) : appT (rawL (oneF v t)) s = putFor (-1 - (v : Int)) t s := by
  unfold appT putFor
  congr 1
  funext m
  by_cases hm : m < 0
  · by_cases e : m = -1 - (v : Int)
    · have e2 : (-1 - m).toNat = v := by omega
      rw [if_pos e, one1_var hm (by rw [oneF_get v t hv, e2, if_pos rfl]; exact ht), oneF_get v t hv, e2, if_pos rfl]
    · have e2 : (-1 - m).toNat ≠ v := by omega
      rw [if_neg e, one1_free (by rw [oneF_get v t hv, if_neg e2]; simp)]
  · rw [if_neg (by omega), one1_sym hm]
theorem oneF_lens {v : Nat} {t : List Int} (hv : v < 12) (ht : t.length ≤ 40) : lens40 (rawL (oneF v t)) := by
  intro j _
  rw [oneF_get v t hv]
  split <;> simp [ht]
theorem one_sls (w : World) (l h v : Nat) (x : Value) (t : List Int) (hv : v < 12) (hx : SlI l h w x t) (hp : 0 < t.length) :
    SlS 0 (w.heap.size + 1) ((w.alloc (.cells (madeCells #[.slice none 0 0] 12) 22)).setCell ⟨w.heap.size, v, none⟩ x) (.slice (some ⟨w.heap.size, 0, none⟩) 12 12) (rawL (oneF v t)) := by
  have hr := ((rep12 w).stored v x).1
  refine ⟨_, 12, by rw [rawL_len], by rw [rawL_len]; exact Nat.le_refl _, ⟨by unfold maxLen; omega, fun h => by simp at h⟩, fun _ => ⟨w.heap.size, 0, rfl, Nat.zero_le _, Nat.lt_succ_self _, fun j hj => ?_⟩⟩
  rw [rawL_len] at hj
  have hc := hr.cellAt j (by omega)
  rw [Nat.zero_add, hc, List.getElem?_set, oneF_get v t hv]
  by_cases e : v = j
  · subst e
    rw [if_pos rfl, if_pos rfl, if_pos (by simpa using hv)]
    refine ⟨x, rfl, ?_⟩
    exact (((hx.in').alloc _).set (p := ⟨w.heap.size, v, none⟩) (.inr (Nat.le_refl _)) x).mono (Nat.zero_le _) (Nat.le_succ _)
  · rw [if_neg e, if_neg (Ne.symm e), List.getElem?_replicate, if_pos (by simpa using hj)]
    exact ⟨_, rfl, SlI.nil _ _ _⟩

/-- The same with longer terms. -/
def lensW (b : List (List Int)) : Prop := ∀ j, j < b.length → (b.getD j []).length ≤ 1600
theorem getD_lenW {b : List (List Int)} (h : lensW b) (j : Nat) : (b.getD j []).length ≤ 1600 := by
  rcases Nat.lt_or_ge j b.length with h1 | h1
  · exact h j h1
  · simp [List.getD, List.getElem?_eq_none h1]
theorem one1_lenW {b : List (List Int)} (h : lensW b) (n : Int) : (one1 b n).length ≤ 1600 := by
  unfold one1
  split
  · exact getD_lenW h _
  · simp
theorem appT_lenW {b : List (List Int)} (h : lensW b) (t : List Int) : (appT b t).length ≤ 1600 * t.length := by
  unfold appT
  induction t with
  | nil => simp
  | cons n t ih =>
    have := one1_lenW h n
    rw [List.flatMap_cons, List.length_append, List.length_cons]
    omega
set_option maxRecDepth 100000 in
set_option maxHeartbeats 400000 in
theorem l2Apply_w (l h l' h' : Nat) (v u : Value) (b : List (List Int)) (t : List Int) (w : World) (hlen : b.length = 12) (hb : lensW b) (ht : t.length ≤ 40) (hlow : ∀ k, k < t.length → -12 ≤ t.getD k 0) (hu : SlS l' h' w u b) (hv : SlI l h w v t) :
    Calls Try.prog 84 #[u, v] w (RetI w (appT b t)) := by
  obtain ⟨i0, hi0, hz0, hz1, hz2⟩ := info_parts Try.info3
  obtain ⟨ad', cap', rfl⟩ := hu.form
  have HN := Lib.hid hlen; clear hlen
  obtain ⟨ad, cap, rfl, -, -, hr⟩ := hv
  go_enter Try.func84, Try.ntmps84
  go_wp2_with fail
  go_loopw [5, 10] (fun vs i wr => ∃ k : Nat, k ≤ t.length ∧ i = .int .i64 k ∧ wr.ownsRow w.heap.size 3 1 vs (appT b (t.take k)).length ((appT b (t.take k)).map (Value.int .i64)) ∧ Bel w wr) (fun _ i _ => t.length - (intOf i).toNat)
  case atStart => exact ⟨0, Nat.zero_le _, rfl, World.ownsRow_nil _ _ _ _, Bel.rfl' _⟩
  case round =>
    obtain ⟨k, hk, rfl, hown, hb2⟩ := hrel
    by_cases hlt : k < t.length
    · obtain ⟨bt, offt, rfl, hbl, hcell⟩ := rd hr hb2 k hlt
      have hx12 := hlow k hlt
      have hsucc := appT_succ b t k hlt
      have hal := appT_lenW hb (t.take k)
      have hal2 : (appT b (t.take k)).length ≤ 64000 := by simp at hal; omega
      have h40 := getD_lenW hb (-1 - t.getD k 0).toNat
      clear hr hlow hal
      generalize t.getD k 0 = x at *
      generalize appT b (t.take k) = acc at *
      generalize hq : appT b (t.take (k+1)) = nxt at *
      by_cases hx : x < 0
      · have hm : (-1 - x).toNat < b.length := by have hN : b.length = 12 := HN.out; omega
        have hi0' : 0 ≤ -1 - x := by omega
        have hi1 : -1 - x < b.length := by have hN : b.length = 12 := HN.out; omega
        obtain ⟨bb, off, p, rfl, -, hc, hp⟩ := hu.at hb2 _ hm
        have hv1 := fun h1 => one1_var (b := b) hx h1
        have hv2 := fun h1 => one1_free (b := b) (n := x) h1
        generalize b.getD (-1 - x).toNat [] = tt at *
        by_cases hpos : 0 < tt.length
        · rw [hv1 hpos] at hsucc
          obtain ⟨pb, po, pc, rfl, hpc⟩ := hp.plain hpos
          have hn := news_of_sl hp
          have HS := Lib.hid (And.intro hq hsucc)
          clear hv1 hv2 hq hsucc
          go_wp2_with (at_builtin; refine wpList_append_own _ rfl _ _ 22 rfl w.heap.size 3 i0 (.int .i64 0) 1 8 Try.underlying22 hi0 hz0 hz1 hz2 rfl (by decide) _ _ _ rfl hown ⟨pb, po, none⟩ tt.length pc (tt.map (Value.int .i64)) rfl (by simp) hn (ones_int _) (by unfold maxLen; first | omega | (simp; omega)) (by first | omega | (simp; omega)) (by have := hb2.size; first | omega | (simp; omega)) ?_; intro v' w1 hown' hgrow _)
          have hb3 := hb2.grown hgrow (fun k hk => own_base hown k hk)
          have hown2 := row_app (by simpa using hown')
          go_roundw
          case rel =>
            have e := HS.out.1.trans HS.out.2
            exact ⟨k+1, by omega, by go_num, by rw [HS.out.1, HS.out.2]; exact hown2, hb3⟩
          case measure => simp [intOf]; omega
        · rw [hv2 hpos] at hsucc
          have HS := Lib.hid (And.intro hq hsucc)
          have h0 : tt.length = 0 := by omega
          obtain ⟨ap, cp, rfl⟩ := hp.form
          rw [h0] at hc
          clear hv1 hv2 hp hpos h0 hq hsucc
          go_wp2_with (at_builtin; refine wpList_append_own _ rfl _ _ 22 rfl w.heap.size 3 i0 (.int .i64 0) 1 8 Try.underlying22 hi0 hz0 hz1 hz2 rfl (by decide) _ _ _ rfl (hown.alloc _) ⟨wr.heap.size, 0, none⟩ 1 1 [.int .i64 x] rfl rfl (news_one _ _ _) (one_int _) (by unfold maxLen; first | omega | (simp; omega)) (by first | omega | (simp; omega)) (by have := hb2.size; first | omega | (simp; omega)) ?_; intro v' w1 hown' hgrow _; have hb3 := (hb2.alloc (.cells #[.int .i64 x] 3)).grown hgrow (fun k hk => own_base hown k hk); have hown2 := row_snoc hown')
          go_roundw
          case rel => exact ⟨k+1, by omega, by go_num, by rw [HS.out.1, HS.out.2]; exact hown2, hb3⟩
          case measure => simp [intOf]; omega
      · rw [one1_sym hx] at hsucc
        have HS := Lib.hid (And.intro hq hsucc)
        clear hq hsucc
        go_wp2_with (at_builtin; refine wpList_append_own _ rfl _ _ 22 rfl w.heap.size 3 i0 (.int .i64 0) 1 8 Try.underlying22 hi0 hz0 hz1 hz2 rfl (by decide) _ _ _ rfl (hown.alloc _) ⟨wr.heap.size, 0, none⟩ 1 1 [.int .i64 x] rfl rfl (news_one _ _ _) (one_int _) (by unfold maxLen; first | omega | (simp; omega)) (by first | omega | (simp; omega)) (by have := hb2.size; first | omega | (simp; omega)) ?_; intro v' w1 hown' hgrow _; have hb3 := (hb2.alloc (.cells #[.int .i64 x] 3)).grown hgrow (fun k hk => own_base hown k hk); have hown2 := row_snoc hown')
        go_roundw
        case rel => exact ⟨k+1, by omega, by go_num, by rw [HS.out.1, HS.out.2]; exact hown2, hb3⟩
        case measure => simp [intOf]; omega
    · have e : t.take k = t := List.take_of_length_le (by omega)
      rw [e] at hown
      go_wp2_with fail
      obtain ⟨g, n, c, hv'⟩ := own_form hown
      subst hv'
      go_ret
      exact ⟨_, _, _, rfl, OwnI.of_row hown, hb2⟩


theorem rawL_congr {F G : Nat → List Int} (h : ∀ v, v < 12 → F v = G v) : rawL F = rawL G := by
  unfold rawL
  apply List.map_congr_left
  intro v hv
  rw [List.mem_range] at hv
  exact h v hv
def RetOS (w : World) (F : Nat → List Int) (e : Ending) (w' : World) : Prop := ∃ g, e = .returned (.slice (some ⟨g, 0, none⟩) 12 12) ∧ OwnS w.heap.size w'.heap.size w' (.slice (some ⟨g, 0, none⟩) 12 12) (rawL F) ∧ Bel w w'
/-- What is laid up to index j. -/
def laidF (P : Nat → List Int) (j : Nat) : Nat → List Int := fun v => if v < j then P v else []
theorem laidF_zero (P : Nat → List Int) : laidF P 0 = fun _ => [] := by funext v; simp [laidF]
theorem laidF_succ (P : Nat → List Int) (j : Nat) : upd (laidF P j) j (P j) = laidF P (j+1) := by
  funext v
  unfold upd laidF
  by_cases e : v = j
  · subst e; simp
  · by_cases h : v < j
    · rw [if_neg e, if_pos h, if_pos (by omega)]
    · rw [if_neg e, if_neg h, if_neg (by omega)]
theorem laidF_none (P : Nat → List Int) (j : Nat) (h : P j = []) : laidF P j = laidF P (j+1) := by
  rw [← laidF_succ, h]
  funext v
  unfold upd
  split
  · rename_i e; subst e; simp [laidF]
  · rfl
end Go.Proofs.Ytikllmdmifecpaa
end
section
/- Unify: the reference's, one more term found. -/
namespace Go.Proofs.Ytikllmdmifecpaa
open Go.RowKit Go.Maps

end Go.Proofs.Ytikllmdmifecpaa
end
