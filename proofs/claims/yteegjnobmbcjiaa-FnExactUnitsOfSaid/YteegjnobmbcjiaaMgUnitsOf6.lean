/- Texts merged, part 6. -/
import Derived.Deep.RegionWith
import Derived.Test.YteegjnobmbcjiaaMgUnitsOf5
section
/- Chapter 4: facts on the answers. No program. -/
namespace Go.Proofs.Yteegjnobmbcjiaa
open Go.RowKit

theorem flat_all (ar : List Int) (c : List Lt) : (flatC c).all (okTerm ar) = c.all (okLit ar) := by
  induction c with
  | nil => rfl
  | cons x r ih => rw [flatC_cons]; simp only [List.all_cons, ih, okLit, Bool.and_assoc]
theorem goodTerms_flat (ar : List Int) {c : List Lt} (h : c.length ≤ 8) : goodTerms ar (flatC c) 16 = goodClause ar c := by
  unfold goodTerms goodClause okLits
  rw [flat_all, flatC_len, decide_eq_true (show 2 * c.length ≤ 16 by omega), decide_eq_true h, Bool.and_true, Bool.true_and]
theorem goodClause_long (ar : List Int) {c : List Lt} (h : ¬ c.length ≤ 8) : goodClause ar c = false := by
  unfold goodClause okLits
  rw [decide_eq_false h]; simp
theorem flat_mem {c : List Lt} {t : List Int} (h : t ∈ flatC c) : ∃ x ∈ c, t = x.2.1 ∨ t = x.2.2 := by
  unfold flatC at h
  obtain ⟨x, hx, ht⟩ := List.mem_flatMap.1 h
  exact ⟨x, hx, by simpa using ht⟩
theorem flat_ok {ar : List Int} {c : List Lt} (h : ∀ x ∈ c, okLit ar x = true) {t : List Int} (ht : t ∈ flatC c) : okTerm ar t = true := by
  obtain ⟨x, hx, e⟩ := flat_mem ht
  have := okLit_iff.1 (h x hx)
  rcases e with rfl | rfl
  · exact this.1
  · exact this.2
theorem mem_getD {α : Type} (l : List α) (d : α) (j : Nat) (h : j < l.length) : l.getD j d ∈ l := by
  rw [List.getD_eq_getElem?_getD, List.getElem?_eq_getElem h]; exact List.getElem_mem h
theorem ok_litC {ar : List Int} {c : List Lt} (h : goodClause ar c = true) {j : Nat} (hj : j < c.length) : okTerm ar (c.getD j lt0).2.1 = true ∧ okTerm ar (c.getD j lt0).2.2 = true :=
  okLits_get (goodClause_iff.1 h).2.2 j hj

theorem low_memC {t : List Int} (h : ∀ n ∈ t, -12 ≤ n) : ∀ k, k < t.length → -12 ≤ t.getD k 0 := fun k hk => h _ (mem_getD t 0 k hk)
theorem ok_low {ar t : List Int} (h : okTerm ar t = true) {n : Int} (hn : n ∈ t) : -12 ≤ n := by
  obtain ⟨k, hk, rfl⟩ := List.getElem_of_mem hn
  have := good_sym ar t h k hk
  simp [okSym, inB, hk] at this
  exact this.1
theorem flat_low {ar : List Int} {c : List Lt} (h : goodClause ar c = true) : ∀ k, k < (flatC c).flatten.length → -12 ≤ (flatC c).flatten.getD k 0 := by
  refine low_memC fun n hn => ?_
  obtain ⟨t, ht, hnt⟩ := List.mem_flatten.1 hn
  exact ok_low (flat_ok (goodClause_iff.1 h).2.2 ht) hnt

/-- The signs of c, those terms. -/
theorem zipC_len (c : List Lt) : ∀ ts : List (List Int), ts.length = 2 * c.length → (zipC c ts).length = c.length := by
  induction c with
  | nil => intro ts _; rfl
  | cons x c ih =>
    intro ts h
    match ts, h with
    | l :: r :: ts, h => simp [zipC, ih ts (by simp at h; omega)]
theorem zipC_flat (c : List Lt) : ∀ ts : List (List Int), ts.length = 2 * c.length → flatC (zipC c ts) = ts := by
  induction c with
  | nil => intro ts h; simp at h; subst h; rfl
  | cons x c ih =>
    intro ts h
    match ts, h with
    | l :: r :: ts, h => simp only [zipC, flatC_cons]; rw [ih ts (by simp at h; omega)]
theorem zipC_signs (c : List Lt) : ∀ ts : List (List Int), ts.length = 2 * c.length → (zipC c ts).map (·.1) = c.map (·.1) := by
  induction c with
  | nil => intro ts _; rfl
  | cons x c ih =>
    intro ts h
    match ts, h with
    | l :: r :: ts, h => simp [zipC, ih ts (by simp at h; omega)]
theorem zipC_get (c : List Lt) : ∀ (ts : List (List Int)) (j : Nat), ts.length = 2 * c.length → j < c.length → (zipC c ts).getD j lt0 = ((c.getD j lt0).1, ts.getD (2*j) [], ts.getD (2*j+1) []) := by
  induction c with
  | nil => intro ts j _ h; simp at h
  | cons x c ih =>
    intro ts j h hj
    match ts, h with
    | l :: r :: ts, h =>
      cases j with
      | zero => simp [zipC]
      | succ j =>
        have := ih ts j (by simp at h; omega) (by simpa using hj)
        simpa [zipC, show 2 * (j + 1) = 2 * j + 1 + 1 from by omega] using this
theorem zipC_map (f : List Int → List Int) (c : List Lt) : zipC c ((flatC c).map f) = c.map fun x => (x.1, f x.2.1, f x.2.2) := by
  induction c with
  | nil => rfl
  | cons x c ih => rw [flatC_cons]; simp [zipC, ih]

def varsInAns (ar : List Int) (c : List Lt) : List Int := if goodClause ar c then natsI (varsTo (mk (flatC c).flatten) 12) else []
theorem varsInAns_len (ar : List Int) (c : List Lt) : (varsInAns ar c).length ≤ 1048576 := by
  unfold varsInAns
  split
  · rw [natsI_len]; exact Nat.le_trans (varsTo_len _ _) (by omega)
  · exact Nat.zero_le _

def applyC (b : List (List Int)) (c : List Lt) : List Lt := c.map fun x => (x.1, appT b x.2.1, appT b x.2.2)
def applyCok (ar : List Int) (b : List (List Int)) (c : List Lt) : Bool := (goodSubst ar b && okLits ar c) && okLits ar (applyC b c)
def applyCAns (ar : List Int) (b : List (List Int)) (c : List Lt) : List Lt := if applyCok ar b c then applyC b c else []
theorem applyC_flat (b : List (List Int)) (c : List Lt) : flatC (applyC b c) = (flatC c).map (appT b) := by
  induction c with
  | nil => rfl
  | cons x c ih => rw [flatC_cons, show applyC b (x :: c) = (x.1, appT b x.2.1, appT b x.2.2) :: applyC b c from rfl, flatC_cons, ih]; rfl
theorem applyC_ok {ar : List Int} {b : List (List Int)} {c : List Lt} (hb : goodSubst ar b = true) (hc : okLits ar c = true) : okLits ar (applyC b c) = (flatC c).all (app40ok b) := by
  obtain ⟨hl, h⟩ := okLits_iff.1 hc
  unfold okLits
  rw [← flat_all, applyC_flat, show (applyC b c).length = c.length from by simp [applyC], decide_eq_true hl, Bool.true_and, List.all_map]
  rw [Bool.eq_iff_iff, List.all_eq_true, List.all_eq_true]
  constructor
  · intro k t ht
    rw [← app_ok hb (flat_ok h ht)]; exact k t ht
  · intro k t ht
    show okTerm ar (appT b t) = true
    rw [app_ok hb (flat_ok h ht)]; exact k t ht

def renC (c : List Lt) : List Lt := zipC c (renS [] (flatC c))
def renCAns (ar : List Int) (c : List Lt) : List Lt := if goodClause ar c then renC c else []
end Go.Proofs.Yteegjnobmbcjiaa
end
section
/- Chapter 4, the program: GoodClause, WeightOf. -/
namespace Go.Proofs.Yteegjnobmbcjiaa
open Go.RowKit

theorem short_flat {c : List Lt} (h : sumC c ≤ 1048576) : sumL (flatC c) ≤ 1048576 ∧ ∀ j, j < (flatC c).length → ((flatC c).getD j []).length ≤ 1048576 := by
  have h1 : sumL (flatC c) ≤ 1048576 := by have := sumC_eq c; unfold lenC at this; omega
  exact ⟨h1, fun j hj => by have := sumL_get (flatC c) j hj; omega⟩
theorem short_flat8 {c : List Lt} (h : sumC c ≤ 1048576) (h8 : c.length ≤ 8) : short (flatC c) := ⟨by rw [flatC_len]; omega, (short_flat h).2⟩

theorem short_flat8s {c : List Lt} (h : shortC c) (h8 : c.length ≤ 8) : short (flatC c) := by
  refine ⟨by rw [flatC_len]; omega, fun j hj => ?_⟩
  obtain ⟨x, hx, e⟩ := flat_mem (mem_getD (flatC c) [] j hj)
  obtain ⟨i, hi, rfl⟩ := List.getElem_of_mem hx
  have := h.2 i hi
  rw [show c.getD i lt0 = c[i] from by simp [List.getD, hi]] at this
  rcases e with e | e <;> rw [e]
  · exact this.1
  · exact this.2

set_option maxRecDepth 100000 in
set_option maxHeartbeats 400000 in
theorem iGoodClause_sh {l h l' h' : Nat} {v u : Value} {ar : List Int} {c : List Lt} {w : World} (ha : ar.length ≤ 1048576) (hv : SlI l h w v ar) (hc : shortC c) (hu : SlC l' h' w u c) :
    Calls Try.prog 32 #[.agg #[v], u] w (RetV w (.bool (goodClause ar c))) := by
  obtain ⟨ad, cap, rfl⟩ := hu.form
  have hle := hc.1
  by_cases h8 : c.length ≤ 8
  · have hd : decide ((c.length : Int) ≤ 8) = true := by rw [decide_eq_true]; omega
    have HE := Lib.hid (goodTerms_flat ar h8)
    have hsh := short_flat8s hc h8
    have HT := Lib.hid (fun (w' : World) (hb : Bel w w') => termsIn_c l' h' _ c w' (by omega) (hu.below hb))
    have HD := Lib.hid (fun (w' : World) (x : Value) (hb : Bel w w') (hx : SlS 0 w'.heap.size w' x (flatC c)) => goodTerms_c l h _ _ v x ar (flatC c) 16 w' (by omega) ha (hv.below hb) hsh hx)
    rw [HE.out] at HD
    clear hsh hle hu hv HE h8
    have HB0 : Bel w (w.alloc (.cells #[v] 30)).drew := (Bel.alloc0 _ _).drew
    have hbox0 : (w.alloc (.cells #[v] 30)).drew.cell? ⟨w.heap.size, 0, none⟩ = some v := boxc ((Bel.rfl' _).drew) 0 _ rfl
    go_enter Try.func32, Try.ntmps32
    go_wp2_with fail
    go_region_held3 (fun w' => Bel w w' ∧ w'.cell? ⟨w.heap.size, 0, none⟩ = some v)
      (first | exact ⟨HB2, hbox2⟩ | exact ⟨HB1, hbox1⟩ | exact ⟨HB0, hbox0⟩ | fail)
      (first | (go_at_call 74; refine (HD.out _ _ HB1 hrow).mono ?_; rintro e w2 ⟨rfl, hb2⟩; have HB2 := HB1.step hb2; have hbox2 := hb2.at (World.block_lt_of_cell? _ ⟨_, _, none⟩ hbox1) hbox1) | (go_at_call 75; refine (HT.out _ HB0).mono ?_; rintro e w1 ⟨ad1, n1, c1, rfl, hrw, hb1⟩; have HB1 := HB0.step hb1; have hbox1 := hb1.at (World.block_lt_of_cell? _ ⟨_, _, none⟩ hbox0) hbox0; have hrow := hrw.sls hb1) | fail)
    go_wp2_with fail
    go_ret
    exact ⟨rfl, HB2⟩
  · have hd : decide ((c.length : Int) ≤ 8) = false := by rw [decide_eq_false]; omega
    have E := Lib.hid (goodClause_long ar h8)
    clear h8
    go_enter Try.func32, Try.ntmps32
    go_wp2_with fail
    have hbox0 : (w.alloc (.cells #[v] 30)).drew.cell? ⟨w.heap.size, 0, none⟩ = some v := boxc ((Bel.rfl' _).drew) 0 _ rfl
    go_region
    all_goals
      go_wp2_with fail
      go_ret
      exact ⟨by rw [E.out]; rfl, (Bel.alloc0 _ _).drew⟩
theorem iGoodClause_t {l h l' h' : Nat} {v u : Value} {ar : List Int} {c : List Lt} {w : World} (ha : ar.length ≤ 1048576) (hv : SlI l h w v ar) (hc : sumC c ≤ 1048576) (hu : SlC l' h' w u c) :
    Calls Try.prog 32 #[.agg #[v], u] w (RetV w (.bool (goodClause ar c))) := iGoodClause_sh ha hv (shortC_of_sum hc) hu
theorem iGoodClause_v {l h l' h' : Nat} {v u : Value} {ar : List Int} {c : List Lt} {w : World} {q : Bool} (he : goodClause ar c = q) (ha : ar.length ≤ 1048576) (hv : SlI l h w v ar) (hc : sumC c ≤ 1048576) (hu : SlC l' h' w u c) :
    Calls Try.prog 32 #[.agg #[v], u] w (RetV w (.bool q)) := by subst he; exact iGoodClause_t ha hv hc hu

set_option maxRecDepth 100000 in
set_option maxHeartbeats 400000 in
theorem clauseWeight_c (l' h' : Nat) (u : Value) (c : List Lt) (w : World) (hc : sumC c ≤ 1048576) (hu : SlC l' h' w u c) :
    Calls Try.prog 82 #[u] w (RetV w (.int .i64 (sumL (flatC c) : Nat))) := by
  have hle := sumC_len c
  have hsum := (short_flat hc).1
  have hfl := flatC_len c
  have HC := Lib.hid (fun (w' : World) (hb : Bel w w') => termsIn_c l' h' u c w' (by omega) (hu.below hb))
  have hcl : c.length ≤ 1048576 := by omega
  clear hc hu
  go_enter Try.func82, Try.ntmps82
  go_wp2_with fail
  refine (HC.out _ (Bel.rfl' _)).mono ?_; rintro e w2 ⟨a2, n2, c2, rfl, hrow, hb2⟩
  generalize flatC c = L at *
  have hs := hrow.sls hb2
  obtain ⟨ad, cap, e⟩ := hs.form
  simp only [Value.slice.injEq] at e
  obtain ⟨rfl, rfl, rfl⟩ := e
  go_wp2_with fail
  go_loopw [3, 9] (fun m i wr => ∃ k : Nat, k ≤ L.length ∧ i = .int .i64 k ∧ m = .int .i64 (sumL (L.take k) : Nat) ∧ Bel w2 wr) (fun _ i _ => L.length - (intOf i).toNat)
  case atStart => exact ⟨0, Nat.zero_le _, rfl, by simp [sumL], Bel.rfl' _⟩
  case round =>
    obtain ⟨k, hk, rfl, rfl, hb⟩ := hrel
    by_cases hlt : k < L.length
    · obtain ⟨b, off, u1, rfl, hbs, c1, s1⟩ := hs.at hb k hlt
      have hst := sumL_take L k hlt
      have hsl := sumL_get L k hlt
      have hin1 : (k : Int) < L.length := by omega
      have hin2 : (k : Int) < 2 * c.length := by omega
      clear hs hrow
      generalize L.getD k [] = x at *
      obtain ⟨a1, d1, rfl⟩ := s1.form
      have HE : Hid (((sumL (L.take k) : Nat) : Int) + (x.length : Int) = (sumL (L.take (k+1)) : Nat)) := by show _ = _; omega
      have i2 := IntWalk.i64_in (((sumL (L.take k) : Nat) : Int) + (x.length : Int)) (by omega)
      clear s1 hst hsl
      go_wp2_with fail
      go_roundw
      case rel => exact ⟨k+1, by omega, by go_num, by rw [← HE.out], hb⟩
      case measure => simp [intOf]; omega
    · have hin2 : ¬ (k : Int) < 2 * c.length := by omega
      rw [sumL_all L k hlt]
      go_wp2_with fail
      go_ret
      exact ⟨rfl, hb2.step hb⟩

set_option maxRecDepth 100000 in
set_option maxHeartbeats 400000 in
theorem iWeightOf_t {l h l' h' : Nat} {v u : Value} {ar : List Int} {c : List Lt} {w : World} (ha : ar.length ≤ 1048576) (hv : SlI l h w v ar) (hc : sumC c ≤ 1048576) (hu : SlC l' h' w u c) :
    Calls Try.prog 39 #[.agg #[v], u] w (RetV w (.tuple #[.int .i64 (weightAns ar c), .bool (goodClause ar c)])) := by
  unfold weightAns
  cases hg : goodClause ar c with
  | false =>
    rw [if_neg (by simp)]
    have HG := Lib.hid hg; clear hg
    go_enter Try.func39, Try.ntmps39
    go_wp2_with fail
    refine (iGoodClause_v HG.out ha (hv.alloc _) hc (hu.alloc _)).mono ?_; rintro e w1 ⟨rfl, hb1⟩
    go_wp2_with fail
    go_ret2
    exact ⟨rfl, hb1.of_alloc⟩
  | true =>
    rw [if_pos rfl]
    have HG := Lib.hid hg; clear hg
    go_enter Try.func39, Try.ntmps39
    go_wp2_with fail
    refine (iGoodClause_v HG.out ha (hv.alloc _) hc (hu.alloc _)).mono ?_; rintro e w1 ⟨rfl, hb1⟩
    have HC := Lib.hid (clauseWeight_c _ _ u c w1 hc ((hu.alloc _).below hb1))
    clear hu hv
    generalize sumL (flatC c) = q at *
    go_wp2_with fail
    refine HC.out.mono ?_; rintro e w2 ⟨rfl, hb2⟩
    go_wp2_with fail
    go_ret2
    exact ⟨rfl, (hb1.step hb2).of_alloc⟩
end Go.Proofs.Yteegjnobmbcjiaa
end
section
/- Chapter 4, the program: VarsIn. -/
namespace Go.Proofs.Yteegjnobmbcjiaa
open Go.RowKit

set_option maxRecDepth 100000 in
set_option maxHeartbeats 400000 in
theorem concat_nil (w : World) : Calls Try.prog 130 #[.slice none 0 0] w (RetI w []) := by
  go_enter Try.func130, Try.ntmps130
  go_wp2_with fail
  go_loop [3, 11] (fun n i => n = .int .i64 0 ∧ i = .int .i64 0) (fun _ _ => 0)
  case atStart => exact ⟨rfl, rfl⟩
  case round =>
    obtain ⟨rfl, rfl⟩ := hrel
    go_wp2_with fail
    refine (grow_c 0 _ (by omega)).mono ?_; rintro e w1 ⟨ad, m, c1, rfl, hown, hb⟩
    go_wp2_with fail
    go_loopw [6, 27] (fun v i wr => i = .int .i64 0 ∧ v = .slice ad m c1 ∧ wr = w1) (fun _ _ _ => 0)
    case atStart => exact ⟨rfl, rfl, rfl⟩
    case round =>
      obtain ⟨rfl, rfl, rfl⟩ := hrel
      go_wp2_with fail
      go_ret
      exact ⟨_, _, _, rfl, OwnI.of_row hown, hb⟩
theorem concatV_c (W : World) (v : Value) (L : List (List Int)) (w : World) (hb : Bel W w) (hL : L.length ≤ 1048576) (hs : sumLen L ≤ 1099511627776) (hv : RowV W w v L) :
    Calls Try.prog 130 #[v] w (RetI w L.flatten) := by
  have hsl := hv.sls hb
  obtain ⟨zs, h1, h2⟩ := hv
  rcases h1.2 with ⟨rfl, hn⟩ | ⟨g, cap, cur, rfl, _⟩
  · have : L = [] := List.length_eq_zero_iff.1 (by rw [← h2.1]; exact hn)
    subst this
    exact concat_nil w
  · obtain ⟨ad, cap', e, hc, hm, hr⟩ := hsl
    simp only [Value.slice.injEq] at e
    obtain ⟨rfl, e2, rfl⟩ := e
    rw [e2]
    refine concat_c 0 w.heap.size g 0 cap L w hL hs (fun j hj => ?_)
    obtain ⟨b, off, e3, _, _, hx⟩ := hr (by omega)
    simp only [Option.some.injEq, Addr.mk.injEq, and_true] at e3
    obtain ⟨rfl, rfl⟩ := e3
    obtain ⟨u, h1, h2⟩ := hx j hj
    obtain ⟨y, z, rfl⟩ := h2.form
    exact ⟨y, z, h1, h2⟩

set_option maxRecDepth 100000 in
set_option maxHeartbeats 400000 in
theorem clauseVars_c {l' h' : Nat} {u : Value} {c : List Lt} {w : World} (hsum : sumL (flatC c) ≤ 1048576) (h8 : c.length ≤ 8) (hlow : ∀ k, k < (flatC c).flatten.length → -12 ≤ (flatC c).flatten.getD k 0) (hu : SlC l' h' w u c) :
    Calls Try.prog 84 #[u] w (RetI w (natsI (varsTo (mk (flatC c).flatten) 12))) := by
  have hfl := flatC_len c
  have HC := Lib.hid (termsIn_c l' h' u c w (by omega) hu)
  have hcl : c.length ≤ 1048576 := by omega
  clear hu
  go_enter Try.func84, Try.ntmps84
  go_wp2_with fail
  refine HC.out.mono ?_; rintro e w2 ⟨a2, n2, c2, rfl, hrow, hb2⟩
  have hsl : sumLen (flatC c) = sumL (flatC c) := rfl
  have hfn := flat_len (flatC c)
  generalize flatC c = L at *
  go_wp2_with fail
  refine (concatV_c w _ L w2 hb2 (by omega) (by omega) hrow).mono ?_; rintro e w3 ⟨a3, n3, c3, rfl, ho3, hb3⟩
  go_wp2_with fail
  refine (marksOf_c _ _ _ L.flatten w3 (by omega) hlow ho3.sl).mono ?_; rintro e w4 ⟨rfl, hb4⟩
  go_wp2_with fail
  refine (mvars_c _ w4).mono ?_; rintro e w5 ⟨a5, n5, c5, rfl, ho5, hb5⟩
  have HB4 := (hb2.step hb3).step hb4
  go_wp2_with fail
  go_ret
  exact ⟨_, _, _, rfl, ho5.mono HB4.size (Nat.le_refl _), HB4.step hb5⟩

set_option maxRecDepth 100000 in
set_option maxHeartbeats 400000 in
theorem iVarsIn_t {l h l' h' : Nat} {v u : Value} {ar : List Int} {c : List Lt} {w : World} (ha : ar.length ≤ 1048576) (hv : SlI l h w v ar) (hc : sumC c ≤ 1048576) (hu : SlC l' h' w u c) :
    Calls Try.prog 41 #[.agg #[v], u] w (RetIB w (varsInAns ar c) (goodClause ar c)) := by
  unfold varsInAns
  cases hg : goodClause ar c with
  | false =>
    rw [if_neg (by simp)]
    have HG := Lib.hid hg; clear hg
    go_enter Try.func41, Try.ntmps41
    go_wp2_with fail
    refine (iGoodClause_v HG.out ha (hv.alloc _) hc (hu.alloc _)).mono ?_; rintro e w1 ⟨rfl, hb1⟩
    go_wp2_with fail
    go_ret2
    exact ⟨_, _, _, rfl, OwnI.nil _ _ _, hb1.of_alloc⟩
  | true =>
    rw [if_pos rfl]
    have hsum := (short_flat hc).1
    have hlow := flat_low hg
    have h8 := (goodClause_iff.1 hg).2.1
    have HG := Lib.hid hg; clear hg
    have HC := Lib.hid (fun (w' : World) (hb : Bel w w') => clauseVars_c hsum h8 hlow (hu.below hb))
    go_enter Try.func41, Try.ntmps41
    go_wp2_with fail
    refine (iGoodClause_v HG.out ha (hv.alloc _) hc (hu.alloc _)).mono ?_; rintro e w1 ⟨rfl, hb1⟩
    clear hc hu hv hlow
    go_wp2_with fail
    refine (HC.out _ hb1.of_alloc).mono ?_; rintro e w5 ⟨a5, n5, c5, rfl, ho5, hb5⟩
    go_wp2_with fail
    go_ret2
    exact ⟨_, _, _, rfl, ho5.mono hb1.of_alloc.size (Nat.le_refl _), hb1.of_alloc.step hb5⟩
end Go.Proofs.Yteegjnobmbcjiaa
end
section
/- DepthOf: both functions. -/
namespace Go.Proofs.Yteegjnobmbcjiaa
open Go.RowKit

/-- The greatest of some numbers, from m on. -/
def maxL (m : Nat) : List Nat → Nat
  | [] => m
  | x :: l => maxL (max m x) l
theorem maxL_snoc (m : Nat) (l : List Nat) (x : Nat) : maxL m (l ++ [x]) = max (maxL m l) x := by
  induction l generalizing m with
  | nil => rfl
  | cons y l ih => exact ih _
theorem maxL_le (m n : Nat) (l : List Nat) (hm : m ≤ n) (h : ∀ x ∈ l, x ≤ n) : maxL m l ≤ n := by
  induction l generalizing m with
  | nil => exact hm
  | cons y l ih => exact ih _ (by have := h y (by simp); omega) (fun x hx => h x (by simp [hx]))

def depthF (ar t : List Int) : Nat → Nat → Nat
  | 0, _ => 0
  | f + 1, i => 1 + maxL 0 ((argsOf ar t i).map (depthF ar t f))
/-- The depth of the subterm at i. -/
def depthAt (ar t : List Int) (i : Nat) : Nat := depthF ar t (t.length - i) i

theorem argsGo_bd (ar t : List Int) : ∀ (k p e : Nat), endGo ar (t.drop p) k p = some e → ∀ a ∈ argsGo ar t k p, p ≤ a ∧ a < e := by
  intro k
  induction k with
  | zero => intro p e _ a ha; simp [argsGo] at ha
  | succ k ih =>
    intro p e h a ha
    obtain ⟨q, hq, hr, hpq, hqe⟩ := ends_step ar t p k e h
    rw [argsGo_succ hq] at ha
    rcases List.mem_cons.1 ha with rfl | ha
    · omega
    · have := ih q e hr a ha; omega
theorem argsOf_bd (ar t : List Int) (h : okTerm ar t = true) (i : Nat) (hi : i < t.length) : ∀ a ∈ argsOf ar t i, i < a ∧ a < t.length := by
  obtain ⟨e, h1, h2⟩ := good_args ar t h i hi
  intro a ha
  have := argsGo_bd ar t _ _ _ h1 a ha
  omega
theorem depthF_fuel (ar t : List Int) (h : okTerm ar t = true) : ∀ (n i : Nat), i < t.length → t.length - i ≤ n → ∀ f, t.length - i ≤ f → depthF ar t f i = depthAt ar t i := by
  intro n
  induction n with
  | zero => intro i hi hn; omega
  | succ n ih =>
    intro i hi hn f hf
    obtain ⟨f, rfl⟩ : ∃ f', f = f' + 1 := ⟨f - 1, by omega⟩
    unfold depthAt
    obtain ⟨g, hg⟩ : ∃ g, t.length - i = g + 1 := ⟨t.length - i - 1, by omega⟩
    rw [hg, depthF, depthF]
    congr 2
    apply List.map_congr_left
    intro a ha
    have hb := argsOf_bd ar t h i hi a ha
    rw [ih a hb.2 (by omega) f (by omega), ih a hb.2 (by omega) g (by omega)]
theorem depthAt_eq (ar t : List Int) (h : okTerm ar t = true) (i : Nat) (hi : i < t.length) : depthAt ar t i = 1 + maxL 0 ((argsOf ar t i).map (depthAt ar t)) := by
  conv => lhs; unfold depthAt
  obtain ⟨g, hg⟩ : ∃ g, t.length - i = g + 1 := ⟨t.length - i - 1, by omega⟩
  rw [hg, depthF]
  congr 2
  apply List.map_congr_left
  intro a ha
  have hb := argsOf_bd ar t h i hi a ha
  exact depthF_fuel ar t h t.length a hb.2 (by omega) g (by omega)
theorem depthF_le (ar t : List Int) : ∀ f i, depthF ar t f i ≤ f := by
  intro f
  induction f with
  | zero => intro i; exact Nat.le_refl _
  | succ f ih =>
    intro i
    rw [depthF]
    have := maxL_le 0 f ((argsOf ar t i).map (depthF ar t f)) (Nat.zero_le _) (by intro x hx; simp at hx; obtain ⟨a, _, rfl⟩ := hx; exact ih a)
    omega
theorem depthAt_le (ar t : List Int) (i : Nat) : depthAt ar t i ≤ t.length := Nat.le_trans (depthF_le ar t _ i) (by omega)

theorem maxD_le (ar t : List Int) (l : List Nat) : maxL 0 (l.map (depthAt ar t)) ≤ t.length :=
  maxL_le 0 t.length _ (Nat.zero_le _) (by intro x hx; rw [List.mem_map] at hx; obtain ⟨a, _, rfl⟩ := hx; exact depthAt_le ar t a)
theorem l1Most_c (a b : Nat) (w : World) : Calls Try.prog 140 #[.int .i64 a, .int .i64 b] w (RetV w (.int .i64 ((max a b : Nat) : Int))) := by
  by_cases h : b < a
  · have E : Hid (max a b = a) := by show max a b = a; omega
    go_enter Try.func140, Try.ntmps140
    go_wp2_with fail
    go_ret
    exact ⟨by rw [E.out]; rfl, Bel.rfl' _⟩
  · have E : Hid (max a b = b) := by show max a b = b; omega
    go_enter Try.func140, Try.ntmps140
    go_wp2_with fail
    go_ret
    exact ⟨by rw [E.out]; rfl, Bel.rfl' _⟩

theorem natsI_get (l : List Nat) (k : Nat) (h : k < l.length) : (natsI l).getD k 0 = ((l.getD k 0 : Nat) : Int) := by simp [natsI, List.getD, h]
theorem maxL_step (d : Nat → Nat) (l : List Nat) (k : Nat) (h : k < l.length) : maxL 0 ((l.take (k+1)).map d) = max (maxL 0 ((l.take k).map d)) (d (l.getD k 0)) := by
  rw [List.take_succ_eq_append_getElem h, List.map_append]
  simp only [List.map_cons, List.map_nil]
  rw [maxL_snoc]
  simp [List.getD, h]

def depthAns (ar t : List Int) : Int := if goodTerm ar t then depthAt ar t 0 else 0
theorem depth_no {ar t : List Int} (h : goodTerm ar t = false) : depthAns ar t = 0 := by simp [depthAns, h]
theorem depth_yes {ar t : List Int} (h : goodTerm ar t = true) : depthAns ar t = depthAt ar t 0 := by simp [depthAns, h]

end Go.Proofs.Yteegjnobmbcjiaa
end
section
/- Rows of terms, parts, instances: what needs no more than that. No program. -/
namespace Go.Proofs.Yteegjnobmbcjiaa
open Go.RowKit

/-- A row of k terms. -/
def seqT (ar : List Int) (k : Nat) (r : List Int) : Prop := endGo ar r k 0 = some r.length
theorem seqT_nil {ar : List Int} {k : Nat} (h : seqT ar k []) : k = 0 := by
  cases k with
  | zero => rfl
  | succ k => simp [seqT, endGo_nil] at h
theorem seqT_zero {ar r : List Int} (h : seqT ar 0 r) : r = [] := by
  unfold seqT at h
  rw [endGo_zero] at h
  simp at h
  exact List.length_eq_zero_iff.1 h.symm
theorem seqT_cons {ar : List Int} {k : Nat} {x : Int} {r : List Int} : seqT ar (k+1) (x :: r) ↔ okSym ar x = true ∧ seqT ar (k + arOf ar x) r := by
  unfold seqT
  rw [endGo_cons]
  constructor
  · intro h
    split at h
    · rename_i hs
      refine ⟨hs, ?_⟩
      have := endGo_shift ar r (k + arOf ar x) 0 1
      rw [Nat.zero_add] at this
      rw [Nat.zero_add, this] at h
      cases h2 : endGo ar r (k + arOf ar x) 0 with
      | none => rw [h2] at h; simp at h
      | some e => rw [h2] at h; simp at h; rw [h]
    · simp at h
  · rintro ⟨hs, h⟩
    rw [if_pos hs]
    have := endGo_shift ar r (k + arOf ar x) 0 1
    rw [Nat.zero_add] at this
    rw [Nat.zero_add, this, h]
    simp
theorem seqT_append {ar : List Int} : ∀ {r s : List Int} {a b : Nat}, seqT ar a r → seqT ar b s → seqT ar (a + b) (r ++ s) := by
  intro r
  induction r with
  | nil => intro s a b h1 h2; rw [seqT_nil h1, Nat.zero_add]; exact h2
  | cons x r ih =>
    intro s a b h1 h2
    cases a with
    | zero => have := seqT_zero h1; simp at this
    | succ a =>
      obtain ⟨hs, h1⟩ := seqT_cons.1 h1
      rw [List.cons_append, Nat.succ_add]
      refine seqT_cons.2 ⟨hs, ?_⟩
      have := ih h1 h2
      rwa [show a + b + arOf ar x = a + arOf ar x + b by omega]
theorem seq_prefix {ar : List Int} : ∀ {a b r s : List Int} {k : Nat}, seqT ar k a → seqT ar k b → a ++ r = b ++ s → a = b
  | [], b, _, _, k, ha, hb, _ => by rw [seqT_nil ha] at hb; exact (seqT_zero hb).symm
  | x :: a, b, r, s, k, ha, hb, e => by
    cases k with
    | zero => have := seqT_zero ha; simp at this
    | succ k =>
      cases b with
      | nil => have := seqT_nil hb; omega
      | cons y b =>
        rw [List.cons_append, List.cons_append, List.cons.injEq] at e
        obtain ⟨rfl, e⟩ := e
        rw [seq_prefix (seqT_cons.1 ha).2 (seqT_cons.1 hb).2 e]
theorem appT_append (V : List (List Int)) (s t : List Int) : appT V (s ++ t) = appT V s ++ appT V t := by simp [appT]
theorem appT_one (V : List (List Int)) (n : Int) : appT V [n] = one1 V n := by simp [appT]
theorem part_split {t : List Int} {p q e : Nat} (h1 : p ≤ q) (h2 : q ≤ e) : partOf t p e = partOf t p q ++ partOf t q e := by
  unfold partOf
  rw [show e - p = (q - p) + (e - q) by omega, List.take_add, List.drop_drop, show p + (q - p) = q by omega]
end Go.Proofs.Yteegjnobmbcjiaa
end
section
/- Chapter 5: the value of a term; of an instance. No program. -/
namespace Go.Proofs.Yteegjnobmbcjiaa
open Go.RowKit

/-- The entry of symbol n's table for the values vs. -/
def noOf (sz : Int) (vs : List Int) : Int := vs.foldl (fun no v => no * sz + v) 0
def entry (sz : Int) (tb : List (List Int)) (n : Int) (vs : List Int) : Int := (tb.getD n.toNat []).getD (noOf sz vs).toNat 0
def evF (ar t : List Int) (sz : Int) (tb : List (List Int)) (env : List Int) : Nat → Nat → Int
  | 0, _ => 0
  | f + 1, i => if t.getD i 0 < 0 then env.getD (-1 - t.getD i 0).toNat 0 else entry sz tb (t.getD i 0) ((argsOf ar t i).map (evF ar t sz tb env f))
def evT (ar : List Int) (sz : Int) (tb : List (List Int)) (env t : List Int) : Int := evF ar t sz tb env t.length 0

/-- The terms y have the values vs; none: one term; some m: m terms. -/
inductive Ev (ar : List Int) (sz : Int) (tb : List (List Int)) (env : List Int) : Option Nat → List Int → List Int → Prop
  | var (n : Int) : okSym ar n = true → n < 0 → Ev ar sz tb env none [n] [env.getD (-1 - n).toNat 0]
  | node (n : Int) (ys vs : List Int) : okSym ar n = true → 0 ≤ n → Ev ar sz tb env (some (arOf ar n)) ys vs → Ev ar sz tb env none (n :: ys) [entry sz tb n vs]
  | nil : Ev ar sz tb env (some 0) [] []
  | cons (m : Nat) (y ys : List Int) (v : Int) (vs : List Int) : Ev ar sz tb env none y [v] → Ev ar sz tb env (some m) ys vs → Ev ar sz tb env (some (m + 1)) (y ++ ys) (v :: vs)
section
variable {ar : List Int} {sz : Int} {tb : List (List Int)} {env : List Int}
theorem Ev.seq {s : Option Nat} {y vs : List Int} (h : Ev ar sz tb env s y vs) : seqT ar (match s with | none => 1 | some m => m) y := by
  induction h with
  | var n h1 h2 => exact seqT_cons.2 ⟨h1, by rw [arOf_neg h2]; rfl⟩
  | node n ys vs h1 h2 _ ih => exact seqT_cons.2 ⟨h1, by rw [Nat.zero_add]; exact ih⟩
  | nil => rfl
  | cons m y ys v vs _ _ ih1 ih2 =>
    have := seqT_append ih1 ih2
    rwa [Nat.add_comm] at this
theorem Ev.det {s : Option Nat} {y vs : List Int} (h : Ev ar sz tb env s y vs) : ∀ {z us : List Int}, Ev ar sz tb env s z us → z = y → us = vs := by
  induction h with
  | var n h1 h2 =>
    intro z us h' e
    cases h' with
    | var n' _ _ => simp at e; rw [e]
    | node n' ys' vs' _ h3 _ => simp at e; omega
  | node n ys vs h1 h2 _ ih =>
    intro z us h' e
    cases h' with
    | var n' _ h3 => simp at e; omega
    | node n' ys' vs' _ _ h4 =>
      simp at e
      obtain ⟨rfl, rfl⟩ := e
      rw [ih h4 rfl]
  | nil =>
    intro z us h' e
    cases h' with
    | nil => rfl
  | cons m y ys v vs hy hys ih1 ih2 =>
    intro z us h' e
    cases h' with
    | cons _ y' ys' v' vs' h3 h4 =>
      have e1 : y' = y := seq_prefix (show seqT ar 1 y' from h3.seq) (show seqT ar 1 y from hy.seq) e
      subst e1
      have e2 := List.append_cancel_left e
      subst e2
      have e3 := ih1 h3 rfl
      simp at e3
      rw [e3, ih2 h4 rfl]
theorem args_ev {t : List Int} {g : Nat → Int} : ∀ (k p e : Nat), endGo ar (t.drop p) k p = some e → (∀ a ∈ argsGo ar t k p, ∀ q, endOf ar t a = some q → Ev ar sz tb env none (partOf t a q) [g a]) → Ev ar sz tb env (some k) (partOf t p e) ((argsGo ar t k p).map g) := by
  intro k
  induction k with
  | zero =>
    intro p e h _
    rw [endGo_zero] at h
    simp at h
    subst h
    have : partOf t p p = [] := by simp [partOf]
    rw [this]
    exact Ev.nil
  | succ k ih =>
    intro p e h hp
    obtain ⟨q, hq, hr, h1, h2⟩ := ends_step ar t p k e h
    have hgo : argsGo ar t (k+1) p = p :: argsGo ar t k q := by rw [argsGo]; simp [hq]
    rw [hgo] at hp ⊢
    rw [part_split (Nat.le_of_lt h1) h2, List.map_cons]
    exact Ev.cons k _ _ _ _ (hp p List.mem_cons_self q hq) (ih q e hr (fun a ha => hp a (List.mem_cons_of_mem _ ha)))
theorem ev_at {t : List Int} (h : okTerm ar t = true) : ∀ (n i e : Nat), t.length - i ≤ n → i < t.length → endOf ar t i = some e → Ev ar sz tb env none (partOf t i e) [evF ar t sz tb env n i] := by
  intro n
  induction n with
  | zero => intro i e hn hi; omega
  | succ n ih =>
    intro i e hn hi he
    have hs := good_sym ar t h i hi
    have hend : endGo ar (t.drop (i+1)) (arOf ar (t.getD i 0)) (i+1) = some e := by
      have h1 := he
      unfold endOf at h1
      rw [drop_cons t i hi, endGo_cons, if_pos hs, Nat.zero_add] at h1
      exact h1
    have hge := endGo_ge _ _ _ _ _ hend
    have hpart : partOf t i e = t.getD i 0 :: partOf t (i+1) e := by
      unfold partOf
      rw [drop_cons t i hi, show e - i = (e - (i+1)) + 1 by omega, List.take_succ_cons]
    rw [hpart, evF]
    by_cases h0 : t.getD i 0 < 0
    · rw [if_pos h0]
      rw [arOf_neg h0, endGo_zero] at hend
      simp at hend
      subst hend
      have : partOf t (i+1) (i+1) = [] := by simp [partOf]
      rw [this]
      exact Ev.var _ hs h0
    · rw [if_neg h0]
      exact Ev.node _ _ _ hs (by omega) (args_ev _ (i+1) e hend (fun a ha q hq => by
        have hb := argsOf_bd ar t h i hi a ha
        exact ih a q (by omega) hb.2 hq))
/-- A valid term has its value. -/
theorem ev_whole {t : List Int} (h : okTerm ar t = true) : Ev ar sz tb env none t [evT ar sz tb env t] := by
  obtain ⟨h1, _, h3⟩ := (okTerm_iff ar t).1 h
  have := ev_at (sz := sz) (tb := tb) (env := env) h t.length 0 t.length (by omega) (by omega) h3
  rwa [show partOf t 0 t.length = t from by simp [partOf]] at this
theorem ev_eq {t : List Int} {n : Int} (h : okTerm ar t = true) (hv : Ev ar sz tb env none t [n]) : evT ar sz tb env t = n := by
  have := hv.det (ev_whole h) rfl
  simpa using this
/-- More fuel changes nothing. -/
theorem evF_fuel {t : List Int} (h : okTerm ar t = true) (n i : Nat) (hn : t.length - i ≤ n) (hi : i < t.length) : evF ar t sz tb env n i = evF ar t sz tb env (t.length - i) i := by
  obtain ⟨e, he, _⟩ := good_end ar t h i hi
  have h1 := ev_at (sz := sz) (tb := tb) (env := env) h n i e hn hi he
  have h2 := ev_at (sz := sz) (tb := tb) (env := env) h (t.length - i) i e (Nat.le_refl _) hi he
  have := h2.det h1 rfl
  simpa using this
/-- The value of an instance is the value under the values of the substitution. -/
theorem Ev.sub {env' : List Int} {b : List (List Int)} (hb : ∀ n : Int, okSym ar n = true → n < 0 → Ev ar sz tb env none (one1 b n) [env'.getD (-1 - n).toNat 0]) {s : Option Nat} {y vs : List Int} (h : Ev ar sz tb env' s y vs) : Ev ar sz tb env s (appT b y) vs := by
  induction h with
  | var n h1 h2 => rw [appT_one]; exact hb n h1 h2
  | node n ys vs h1 h2 _ ih =>
    have e : appT b (n :: ys) = n :: appT b ys := by
      show one1 b n ++ appT b ys = _
      rw [one1_sym (by omega)]; rfl
    rw [e]
    exact Ev.node n _ vs h1 h2 ih
  | nil => exact Ev.nil
  | cons m y ys v vs _ _ ih1 ih2 => rw [appT_append]; exact Ev.cons m _ _ v vs ih1 ih2
/-- The values that an assignment gives to a substitution. -/
def subEnv (ar : List Int) (sz : Int) (tb : List (List Int)) (env : List Int) (b : List (List Int)) : List Int := (List.range 12).map fun v => if 0 < (b.getD v []).length then evT ar sz tb env (b.getD v []) else env.getD v 0
theorem sub_value {b : List (List Int)} {t : List Int} (ht : okTerm ar t = true) (hb : ∀ v, v < 12 → 0 < (b.getD v []).length → okTerm ar (b.getD v []) = true) (hi : okTerm ar (appT b t) = true) :
    evT ar sz tb env (appT b t) = evT ar sz tb (subEnv ar sz tb env b) t := by
  refine ev_eq hi (Ev.sub (env' := subEnv ar sz tb env b) (fun n h1 h2 => ?_) (ev_whole ht))
  have hlt : (-1 - n).toNat < 12 := by unfold okSym inB at h1; simp at h1; omega
  have hg : (subEnv ar sz tb env b).getD (-1 - n).toNat 0 = if 0 < (b.getD (-1 - n).toNat []).length then evT ar sz tb env (b.getD (-1 - n).toNat []) else env.getD (-1 - n).toNat 0 := by
    unfold subEnv
    rw [List.getD_eq_getElem?_getD, List.getElem?_map, List.getElem?_range hlt]
    rfl
  rw [hg]
  by_cases hp : 0 < (b.getD (-1 - n).toNat []).length
  · rw [if_pos hp, one1_var h2 hp]
    exact ev_whole (hb _ hlt hp)
  · rw [if_neg hp, one1_free hp]
    exact Ev.var n h1 h2
end
end Go.Proofs.Yteegjnobmbcjiaa
end
section
/- Chapter 5: worlds, how many there are, the n-th. No program. -/
namespace Go.Proofs.Yteegjnobmbcjiaa
open Go.RowKit

theorem mem_gd {α : Type} (l : List α) (d : α) (j : Nat) (h : j < l.length) : l.getD j d ∈ l := by
  rw [List.getD_eq_getElem?_getD, List.getElem?_eq_getElem h]; exact List.getElem_mem h
theorem gd_eq {α : Type} (l : List α) (d : α) (j : Nat) (h : j < l.length) : l.getD j d = l[j] := by simp [List.getD, h]
/-- How many lists of arguments. -/
def longW (sz a : Int) : Nat := sz.toNat ^ a.toNat
def okTab (sz a : Int) (t : List Int) : Bool := decide (t.length = longW sz a) && t.all (fun x => inB x 0 (sz - 1))
def okTabs (ar : List Int) (sz : Int) (tb : List (List Int)) (n : Nat) : Bool := (List.range n).all fun k => okTab sz (ar.getD k 0) (tb.getD k [])
def isWorld (ar : List Int) (sz : Int) (tb : List (List Int)) : Bool := inB sz 1 3 && (decide (tb.length = ar.length) && okTabs ar sz tb tb.length)
def goodWorld (ar : List Int) (sz : Int) (tb : List (List Int)) : Bool := goodSign ar && isWorld ar sz tb
def okEnv (sz : Int) (env : List Int) : Bool := decide (env.length = 12) && env.all (fun x => inB x 0 (sz - 1))
theorem okTabs_zero (ar : List Int) (sz : Int) (tb : List (List Int)) : okTabs ar sz tb 0 = true := rfl
theorem okTabs_succ (ar : List Int) (sz : Int) (tb : List (List Int)) (k : Nat) : okTabs ar sz tb (k+1) = (okTabs ar sz tb k && okTab sz (ar.getD k 0) (tb.getD k [])) := by
  unfold okTabs
  rw [List.range_succ, List.all_append]
  simp
theorem okTabs_false {ar : List Int} {sz : Int} {tb : List (List Int)} {k n : Nat} (h : okTab sz (ar.getD k 0) (tb.getD k []) = false) (hk : k < n) : okTabs ar sz tb n = false := by
  unfold okTabs
  rw [List.all_eq_false]
  exact ⟨k, List.mem_range.2 hk, by rw [h]; simp⟩
theorem longW_le {sz a : Int} (h1 : sz ≤ 3) (h2 : a ≤ 3) : longW sz a ≤ 27 := by
  unfold longW
  calc sz.toNat ^ a.toNat ≤ 3 ^ a.toNat := Nat.pow_le_pow_left (by omega) _
    _ ≤ 3 ^ 3 := Nat.pow_le_pow_right (by omega) (by omega)
theorem longW_pos {sz a : Int} (h1 : 1 ≤ sz) : 1 ≤ longW sz a := Nat.one_le_iff_ne_zero.2 (Nat.pos_iff_ne_zero.1 (Nat.pow_pos (by omega)))
theorem isWorld_iff {ar : List Int} {sz : Int} {tb : List (List Int)} : isWorld ar sz tb = true ↔ 1 ≤ sz ∧ sz ≤ 3 ∧ tb.length = ar.length ∧ ∀ k, k < tb.length → (tb.getD k []).length = longW sz (ar.getD k 0) ∧ ∀ j, j < (tb.getD k []).length → 0 ≤ (tb.getD k []).getD j 0 ∧ (tb.getD k []).getD j 0 ≤ sz - 1 := by
  unfold isWorld okTabs okTab inB
  simp only [Bool.and_eq_true, decide_eq_true_eq, List.all_eq_true, List.mem_range]
  constructor
  · rintro ⟨⟨h1, h2⟩, h3, h4⟩
    refine ⟨h1, h2, h3, fun k hk => ⟨(h4 k hk).1, fun j hj => ?_⟩⟩
    exact (h4 k hk).2 _ (mem_gd _ 0 j hj)
  · rintro ⟨h1, h2, h3, h4⟩
    refine ⟨⟨h1, h2⟩, h3, fun k hk => ⟨(h4 k hk).1, fun x hx => ?_⟩⟩
    obtain ⟨j, hj, rfl⟩ := List.getElem_of_mem hx
    have := (h4 k hk).2 j hj
    rwa [gd_eq _ _ j hj] at this
theorem goodWorld_iff {ar : List Int} {sz : Int} {tb : List (List Int)} : goodWorld ar sz tb = true ↔ goodSign ar = true ∧ isWorld ar sz tb = true := by
  unfold goodWorld; rw [Bool.and_eq_true]
theorem okEnv_iff {sz : Int} {env : List Int} : okEnv sz env = true ↔ env.length = 12 ∧ ∀ j, j < 12 → 0 ≤ env.getD j 0 ∧ env.getD j 0 ≤ sz - 1 := by
  unfold okEnv inB
  simp only [Bool.and_eq_true, decide_eq_true_eq, List.all_eq_true]
  constructor
  · rintro ⟨h1, h2⟩
    exact ⟨h1, fun j hj => h2 _ (mem_gd _ 0 j (by omega))⟩
  · rintro ⟨h1, h2⟩
    refine ⟨h1, fun x hx => ?_⟩
    obtain ⟨j, hj, rfl⟩ := List.getElem_of_mem hx
    have := h2 j (by omega)
    rwa [gd_eq _ _ j hj] at this

/-- How many worlds: at most 10000 are counted. -/
def cwN (sz : Int) : Nat → Int
  | 0 => 1
  | n + 1 => min (cwN sz n * sz) 10000
theorem cwN_bd {sz : Int} (h1 : 1 ≤ sz) (n : Nat) : 1 ≤ cwN sz n ∧ cwN sz n ≤ 10000 := by
  induction n with
  | zero => exact ⟨Int.le_refl 1, show (1 : Int) ≤ 10000 by decide⟩
  | succ n ih =>
    rw [cwN]
    have := Int.mul_le_mul (show (1 : Int) ≤ cwN sz n from ih.1) h1 (by decide) (by omega)
    omega
theorem cwN_top {sz : Int} (h1 : 1 ≤ sz) {n : Nat} (h : cwN sz n = 10000) (m : Nat) : cwN sz (n + m) = 10000 := by
  induction m with
  | zero => exact h
  | succ m ih =>
    show min (cwN sz (n + m) * sz) 10000 = 10000
    rw [ih]; omega
/-- The lists of arguments of the first k symbols. -/
def sumW (ar : List Int) (sz : Int) : Nat → Nat
  | 0 => 0
  | k + 1 => sumW ar sz k + longW sz (ar.getD k 0)
def worldsAns (ar : List Int) (sz : Int) : Int := if goodSign ar && inB sz 1 3 then cwN sz (sumW ar sz ar.length) else 0

/-- The digits of no, and what is left of it. -/
def digW (sz no : Int) : Nat → List Int
  | 0 => []
  | k + 1 => digW sz no k ++ [no / sz ^ k % sz]
def tabsW (ar : List Int) (sz no : Int) : Nat → List (List Int)
  | 0 => []
  | k + 1 => tabsW ar sz no k ++ [digW sz (no / sz ^ sumW ar sz k) (longW sz (ar.getD k 0))]
theorem digW_len (sz no : Int) (k : Nat) : (digW sz no k).length = k := by
  induction k with
  | zero => rfl
  | succ k ih => simp [digW, ih]
theorem tabsW_len (ar : List Int) (sz no : Int) (k : Nat) : (tabsW ar sz no k).length = k := by
  induction k with
  | zero => rfl
  | succ k ih => simp [tabsW, ih]
end Go.Proofs.Yteegjnobmbcjiaa
end
section
/- Chapter 5: the values of terms lie in the world. No program. -/
namespace Go.Proofs.Yteegjnobmbcjiaa
open Go.RowKit

/-- The values of terms lie below the size. -/
theorem noOf_snoc (sz : Int) (vs : List Int) (v : Int) : noOf sz (vs ++ [v]) = noOf sz vs * sz + v := by simp [noOf]
theorem fold_bd {sz : Int} (h1 : 1 ≤ sz) : ∀ (vs : List Int) (acc : Int) (m : Nat), (∀ v ∈ vs, 0 ≤ v ∧ v ≤ sz - 1) → 0 ≤ acc → acc < ((sz.toNat ^ m : Nat) : Int) → 0 ≤ vs.foldl (fun no v => no * sz + v) acc ∧ vs.foldl (fun no v => no * sz + v) acc < ((sz.toNat ^ (m + vs.length) : Nat) : Int) := by
  intro vs
  induction vs with
  | nil => intro acc m _ h2 h3; exact ⟨h2, h3⟩
  | cons v vs ih =>
    intro acc m h h2 h3
    obtain ⟨v1, v2⟩ := h v (by simp)
    have hz : ((sz.toNat : Nat) : Int) = sz := by omega
    have h4 := Int.mul_nonneg h2 (show 0 ≤ sz by omega)
    have h5 : (acc + 1) * sz ≤ ((sz.toNat ^ m : Nat) : Int) * sz := Int.mul_le_mul_of_nonneg_right (by omega) (by omega)
    rw [Int.add_mul] at h5
    have h6 : ((sz.toNat ^ (m + 1) : Nat) : Int) = ((sz.toNat ^ m : Nat) : Int) * sz := by rw [Nat.pow_succ, Int.natCast_mul, hz]
    have := ih (acc * sz + v) (m + 1) (fun x hx => h x (by simp [hx])) (by omega) (by omega)
    rw [show m + (v :: vs).length = m + 1 + vs.length from by simp; omega]
    exact this
theorem noOf_bd {sz : Int} (h1 : 1 ≤ sz) (vs : List Int) (h : ∀ v ∈ vs, 0 ≤ v ∧ v ≤ sz - 1) : 0 ≤ noOf sz vs ∧ noOf sz vs < (longW sz vs.length : Nat) := by
  have := fold_bd h1 vs 0 0 h (Int.le_refl _) (by simp)
  rw [Nat.zero_add] at this
  exact this
theorem evT_bd {ar : List Int} {sz : Int} {tb : List (List Int)} {env : List Int} (_ : goodSign ar = true) (hw : isWorld ar sz tb = true) (he : okEnv sz env = true) {s : Option Nat} {y vs : List Int} (h : Ev ar sz tb env s y vs) :
    (∀ v ∈ vs, 0 ≤ v ∧ v ≤ sz - 1) ∧ vs.length = (match s with | none => 1 | some m => m) := by
  obtain ⟨w1, w2, w3, w4⟩ := isWorld_iff.1 hw
  obtain ⟨e1, e2⟩ := okEnv_iff.1 he
  induction h with
  | var n h1 h2 =>
    refine ⟨fun v hv => ?_, rfl⟩
    simp at hv
    subst hv
    exact e2 _ (by unfold okSym inB at h1; simp at h1; omega)
  | node n ys vs h1 h2 _ ih =>
    refine ⟨fun v hv => ?_, rfl⟩
    simp at hv
    subst hv
    have hn : n.toNat < tb.length := by unfold okSym inB at h1; simp at h1; omega
    obtain ⟨t1, t2⟩ := w4 n.toNat hn
    obtain ⟨i1, i2⟩ := ih
    simp only at i2
    have hb := noOf_bd w1 vs i1
    unfold entry
    refine t2 _ ?_
    rw [t1]
    have ha : (ar.getD n.toNat 0).toNat = vs.length := by rw [i2]; unfold arOf; rw [if_neg (by omega)]
    have : longW sz (ar.getD n.toNat 0) = longW sz (vs.length : Nat) := by unfold longW; rw [ha]; rfl
    omega
  | nil => exact ⟨fun v hv => by simp at hv, rfl⟩
  | cons m y ys v vs _ _ ih1 ih2 =>
    refine ⟨fun x hx => ?_, ?_⟩
    · rcases List.mem_cons.1 hx with rfl | hx
      · exact ih1.1 _ (by simp)
      · exact ih2.1 _ hx
    · simp at ih2 ⊢; exact ih2.2

end Go.Proofs.Yteegjnobmbcjiaa
end
section
/- Chapter 5: the value of a term, reckoned from its end. No program. -/
namespace Go.Proofs.Yteegjnobmbcjiaa
open Go.RowKit

/-- The values of the terms that a list is. -/
def sufV (ar : List Int) (sz : Int) (tb : List (List Int)) (env : List Int) : List Int → List Int
  | [] => []
  | n :: r => if n < 0 then env.getD (-1 - n).toNat 0 :: sufV ar sz tb env r else entry sz tb n ((sufV ar sz tb env r).take (arOf ar n)) :: (sufV ar sz tb env r).drop (arOf ar n)
section
variable {ar : List Int} {sz : Int} {tb : List (List Int)} {env : List Int}
theorem sufV_neg {n : Int} {r : List Int} (h : n < 0) : sufV ar sz tb env (n :: r) = env.getD (-1 - n).toNat 0 :: sufV ar sz tb env r := by rw [sufV, if_pos h]
theorem sufV_sym {n : Int} {r : List Int} (h : ¬ n < 0) : sufV ar sz tb env (n :: r) = entry sz tb n ((sufV ar sz tb env r).take (arOf ar n)) :: (sufV ar sz tb env r).drop (arOf ar n) := by rw [sufV, if_neg h]
theorem sufV_len : ∀ y : List Int, (sufV ar sz tb env y).length ≤ y.length := by
  intro y
  induction y with
  | nil => exact Nat.le_refl _
  | cons n r ih =>
    by_cases h : n < 0
    · rw [sufV_neg h]; simp; exact ih
    · rw [sufV_sym h]; simp; omega
theorem Ev.len {s : Option Nat} {y vs : List Int} (h : Ev ar sz tb env s y vs) : vs.length = (match s with | none => 1 | some m => m) := by
  induction h with
  | var n h1 h2 => rfl
  | node n ys vs h1 h2 _ ih => rfl
  | nil => rfl
  | cons m y ys v vs _ _ ih1 ih2 => simp at ih2 ⊢; exact ih2
theorem Ev.suf {s : Option Nat} {y vs : List Int} (h : Ev ar sz tb env s y vs) : ∀ r, sufV ar sz tb env (y ++ r) = vs ++ sufV ar sz tb env r := by
  induction h with
  | var n h1 h2 => intro r; exact sufV_neg h2
  | node n ys vs h1 h2 hy ih =>
    intro r
    have hl := hy.len
    simp only at hl
    show sufV ar sz tb env (n :: (ys ++ r)) = _
    rw [sufV_sym (by omega), ih r, ← hl, List.take_left', List.drop_left']
    · rfl
    · rfl
    · rfl
  | nil => intro r; rfl
  | cons m y ys v vs _ _ ih1 ih2 =>
    intro r
    rw [List.append_assoc, ih1, ih2]
    rfl
theorem suf_ev {t : List Int} (h : okTerm ar t = true) : ∀ (k i : Nat), t.length - i ≤ k → i ≤ t.length → ∃ m, Ev ar sz tb env (some m) (t.drop i) (sufV ar sz tb env (t.drop i)) := by
  intro k
  induction k with
  | zero =>
    intro i hk hi
    rw [List.drop_of_length_le (by omega)]
    exact ⟨0, Ev.nil⟩
  | succ k ih =>
    intro i hk hi
    by_cases hlt : i < t.length
    · obtain ⟨e, he, h1, h2⟩ : ∃ e, endOf ar t i = some e ∧ i < e ∧ e ≤ t.length := by
        obtain ⟨e, he, h2⟩ := good_end ar t h i hlt
        refine ⟨e, he, ?_, by omega⟩
        have hs := good_sym ar t h i hlt
        unfold endOf at he
        rw [drop_cons t i hlt, endGo_cons, if_pos hs, Nat.zero_add] at he
        have := endGo_ge _ _ _ _ _ he
        omega
      obtain ⟨m, hm⟩ := ih e (by omega) h2
      have hp := ev_at (sz := sz) (tb := tb) (env := env) h (t.length - i) i e (Nat.le_refl _) hlt he
      have hd : t.drop i = partOf t i e ++ t.drop e := by
        unfold partOf
        conv => lhs; rw [← List.take_append_drop (e - i) (t.drop i)]
        rw [List.drop_drop, show i + (e - i) = e from by omega]
      have hsuf := hp.suf (t.drop e)
      rw [← hd] at hsuf
      refine ⟨m + 1, ?_⟩
      rw [hsuf, hd]
      exact Ev.cons m _ _ _ _ hp hm
    · rw [List.drop_of_length_le (by omega)]
      exact ⟨0, Ev.nil⟩
theorem suf_all {t : List Int} (h : okTerm ar t = true) : sufV ar sz tb env t = [evT ar sz tb env t] := by
  have := (ev_whole (sz := sz) (tb := tb) (env := env) h).suf []
  rw [List.append_nil] at this
  exact this
theorem suf_bd (hg : goodSign ar = true) (hw : isWorld ar sz tb = true) (he : okEnv sz env = true) {t : List Int} (h : okTerm ar t = true) (i : Nat) (hi : i ≤ t.length) : ∀ v ∈ sufV ar sz tb env (t.drop i), 0 ≤ v ∧ v ≤ sz - 1 := by
  obtain ⟨m, hm⟩ := suf_ev (sz := sz) (tb := tb) (env := env) h (t.length - i) i (Nat.le_refl _) hi
  exact (evT_bd hg hw he hm).1
/-- The arguments of the symbol at i stand on top. -/
theorem suf_args {t : List Int} (h : okTerm ar t = true) (i : Nat) (hi : i < t.length) (hn : ¬ t.getD i 0 < 0) : arOf ar (t.getD i 0) ≤ (sufV ar sz tb env (t.drop (i+1))).length := by
  obtain ⟨m, hm⟩ := suf_ev (sz := sz) (tb := tb) (env := env) h (t.length - i) i (Nat.le_refl _) (by omega)
  rw [drop_cons t i hi, sufV_sym hn] at hm
  generalize hY : sufV ar sz tb env (t.drop (i+1)) = Y at *
  generalize hT : t.getD i 0 :: t.drop (i+1) = T at hm
  generalize hV : entry sz tb (t.getD i 0) (Y.take (arOf ar (t.getD i 0))) :: Y.drop (arOf ar (t.getD i 0)) = V at hm
  clear hV
  generalize t.getD i 0 = s at *
  cases hm with
  | nil => simp at hT
  | cons m y ys v vs h1 h2 =>
    cases h1 with
    | var n _ h3 =>
      simp at hT
      omega
    | node n ys' vs' _ _ h4 =>
      simp at hT
      obtain ⟨rfl, e2⟩ := hT
      have := h4.suf ys
      rw [← e2, hY] at this
      have hl := h4.len
      simp only at hl
      rw [this]; simp; omega
end

/-- The stack: forty numbers, the first value on top. -/
def Stk (w : World) (B : Nat) (vs : List Int) : Prop :=
  B < w.heap.size ∧ (∀ j, j < 40 → ∃ x : Int, w.cell? ⟨B, j, none⟩ = some (.int .i64 x) ∧ w.frozen? ⟨B, j, none⟩ = false) ∧ ∀ j, j < vs.length → w.cell? ⟨B, vs.length - 1 - j, none⟩ = some (.int .i64 (vs.getD j 0))
theorem Stk.new (w : World) (T : TypeId) (cs : Array Value) (hcs : cs = Array.replicate 40 (.int .i64 0)) : Stk (w.alloc (.cells cs T)) w.heap.size [] := by
  subst hcs
  refine ⟨by simp, fun j hj => ⟨0, ?_, ?_⟩, fun j h => by simp at h⟩
  · rw [World.cell?_alloc_new w]; simp [hj]
  · exact World.frozen?_alloc_at _ _ _ _ rfl
theorem Stk.below {w w' : World} {B : Nat} {vs : List Int} (h : Stk w B vs) (hb : Bel w w') : Stk w' B vs := by
  obtain ⟨h1, h2, h3⟩ := h
  refine ⟨Nat.lt_of_lt_of_le h1 hb.size, fun j hj => ?_, fun j a => hb.at h1 (h3 j a)⟩
  obtain ⟨x, e1, e2⟩ := h2 j hj
  exact ⟨x, hb.at h1 e1, (hb.frozen (p := ⟨B, j, none⟩) h1).trans e2⟩
theorem Stk.drop {w : World} {B : Nat} {vs : List Int} (h : Stk w B vs) (a : Nat) (ha : a ≤ vs.length) : Stk w B (vs.drop a) := by
  refine ⟨h.1, h.2.1, fun j hj => ?_⟩
  rw [List.length_drop] at hj ⊢
  have := h.2.2 (a + j) (by omega)
  rw [show vs.length - 1 - (a + j) = vs.length - a - 1 - j from by omega] at this
  rw [this]
  simp [List.getD, List.getElem?_drop]
theorem Stk.push {w : World} {B : Nat} {vs : List Int} (h : Stk w B vs) (x : Int) (hl : vs.length < 40) : Stk (w.setCell ⟨B, vs.length, none⟩ (.int .i64 x)) B (x :: vs) := by
  obtain ⟨h1, h2, h3⟩ := h
  obtain ⟨x0, e1, e2⟩ := h2 vs.length hl
  have hne : ∀ j, j ≠ vs.length → (⟨B, vs.length, none⟩ : Addr) ≠ ⟨B, j, none⟩ := by intro j h1 h2; simp only [Addr.mk.injEq, and_true, true_and] at h2; omega
  refine ⟨by simpa using h1, fun j hj => ?_, fun j a => ?_⟩
  · by_cases e : j = vs.length
    · subst e; exact ⟨_, World.cell?_setCell_same _ _ _ e1, by rw [World.frozen?_setCell]; exact e2⟩
    · obtain ⟨y, f1, f2⟩ := h2 j hj
      exact ⟨y, by rw [World.cell?_setCell_other (h := hne j e)]; exact f1, by rw [World.frozen?_setCell]; exact f2⟩
  · cases j with
    | zero =>
      rw [show (x :: vs).length - 1 - 0 = vs.length from by simp]
      exact World.cell?_setCell_same _ _ _ e1
    | succ j =>
      simp only [List.length_cons] at a
      rw [show (x :: vs).length - 1 - (j + 1) = vs.length - 1 - j from by simp; omega, World.cell?_setCell_other (h := hne _ (by omega))]
      simpa using h3 j (by omega)
end Go.Proofs.Yteegjnobmbcjiaa
end
section
/- Chapter 5, the reference: GoodWorld. -/
namespace Go.Proofs.Yteegjnobmbcjiaa
open Go.RowKit

theorem pw_le {Z k : Nat} (h1 : Z ≤ 3) (h2 : k ≤ 3) : Z ^ k ≤ 27 :=
  Nat.le_trans (Nat.pow_le_pow_left h1 _) (Nat.pow_le_pow_right (n := 3) (by omega) h2)
theorem pw_succ (Z k : Nat) : ((Z ^ k : Nat) : Int) * (Z : Int) = ((Z ^ (k + 1) : Nat) : Int) := by rw [Nat.pow_succ]; simp

set_option maxRecDepth 100000 in
set_option maxHeartbeats 400000 in
theorem l5Long_c (Z A : Nat) (w : World) (h2 : Z ≤ 3) (h3 : A ≤ 3) :
    Calls Try.prog 139 #[.int .i64 (Z : Int), .int .i64 (A : Int)] w (RetV w (.int .i64 ((Z ^ A : Nat) : Int))) := by
  go_enter Try.func139, Try.ntmps139
  go_wp2_with fail
  go_loop [1, 5] (fun a n => ∃ k : Nat, k ≤ A ∧ a = .int .i64 ((A - k : Nat) : Int) ∧ n = .int .i64 ((Z ^ k : Nat) : Int)) (fun a _ => (intOf a).toNat)
  case atStart => exact ⟨0, Nat.zero_le _, rfl, rfl⟩
  case round =>
    obtain ⟨k, hk, rfl, rfl⟩ := hrel
    by_cases hlt : k < A
    · have E := Lib.hid (pw_succ Z k)
      have hb := pw_le h2 (show k + 1 ≤ 3 by omega)
      have hw : -9223372036854775808 ≤ ((Z ^ k : Nat) : Int) * (Z : Int) ∧ ((Z ^ k : Nat) : Int) * (Z : Int) ≤ 9223372036854775807 := by rw [E.out]; omega
      have hw1 := IntWalk.i64_in (((Z ^ k : Nat) : Int) * (Z : Int)) hw
      have hpos : (0 : Int) < ((A - k : Nat) : Int) := by omega
      have hg3 : ((A - k : Nat) : Int) ≤ 3 := by omega
      have hsub : ((A - k : Nat) : Int) - 1 = ((A - (k + 1) : Nat) : Int) := by omega
      have HS := Lib.hid hsub
      clear hw hb hsub
      generalize ((A - k : Nat) : Int) = g at *
      generalize ((Z ^ k : Nat) : Int) = y at *
      go_wp2_with fail
      go_round
      case rel => exact ⟨k+1, by omega, by rw [← HS.out], by rw [← E.out]⟩
      case measure => simp [intOf]; omega
    · obtain rfl : k = A := by omega
      have hz : ((k - k : Nat) : Int) = 0 := by simp
      rw [hz]
      generalize ((Z ^ k : Nat) : Int) = y at *
      go_wp2_with fail
      go_ret
      exact ⟨rfl, Bel.rfl' _⟩
end Go.Proofs.Yteegjnobmbcjiaa
end
section
/- Chapter 5, the reference: GoodWorld. -/
namespace Go.Proofs.Yteegjnobmbcjiaa
open Go.RowKit

/-- The length of the k-th table and its elements, as the loop asks. -/
theorem ne_len {a b : Nat} (h : a = b) : ((a : Int) != (b : Int)) = false := by subst h; simp
theorem ne_len' {a b : Nat} (h : a ≠ b) : ((a : Int) != (b : Int)) = true := by rw [bne, beq_eq_false_iff_ne.2 (by omega)]; rfl

set_option maxRecDepth 100000 in
set_option maxHeartbeats 1000000 in
theorem l5World_c (l h l' h' : Nat) (v u : Value) (ar : List Int) (sz : Int) (tb : List (List Int)) (w : World) (hg : goodSign ar = true) (hx : short tb) (hv : SlI l h w v ar) (hu : SlS l' h' w u tb) :
    Calls Try.prog 102 #[.agg #[v], .agg #[.int .i64 sz, u]] w (RetV w (.bool (isWorld ar sz tb))) := by
  obtain ⟨ad, cap, rfl, -, -, hr⟩ := hv
  obtain ⟨au, cu, rfl⟩ := hu.form
  have hlen := (sign_len ar hg).2
  by_cases h1 : inB sz 1 3 = true
  · by_cases h2 : tb.length = ar.length
    · have hn := Lib.hid (ne_len h2)
      have E0 : isWorld ar sz tb = okTabs ar sz tb tb.length := by unfold isWorld; rw [h1, decide_eq_true h2, Bool.true_and, Bool.true_and]
      obtain ⟨z1, z3⟩ : 1 ≤ sz ∧ sz ≤ 3 := by unfold inB at h1; simpa using h1
      obtain ⟨Z, rfl⟩ : ∃ Z : Nat, sz = (Z : Int) := ⟨sz.toNat, by omega⟩
      have HI := Lib.hid h1
      have H2 := Lib.hid h2
      rw [E0]
      have hnn := hn.out
      clear h1 h2 E0 hn
      go_enter Try.func102, Try.ntmps102
      go_wp2_with fail
      refine (l1In_qv _ _ _ _ HI.out _).mono ?_; rintro e w1 ⟨rfl, rfl⟩
      go_wp2_with fail
      obtain ⟨W, hW⟩ : ∃ W, W = (w.alloc (.cells #[.slice ad ar.length cap] 30)).alloc (.cells #[.int .i64 (Z : Int), .slice au tb.length cu] 58) := ⟨_, rfl⟩
      rw [← hW]
      have hB : Bel w W := by rw [hW]; exact Bel.alloc2 _ _ _
      have k0 : w.heap.size + 1 < W.heap.size ∧ W.cell? ⟨w.heap.size, 0, none⟩ = some (.slice ad ar.length cap) ∧ W.cell? ⟨w.heap.size + 1, 0, none⟩ = some (.int .i64 (Z : Int)) ∧ W.cell? ⟨w.heap.size + 1, 1, none⟩ = some (.slice au tb.length cu) := by rw [hW]; simp [go_sem]
      clear hW
      go_loopw [23] (fun j wr => ∃ k : Nat, k ≤ tb.length ∧ j = .int .i64 k ∧ okTabs ar Z tb k = true ∧ Bel W wr) (fun j _ => tb.length - (intOf j).toNat)
      case atStart => exact ⟨0, Nat.zero_le _, rfl, okTabs_zero _ _ _, Bel.rfl' _⟩
      case round =>
        obtain ⟨k, hk, rfl, hall, hb⟩ := hrel
        have q0 := hb.at (b := w.heap.size) (by omega) k0.2.1
        have q1 := hb.at k0.1 k0.2.2.1
        have q2 := hb.at k0.1 k0.2.2.2
        by_cases hlt : k < tb.length
        · obtain ⟨b, off, u1, rfl, hbs, c1, s1⟩ := hu.at (hB.step hb) k hlt
          obtain ⟨b2, off2, rfl, hb2l, hc2⟩ := rd hr (hB.step hb) k (by rw [← H2.out]; exact hlt)
          have h03 := ar_nonneg ar hg k
          obtain ⟨A, hA⟩ : ∃ A : Nat, ar.getD k 0 = (A : Int) := ⟨(ar.getD k 0).toNat, by omega⟩
          have hxl := hx.2 k hlt
          have zl1 : w.heap.size + 1 < wr.heap.size := Nat.lt_of_lt_of_le k0.1 hb.size
          have zl0 : w.heap.size < wr.heap.size := by omega
          have zlc : b2 < wr.heap.size := World.block_lt_of_cell? _ ⟨_, _, none⟩ hc2
          have hkl : (k : Int) < ar.length := by rw [← H2.out]; omega
          have EO : okTab Z (ar.getD k 0) (tb.getD k []) = (decide ((tb.getD k []).length = Z ^ A) && (tb.getD k []).all (fun x => inB x 0 ((Z : Int) - 1))) := by rw [hA]; rfl
          have ES := okTabs_succ ar Z tb k
          have EF := fun (h : okTab Z (ar.getD k 0) (tb.getD k []) = false) => okTabs_false (tb := tb) (n := tb.length) h hlt
          rw [EO] at ES EF
          rw [hall, Bool.true_and] at ES
          rw [hA] at hc2 h03
          have hA3 : A ≤ 3 := by omega
          obtain ⟨d1, e1, rfl⟩ := s1.form
          have HL := Lib.hid (fun (w' : World) => l5Long_c Z A w' (by omega) hA3)
          have hi1 := IntWalk.i64_in ((Z : Int) - 1) (by omega)
          clear hA EO hall h03
          generalize tb.getD k [] = x at *
          by_cases hxz : x.length = Z ^ A
          · have hne := ne_len hxz
            have HA := Lib.hid (fun (q : Bool) (w' : World) (hq : x.all (fun x => inB x 0 ((Z : Int) - 1)) = q) (hb' : Bel wr w') => l1All_v _ _ _ x 0 ((Z : Int) - 1) w' q hq hxl (s1.below hb'))
            rw [decide_eq_true hxz, Bool.true_and] at ES EF
            clear s1 hxl hxz
            generalize hyy : Z ^ A = y at *
            clear hyy
            cases hq : x.all (fun x => inB x 0 ((Z : Int) - 1)) with
            | true =>
              have HQ := Lib.hid hq
              have ES2 := Lib.hid (ES.trans hq)
              clear hq ES EF
              go_wp2_with fail
              go_region_held3 (fun w' => Bel wr w' ∧ w'.cell? ⟨w.heap.size + 1, 0, none⟩ = some (.int .i64 (Z : Int)) ∧ w'.cell? ⟨w.heap.size, 0, none⟩ = some (.slice (some ⟨b2, off2, none⟩) ar.length cap) ∧ w'.cell? ⟨b2, off2 + k, none⟩ = some (.int .i64 (A : Int)))
                (first | exact ⟨Bel.drew0 _, q1, q0, hc2⟩ | exact ⟨HB8, p1, p0, pc⟩ | exact ⟨HB8.step hb9, hb9.at pl1 p1, hb9.at pl0 p0, hb9.at plc pc⟩ | fail)
                (first | (go_at_call 56; refine (HA.out _ _ HQ.out HB8).mono ?_; rintro e w9 ⟨rfl, hb9⟩) | (go_at_call 139; refine (HL.out _).mono ?_; rintro e w8 ⟨rfl, hb8⟩; have HB8 := hb8.of_drew; have hz8 := HB8.size; have p1 := HB8.at zl1 q1; have p0 := HB8.at zl0 q0; have pc := HB8.at zlc hc2; have pl1 : w.heap.size + 1 < w8.heap.size := Nat.lt_of_lt_of_le zl1 hz8; have pl0 : w.heap.size < w8.heap.size := Nat.lt_of_lt_of_le zl0 hz8; have plc : b2 < w8.heap.size := Nat.lt_of_lt_of_le zlc hz8) | fail)
              go_wp2_with fail
              go_roundw
              case rel => exact ⟨k+1, by omega, by go_num, ES2.out, (hb.step HB8).step hb9⟩
              case measure => simp [intOf]; omega
            | false =>
              have HQ := Lib.hid hq
              have EF2 := Lib.hid (EF hq)
              clear hq ES EF
              go_wp2_with fail
              go_region_held3 (fun w' => Bel wr w' ∧ w'.cell? ⟨w.heap.size + 1, 0, none⟩ = some (.int .i64 (Z : Int)) ∧ w'.cell? ⟨w.heap.size, 0, none⟩ = some (.slice (some ⟨b2, off2, none⟩) ar.length cap) ∧ w'.cell? ⟨b2, off2 + k, none⟩ = some (.int .i64 (A : Int)))
                (first | exact ⟨Bel.drew0 _, q1, q0, hc2⟩ | exact ⟨HB8, p1, p0, pc⟩ | exact ⟨HB8.step hb9, hb9.at pl1 p1, hb9.at pl0 p0, hb9.at plc pc⟩ | fail)
                (first | (go_at_call 56; refine (HA.out _ _ HQ.out HB8).mono ?_; rintro e w9 ⟨rfl, hb9⟩) | (go_at_call 139; refine (HL.out _).mono ?_; rintro e w8 ⟨rfl, hb8⟩; have HB8 := hb8.of_drew; have hz8 := HB8.size; have p1 := HB8.at zl1 q1; have p0 := HB8.at zl0 q0; have pc := HB8.at zlc hc2; have pl1 : w.heap.size + 1 < w8.heap.size := Nat.lt_of_lt_of_le zl1 hz8; have pl0 : w.heap.size < w8.heap.size := Nat.lt_of_lt_of_le zl0 hz8; have plc : b2 < w8.heap.size := Nat.lt_of_lt_of_le zlc hz8) | fail)
              go_wp2_with fail
              go_ret
              exact ⟨by rw [EF2.out]; rfl, (hB.step hb).step (HB8.step hb9)⟩
          · have hne := ne_len' hxz
            have EF2 := Lib.hid (EF (by rw [decide_eq_false hxz]; rfl))
            clear s1 hxl EF ES
            generalize hyy : Z ^ A = y at *
            clear hyy hxz
            go_wp2_with fail
            first | (go_region_with (first | (go_at_call 139; refine (HL.out _).mono ?_; rintro e w8 ⟨rfl, hb8⟩) | fail)) | fail
            all_goals
              have HB8 := hb8.of_drew
              go_wp2_with fail
              go_ret
              exact ⟨by rw [EF2.out]; rfl, (hB.step hb).step HB8⟩
        · obtain rfl : k = tb.length := by omega
          have HALL := Lib.hid hall
          clear hall hlt
          go_wp2_with fail
          go_ret
          exact ⟨by rw [HALL.out]; rfl, hB.step hb⟩
    · have E0 : Hid (isWorld ar sz tb = false) := by show _ = _; unfold isWorld; rw [decide_eq_false h2]; simp
      have HI := Lib.hid h1
      have hnn := ne_len' h2
      clear h1 h2
      go_enter Try.func102, Try.ntmps102
      go_wp2_with fail
      refine (l1In_qv _ _ _ _ HI.out _).mono ?_; rintro e w1 ⟨rfl, rfl⟩
      go_wp2_with fail
      go_ret
      exact ⟨by rw [E0.out]; rfl, Bel.alloc2 _ _ _⟩
  · have h1' : inB sz 1 3 = false := by simpa using h1
    have E0 : Hid (isWorld ar sz tb = false) := by show _ = _; unfold isWorld; rw [h1']; rfl
    have HI := Lib.hid h1'
    clear h1 h1'
    go_enter Try.func102, Try.ntmps102
    go_wp2_with fail
    refine (l1In_qv _ _ _ _ HI.out _).mono ?_; rintro e w1 ⟨rfl, rfl⟩
    go_wp2_with fail
    go_ret
    exact ⟨by rw [E0.out]; rfl, Bel.alloc2 _ _ _⟩

theorem l5World_v (l h l' h' : Nat) (v u : Value) (ar : List Int) (sz : Int) (tb : List (List Int)) (q : Bool) (w : World) (he : isWorld ar sz tb = q) (hg : goodSign ar = true) (hx : short tb) (hv : SlI l h w v ar) (hu : SlS l' h' w u tb) :
    Calls Try.prog 102 #[.agg #[v], .agg #[.int .i64 sz, u]] w (RetV w (.bool q)) := by subst he; exact l5World_c l h l' h' v u ar sz tb w hg hx hv hu

set_option maxRecDepth 100000 in
set_option maxHeartbeats 400000 in
theorem sGoodWorld_t {l h l' h' : Nat} {v u : Value} {ar : List Int} {sz : Int} {tb : List (List Int)} {w : World} (ha : ar.length ≤ 1048576) (hv : SlI l h w v ar) (hx : short tb) (hu : SlS l' h' w u tb) :
    Calls Try.prog 52 #[.agg #[v], .agg #[.int .i64 sz, u]] w (RetV w (.bool (goodWorld ar sz tb))) := by
  unfold goodWorld
  have HB : Bel w ((w.alloc (.cells #[v] 30)).alloc (.cells #[.int .i64 sz, u] 58)) := Bel.alloc2 _ _ _
  cases hg : goodSign ar with
  | false =>
    rw [Bool.false_and]
    have HC := Lib.hid (fun (w' : World) (hb : Bel w w') => sGoodSign_v l h v ar false w' hg ha (hv.below hb)); clear hg
    go_enter Try.func52, Try.ntmps52
    go_wp2_with fail
    refine (HC.out _ HB).mono ?_; rintro e w1 ⟨rfl, hb1⟩
    go_wp2_with fail
    go_ret
    exact ⟨rfl, HB.step hb1⟩
  | true =>
    rw [Bool.true_and]
    have HC := Lib.hid (fun (w' : World) (hb : Bel w w') => sGoodSign_v l h v ar true w' hg ha (hv.below hb))
    have HD := Lib.hid (fun (w' : World) (hb : Bel w w') => l5World_c l h l' h' v u ar sz tb w' hg hx (hv.below hb) (hu.below hb)); clear hg hx
    go_enter Try.func52, Try.ntmps52
    go_wp2_with fail
    refine (HC.out _ HB).mono ?_; rintro e w1 ⟨rfl, hb1⟩
    have k0 := hb1.at (b := w.heap.size) (off := 0) (by simp; omega) (show World.cell? _ _ = some v by simp [go_sem])
    have k1 := hb1.at (b := w.heap.size + 1) (off := 0) (by simp) (show World.cell? _ _ = some (.int .i64 sz) by simp [go_sem])
    have k2 := hb1.at (b := w.heap.size + 1) (off := 1) (by simp) (show World.cell? _ _ = some u by simp [go_sem])
    go_wp2_with fail
    refine (HD.out _ (HB.step hb1)).mono ?_; rintro e w2 ⟨rfl, hb2⟩
    go_wp2_with fail
    go_ret
    exact ⟨rfl, (HB.step hb1).step hb2⟩
theorem sGoodWorld_v {l h l' h' : Nat} {v u : Value} {ar : List Int} {sz : Int} {tb : List (List Int)} {w : World} {q : Bool} (he : goodWorld ar sz tb = q) (ha : ar.length ≤ 1048576) (hv : SlI l h w v ar) (hx : short tb) (hu : SlS l' h' w u tb) :
    Calls Try.prog 52 #[.agg #[v], .agg #[.int .i64 sz, u]] w (RetV w (.bool q)) := by subst he; exact sGoodWorld_t ha hv hx hu
end Go.Proofs.Yteegjnobmbcjiaa
end
