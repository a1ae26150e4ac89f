/- Texts merged, part 4. -/
import Derived.Test.YtkbgglejhdodoaaMgRenamed3
section
/- VarsOf: both functions. -/
namespace Go.Proofs.Ytkbgglejhdodoaa
open Go.RowKit

/-- Twelve bools. -/
def arr (f : Nat → Bool) : Array Value := #[.bool (f 0), .bool (f 1), .bool (f 2), .bool (f 3), .bool (f 4), .bool (f 5), .bool (f 6), .bool (f 7), .bool (f 8), .bool (f 9), .bool (f 10), .bool (f 11)]
def anyB (f : Nat → Bool) : Bool := f 0 || f 1 || f 2 || f 3 || f 4 || f 5 || f 6 || f 7 || f 8 || f 9 || f 10 || f 11
theorem arr_set (f : Nat → Bool) (j : Nat) (b : Bool) (h : j < 12) : (arr f).setIfInBounds j (.bool b) = arr (fun i => if i = j then b else f i) := by
  match j, h with
  | 0, _ => rfl
  | 1, _ => rfl
  | 2, _ => rfl
  | 3, _ => rfl
  | 4, _ => rfl
  | 5, _ => rfl
  | 6, _ => rfl
  | 7, _ => rfl
  | 8, _ => rfl
  | 9, _ => rfl
  | 10, _ => rfl
  | 11, _ => rfl
theorem arr_get (f : Nat → Bool) (j : Nat) (h : j < 12) : (arr f)[j]? = some (.bool (f j)) := by
  match j, h with
  | 0, _ => rfl
  | 1, _ => rfl
  | 2, _ => rfl
  | 3, _ => rfl
  | 4, _ => rfl
  | 5, _ => rfl
  | 6, _ => rfl
  | 7, _ => rfl
  | 8, _ => rfl
  | 9, _ => rfl
  | 10, _ => rfl
  | 11, _ => rfl

def BlkIs (w : World) (B : Nat) (T : TypeId) (f : Nat → Bool) : Prop := w.heap[B]? = some (.cells (arr f) T (0, 0))
theorem BlkIs.cell {w : World} {B : Nat} {T : TypeId} {f : Nat → Bool} (h : BlkIs w B T f) (j : Nat) (hj : j < 12) : w.cell? ⟨B, j, none⟩ = some (.bool (f j)) := by
  unfold BlkIs at h
  simp [World.cell?, h, arr_get f j hj]
theorem BlkIs.free {w : World} {B : Nat} {T : TypeId} {f : Nat → Bool} (h : BlkIs w B T f) (j : Nat) : w.frozen? ⟨B, j, none⟩ = false := by
  unfold BlkIs at h
  simp [World.frozen?, h]
theorem BlkIs.lt {w : World} {B : Nat} {T : TypeId} {f : Nat → Bool} (h : BlkIs w B T f) : B < w.heap.size := (Array.getElem?_eq_some_iff.1 h).1
theorem BlkIs.bel {w w' : World} {B : Nat} {T : TypeId} {f : Nat → Bool} (h : BlkIs w B T f) (hb : Bel w w') : BlkIs w' B T f := (hb.block B h.lt).trans h
theorem BlkIs.set {w : World} {B : Nat} {T : TypeId} {f : Nat → Bool} (h : BlkIs w B T f) (j : Nat) (hj : j < 12) (b : Bool) : BlkIs (w.setCell ⟨B, j, none⟩ (.bool b)) B T (fun i => if i = j then b else f i) := by
  have hlt := h.lt
  have h' : w.heap[B] = .cells (arr f) T (0, 0) := by unfold BlkIs at h; simpa [Array.getElem?_eq_getElem hlt] using h
  show (w.heap.modify B _)[B]? = _
  rw [Array.getElem?_eq_getElem (by simpa using hlt), Array.getElem_modify_self, h']
  simp [arr_set f j b hj]
theorem BlkIs.other {w : World} {B : Nat} {T : TypeId} {f : Nat → Bool} (h : BlkIs w B T f) {p : Addr} (hp : p.block ≠ B) (v : Value) : BlkIs (w.setCell p v) B T f :=
  (Below.heap_setCell w p v B (by omega)).trans h

/-- .. while a row of the call's own, behind it, has grown. -/
theorem blk_grown {w w' : World} {o : Obj} {B : Nat} {T e : TypeId} {f : Nat → Bool} {v : Value} {n sz : Nat} {xs : List Value} (h : BlkIs w B T f) (hown : w.ownsRow (B + 1) e sz v n xs) (hg : (w.alloc o).grownBy w' v.ownBlock) : BlkIs w' B T f := by
  have hlt := h.lt
  refine (hg.block B (by simp; omega) (fun e => ?_)).trans ((Below.heap_alloc w o B hlt).trans h)
  have := own_base hown B e.symm
  omega
def mk (t : List Int) (j : Nat) : Bool := decide ((-1 - (j : Int)) ∈ t)
theorem mk_step (t : List Int) (k m : Nat) (hk : k < t.length) (hx : t.getD k 0 = -1 - (m : Int)) : (fun i => if i = m then true else mk (t.take k) i) = mk (t.take (k+1)) := by
  funext i
  unfold mk
  rw [List.take_succ_eq_append_getElem hk]
  have e : t[k] = -1 - (m : Int) := by simpa [List.getD, hk] using hx
  rw [e]
  by_cases h : i = m
  · subst h; simp
  · rw [if_neg h]
    have : (-1 - (i : Int)) ≠ -1 - (m : Int) := by omega
    simp [this]
theorem mk_skip (t : List Int) (k : Nat) (hk : k < t.length) (hx : 0 ≤ t.getD k 0) : mk (t.take k) = mk (t.take (k+1)) := by
  funext i
  unfold mk
  rw [List.take_succ_eq_append_getElem hk]
  have e : 0 ≤ t[k] := by simpa [List.getD, hk] using hx
  have h1 : (-1 - (i : Int)) ≠ t[k] := by omega
  have h2 : (-1 - (i : Int) ∈ t.take k) ↔ (-1 - (i : Int) ∈ t.take k ++ [t[k]]) := by
    rw [List.mem_append, List.mem_singleton]
    exact ⟨Or.inl, fun h => h.resolve_right h1⟩
  exact decide_eq_decide.2 h2

theorem results_cell_one {fn : Func} {p : Tmp} {ty : TypeId} (h : fn.results = #[.cell p ty]) (tmps : Array Value) (P : Program) (w : World) :
    (results fn tmps).run P w = ((asAddr (tmps.getD p undef)).run P w).andThen fun a w₁ => (loadVar ty a).run P w₁ := by
  simp only [results, h]
  simp [Sem.run_bind, Result.andThen]
theorem arr_all (f : Nat → Bool) : (arr f).all (·.oneCell') = true := by simp [arr, Value.oneCell']
theorem zero12 : (#[.bool false, .bool false, .bool false, .bool false, .bool false, .bool false, .bool false, .bool false, .bool false, .bool false, .bool false, .bool false] : Array Value) = arr (fun _ => false) := rfl

/-- From v on what is left of f. -/
def leftF (f : Nat → Bool) (v j : Nat) : Bool := f j && decide (v ≤ j)
def varsTo (f : Nat → Bool) (v : Nat) : List Nat := (List.range v).filter f
theorem varsTo_succ (f : Nat → Bool) (v : Nat) : varsTo f (v + 1) = if f v then varsTo f v ++ [v] else varsTo f v := by
  unfold varsTo
  rw [List.range_succ, List.filter_append]
  by_cases h : f v <;> simp [List.filter_cons, h]
theorem left_zero (f : Nat → Bool) : leftF f 0 = f := by funext j; simp [leftF]
theorem left_clear (f : Nat → Bool) (v : Nat) : (fun i => if i = v then false else leftF f v i) = leftF f (v + 1) := by
  funext i
  unfold leftF
  by_cases h : i = v
  · subst h; simp
  · rw [if_neg h]
    congr 1
    rw [decide_eq_decide]; omega
theorem left_skip (f : Nat → Bool) (v : Nat) (h : f v = false) : leftF f v = leftF f (v + 1) := by
  rw [← left_clear]
  funext i
  by_cases e : i = v
  · subst e; simp [leftF, h]
  · rw [if_neg e]
theorem anyB_iff (f : Nat → Bool) : anyB f = true ↔ ∃ j, j < 12 ∧ f j = true := by
  constructor
  · intro h
    simp only [anyB, Bool.or_eq_true] at h
    rcases h with ((((((((((( h | h) | h) | h) | h) | h) | h) | h) | h) | h) | h) | h)
    · exact ⟨0, by omega, h⟩
    · exact ⟨1, by omega, h⟩
    · exact ⟨2, by omega, h⟩
    · exact ⟨3, by omega, h⟩
    · exact ⟨4, by omega, h⟩
    · exact ⟨5, by omega, h⟩
    · exact ⟨6, by omega, h⟩
    · exact ⟨7, by omega, h⟩
    · exact ⟨8, by omega, h⟩
    · exact ⟨9, by omega, h⟩
    · exact ⟨10, by omega, h⟩
    · exact ⟨11, by omega, h⟩
  · rintro ⟨j, hj, h⟩
    match j, hj with
    | 0, _ => simp [anyB, h]
    | 1, _ => simp [anyB, h]
    | 2, _ => simp [anyB, h]
    | 3, _ => simp [anyB, h]
    | 4, _ => simp [anyB, h]
    | 5, _ => simp [anyB, h]
    | 6, _ => simp [anyB, h]
    | 7, _ => simp [anyB, h]
    | 8, _ => simp [anyB, h]
    | 9, _ => simp [anyB, h]
    | 10, _ => simp [anyB, h]
    | 11, _ => simp [anyB, h]
theorem left_some {f : Nat → Bool} {v : Nat} (h : anyB (leftF f v) = true) : v < 12 := by
  obtain ⟨j, hj, h1⟩ := (anyB_iff _).1 h
  simp [leftF] at h1
  omega
theorem left_none {f : Nat → Bool} {v : Nat} (h : anyB (leftF f v) = false) (hv : v ≤ 12) : varsTo f v = varsTo f 12 := by
  have hz : ∀ j, v ≤ j → j < 12 → f j = false := by
    intro j h1 h2
    cases hf : f j with
    | false => rfl
    | true =>
      have : anyB (leftF f v) = true := (anyB_iff _).2 ⟨j, h2, by simp [leftF, hf, h1]⟩
      rw [h] at this; simp at this
  have : ∀ n, v + n ≤ 12 → varsTo f (v + n) = varsTo f v := by
    intro n
    induction n with
    | zero => intro _; rfl
    | succ n ih =>
      intro hn
      rw [show v + (n + 1) = (v + n) + 1 from rfl, varsTo_succ, hz (v + n) (by omega) (by omega), if_neg (by simp), ih (by omega)]
  have h2 := this (12 - v) (by omega)
  rw [show v + (12 - v) = 12 from by omega] at h2
  exact h2.symm
theorem varsTo_len (f : Nat → Bool) (v : Nat) : (varsTo f v).length ≤ v := by
  have := List.length_filter_le f (List.range v)
  simpa [varsTo] using this

def varsAns (ar t : List Int) : List Int := if goodTerm ar t then natsI (varsTo (mk t) 12) else []
theorem varsAns_len (ar t : List Int) : (varsAns ar t).length ≤ 1048576 := by
  unfold varsAns
  split
  · rw [natsI_len]; exact Nat.le_trans (varsTo_len _ _) (by omega)
  · exact Nat.zero_le _
theorem vars_no {ar t : List Int} (h : goodTerm ar t = false) : varsAns ar t = [] := by simp [varsAns, h]
theorem vars_yes {ar t : List Int} (h : goodTerm ar t = true) : varsAns ar t = natsI (varsTo (mk t) 12) := by simp [varsAns, h]
theorem low_of_good {ar t : List Int} (h : goodTerm ar t = true) : ∀ k, k < t.length → -12 ≤ t.getD k 0 := by
  intro k hk
  have := good_sym ar t (goodTerm_iff.1 h).2 k hk
  simp [okSym, inB] at this
  simp only [List.getD]
  omega

end Go.Proofs.Ytkbgglejhdodoaa
end
section
/- VarsOf: the reference's side. -/
namespace Go.Proofs.Ytkbgglejhdodoaa
open Go.RowKit

def setF (f : Nat → Bool) (m : Nat) (i : Nat) : Bool := if i = m then true else f i
def tailF (f : Nat → Bool) (m : Nat) : List Nat := ((List.range 12).drop (m + 1)).filter f
theorem tail_gt {f : Nat → Bool} {m x : Nat} (h : x ∈ tailF f m) : m < x := by
  unfold tailF at h
  have h1 := (List.mem_filter.1 h).1
  rw [List.mem_iff_getElem?] at h1
  obtain ⟨i, hi⟩ := h1
  rw [List.getElem?_drop] at hi
  have h2 := (List.getElem?_eq_some_iff.1 hi)
  obtain ⟨h3, h4⟩ := h2
  simp at h4
  omega
theorem vars_split (f : Nat → Bool) (m : Nat) (h : m < 12) : varsTo f 12 = varsTo f m ++ (if f m then m :: tailF f m else tailF f m) := by
  unfold varsTo tailF
  conv => lhs; rw [← List.take_append_drop m (List.range 12)]
  rw [List.filter_append, List.take_range, Nat.min_eq_left (by omega), List.drop_eq_getElem_cons (by simpa using h), List.filter_cons]
  simp
theorem vars_lt {f : Nat → Bool} {m x : Nat} (h : x ∈ varsTo f m) : x < m := by
  unfold varsTo at h
  have := (List.mem_filter.1 h).1
  simpa using this
theorem set_to (f : Nat → Bool) (m : Nat) : varsTo (setF f m) m = varsTo f m := by
  unfold varsTo
  apply List.filter_congr
  intro x hx
  have : x < m := by simpa using hx
  unfold setF; rw [if_neg (by omega)]
theorem set_tail (f : Nat → Bool) (m : Nat) : tailF (setF f m) m = tailF f m := by
  unfold tailF
  apply List.filter_congr
  intro x hx
  have : m < x := by
    rw [List.mem_iff_getElem?] at hx
    obtain ⟨i, hi⟩ := hx
    rw [List.getElem?_drop] at hi
    obtain ⟨h3, h4⟩ := (List.getElem?_eq_some_iff.1 hi)
    simp at h4
    omega
  unfold setF; rw [if_neg (by omega)]
theorem set_vars (f : Nat → Bool) (m : Nat) (h : m < 12) : varsTo (setF f m) 12 = varsTo f m ++ m :: tailF f m := by
  rw [vars_split _ m h, set_to, set_tail, if_pos (by simp [setF])]
theorem set_same (f : Nat → Bool) (m : Nat) (h : f m = true) : setF f m = f := by
  funext i
  unfold setF
  by_cases e : i = m
  · subst e; rw [if_pos rfl, h]
  · rw [if_neg e]

theorem own_fix {w : World} {base e n n' : Nat} {v : Value} {vs : List Value} {xs : List Int} (hn : n' = n) (hx : vs = xs.map (Value.int .i64)) (h : w.ownsRow base e 1 v n' vs) : w.ownsRow base e 1 v n (xs.map (Value.int .i64)) := by subst hn hx; exact h
/-- A slice of ints: one's own from lo on. -/
def RetO (lo : Nat) (w : World) (xs : List Int) (e : Ending) (w' : World) : Prop := ∃ ad n c, e = .returned (.slice ad n c) ∧ OwnI lo w'.heap.size w' (.slice ad n c) xs ∧ Bel w w'

theorem nget (l : List Nat) (k : Nat) (h : k < l.length) : (natsI l).getD k 0 = (l.getD k 0 : Nat) := by simp [natsI, List.getD, h]

end Go.Proofs.Ytkbgglejhdodoaa
end
section
namespace Go.Proofs.Ytkbgglejhdodoaa
open Go.RowKit

theorem put_empty {f : Nat → Bool} {m : Nat} (hm : m < 12) (h : varsTo f 12 = []) : natsI (varsTo (setF f m) 12) = [(m : Int)] := by
  have h1 := vars_split f m hm
  rw [h] at h1
  have h2 := List.append_eq_nil_iff.1 h1.symm
  have h3 : tailF f m = [] := by
    have := h2.2
    split at this
    · simp at this
    · exact this
  rw [set_vars f m hm, h2.1, h3]; rfl
theorem put_some (f : Nat → Bool) (m : Nat) (hm : m < 12) : 0 < (varsTo (setF f m) 12).length := by rw [set_vars f m hm]; simp; omega

end Go.Proofs.Ytkbgglejhdodoaa
end
section
/- Slices of ints compared: three functions of one shape. -/
namespace Go.Proofs.Ytkbgglejhdodoaa
open Go.RowKit

set_option maxRecDepth 100000 in
set_option maxHeartbeats 400000 in
theorem l1Same_c (l h l' h' : Nat) (v u : Value) (xs ys : List Int) (w : World) (hx : xs.length ≤ 1048576) (hy : ys.length ≤ 1048576) (hv : SlI l h w v xs) (hu : SlI l' h' w u ys) :
    Calls Try.prog 59 #[v, u] w (RetV w (.bool (decide (xs = ys)))) := by
  obtain ⟨ad, cap, rfl, -, -, hr⟩ := hv
  obtain ⟨ad', cap', rfl, -, -, hr'⟩ := hu
  by_cases hl : (xs.length : Int) = ys.length
  · have hl1 : xs.length = ys.length := by omega
    have hl' : ((xs.length : Int) != ys.length) = false := by simpa using hl
    have HL := Lib.hid hl1
    clear hl hl1
    go_enter Try.func59, Try.ntmps59
    go_wp2_with fail
    go_loopw [13] (fun i wr => ∃ k : Nat, k ≤ xs.length ∧ i = .int .i64 k ∧ xs.take k = ys.take k ∧ Bel w wr) (fun i _ => xs.length - (intOf i).toNat)
    case atStart => exact ⟨0, Nat.zero_le _, rfl, rfl, Bel.rfl' _⟩
    case round =>
      obtain ⟨k, hk, rfl, ha, hb⟩ := hrel
      by_cases hlt : k < xs.length
      · have hlt2 : k < ys.length := by rw [← HL.out]; exact hlt
        obtain ⟨b, off, rfl, -, hcell⟩ := rd hr hb k hlt
        obtain ⟨b', off', rfl, -, hcell'⟩ := rd hr' hb k hlt2
        have E1 := Lib.hid (take_eq_succ xs ys k hlt hlt2 ha)
        have E2 := Lib.hid (take_ne xs ys k)
        clear hr hr' ha
        generalize xs.getD k 0 = x at *
        generalize ys.getD k 0 = y at *
        by_cases hxy : x = y
        · have E3 := Lib.hid (E1.out hxy)
          clear E1 E2
          subst hxy
          go_wp2_with fail
          go_quiet (fail)
          go_wp2
          go_roundw
          case rel => exact ⟨k+1, by omega, by go_num, E3.out, hb.drewN _⟩
          case measure => simp [intOf]; omega
        · have e1 : Hid (decide (xs = ys) = false) := by show decide (xs = ys) = false; simpa using E2.out hlt hlt2 hxy
          have hxy' : (x != y) = true := by simpa using hxy
          clear hxy
          go_wp2_with fail
          go_quiet (fail)
          go_wp2
          go_ret
          exact ⟨by rw [e1.out]; rfl, hb.drewN _⟩
      · have HA := Lib.hid ha; clear ha
        have e1 : Hid (decide (xs = ys) = true) := by
          show decide (xs = ys) = true
          have h1 := HA.out
          rw [List.take_of_length_le (by omega), List.take_of_length_le (by rw [← HL.out]; omega)] at h1
          simpa using h1
        go_wp2_with fail
        go_ret
        exact ⟨by rw [e1.out]; rfl, hb⟩
  · have e1 : Hid (decide (xs = ys) = false) := by show decide (xs = ys) = false; simp; rintro rfl; exact hl rfl
    have hl' : ((xs.length : Int) != ys.length) = true := by simpa using hl
    clear hl
    go_enter Try.func59, Try.ntmps59
    go_wp2_with fail
    go_ret
    exact ⟨by rw [e1.out]; rfl, Bel.rfl' _⟩
theorem l1Same_v (l h l' h' : Nat) (v u : Value) (xs ys : List Int) (q : Bool) (w : World) (he : decide (xs = ys) = q) (hx : xs.length ≤ 1048576) (hy : ys.length ≤ 1048576) (hv : SlI l h w v xs) (hu : SlI l' h' w u ys) :
    Calls Try.prog 59 #[v, u] w (RetV w (.bool q)) := he ▸ l1Same_c l h l' h' v u xs ys w hx hy hv hu
theorem l1Same_same (l h l' h' : Nat) (v u : Value) (xs : List Int) (w : World) (hx : xs.length ≤ 1048576) (hv : SlI l h w v xs) (hu : SlI l' h' w u xs) :
    Calls Try.prog 59 #[v, u] w (RetV w (.bool true)) := l1Same_v l h l' h' v u xs xs true w (by simp) hx hx hv hu

set_option maxRecDepth 100000 in
set_option maxHeartbeats 400000 in
theorem slEqual_c (l h l' h' : Nat) (v u : Value) (xs ys : List Int) (w : World) (hx : xs.length ≤ 1048576) (hy : ys.length ≤ 1048576) (hv : SlI l h w v xs) (hu : SlI l' h' w u ys) :
    Calls Try.prog 56 #[v, u] w (RetV w (.bool (decide (xs = ys)))) := by
  obtain ⟨ad, cap, rfl, -, -, hr⟩ := hv
  obtain ⟨ad', cap', rfl, -, -, hr'⟩ := hu
  by_cases hl : (xs.length : Int) = ys.length
  · have hl1 : xs.length = ys.length := by omega
    have hl' : ((xs.length : Int) != ys.length) = false := by simpa using hl
    have HL := Lib.hid hl1
    clear hl hl1
    go_enter Try.func56, Try.ntmps56
    go_wp2_with fail
    go_loopw [13] (fun i wr => ∃ k : Nat, k ≤ xs.length ∧ i = .int .i64 k ∧ xs.take k = ys.take k ∧ Bel w wr) (fun i _ => xs.length - (intOf i).toNat)
    case atStart => exact ⟨0, Nat.zero_le _, rfl, rfl, Bel.rfl' _⟩
    case round =>
      obtain ⟨k, hk, rfl, ha, hb⟩ := hrel
      by_cases hlt : k < xs.length
      · have hlt2 : k < ys.length := by rw [← HL.out]; exact hlt
        obtain ⟨b, off, rfl, -, hcell⟩ := rd hr hb k hlt
        obtain ⟨b', off', rfl, -, hcell'⟩ := rd hr' hb k hlt2
        have E1 := Lib.hid (take_eq_succ xs ys k hlt hlt2 ha)
        have E2 := Lib.hid (take_ne xs ys k)
        clear hr hr' ha
        generalize xs.getD k 0 = x at *
        generalize ys.getD k 0 = y at *
        by_cases hxy : x = y
        · have E3 := Lib.hid (E1.out hxy)
          clear E1 E2
          subst hxy
          go_wp2_with fail
          go_quiet (fail)
          go_wp2
          go_roundw
          case rel => exact ⟨k+1, by omega, by go_num, E3.out, hb.drewN _⟩
          case measure => simp [intOf]; omega
        · have e1 : Hid (decide (xs = ys) = false) := by show decide (xs = ys) = false; simpa using E2.out hlt hlt2 hxy
          have hxy' : (x != y) = true := by simpa using hxy
          clear hxy
          go_wp2_with fail
          go_quiet (fail)
          go_wp2
          go_ret
          exact ⟨by rw [e1.out]; rfl, hb.drewN _⟩
      · have HA := Lib.hid ha; clear ha
        have e1 : Hid (decide (xs = ys) = true) := by
          show decide (xs = ys) = true
          have h1 := HA.out
          rw [List.take_of_length_le (by omega), List.take_of_length_le (by rw [← HL.out]; omega)] at h1
          simpa using h1
        go_wp2_with fail
        go_ret
        exact ⟨by rw [e1.out]; rfl, hb⟩
  · have e1 : Hid (decide (xs = ys) = false) := by show decide (xs = ys) = false; simp; rintro rfl; exact hl rfl
    have hl' : ((xs.length : Int) != ys.length) = true := by simpa using hl
    clear hl
    go_enter Try.func56, Try.ntmps56
    go_wp2_with fail
    go_ret
    exact ⟨by rw [e1.out]; rfl, Bel.rfl' _⟩
theorem slEqual_v (l h l' h' : Nat) (v u : Value) (xs ys : List Int) (q : Bool) (w : World) (he : decide (xs = ys) = q) (hx : xs.length ≤ 1048576) (hy : ys.length ≤ 1048576) (hv : SlI l h w v xs) (hu : SlI l' h' w u ys) :
    Calls Try.prog 56 #[v, u] w (RetV w (.bool q)) := he ▸ slEqual_c l h l' h' v u xs ys w hx hy hv hu
theorem slEqual_same (l h l' h' : Nat) (v u : Value) (xs : List Int) (w : World) (hx : xs.length ≤ 1048576) (hv : SlI l h w v xs) (hu : SlI l' h' w u xs) :
    Calls Try.prog 56 #[v, u] w (RetV w (.bool true)) := slEqual_v l h l' h' v u xs xs true w (by simp) hx hx hv hu

set_option maxRecDepth 100000 in
set_option maxHeartbeats 400000 in
theorem sameInts_c (l h l' h' : Nat) (v u : Value) (xs ys : List Int) (w : World) (hx : xs.length ≤ 1048576) (hy : ys.length ≤ 1048576) (hv : SlI l h w v xs) (hu : SlI l' h' w u ys) :
    Calls Try.prog 55 #[v, u] w (RetV w (.bool (decide (xs = ys)))) := by
  obtain ⟨ad, cap, rfl, -, -, hr⟩ := hv
  obtain ⟨ad', cap', rfl, -, -, hr'⟩ := hu
  by_cases hl : (xs.length : Int) = ys.length
  · have hl1 : xs.length = ys.length := by omega
    have hl' : ((xs.length : Int) != ys.length) = false := by simpa using hl
    have HL := Lib.hid hl1
    clear hl hl1
    go_enter Try.func55, Try.ntmps55
    go_wp2_with fail
    go_loopw [13] (fun i wr => ∃ k : Nat, k ≤ xs.length ∧ i = .int .i64 k ∧ xs.take k = ys.take k ∧ Bel w wr) (fun i _ => xs.length - (intOf i).toNat)
    case atStart => exact ⟨0, Nat.zero_le _, rfl, rfl, Bel.rfl' _⟩
    case round =>
      obtain ⟨k, hk, rfl, ha, hb⟩ := hrel
      by_cases hlt : k < xs.length
      · have hlt2 : k < ys.length := by rw [← HL.out]; exact hlt
        obtain ⟨b, off, rfl, -, hcell⟩ := rd hr hb k hlt
        obtain ⟨b', off', rfl, -, hcell'⟩ := rd hr' hb k hlt2
        have E1 := Lib.hid (take_eq_succ xs ys k hlt hlt2 ha)
        have E2 := Lib.hid (take_ne xs ys k)
        clear hr hr' ha
        generalize xs.getD k 0 = x at *
        generalize ys.getD k 0 = y at *
        by_cases hxy : x = y
        · have E3 := Lib.hid (E1.out hxy)
          clear E1 E2
          subst hxy
          go_wp2_with fail
          go_quiet (fail)
          go_wp2
          go_roundw
          case rel => exact ⟨k+1, by omega, by go_num, E3.out, hb.drewN _⟩
          case measure => simp [intOf]; omega
        · have e1 : Hid (decide (xs = ys) = false) := by show decide (xs = ys) = false; simpa using E2.out hlt hlt2 hxy
          have hxy' : (x != y) = true := by simpa using hxy
          clear hxy
          go_wp2_with fail
          go_quiet (fail)
          go_wp2
          go_ret
          exact ⟨by rw [e1.out]; rfl, hb.drewN _⟩
      · have HA := Lib.hid ha; clear ha
        have e1 : Hid (decide (xs = ys) = true) := by
          show decide (xs = ys) = true
          have h1 := HA.out
          rw [List.take_of_length_le (by omega), List.take_of_length_le (by rw [← HL.out]; omega)] at h1
          simpa using h1
        go_wp2_with fail
        go_ret
        exact ⟨by rw [e1.out]; rfl, hb⟩
  · have e1 : Hid (decide (xs = ys) = false) := by show decide (xs = ys) = false; simp; rintro rfl; exact hl rfl
    have hl' : ((xs.length : Int) != ys.length) = true := by simpa using hl
    clear hl
    go_enter Try.func55, Try.ntmps55
    go_wp2_with fail
    go_ret
    exact ⟨by rw [e1.out]; rfl, Bel.rfl' _⟩
theorem sameInts_v (l h l' h' : Nat) (v u : Value) (xs ys : List Int) (q : Bool) (w : World) (he : decide (xs = ys) = q) (hx : xs.length ≤ 1048576) (hy : ys.length ≤ 1048576) (hv : SlI l h w v xs) (hu : SlI l' h' w u ys) :
    Calls Try.prog 55 #[v, u] w (RetV w (.bool q)) := he ▸ sameInts_c l h l' h' v u xs ys w hx hy hv hu
theorem sameInts_same (l h l' h' : Nat) (v u : Value) (xs : List Int) (w : World) (hx : xs.length ≤ 1048576) (hv : SlI l h w v xs) (hu : SlI l' h' w u xs) :
    Calls Try.prog 55 #[v, u] w (RetV w (.bool true)) := sameInts_v l h l' h' v u xs xs true w (by simp) hx hx hv hu

theorem sameTerm_same (l h l' h' : Nat) (v u : Value) (xs : List Int) (w : World) (hx : xs.length ≤ 1048576) (hv : SlI l h w v xs) (hu : SlI l' h' w u xs) :
    Calls Try.prog 28 #[v, u] w (RetV w (.bool true)) := by
  have HC := Lib.hid (sameInts_same l h l' h' v u xs w hx hv hu)
  clear hv hu
  go_enter Try.func28, Try.ntmps28
  go_wp2_with (go_at_call 55; refine HC.out.mono ?_; rintro e w' ⟨rfl, hb1⟩)
  go_ret
  exact ⟨rfl, hb1⟩
end Go.Proofs.Ytkbgglejhdodoaa
end
section
/- Slices of slices of ints: read (SlS), or of the call's own, each in blocks of its own (OwnS); marks. No program. -/
namespace Go.Proofs.Ytkbgglejhdodoaa
open Go.RowKit

/-- The slice value v holds slices of ints. -/
def SlS (lo hi : Nat) (w : World) (v : Value) (xss : List (List Int)) : Prop :=
  ∃ ad cap, v = .slice ad xss.length cap ∧ xss.length ≤ cap ∧ (cap ≤ maxLen ∧ (ad = none → cap = 0)) ∧
    (0 < xss.length → ∃ b off, ad = some ⟨b, off, none⟩ ∧ lo ≤ b ∧ b < hi ∧ ∀ j, j < xss.length → ∃ u, w.cell? ⟨b, off + j, none⟩ = some u ∧ SlI lo hi w u (xss.getD j []))

theorem SlI.empty {lo hi lo' hi' w w' v} (h : SlI lo hi w v []) : SlI lo' hi' w' v [] := by
  obtain ⟨ad, cap, e, hc, hm, _⟩ := h
  exact ⟨ad, cap, e, hc, hm, fun h => absurd h (by simp)⟩
theorem OwnI.empty {lo hi lo' hi' w w' v} (h : OwnI lo hi w v []) : OwnI lo' hi' w' v [] := by
  refine ⟨h.1.empty, fun b off n c hv hn => ?_⟩
  obtain ⟨ad, cap, e, _⟩ := h.1
  rw [e] at hv; simp at hv; omega
theorem len0 {xs : List Int} (h : ¬ 0 < xs.length) : xs = [] := List.length_eq_zero_iff.1 (by omega)
theorem SlS.form {lo hi w v xss} (h : SlS lo hi w v xss) : ∃ ad c, v = .slice ad xss.length c := by obtain ⟨ad, c, h, _⟩ := h; exact ⟨ad, c, h⟩
theorem SlS.mono {lo hi lo' hi' w v xss} (h : SlS lo hi w v xss) (h1 : lo' ≤ lo) (h2 : hi ≤ hi') : SlS lo' hi' w v xss := by
  obtain ⟨ad, cap, rfl, hc, hm, hr⟩ := h
  refine ⟨ad, cap, rfl, hc, hm, fun hp => ?_⟩
  obtain ⟨b, off, e, a1, a2, a3⟩ := hr hp
  refine ⟨b, off, e, by omega, by omega, fun j hj => ?_⟩
  obtain ⟨u, hu, hs⟩ := a3 j hj
  exact ⟨u, hu, hs.mono h1 h2⟩
theorem SlS.same {lo hi w w' v xss} (h : SlS lo hi w v xss) (hs : ∀ b, lo ≤ b → b < hi → b < w.heap.size → w'.heap[b]? = w.heap[b]?) : SlS lo hi w' v xss := by
  obtain ⟨ad, cap, rfl, hc, hm, hr⟩ := h
  refine ⟨ad, cap, rfl, hc, hm, fun hp => ?_⟩
  obtain ⟨b, off, e, a1, a2, a3⟩ := hr hp
  refine ⟨b, off, e, a1, a2, fun j hj => ?_⟩
  obtain ⟨u, hu, hq⟩ := a3 j hj
  have hb : b < w.heap.size := World.block_lt_of_cell? w ⟨b, off + j, none⟩ hu
  refine ⟨u, ?_, hq.same hs⟩
  rw [World.cell?_of_block (w := w) (a := ⟨b, off + j, none⟩) (hs b a1 a2 hb)]
  exact hu
theorem SlS.below {lo hi w w' v xss} (h : SlS lo hi w v xss) (hb : Bel w w') : SlS lo hi w' v xss := h.same fun b _ _ h3 => hb.block b h3
theorem SlS.alloc {lo hi w v xss} (h : SlS lo hi w v xss) (o : Obj) : SlS lo hi (w.alloc o) v xss := h.below (Bel.alloc0 w o)
theorem SlS.k {lo hi w v xss} (h : SlS lo hi w v xss) : K (fun w => SlS lo hi w v xss) w := fun _ hb => h.below hb
theorem SlS.chg {lo hi lo' hi' w w' v xss} (h : SlS lo hi w v xss) (k : Chg lo' hi' w w') (hd : hi ≤ lo' ∨ hi' ≤ lo) : SlS lo hi w' v xss :=
  h.same fun b h1 h2 h3 => k.block b h3 (by omega)
theorem SlS.nil (lo hi : Nat) (w : World) : SlS lo hi w (.slice none 0 0) [] := ⟨none, 0, rfl, Nat.le_refl _, ⟨Nat.zero_le _, fun _ => rfl⟩, fun h => absurd h (by simp)⟩
/-- Reading the k-th. -/
theorem SlS.at {lo hi : Nat} {w wr : World} {ad : Option Addr} {c n : Nat} {xss : List (List Int)} (h : SlS lo hi w (.slice ad n c) xss) (hb : Bel w wr) (k : Nat) (hk : k < xss.length) :
    ∃ b off u, ad = some ⟨b, off, none⟩ ∧ b < w.heap.size ∧ wr.cell? ⟨b, off + k, none⟩ = some u ∧ SlI lo hi wr u (xss.getD k []) := by
  obtain ⟨ad', cap, e, _, _, hr⟩ := h
  obtain ⟨b, off, e2, _, _, hc⟩ := hr (by omega)
  obtain ⟨u, hu, hs⟩ := hc k hk
  have h1 := World.block_lt_of_cell? w ⟨b, off + k, none⟩ hu
  simp only [Value.slice.injEq] at e
  exact ⟨b, off, u, e.1.trans e2, h1, (hb.cell (p := ⟨b, off + k, none⟩) h1).trans hu, hs.below hb⟩
theorem SlS.len {lo hi : Nat} {w : World} {ad : Option Addr} {c n : Nat} {xss : List (List Int)} (h : SlS lo hi w (.slice ad n c) xss) : n = xss.length := by
  obtain ⟨ad', cap, e, _⟩ := h
  simp only [Value.slice.injEq] at e
  exact e.2.1
theorem SlS.max {lo hi w v xss} (h : SlS lo hi w v xss) : xss.length ≤ 9223372036854775807 ∧ ∀ j, j < xss.length → (xss.getD j []).length ≤ 9223372036854775807 := by
  obtain ⟨ad, cap, e, hc, hm, hr⟩ := h
  have hml : maxLen = 9223372036854775807 := rfl
  refine ⟨by omega, fun j hj => ?_⟩
  obtain ⟨b, off, _, _, _, hx⟩ := hr (by omega)
  obtain ⟨u, _, ad2, cap2, _, hc2, hm2, _⟩ := hx j hj
  omega

/-- The elements us of a row in block b: slices of the call's own, each in a block of its own. -/
structure Ins (lo hi b : Nat) (w : World) (us : List Value) (xss : List (List Int)) (bs : Nat → Nat) : Prop where
  len : us.length = xss.length
  rng : ∀ j, j < xss.length → 0 < (xss.getD j []).length → lo ≤ bs j ∧ bs j < hi ∧ bs j ≠ b
  inj : ∀ i j, i < j → j < xss.length → 0 < (xss.getD i []).length → 0 < (xss.getD j []).length → bs i ≠ bs j
  own : ∀ j u, us[j]? = some u → OwnI (bs j) (bs j + 1) w u (xss.getD j [])
def OwnS (lo hi : Nat) (w : World) (v : Value) (xss : List (List Int)) : Prop :=
  ∃ ad cap, v = .slice ad xss.length cap ∧ xss.length ≤ cap ∧ (cap ≤ maxLen ∧ (ad = none → cap = 0)) ∧
    (0 < xss.length → ∃ b off us bs, ad = some ⟨b, off, none⟩ ∧ lo ≤ b ∧ b < hi ∧ (∀ j u, us[j]? = some u → w.cell? ⟨b, off + j, none⟩ = some u) ∧ Ins lo hi b w us xss bs)

theorem OwnI.block {lo hi w v xs} (h : OwnI lo hi w v xs) : ∃ c, OwnI c (c + 1) w v xs ∧ (0 < xs.length → lo ≤ c ∧ c < hi) := by
  obtain ⟨⟨ad, cap, rfl, hc, hm, hr⟩, hf⟩ := h
  by_cases hp : 0 < xs.length
  · obtain ⟨b, off, e, a1, a2, a3⟩ := hr hp
    exact ⟨b, ⟨⟨ad, cap, rfl, hc, hm, fun _ => ⟨b, off, e, Nat.le_refl _, Nat.lt_succ_self _, a3⟩⟩, hf⟩, fun _ => ⟨a1, a2⟩⟩
  · exact ⟨0, ⟨⟨ad, cap, rfl, hc, hm, fun h => absurd h hp⟩, hf⟩, fun h => absurd h hp⟩
theorem Ins.sl {lo hi b w us xss bs} (h : Ins lo hi b w us xss bs) (j : Nat) (u : Value) (hj : us[j]? = some u) : SlI lo hi w u (xss.getD j []) := by
  have ho := h.own j u hj
  have hlt : j < xss.length := by rw [← h.len]; exact (List.getElem?_eq_some_iff.1 hj).1
  by_cases hp : 0 < (xss.getD j []).length
  · obtain ⟨a1, a2, _⟩ := h.rng j hlt hp
    exact ho.1.mono a1 (by omega)
  · rw [len0 hp] at ho ⊢
    exact ho.1.empty
theorem OwnS.sl {lo hi w v xss} (h : OwnS lo hi w v xss) : SlS lo hi w v xss := by
  obtain ⟨ad, cap, rfl, hc, hm, hr⟩ := h
  refine ⟨ad, cap, rfl, hc, hm, fun hp => ?_⟩
  obtain ⟨b, off, us, bs, e, a1, a2, a3, hi⟩ := hr hp
  refine ⟨b, off, e, a1, a2, fun j hj => ?_⟩
  have hl := hi.len
  have hj2 : us[j]? = some us[j] := List.getElem?_eq_getElem (by omega)
  exact ⟨us[j], a3 j _ hj2, hi.sl j _ hj2⟩
theorem Ins.same {lo hi b w w' us xss bs} (h : Ins lo hi b w us xss bs) (hs : ∀ b, lo ≤ b → b < hi → b < w.heap.size → w'.heap[b]? = w.heap[b]?) : Ins lo hi b w' us xss bs := by
  refine ⟨h.len, h.rng, h.inj, fun j u hj => ?_⟩
  have ho := h.own j u hj
  have hlt : j < xss.length := by rw [← h.len]; exact (List.getElem?_eq_some_iff.1 hj).1
  by_cases hp : 0 < (xss.getD j []).length
  · obtain ⟨a1, a2, _⟩ := h.rng j hlt hp
    exact ho.same fun b h1 h2 h3 => hs b (by omega) (by omega) h3
  · rw [len0 hp] at ho ⊢
    exact ho.empty
theorem Ins.below {lo hi b w w' us xss bs} (h : Ins lo hi b w us xss bs) (hb : Bel w w') : Ins lo hi b w' us xss bs := h.same fun b _ _ h3 => hb.block b h3
theorem Ins.mono {lo hi lo' hi' b w us xss bs} (h : Ins lo hi b w us xss bs) (h1 : lo' ≤ lo) (h2 : hi ≤ hi') : Ins lo' hi' b w us xss bs :=
  ⟨h.len, fun j hj hp => by have := h.rng j hj hp; omega, h.inj, h.own⟩
theorem OwnS.same {lo hi w w' v xss} (h : OwnS lo hi w v xss) (hs : ∀ b, lo ≤ b → b < hi → b < w.heap.size → w'.heap[b]? = w.heap[b]?) : OwnS lo hi w' v xss := by
  obtain ⟨ad, cap, rfl, hc, hm, hr⟩ := h
  refine ⟨ad, cap, rfl, hc, hm, fun hp => ?_⟩
  obtain ⟨b, off, us, bs, e, a1, a2, a3, hi⟩ := hr hp
  refine ⟨b, off, us, bs, e, a1, a2, fun j u hj => ?_, hi.same hs⟩
  have hb : b < w.heap.size := World.block_lt_of_cell? w ⟨b, off + j, none⟩ (a3 j u hj)
  rw [World.cell?_of_block (w := w) (a := ⟨b, off + j, none⟩) (hs b a1 a2 hb)]
  exact a3 j u hj
theorem OwnS.below {lo hi w w' v xss} (h : OwnS lo hi w v xss) (hb : Bel w w') : OwnS lo hi w' v xss := h.same fun b _ _ h3 => hb.block b h3
theorem OwnS.alloc {lo hi w v xss} (h : OwnS lo hi w v xss) (o : Obj) : OwnS lo hi (w.alloc o) v xss := h.below (Bel.alloc0 w o)
theorem OwnS.k {lo hi w v xss} (h : OwnS lo hi w v xss) : K (fun w => OwnS lo hi w v xss) w := fun _ hb => h.below hb
theorem OwnS.chg {lo hi lo' hi' w w' v xss} (h : OwnS lo hi w v xss) (k : Chg lo' hi' w w') (hd : hi ≤ lo' ∨ hi' ≤ lo) : OwnS lo hi w' v xss :=
  h.same fun b h1 h2 h3 => k.block b h3 (by omega)
theorem OwnS.mono {lo hi lo' hi' w v xss} (h : OwnS lo hi w v xss) (h1 : lo' ≤ lo) (h2 : hi ≤ hi') : OwnS lo' hi' w v xss := by
  obtain ⟨ad, cap, rfl, hc, hm, hr⟩ := h
  refine ⟨ad, cap, rfl, hc, hm, fun hp => ?_⟩
  obtain ⟨b, off, us, bs, e, a1, a2, a3, hi⟩ := hr hp
  exact ⟨b, off, us, bs, e, by omega, by omega, a3, hi.mono h1 h2⟩
theorem OwnS.nil (lo hi : Nat) (w : World) : OwnS lo hi w (.slice none 0 0) [] := ⟨none, 0, rfl, Nat.le_refl _, ⟨Nat.zero_le _, fun _ => rfl⟩, fun h => absurd h (by simp)⟩

theorem Ins.none (lo hi b : Nat) (w : World) : Ins lo hi b w [] [] (fun _ => 0) := ⟨rfl, fun j h => absurd h (by simp), fun i j _ h => absurd h (by simp), fun j u h => by simp at h⟩
/-- One more, in a newer block. -/
theorem Ins.snoc {lo hi b : Nat} {w : World} {us : List Value} {xss : List (List Int)} {bs : Nat → Nat} (h : Ins lo hi b w us xss bs) {l2 h2 : Nat} {u : Value} {xs : List Int} (ho : OwnI l2 h2 w u xs)
    (hl : hi ≤ l2) (hlo : lo ≤ l2) (hbl : b < l2 ∨ h2 ≤ b) {hi2 : Nat} (h1 : h2 ≤ hi2) (h3 : hi ≤ hi2) : ∃ bs', Ins lo hi2 b w (us ++ [u]) (xss ++ [xs]) bs' := by
  obtain ⟨c, hc, hr⟩ := ho.block
  have hn := h.len
  refine ⟨fun j => if j = xss.length then c else bs j, by simp [hn], fun j hj hp => ?_, fun i j hij hj hpi hpj => ?_, fun j v hj => ?_⟩
  · by_cases e : j = xss.length
    · subst e
      simp only [List.getD, List.getElem?_append_right (Nat.le_refl _), Nat.sub_self, List.getElem?_cons_zero, Option.getD_some] at hp
      have := hr hp
      simp only [if_true]
      omega
    · have hlt : j < xss.length := by simp at hj; omega
      simp only [List.getD, List.getElem?_append_left hlt] at hp
      have := h.rng j hlt hp
      simp only [e, if_false]
      omega
  · have hilt : i < xss.length := by simp at hj; omega
    simp only [List.getD, List.getElem?_append_left hilt] at hpi
    by_cases e : j = xss.length
    · subst e
      simp only [List.getD, List.getElem?_append_right (Nat.le_refl _), Nat.sub_self, List.getElem?_cons_zero, Option.getD_some] at hpj
      have h5 := hr hpj
      have h6 := h.rng i hilt hpi
      simp only [if_true]
      rw [if_neg (by omega)]
      omega
    · have hlt : j < xss.length := by simp at hj; omega
      simp only [List.getD, List.getElem?_append_left hlt] at hpj
      simp only [e, if_false]
      rw [if_neg (by omega)]
      exact h.inj i j hij hlt hpi hpj
  · by_cases e : j = xss.length
    · subst e
      rw [List.getElem?_append_right (by omega), hn, Nat.sub_self] at hj
      simp only [List.getElem?_cons_zero, Option.some.injEq] at hj
      subst hj
      simpa [List.getD] using hc
    · have hlt : j < us.length := by
        have := (List.getElem?_eq_some_iff.1 hj).1
        simp at this; omega
      rw [List.getElem?_append_left hlt] at hj
      have := h.own j v hj
      simp only [e, if_false]
      simpa [List.getD, List.getElem?_append_left (show j < xss.length by omega)] using this

/-- A row that the call itself made, as a slice of slices. -/
theorem OwnS.of_row {w : World} {base e hi : Nat} {v : Value} {us : List Value} {xss : List (List Int)} {bs : Nat → Nat} (h : w.ownsRow base e 1 v xss.length us) (hi' : w.heap.size ≤ hi)
    (hin : ∀ g, v.ownBlock = some g → Ins base hi g w us xss bs) : OwnS base hi w v xss := by
  have h0 := h
  obtain ⟨h1, h2⟩ := h
  rcases h2 with ⟨rfl, hn⟩ | ⟨g, cap, cur, rfl, hg, hh, hn, hc, hs, ht⟩
  · obtain rfl : xss = [] := List.length_eq_zero_iff.1 hn
    exact OwnS.nil _ _ _
  · have hgs : g < w.heap.size := (Array.getElem?_eq_some_iff.1 hh).1
    refine ⟨_, cap, rfl, hn, ⟨hc, fun h => by simp at h⟩, fun hp => ⟨g, 0, us, bs, rfl, hg, by omega, fun j u hj => ?_, hin g rfl⟩⟩
    rw [Nat.zero_add, h0.cellAt j (by have := (List.getElem?_eq_some_iff.1 hj).1; omega)]
    exact hj

def sumL (xss : List (List Int)) : Nat := (xss.map List.length).sum
theorem sumL_take (xss : List (List Int)) (k : Nat) (h : k < xss.length) : sumL (xss.take (k+1)) = sumL (xss.take k) + (xss.getD k []).length := by
  unfold sumL
  rw [List.take_succ_eq_append_getElem h, List.map_append, List.sum_append]
  simp [List.getD, h]
theorem sumL_all (xss : List (List Int)) (k : Nat) (h : ¬ k < xss.length) : sumL (xss.take k) = sumL xss := by rw [List.take_of_length_le (by omega)]
theorem sumL_le (xss : List (List Int)) (k : Nat) : sumL (xss.take k) ≤ sumL xss := by
  conv => rhs; rw [← List.take_append_drop k xss]
  unfold sumL
  rw [List.map_append, List.sum_append]
  omega
theorem sumL_get (xss : List (List Int)) (k : Nat) (h : k < xss.length) : sumL (xss.take k) + (xss.getD k []).length ≤ sumL xss := by
  rw [← sumL_take xss k h]; exact sumL_le _ _
def tot (xss : List (List Int)) : Nat := xss.length + sumL xss
def short (xss : List (List Int)) : Prop := xss.length ≤ 1048576 ∧ ∀ j, j < xss.length → (xss.getD j []).length ≤ 1048576
theorem short_of_tot {xss : List (List Int)} (h : tot xss ≤ 1048576) : short xss := by
  unfold tot at h
  refine ⟨by omega, fun j hj => ?_⟩
  have := sumL_get xss j hj
  omega

def marksS (k : Nat) : List (List Int) → List (List Int)
  | [] => []
  | x :: r => marks k x.length :: marksS (k + x.length) r
theorem marksS_len (k : Nat) (xss : List (List Int)) : (marksS k xss).length = xss.length := by
  induction xss generalizing k with
  | nil => rfl
  | cons x r ih => simp [marksS, ih]
theorem marksS_app (k : Nat) (xss yss : List (List Int)) : marksS k (xss ++ yss) = marksS k xss ++ marksS (k + sumL xss) yss := by
  induction xss generalizing k with
  | nil => simp [marksS, sumL]
  | cons x r ih => simp [marksS, ih, sumL, Nat.add_assoc]
theorem marksS_get (k : Nat) (xss : List (List Int)) (j : Nat) (h : j < xss.length) : (marksS k xss).getD j [] = marks (k + sumL (xss.take j)) (xss.getD j []).length := by
  conv => lhs; rw [← List.take_append_drop j xss, marksS_app, List.drop_eq_getElem_cons h]
  have hl : (marksS k (xss.take j)).length = j := by rw [marksS_len, List.length_take]; omega
  simp only [List.getD]
  rw [List.getElem?_append_right (by omega), hl, Nat.sub_self]
  simp [marksS, h]
/-- The first j are marked. -/
def markedS (xss : List (List Int)) (k j : Nat) : List (List Int) := marksS k (xss.take j) ++ xss.drop j
theorem markedS_zero (xss : List (List Int)) (k : Nat) : markedS xss k 0 = xss := by simp [markedS, marksS]
theorem markedS_len (xss : List (List Int)) (k j : Nat) (h : j ≤ xss.length) : (markedS xss k j).length = xss.length := by simp [markedS, marksS_len]; omega
theorem markedS_all (xss : List (List Int)) (k j : Nat) (h : ¬ j < xss.length) : markedS xss k j = marksS k xss := by
  unfold markedS
  rw [List.take_of_length_le (by omega), List.drop_eq_nil_of_le (by omega), List.append_nil]
theorem markedS_get (xss : List (List Int)) (k j : Nat) (h : j < xss.length) : (markedS xss k j).getD j [] = xss.getD j [] := by
  have hl : (marksS k (xss.take j)).length = j := by rw [marksS_len, List.length_take]; omega
  unfold markedS
  simp only [List.getD]
  rw [List.getElem?_append_right (by omega), hl, Nat.sub_self]
  simp
theorem markedS_succ (xss : List (List Int)) (k j : Nat) (h : j < xss.length) : (markedS xss k j).set j (marks (k + sumL (xss.take j)) (xss.getD j []).length) = markedS xss k (j+1) := by
  have hl : (marksS k (xss.take j)).length = j := by rw [marksS_len, List.length_take]; omega
  unfold markedS
  rw [List.set_append_right _ _ (by omega), hl, Nat.sub_self, List.drop_eq_getElem_cons h, List.set_cons_zero, List.take_succ_eq_append_getElem h, marksS_app]
  simp [marksS, List.getD, h]

/-- The j-th is written anew, at the same length. -/
theorem Ins.stored {lo hi b : Nat} {w w' : World} {us : List Value} {xss : List (List Int)} {bs : Nat → Nat} (h : Ins lo hi b w us xss bs) (j : Nat) (hj : j < xss.length) (u : Value) (hu : us[j]? = some u) (ys : List Int)
    (hl : ys.length = (xss.getD j []).length) (hg : 0 < ys.length → Chg (bs j) (bs j + 1) w w') (hg0 : ¬ 0 < ys.length → Chg 0 0 w w') (ho : OwnI (bs j) (bs j + 1) w' u ys) : Ins lo hi b w' us (xss.set j ys) bs := by
  have hget : ∀ i, ((xss.set j ys).getD i []) = if i = j then ys else xss.getD i [] := by
    intro i
    by_cases e : i = j
    · subst e; simp [List.getD, hj]
    · simp [List.getD, List.getElem?_set, Ne.symm e, e]
  have hgl : ∀ i, ((xss.set j ys).getD i []).length = (xss.getD i []).length := by
    intro i; rw [hget i]; split
    · rename_i e; rw [e, hl]
    · rfl
  refine ⟨by simpa using h.len, fun i hi hp => ?_, fun i k hik hk h1 h2 => ?_, fun i v hv => ?_⟩
  · rw [hgl] at hp; exact h.rng i (by simpa using hi) hp
  · rw [hgl] at h1 h2; exact h.inj i k hik (by simpa using hk) h1 h2
  · rw [hget i]
    have hilt : i < xss.length := by rw [← h.len]; exact (List.getElem?_eq_some_iff.1 hv).1
    by_cases e : i = j
    · subst e
      rw [hu] at hv
      obtain rfl : u = v := by simpa using hv
      simpa using ho
    · simp only [e, if_false]
      have hio := h.own i v hv
      by_cases hp : 0 < (xss.getD i []).length
      · by_cases hpj : 0 < ys.length
        · have hne : bs i ≠ bs j := by
            rcases Nat.lt_or_gt_of_ne e with h1 | h1
            · exact h.inj i j h1 hj hp (by omega)
            · exact (h.inj j i h1 hilt (by omega) hp).symm
          exact hio.chg (hg hpj) (by omega)
        · exact hio.chg (hg0 hpj) (by omega)
      · rw [len0 hp] at hio ⊢
        exact hio.empty
def RetSS (w : World) (xss : List (List Int)) (e : Ending) (w' : World) : Prop := ∃ ad n c, e = .returned (.slice ad n c) ∧ OwnS w.heap.size w'.heap.size w' (.slice ad n c) xss ∧ Bel w w'
def RetSSB (w : World) (xss : List (List Int)) (ok : Bool) (e : Ending) (w' : World) : Prop := ∃ ad n c, e = .returned (.tuple #[.slice ad n c, .bool ok]) ∧ OwnS w.heap.size w'.heap.size w' (.slice ad n c) xss ∧ Bel w w'
end Go.Proofs.Ytkbgglejhdodoaa
end
