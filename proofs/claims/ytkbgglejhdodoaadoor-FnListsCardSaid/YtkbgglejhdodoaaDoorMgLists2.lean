/- Texts merged, part 2. -/
import Derived.Test.YtkbgglejhdodoaaDoorProg
import Derived.IntWalk
import Derived.Test.YtkbgglejhdodoaaDoorMgLists1
section
/- The laws' helpers over slices of slices of ints, by contracts. -/
namespace Go.Proofs.YtkbgglejhdodoaaDoor
open Go.RowKit

theorem Tryd.info24 : (Tryd.prog.info? 24).map (fun i => (i.zero, i.size, i.bytes)) = some (some (.slice none 0 0), 1, 24) := by kernel_rfl

def szS (xss : List (List Int)) (left : Int) : Int := if left - (tot xss : Nat) < 0 then -1 else left - (tot xss : Nat)

set_option maxRecDepth 100000 in
set_option maxHeartbeats 400000 in
theorem szIntSS_c (l h : Nat) (v : Value) (xss : List (List Int)) (left : Int) (w : World) (h0 : 0 ≤ left) (h1 : left ≤ 1048576) (hv : SlS l h w v xss) :
    Calls Tryd.prog 38 #[v, .int .i64 left] w (RetV w (.int .i64 (szS xss left))) := by
  obtain ⟨ad, cap, rfl⟩ := hv.form
  obtain ⟨hx, hmax⟩ := hv.max
  by_cases hs : left - xss.length < 0
  · have E : Hid (szS xss left = -1) := by show szS _ _ = _; unfold szS tot; rw [if_pos (by omega)]
    go_enter Tryd.func38, Tryd.ntmps38
    go_wp2_with fail
    go_ret
    exact ⟨by rw [E.out]; rfl, Bel.rfl' _⟩
  · have hw1 := IntWalk.i64_in (left - xss.length) (by omega)
    go_enter Tryd.func38, Tryd.ntmps38
    go_wp2_with fail
    go_loopw [1, 5] (fun m i wr => ∃ (k : Nat) (z : Int), k ≤ xss.length ∧ i = .int .i64 k ∧ m = .int .i64 z ∧ 0 ≤ z ∧ z = left - xss.length - (sumL (xss.take k) : Nat) ∧ Bel w wr) (fun _ i _ => xss.length - (intOf i).toNat)
    case atStart => exact ⟨0, _, Nat.zero_le _, rfl, by go_num, by omega, by simp [sumL], Bel.rfl' _⟩
    case round =>
      obtain ⟨k, z, hk, rfl, rfl, hz0, hz, hb⟩ := hrel
      by_cases hlt : k < xss.length
      · obtain ⟨b, off, u, rfl, -, hc, hu⟩ := hv.at hb k hlt
        have hm := hmax k hlt
        have hst := sumL_take xss k hlt
        have hsl := sumL_get xss k hlt
        have hcall := szIntS_c l h u (xss.getD k []) z wr hm hz0 (by omega) hu
        by_cases hneg : z - (xss.getD k []).length < 0
        · have e1 : szI (xss.getD k []).length z = -1 := by unfold szI; rw [if_pos hneg]
          have E : Hid (szS xss left = -1) := by show szS _ _ = _; unfold szS tot; rw [if_pos (by omega)]
          rw [e1] at hcall
          have HC := Lib.hid hcall
          clear hcall hv hu hmax hst hsl e1 hneg hz
          go_wp2_with (go_at_call 75; refine HC.out.mono ?_; rintro e w' ⟨rfl, hb1⟩)
          go_ret
          exact ⟨by rw [E.out]; rfl, hb.step hb1⟩
        · have e1 : szI (xss.getD k []).length z = z - (xss.getD k []).length := by unfold szI; rw [if_neg hneg]
          have hz' : z - ((xss.getD k []).length : Int) = left - xss.length - (sumL (xss.take (k+1)) : Nat) := by omega
          rw [e1] at hcall
          have HC := Lib.hid hcall
          have HZ := Lib.hid hz'
          have hz2 : 0 ≤ z - ((xss.getD k []).length : Int) := by omega
          clear hcall hv hu hmax hst hsl e1 hneg hz hz'
          generalize z - ((xss.getD k []).length : Int) = z2 at *
          go_wp2_with (go_at_call 75; refine HC.out.mono ?_; rintro e w' ⟨rfl, hb1⟩)
          go_roundw
          case rel => exact ⟨k+1, z2, by omega, by go_num, rfl, hz2, HZ.out, hb.step hb1⟩
          case measure => simp [intOf]; omega
      · have E : Hid (szS xss left = z) := by
          show szS _ _ = _
          rw [sumL_all xss k hlt] at hz
          unfold szS tot; rw [if_neg (by omega)]; omega
        clear hz
        go_wp2_with fail
        go_ret
        exact ⟨by rw [E.out]; rfl, hb⟩

set_option maxRecDepth 100000 in
set_option maxHeartbeats 400000 in
theorem toIntSS_c (l h : Nat) (v : Value) (xss : List (List Int)) (w : World) (hx : short xss) (hv : SlS l h w v xss) :
    Calls Tryd.prog 39 #[v] w (RetSS w xss) := by
  obtain ⟨ad, cap, rfl⟩ := hv.form
  obtain ⟨hx, hmax⟩ := hx
  obtain ⟨i0, hi, hz0, hz1, hz2⟩ := info_parts Tryd.info24
  go_enter Tryd.func39, Tryd.ntmps39
  go_wp2_with (at_make; refine wpList_make_full _ rfl _ _ 36 rfl w.heap.size 24 i0 (.slice none 0 0) 1 Tryd.underlying36 hi hz0 hz1 _ _ _ _ xss.length rfl rfl rfl rfl (by rw [hz2]; omega) (by unfold maxLen; omega) (Nat.le_refl _) ?_; intro w1 hown hg)
  have hz3 : (madeCells (Value.slice none 0 0).cells (xss.length * 1)).toList = [] ++ List.replicate (xss.length - 0) (Value.slice none 0 0) := by
    rw [Nat.mul_one]; show (madeCells #[_] _).toList = _; rw [toList_madeCells_one]; simp
  rw [hz3] at hown
  have hb0 : Bel w w1 := (Bel.rfl' w).grown hg (by simp)
  have hs1 : w.heap.size + 1 ≤ w1.heap.size := by
    rcases hown.2 with ⟨e, _⟩ | ⟨g, c, cur, e, _, hh, _⟩
    · simp at e
    · simp at e; have := (Array.getElem?_eq_some_iff.1 hh).1; omega
  clear hg hz3
  go_loopw [4] (fun i wr => ∃ (k : Nat) (us : List Value) (bs : Nat → Nat), k ≤ xss.length ∧ i = .int .i64 k ∧ wr.ownsRow w.heap.size 24 1 (.slice (some ⟨w.heap.size, 0, none⟩) xss.length xss.length) xss.length (us ++ List.replicate (xss.length - k) (Value.slice none 0 0)) ∧
    Ins (w.heap.size + 1) wr.heap.size w.heap.size wr us (xss.take k) bs ∧ w.heap.size + 1 ≤ wr.heap.size ∧ Bel w wr) (fun i _ => xss.length - (intOf i).toNat)
  case atStart => exact ⟨0, [], _, Nat.zero_le _, rfl, hown, (Ins.none _ _ _ _), hs1, hb0⟩
  case round =>
    obtain ⟨k, us, bs, hk, rfl, ho, hin, hs, hb⟩ := hrel
    have hul : us.length = k := by have := hin.len; simp at this; omega
    by_cases hlt : k < xss.length
    · obtain ⟨b, off, u, rfl, hbs, hc, hu⟩ := hv.at hb k hlt
      have hm := hmax k hlt
      have hcall := toIntS_c l h u (xss.getD k []) wr hm hu
      have HC := Lib.hid hcall
      have HI := Lib.hid hin
      have HO := Lib.hid ho
      clear hv hcall hu hmax hown hin ho
      go_wp2_with (go_at_call 35; refine HC.out.mono ?_; rintro e w' ⟨ad2, n2, c2, rfl, ho2, hb2⟩; have ho3 := ownsRow_bel HO.out hb2; have hcell := ho3.cellAt k (by omega); have hf := ho3.frozenAt k; rw [List.getElem?_append_right (by omega), hul, Nat.sub_self, List.getElem?_replicate, if_pos (by omega)] at hcell)
      go_roundw
      case rel =>
        have hst := ho3.stored k (.slice ad2 n2 c2)
        rw [List.set_append_right _ _ (by omega), hul, Nat.sub_self, show xss.length - k = (xss.length - (k+1)) + 1 from by omega, List.replicate_succ, List.set_cons_zero] at hst
        have hsz := hb2.size
        obtain ⟨bs', hin'⟩ := (HI.out.below hb2).snoc ho2 (Nat.le_refl _) hs (.inl (by omega)) (hi2 := w'.heap.size) (Nat.le_refl _) hsz
        have hin2 := hin'.same (w' := w'.setCell ⟨w.heap.size, k, none⟩ (.slice ad2 n2 c2)) (fun b h1 h2 _ => Below.heap_setCell w' _ _ b (by simp; omega))
        rw [show xss.take k ++ [xss.getD k []] = xss.take (k+1) from by rw [List.take_succ_eq_append_getElem hlt]; simp [List.getD, hlt]] at hin2
        refine ⟨k+1, us ++ [.slice ad2 n2 c2], bs', by omega, by go_num, by simpa using hst.1, by simpa using hin2, by simpa using (by omega : w.heap.size + 1 ≤ w'.heap.size), (hb.step hb2).setCell (p := ⟨w.heap.size, k, none⟩) (Nat.le_refl _) _⟩
      case measure => simp [intOf]; omega
    · rw [show xss.length - k = 0 from by omega, List.replicate_zero, List.append_nil] at ho
      rw [List.take_of_length_le (by omega)] at hin
      have HI := Lib.hid hin
      have HO := Lib.hid ho
      clear hin ho hv hmax hown
      go_wp2_with fail
      go_ret
      exact ⟨_, _, _, rfl, OwnS.of_row HO.out (Nat.le_refl _) (fun g hg => by simp [Value.ownBlock] at hg; subst hg; exact HI.out.mono (by omega) (Nat.le_refl _)), hb⟩

set_option maxRecDepth 100000 in
set_option maxHeartbeats 400000 in
theorem eqIntSS_same (l h l' h' : Nat) (v u : Value) (xss : List (List Int)) (w : World) (hx : short xss) (hv : SlS l h w v xss) (hu : SlS l' h' w u xss) :
    Calls Tryd.prog 40 #[v, u] w (RetV w (.bool true)) := by
  obtain ⟨ad, cap, rfl⟩ := hv.form
  obtain ⟨ad', cap', rfl⟩ := hu.form
  obtain ⟨hx, hmax⟩ := hx
  have hl' : ((xss.length : Int) != xss.length) = false := by simp
  go_enter Tryd.func40, Tryd.ntmps40
  go_wp2_with fail
  go_loopw [5] (fun i wr => ∃ k : Nat, k ≤ xss.length ∧ i = .int .i64 k ∧ Bel w wr) (fun i _ => xss.length - (intOf i).toNat)
  case atStart => exact ⟨0, Nat.zero_le _, rfl, Bel.rfl' _⟩
  case round =>
    obtain ⟨k, hk, rfl, hb⟩ := hrel
    by_cases hlt : k < xss.length
    · obtain ⟨b, off, p, rfl, -, hc, hp⟩ := hv.at hb k hlt
      obtain ⟨b', off', q, rfl, -, hc', hq⟩ := hu.at hb k hlt
      have hm := hmax k hlt
      have hbp := World.block_lt_of_cell? wr ⟨b, off + k, none⟩ hc
      have hbq := World.block_lt_of_cell? wr ⟨b', off' + k, none⟩ hc'
      have HC := Lib.hid (fun w' (h1 : Bel wr w') => eqIntS_same _ _ _ _ p q (xss.getD k []) w' hm (hp.below h1) (hq.below h1))
      clear hv hu hmax hp hq
      have hin1 : (k : Int) < xss.length := by omega
      go_wp2_with fail
      go_region_held3 (fun w' => Bel wr w' ∧ w'.cell? ⟨b, off + k, none⟩ = some p ∧ w'.cell? ⟨b', off' + k, none⟩ = some q)
        (first | exact ⟨Bel.drew0 _, hc, hc'⟩ | exact ⟨hb2.of_drew, hb2.at hbp hc, hb2.at hbq hc'⟩)
        (first | (go_at_call 37; refine (HC.out _ (Bel.drew0 _)).mono ?_; rintro e w2 ⟨rfl, hb2⟩))
      go_wp2_with fail
      go_roundw
      case rel => exact ⟨k+1, by omega, by go_num, hb.step hb2.of_drew⟩
      case measure => simp [intOf]; omega
    · go_wp2_with fail
      go_ret
      exact ⟨rfl, hb⟩

def RetMS (lo hi : Nat) (w : World) (v : Value) (xss : List (List Int)) (k : Nat) (e : Ending) (w' : World) : Prop := e = .returned (.int .i64 ((k + sumL xss : Nat) : Int)) ∧ Chg lo hi w w' ∧ OwnS lo hi w' v (marksS k xss)

end Go.Proofs.YtkbgglejhdodoaaDoor
end
section
/- RenameOf: the inner functions. -/
namespace Go.Proofs.YtkbgglejhdodoaaDoor
open Go.RowKit

def rows40 (l : List (List Int)) : Prop := l.length ≤ 20 ∧ ∀ j, j < l.length → (l.getD j []).length ≤ 40 ∧ ∀ k, k < (l.getD j []).length → -12 ≤ (l.getD j []).getD k 0
theorem rows40.mem {l : List (List Int)} (h : rows40 l) : ∀ t ∈ l, t.length ≤ 40 := by
  intro t ht
  obtain ⟨j, hj, rfl⟩ := List.getElem_of_mem ht
  have := (h.2 j hj).1
  simpa [List.getD, hj] using this
theorem rows40.met {l : List (List Int)} (h : rows40 l) (k : Nat) : (metS [] (l.take k)).length ≤ 800 := by
  have h1 := metS_len (l := l.take k) [] (fun t ht => h.mem t (List.mem_of_mem_take ht))
  have h2 := h.1
  simp at h1
  omega
theorem news_oneV (w : World) (x : Value) (t : TypeId) : ∀ j u, [x][j]? = some u → (w.alloc (.cells #[x] t)).cell? ((⟨w.heap.size, 0, none⟩ : Addr).add j) = some u := news_one w x t
theorem one_slice (a : Option Addr) (n c : Nat) : ∀ u ∈ [Value.slice a n c], u.oneCell' = true := by intro u hu; simp at hu; subst hu; rfl

end Go.Proofs.YtkbgglejhdodoaaDoor
end
section
/- RenameOf: the program's inner function. -/
namespace Go.Proofs.YtkbgglejhdodoaaDoor
open Go.RowKit

/-- Twelve ints. -/
def arrN (f : Nat → Int) : Array Value := #[.int .i64 (f 0), .int .i64 (f 1), .int .i64 (f 2), .int .i64 (f 3), .int .i64 (f 4), .int .i64 (f 5), .int .i64 (f 6), .int .i64 (f 7), .int .i64 (f 8), .int .i64 (f 9), .int .i64 (f 10), .int .i64 (f 11)]
theorem arrN_set (f : Nat → Int) (j : Nat) (b : Int) (h : j < 12) : (arrN f).setIfInBounds j (.int .i64 b) = arrN (fun i => if i = j then b else f i) := by
  match j, h with
  | 0, _ => rfl
  | 1, _ => rfl
  | 2, _ => rfl
  | 3, _ => rfl
  | 4, _ => rfl
  | 5, _ => rfl
  | 6, _ => rfl
  | 7, _ => rfl
  | 8, _ => rfl
  | 9, _ => rfl
  | 10, _ => rfl
  | 11, _ => rfl
theorem arrN_get (f : Nat → Int) (j : Nat) (h : j < 12) : (arrN f)[j]? = some (.int .i64 (f j)) := by
  match j, h with
  | 0, _ => rfl
  | 1, _ => rfl
  | 2, _ => rfl
  | 3, _ => rfl
  | 4, _ => rfl
  | 5, _ => rfl
  | 6, _ => rfl
  | 7, _ => rfl
  | 8, _ => rfl
  | 9, _ => rfl
  | 10, _ => rfl
  | 11, _ => rfl
def BlkN (w : World) (B : Nat) (T : TypeId) (f : Nat → Int) : Prop := w.heap[B]? = some (.cells (arrN f) T (0, 0))
theorem BlkN.cell {w : World} {B : Nat} {T : TypeId} {f : Nat → Int} (h : BlkN w B T f) (j : Nat) (hj : j < 12) : w.cell? ⟨B, j, none⟩ = some (.int .i64 (f j)) := by
  unfold BlkN at h
  simp [World.cell?, h, arrN_get f j hj]
theorem BlkN.free {w : World} {B : Nat} {T : TypeId} {f : Nat → Int} (h : BlkN w B T f) (j : Nat) : w.frozen? ⟨B, j, none⟩ = false := by
  unfold BlkN at h
  simp [World.frozen?, h]
theorem BlkN.lt {w : World} {B : Nat} {T : TypeId} {f : Nat → Int} (h : BlkN w B T f) : B < w.heap.size := (Array.getElem?_eq_some_iff.1 h).1
theorem BlkN.bel {w w' : World} {B : Nat} {T : TypeId} {f : Nat → Int} (h : BlkN w B T f) (hb : Bel w w') : BlkN w' B T f := (hb.block B h.lt).trans h
theorem BlkN.set {w : World} {B : Nat} {T : TypeId} {f : Nat → Int} (h : BlkN w B T f) (j : Nat) (hj : j < 12) (b : Int) : BlkN (w.setCell ⟨B, j, none⟩ (.int .i64 b)) B T (fun i => if i = j then b else f i) := by
  have hlt := h.lt
  have h' : w.heap[B] = .cells (arrN f) T (0, 0) := by unfold BlkN at h; simpa [Array.getElem?_eq_getElem hlt] using h
  show (w.heap.modify B _)[B]? = _
  rw [Array.getElem?_eq_getElem (by simpa using hlt), Array.getElem_modify_self, h']
  simp [arrN_set f j b hj]
theorem BlkN.other {w : World} {B : Nat} {T : TypeId} {f : Nat → Int} (h : BlkN w B T f) {p : Addr} (hp : p.block ≠ B) (v : Value) : BlkN (w.setCell p v) B T f :=
  (Below.heap_setCell w p v B (by omega)).trans h
theorem BlkN.grown {w w' : World} {o : Obj} {B : Nat} {T : TypeId} {f : Nat → Int} {base : Nat} {tag : Nat → Nat} {t : Nat} {e : TypeId} {v : Value} {xs : List Value} (h : BlkN w B T f) (hB : B < base) (hown : OwnT base tag t e w v xs) (hg : (w.alloc o).grownBy w' v.ownBlock) : BlkN w' B T f := by
  have hlt := h.lt
  refine (hg.block B (by simp; omega) (fun e => ?_)).trans ((Below.heap_alloc w o B hlt).trans h)
  have := own_base hown.1 B e.symm
  omega
/-- The names as the table holds them. -/
def nm (met : List Int) (v : Nat) : Int := if (-1 - (v : Int)) ∈ met then -1 - (met.idxOf (-1 - (v : Int)) : Int) else 0
theorem nm_nil : nm [] = fun _ => 0 := by funext v; simp [nm]
theorem nm_new {met : List Int} {n : Int} (h : n < 0) (hn : n ∉ met) : (fun i => if i = (-1 - n).toNat then -1 - (met.length : Int) else nm met i) = nm (met ++ [n]) := by
  funext i
  by_cases e : i = (-1 - n).toNat
  · have e2 : -1 - (i : Int) = n := by omega
    rw [if_pos e]; unfold nm
    rw [e2, if_pos (by simp), List.idxOf_append, if_neg hn]
    simp
  · have e2 : -1 - (i : Int) ≠ n := by omega
    rw [if_neg e]; unfold nm
    by_cases hm : (-1 - (i : Int)) ∈ met
    · rw [if_pos hm, if_pos (by simp [hm]), List.idxOf_append, if_pos hm]
    · rw [if_neg hm, if_neg (by simp [hm, e2])]
theorem nm_old {met : List Int} {n : Int} (h : n < 0) (hn : n ∈ met) : nm met (-1 - n).toNat = valM met n ∧ valM met n < 0 := by
  have e2 : -1 - (((-1 - n).toNat : Nat) : Int) = n := by omega
  unfold nm valM
  rw [e2, if_pos hn, if_pos h]
  exact ⟨rfl, by omega⟩
theorem nm_not {met : List Int} {n : Int} (h : n < 0) (hn : n ∉ met) : nm met (-1 - n).toNat = 0 := by
  have e2 : -1 - (((-1 - n).toNat : Nat) : Int) = n := by omega
  unfold nm
  rw [e2, if_neg hn]
theorem val_new {met : List Int} {n : Int} (h : n < 0) (hn : n ∉ met) : valM (met ++ [n]) n = -1 - (met.length : Int) := by
  unfold valM
  rw [if_pos h, List.idxOf_append, if_neg hn]
  simp
theorem val_sym {met : List Int} {n : Int} (h : ¬ n < 0) : valM met n = n := by unfold valM; rw [if_neg h]
theorem list_set_same {l : List Int} {i : Nat} {x : Int} (h : l[i]? = some x) : l.set i x = l := by
  apply List.ext_getElem?
  intro j
  rw [List.getElem?_set]
  by_cases e : i = j
  · subst e
    obtain ⟨h3, h4⟩ := List.getElem?_eq_some_iff.1 h
    simp [h3, h4]
  · simp [e]
/-- The first i are renamed. -/
def mix (M t : List Int) (i : Nat) : List Int := renT M (t.take i) ++ t.drop i
theorem mix_zero (M t : List Int) : mix M t 0 = t := by simp [mix, renT]
theorem mix_len (M t : List Int) (i : Nat) (h : i ≤ t.length) : (mix M t i).length = t.length := by simp [mix, renT_len]; omega
theorem mix_get (M t : List Int) (i : Nat) (h : i < t.length) : (mix M t i)[i]? = some (t.getD i 0) := by
  have hl : (renT M (t.take i)).length = i := by rw [renT_len, List.length_take]; omega
  unfold mix
  rw [List.getElem?_append_right (by omega), hl, Nat.sub_self]
  simp [List.getD, h]
theorem mix_succ (M t : List Int) (i : Nat) (h : i < t.length) : (mix M t i).set i (valM (stepM (metT M (t.take i)) (t.getD i 0)) (t.getD i 0)) = mix M t (i+1) := by
  have hl : (renT M (t.take i)).length = i := by rw [renT_len, List.length_take]; omega
  unfold mix
  rw [List.set_append_right _ _ (by omega), hl, Nat.sub_self, List.drop_eq_getElem_cons h, List.set_cons_zero, renT_succ M t i h]
  simp
theorem mix_sym (M t : List Int) (i : Nat) (h : i < t.length) (hs : ¬ t.getD i 0 < 0) : mix M t i = mix M t (i+1) := by
  have hl : (renT M (t.take i)).length = i := by rw [renT_len, List.length_take]; omega
  rw [← mix_succ M t i h, val_sym hs]
  exact (list_set_same (mix_get M t i h)).symm
theorem mix_all (M t : List Int) (i : Nat) (h : ¬ i < t.length) : mix M t i = renT M t := by
  unfold mix
  rw [List.take_of_length_le (by omega), List.drop_eq_nil_of_le (by omega), List.append_nil]

set_option maxRecDepth 100000 in
theorem clone_r (l h : Nat) (v : Value) (xs : List Int) (w : World) (hx : xs.length ≤ 1048576) (hv : SlI l h w v xs) :
    Calls Tryd.prog 62 #[v] w (RetR w xs) := by
  obtain ⟨i0, hi0, hz0, hz1, hz2⟩ := info_parts Tryd.info3
  have hv0 := hv
  obtain ⟨ad, cap, rfl, -, hm, hr⟩ := hv
  have hown : (w.alloc (.cells #[] 3)).ownsRow w.heap.size 3 1 (.slice (some ⟨w.heap.size, 0, none⟩) 0 0) ([] : List Int).length (([] : List Int).map (Value.int .i64)) :=
    World.ownsRow_lit w #[] 0 (Nat.le_refl _) (Nat.zero_le _) rfl
  cases ad with
  | none =>
    obtain rfl : xs = [] := by
      rcases Nat.eq_zero_or_pos xs.length with h0 | h0
      · exact List.length_eq_zero_iff.1 h0
      · obtain ⟨_, _, e, _⟩ := hr h0; simp at e
    obtain rfl : cap = 0 := hm.2 rfl
    clear hr hm hv0
    have hk := fun (w : World) (a : Option Addr) (n c : Nat) => Lib.run_eql_slice_nil (P := Tryd.prog) w 24 3 a n c 0 0 Tryd.underlying24
    go_enter Tryd.func62, Tryd.ntmps62
    go_wp2_with fail
    go_ret
    exact ⟨_, _, _, rfl, World.ownsRow_nil _ _ _ _, Bel.rfl' _⟩
  | some a =>
    have hn := news_of_sl (hv0.alloc (.cells #[] 3))
    clear hr hm
    have hk := fun (w : World) (a : Option Addr) (n c : Nat) => Lib.run_eql_slice_nil (P := Tryd.prog) w 24 3 a n c 0 0 Tryd.underlying24
    go_enter Tryd.func62, Tryd.ntmps62
    go_wp2_with (at_builtin; refine wpList_append_own _ rfl _ _ 24 rfl w.heap.size 3 i0 (.int .i64 0) 1 8 Tryd.underlying24 hi0 hz0 hz1 hz2 rfl (by decide) _ _ _ rfl hown a xs.length cap (xs.map (Value.int .i64)) rfl (by simp) hn (ones_int _) (by unfold maxLen; simp; omega) (by simp; omega) (by simp) ?_; intro v' w1 hown' hgrow _)
    have hb1 := (Bel.alloc0 w (.cells #[] 3)).grown hgrow (fun k hk => own_base hown k hk)
    have hown2 : w1.ownsRow w.heap.size 3 1 v' xs.length (xs.map (Value.int .i64)) := by simpa using hown'
    obtain ⟨g, n, c, rfl⟩ := own_form hown2
    go_ret
    exact ⟨_, _, _, rfl, hown2, hb1⟩

end Go.Proofs.YtkbgglejhdodoaaDoor
end
section
namespace Go.Proofs.YtkbgglejhdodoaaDoor
open Go.RowKit

theorem l1In_q (n lo hi : Int) (w : World) : Calls Tryd.prog 81 #[.int .i64 n, .int .i64 lo, .int .i64 hi] w fun e w' => e = .returned (.bool (inB n lo hi)) ∧ w' = w := by
  unfold inB
  go_enter Tryd.func81, Tryd.ntmps81
  by_cases h1 : lo ≤ n
  · by_cases h2 : n ≤ hi
    · go_wp2
      go_ret
      exact ⟨by simp [h1, h2], rfl⟩
    · go_wp2
      go_ret
      exact ⟨by simp; omega, rfl⟩
  · go_wp2
    go_ret
    exact ⟨by simp; omega, rfl⟩
theorem l1In_qv (n lo hi : Int) (b : Bool) (h : inB n lo hi = b) (w : World) : Calls Tryd.prog 81 #[.int .i64 n, .int .i64 lo, .int .i64 hi] w fun e w' => e = .returned (.bool b) ∧ w' = w := h ▸ l1In_q n lo hi w
theorem l1In_c (n lo hi : Int) (w : World) : Calls Tryd.prog 81 #[.int .i64 n, .int .i64 lo, .int .i64 hi] w (RetV w (.bool (inB n lo hi))) :=
  (l1In_q n lo hi w).mono fun e w' ⟨h1, h2⟩ => ⟨h1, h2 ▸ Bel.rfl' w⟩
theorem l1In_t (n lo hi : Int) (w : World) (h : inB n lo hi = true) : Calls Tryd.prog 81 #[.int .i64 n, .int .i64 lo, .int .i64 hi] w (RetV w (.bool true)) := by
  rw [← h]; exact l1In_c n lo hi w
theorem l1In_f (n lo hi : Int) (w : World) (h : inB n lo hi = false) : Calls Tryd.prog 81 #[.int .i64 n, .int .i64 lo, .int .i64 hi] w (RetV w (.bool false)) := by
  rw [← h]; exact l1In_c n lo hi w

theorem l1All_c (l h : Nat) (v : Value) (xs : List Int) (lo hi : Int) (w : World) (hx : xs.length ≤ 1048576) (hv : SlI l h w v xs) :
    Calls Tryd.prog 86 #[v, .int .i64 lo, .int .i64 hi] w (RetV w (.bool (xs.all (inB · lo hi)))) := by
  obtain ⟨ad, cap, rfl, -, -, hr⟩ := hv
  go_enter Tryd.func86, Tryd.ntmps86
  go_wp2
  go_loopw [11] (fun i wr => ∃ k : Nat, k ≤ xs.length ∧ i = .int .i64 k ∧ (xs.take k).all (inB · lo hi) = true ∧ Bel w wr) (fun i _ => xs.length - (intOf i).toNat)
  case atStart => exact ⟨0, Nat.zero_le _, rfl, by simp, Bel.rfl' _⟩
  case round =>
    obtain ⟨k, hk, rfl, ha, hb⟩ := hrel
    by_cases hlt : k < xs.length
    · obtain ⟨b, off, rfl, -, hcell⟩ := rd hr hb k hlt
      have E1 := Lib.hid (all_split xs (inB · lo hi) k hlt ha)
      have E2 := Lib.hid (all_false xs (inB · lo hi) k hlt)
      clear hr ha
      generalize xs.getD k 0 = x at *
      by_cases hp : inB x lo hi = true
      · have HP := Lib.hid hp; clear hp
        go_wp2_with (go_at_call 81; refine (l1In_t _ _ _ _ HP.out).mono ?_; rintro e w' ⟨rfl, hb1⟩)
        go_roundw
        case rel => exact ⟨k+1, by omega, by go_num, by rw [E1.out]; exact HP.out, hb.step hb1⟩
        case measure => simp [intOf]; omega
      · have HP := Lib.hid (by simpa using hp : inB x lo hi = false); clear hp
        go_wp2_with (go_at_call 81; refine (l1In_f _ _ _ _ HP.out).mono ?_; rintro e w' ⟨rfl, hb1⟩)
        go_ret
        exact ⟨by rw [E2.out HP.out]; rfl, hb.step hb1⟩
    · have HA := Lib.hid ha; clear ha
      go_wp2_with fail
      go_ret
      exact ⟨by rw [all_done xs _ k hk hlt HA.out]; rfl, hb⟩
end Go.Proofs.YtkbgglejhdodoaaDoor
end
section
namespace Go.Proofs.YtkbgglejhdodoaaDoor
open Go.RowKit



theorem l1All_v (l h : Nat) (v : Value) (xs : List Int) (lo hi : Int) (w : World) (b : Bool) (he : xs.all (inB · lo hi) = b) (hx : xs.length ≤ 1048576) (hv : SlI l h w v xs) :
    Calls Tryd.prog 86 #[v, .int .i64 lo, .int .i64 hi] w (RetV w (.bool b)) := he ▸ l1All_c l h v xs lo hi w hx hv

theorem sGoodSign_c (l h : Nat) (v : Value) (xs : List Int) (w : World) (hx : xs.length ≤ 1048576) (hv : SlI l h w v xs) :
    Calls Tryd.prog 58 #[.agg #[v]] w (RetV w (.bool (goodSign xs))) := by
  have hv0 := hv
  obtain ⟨ad, cap, rfl, -, -, hr⟩ := hv
  unfold goodSign
  by_cases h1 : inB xs.length 1 10 = true
  · have hp : 0 < xs.length := by simp [inB] at h1; omega
    have H1 := Lib.hid h1; clear h1
    cases h2 : xs.all (inB · 0 3)
    · have H2 := Lib.hid h2; clear h2
      go_enter Tryd.func58, Tryd.ntmps58
      go_wp2_with (first | (go_at_call 81; refine (l1In_t _ _ _ _ H1.out).mono ?_; rintro e w' ⟨rfl, hb1⟩; have hx1 := boxc hb1 0 _ rfl) | (go_at_call 86; refine (l1All_v _ _ _ _ _ _ _ _ H2.out hx (hv0.below hb1.of_alloc)).mono ?_; rintro e w' ⟨rfl, hb2⟩))
      go_ret
      exact ⟨by simp, hb1.of_alloc.step hb2⟩
    · have H2 := Lib.hid h2; clear h2
      obtain ⟨b, off, rfl, hlt, hcell⟩ := rd0 hr hp
      generalize xs.getD 0 0 = x at *
      go_enter Tryd.func58, Tryd.ntmps58
      go_wp2_with (first | (go_at_call 81; refine (l1In_t _ _ _ _ H1.out).mono ?_; rintro e w' ⟨rfl, hb1⟩; have hx1 := boxc hb1 0 _ rfl) | (go_at_call 86; refine (l1All_v _ _ _ _ _ _ _ _ H2.out hx (hv0.below hb1.of_alloc)).mono ?_; rintro e w' ⟨rfl, hb2⟩; have hx2 := boxc (hb1.step hb2) 0 _ rfl; have hcell2 := (hb1.of_alloc.step hb2).at hlt hcell))
      go_ret
      exact ⟨by rw [H1.out]; simp, hb1.of_alloc.step hb2⟩
  · have H1 := Lib.hid (by simpa using h1 : inB xs.length 1 10 = false); clear h1
    go_enter Tryd.func58, Tryd.ntmps58
    go_wp2_with (first | (go_at_call 81; refine (l1In_f _ _ _ _ H1.out).mono ?_; rintro e w' ⟨rfl, hb1⟩; have hx1 := boxc hb1 0 _ rfl))
    go_ret
    exact ⟨by rw [H1.out]; simp, hb1.of_alloc⟩
end Go.Proofs.YtkbgglejhdodoaaDoor
end
section
namespace Go.Proofs.YtkbgglejhdodoaaDoor
open Go.RowKit

theorem goodSign_none (xs : List Int) (h : ¬ inB xs.length 1 10 = true) : goodSign xs = false := by simp [goodSign, h]

theorem iGoodSign_c (l h : Nat) (v : Value) (xs : List Int) (w : World) (hx : xs.length ≤ 1048576) (hv : SlI l h w v xs) :
    Calls Tryd.prog 69 #[.agg #[v]] w (RetV w (.bool (goodSign xs))) := by
  obtain ⟨ad, cap, rfl, -, -, hr⟩ := hv
  by_cases h1 : xs.length < 1
  · have e1 : Hid (goodSign xs = false) := goodSign_none xs (by simp [inB]; omega)
    have h1' : decide ((xs.length : Int) < 1) = true := by simp; omega
    go_enter Tryd.func69, Tryd.ntmps69
    go_wp2_with fail
    go_ret
    exact ⟨by rw [e1.out]; rfl, Bel.alloc0 _ _⟩
  · by_cases h2 : 10 < xs.length
    · have e1 : Hid (goodSign xs = false) := goodSign_none xs (by simp [inB]; omega)
      go_enter Tryd.func69, Tryd.ntmps69
      go_wp2_with fail
      go_ret
      exact ⟨by rw [e1.out]; rfl, Bel.alloc0 _ _⟩
    · obtain ⟨b, off, rfl, hlt, hcell⟩ := rd0 hr (by omega)
      have hin : inB xs.length 1 10 = true := by simp [inB]; omega
      by_cases h3 : xs.getD 0 0 = 0
      · have E3 : Hid (goodSign xs = xs.all (inB · 0 3)) := by show goodSign xs = _; unfold goodSign; rw [hin, h3]; simp
        rw [h3] at hcell
        clear h3
        go_enter Tryd.func69, Tryd.ntmps69
        go_wp2_with fail
        go_loop [25] (fun i => ∃ k : Nat, k ≤ xs.length ∧ i = .int .i64 k ∧ (xs.take k).all (inB · 0 3) = true) (fun i => xs.length - (intOf i).toNat)
        case atStart => exact ⟨0, Nat.zero_le _, rfl, by simp⟩
        case round =>
          obtain ⟨k, hk, rfl, ha⟩ := hrel
          by_cases hltk : k < xs.length
          · obtain ⟨b', off', he, hb', hcell'⟩ := rd hr (Bel.alloc0 w (.cells #[.slice (some ⟨b, off, none⟩) xs.length cap] 26)) k hltk
            simp only [Option.some.injEq, Addr.mk.injEq, and_true] at he
            obtain ⟨rfl, rfl⟩ := he
            have E1 := Lib.hid (all_split xs (inB · 0 3) k hltk ha)
            have E2 := Lib.hid (all_false xs (inB · 0 3) k hltk)
            clear hr ha
            generalize xs.getD k 0 = x at *
            by_cases hp : x < 0
            · go_wp2_with fail
              go_ret
              exact ⟨by rw [E3.out, E2.out (by simp [inB]; omega)]; rfl, Bel.alloc0 _ _⟩
            · by_cases hp2 : 3 < x
              · go_wp2_with fail
                go_ret
                exact ⟨by rw [E3.out, E2.out (by simp [inB]; omega)]; rfl, Bel.alloc0 _ _⟩
              · go_wp2_with fail
                go_round
                case rel => exact ⟨k+1, by omega, by go_num, by rw [E1.out]; simp [inB]; omega⟩
                case measure => simp [intOf]; omega
          · have HA := Lib.hid ha; clear ha
            go_wp2_with fail
            go_ret
            exact ⟨by rw [E3.out, all_done xs _ k hk hltk HA.out]; rfl, Bel.alloc0 _ _⟩
      · have e1 : Hid (goodSign xs = false) := by show goodSign xs = _; unfold goodSign; rw [beq_eq_false_iff_ne.2 h3]; simp
        have h3' : (xs.getD 0 0 != 0) = true := by simpa using h3
        clear h3
        generalize xs.getD 0 0 = x at *
        go_enter Tryd.func69, Tryd.ntmps69
        go_wp2_with fail
        go_ret
        exact ⟨by rw [e1.out]; rfl, Bel.alloc0 _ _⟩
end Go.Proofs.YtkbgglejhdodoaaDoor
end
section
namespace Go.Proofs.YtkbgglejhdodoaaDoor
open Go.RowKit

def endI (ar t : List Int) (i : Nat) : Int := match endOf ar t i with | none => -1 | some e => e
theorem endI_none {ar t : List Int} {i : Nat} (h : endOf ar t i = none) : endI ar t i = -1 := by simp [endI, h]
theorem endI_some {ar t : List Int} {i e : Nat} (h : endOf ar t i = some e) : endI ar t i = e := by simp [endI, h]

theorem go_step_ok {ar t : List Int} {n p i : Nat} (h : endGo ar (t.drop p) (n + 1) p = endOf ar t i) (hp : p < t.length) (hs : okSym ar (t.getD p 0) = true) : endGo ar (t.drop (p + 1)) (n + arOf ar (t.getD p 0)) (p + 1) = endOf ar t i := by
  rw [← h, drop_cons t p hp, endGo_cons, if_pos hs]
theorem go_step_no {ar t : List Int} {n p i : Nat} (h : endGo ar (t.drop p) (n + 1) p = endOf ar t i) (hp : p < t.length) (hs : okSym ar (t.getD p 0) = false) : endOf ar t i = none := by
  rw [← h, drop_cons t p hp, endGo_cons, hs]; rfl
theorem go_step_end {ar t : List Int} {n p i : Nat} (h : endGo ar (t.drop p) (n + 1) p = endOf ar t i) (hp : ¬ p < t.length) : endOf ar t i = none := by
  rw [← h, List.drop_eq_nil_of_le (by omega), endGo_nil]
theorem go_step_done {ar t : List Int} {p i : Nat} (h : endGo ar (t.drop p) 0 p = endOf ar t i) : endOf ar t i = some p := by
  rw [← h, endGo_zero]
theorem arOf_nat {ar : List Int} (n : Nat) : arOf ar (n : Int) = (ar.getD n 0).toNat := by
  unfold arOf; rw [if_neg (by omega)]; simp
theorem arOf_neg {ar : List Int} {x : Int} (h : x < 0) : arOf ar x = 0 := by unfold arOf; rw [if_pos h]
theorem okSym_lt {ar : List Int} {n : Nat} (h : okSym ar (n : Int) = true) : n < ar.length := by simp [okSym, inB] at h; omega

set_option maxRecDepth 100000 in
set_option maxHeartbeats 1000000 in
theorem l1End_c (l h l' h' : Nat) (v u : Value) (ar t : List Int) (i : Nat) (w : World) (hg : goodSign ar = true) (ht : t.length ≤ 1048576) (hi : i ≤ t.length) (hv : SlI l h w v ar) (hu : SlI l' h' w u t) :
    Calls Tryd.prog 82 #[.agg #[v], u, .int .i64 i] w (RetV w (.int .i64 (endI ar t i))) := by
  obtain ⟨ad, cap, rfl, -, -, hr⟩ := hv
  obtain ⟨ad', cap', rfl, -, -, hr'⟩ := hu
  have hlen := sign_len ar hg
  go_enter Tryd.func82, Tryd.ntmps82
  go_wp2_with fail
  go_loopw [2, 7] (fun a n wr => ∃ p m : Nat, p ≤ t.length ∧ m ≤ 1 + 3 * p ∧ a = .int .i64 p ∧ n = .int .i64 m ∧ endGo ar (t.drop p) m p = endOf ar t i ∧ Bel (w.alloc (.cells #[.slice ad ar.length cap] 26)) wr) (fun a _ _ => t.length + 1 - (intOf a).toNat)
  case atStart => exact ⟨i, 1, hi, by omega, rfl, rfl, rfl, Bel.rfl' _⟩
  case round =>
    obtain ⟨p, m, hp, hm, rfl, rfl, hgo, hb⟩ := hrel
    have hbox := boxc hb 0 _ rfl
    cases m with
    | zero =>
      have E := Lib.hid (endI_some (go_step_done hgo))
      clear hgo
      go_wp2_with fail
      go_ret
      exact ⟨by rw [E.out]; rfl, hb.of_alloc⟩
    | succ m =>
      by_cases hlt : p < t.length
      · obtain ⟨b', off', rfl, -, hcell'⟩ := rd hr' hb.of_alloc p hlt
        have E1 := Lib.hid (go_step_ok hgo hlt)
        have E2 := Lib.hid (go_step_no hgo hlt)
        have ha3 := arOf_le ar hg (t.getD p 0)
        clear hgo hr'
        generalize t.getD p 0 = x at *
        have hm1 : ((m + 1 : Nat) : Int) = (m : Int) + 1 := by omega
        rw [hm1]
        clear hm1
        cases hs : okSym ar x with
        | false =>
          have E := Lib.hid (endI_none (E2.out hs))
          have HS := Lib.hid (show inB x (-12) ((ar.length : Int) - 1) = false from hs); clear hs
          have hw1 := IntWalk.i64_in ((ar.length : Int) - 1) (by omega)
          go_wp2_with fail
          go_quiet ((go_at_call 81; exact Calls.quiet_of_same (l1In_qv _ _ _ _ HS.out _)))
          go_wp2
          go_ret
          exact ⟨by rw [E.out]; rfl, hb.of_alloc.drewN _⟩
        | true =>
          have HS := Lib.hid (show inB x (-12) ((ar.length : Int) - 1) = true from hs)
          have hw1 := IntWalk.i64_in ((ar.length : Int) - 1) (by omega)
          by_cases hx : x < 0
          · have E := Lib.hid (E1.out hs)
            rw [arOf_neg hx] at E
            clear hs
            have hx' : decide (x ≥ 0) = false := by simp; omega
            go_wp2_with fail
            go_quiet ((go_at_call 81; exact Calls.quiet_of_same (l1In_qv _ _ _ _ HS.out _)))
            go_wp2
            go_roundw
            case rel => exact ⟨p+1, m, by omega, by omega, by go_num, rfl, E.out, hb.drewN _⟩
            case measure => simp [intOf]; omega
          · obtain ⟨k, rfl⟩ : ∃ k : Nat, x = k := ⟨x.toNat, by omega⟩
            have E := Lib.hid (E1.out hs)
            have hk := okSym_lt hs
            clear hs
            obtain ⟨b, off, rfl, -, hcell⟩ := rd hr hb.of_alloc k hk
            have hn := ar_nonneg ar hg k
            rw [arOf_nat] at E
            clear hr E1 E2 ha3
            obtain ⟨q, hq⟩ : ∃ q : Nat, ar.getD k 0 = q := ⟨(ar.getD k 0).toNat, by omega⟩
            rw [hq] at hcell E hn
            rw [show ((q : Int)).toNat = q from by omega] at E
            clear hq
            have hk2 : (k : Int) < ar.length := by omega
            have hw2 := IntWalk.i64_in ((m : Int) + (q : Int)) (by omega)
            go_wp2_with fail
            go_quiet ((go_at_call 81; exact Calls.quiet_of_same (l1In_qv _ _ _ _ HS.out _)))
            go_wp2
            go_quiet (fail)
            go_wp2
            go_roundw
            case rel => exact ⟨p+1, m + q, by omega, by omega, by go_num, by go_num, E.out, hb.drewN _⟩
            case measure => simp [intOf]; omega
      · have E := Lib.hid (endI_none (go_step_end hgo hlt))
        clear hgo
        have hm1 : ((m + 1 : Nat) : Int) = (m : Int) + 1 := by omega
        rw [hm1]
        clear hm1
        have hge : decide ((p : Int) ≥ t.length) = true := by simp; omega
        go_wp2_with fail
        go_quiet (fail)
        go_wp2
        go_ret
        exact ⟨by rw [E.out]; rfl, hb.of_alloc.drewN _⟩
end Go.Proofs.YtkbgglejhdodoaaDoor
end
section
namespace Go.Proofs.YtkbgglejhdodoaaDoor
open Go.RowKit

def endP (ar t : List Int) (i : Nat) : Value := match endOf ar t i with | none => .tuple #[.int .i64 0, .bool false] | some e => .tuple #[.int .i64 e, .bool true]
theorem endP_none {ar t : List Int} {i : Nat} (h : endOf ar t i = none) : endP ar t i = .tuple #[.int .i64 0, .bool false] := by simp [endP, h]
theorem endP_some {ar t : List Int} {i e : Nat} (h : endOf ar t i = some e) : endP ar t i = .tuple #[.int .i64 e, .bool true] := by simp [endP, h]

set_option maxRecDepth 100000 in
set_option maxHeartbeats 1000000 in
theorem termEnd_c (l h l' h' : Nat) (v u : Value) (ar t : List Int) (i : Nat) (w : World) (hg : goodSign ar = true) (ht : t.length ≤ 1048576) (hi : i ≤ t.length) (hv : SlI l h w v ar) (hu : SlI l' h' w u t) :
    Calls Tryd.prog 60 #[.agg #[v], u, .int .i64 i] w (RetV w (endP ar t i)) := by
  obtain ⟨ad, cap, rfl, -, -, hr⟩ := hv
  obtain ⟨ad', cap', rfl, -, -, hr'⟩ := hu
  have hlen := sign_len ar hg
  go_enter Tryd.func60, Tryd.ntmps60
  go_wp2_with fail
  go_step3
  go_wp2_with fail
  go_step3
  go_wp2_with fail
  go_loopw [8, 9] (fun n a wr => ∃ p m : Nat, p ≤ t.length ∧ m ≤ 3 * p ∧ a = .int .i64 p ∧ n = .int .i64 ((m : Int) + 1) ∧ endGo ar (t.drop p) (m + 1) p = endOf ar t i ∧ Bel (w.alloc (.cells #[.slice ad ar.length cap] 26)) wr) (fun _ a _ => t.length + 1 - (intOf a).toNat)
  case atStart => exact ⟨i, 0, hi, by omega, rfl, rfl, rfl, Bel.rfl' _⟩
  case round =>
    obtain ⟨p, m, hp, hm, rfl, rfl, hgo, hb⟩ := hrel
    have hbox := boxc hb 0 _ rfl
    by_cases hlt : p < t.length
    · obtain ⟨b', off', rfl, -, hcell'⟩ := rd hr' hb.of_alloc p hlt
      have E1 := go_step_ok hgo hlt
      have E2 := go_step_no hgo hlt
      have ha3 := arOf_le ar hg (t.getD p 0)
      clear hgo hr'
      generalize t.getD p 0 = x at *
      cases hs : okSym ar x with
      | false =>
        have E := Lib.hid (endP_none (E2 hs))
        have hs2 : (0 ≤ x ∧ (ar.length : Int) ≤ x) ∨ (x < 0 ∧ x < -12) := by simp [okSym, inB] at hs; omega
        clear E1 E2 hs
        rcases hs2 with ⟨h1, h2⟩ | ⟨h1, h2⟩
        · have h3 : decide (x ≥ 0) = true := by simpa using h1
          have h4 : decide (x < 0) = false := by simp; omega
          go_wp2_with fail
          try rw [Exit.noGoto_ret]
          go_ret2
          exact ⟨by rw [E.out]; rfl, hb.of_alloc⟩
        · have h3 : decide (x ≥ 0) = false := by simp; omega
          go_wp2_with fail
          try rw [Exit.noGoto_ret]
          go_ret2
          exact ⟨by rw [E.out]; rfl, hb.of_alloc⟩
      | true =>
        by_cases hx : x < 0
        · have E := E1 hs
          rw [arOf_neg hx] at E
          have hs2 : -12 ≤ x := by simp [okSym, inB] at hs; omega
          clear hs E1 E2
          have hx' : decide (x ≥ 0) = false := by simp; omega
          cases m with
          | zero =>
            have EE := Lib.hid (endP_some (go_step_done E))
            clear E
            go_wp2_with fail
            try rw [Exit.noGoto_ret]
            go_ret2
            exact ⟨by rw [EE.out]; rfl, hb.of_alloc⟩
          | succ m =>
            have EE := Lib.hid E
            clear E
            rw [show ((m + 1 : Nat) : Int) = (m : Int) + 1 from by omega]
            go_wp2_with fail
            go_roundw
            case rel => exact ⟨p+1, m, by omega, by omega, by go_num, by go_num, EE.out, hb⟩
            case measure => simp [intOf]; omega
        · obtain ⟨k, rfl⟩ : ∃ k : Nat, x = k := ⟨x.toNat, by omega⟩
          have E := E1 hs
          have hk := okSym_lt hs
          clear hs
          obtain ⟨b, off, rfl, -, hcell⟩ := rd hr hb.of_alloc k hk
          have hn := ar_nonneg ar hg k
          rw [arOf_nat] at E
          clear hr E1 E2 ha3
          obtain ⟨q, hq⟩ : ∃ q : Nat, ar.getD k 0 = q := ⟨(ar.getD k 0).toNat, by omega⟩
          rw [hq] at hcell E hn
          rw [show ((q : Int)).toNat = q from by omega] at E
          clear hq
          have hk2 : (k : Int) < ar.length := by omega
          have h3 : decide ((k : Int) ≥ 0) = true := by simp
          by_cases hz : m + q < 1
          · rw [show m + q = 0 from by omega] at E
            have EE := Lib.hid (endP_some (go_step_done E))
            clear E
            go_wp2_with fail
            try rw [Exit.noGoto_ret]
            go_ret2
            exact ⟨by rw [EE.out]; rfl, hb.of_alloc⟩
          · have E' : endGo ar (t.drop (p+1)) ((m + q - 1) + 1) (p+1) = endOf ar t i := by rw [← E]; congr 1; omega
            have EE := Lib.hid E'
            clear E E'
            go_wp2_with fail
            go_roundw
            case rel => exact ⟨p+1, m + q - 1, by omega, by omega, by go_num, by go_num, EE.out, hb⟩
            case measure => simp [intOf]; omega
    · have E := Lib.hid (endP_none (go_step_end hgo hlt))
      clear hgo
      go_wp2_with fail
      try rw [Exit.noGoto_ret]
      go_ret2
      exact ⟨by rw [E.out]; rfl, hb.of_alloc⟩
end Go.Proofs.YtkbgglejhdodoaaDoor
end
section
namespace Go.Proofs.YtkbgglejhdodoaaDoor
open Go.RowKit

theorem sGoodSign_v (l h : Nat) (v : Value) (xs : List Int) (b : Bool) (w : World) (he : goodSign xs = b) (hx : xs.length ≤ 1048576) (hv : SlI l h w v xs) :
    Calls Tryd.prog 58 #[.agg #[v]] w (RetV w (.bool b)) := he ▸ sGoodSign_c l h v xs w hx hv
theorem iGoodSign_v (l h : Nat) (v : Value) (xs : List Int) (b : Bool) (w : World) (he : goodSign xs = b) (hx : xs.length ≤ 1048576) (hv : SlI l h w v xs) :
    Calls Tryd.prog 69 #[.agg #[v]] w (RetV w (.bool b)) := he ▸ iGoodSign_c l h v xs w hx hv

theorem okTerm_short {ar t : List Int} (h : inB t.length 1 40 = false) : okTerm ar t = false := by simp [okTerm, h]
theorem okTerm_eq {ar t : List Int} (h : inB t.length 1 40 = true) : okTerm ar t = (endI ar t 0 == (t.length : Int)) := by
  simp only [okTerm, h, Bool.true_and, endI]
  cases endOf ar t 0 with
  | none => simp
  | some e => simp; rw [Bool.eq_iff_iff]; simp; omega

theorem l1Term_c (l h l' h' : Nat) (v u : Value) (ar t : List Int) (w : World) (hg : goodSign ar = true) (ht : t.length ≤ 1048576) (hv : SlI l h w v ar) (hu : SlI l' h' w u t) :
    Calls Tryd.prog 48 #[.agg #[v], u] w (RetV w (.bool (okTerm ar t))) := by
  have hu0 := hu
  obtain ⟨ad', cap', rfl⟩ := hu.form
  cases hs : inB t.length 1 40 with
  | false =>
    have E := Lib.hid (okTerm_short (ar := ar) hs)
    have HS := Lib.hid hs; clear hs
    go_enter Tryd.func48, Tryd.ntmps48
    go_wp2_with (go_at_call 81; refine (l1In_f _ _ _ _ HS.out).mono ?_; rintro e w' ⟨rfl, hb1⟩)
    go_ret
    exact ⟨by rw [E.out]; rfl, hb1.of_alloc⟩
  | true =>
    have E := Lib.hid (okTerm_eq (ar := ar) hs)
    have HS := Lib.hid hs; clear hs
    have hc := l1End_c l h l' h' v (.slice ad' t.length cap') ar t 0
    have HC := Lib.hid hc; clear hc
    generalize endI ar t 0 = r at *
    go_enter Tryd.func48, Tryd.ntmps48
    go_wp2_with fail
    refine (l1In_t _ _ _ _ HS.out).mono ?_; rintro e w' ⟨rfl, hb1⟩
    have hx1 := boxc hb1 0 _ rfl
    go_wp2_with fail
    refine (HC.out _ hg ht (by omega) (hv.below hb1.of_alloc) (hu0.below hb1.of_alloc)).mono ?_; rintro e w2 ⟨rfl, hb2⟩
    go_wp2_with fail
    go_ret
    exact ⟨by rw [E.out]; rfl, hb1.of_alloc.step hb2⟩
theorem l1Term_v (l h l' h' : Nat) (v u : Value) (ar t : List Int) (b : Bool) (w : World) (he : okTerm ar t = b) (hg : goodSign ar = true) (ht : t.length ≤ 1048576) (hv : SlI l h w v ar) (hu : SlI l' h' w u t) :
    Calls Tryd.prog 48 #[.agg #[v], u] w (RetV w (.bool b)) := he ▸ l1Term_c l h l' h' v u ar t w hg ht hv hu

theorem sGoodTerm_c (l h l' h' : Nat) (v u : Value) (ar t : List Int) (w : World) (ha : ar.length ≤ 1048576) (ht : t.length ≤ 1048576) (hv : SlI l h w v ar) (hu : SlI l' h' w u t) :
    Calls Tryd.prog 20 #[.agg #[v], u] w (RetV w (.bool (goodTerm ar t))) := by
  cases hs : goodSign ar with
  | false =>
    have E : Hid (goodTerm ar t = false) := by show goodTerm ar t = false; simp [goodTerm, hs]
    have HS := Lib.hid hs; clear hs
    go_enter Tryd.func20, Tryd.ntmps20
    go_wp2_with fail
    refine (sGoodSign_v _ _ _ _ _ _ HS.out ha (hv.alloc _)).mono ?_; rintro e w' ⟨rfl, hb1⟩
    go_wp2_with fail
    go_ret
    exact ⟨by rw [E.out]; rfl, hb1.of_alloc⟩
  | true =>
    have E : Hid (goodTerm ar t = okTerm ar t) := by show goodTerm ar t = okTerm ar t; simp [goodTerm, hs]
    have HS := Lib.hid hs; clear hs
    have hc := l1Term_c l h l' h' v u ar t
    have HC := Lib.hid hc; clear hc
    generalize okTerm ar t = r at *
    cases r
    all_goals
      go_enter Tryd.func20, Tryd.ntmps20
      go_wp2_with fail
      refine (sGoodSign_v _ _ _ _ _ _ HS.out ha (hv.alloc _)).mono ?_; rintro e w' ⟨rfl, hb1⟩
      have hx1 := boxc hb1 0 _ rfl
      go_wp2_with fail
      refine (HC.out _ HS.out ht (hv.below hb1.of_alloc) (hu.below hb1.of_alloc)).mono ?_; rintro e w2 ⟨rfl, hb2⟩
      go_wp2_with fail
      go_ret
      exact ⟨by rw [E.out]; rfl, hb1.of_alloc.step hb2⟩
theorem sGoodTerm_v (l h l' h' : Nat) (v u : Value) (ar t : List Int) (b : Bool) (w : World) (he : goodTerm ar t = b) (ha : ar.length ≤ 1048576) (ht : t.length ≤ 1048576) (hv : SlI l h w v ar) (hu : SlI l' h' w u t) :
    Calls Tryd.prog 20 #[.agg #[v], u] w (RetV w (.bool b)) := he ▸ sGoodTerm_c l h l' h' v u ar t w ha ht hv hu

theorem goodTerm_iff {ar t : List Int} : goodTerm ar t = true ↔ goodSign ar = true ∧ okTerm ar t = true := by simp [goodTerm]
theorem good_long {ar t : List Int} (h : 40 < t.length) : goodTerm ar t = false := by
  simp [goodTerm, okTerm, inB]; omega

theorem iGoodTerm_c (l h l' h' : Nat) (v u : Value) (ar t : List Int) (w : World) (ha : ar.length ≤ 1048576) (ht : t.length ≤ 1048576) (hv : SlI l h w v ar) (hu : SlI l' h' w u t) :
    Calls Tryd.prog 46 #[.agg #[v], u] w (RetV w (.bool (goodTerm ar t))) := by
  have hu0 := hu
  obtain ⟨ad', cap', rfl⟩ := hu.form
  by_cases hl : 40 < t.length
  · have E := Lib.hid (good_long (ar := ar) hl)
    go_enter Tryd.func46, Tryd.ntmps46
    go_wp2_with fail
    go_ret
    exact ⟨by rw [E.out]; rfl, Bel.alloc0 _ _⟩
  · cases hs : goodSign ar with
    | false =>
      have E : Hid (goodTerm ar t = false) := by show goodTerm ar t = false; simp [goodTerm, hs]
      have HS := Lib.hid hs; clear hs
      go_enter Tryd.func46, Tryd.ntmps46
      go_wp2_with fail
      refine (iGoodSign_v _ _ _ _ _ _ HS.out ha (hv.alloc _)).mono ?_; rintro e w' ⟨rfl, hb1⟩
      go_wp2_with fail
      go_ret
      exact ⟨by rw [E.out]; rfl, hb1.of_alloc⟩
    | true =>
      have E : Hid (goodTerm ar t = okTerm ar t) := by show goodTerm ar t = okTerm ar t; simp [goodTerm, hs]
      have hc := termEnd_c l h l' h' v (.slice ad' t.length cap') ar t 0
      have HS := Lib.hid hs; clear hs
      cases he : endOf ar t 0 with
      | none =>
        have HC := Lib.hid (fun w a b c d e => endP_none he ▸ hc w a b c d e)
        have E2 : Hid (okTerm ar t = false) := by show okTerm ar t = false; simp [okTerm, he]
        clear hc he
        go_enter Tryd.func46, Tryd.ntmps46
        go_wp2_with fail
        refine (iGoodSign_v _ _ _ _ _ _ HS.out ha (hv.alloc _)).mono ?_; rintro e w' ⟨rfl, hb1⟩
        have hx1 := boxc hb1 0 _ rfl
        go_wp2_with fail
        refine (HC.out _ HS.out ht (by omega) (hv.below hb1.of_alloc) (hu0.below hb1.of_alloc)).mono ?_; rintro e w2 ⟨rfl, hb2⟩
        go_wp2_with fail
        go_ret
        exact ⟨by rw [E.out, E2.out]; rfl, hb1.of_alloc.step hb2⟩
      | some q =>
        have HC := Lib.hid (fun w a b c d e => endP_some he ▸ hc w a b c d e)
        have E2 : Hid (okTerm ar t = ((q : Int) == (t.length : Int))) := by
          show okTerm ar t = _
          have hq := endGo_gt ar (t.drop 0) 0 0 q he
          have hq2 := endGo_ge ar (t.drop 0) 1 0 q he
          simp at hq2
          rw [Bool.eq_iff_iff]
          simp only [okTerm, inB, he, Bool.and_eq_true, decide_eq_true_eq, beq_iff_eq, Option.some.injEq]
          omega
        clear hc he
        go_enter Tryd.func46, Tryd.ntmps46
        go_wp2_with fail
        refine (iGoodSign_v _ _ _ _ _ _ HS.out ha (hv.alloc _)).mono ?_; rintro e w' ⟨rfl, hb1⟩
        have hx1 := boxc hb1 0 _ rfl
        go_wp2_with fail
        refine (HC.out _ HS.out ht (by omega) (hv.below hb1.of_alloc) (hu0.below hb1.of_alloc)).mono ?_; rintro e w2 ⟨rfl, hb2⟩
        go_wp2_with fail
        go_ret
        exact ⟨by rw [E.out, E2.out]; rfl, hb1.of_alloc.step hb2⟩
theorem iGoodTerm_v (l h l' h' : Nat) (v u : Value) (ar t : List Int) (b : Bool) (w : World) (he : goodTerm ar t = b) (ha : ar.length ≤ 1048576) (ht : t.length ≤ 1048576) (hv : SlI l h w v ar) (hu : SlI l' h' w u t) :
    Calls Tryd.prog 46 #[.agg #[v], u] w (RetV w (.bool b)) := he ▸ iGoodTerm_c l h l' h' v u ar t w ha ht hv hu

/-- A valid term and an index in it. -/
def askOk (ar t : List Int) (i : Int) : Bool := goodTerm ar t && inB i 0 ((t.length : Int) - 1)
theorem askOk_iff {ar t : List Int} {i : Int} : askOk ar t i = true ↔ goodTerm ar t = true ∧ 0 ≤ i ∧ i < t.length := by
  simp [askOk, inB]; omega

theorem l1Asked_c (l h l' h' : Nat) (v u : Value) (ar t : List Int) (i : Int) (w : World) (ha : ar.length ≤ 1048576) (ht : t.length ≤ 1048576) (hv : SlI l h w v ar) (hu : SlI l' h' w u t) :
    Calls Tryd.prog 78 #[.agg #[v], u, .int .i64 i] w (RetV w (.bool (askOk ar t i))) := by
  have hu0 := hu
  obtain ⟨ad', cap', rfl⟩ := hu.form
  cases hs : goodTerm ar t with
  | false =>
    have E : Hid (askOk ar t i = false) := by show askOk ar t i = false; simp [askOk, hs]
    have HS := Lib.hid hs; clear hs
    go_enter Tryd.func78, Tryd.ntmps78
    go_wp2_with fail
    refine (sGoodTerm_v _ _ _ _ _ _ _ _ _ _ HS.out ha ht (hv.alloc _) (hu0.alloc _)).mono ?_; rintro e w' ⟨rfl, hb1⟩
    go_wp2_with fail
    go_ret
    exact ⟨by rw [E.out]; rfl, hb1.of_alloc⟩
  | true =>
    have E : Hid (askOk ar t i = inB i 0 ((t.length : Int) - 1)) := by show askOk ar t i = _; simp [askOk, hs]
    have HS := Lib.hid hs; clear hs
    have hc := l1In_c i 0 ((t.length : Int) - 1)
    have HC := Lib.hid hc; clear hc
    generalize inB i 0 ((t.length : Int) - 1) = r at *
    cases r
    all_goals
      go_enter Tryd.func78, Tryd.ntmps78
      go_wp2_with fail
      refine (sGoodTerm_v _ _ _ _ _ _ _ _ _ _ HS.out ha ht (hv.alloc _) (hu0.alloc _)).mono ?_; rintro e w' ⟨rfl, hb1⟩
      go_wp2_with fail
      refine (HC.out _).mono ?_; rintro e w2 ⟨rfl, hb2⟩
      go_wp2_with fail
      go_ret
      exact ⟨by rw [E.out]; rfl, hb1.of_alloc.step hb2⟩
theorem l1Asked_v (l h l' h' : Nat) (v u : Value) (ar t : List Int) (i : Int) (b : Bool) (w : World) (he : askOk ar t i = b) (ha : ar.length ≤ 1048576) (ht : t.length ≤ 1048576) (hv : SlI l h w v ar) (hu : SlI l' h' w u t) :
    Calls Tryd.prog 78 #[.agg #[v], u, .int .i64 i] w (RetV w (.bool b)) := he ▸ l1Asked_c l h l' h' v u ar t i w ha ht hv hu

theorem hasIndex_c (l h l' h' : Nat) (v u : Value) (ar t : List Int) (i : Int) (w : World) (ha : ar.length ≤ 1048576) (ht : t.length ≤ 1048576) (hv : SlI l h w v ar) (hu : SlI l' h' w u t) :
    Calls Tryd.prog 59 #[.agg #[v], u, .int .i64 i] w (RetV w (.bool (askOk ar t i))) := by
  have hu0 := hu
  obtain ⟨ad', cap', rfl⟩ := hu.form
  cases hs : goodTerm ar t with
  | false =>
    have E : Hid (askOk ar t i = false) := by show askOk ar t i = false; simp [askOk, hs]
    have HS := Lib.hid hs; clear hs
    go_enter Tryd.func59, Tryd.ntmps59
    go_wp2_with fail
    refine (iGoodTerm_v _ _ _ _ _ _ _ _ _ _ HS.out ha ht (hv.alloc _) (hu0.alloc _)).mono ?_; rintro e w' ⟨rfl, hb1⟩
    go_wp2_with fail
    go_ret
    exact ⟨by rw [E.out]; rfl, hb1.of_alloc⟩
  | true =>
    have HS := Lib.hid hs
    by_cases h1 : 0 ≤ i
    · by_cases h2 : i < t.length
      · have E : Hid (askOk ar t i = true) := by show askOk ar t i = _; rw [askOk_iff]; exact ⟨hs, h1, h2⟩
        have h3 : decide (i ≥ 0) = true := by simpa using h1
        clear hs
        go_enter Tryd.func59, Tryd.ntmps59
        go_wp2_with fail
        refine (iGoodTerm_v _ _ _ _ _ _ _ _ _ _ HS.out ha ht (hv.alloc _) (hu0.alloc _)).mono ?_; rintro e w' ⟨rfl, hb1⟩
        go_wp2_with fail
        go_ret
        exact ⟨by rw [E.out]; rfl, hb1.of_alloc⟩
      · have E : Hid (askOk ar t i = false) := by show askOk ar t i = _; rw [Bool.eq_false_iff]; intro h; exact h2 (askOk_iff.1 h).2.2
        have h4 : decide (i < (t.length : Int)) = false := by simpa using h2
        have h3 : decide (i ≥ 0) = true := by simpa using h1
        clear hs
        go_enter Tryd.func59, Tryd.ntmps59
        go_wp2_with fail
        refine (iGoodTerm_v _ _ _ _ _ _ _ _ _ _ HS.out ha ht (hv.alloc _) (hu0.alloc _)).mono ?_; rintro e w' ⟨rfl, hb1⟩
        go_wp2_with fail
        go_ret
        exact ⟨by rw [E.out]; rfl, hb1.of_alloc⟩
    · have E : Hid (askOk ar t i = false) := by show askOk ar t i = _; rw [Bool.eq_false_iff]; intro h; exact h1 (askOk_iff.1 h).2.1
      have h3 : decide (i ≥ 0) = false := by simp; omega
      clear hs
      go_enter Tryd.func59, Tryd.ntmps59
      go_wp2_with fail
      refine (iGoodTerm_v _ _ _ _ _ _ _ _ _ _ HS.out ha ht (hv.alloc _) (hu0.alloc _)).mono ?_; rintro e w' ⟨rfl, hb1⟩
      go_wp2_with fail
      go_ret
      exact ⟨by rw [E.out]; rfl, hb1.of_alloc⟩
theorem hasIndex_v (l h l' h' : Nat) (v u : Value) (ar t : List Int) (i : Int) (b : Bool) (w : World) (he : askOk ar t i = b) (ha : ar.length ≤ 1048576) (ht : t.length ≤ 1048576) (hv : SlI l h w v ar) (hu : SlI l' h' w u t) :
    Calls Tryd.prog 59 #[.agg #[v], u, .int .i64 i] w (RetV w (.bool b)) := he ▸ hasIndex_c l h l' h' v u ar t i w ha ht hv hu

/-- What EndOf answers. -/
def endN (ar t : List Int) (i : Int) : Int := if askOk ar t i then endI ar t i.toNat else 0
def endAns (ar t : List Int) (i : Int) : Value := .tuple #[.int .i64 (endN ar t i), .bool (askOk ar t i)]
theorem endAns_no {ar t : List Int} {i : Int} (h : askOk ar t i = false) : endAns ar t i = .tuple #[.int .i64 0, .bool false] := by simp [endAns, endN, h]
/-- An index that is asked for: as a natural number, with the end of its subterm. -/
theorem ask_yes {ar t : List Int} {i : Int} (h : askOk ar t i = true) : ∃ k e : Nat, i = k ∧ k < t.length ∧ endOf ar t k = some e ∧ k < e ∧ e ≤ t.length ∧ t.length ≤ 40 ∧ goodSign ar = true ∧ okTerm ar t = true := by
  obtain ⟨h1, h2, h3⟩ := askOk_iff.1 h
  obtain ⟨h4, h5⟩ := goodTerm_iff.1 h1
  obtain ⟨k, rfl⟩ : ∃ k : Nat, i = k := ⟨i.toNat, by omega⟩
  obtain ⟨e, he, hl, hu⟩ := good_end ar t h5 k (by omega)
  exact ⟨k, e, rfl, by omega, he, hl, hu, ((okTerm_iff ar t).1 h5).2.1, h4, h5⟩
theorem endAns_yes {ar t : List Int} {k e : Nat} (h : askOk ar t k = true) (he : endOf ar t k = some e) : endAns ar t k = .tuple #[.int .i64 e, .bool true] := by simp [endAns, endN, h, endI, he]

theorem sGoodSign_t {l h : Nat} {v : Value} {ar : List Int} {w : World} (ha : ar.length ≤ 1048576) (hv : SlI l h w v ar) :
    Calls Tryd.prog 58 #[.agg #[v]] w (RetV w (.bool (goodSign ar))) := sGoodSign_c l h v ar w ha hv
theorem iGoodSign_t {l h : Nat} {v : Value} {ar : List Int} {w : World} (ha : ar.length ≤ 1048576) (hv : SlI l h w v ar) :
    Calls Tryd.prog 69 #[.agg #[v]] w (RetV w (.bool (goodSign ar))) := iGoodSign_c l h v ar w ha hv
theorem sGoodTerm_t {l h l' h' : Nat} {v u : Value} {ar t : List Int} {w : World} (ha : ar.length ≤ 1048576) (hv : SlI l h w v ar) (ht : t.length ≤ 1048576) (hu : SlI l' h' w u t) :
    Calls Tryd.prog 20 #[.agg #[v], u] w (RetV w (.bool (goodTerm ar t))) := sGoodTerm_c l h l' h' v u ar t w ha ht hv hu
theorem iGoodTerm_t {l h l' h' : Nat} {v u : Value} {ar t : List Int} {w : World} (ha : ar.length ≤ 1048576) (hv : SlI l h w v ar) (ht : t.length ≤ 1048576) (hu : SlI l' h' w u t) :
    Calls Tryd.prog 46 #[.agg #[v], u] w (RetV w (.bool (goodTerm ar t))) := iGoodTerm_c l h l' h' v u ar t w ha ht hv hu
end Go.Proofs.YtkbgglejhdodoaaDoor
end
